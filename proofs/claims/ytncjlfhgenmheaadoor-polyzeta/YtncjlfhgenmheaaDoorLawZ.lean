/-
  What the reference's ZetaOf answers; hasselaw.PolyZeta returns true for every order and number. Conditions: a slice reads as a slice of numbers; the table of the least bits.
-/
import Derived.Test.YtncjlfhgenmheaaDoorLawO
import Derived.Test.YtncjlfhgenmheaaDoorRefChains
namespace Go.Proofs.YtncjlfhgenmheaaDoor
open Go.RowKit Go.Maps

set_option maxHeartbeats 2000000 in
theorem zetaOf_any (len : Nat) (a : Option Addr) (cap : Nat) (g : Nat → Nat) (n : Int) (w : World) (h10 : len ≤ 10) (hn1 : -20 ≤ n) (hn2 : n ≤ 20) (hg : ∀ k, k < len → g k < pw len) (ho : Ord len g) (hr : Row w a len (fun k => (g k : Nat))) :
    Calls Tryd.prog 21 #[.agg #[.int .i64 (len : Int), .slice a len cap], .int .i64 n] w fun e w' => e = .returned (.int .i64 (wz (zetV g len n))) ∧ Below w.heap.size w w' := by
  have K0 : Held (w.alloc (.cells #[.int .i64 (len : Int), .slice a len cap] 24)) w.heap.size len a len cap (fun k => (g k : Nat)) := Held.box hr
  have HB0 : Hid (Below w.heap.size w (w.alloc (.cells #[.int .i64 (len : Int), .slice a len cap] 24))) := (Below.refl _ _).alloc (Nat.le_refl _) _
  obtain ⟨T, HTL⟩ : ∃ T, Hid ((chs g len).length = T + 1) := ⟨_, chs_len⟩
  have hT : T ≤ 10 := by
    have h1 := HTL.out
    rw [chs_len] at h1
    have := tops_upto h10 hg ho
    omega
  have HS : Hid (∀ i, nth (chs g len) (i + 1) ≤ 10240) := fun i => by
    by_cases h : i < tops g len
    · rw [chs_next h]; exact tot_small h10 hg ho i
    · have h2 : (chs g len).length ≤ i + 1 := by rw [chs_len]; omega
      show nth _ _ ≤ _
      unfold nth
      rw [List.getD_eq_getElem?_getD, List.getElem?_eq_none h2]; simp
  have HV : Hid (zetV g len n = adB (fun k => ((nth (chs g len) (k + 1) : Nat) : Int)) (n - 2) T) := by
    show _ = _
    unfold zetV; rw [HTL.out, Nat.add_sub_cancel]
  have HG : Hid (∀ k, k < len → g k < 1024) := fun k hk => Nat.lt_of_lt_of_le (hg k hk) (pw_le len h10)
  have HGP : Hid (∀ k, k < len → g k < pw len) := hg
  have HO : Hid (Ord len g) := ho
  rw [HV.out]
  clear hr hg ho HV
  go_enter Tryd.func21, Tryd.ntmps21
  go_wp2_with fail
  refine (refChains_any a len cap g _ h10 HGP.out HO.out K0.row).mono ?_
  rintro e w1 ⟨⟨v, rfl, hv⟩, hb⟩
  have HB1 : Hid (Below w.heap.size w w1) := Below.then HB0.out hb
  obtain ⟨av, cv, rfl, hrv⟩ := hv
  rw [HTL.out] at hrv ⊢
  have HR : Hid (Row w1 av (T + 1) (fun k => (nth (chs g len) k : Nat))) := hrv
  clear hb K0 HB0 hrv HTL
  obtain ⟨F, HF⟩ : ∃ F : Nat → Int, Hid (F = fun k => ((nth (chs g len) (k + 1) : Nat) : Int)) := ⟨_, rfl⟩
  go_wp2_with fail
  go_loopw [6, 7] (fun x i wx => ∃ j : Nat, j ≤ T ∧ i = .int .i64 ((j : Nat) + 1 : Int) ∧ x = .int .i64 (wz (adB F (n - 2) j)) ∧ Hid (Below w1.heap.size w1 wx)) (fun _ i _ => T + 1 - (intOf i).toNat)
  case atStart => exact ⟨0, Nat.zero_le _, rfl, by simp [adB, sumI, wz], Below.refl _ _⟩
  case round =>
    obtain ⟨j, hj, rfl, rfl, HW⟩ := hrel
    by_cases hjk : j < T
    · obtain ⟨b', off', rfl, hcc⟩ := (HR.out.below HW.out).at (k := j + 1) (by omega)
      have hck := hcc (j + 1) (by omega)
      have hlr : (j : Int) + 1 < ((T + 1 : Nat) : Int) := by omega
      have hsm := HS.out j
      have HY : Hid (wrap64 (wz (adB F (n - 2) j) + wrap64 (((nth (chs g len) (j + 1) : Nat) : Int) * bn (n - 2) j)) = wz (adB F (n - 2) (j + 1))) := by
        show _ = _
        have e := ad_step F (n - 2) j
        have e1 : F j = ((nth (chs g len) (j + 1) : Nat) : Int) := by rw [HF.out]
        rw [e1, wz_small (x := ((nth (chs g len) (j + 1) : Nat) : Int)) (by omega) (by omega)] at e
        exact e
      clear hcc
      generalize nth (chs g len) (j + 1) = Y at *
      generalize wz (adB F (n - 2) j) = X at *
      generalize hZ : wz (adB F (n - 2) (j + 1)) = Z at *
      have HZ : Hid (wz (adB F (n - 2) (j + 1)) = Z) := hZ
      clear hZ
      go_wp2_with fail
      go_big_quiet (first | (go_at_call 16; exact Calls.quiet_of_same (refBin_quiet _ (by omega) (by omega) j (by omega) _)))
      have HW7 : Hid (Below w1.heap.size w1 (wr.drewN nq)) := below_drewN HW.out _
      clear HW hck
      generalize wr.drewN nq = W3 at *
      go_wp2_with fail
      go_roundw
      case rel => exact ⟨j + 1, by omega, by go_num, by rw [HZ.out, ← HY.out], HW7.out⟩
      case measure => simp [intOf]; omega
    · have hge : ((T + 1 : Nat) : Int) ≤ (j : Int) + 1 := by omega
      have HB4 : Hid (Below w.heap.size w wr) := Below.then HB1.out HW.out
      have HE : Hid (wz (adB F (n - 2) j) = wz (adB F (n - 2) T)) := by
        show _ = _
        rw [show j = T by omega]
      rw [HE.out]
      clear HW
      go_wp2_with fail
      go_ret
      exact ⟨by have h := HF.out; subst h; rfl, HB4.out⟩

set_option maxHeartbeats 2000000 in
theorem polyZeta_any (N : Int) (a : Option Addr) (len cap : Nat) (f : Nat → Int) (n : Int) (w : World) (hl : len ≤ maxLen) (hr : Row w a len f) (hT : Tab w) :
    Calls Tryd.prog 6 #[.agg #[.int .i64 N, .slice a len cap], .int .i64 n] w fun e w' => e = .returned (.bool true) ∧ Below w.heap.size w w' := by
  have K0 : Held (w.alloc (.cells #[.int .i64 N, .slice a len cap] 24)) w.heap.size N a len cap f := Held.box hr
  have HB0 : Hid (Below w.heap.size w (w.alloc (.cells #[.int .i64 N, .slice a len cap] 24))) := (Below.refl _ _).alloc (Nat.le_refl _) _
  have HT : Hid (Tab w) := hT
  clear hr hT
  go_enter Tryd.func6, Tryd.ntmps6
  go_wp2_with fail
  refine (zeta_any N a len cap f n _ hl K0.row).mono ?_
  rintro e w1 ⟨⟨c, v, hc, rfl, he⟩, hb⟩
  have K1 := K0.step hb
  have k0 := K1.c0
  have k1 := K1.c1
  have HB1 : Hid (Below w.heap.size w w1) := Below.then HB0.out hb
  have HC : Hid (StCk N len f n (-20) c) := hc
  clear hb K0 HB0 hc
  rcases he with ⟨h0, rfl⟩ | ⟨rfl, rfl⟩
  · have hne2 : (c == 0) = false := by simpa using h0
    go_wp2_with fail
    refine (steps_any N a len cap f n (-20) _ hl K1.row).mono ?_
    rintro e w2 ⟨⟨c', rfl, hc'⟩, hb2⟩
    obtain rfl := StCk.unique hc' HC.out
    have HB2 : Hid (Below w.heap.size w w2) := Below.then HB1.out hb2
    clear hb2 HB1 K1 k0 k1 hc'
    go_wp2_with fail
    refine (polyBegun_any _ (HT.out.step HB2.out)).mono ?_
    rintro e w3 ⟨rfl, hb3⟩
    have HB3 : Hid (Below w.heap.size w w3) := Below.then HB2.out hb3
    clear hb3 HB2
    go_wp2_with fail
    refine (numberIs_any c' 0 0 _ (.inl ⟨h0, rfl⟩)).mono ?_
    rintro e w4 ⟨rfl, rfl⟩
    go_wp2_with fail
    go_ret
    exact ⟨rfl, HB3.out⟩
  · obtain ⟨hck, hn1, hn2⟩ := HC.out.good
    obtain ⟨rfl, h10, hrng, hord⟩ := hck.good
    go_wp2_with fail
    refine (steps_any len a len cap f n (-20) _ hl K1.row).mono ?_
    rintro e w2 ⟨⟨c', rfl, hc'⟩, hb2⟩
    obtain rfl := StCk.unique hc' HC.out
    have HB2 : Hid (Below w.heap.size w w2) := Below.then HB1.out hb2
    have K2 := K1.step hb2
    have m0 := K2.c0
    have m1 := K2.c1
    clear hb2 HB1 k0 k1 hc' K1
    go_wp2_with fail
    refine (zetaOf_any len a cap (nat f) n _ h10 hn1 hn2 hrng.small hord (hrng.row K2.row)).mono ?_
    rintro e w3 ⟨rfl, hb3⟩
    have HB3 : Hid (Below w.heap.size w w3) := Below.then HB2.out hb3
    clear hb3 HB2 K2 m0 m1 hck hrng hord
    generalize wz (zetV (nat f) len n) = X at *
    go_wp2_with fail
    refine (polyBegun_any _ (HT.out.step HB3.out)).mono ?_
    rintro e w5 ⟨rfl, hb5⟩
    have HB5 : Hid (Below w.heap.size w w5) := Below.then HB3.out hb5
    clear hb5 HB3
    go_wp2_with fail
    refine (numberIs_any 0 X X _ (.inr ⟨rfl, rfl⟩)).mono ?_
    rintro e w6 ⟨rfl, rfl⟩
    go_wp2_with fail
    go_ret
    exact ⟨rfl, HB5.out⟩
end Go.Proofs.YtncjlfhgenmheaaDoor
