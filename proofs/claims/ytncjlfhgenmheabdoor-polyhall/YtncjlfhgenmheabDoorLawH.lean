/-
  hasselaw.PolyHall returns true for every order. Conditions: a slice reads as a slice of numbers; the table of the least bits.
-/
import Derived.Test.YtncjlfhgenmheabDoorLawL
namespace Go.Proofs.YtncjlfhgenmheabDoor
open Go.RowKit Go.Maps

/-- Are the first k points all between a and b? -/
def eB (g : Nat → Nat) (a b : Nat) : Nat → Bool
  | 0 => true
  | k + 1 => eB g a b k && (upB g a k && upB g k b)
theorem eB_all {g : Nat → Nat} {a b : Nat} : ∀ k, eB g a b k = true → ∀ c, c < k → upB g a c = true ∧ upB g c b = true
  | 0, _, c, hc => absurd hc (Nat.not_lt_zero _)
  | k + 1, h, c, hc => by
    simp only [eB, Bool.and_eq_true] at h
    by_cases e : c = k
    · rw [e]; exact h.2
    · exact eB_all k h.1 c (by omega)
theorem eB_hall {g : Nat → Nat} {n a b : Nat} (hn : n ≤ 10) (hg : ∀ k, k < n → g k < pw n) (ho : Ord n g) (ha : a < n) (hb : b < n) (h : eB g a b n = true) : zetV g n (-1) = muO g n a b :=
  zet_hall hn hg ho ha hb (fun c hc hne => by
    have h1 := (eB_all n h c hc).1
    have h2 : ¬ a = c := fun e => hne e.symm
    simpa [upB, h2] using h1) (fun c hc hne => by
    have h1 := (eB_all n h c hc).2
    simpa [upB, hne] using h1)
theorem mu_good {len : Nat} {f : Nat → Int} {x y : Nat} {e : Ending} (hc : Chk (len : Int) len f 0) (hx : x < len) (hy : y < len) (h : MuPost len len f x y e) : e = .returned (.tuple #[.int .i64 (wz (muO (nat f) len x y)), .int .i64 0]) := by
  obtain ⟨c, v, hck, rfl, hv⟩ := h
  obtain rfl : c = 0 := hck.unique (.inr ⟨hc, .inr ⟨rfl, by simp [pnt]; omega, by simp [pnt]; omega⟩⟩)
  rcases hv with ⟨h, _⟩ | ⟨_, x', y', hx', hy', _, _, rfl⟩
  · exact absurd rfl h
  · obtain rfl : x' = x := by omega
    obtain rfl : y' = y := by omega
    rfl
set_option maxHeartbeats 4000000 in
theorem polyHall_any (N : Int) (a : Option Addr) (len cap : Nat) (f : Nat → Int) (w : World) (hl : len ≤ maxLen) (hr : Row w a len f) (hT : Tab w) :
    Calls Tryd.prog 5 #[.agg #[.int .i64 N, .slice a len cap]] w fun e w' => e = .returned (.bool true) ∧ Below w.heap.size w w' := by
  have K0 : Held (w.alloc (.cells #[.int .i64 N, .slice a len cap] 24)) w.heap.size N a len cap f := Held.box hr
  have HB0 : Hid (Below w.heap.size w (w.alloc (.cells #[.int .i64 N, .slice a len cap] 24))) := (Below.refl _ _).alloc (Nat.le_refl _) _
  have HT : Hid (Tab w) := hT
  clear hr hT
  go_enter Tryd.func5, Tryd.ntmps5
  go_wp2_with fail
  refine (polyBegun_any _ (HT.out.step HB0.out)).mono ?_
  rintro e w1 ⟨rfl, hb⟩
  have K1 := K0.step hb
  have k0 := K1.c0
  have k1 := K1.c1
  have HB1 : Hid (Below w.heap.size w w1) := Below.then HB0.out hb
  clear hb K0 HB0
  go_wp2_with fail
  refine (zeta_any N a len cap f (-1) _ hl K1.row).mono ?_
  rintro e w2 ⟨⟨c, v, hc, rfl, he⟩, hb2⟩
  have K2 := K1.step hb2
  have HB2 : Hid (Below w.heap.size w w2) := Below.then HB1.out hb2
  have HC : Hid (StCk N len f (-1) (-20) c) := hc
  clear hb2 hc K1 k0 k1 HB1
  rcases he with ⟨h0, rfl⟩ | ⟨rfl, rfl⟩
  · have hne2 : (c != 0) = true := by simpa using h0
    go_wp2_with fail
    go_ret
    exact ⟨rfl, HB2.out⟩
  · obtain ⟨hck, _, _⟩ := HC.out.good
    obtain ⟨rfl, h10, hrng, hord⟩ := hck.good
    have HK : Hid (∀ W, Below w2.heap.size w2 W → Held W w.heap.size len a len cap f) := fun W hW => K2.step hW
    have HRW : Hid (∀ W, Below w2.heap.size w2 W → Row W a len (fun k => (nat f k : Nat))) := fun W hW => hrng.row (K2.step hW).row
    have HG : Hid (∀ k, k < len → nat f k < 1024) := hrng.small2 h10
    have HE : Hid (∀ x y, x < len → y < len → eB (nat f) x y len = true → wz (zetV (nat f) len (-1)) = wz (muO (nat f) len x y)) := fun x y hx hy h => by rw [eB_hall h10 hrng.small hord hx hy h]
    have HMU : Hid (∀ W, Below w2.heap.size w2 W → ∀ x y : Nat, x < len → y < len → Calls Tryd.prog 12 #[.agg #[.int .i64 (len : Int), .slice a len cap], .int .i64 (x : Int), .int .i64 (y : Int)] W fun e w' => e = .returned (.tuple #[.int .i64 (wz (muO (nat f) len x y)), .int .i64 0]) ∧ Below W.heap.size W w') := fun W hW x y hx hy =>
      (muX_any len a len cap f x y W hl (K2.step hW).row).mono fun e w' h => ⟨mu_good hck hx hy h.1, h.2⟩
    have HL : Hid (len ≤ maxLen) := hl
    clear hck hrng hord K2 hl
    obtain ⟨g, HGF⟩ : ∃ g, Hid (nat f = g) := ⟨_, rfl⟩
    rw [HGF.out] at HRW HG HE HMU ⊢
    generalize wz (zetV g len (-1)) = Z at *
    go_wp2_with fail
    go_loopw [5] (fun x wx => ∃ i : Nat, i ≤ len ∧ x = .int .i64 (i : Nat) ∧ Hid (Below w2.heap.size w2 wx)) (fun x _ => len - (intOf x).toNat)
    case atStart => exact ⟨0, Nat.zero_le _, rfl, Below.refl _ _⟩
    case round =>
      obtain ⟨i, hi, rfl, HB⟩ := hrel
      have c0 := (HK.out wr HB.out).c0
      by_cases hil : i < len
      · have hiI : (i : Int) < (len : Int) := by omega
        go_wp2_with fail
        clear c0
        go_loopw [6] (fun x wx => ∃ j : Nat, j ≤ len ∧ x = .int .i64 (j : Nat) ∧ Hid (Below w2.heap.size w2 wx)) (fun x _ => len - (intOf x).toNat)
        case atStart => exact ⟨0, Nat.zero_le _, rfl, HB.out⟩
        case round =>
          clear HB
          obtain ⟨j, hj, rfl, HB⟩ := hrel
          have c0 := (HK.out wr HB.out).c0
          by_cases hjl : j < len
          · have hjI : (j : Int) < (len : Int) := by omega
            go_wp2_with fail
            clear c0
            go_loopw [7, 8] (fun e x wx => ∃ k : Nat, k ≤ len ∧ x = .int .i64 (k : Nat) ∧ e = .bool (eB g i j k) ∧ Hid (Below w2.heap.size w2 wx)) (fun _ x _ => len - (intOf x).toNat)
            case atStart => exact ⟨0, Nat.zero_le _, rfl, rfl, HB.out⟩
            case round =>
              clear HB
              obtain ⟨k, hk, rfl, rfl, HB⟩ := hrel
              have c0 := (HK.out wr HB.out).c0
              have c1 := (HK.out wr HB.out).c1
              by_cases hkl : k < len
              · have hkI : (k : Int) < (len : Int) := by omega
                have HES : Hid (eB g i j (k + 1) = (eB g i j k && (upB g i k && upB g k j))) := rfl
                rcases (Bool.eq_false_or_eq_true (eB g i j k)).symm with he | he
                · rw [he] at HES ⊢
                  go_wp2_with fail
                  go_roundw
                  case rel => exact ⟨k + 1, by omega, by go_num, by rw [HES.out]; rfl, HB.out⟩
                  case measure => simp [intOf]; omega
                · rw [he] at HES ⊢
                  rcases (Bool.eq_false_or_eq_true (upB g i k)).symm with h1 | h1
                  · rw [h1] at HES
                    have H1 : Hid (upB g i k = false) := h1
                    clear h1 he
                    go_wp2_with fail
                    refine (upto_any len a len cap g i k _ false H1.out h10 HG.out (HRW.out _ HB.out) (by omega) hkl).mono ?_
                    rintro e w6 ⟨rfl, hb6⟩
                    have HW6 : Hid (Below w2.heap.size w2 w6) := Below.then HB.out hb6
                    clear hb6 HB c0 c1
                    go_wp2_with fail
                    go_roundw
                    case rel => exact ⟨k + 1, by omega, by go_num, by rw [HES.out]; rfl, HW6.out⟩
                    case measure => simp [intOf]; omega
                  · rw [h1] at HES
                    have H1 : Hid (upB g i k = true) := h1
                    clear h1 he
                    go_wp2_with fail
                    refine (upto_any len a len cap g i k _ true H1.out h10 HG.out (HRW.out _ HB.out) (by omega) hkl).mono ?_
                    rintro e w6 ⟨rfl, hb6⟩
                    have HW6 : Hid (Below w2.heap.size w2 w6) := Below.then HB.out hb6
                    have d0 := (HK.out w6 HW6.out).c0
                    have d1 := (HK.out w6 HW6.out).c1
                    clear hb6 HB c0 c1
                    obtain ⟨u, H2⟩ : ∃ u, Hid (upB g k j = u) := ⟨_, rfl⟩
                    rw [H2.out] at HES
                    go_wp2_with fail
                    refine (upto_any len a len cap g k j _ u H2.out h10 HG.out (HRW.out _ HW6.out) (by omega) hjl).mono ?_
                    rintro e w7 ⟨rfl, hb7⟩
                    have HW7 : Hid (Below w2.heap.size w2 w7) := Below.then HW6.out hb7
                    clear hb7 HW6 d0 d1
                    go_wp2_with fail
                    go_roundw
                    case rel => exact ⟨k + 1, by omega, by go_num, by rw [HES.out]; rfl, HW7.out⟩
                    case measure => simp [intOf]; omega
              · have hge : (len : Int) ≤ (k : Int) := by omega
                rcases (Bool.eq_false_or_eq_true (eB g i j k)).symm with he | he
                · rw [he]
                  go_wp2_with fail
                  go_roundw
                  case rel => exact ⟨j + 1, by omega, by go_num, HB.out⟩
                  case measure => simp [intOf]; omega
                · have HZ : Hid (Z = wz (muO g len i j)) := HE.out i j hil hjl (by rw [← show k = len by omega]; exact he)
                  rw [he]
                  have HC2 := HMU.out wr HB.out i j hil hjl
                  clear he
                  go_wp2_with fail
                  refine HC2.mono ?_
                  rintro e w6 ⟨rfl, hb6⟩
                  have HW6 : Hid (Below w2.heap.size w2 w6) := Below.then HB.out hb6
                  clear hb6 HB c0 c1 HC2
                  rw [← HZ.out]
                  have hzz : (Z != Z) = false := by simp
                  go_wp2_with fail
                  go_roundw
                  case rel => exact ⟨j + 1, by omega, by go_num, HW6.out⟩
                  case measure => simp [intOf]; omega
          · have hge : (len : Int) ≤ (j : Int) := by omega
            go_wp2_with fail
            go_roundw
            case rel => exact ⟨i + 1, by omega, by go_num, HB.out⟩
            case measure => simp [intOf]; omega
      · have hge : (len : Int) ≤ (i : Int) := by omega
        go_wp2_with fail
        go_ret
        exact ⟨rfl, Below.then HB2.out HB.out⟩
end Go.Proofs.YtncjlfhgenmheabDoor
