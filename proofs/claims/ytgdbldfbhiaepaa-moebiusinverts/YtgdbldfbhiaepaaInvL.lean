/-
  For every order and numbers that are handed in, hasselaw.MoebiusInverts returns true, and writes nothing that was there. No condition.
-/
import Derived.Test.YtgdbldfbhiaepaaMoeL
import Derived.Test.YtgdbldfbhiaepaaMuL
namespace Go.Proofs.Ytgdbldfbhiaepaa
open Go.RowKit Go.Maps

theorem sumI_abs {F : Nat → Int} {M : Int} : ∀ n : Nat, (∀ k, k < n → -M ≤ F k ∧ F k ≤ M) → -(n * M) ≤ sumI F n ∧ sumI F n ≤ n * M
  | 0, _ => by simp [sumI]
  | n + 1, h => by
    have h1 := sumI_abs n fun k hk => h k (by omega)
    have h2 := h n (by omega)
    have e : ((n + 1 : Nat) : Int) * M = n * M + M := by rw [Int.natCast_add, Int.add_mul]; simp
    rw [sumI, e]; omega
theorem smF_abs {g : Nat → Nat} {F : Nat → Int} {n u k : Nat} (hi : ∀ k, k < n → inR (F k)) (hk : k < n) : -1000000 ≤ smF g F u k ∧ smF g F u k ≤ 1000000 := by
  unfold smF
  split
  · exact hi k hk
  · omega
theorem smI_is {g : Nat → Nat} {F : Nat → Int} {n : Nat} (h10 : n ≤ 10) (hi : ∀ k, k < n → inR (F k)) (u : Nat) : smI g F n u = sumI (smF g F u) n := by
  have h := sumI_abs (F := smF g F u) (M := 1000000) n fun k hk => smF_abs (g := g) (u := u) hi hk
  unfold smI
  exact wz_small (by omega) (by omega)
theorem sm_split {g : Nat → Nat} {F : Nat → Int} {n : Nat} {r : Nat → Nat} (hr : Rk (blw g) n r) {u : Nat} (hu : u < n) : sumI (smF g F u) n = F u + sumI (fun l => if blw g l u = true then F l else 0) n := by
  rw [← zt_split hr hu F]
  refine sumI_congr n fun l _ => ?_
  unfold smF zt
  split
  · exact (Int.mul_one _).symm
  · exact (Int.mul_zero _).symm
theorem un_sm {g : Nat → Nat} {F : Nat → Int} {n : Nat} (h10 : n ≤ 10) (hg : ∀ k, k < n → g k < pw n) (ho : Ord n g) (hi : ∀ k, k < n → inR (F k)) {x : Nat} (hx : x < n) : unI g (smI g F n) n x = F x := by
  have hr := rk_ord h10 hg ho
  have e : F x = Uo (blw g) (smI g F n) n (ht g n) x := Uo_one hr (V := F) (s := smI g F n) (fun y hy => by rw [smI_is h10 hi, sm_split hr hy]; omega) (ht g n x + 1) x hx (by omega)
  unfold unI
  rw [← e]
  exact wz_small (by have := (hi x hx).1; omega) (by have := (hi x hx).2; omega)

set_option maxHeartbeats 4000000 in
theorem moebiusInverts_any (n : Int) (a : Option Addr) (len cap : Nat) (f : Nat → Int) (a' : Option Addr) (la cap' : Nat) (F : Nat → Int) (w : World) (hl : len ≤ maxLen) (hla : la ≤ maxLen) (hr : Row w a len f) (hr' : Row w a' la F) :
    Calls Try.prog 8 #[.agg #[.int .i64 n, .slice a len cap], .slice a' la cap'] w fun e w' => e = .returned (.bool true) ∧ Below w.heap.size w w' := by
  have K0 : Held (w.alloc (.cells #[.int .i64 n, .slice a len cap] 24)) w.heap.size n a len cap f := Held.box hr
  have HB0 : Hid (Below w.heap.size w (w.alloc (.cells #[.int .i64 n, .slice a len cap] 24))) := (Below.refl _ _).alloc (Nat.le_refl _) _
  have HR : Hid (Row w a' la F) := hr'
  have HL : Hid (len ≤ maxLen) := hl
  have HLA : Hid (la ≤ maxLen) := hla
  clear hr hr' hl hla
  obtain ⟨W0, HW0⟩ : ∃ W0, Hid (W0 = w.alloc (.cells #[.int .i64 n, .slice a len cap] 24)) := ⟨_, rfl⟩
  rw [← HW0.out] at K0 HB0
  have HR0 : Hid (Row W0 a' la F) := HR.out.below HB0.out
  clear HR
  go_enter Try.func8, Try.ntmps8
  go_wp2_with fail
  rw [← HW0.out]
  refine (moebiusBegun_any _).mono ?_
  rintro e w0 ⟨rfl, hb0⟩
  have HBW0 : Hid (Below W0.heap.size W0 w0) := hb0
  have k0 := (K0.step hb0).c0
  have k1 := (K0.step hb0).c1
  clear hb0 HW0
  go_wp2_with fail
  refine (sums_any n a len cap f a' la cap' F _ HL.out HLA.out (K0.step HBW0.out).row (HR0.out.below HBW0.out)).mono ?_
  rintro e w1 ⟨⟨c, v, hc, rfl, he⟩, hb⟩
  have HB1 : Hid (Below W0.heap.size W0 w1) := Below.then HBW0.out hb
  have HC : Hid (SmCk n len f la F c) := hc
  clear hb hc HBW0 k0 k1
  rcases he with ⟨h0, rfl⟩ | ⟨rfl, hp⟩
  · have hne : (c != 0) = true := by simpa using h0
    go_wp2_with fail
    go_ret
    exact ⟨rfl, Below.then HB0.out HB1.out⟩
  · obtain ⟨hck, rfl, hin⟩ := HC.out.good
    obtain ⟨rfl, h10, hrng, hord⟩ := hck.good
    have HG : Hid (∀ k, k < la → nat f k < pw la) := hrng.small
    have HO : Hid (Ord la (nat f)) := hord
    have HI : Hid (∀ k, k < la → inR (F k)) := hin
    have HCK : Hid (Chk (la : Int) la f 0) := hck
    obtain ⟨a1, cap1, rfl, hr1⟩ := hp
    have HR1 : Hid (Row w1 a1 la (smI (nat f) F la)) := hr1
    clear hck hin hrng hord hr1
    have k0 := (K0.step HB1.out).c0
    have k1 := (K0.step HB1.out).c1
    go_wp2_with fail
    refine (undoX_any la a la cap f a1 la cap1 (smI (nat f) F la) _ HL.out HL.out (K0.step HB1.out).row HR1.out).mono ?_
    rintro e w2 ⟨⟨c2, v2, hc2, rfl, he2⟩, hb2⟩
    have HB2 : Hid (Below W0.heap.size W0 w2) := Below.then HB1.out hb2
    have HE2 : Hid (c2 = 3 ∨ (c2 = 0 ∧ ISl w2 v2 la F)) := by
      rcases he2 with ⟨h0, rfl⟩ | ⟨h0, h⟩
      · left
        rcases hc2 with ⟨h1, h2⟩ | ⟨_, ⟨_, h3⟩ | ⟨_, ⟨h4, _⟩ | ⟨h4, _⟩⟩⟩
        · exact absurd (h2.unique HCK.out) h1
        · exact absurd rfl h3
        · exact h4
        · exact absurd h4 h0
      · right
        obtain ⟨aa, cc, e1, hr⟩ := h
        exact ⟨h0, aa, cc, e1, hr.congr fun k hk => un_sm h10 HG.out HO.out HI.out hk⟩
    clear hb2 he2 hc2 HB1 k0 k1 HR1
    have HSEC : Hid (∀ wx, Below W0.heap.size W0 wx → Calls Try.prog 21 #[.agg #[.int .i64 (la : Nat), .slice a la cap], .slice a' la cap'] wx fun e w' => (∃ v, e = .returned (.tuple #[v, .int .i64 0]) ∧ ISl w' v la (unI (nat f) F la)) ∧ Below wx.heap.size wx w') := fun wx h =>
      (undoX_any la a la cap f a' la cap' F wx HL.out HL.out (K0.step h).row (HR0.out.below h)).mono fun e w' ⟨⟨c, v, hc, e1, hv⟩, hb⟩ => by
        obtain rfl := hc.unique HC.out
        rcases hv with ⟨h, _⟩ | ⟨_, hv⟩
        · exact absurd rfl h
        · exact ⟨⟨v, e1, hv⟩, hb⟩
    have HMU : Hid (∀ (x y : Nat) wx, x < la → y < la → Below W0.heap.size W0 wx → Calls Try.prog 9 #[.agg #[.int .i64 (la : Nat), .slice a la cap], .int .i64 (x : Nat), .int .i64 (y : Nat)] wx fun e w' => e = .returned (.tuple #[.int .i64 (wz (muO (nat f) la x y)), .int .i64 0]) ∧ Below wx.heap.size wx w') := fun x y wx hx hy h =>
      (muX_any la a la cap f x y wx HL.out (K0.step h).row).mono fun e w' ⟨he, hb⟩ => ⟨he.ok (.inr ⟨HCK.out, .inr ⟨rfl, by unfold pnt; simp; omega, by unfold pnt; simp; omega⟩⟩), hb⟩
    have HUN : Hid (∀ i, i < la → unI (nat f) F la i = wz (unT (nat f) F la i la)) := fun i hi => by
      show wz _ = wz _
      rw [undo_mu (rk_ord h10 HG.out HO.out) F hi]; rfl
    have HRF : Hid (Row W0 a' la (fun k => wz (F k))) := inR_row HR0.out HI.out
    have HREST : Hid (∀ wx, Below W0.heap.size W0 wx → wx.cell? ⟨w.heap.size, 0, none⟩ = some (.int .i64 (la : Nat)) ∧ wx.cell? ⟨w.heap.size, 1, none⟩ = some (.slice a la cap)) := fun wx h => ⟨(K0.step h).c0, (K0.step h).c1⟩
    have j0 := (HREST.out w2 HB2.out).1
    have j1 := (HREST.out w2 HB2.out).2
    rcases HE2.out with rfl | ⟨rfl, a2, cap2, rfl, hr2⟩
    · have HB3 := HB2
      clear HE2 HB2
      go_wp2_with fail
      clear j0 j1
      refine (HSEC.out _ HB3.out).mono ?_
      rintro e w4 ⟨⟨v4, rfl, hv4⟩, hb4⟩
      obtain ⟨a4, cap4, rfl, hr4⟩ := hv4
      have HB4 : Hid (Below W0.heap.size W0 w4) := Below.then HB3.out hb4
      have HR4 : Hid (Row w4 a4 la (unI (nat f) F la)) := hr4
      have j0 := (HREST.out w4 HB4.out).1
      clear hb4 hr4 HB3 HSEC
      go_wp2_with fail
      clear j0
      go_loopw [10] (fun x wx => ∃ i : Nat, i ≤ la ∧ x = .int .i64 i ∧ Hid (Below w4.heap.size w4 wx)) (fun x _ => la - (intOf x).toNat)
      case atStart => exact ⟨0, Nat.zero_le _, rfl, Below.refl _ _⟩
      case round =>
        obtain ⟨i, hi, rfl, HW⟩ := hrel
        have j0 := (HREST.out wr (Below.then HB4.out HW.out)).1
        by_cases hil : i < la
        · have hlr : (i : Int) < (la : Int) := by omega
          go_wp2_with fail
          clear j0
          go_loopw [11, 12] (fun v x wx => ∃ k : Nat, k ≤ la ∧ x = .int .i64 k ∧ v = .int .i64 (wz (unT (nat f) F la i k)) ∧ Hid (Below w4.heap.size w4 wx)) (fun _ x _ => la - (intOf x).toNat)
          case atStart => exact ⟨0, Nat.zero_le _, rfl, by simp [unT, sumI, wz], HW⟩
          case round =>
            clear HW
            obtain ⟨k, hk, rfl, rfl, HW⟩ := hrel
            have hj := HREST.out wr (Below.then HB4.out HW.out)
            have j0 := hj.1
            have j1 := hj.2
            clear hj
            by_cases hkl : k < la
            · have hlk : (k : Int) < (la : Int) := by omega
              go_wp2_with fail
              refine (HMU.out k i _ hkl hil (Below.then HB4.out HW.out)).mono ?_
              rintro e w5 ⟨rfl, hb5⟩
              have HW5 : Hid (Below w4.heap.size w4 w5) := Below.then HW.out hb5
              obtain ⟨bf, off, rfl, hcc⟩ := (HRF.out.below (Below.then HB4.out HW5.out)).at hkl
              have hck := hcc k hkl
              have HY : Hid (wrap64 (wz (unT (nat f) F la i k) + wrap64 (wz (muO (nat f) la k i) * wz (F k))) = wz (unT (nat f) F la i (k + 1))) := by
                show _ = _
                rw [wz_mul, wz_add]; rfl
              clear hb5 HW j0 j1 hcc
              generalize wz (unT (nat f) F la i k) = X at *
              generalize wz (muO (nat f) la k i) = M at *
              generalize wz (F k) = Y at *
              obtain ⟨Z, HZ⟩ : ∃ Z, Hid (wrap64 (M * Y) = Z) := ⟨_, rfl⟩
              rw [HZ.out] at HY
              have hz : wrap64 (M * Y) = Z := HZ.out
              have hy : wrap64 (X + Z) = wz (unT (nat f) F la i (k + 1)) := HY.out
              go_wp2_with fail
              go_roundw
              case rel => exact ⟨k + 1, by omega, by go_num, by rw [hy], HW5⟩
              case measure => simp [intOf]; omega
            · obtain rfl : k = la := by omega
              obtain ⟨bf, off, rfl, hcc⟩ := (HR4.out.below HW.out).at hil
              have hck := hcc i hil
              rw [HUN.out i hil] at hck
              clear hcc j1
              generalize wz (unT (nat f) F k i k) = X at *
              have hxx : (X != X) = false := by simp
              go_wp2_with fail
              go_roundw
              case rel => exact ⟨i + 1, by omega, by go_num, HW⟩
              case measure => simp [intOf]; omega
        · obtain rfl : i = la := by omega
          go_wp2_with fail
          go_ret
          exact ⟨rfl, Below.then HB0.out (Below.then HB4.out HW.out)⟩
    · clear HE2
      have HR2 : Hid (Row w2 a2 la F) := hr2
      clear hr2
      go_wp2_with fail
      refine (same_any a2 a' la cap2 la cap' F F _ HL.out HL.out HR2.out (HR0.out.below HB2.out)).mono ?_
      rintro e w3 ⟨⟨q, rfl, hq⟩, hb3⟩
      obtain rfl : q = true := hq.2 ⟨rfl, fun _ _ => rfl⟩
      have HB3 : Hid (Below W0.heap.size W0 w3) := Below.then HB2.out hb3
      clear hq hb3 HB2 HR2 j0 j1
      have j0 := (HREST.out w3 HB3.out).1
      have j1 := (HREST.out w3 HB3.out).2
      go_wp2_with fail
      clear j0 j1
      refine (HSEC.out _ HB3.out).mono ?_
      rintro e w4 ⟨⟨v4, rfl, hv4⟩, hb4⟩
      obtain ⟨a4, cap4, rfl, hr4⟩ := hv4
      have HB4 : Hid (Below W0.heap.size W0 w4) := Below.then HB3.out hb4
      have HR4 : Hid (Row w4 a4 la (unI (nat f) F la)) := hr4
      have j0 := (HREST.out w4 HB4.out).1
      clear hb4 hr4 HB3 HSEC
      go_wp2_with fail
      clear j0
      go_loopw [10] (fun x wx => ∃ i : Nat, i ≤ la ∧ x = .int .i64 i ∧ Hid (Below w4.heap.size w4 wx)) (fun x _ => la - (intOf x).toNat)
      case atStart => exact ⟨0, Nat.zero_le _, rfl, Below.refl _ _⟩
      case round =>
        obtain ⟨i, hi, rfl, HW⟩ := hrel
        have j0 := (HREST.out wr (Below.then HB4.out HW.out)).1
        by_cases hil : i < la
        · have hlr : (i : Int) < (la : Int) := by omega
          go_wp2_with fail
          clear j0
          go_loopw [11, 12] (fun v x wx => ∃ k : Nat, k ≤ la ∧ x = .int .i64 k ∧ v = .int .i64 (wz (unT (nat f) F la i k)) ∧ Hid (Below w4.heap.size w4 wx)) (fun _ x _ => la - (intOf x).toNat)
          case atStart => exact ⟨0, Nat.zero_le _, rfl, by simp [unT, sumI, wz], HW⟩
          case round =>
            clear HW
            obtain ⟨k, hk, rfl, rfl, HW⟩ := hrel
            have hj := HREST.out wr (Below.then HB4.out HW.out)
            have j0 := hj.1
            have j1 := hj.2
            clear hj
            by_cases hkl : k < la
            · have hlk : (k : Int) < (la : Int) := by omega
              go_wp2_with fail
              refine (HMU.out k i _ hkl hil (Below.then HB4.out HW.out)).mono ?_
              rintro e w5 ⟨rfl, hb5⟩
              have HW5 : Hid (Below w4.heap.size w4 w5) := Below.then HW.out hb5
              obtain ⟨bf, off, rfl, hcc⟩ := (HRF.out.below (Below.then HB4.out HW5.out)).at hkl
              have hck := hcc k hkl
              have HY : Hid (wrap64 (wz (unT (nat f) F la i k) + wrap64 (wz (muO (nat f) la k i) * wz (F k))) = wz (unT (nat f) F la i (k + 1))) := by
                show _ = _
                rw [wz_mul, wz_add]; rfl
              clear hb5 HW j0 j1 hcc
              generalize wz (unT (nat f) F la i k) = X at *
              generalize wz (muO (nat f) la k i) = M at *
              generalize wz (F k) = Y at *
              obtain ⟨Z, HZ⟩ : ∃ Z, Hid (wrap64 (M * Y) = Z) := ⟨_, rfl⟩
              rw [HZ.out] at HY
              have hz : wrap64 (M * Y) = Z := HZ.out
              have hy : wrap64 (X + Z) = wz (unT (nat f) F la i (k + 1)) := HY.out
              go_wp2_with fail
              go_roundw
              case rel => exact ⟨k + 1, by omega, by go_num, by rw [hy], HW5⟩
              case measure => simp [intOf]; omega
            · obtain rfl : k = la := by omega
              obtain ⟨bf, off, rfl, hcc⟩ := (HR4.out.below HW.out).at hil
              have hck := hcc i hil
              rw [HUN.out i hil] at hck
              clear hcc j1
              generalize wz (unT (nat f) F k i k) = X at *
              have hxx : (X != X) = false := by simp
              go_wp2_with fail
              go_roundw
              case rel => exact ⟨i + 1, by omega, by go_num, HW⟩
              case measure => simp [intOf]; omega
        · obtain rfl : i = la := by omega
          go_wp2_with fail
          go_ret
          exact ⟨rfl, Below.then HB0.out (Below.then HB4.out HW.out)⟩
end Go.Proofs.Ytgdbldfbhiaepaa
