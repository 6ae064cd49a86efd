/-
  What the reference's WeightSum answers. Conditions: at most six points, at most two lists besides, all of them good.
-/
import Derived.Test.YtoagfjikjdacoaaSumP
namespace Go.Proofs.Ytoagfjikjdacoaa
set_option maxRecDepth 100000
open Go.RowKit

set_option maxHeartbeats 4000000 in
theorem weightSum_any (n : Nat) (aw : Option Addr) (lw kw : Nat) (f : Nat → Int) (al : Option Addr) (m cap : Nat) (S : Nat → Option Addr × Nat × Nat) (F : Nat → Nat → Int) (w : World) (hn6 : n ≤ 6) (hm2 : m ≤ 2) (hw : Row w aw lw f) (hr : RR w al m S F) (hc : WChk (n : Int) (1 + m) (cns (aw, lw, kw) S) (cns f F) 0) :
    Calls Try.prog 18 #[.slice aw lw kw, .slice al m cap] w fun e w' => e = .returned (.int .i64 ((wsum n m f F : Nat) : Int)) ∧ w = w' := by
  have HW1 : Hid (Row w aw lw f) := hw
  have HR1 : Hid (RR w al m S F) := hr
  clear hw hr
  obtain ⟨n', e, _, hfr, hin⟩ := hc.good
  obtain rfl : n' = n := by omega
  have q0 : lw = pw n' := hfr 0 (by omega)
  have HQ : Hid (∀ j, j < m → (S j).2.1 = pw n') := fun j hj => hfr (j + 1) (by omega)
  have i0 : ∀ y, y < lw → 0 ≤ f y ∧ f y ≤ 1000 := hin 0 (by omega)
  have HI : Hid (∀ j, j < m → ∀ y, y < (S j).2.1 → 0 ≤ F j y ∧ F j y ≤ 1000) := fun j hj => hin (j + 1) (by omega)
  have hpos := pw_pos n'
  have hps := pw6 hn6
  clear hfr hin hc e
  subst q0
  obtain ⟨b0, o0, rfl, w0⟩ := wr_of HW1.out i0 hpos
  have HWR : Hid (WR w b0 o0 (pw n') (nt f)) := w0
  have HGB : Hid (∀ x, x < pw n' → ∀ j, j < m → nt (F j) x ≤ 1000) := fun x hx j hj => by
    have := HI.out j hj x (by rw [HQ.out j hj]; exact hx)
    unfold nt; omega
  have HPB : Hid (∀ x, x < pw n' → ∀ j, j ≤ m → prd (nt f) (fun j => nt (F j)) x j ≤ 1000 ^ (j + 1)) := fun x hx j hj => prd_le (HWR.out x hx).2 j (fun i hi => HGB.out x hx i (by omega))
  have HPS : Hid (∀ x, x < pw n' → prd (nt f) (fun j => nt (F j)) x m ≤ 1000000000) := fun x hx => by
    have h1 := HPB.out x hx m (Nat.le_refl _)
    have h2 : 1000 ^ (m + 1) ≤ 1000 ^ 3 := Nat.pow_le_pow_right (by decide) (by omega)
    exact Nat.le_trans h1 (Nat.le_trans h2 (by decide))
  have HP2 : Hid (∀ x, x < pw n' → ∀ j, j < m → prd (nt f) (fun j => nt (F j)) x j ≤ 1000000) := fun x hx j hj => by
    have h1 := HPB.out x hx j (by omega)
    have h2 : 1000 ^ (j + 1) ≤ 1000 ^ 2 := Nat.pow_le_pow_right (by decide) (by omega)
    exact Nat.le_trans h1 (Nat.le_trans h2 (by decide))
  clear HW1 w0 i0 HPB
  obtain ⟨φ, Hφ⟩ : ∃ φ, Hid ((fun x => prd (nt f) (fun j => nt (F j)) x m) = φ) := ⟨_, rfl⟩
  have HSB : Hid (∀ k, k ≤ pw n' → sumTo φ k ≤ k * 1000000000) := fun k hk => by
    rw [← Hφ.out]
    exact sumTo_le k (fun x hx => HPS.out x (by omega))
  have HWS : Hid (wsum n' m f F = sumTo φ (pw n')) := by rw [← Hφ.out]; rfl
  rw [HWS.out]
  generalize hM : pw n' = M at *
  go_enter Try.func18, Try.ntmps18
  go_wp2_with fail
  go_loop [5, 6] (fun s i => ∃ k : Nat, k ≤ M ∧ s = .int .i64 (sumTo φ k : Nat) ∧ i = .int .i64 k) (fun _ i => M - (intOf i).toNat)
  case atStart => exact ⟨0, Nat.zero_le _, rfl, rfl⟩
  case round =>
    obtain ⟨k, hk, rfl, rfl⟩ := hrel
    by_cases hlt : k < M
    · have d0 := (HWR.out k hlt).1
      have hlt' : (k : Int) < (M : Int) := by omega
      have hs1 := HSB.out k hk
      have hs2 := HPS.out k hlt
      have HE : Hid (sumTo φ (k + 1) = sumTo φ k + prd (nt f) (fun j => nt (F j)) k m) := by rw [← Hφ.out]; rfl
      go_wp2_with fail
      go_loop [7, 8] (fun s i => ∃ j : Nat, j ≤ m ∧ s = .int .i64 (prd (nt f) (fun j => nt (F j)) k j : Nat) ∧ i = .int .i64 j) (fun _ i => m - (intOf i).toNat)
      case atStart => exact ⟨0, Nat.zero_le _, rfl, rfl⟩
      case round =>
        obtain ⟨j, hj, rfl, rfl⟩ := hrel
        by_cases hjl : j < m
        · obtain ⟨b, off, rfl, hc, _, hrow⟩ := HR1.out j hjl
          have hq := HQ.out j hjl
          rw [hq] at hc hrow
          obtain ⟨b', o', e', hwr⟩ := wr_of hrow (fun y hy => HI.out j hjl y (by rw [hq]; exact hy)) (by omega)
          rw [e'] at hc
          have d1 := (hwr k hlt).1
          have hjl' : (j : Int) < (m : Int) := by omega
          have hmw := mul_wrap3 (HP2.out k hlt j hjl) (HGB.out k hlt j hjl)
          have HE2 : Hid (prd (nt f) (fun j => nt (F j)) k (j + 1) = prd (nt f) (fun j => nt (F j)) k j * nt (F j) k) := rfl
          clear hrow hwr hq e'
          generalize (S j).2.2 = r3 at *
          generalize prd (nt f) (fun j => nt (F j)) k j = A at *
          generalize nt (F j) k = B at *
          generalize A * B = AB at *
          go_wp2_with fail
          go_round
          case rel => exact ⟨j + 1, by omega, by rw [HE2.out]; go_num, by go_num⟩
          case measure => simp [intOf]; omega
        · obtain rfl : j = m := by omega
          go_wp2_with fail
          go_round
          case rel => exact ⟨k + 1, by omega, by rw [HE.out]; go_num, by go_num⟩
          case measure => simp [intOf]; omega
    · obtain rfl : k = M := by omega
      clear HSB
      go_wp2_with fail
      go_ret
      exact ⟨rfl, rfl⟩
end Go.Proofs.Ytoagfjikjdacoaa
