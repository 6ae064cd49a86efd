/-
  What the reference's LeastOf and OthersOf answer of a lattice. Conditions: at most forty elements.
-/
import Derived.Test.YtddpeldchffidaaRefIrr
namespace Go.Proofs.Ytddpeldchffidaa
set_option maxRecDepth 100000
open Go.RowKit

theorem under_as (n b1 o1 ca : Nat) (b2 : Option Addr) (lb cb : Nat) (R1 : Nat → Nat × Nat × Nat) (m : Nat → Nat → Nat) (x y : Nat) (v : Bool) (w : World) (hv : (m x y == x) = v) (ht1 : Tb w b1 o1 n R1 m) (hx : x < n) (hy : y < n) :
    Calls Try.prog 38 #[.agg #[.int .i64 (n : Int), .slice (some ⟨b1, o1, none⟩) n ca, .slice b2 lb cb], .int .i64 (x : Nat), .int .i64 (y : Nat)] w fun e w' => e = .returned (.bool v) ∧ Below w.heap.size w w' :=
  under_any n b1 o1 ca b2 lb cb R1 m x y w v hv ht1 hx hy

/-- The reference's search of the least and of the greatest element. -/
def lsA (m : Nat → Nat → Nat) : Nat → Nat
  | 0 => 0
  | k + 1 => if (m k (lsA m k) == k) = true then k else lsA m k
def lsB (m : Nat → Nat → Nat) : Nat → Nat
  | 0 => 0
  | k + 1 => if (m (lsB m k) k == lsB m k) = true then k else lsB m k
theorem lsA_lt {n : Nat} (m : Nat → Nat → Nat) (h1 : 1 ≤ n) : ∀ k, k ≤ n → lsA m k < n
  | 0, _ => by show 0 < n; omega
  | k + 1, hk => by
    have := lsA_lt m h1 k (by omega)
    unfold lsA; split <;> omega
theorem lsB_lt {n : Nat} (m : Nat → Nat → Nat) (h1 : 1 ≤ n) : ∀ k, k ≤ n → lsB m k < n
  | 0, _ => by show 0 < n; omega
  | k + 1, hk => by
    have := lsB_lt m h1 k (by omega)
    unfold lsB; split <;> omega
/-- All come together below all. -/
theorem en_low {n : Nat} {m j : Nat → Nat → Nat} (hL : Lat n m j) (h1 : 1 ≤ n) : ∀ k, k ≤ n → ∀ x, x < k → m (en m k) x = en m k
  | 0, _, x, hx => absurd hx (Nat.not_lt_zero _)
  | k + 1, hk, x, hx => by
    have he := en_lt h1 hL.im k (by omega)
    have hk' : k < n := by omega
    have hx' : x < n := by omega
    show m (m (en m k) k) x = m (en m k) k
    by_cases e : x = k
    · subst e
      rw [← (hL.lm.at he hx' hx').2.2.1, (hL.lm.at hx' hx' hx').1]
    · have ih := en_low hL h1 k (by omega) x (by omega)
      rw [← (hL.lm.at he hk' hx').2.2.1, (hL.lm.at hk' hx' hx').2.1, (hL.lm.at he hx' hk').2.2.1, ih]
theorem low_all {n : Nat} {m j : Nat → Nat → Nat} (hL : Lat n m j) (h1 : 1 ≤ n) {x : Nat} (hx : x < n) : m (en m n) x = en m n := en_low hL h1 n (Nat.le_refl _) x hx
theorem lsA_is {n : Nat} {m j : Nat → Nat → Nat} (hL : Lat n m j) (h1 : 1 ≤ n) : lsA m n = en m n := by
  have hb := en_lt h1 hL.im n (Nat.le_refl _)
  have key : ∀ k, k ≤ n → en m n < k → lsA m k = en m n := fun k => by
    induction k with
    | zero => intro _ h; exact absurd h (Nat.not_lt_zero _)
    | succ k ih =>
      intro hk h
      have hA := lsA_lt m h1 k (by omega)
      have hkn : k < n := by omega
      unfold lsA
      by_cases e : en m n = k
      · have : m k (lsA m k) = k := by have h := low_all hL h1 hA; rw [e] at h; exact h
        rw [if_pos (by rw [this]; simp), e]
      · rw [ih (by omega) (by omega)]
        have : m k (en m n) = en m n := by rw [(hL.lm.at hkn hb hb).2.1]; exact low_all hL h1 hkn
        rw [if_neg (by rw [this]; simpa using e)]
  exact key n (Nat.le_refl _) hb
theorem lsB_is {n : Nat} {m j : Nat → Nat → Nat} (hL : Lat n m j) (h1 : 1 ≤ n) : lsB m n = en j n := by
  have ht := en_lt h1 hL.ij n (Nat.le_refl _)
  have up : ∀ x, x < n → m x (en j n) = x := fun x hx => by
    have h := low_all hL.turn h1 hx
    have h2 := (hL.lm.at hx ht hx).2.2.2
    rw [(hL.lj.at hx ht hx).2.1, h] at h2
    exact h2
  have key : ∀ k, k ≤ n → en j n < k → lsB m k = en j n := fun k => by
    induction k with
    | zero => intro _ h; exact absurd h (Nat.not_lt_zero _)
    | succ k ih =>
      intro hk h
      have hB := lsB_lt m h1 k (by omega)
      have hkn : k < n := by omega
      unfold lsB
      by_cases e : en j n = k
      · have : m (lsB m k) k = lsB m k := by have h := up _ hB; rw [e] at h; exact h
        rw [if_pos (by rw [this]; simp), e]
      · rw [ih (by omega) (by omega)]
        have : m (en j n) k = k := by rw [(hL.lm.at ht hkn ht).2.1]; exact up k hkn
        rw [if_neg (by rw [this]; simpa using fun h => e h.symm)]
  exact key n (Nat.le_refl _) ht

set_option maxHeartbeats 2000000 in
theorem leastOf_any (q b off cap : Nat) (b' : Option Addr) (lb cb : Nat) (R : Nat → Nat × Nat × Nat) (m : Nat → Nat → Nat) (w : World) (h1 : 1 ≤ q) (h40 : q ≤ 40) (ht : Tb w b off q R m) :
    Calls Try.prog 24 #[.agg #[.int .i64 (q : Nat), .slice (some ⟨b, off, none⟩) q cap, .slice b' lb cb]] w fun e w' => e = .returned (.tuple #[.int .i64 (lsA m q : Nat), .int .i64 (lsB m q : Nat)]) ∧ Below w.heap.size w w' := by
  have B1 : Below w.heap.size w (w.alloc (.cells #[.int .i64 (q : Nat), .slice (some ⟨b, off, none⟩) q cap, .slice b' lb cb] 24)) := (Below.refl _ _).alloc (Nat.le_refl _) _
  have HB1 : Hid (Below w.heap.size w (w.alloc (.cells #[.int .i64 (q : Nat), .slice (some ⟨b, off, none⟩) q cap, .slice b' lb cb] 24))) := B1
  have HL0 : Hid (LB (w.alloc (.cells #[.int .i64 (q : Nat), .slice (some ⟨b, off, none⟩) q cap, .slice b' lb cb] 24)) w.heap.size (q : Nat) (some ⟨b, off, none⟩) q cap b' lb cb) := LB.new w (q : Nat) (some ⟨b, off, none⟩) q cap b' lb cb
  have HT0 : Hid (Tb (w.alloc (.cells #[.int .i64 (q : Nat), .slice (some ⟨b, off, none⟩) q cap, .slice b' lb cb] 24)) b off q R m) := ht.step B1
  have HLA : Hid (∀ k, k ≤ q → lsA m k < q) := lsA_lt m h1
  have HLB : Hid (∀ k, k ≤ q → lsB m k < q) := lsB_lt m h1
  clear B1 ht
  go_enter Try.func24, Try.ntmps24
  go_wp2_with fail
  generalize w.alloc (.cells #[.int .i64 (q : Nat), .slice (some ⟨b, off, none⟩) q cap, .slice b' lb cb] 24) = W at *
  go_loopw [4, 5, 6] (fun x y i wx => ∃ k : Nat, k ≤ q ∧ i = .int .i64 k ∧ x = .int .i64 (lsA m k : Nat) ∧ y = .int .i64 (lsB m k : Nat) ∧ Hid (Below W.heap.size W wx)) (fun _ _ i _ => q - (intOf i).toNat)
  case atStart => exact ⟨0, Nat.zero_le _, rfl, rfl, rfl, Below.refl _ _⟩
  case round =>
    obtain ⟨k, hk, rfl, rfl, rfl, HW⟩ := hrel
    have L1 := HL0.out.step HW.out
    have l0 := L1.1
    by_cases hlt : k < q
    · have l1 := L1.2.1
      have l2 := L1.2.2
      have hA := HLA.out k hk
      have hB := HLB.out k hk
      obtain ⟨v1, hv1⟩ : ∃ v, (m k (lsA m k) == k) = v := ⟨_, rfl⟩
      obtain ⟨v2, hv2⟩ : ∃ v, (m (lsB m k) k == lsB m k) = v := ⟨_, rfl⟩
      have HA : Hid (lsA m (k + 1) = if v1 = true then k else lsA m k) := by rw [← hv1]; rfl
      have HB : Hid (lsB m (k + 1) = if v2 = true then k else lsB m k) := by rw [← hv2]; rfl
      have HU1 := under_as q b off cap b' lb cb R m k (lsA m k) v1 wr hv1 (HT0.out.step HW.out) hlt hA
      rcases v1 with _ | _
      · have HN1 : Hid (lsA m (k + 1) = lsA m k) := by rw [HA.out]; rfl
        go_wp2_with fail
        refine HU1.mono ?_
        rintro e w2 ⟨rfl, hb2⟩
        have HW2 : Hid (Below W.heap.size W w2) := Below.then HW.out hb2
        have L2 := L1.step hb2
        have q0 := L2.1
        have q1 := L2.2.1
        have q2 := L2.2.2
        have HU2 := under_as q b off cap b' lb cb R m (lsB m k) k v2 w2 hv2 (HT0.out.step HW2.out) hB hlt
        clear hb2 HU1 l0 l1 l2 L1 HA hv1
        rcases v2 with _ | _
        · have HN2 : Hid (lsB m (k + 1) = lsB m k) := by rw [HB.out]; rfl
          go_wp2_with fail
          refine HU2.mono ?_
          rintro e w3 ⟨rfl, hb3⟩
          have HW3 : Hid (Below W.heap.size W w3) := Below.then HW2.out hb3
          clear hb3 HU2 q0 q1 q2 L2 HB hv2
          go_wp2_with fail
          go_roundw
          case rel => exact ⟨k + 1, by omega, by go_num, by rw [HN1.out], by rw [HN2.out], HW3.out⟩
          case measure => simp [intOf]; omega
        · have HN2 : Hid (lsB m (k + 1) = k) := by rw [HB.out]; rfl
          go_wp2_with fail
          refine HU2.mono ?_
          rintro e w3 ⟨rfl, hb3⟩
          have HW3 : Hid (Below W.heap.size W w3) := Below.then HW2.out hb3
          clear hb3 HU2 q0 q1 q2 L2 HB hv2
          go_wp2_with fail
          go_roundw
          case rel => exact ⟨k + 1, by omega, by go_num, by rw [HN1.out], by rw [HN2.out], HW3.out⟩
          case measure => simp [intOf]; omega
      · have HN1 : Hid (lsA m (k + 1) = k) := by rw [HA.out]; rfl
        go_wp2_with fail
        refine HU1.mono ?_
        rintro e w2 ⟨rfl, hb2⟩
        have HW2 : Hid (Below W.heap.size W w2) := Below.then HW.out hb2
        have L2 := L1.step hb2
        have q0 := L2.1
        have q1 := L2.2.1
        have q2 := L2.2.2
        have HU2 := under_as q b off cap b' lb cb R m (lsB m k) k v2 w2 hv2 (HT0.out.step HW2.out) hB hlt
        clear hb2 HU1 l0 l1 l2 L1 HA hv1
        rcases v2 with _ | _
        · have HN2 : Hid (lsB m (k + 1) = lsB m k) := by rw [HB.out]; rfl
          go_wp2_with fail
          refine HU2.mono ?_
          rintro e w3 ⟨rfl, hb3⟩
          have HW3 : Hid (Below W.heap.size W w3) := Below.then HW2.out hb3
          clear hb3 HU2 q0 q1 q2 L2 HB hv2
          go_wp2_with fail
          go_roundw
          case rel => exact ⟨k + 1, by omega, by go_num, by rw [HN1.out], by rw [HN2.out], HW3.out⟩
          case measure => simp [intOf]; omega
        · have HN2 : Hid (lsB m (k + 1) = k) := by rw [HB.out]; rfl
          go_wp2_with fail
          refine HU2.mono ?_
          rintro e w3 ⟨rfl, hb3⟩
          have HW3 : Hid (Below W.heap.size W w3) := Below.then HW2.out hb3
          clear hb3 HU2 q0 q1 q2 L2 HB hv2
          go_wp2_with fail
          go_roundw
          case rel => exact ⟨k + 1, by omega, by go_num, by rw [HN1.out], by rw [HN2.out], HW3.out⟩
          case measure => simp [intOf]; omega
    · obtain rfl : k = q := by omega
      go_wp2_with fail
      go_ret2
      exact ⟨rfl, Below.then HB1.out HW.out⟩

end Go.Proofs.Ytddpeldchffidaa
