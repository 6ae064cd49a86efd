/-
  Formulas in the memory: how a value reads as a formula. No condition.
-/
import Derived.Test.YtibnadbobijjpaaFmM
import Derived.Test.YtibnadbobijjpaaTabs
namespace Go.Proofs.Ytibnadbobijjpaa
set_option maxRecDepth 100000
open Go.RowKit

/-- A value reads as a formula. -/
def FRep (w : World) : FT → Value → Prop
  | .node none _, _ => False
  | .node (some (k, x, n)) kid, v => ∃ (a : Option Addr) (cap : Nat), v = .agg #[.int .i64 k, .int .i64 x, .slice a n cap] ∧ n ≤ maxLen ∧ ∀ i, i < n → ∃ b off, a = some ⟨b, off, none⟩ ∧ ∃ (k' x' : Int) (a' : Option Addr) (n' c' : Nat),
      (w.cell? ⟨b, off + i * 3, none⟩ = some (.int .i64 k') ∧ w.cell? ⟨b, off + i * 3 + 1, none⟩ = some (.int .i64 x') ∧ w.cell? ⟨b, off + i * 3 + 2, none⟩ = some (.slice a' n' c')) ∧ FRep w (kid i rfl) (.agg #[.int .i64 k', .int .i64 x', .slice a' n' c'])
theorem FRep.step {w w' : World} (hb : Below w.heap.size w w') (T : FT) : ∀ v, FRep w T v → FRep w' T v := by
  induction T using FT.ind with
  | leaf => exact fun _ h => h.elim
  | mk k x n kid ih =>
    intro v h
    obtain ⟨a, cap, rfl, hn, hk⟩ := h
    refine ⟨a, cap, rfl, hn, fun i hi => ?_⟩
    obtain ⟨b, off, e, k', x', a', n', c', ⟨h1, h2, h3⟩, h4⟩ := hk i hi
    exact ⟨b, off, e, k', x', a', n', c', ⟨cell_step hb h1, cell_step hb h2, cell_step hb h3⟩, ih i _ h4⟩
theorem lfK_stay {kid : Nat → FT} {m : Int} {i : Nat} (h : lfK kid m i < 0) : ∀ d, lfK kid m (i + d) = lfK kid m i
  | 0 => rfl
  | d + 1 => by
    have e := lfK_stay h d
    rw [show i + (d + 1) = (i + d) + 1 by omega, lfK_succ, e, if_pos h]
theorem fcK_stay {kid : Nat → FT} {m : Int} {i : Nat} (h : m < fcK kid m i) : ∀ d, fcK kid m (i + d) = fcK kid m i
  | 0 => rfl
  | d + 1 => by
    have e := fcK_stay h d
    rw [show i + (d + 1) = (i + d) + 1 by omega, fcK_succ, e, if_neg (by omega)]
theorem cfK_stay {kid : Nat → FT} {i : Nat} (h : cfK kid i ≠ 0) : ∀ d, cfK kid (i + d) = cfK kid i
  | 0 => rfl
  | d + 1 => by
    have e := cfK_stay h d
    rw [show i + (d + 1) = (i + d) + 1 by omega, cfK_succ, e, if_pos h]
set_option maxHeartbeats 2000000 in
theorem leftOf_any (T : FT) : ∀ (m : Int) (v : Value) (w : World), 0 ≤ m → m ≤ 30 → FRep w T v → Calls Try.prog 26 #[.int .i64 m, v] w fun e w' => e = .returned (.int .i64 (lf T m)) ∧ Below w.heap.size w w' := by
  induction T using FT.ind with
  | leaf => exact fun _ _ _ _ _ h => h.elim
  | mk k x n kid ih =>
    intro m v w h0 h30 hf
    obtain ⟨a, cap, rfl, hn, hk⟩ := hf
    have B1 : Below w.heap.size w (w.alloc (.cells #[.int .i64 k, .int .i64 x, .slice a n cap] 27)) := (Below.refl _ _).alloc (Nat.le_refl _) _
    have HB1 : Hid _ := B1
    have HIH : Hid (∀ i (m : Int) (v : Value) (w : World), 0 ≤ m → m ≤ 30 → FRep w (kid i) v → Calls Try.prog 26 #[.int .i64 m, v] w fun e w' => e = .returned (.int .i64 (lf (kid i) m)) ∧ Below w.heap.size w w') := ih
    have HK : Hid (∀ i, i < n → ∃ b off, a = some ⟨b, off, none⟩ ∧ ∃ (k' x' : Int) (a' : Option Addr) (n' c' : Nat), ∀ w', Below w.heap.size w w' →
        (w'.cell? ⟨b, off + i * 3, none⟩ = some (.int .i64 k') ∧ w'.cell? ⟨b, off + i * 3 + 1, none⟩ = some (.int .i64 x') ∧ w'.cell? ⟨b, off + i * 3 + 2, none⟩ = some (.slice a' n' c')) ∧ FRep w' (kid i) (.agg #[.int .i64 k', .int .i64 x', .slice a' n' c'])) := fun i hi => by
      obtain ⟨b, off, e, k', x', a', n', c', ⟨h1, h2, h3⟩, h4⟩ := hk i hi
      exact ⟨b, off, e, k', x', a', n', c', fun w' hb => ⟨⟨cell_step hb h1, cell_step hb h2, cell_step hb h3⟩, FRep.step hb _ _ h4⟩⟩
    have HLE : Hid (lf (.mk k x n kid) m = lfK kid m n) := rfl
    have HBD : Hid (∀ i, -1 ≤ lfK kid m i ∧ lfK kid m i ≤ m) := fun i => lfK_bound h0 i
    have HE0 : Hid (m - 1 = lfK kid m 0) := rfl
    rw [HLE.out]
    have hn' : n ≤ 9223372036854775807 := by unfold maxLen at hn; omega
    clear hk ih B1 HLE hn
    go_enter Try.func26, Try.ntmps26
    go_wp2_with fail
    rw [HE0.out]
    go_loopw [0, 12] (fun z i wx => ∃ t : Nat, t ≤ n ∧ i = .int .i64 (t : Nat) ∧ z = .int .i64 (lfK kid m t) ∧ Hid (Below w.heap.size w wx)) (fun _ i _ => n - (intOf i).toNat)
    case atStart => exact ⟨0, Nat.zero_le _, rfl, rfl, HB1.out⟩
    case round =>
      obtain ⟨t, ht, rfl, rfl, HW⟩ := hrel
      have hbd := HBD.out t
      by_cases htn : t < n
      · have htI : (t : Int) < (n : Int) := by omega
        obtain ⟨b, off, HA, k', x', a', n', c', HC⟩ := HK.out t htn
        obtain ⟨⟨q1, q2, q3⟩, _⟩ := HC _ HW.out
        subst HA
        by_cases hneg : lfK kid m t < 0
        · have HS : Hid (lfK kid m t = lfK kid m n) := by
            have := lfK_stay hneg (n - t)
            rw [show t + (n - t) = n by omega] at this
            exact this.symm
          have HW9 : Hid (∀ o, Below w.heap.size w (wr.alloc o)) := fun o => HW.out.alloc HW.out.size o
          clear HC
          go_wp2_with fail
          go_ret
          exact ⟨by rw [← HS.out]; rfl, HW9.out _⟩
        · have hnn : 0 ≤ lfK kid m t := by omega
          have HSU : Hid (lf (kid t) (lfK kid m t) = lfK kid m (t + 1)) := by rw [Hid, lfK_succ, if_neg hneg]
          have HR : Hid (∀ w', Below w.heap.size w w' → FRep w' (kid t) (.agg #[.int .i64 k', .int .i64 x', .slice a' n' c'])) := fun w' h => (HC w' h).2
          have HW9 : Hid (∀ o, Below w.heap.size w (wr.alloc o)) := fun o => HW.out.alloc HW.out.size o
          clear HC hneg
          go_wp2_with fail
          refine (HIH.out t _ _ _ hnn (by omega) (HR.out _ (HW9.out _))).mono ?_
          rintro e w7 ⟨rfl, hb7⟩
          rw [HSU.out]
          have HW7 : Hid (Below w.heap.size w w7) := Below.then (HW9.out _) hb7
          clear hb7 HW HR HW9 q1 q2 q3
          go_wp2_with fail
          go_roundw
          case rel => exact ⟨t + 1, by omega, by go_num, rfl, HW7.out⟩
          case measure => simp [intOf]; omega
      · obtain rfl : t = n := by omega
        go_wp2_with fail
        go_ret
        exact ⟨rfl, HW.out⟩
end Go.Proofs.Ytibnadbobijjpaa
