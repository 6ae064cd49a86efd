/-
  What order.Covers and the reference's Cover and Covers answer; hasselaw.OrderCovers returns true for every order. No condition but that a slice reads as a slice of numbers.
-/
import Derived.Test.YtliajgcobhjidaaGood
import Derived.Test.YtliajgcobhjidaaPairs
namespace Go.Proofs.Ytliajgcobhjidaa
open Go.RowKit

def Cov (g : Nat → Nat) (n x y : Nat) : Prop := (g y).testBit x = true ∧ ∀ k, k < n → ¬ ((g k).testBit x = true ∧ (g y).testBit k = true)
def covB (g : Nat → Nat) (n x y : Nat) : Bool := (g y).testBit x && (trn g n x &&& g y == 0)
theorem covB_iff (g : Nat → Nat) (n x y : Nat) : covB g n x y = true ↔ Cov g n x y := by
  unfold covB Cov
  rw [Bool.and_eq_true, beq_iff_eq]
  refine and_congr Iff.rfl ⟨fun h k hk hh => ?_, fun h => ?_⟩
  · have := setBy_bit (fun z => (g z).testBit x) n k
    have h2 : (trn g n x &&& g y).testBit k = true := by
      rw [Nat.testBit_and, show (trn g n x).testBit k = (decide (k < n) && (g k).testBit x) from this]
      simp [hk, hh.1, hh.2]
    rw [h] at h2
    simp at h2
  · apply Nat.eq_of_testBit_eq
    intro k
    rw [Nat.testBit_and, show (trn g n x).testBit k = (decide (k < n) && (g k).testBit x) from setBy_bit _ n k]
    by_cases hk : k < n
    · cases h1 : (g k).testBit x
      · simp
      · cases h2 : (g y).testBit k
        · simp
        · exact absurd ⟨h1, h2⟩ (h k hk)
    · simp [hk]
theorem covB_of {g : Nat → Nat} {n x y : Nat} (h : Cov g n x y) : covB g n x y = true := (covB_iff g n x y).2 h
theorem covB_not {g : Nat → Nat} {n x y : Nat} (h : ¬ Cov g n x y) : covB g n x y = false := by
  cases e : covB g n x y
  · rfl
  · exact absurd ((covB_iff g n x y).1 e) h

set_option maxHeartbeats 1000000 in
theorem cover_any (a : Option Addr) (len cap : Nat) (g : Nat → Nat) (x y : Nat) (w : World) (h10 : len ≤ 10) (hg : Sm len len g) (hr : Row w a len (fun k => (g k : Nat))) (hx : x < len) (hy : y < len) :
    Calls Try.prog 28 #[.agg #[.int .i64 (len : Int), .slice a len cap], .int .i64 x, .int .i64 y] w fun e w' => e = .returned (.bool (covB g len x y)) ∧ Below w.heap.size w w' := by
  have K0 : Held (w.alloc (.cells #[.int .i64 (len : Int), .slice a len cap] 24)) w.heap.size len a len cap (fun k => (g k : Nat)) := Held.box hr
  have HB0 : Hid (Below w.heap.size w (w.alloc (.cells #[.int .i64 (len : Int), .slice a len cap] 24))) := (Below.refl _ _).alloc (Nat.le_refl _) _
  have HG : Hid (∀ k, k < len → g k < 1024) := fun k hk => Nat.lt_of_lt_of_le (hg k hk) (pw_le len h10)
  clear hr hg
  go_enter Try.func28, Try.ntmps28
  go_wp2_with fail
  refine (less_any len a len cap g x y _ h10 HG.out K0.row (by omega) hy).mono ?_
  rintro e w1 ⟨rfl, hb1⟩
  have K1 := K0.step hb1
  have HB1 : Hid (Below w.heap.size w w1) := Below.then HB0.out hb1
  clear hb1 K0 HB0
  rcases (Bool.eq_false_or_eq_true ((g y).testBit x)).symm with hb | hb
  · have HN : Hid (covB g len x y = false) := covB_not (fun h => by have := h.1; rw [hb] at this; cases this)
    go_wp2_with fail
    go_ret
    exact ⟨ret_bool HN.out.symm, HB1.out⟩
  · have HK1 : Hid (Held w1 w.heap.size len a len cap (fun k => (g k : Nat))) := K1
    clear K1
    go_wp2_with fail
    go_loopw [7] (fun i wx => ∃ k : Nat, k ≤ len ∧ i = .int .i64 k ∧ Hid (∀ j, j < k → ¬ ((g j).testBit x = true ∧ (g y).testBit j = true)) ∧ Held wx w.heap.size len a len cap (fun k => (g k : Nat)) ∧ Hid (Below w.heap.size w wx)) (fun i _ => len - (intOf i).toNat)
    case atStart => exact ⟨0, Nat.zero_le _, rfl, upto_zero, HK1.out, HB1.out⟩
    case round =>
      obtain ⟨k, hk, rfl, hok, hH, hB⟩ := hrel
      clear HK1 HB1
      have c0 := hH.c0
      have c1 := hH.c1
      by_cases hlt : k < len
      · cases b1 : (g k).testBit x
        · go_wp2_with fail
          refine (less_any len a len cap g x k _ h10 HG.out hH.row (by omega) hlt).mono ?_
          rintro e w2 ⟨rfl, hb2⟩
          have Hb2 : Hid (Below wr.heap.size wr w2) := hb2; clear hb2
          go_wp2_with fail
          go_roundw
          case rel => exact ⟨k + 1, by omega, by go_num, upto_succ hok.out (by rw [b1]; simp), hH.step Hb2.out, Below.then hB.out Hb2.out⟩
          case measure => simp [intOf]; omega
        · cases b2 : (g y).testBit k
          · go_wp2_with fail
            refine (less_any len a len cap g x k _ h10 HG.out hH.row (by omega) hlt).mono ?_
            rintro e w2 ⟨rfl, hb2⟩
            have H2 := hH.step hb2
            have d0 := H2.c0
            have d1 := H2.c1
            have Hb2 : Hid (Below wr.heap.size wr w2) := hb2; clear hb2
            go_wp2_with fail
            refine (less_any len a len cap g k y _ h10 HG.out H2.row (by omega) hy).mono ?_
            rintro e w3 ⟨rfl, hb3⟩
            have Hb3 : Hid (Below w2.heap.size w2 w3) := hb3; clear hb3
            go_wp2_with fail
            go_roundw
            case rel => exact ⟨k + 1, by omega, by go_num, upto_succ hok.out (by rw [b2]; simp), H2.step Hb3.out, Below.then (Below.then hB.out Hb2.out) Hb3.out⟩
            case measure => simp [intOf]; omega
          · have HN : Hid (covB g len x y = false) := covB_not (fun h => h.2 k hlt ⟨b1, b2⟩)
            go_wp2_with fail
            refine (less_any len a len cap g x k _ h10 HG.out hH.row (by omega) hlt).mono ?_
            rintro e w2 ⟨rfl, hb2⟩
            have H2 := hH.step hb2
            have d0 := H2.c0
            have d1 := H2.c1
            have Hb2 : Hid (Below wr.heap.size wr w2) := hb2; clear hb2
            go_wp2_with fail
            refine (less_any len a len cap g k y _ h10 HG.out H2.row (by omega) hy).mono ?_
            rintro e w3 ⟨rfl, hb3⟩
            have Hb3 : Hid (Below w2.heap.size w2 w3) := hb3; clear hb3
            go_wp2_with fail
            go_ret
            exact ⟨ret_bool HN.out.symm, Below.then (Below.then hB.out Hb2.out) Hb3.out⟩
      · have hkn : k = len := by omega
        subst hkn
        have HN : Hid (covB g k x y = true) := covB_of ⟨hb, hok.out⟩
        go_wp2
        go_ret
        exact ⟨ret_bool HN.out.symm, hB.out⟩

def covs (g : Nat → Nat) (n : Nat) : List (Nat × Nat) := allPairs (covB g n) n n

/-- An order's box, and what lies below it, kept: the box reads as it did. -/
theorem Held.kept {w wx : World} {n : Int} {a : Option Addr} {len cap : Nat} {f : Nat → Int} (h : Row w a len f) (hb : Below (w.heap.size + 1) (w.alloc (.cells #[.int .i64 n, .slice a len cap] 24)) wx) : Held wx w.heap.size n a len cap f :=
  (Held.box h).step (by rw [World.size_alloc]; exact hb)
theorem below_call {w wx w1 : World} {o : Obj} (h : Below (w.heap.size + 1) (w.alloc o) wx) (hb : Below wx.heap.size wx w1) : Below (w.heap.size + 1) (w.alloc o) w1 :=
  h.trans (hb.mono (by have := h.size; simpa using this))
theorem below_append {w wx w1 : World} {o o2 : Obj} {e : TypeId} {size n : Nat} {v : Value} {xs : List Value} (h : Below (w.heap.size + 1) (w.alloc o) wx) (hown : wx.ownsRow (w.heap.size + 1) e size v n xs) (hg : (wx.alloc o2).grownBy w1 v.ownBlock) : Below (w.heap.size + 1) (w.alloc o) w1 :=
  (h.alloc (by have := h.size; simpa using this) o2).grown hg (by have := h.size; simp at this ⊢; omega) (owns_block hown)

end Go.Proofs.Ytliajgcobhjidaa
