/-
  What order.Covers and the reference's Cover and Covers answer; hasselaw.OrderCovers returns true for every order. No condition but that a slice reads as a slice of numbers.
-/
import Derived.Test.YthlhngjfbdaikaaDoorEnds
import Derived.Test.YthlhngjfbdaikaaDoorPairs
namespace Go.Proofs.YthlhngjfbdaikaaDoor
open Go.RowKit

def Cov (g : Nat → Nat) (n x y : Nat) : Prop := (g y).testBit x = true ∧ ∀ k, k < n → ¬ ((g k).testBit x = true ∧ (g y).testBit k = true)
def covB (g : Nat → Nat) (n x y : Nat) : Bool := (g y).testBit x && (trn g n x &&& g y == 0)
theorem covB_iff (g : Nat → Nat) (n x y : Nat) : covB g n x y = true ↔ Cov g n x y := by
  unfold covB Cov
  rw [Bool.and_eq_true, beq_iff_eq]
  refine and_congr Iff.rfl ⟨fun h k hk hh => ?_, fun h => ?_⟩
  · have := setBy_bit (fun z => (g z).testBit x) n k
    have h2 : (trn g n x &&& g y).testBit k = true := by
      rw [Nat.testBit_and, show (trn g n x).testBit k = (decide (k < n) && (g k).testBit x) from this]
      simp [hk, hh.1, hh.2]
    rw [h] at h2
    simp at h2
  · apply Nat.eq_of_testBit_eq
    intro k
    rw [Nat.testBit_and, show (trn g n x).testBit k = (decide (k < n) && (g k).testBit x) from setBy_bit _ n k]
    by_cases hk : k < n
    · cases h1 : (g k).testBit x
      · simp
      · cases h2 : (g y).testBit k
        · simp
        · exact absurd ⟨h1, h2⟩ (h k hk)
    · simp [hk]
theorem covB_of {g : Nat → Nat} {n x y : Nat} (h : Cov g n x y) : covB g n x y = true := (covB_iff g n x y).2 h
theorem covB_not {g : Nat → Nat} {n x y : Nat} (h : ¬ Cov g n x y) : covB g n x y = false := by
  cases e : covB g n x y
  · rfl
  · exact absurd ((covB_iff g n x y).1 e) h

set_option maxHeartbeats 1000000 in
theorem cover_any (a : Option Addr) (len cap : Nat) (g : Nat → Nat) (x y : Nat) (w : World) (h10 : len ≤ 10) (hg : Sm len len g) (hr : Row w a len (fun k => (g k : Nat))) (hx : x < len) (hy : y < len) :
    Calls Tryd.prog 24 #[.agg #[.int .i64 (len : Int), .slice a len cap], .int .i64 x, .int .i64 y] w fun e w' => e = .returned (.bool (covB g len x y)) ∧ Below w.heap.size w w' := by
  have K0 : Held (w.alloc (.cells #[.int .i64 (len : Int), .slice a len cap] 24)) w.heap.size len a len cap (fun k => (g k : Nat)) := Held.box hr
  have HB0 : Hid (Below w.heap.size w (w.alloc (.cells #[.int .i64 (len : Int), .slice a len cap] 24))) := (Below.refl _ _).alloc (Nat.le_refl _) _
  have HG : Hid (∀ k, k < len → g k < 1024) := fun k hk => Nat.lt_of_lt_of_le (hg k hk) (pw_le len h10)
  clear hr hg
  go_enter Tryd.func24, Tryd.ntmps24
  go_wp2_with fail
  refine (less_any len a len cap g x y _ h10 HG.out K0.row (by omega) hy).mono ?_
  rintro e w1 ⟨rfl, hb1⟩
  have K1 := K0.step hb1
  have HB1 : Hid (Below w.heap.size w w1) := Below.then HB0.out hb1
  clear hb1 K0 HB0
  rcases (Bool.eq_false_or_eq_true ((g y).testBit x)).symm with hb | hb
  · have HN : Hid (covB g len x y = false) := covB_not (fun h => by have := h.1; rw [hb] at this; cases this)
    go_wp2_with fail
    go_ret
    exact ⟨ret_bool HN.out.symm, HB1.out⟩
  · have HK1 : Hid (Held w1 w.heap.size len a len cap (fun k => (g k : Nat))) := K1
    clear K1
    go_wp2_with fail
    go_loopw [7] (fun i wx => ∃ k : Nat, k ≤ len ∧ i = .int .i64 k ∧ Hid (∀ j, j < k → ¬ ((g j).testBit x = true ∧ (g y).testBit j = true)) ∧ Held wx w.heap.size len a len cap (fun k => (g k : Nat)) ∧ Hid (Below w.heap.size w wx)) (fun i _ => len - (intOf i).toNat)
    case atStart => exact ⟨0, Nat.zero_le _, rfl, upto_zero, HK1.out, HB1.out⟩
    case round =>
      obtain ⟨k, hk, rfl, hok, hH, hB⟩ := hrel
      clear HK1 HB1
      have c0 := hH.c0
      have c1 := hH.c1
      by_cases hlt : k < len
      · cases b1 : (g k).testBit x
        · go_wp2_with fail
          refine (less_any len a len cap g x k _ h10 HG.out hH.row (by omega) hlt).mono ?_
          rintro e w2 ⟨rfl, hb2⟩
          have Hb2 : Hid (Below wr.heap.size wr w2) := hb2; clear hb2
          go_wp2_with fail
          go_roundw
          case rel => exact ⟨k + 1, by omega, by go_num, upto_succ hok.out (by rw [b1]; simp), hH.step Hb2.out, Below.then hB.out Hb2.out⟩
          case measure => simp [intOf]; omega
        · cases b2 : (g y).testBit k
          · go_wp2_with fail
            refine (less_any len a len cap g x k _ h10 HG.out hH.row (by omega) hlt).mono ?_
            rintro e w2 ⟨rfl, hb2⟩
            have H2 := hH.step hb2
            have d0 := H2.c0
            have d1 := H2.c1
            have Hb2 : Hid (Below wr.heap.size wr w2) := hb2; clear hb2
            go_wp2_with fail
            refine (less_any len a len cap g k y _ h10 HG.out H2.row (by omega) hy).mono ?_
            rintro e w3 ⟨rfl, hb3⟩
            have Hb3 : Hid (Below w2.heap.size w2 w3) := hb3; clear hb3
            go_wp2_with fail
            go_roundw
            case rel => exact ⟨k + 1, by omega, by go_num, upto_succ hok.out (by rw [b2]; simp), H2.step Hb3.out, Below.then (Below.then hB.out Hb2.out) Hb3.out⟩
            case measure => simp [intOf]; omega
          · have HN : Hid (covB g len x y = false) := covB_not (fun h => h.2 k hlt ⟨b1, b2⟩)
            go_wp2_with fail
            refine (less_any len a len cap g x k _ h10 HG.out hH.row (by omega) hlt).mono ?_
            rintro e w2 ⟨rfl, hb2⟩
            have H2 := hH.step hb2
            have d0 := H2.c0
            have d1 := H2.c1
            have Hb2 : Hid (Below wr.heap.size wr w2) := hb2; clear hb2
            go_wp2_with fail
            refine (less_any len a len cap g k y _ h10 HG.out H2.row (by omega) hy).mono ?_
            rintro e w3 ⟨rfl, hb3⟩
            have Hb3 : Hid (Below w2.heap.size w2 w3) := hb3; clear hb3
            go_wp2_with fail
            go_ret
            exact ⟨ret_bool HN.out.symm, Below.then (Below.then hB.out Hb2.out) Hb3.out⟩
      · have hkn : k = len := by omega
        subst hkn
        have HN : Hid (covB g k x y = true) := covB_of ⟨hb, hok.out⟩
        go_wp2
        go_ret
        exact ⟨ret_bool HN.out.symm, hB.out⟩

def covs (g : Nat → Nat) (n : Nat) : List (Nat × Nat) := allPairs (covB g n) n n

/-- An order's box, and what lies below it, kept: the box reads as it did. -/
theorem Held.kept {w wx : World} {n : Int} {a : Option Addr} {len cap : Nat} {f : Nat → Int} (h : Row w a len f) (hb : Below (w.heap.size + 1) (w.alloc (.cells #[.int .i64 n, .slice a len cap] 24)) wx) : Held wx w.heap.size n a len cap f :=
  (Held.box h).step (by rw [World.size_alloc]; exact hb)
theorem below_call {w wx w1 : World} {o : Obj} (h : Below (w.heap.size + 1) (w.alloc o) wx) (hb : Below wx.heap.size wx w1) : Below (w.heap.size + 1) (w.alloc o) w1 :=
  h.trans (hb.mono (by have := h.size; simpa using this))
theorem below_append {w wx w1 : World} {o o2 : Obj} {e : TypeId} {size n : Nat} {v : Value} {xs : List Value} (h : Below (w.heap.size + 1) (w.alloc o) wx) (hown : wx.ownsRow (w.heap.size + 1) e size v n xs) (hg : (wx.alloc o2).grownBy w1 v.ownBlock) : Below (w.heap.size + 1) (w.alloc o) w1 :=
  (h.alloc (by have := h.size; simpa using this) o2).grown hg (by have := h.size; simp at this ⊢; omega) (owns_block hown)

set_option maxHeartbeats 1000000 in
theorem refCovers_any (a : Option Addr) (len cap : Nat) (g : Nat → Nat) (w : World) (h10 : len ≤ 10) (hg : Sm len len g) (hr : Row w a len (fun k => (g k : Nat))) :
    Calls Tryd.prog 17 #[.agg #[.int .i64 (len : Int), .slice a len cap]] w fun e w' => (∃ v, e = .returned v ∧ PSl w' v (covs g len)) ∧ Below w.heap.size w w' := by
  have HG : Hid (Sm len len g) := hg
  have HR : Hid (Row w a len (fun k => (g k : Nat))) := hr
  clear hr hg
  obtain ⟨C, HC⟩ : ∃ C, Hid (C = covB g len) := ⟨_, rfl⟩
  have HCV : Hid (covs g len = allPairs C len len) := by rw [HC.out]; rfl
  have HCA : Hid (∀ x y, covB g len x y = C x y) := fun x y => by rw [HC.out]
  obtain ⟨i0, hi, hz0, hz1, hz2⟩ := info_parts Tryd.info45
  go_enter Tryd.func17, Tryd.ntmps17
  go_wp2
  go_loopw [3, 4] (fun v i wx => ∃ x : Nat, x ≤ len ∧ i = .int .i64 x ∧ wx.ownsRow (w.heap.size + 1) 45 2 v (allPairs C len x).length (pairVals (allPairs C len x)) ∧ Hid (Below (w.heap.size + 1) (w.alloc (.cells #[.int .i64 (len : Int), .slice a len cap] 24)) wx)) (fun _ i _ => len - (intOf i).toNat)
  case atStart => exact ⟨0, Nat.zero_le _, rfl, World.ownsRow_nil _ _ _ _, Below.refl _ _⟩
  case round =>
    obtain ⟨x, hx, rfl, hown, hB⟩ := hrel
    have hH := Held.kept HR.out hB.out
    have c0 := hH.c0
    have c1 := hH.c1
    clear hH
    by_cases hlt : x < len
    · go_wp2
      have HO1 : Hid (wr.ownsRow (w.heap.size + 1) 45 2 u3 (allPairs C len x ++ rowPairs C x 0).length (pairVals (allPairs C len x ++ rowPairs C x 0))) := by rw [show rowPairs C x 0 = [] from rfl, List.append_nil]; exact hown
      clear hown c0 c1
      go_loopw [3, 5] (fun v i wx => ∃ y : Nat, y ≤ len ∧ i = .int .i64 y ∧ wx.ownsRow (w.heap.size + 1) 45 2 v (allPairs C len x ++ rowPairs C x y).length (pairVals (allPairs C len x ++ rowPairs C x y)) ∧ Hid (Below (w.heap.size + 1) (w.alloc (.cells #[.int .i64 (len : Int), .slice a len cap] 24)) wx)) (fun _ i _ => len - (intOf i).toNat)
      case atStart => exact ⟨0, Nat.zero_le _, rfl, HO1.out, hB.out⟩
      case round =>
        obtain ⟨y, hy, rfl, hown, hBy⟩ := hrel
        clear HO1
        have hH := Held.kept HR.out hBy.out
        have c0 := hH.c0
        have c1 := hH.c1
        by_cases hyl : y < len
        · rcases (Bool.eq_false_or_eq_true (C x y)).symm with hb | hb
          · have HE : Hid (rowPairs C x (y + 1) = rowPairs C x y) := rowPairs_no hb
            go_wp2_with fail
            refine (cover_any a len cap g x y _ h10 HG.out hH.row hlt hyl).mono ?_
            rintro e w1 ⟨rfl, hb1⟩
            rw [HCA.out x y, hb]
            have HB2 : Hid (Below (w.heap.size + 1) (w.alloc (.cells #[.int .i64 (len : Int), .slice a len cap] 24)) w1) := below_call hBy.out hb1
            have hown2 := owns_below hown hb1
            clear hown hb1 hH c0 c1 hBy
            go_wp2_with fail
            go_roundw
            case rel => exact ⟨y + 1, by omega, by go_num, by rw [HE.out]; exact hown2, HB2.out⟩
            case measure => simp [intOf]; omega
          · have HE : Hid (rowPairs C x (y + 1) = rowPairs C x y ++ [(x, y)]) := rowPairs_yes hb
            have hlen1 := allPairs_len C len h10 x
            have hlen2 := rowPairs_len C x y
            go_wp2_with fail
            refine (cover_any a len cap g x y _ h10 HG.out hH.row hlt hyl).mono ?_
            rintro e w1 ⟨rfl, hb1⟩
            rw [HCA.out x y, hb]
            have HB2 : Hid (Below (w.heap.size + 1) (w.alloc (.cells #[.int .i64 (len : Int), .slice a len cap] 24)) w1) := below_call hBy.out hb1
            have hown2 := owns_below hown hb1
            have hsz : w.heap.size + 1 ≤ w1.heap.size := by have := HB2.out.size; simpa using this
            have hlen3 : (allPairs C len x ++ rowPairs C x y).length ≤ 110 := by rw [List.length_append]; omega
            clear hown hb1 hH c0 c1 hBy
            obtain ⟨L, HL⟩ : ∃ L, Hid (L = allPairs C len x ++ rowPairs C x y) := ⟨_, rfl⟩
            rw [← HL.out] at hown2 hlen3
            go_wp2_with (at_builtin; refine wpList_append_own _ rfl _ _ 32 rfl (w.heap.size + 1) 45 i0 (.agg #[.int .i64 0, .int .i64 0]) 2 16 Tryd.underlying32 hi hz0 hz1 hz2 rfl (by decide) _ _ _ rfl (hown2.alloc _) ⟨w1.heap.size, 0, none⟩ 1 1 [.int .i64 (x : Nat), .int .i64 (y : Nat)] rfl rfl ?c1 ?c2 ?c3 ?c4 ?c5 ?_)
            case c1 =>
              intro j u hj
              match j, hj with
              | 0, hj => simp at hj; subst hj; simp [Addr.add]
              | 1, hj => simp at hj; subst hj; simp [Addr.add]
            case c2 => intro u hu; simp at hu; rcases hu with rfl | rfl <;> rfl
            case c3 => unfold maxLen; omega
            case c4 => omega
            case c5 => simp; omega
            intro v' w2 hown' hgrow _
            have HB3 : Hid (Below (w.heap.size + 1) (w.alloc (.cells #[.int .i64 (len : Int), .slice a len cap] 24)) w2) := below_append HB2.out hown2 hgrow
            have HO3 : Hid (w2.ownsRow (w.heap.size + 1) 45 2 v' (allPairs C len x ++ rowPairs C x (y + 1)).length (pairVals (allPairs C len x ++ rowPairs C x (y + 1)))) := by
              rw [HE.out, ← List.append_assoc, ← HL.out, pairVals_append, List.length_append]; exact hown'
            clear hown' hgrow hown2 HB2 hlen1 hlen2 hlen3 hsz HL
            go_wp2_with fail
            go_roundw
            case rel => exact ⟨y + 1, by omega, by go_num, HO3.out, HB3.out⟩
            case measure => simp [intOf]; omega
        · have hyn : y = len := by omega
          subst hyn
          clear hH
          go_wp2
          go_roundw
          case rel => exact ⟨x + 1, by omega, by go_num, hown, hBy⟩
          case measure => simp [intOf]; omega
    · have hxn : x = len := by omega
      subst hxn
      have HF : Hid (PSl wr u3 (covs g x)) := by rw [HCV.out]; exact owns_pairs hown
      clear hown
      go_wp2
      go_ret
      exact ⟨⟨_, rfl, HF.out⟩, out_below hB.out⟩
end Go.Proofs.YthlhngjfbdaikaaDoor
