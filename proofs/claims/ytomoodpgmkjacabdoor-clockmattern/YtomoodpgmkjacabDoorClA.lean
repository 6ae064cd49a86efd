/-
  What clock.leads and Ahead answer, whatever they are handed. Condition: a slice reads as a slice of events.
-/
import Derived.Test.YtomoodpgmkjacabDoorClS
import Derived.Test.YtomoodpgmkjacabDoorGiven
import Derived.Test.YtomoodpgmkjacabDoorCovB
namespace Go.Proofs.YtomoodpgmkjacabDoor
open Go.RowKit

set_option maxHeartbeats 1000000 in
theorem leads_any (k1 v1 m1 k2 v2 m2 : Int) (w : World) (b : Bool) (hb : decide ((k1 = 2 ∧ k2 = 3 ∧ m1 = m2) ∨ v1 = v2) = b) :
    Calls Tryd.prog 12 #[.agg #[.int .i64 k1, .int .i64 v1, .int .i64 m1], .agg #[.int .i64 k2, .int .i64 v2, .int .i64 m2]] w fun e w' => e = .returned (.bool b) ∧ Below w.heap.size w w' := by
  have HB0 : Hid (Below w.heap.size w ((w.alloc (.cells #[.int .i64 k1, .int .i64 v1, .int .i64 m1] 38)).alloc (.cells #[.int .i64 k2, .int .i64 v2, .int .i64 m2] 38))) := ((Below.refl _ _).alloc (Nat.le_refl _) _).alloc (by simp) _
  have HBB : Hid (decide ((k1 = 2 ∧ k2 = 3 ∧ m1 = m2) ∨ v1 = v2) = b) := hb
  clear hb
  rcases (Bool.eq_false_or_eq_true (k1 == 2)).symm with a1 | a1 <;> rcases (Bool.eq_false_or_eq_true (k2 == 3)).symm with a2 | a2 <;> rcases (Bool.eq_false_or_eq_true (m1 == m2)).symm with a3 | a3 <;> rcases (Bool.eq_false_or_eq_true (v1 == v2)).symm with a4 | a4
  all_goals
    have HV : Hid (b = (((k1 == 2) && (k2 == 3) && (m1 == m2)) || (v1 == v2))) := HBB.out.symm.trans (by rw [Bool.eq_iff_iff]; simp [and_assoc])
    rw [a1, a2, a3, a4] at HV
    clear HBB
    go_enter Tryd.func12, Tryd.ntmps12
    go_wp2
    go_ret
    exact ⟨ret_bool HV.out.symm, HB0.out⟩
/-- What Ahead answers. -/
def AhdPost (K : Nat) (Wk : Int) (len : Nat) (E : Nat → Int × Int × Int) (e : Ending) (w' : World) : Prop :=
  ∃ (c : Int) (x : Value), CkE Wk len E c ∧ e = .returned (.tuple #[x, .int .i64 c]) ∧ ((c ≠ 0 ∧ x = noOrder) ∨ (c = 0 ∧ ∃ b, K ≤ b ∧ x = .agg #[.int .i64 (len : Int), .slice (some ⟨b, 0, none⟩) len len] ∧ Own w' b len (ahd E len)))
theorem prsIn_yes {E : Nat → Int × Int × Int} {i k : Nat} (h : leadB E k i = true) : prsIn E i (k + 1) = prsIn E i k ++ [(k, i)] := by simp [prsIn, h]
theorem prsIn_no {E : Nat → Int × Int × Int} {i k : Nat} (h : leadB E k i = false) : prsIn E i (k + 1) = prsIn E i k := by simp [prsIn, h]
/-- The event that is looked at, in a box of its own. -/
def EBox (w : World) (X : Nat) (q : Int × Int × Int) : Prop := w.heap[X]? = some (.cells #[.int .i64 q.1, .int .i64 q.2.1, .int .i64 q.2.2] 38 (0, 0))
theorem EBox.lt {w : World} {X : Nat} {q : Int × Int × Int} (h : EBox w X q) : X < w.heap.size := (Array.getElem?_eq_some_iff.1 h).1
theorem EBox.step {w w' : World} {X : Nat} {q : Int × Int × Int} (h : EBox w X q) (hb : Below w.heap.size w w') : EBox w' X q := (hb.block X h.lt).trans h
theorem EBox.cells {w : World} {X : Nat} {q : Int × Int × Int} (h : EBox w X q) : w.cell? ⟨X, 0, none⟩ = some (.int .i64 q.1) ∧ w.cell? ⟨X, 1, none⟩ = some (.int .i64 q.2.1) ∧ w.cell? ⟨X, 2, none⟩ = some (.int .i64 q.2.2) := by
  unfold EBox at h
  simp [World.cell?, h]
theorem EBox.grown {w w1 : World} {X base n : Nat} {q : Int × Int × Int} {v : Value} {xs : List Value} {o : Obj} (h : EBox w X q) (hown : w.ownsRow base 43 2 v n xs) (hg : (w.alloc o).grownBy w1 v.ownBlock) : EBox w1 X q := by
  have hlt := h.lt
  have e1 : (w.alloc o).heap[X]? = w.heap[X]? := ((Below.refl w.heap.size w).alloc (Nat.le_refl _) o).block X hlt
  refine (hg.block X (by simp; omega) (fun e => ?_)).trans (e1.trans h)
  rcases hown.2 with ⟨rfl, _⟩ | ⟨g, cap, cur, rfl, _, h2, _⟩
  · simp [Value.ownBlock] at e
  · simp [Value.ownBlock] at e
    subst e
    unfold EBox at h
    rw [h] at h2
    simp at h2
set_option maxRecDepth 100000 in
set_option maxHeartbeats 4000000 in
theorem ahead_any (Wk : Int) (a : Option Addr) (len cap : Nat) (E : Nat → Int × Int × Int) (w : World) (hl : len ≤ maxLen) (hc : len ≤ cap) (hr : ERow w a len E) :
    Calls Tryd.prog 5 #[.int .i64 Wk, .slice a len cap] w fun e w' => AhdPost w.heap.size Wk len E e w' ∧ Below w.heap.size w w' := by
  have HB0 : Hid (Below w.heap.size w (w.alloc (.cells #[.int .i64 0, .slice none 0 0] 26))) := (Below.refl _ _).alloc (Nat.le_refl _) _
  have HZ0 : Hid (ZBox (w.alloc (.cells #[.int .i64 0, .slice none 0 0] 26)) w.heap.size) := ZBox.new w
  have HR : Hid (ERow (w.alloc (.cells #[.int .i64 0, .slice none 0 0] 26)) a len E) := hr.below HB0.out
  have HL : Hid (len ≤ maxLen) := hl
  clear hr hl
  go_enter Tryd.func5, Tryd.ntmps5
  go_wp2_with fail
  refine (clockCheck_any Wk a len cap E _ HL.out hc HR.out).mono ?_
  rintro e w1 ⟨⟨c, rfl, hc1⟩, hb⟩
  have HZ1 : Hid (ZBox w1 w.heap.size) := HZ0.out.step hb
  have HB1 : Hid (Below w.heap.size w w1) := Below.then HB0.out hb
  have HR1 : Hid (ERow w1 a len E) := HR.out.below hb
  have HC : Hid (CkE Wk len E c) := hc1
  have HS1 : Hid (w.heap.size < w1.heap.size) := Nat.lt_of_lt_of_le (by simp) hb.size
  clear hb HB0 HZ0 HR hc1
  by_cases h0 : c = 0
  · subst h0
    obtain ⟨⟨_, _, h10⟩, hev⟩ := HC.out.good
    clear hev
    obtain ⟨i0, hi, hz0, hz1, hz2⟩ := info_parts Tryd.info43
    go_wp2_with fail
    go_loopw [7, 20] (fun v t wx => ∃ i : Nat, i ≤ len ∧ t = .int .i64 i ∧ wx.ownsRow w1.heap.size 43 2 v (prs E i).length (pairVals (prs E i)) ∧ Hid (Below w1.heap.size w1 wx)) (fun _ t _ => len - (intOf t).toNat)
    case atStart => exact ⟨0, Nat.zero_le _, rfl, World.ownsRow_nil _ _ _ _, Below.refl _ _⟩
    case round =>
      obtain ⟨i, hi', rfl, hown, hB⟩ := hrel
      by_cases hlt : i < len
      · obtain ⟨b, off, rfl, c1, c2, c3⟩ := (HR1.out.below hB.out) i hlt
        have hlt' : (i : Int) < (len : Int) := by omega
        go_wp2_with fail
        obtain ⟨W, HW⟩ : ∃ W, Hid (wr.alloc (.cells #[.int .i64 (E i).1, .int .i64 (E i).2.1, .int .i64 (E i).2.2] 38) = W) := ⟨_, rfl⟩
        have HBW : Hid (Below w1.heap.size w1 W) := by rw [← HW.out]; exact hB.out.alloc hB.out.size _
        have HO1 : Hid (W.ownsRow w1.heap.size 43 2 u7 (prs E i ++ prsIn E i 0).length (pairVals (prs E i ++ prsIn E i 0))) := by rw [show prsIn E i 0 = [] from rfl, List.append_nil, ← HW.out]; exact hown.alloc _
        obtain ⟨X, HX⟩ : ∃ X, Hid (wr.heap.size = X) := ⟨_, rfl⟩
        have HBX : Hid (EBox W X (E i)) := by rw [← HW.out, ← HX.out]; exact heap_alloc_new wr _
        rw [HX.out]
        rw [HW.out]
        clear hown hB c1 c2 c3
        go_loopw [7, 26] (fun v t wx => ∃ k : Nat, k ≤ i ∧ t = .int .i64 k ∧ wx.ownsRow w1.heap.size 43 2 v (prs E i ++ prsIn E i k).length (pairVals (prs E i ++ prsIn E i k)) ∧ Hid (EBox wx X (E i)) ∧ Hid (Below w1.heap.size w1 wx)) (fun _ t _ => i - (intOf t).toNat)
        case atStart => exact ⟨0, Nat.zero_le _, rfl, HO1.out, HBX.out, HBW.out⟩
        case round =>
          obtain ⟨k, hk, rfl, hown, hE, hB⟩ := hrel
          clear HO1 HBX HBW HW HX
          by_cases hki : k < i
          · have hki' : (k : Int) < (i : Int) := by omega
            have hkl' : (k : Int) < (len : Int) := by omega
            obtain ⟨b2, off2, hbo, c1, c2, c3⟩ := (HR1.out.below hB.out) k (by omega)
            simp at hbo
            obtain ⟨rfl, rfl⟩ := hbo
            have l0 : ∀ w', Below wr.heap.size wr w' → w'.cell? ⟨X, 0, none⟩ = some (.int .i64 (E i).1) := fun w' h => (hE.out.step h).cells.1
            have l1 : ∀ w', Below wr.heap.size wr w' → w'.cell? ⟨X, 1, none⟩ = some (.int .i64 (E i).2.1) := fun w' h => (hE.out.step h).cells.2.1
            have l2 : ∀ w', Below wr.heap.size wr w' → w'.cell? ⟨X, 2, none⟩ = some (.int .i64 (E i).2.2) := fun w' h => (hE.out.step h).cells.2.2
            have l3 : ∀ w', Below wr.heap.size wr w' → w'.cell? ⟨b, off + k * 3, none⟩ = some (.int .i64 (E k).1) := fun w' h => (h.cell (World.block_lt_of_cell? _ _ c1)).trans c1
            have l4 : ∀ w', Below wr.heap.size wr w' → w'.cell? ⟨b, off + k * 3 + 1, none⟩ = some (.int .i64 (E k).2.1) := fun w' h => (h.cell (World.block_lt_of_cell? _ _ c2)).trans c2
            have l5 : ∀ w', Below wr.heap.size wr w' → w'.cell? ⟨b, off + k * 3 + 2, none⟩ = some (.int .i64 (E k).2.2) := fun w' h => (h.cell (World.block_lt_of_cell? _ _ c3)).trans c3
            clear c1 c2 c3
            rcases (Bool.eq_false_or_eq_true (leadB E k i)).symm with hv | hv
            · have HE : Hid (prsIn E i (k + 1) = prsIn E i k) := prsIn_no hv
              go_wp2_with fail
              refine wp_region_held_drew (S := (fun w' => Below wr.heap.size wr w')) (by kernel_rfl) ((Below.refl _ _).drew) (fun hHeld => ?_)
              refine wpAnyH_take (i := 0) (oi := { dst := some 29, op := Go.Op.move (Go.Operand.tmp 1), type := 22, pos := "clock.go:34", after := #[], guard := none }) (v := ?_) rfl (by kernel_rfl) (by kernel_rfl) (by kernel_rfl) (fun _ _ _ h => h) (Or.inl ⟨by rfl, ?hy⟩) (by assumption) ?_
              case hy => (intro w9 hSw; (try dsimp only at hSw); go_simp; try with_reducible rfl)
              try simp only [Act.put, List.setIfInBounds_toArray, List.set_cons_zero, List.set_cons_succ]
              refine wpAnyH_take (i := 1) (oi := { dst := some 30, op := Go.Op.move (Go.Operand.tmp 10), type := 3, pos := "clock.go:34", after := #[], guard := none }) (v := ?_) rfl (by kernel_rfl) (by kernel_rfl) (by kernel_rfl) (fun _ _ _ h => h) (Or.inl ⟨by rfl, ?hy⟩) (by assumption) ?_
              case hy => (intro w9 hSw; (try dsimp only at hSw); go_simp; try with_reducible rfl)
              try simp only [Act.put, List.setIfInBounds_toArray, List.set_cons_zero, List.set_cons_succ]
              refine wpAnyH_take (i := 2) (oi := { dst := some 31, op := Go.Op.indexAddr 22 (Go.Operand.tmp 29) (Go.Operand.tmp 30), type := 0, pos := "clock.go:34", after := #[{ on := 0, ground := Go.Ground.data }, { on := 1, ground := Go.Ground.data }], guard := none }) (v := ?_) rfl (by kernel_rfl) (by kernel_rfl) (by kernel_rfl) (fun _ _ _ h => h) (Or.inl ⟨by rfl, ?hy⟩) (by assumption) ?_
              case hy => (intro w9 hSw; (try dsimp only at hSw); go_simp; try with_reducible rfl)
              try simp only [Act.put, List.setIfInBounds_toArray, List.set_cons_zero, List.set_cons_succ]
              refine wpAnyH_take (i := 3) (oi := { dst := some 32, op := Go.Op.load 38 (Go.Operand.tmp 31), type := 38, pos := "clock.go:34", after := #[{ on := 2, ground := Go.Ground.data }], guard := none }) (v := ?_) rfl (by kernel_rfl) (by kernel_rfl) (by kernel_rfl) (fun _ _ _ h => h) (Or.inl ⟨by rfl, ?hy⟩) (by assumption) ?_
              case hy => (intro w9 hSw; (try dsimp only at hSw); go_simp; try with_reducible rfl)
              try simp only [Act.put, List.setIfInBounds_toArray, List.set_cons_zero, List.set_cons_succ]
              refine wpAnyH_take (i := 4) (oi := { dst := some 33, op := Go.Op.load 38 (Go.Operand.tmp 9), type := 38, pos := "clock.go:34", after := #[], guard := none }) (v := ?_) rfl (by kernel_rfl) (by kernel_rfl) (by kernel_rfl) (fun _ _ _ h => h) (Or.inl ⟨by rfl, ?hy⟩) (by assumption) ?_
              case hy => (intro w9 hSw; (try dsimp only at hSw); go_simp; try with_reducible rfl)
              try simp only [Act.put, List.setIfInBounds_toArray, List.set_cons_zero, List.set_cons_succ]
              refine wpAnyH_ready (rs := [5]) (by kernel_rfl) (by simp) ?_
              refine AllReadyH.cons (o := { dst := some 34, op := Go.Op.call { callee := Go.Callee.value (Go.Operand.func 12), args := #[Go.Operand.tmp 32, Go.Operand.tmp 33], argTypes := #[38, 38] }, type := 4, pos := "clock.go:34", after := #[{ on := 3, ground := Go.Ground.data }, { on := 4, ground := Go.Ground.data }], guard := none }) rfl (fun K hK => ?_) AllReadyH.nil
              go_simp
              refine (leads_any (E k).1 (E k).2.1 (E k).2.2 (E i).1 (E i).2.1 (E i).2.2 _ false hv).mono ?_
              rintro e w5 ⟨rfl, hb5⟩
              refine hK.out _ _ ?_ (fun hHeld => ?_)
              · first | assumption | exact Below.then (by assumption) (by assumption)
              clear hK K
              try simp only [Act.put, List.setIfInBounds_toArray, List.set_cons_zero, List.set_cons_succ]
              refine wpAnyH_done (by kernel_rfl) ?_ _
              try simp only [Act.put, List.setIfInBounds_toArray, List.set_cons_zero, List.set_cons_succ]
              have HB5 : Hid (Below w1.heap.size w1 w5) := Below.then hB.out (by assumption)
              have HO5 : Hid (w5.ownsRow w1.heap.size 43 2 u7 (prs E i ++ prsIn E i (k + 1)).length (pairVals (prs E i ++ prsIn E i (k + 1)))) := by rw [HE.out]; exact owns_below hown (by assumption)
              have HX5 : Hid (EBox w5 X (E i)) := hE.out.step (by assumption)
              clear hown hE hB hb5 l0 l1 l2 l3 l4 l5 hv
              go_wp2_with fail
              go_roundw
              case rel => exact ⟨k + 1, by omega, by go_num, HO5.out, HX5.out, HB5.out⟩
              case measure => simp [intOf]; omega
            · have HE : Hid (prsIn E i (k + 1) = prsIn E i k ++ [(k, i)]) := prsIn_yes hv
              go_wp2_with fail
              refine wp_region_held_drew (S := (fun w' => Below wr.heap.size wr w')) (by kernel_rfl) ((Below.refl _ _).drew) (fun hHeld => ?_)
              refine wpAnyH_take (i := 0) (oi := { dst := some 29, op := Go.Op.move (Go.Operand.tmp 1), type := 22, pos := "clock.go:34", after := #[], guard := none }) (v := ?_) rfl (by kernel_rfl) (by kernel_rfl) (by kernel_rfl) (fun _ _ _ h => h) (Or.inl ⟨by rfl, ?hy⟩) (by assumption) ?_
              case hy => (intro w9 hSw; (try dsimp only at hSw); go_simp; try with_reducible rfl)
              try simp only [Act.put, List.setIfInBounds_toArray, List.set_cons_zero, List.set_cons_succ]
              refine wpAnyH_take (i := 1) (oi := { dst := some 30, op := Go.Op.move (Go.Operand.tmp 10), type := 3, pos := "clock.go:34", after := #[], guard := none }) (v := ?_) rfl (by kernel_rfl) (by kernel_rfl) (by kernel_rfl) (fun _ _ _ h => h) (Or.inl ⟨by rfl, ?hy⟩) (by assumption) ?_
              case hy => (intro w9 hSw; (try dsimp only at hSw); go_simp; try with_reducible rfl)
              try simp only [Act.put, List.setIfInBounds_toArray, List.set_cons_zero, List.set_cons_succ]
              refine wpAnyH_take (i := 2) (oi := { dst := some 31, op := Go.Op.indexAddr 22 (Go.Operand.tmp 29) (Go.Operand.tmp 30), type := 0, pos := "clock.go:34", after := #[{ on := 0, ground := Go.Ground.data }, { on := 1, ground := Go.Ground.data }], guard := none }) (v := ?_) rfl (by kernel_rfl) (by kernel_rfl) (by kernel_rfl) (fun _ _ _ h => h) (Or.inl ⟨by rfl, ?hy⟩) (by assumption) ?_
              case hy => (intro w9 hSw; (try dsimp only at hSw); go_simp; try with_reducible rfl)
              try simp only [Act.put, List.setIfInBounds_toArray, List.set_cons_zero, List.set_cons_succ]
              refine wpAnyH_take (i := 3) (oi := { dst := some 32, op := Go.Op.load 38 (Go.Operand.tmp 31), type := 38, pos := "clock.go:34", after := #[{ on := 2, ground := Go.Ground.data }], guard := none }) (v := ?_) rfl (by kernel_rfl) (by kernel_rfl) (by kernel_rfl) (fun _ _ _ h => h) (Or.inl ⟨by rfl, ?hy⟩) (by assumption) ?_
              case hy => (intro w9 hSw; (try dsimp only at hSw); go_simp; try with_reducible rfl)
              try simp only [Act.put, List.setIfInBounds_toArray, List.set_cons_zero, List.set_cons_succ]
              refine wpAnyH_take (i := 4) (oi := { dst := some 33, op := Go.Op.load 38 (Go.Operand.tmp 9), type := 38, pos := "clock.go:34", after := #[], guard := none }) (v := ?_) rfl (by kernel_rfl) (by kernel_rfl) (by kernel_rfl) (fun _ _ _ h => h) (Or.inl ⟨by rfl, ?hy⟩) (by assumption) ?_
              case hy => (intro w9 hSw; (try dsimp only at hSw); go_simp; try with_reducible rfl)
              try simp only [Act.put, List.setIfInBounds_toArray, List.set_cons_zero, List.set_cons_succ]
              refine wpAnyH_ready (rs := [5]) (by kernel_rfl) (by simp) ?_
              refine AllReadyH.cons (o := { dst := some 34, op := Go.Op.call { callee := Go.Callee.value (Go.Operand.func 12), args := #[Go.Operand.tmp 32, Go.Operand.tmp 33], argTypes := #[38, 38] }, type := 4, pos := "clock.go:34", after := #[{ on := 3, ground := Go.Ground.data }, { on := 4, ground := Go.Ground.data }], guard := none }) rfl (fun K hK => ?_) AllReadyH.nil
              go_simp
              refine (leads_any (E k).1 (E k).2.1 (E k).2.2 (E i).1 (E i).2.1 (E i).2.2 _ true hv).mono ?_
              rintro e w5 ⟨rfl, hb5⟩
              refine hK.out _ _ ?_ (fun hHeld => ?_)
              · first | assumption | exact Below.then (by assumption) (by assumption)
              clear hK K
              try simp only [Act.put, List.setIfInBounds_toArray, List.set_cons_zero, List.set_cons_succ]
              refine wpAnyH_done (by kernel_rfl) ?_ _
              try simp only [Act.put, List.setIfInBounds_toArray, List.set_cons_zero, List.set_cons_succ]
              have HB5 : Hid (Below w1.heap.size w1 w5) := Below.then hB.out (by assumption)
              have hown5 : w5.ownsRow w1.heap.size 43 2 u7 (prs E i ++ prsIn E i k).length (pairVals (prs E i ++ prsIn E i k)) := owns_below hown (by assumption)
              have HX5 : Hid (EBox w5 X (E i)) := hE.out.step (by assumption)
              have hlen3 : (prs E i ++ prsIn E i k).length ≤ 110 := by
                have h1 := prs_len E i
                have h2 := prsIn_len E i k
                have h3 : i * i ≤ 10 * 10 := Nat.mul_le_mul (by omega) (by omega)
                rw [List.length_append]; omega
              have hsz : w1.heap.size ≤ w5.heap.size := HB5.out.size
              obtain ⟨L, HLL⟩ : ∃ L, Hid (L = prs E i ++ prsIn E i k) := ⟨_, rfl⟩
              rw [← HLL.out] at hown5 hlen3
              clear hown hE hB hb5 l0 l1 l2 l3 l4 l5 hv
              go_wp2_with (at_builtin; refine wpList_append_own _ rfl _ _ 41 rfl w1.heap.size 43 i0 (.agg #[.int .i64 0, .int .i64 0]) 2 16 Tryd.underlying41 hi hz0 hz1 hz2 rfl (by decide) _ _ _ rfl (hown5.alloc _) ⟨w5.heap.size, 0, none⟩ 1 1 [.int .i64 (k : Nat), .int .i64 (i : Nat)] rfl rfl ?c1 ?c2 ?c3 ?c4 ?c5 ?_)
              case c1 =>
                intro j u hj
                match j, hj with
                | 0, hj => simp at hj; subst hj; simp [Addr.add]
                | 1, hj => simp at hj; subst hj; simp [Addr.add]
              case c2 => intro u hu; simp at hu; rcases hu with rfl | rfl <;> rfl
              case c3 => unfold maxLen; omega
              case c4 => omega
              case c5 => simp; omega
              intro v' w4 hown' hgrow _
              have HB6 : Hid (Below w1.heap.size w1 w4) := below_append2 HB5.out hown5 hgrow
              have HX6 : Hid (EBox w4 X (E i)) := HX5.out.grown hown5 hgrow
              have HO6 : Hid (w4.ownsRow w1.heap.size 43 2 v' (prs E i ++ prsIn E i (k + 1)).length (pairVals (prs E i ++ prsIn E i (k + 1)))) := by
                rw [HE.out, ← List.append_assoc, ← HLL.out, pairVals_append, List.length_append]; exact hown'
              clear hown' hgrow hown5 HB5 HX5 hlen3 hsz HLL
              go_wp2_with fail
              go_roundw
              case rel => exact ⟨k + 1, by omega, by go_num, HO6.out, HX6.out, HB6.out⟩
              case measure => simp [intOf]; omega
          · obtain rfl : k = i := by omega
            have HO6 : Hid (wr.ownsRow w1.heap.size 43 2 u7 (prs E (k + 1)).length (pairVals (prs E (k + 1)))) := hown
            clear hown hE
            go_wp2_with fail
            go_roundw
            case rel => exact ⟨k + 1, by omega, by go_num, HO6.out, hB.out⟩
            case measure => simp [intOf]; omega
      · obtain rfl : i = len := by omega
        obtain ⟨ap, capp, rfl, hpr⟩ := owns_pairs hown
        have HPR : Hid (PRow wr ap (prs E i).length (pairAt (prs E i))) := hpr
        have HPL : Hid ((prs E i).length ≤ maxLen) := by
          have h1 := prs_len E i
          have h3 : i * i ≤ 10 * 10 := Nat.mul_le_mul (by omega) (by omega)
          show _ ≤ _; unfold maxLen; omega
        clear hown hpr
        go_wp2_with fail
        refine (make_any (i : Int) ap (prs E i).length capp (pairAt (prs E i)) _ HPL.out HPR.out).mono ?_
        rintro e w2 ⟨hmade, hb⟩
        have HZ2 : ZBox w2 w.heap.size := (HZ1.out.step hB.out).step hb
        have HB2 : Hid (Below w.heap.size w w2) := Below.then (Below.then HB1.out hB.out) hb
        rcases hmade with ⟨c, hc0, hck, _⟩ | ⟨m, b, hck, hm, _, hbs, rfl, hO⟩
        · exact absurd (hck.unique (ahd_mk h10)) hc0
        · obtain rfl : i = m := by omega
          have HO : Hid (Own w2 b i (ahd E i)) := hO
          have HBS : Hid (w.heap.size < b) := by have h1 := HS1.out; have h2 := hB.out.size; have h3 : w.heap.size < b := by omega
                                                 exact h3
          obtain ⟨z1, z2, z3, z4⟩ := HZ2
          clear hO hb hB hck hm hbs
          go_wp2_with fail
          exact bodyPost_ret (v := .tuple #[.agg #[.int .i64 (i : Int), .slice (some ⟨b, 0, none⟩) i i], .int .i64 0]) (by simp [results, Tryd.results5, go_sem, z1, z2]) rfl ⟨⟨0, _, HC.out, rfl, .inr ⟨rfl, b, by have := HBS.out; omega, rfl, fun k hk => ⟨by
            rw [World.cell?_setCell_other _ _ _ _ (fun e => by have := HBS.out; injection e with e1; omega), World.cell?_setCell_other _ _ _ _ (fun e => by have := HBS.out; injection e with e1; omega)]; exact (HO.out k hk).1, by rw [World.frozen?_setCell, World.frozen?_setCell]; exact (HO.out k hk).2⟩⟩⟩, set2 HB2.out⟩
  · have h0' : (c != 0) = true := by simpa using h0
    obtain ⟨z1, z2, z3, z4⟩ := HZ1.out
    go_wp2_with fail
    exact bodyPost_ret (v := .tuple #[noOrder, .int .i64 c]) (by simp [results, Tryd.results5, go_sem, noOrder, z1, z2]) rfl ⟨⟨c, _, HC.out, rfl, .inl ⟨h0, rfl⟩⟩, set2 HB1.out⟩
end Go.Proofs.YtomoodpgmkjacabDoor
