/-
  What the reference's IsGraded and level.Graded answer. No condition but that a slice reads as a slice of numbers.
-/
import Derived.Test.YtliajgcobhjidaaLevBegun
namespace Go.Proofs.Ytliajgcobhjidaa
open Go.RowKit

/-- What covers is one higher. -/
def GrdAt (g : Nat → Nat) (n x y : Nat) : Prop := covB g n x y = true → ht g n y = ht g n x + 1
def Grd (g : Nat → Nat) (n : Nat) : Prop := ∀ x, x < n → ∀ y, y < n → GrdAt g n x y
theorem mem_rowPairs {C : Nat → Nat → Bool} {x : Nat} {p : Nat × Nat} : ∀ k, p ∈ rowPairs C x k ↔ p.1 = x ∧ p.2 < k ∧ C x p.2 = true
  | 0 => by simp [rowPairs]
  | k + 1 => by
    have ih := mem_rowPairs (C := C) (x := x) (p := p) k
    cases h : C x k
    · rw [rowPairs_no h, ih]
      constructor
      · rintro ⟨h1, h2, h3⟩; exact ⟨h1, by omega, h3⟩
      · rintro ⟨h1, h2, h3⟩
        refine ⟨h1, ?_, h3⟩
        have : p.2 ≠ k := fun e => by rw [e, h] at h3; cases h3
        omega
    · rw [rowPairs_yes h, List.mem_append, ih]
      constructor
      · rintro (⟨h1, h2, h3⟩ | h1)
        · exact ⟨h1, by omega, h3⟩
        · simp at h1; subst h1; exact ⟨rfl, by simp, h⟩
      · rintro ⟨h1, h2, h3⟩
        by_cases e : p.2 = k
        · right; simp; exact Prod.ext h1 e
        · left; exact ⟨h1, by omega, h3⟩
theorem mem_allPairs {C : Nat → Nat → Bool} {n : Nat} {p : Nat × Nat} : ∀ x, p ∈ allPairs C n x ↔ p.1 < x ∧ p.2 < n ∧ C p.1 p.2 = true
  | 0 => by simp [allPairs]
  | x + 1 => by
    have ih := mem_allPairs (C := C) (n := n) (p := p) x
    rw [allPairs, List.mem_append, ih, mem_rowPairs]
    constructor
    · rintro (⟨h1, h2⟩ | ⟨h1, h2, h3⟩)
      · exact ⟨by omega, h2⟩
      · rw [← h1] at h3; exact ⟨by omega, h2, h3⟩
    · rintro ⟨h1, h2, h3⟩
      by_cases e : p.1 = x
      · right; rw [e] at h3; exact ⟨e, h2, h3⟩
      · left; exact ⟨by omega, h2, h3⟩
theorem grd_of_list {g : Nat → Nat} {n : Nat} (h : ∀ j, j < (covs g n).length → ht g n ((covs g n).getD j (0, 0)).2 = ht g n ((covs g n).getD j (0, 0)).1 + 1) : Grd g n := by
  intro x hx y hy hc
  have hm : (x, y) ∈ covs g n := (mem_allPairs n).2 ⟨hx, hy, hc⟩
  obtain ⟨j, hj, e⟩ := List.getElem_of_mem hm
  have := h j hj
  rw [List.getD_eq_getElem?_getD, List.getElem?_eq_getElem hj, Option.getD_some, e] at this
  exact this
theorem covs_at {g : Nat → Nat} {n j : Nat} (hj : j < (covs g n).length) : ((covs g n).getD j (0, 0)).1 < n ∧ ((covs g n).getD j (0, 0)).2 < n ∧ covB g n ((covs g n).getD j (0, 0)).1 ((covs g n).getD j (0, 0)).2 = true := by
  have e : (covs g n).getD j (0, 0) = (covs g n)[j] := by rw [List.getD_eq_getElem?_getD, List.getElem?_eq_getElem hj, Option.getD_some]
  rw [e]
  exact (mem_allPairs n).1 (List.getElem_mem hj)

theorem cover_as (a : Option Addr) (n cap : Nat) (g : Nat → Nat) (x y : Nat) (b : Bool) (w : World) (hb : covB g n x y = b) (h10 : n ≤ 10) (hg : Sm n n g) (hr : Row w a n (fun k => (g k : Nat))) (hx : x < n) (hy : y < n) :
    Calls Try.prog 28 #[.agg #[.int .i64 (n : Int), .slice a n cap], .int .i64 x, .int .i64 y] w fun e w' => e = .returned (.bool b) ∧ Below w.heap.size w w' := by
  rw [← hb]; exact cover_any a n cap g x y w h10 hg hr hx hy
theorem ht_as (n : Nat) (a : Option Addr) (cap : Nat) (g : Nat → Nat) (i X : Nat) (w : World) (hX : X = ht g n i) (h10 : n ≤ 10) (hg : Sm n n g) (ho : Ord n g) (hi : i < n) (hr : Row w a n (fun k => (g k : Nat))) :
    Calls Try.prog 22 #[.agg #[.int .i64 (n : Int), .slice a n cap], .int .i64 i] w fun e w' => e = .returned (.int .i64 (X : Nat)) ∧ Below w.heap.size w w' := by
  rw [hX]; exact ht_any n a cap g i w h10 hg ho hi hr

set_option maxHeartbeats 1000000 in
theorem isGraded_any (a : Option Addr) (n cap : Nat) (g : Nat → Nat) (w : World) (h10 : n ≤ 10) (hg : Sm n n g) (ho : Ord n g) (hr : Row w a n (fun k => (g k : Nat))) :
    Calls Try.prog 16 #[.agg #[.int .i64 (n : Int), .slice a n cap]] w fun e w' => Ans e (Grd g n) ∧ Below w.heap.size w w' := by
  have HG : Hid (Sm n n g) := hg
  have HO : Hid (Ord n g) := ho
  have HSM : Hid (∀ j, ht g n j ≤ 1024) := fun j => ht_small g h10 j
  have K0 : Held (w.alloc (.cells #[.int .i64 (n : Int), .slice a n cap] 24)) w.heap.size n a n cap (fun k => (g k : Nat)) := Held.box hr
  have HB0 : Hid (Below w.heap.size w (w.alloc (.cells #[.int .i64 (n : Int), .slice a n cap] 24))) := (Below.refl _ _).alloc (Nat.le_refl _) _
  clear hr hg ho
  go_enter Try.func16, Try.ntmps16
  go_wp2
  go_loopw [3] (fun x wx => ∃ p : Nat, p ≤ n ∧ x = .int .i64 p ∧ Hid (∀ q, q < p → ∀ y, y < n → GrdAt g n q y) ∧ Held wx w.heap.size n a n cap (fun k => (g k : Nat)) ∧ Hid (Below w.heap.size w wx)) (fun x _ => n - (intOf x).toNat)
  case atStart => exact ⟨0, Nat.zero_le _, rfl, upto_zero, K0, HB0.out⟩
  case round =>
    clear K0 HB0
    obtain ⟨p, hp, rfl, hok, hH, hB⟩ := hrel
    have c0 := hH.c0
    by_cases hpl : p < n
    · have hlt : (p : Int) < (n : Int) := by omega
      have HH : Hid (Held wr w.heap.size n a n cap (fun k => (g k : Nat))) := hH
      clear hH
      go_wp2_with fail
      clear c0
      go_loopw [4] (fun x wx => ∃ q : Nat, q ≤ n ∧ x = .int .i64 q ∧ Hid (∀ y, y < q → GrdAt g n p y) ∧ Held wx w.heap.size n a n cap (fun k => (g k : Nat)) ∧ Hid (Below w.heap.size w wx)) (fun x _ => n - (intOf x).toNat)
      case atStart => exact ⟨0, Nat.zero_le _, rfl, upto_zero, HH.out, hB.out⟩
      case round =>
        clear HH hB
        obtain ⟨q, hq, rfl, hok2, hH, hB⟩ := hrel
        have c0 := hH.c0
        have c1 := hH.c1
        by_cases hql : q < n
        · have hlt2 : (q : Int) < (n : Int) := by omega
          have hF1 := HSM.out p
          have hF2 := HSM.out q
          have l0 : ∀ w', Below wr.heap.size wr w' → w'.cell? ⟨w.heap.size, 0, none⟩ = some (.int .i64 (n : Int)) := fun w' h => (hH.step h).c0
          have l1 : ∀ w', Below wr.heap.size wr w' → w'.cell? ⟨w.heap.size, 1, none⟩ = some (.slice a n cap) := fun w' h => (hH.step h).c1
          have LR : Hid (∀ w', Below wr.heap.size wr w' → Row w' a n (fun k => (g k : Nat))) := fun w' h => (hH.step h).row
          have KK : Below wr.heap.size wr wr.drew := (Below.refl _ _).drew
          rcases (Bool.eq_false_or_eq_true (covB g n p q)).symm with hb | hb
          · have HY : Hid (GrdAt g n p q) := fun h => by rw [hb] at h; cases h
            have HKEEP : Hid (∀ w', Below wr.heap.size wr w' → Held w' w.heap.size n a n cap (fun k => (g k : Nat)) ∧ Below w.heap.size w w') := fun w' h => ⟨hH.step h, Below.then hB.out h⟩
            clear hH hB
            go_wp2_with fail
            refine wp_region_held_drew (S := (fun w' => Below wr.heap.size wr w')) (by kernel_rfl) (KK) (fun hHeld => ?_)
            refine wpAnyH_take (i := 0) (oi := { dst := some 17, op := Op.load 24 (Operand.tmp 1), type := 24, pos := "chain.go:149", after := #[], guard := none }) (v := ?_) rfl (by kernel_rfl) (by kernel_rfl) (by kernel_rfl) (fun _ _ _ h => h) (Or.inl ⟨by rfl, ?hy⟩) (by assumption) ?_
            case hy => (intro w9 hSw; (try dsimp only at hSw); go_simp; try with_reducible rfl)
            try simp only [Act.put, List.setIfInBounds_toArray, List.set_cons_zero, List.set_cons_succ]
            refine wpAnyH_take (i := 1) (oi := { dst := some 18, op := Op.move (Operand.tmp 3), type := 3, pos := "chain.go:149", after := #[], guard := none }) (v := ?_) rfl (by kernel_rfl) (by kernel_rfl) (by kernel_rfl) (fun _ _ _ h => h) (Or.inl ⟨by rfl, ?hy⟩) (by assumption) ?_
            case hy => (intro w9 hSw; (try dsimp only at hSw); go_simp; try with_reducible rfl)
            try simp only [Act.put, List.setIfInBounds_toArray, List.set_cons_zero, List.set_cons_succ]
            refine wpAnyH_take (i := 2) (oi := { dst := some 19, op := Op.move (Operand.tmp 4), type := 3, pos := "chain.go:149", after := #[], guard := none }) (v := ?_) rfl (by kernel_rfl) (by kernel_rfl) (by kernel_rfl) (fun _ _ _ h => h) (Or.inl ⟨by rfl, ?hy⟩) (by assumption) ?_
            case hy => (intro w9 hSw; (try dsimp only at hSw); go_simp; try with_reducible rfl)
            try simp only [Act.put, List.setIfInBounds_toArray, List.set_cons_zero, List.set_cons_succ]
            refine wpAnyH_ready (rs := [3]) (by kernel_rfl) (by simp) ?_
            refine AllReadyH.cons (o := { dst := some 20, op := Op.call { callee := Callee.value (Operand.func 28), args := #[Operand.tmp 17, Operand.tmp 18, Operand.tmp 19], argTypes := #[24, 3, 3] }, type := 4, pos := "chain.go:149", after := #[{ on := 0, ground := Ground.data }, { on := 1, ground := Ground.data }, { on := 2, ground := Ground.data }], guard := none }) rfl (fun K hK => ?_) AllReadyH.nil
            go_simp
            refine (cover_as a n cap g p q false _ hb h10 HG.out (LR.out _ (by assumption)) hpl hql).mono ?_
            rintro e w1 ⟨rfl, hb1⟩
            refine hK.out _ _ ?_ (fun hHeld => ?_)
            · exact Below.then (by assumption) (by assumption)
            clear hK K
            try simp only [Act.put, List.setIfInBounds_toArray, List.set_cons_zero, List.set_cons_succ]
            refine wpAnyH_take (i := 4) (oi := { dst := some 21, op := Op.move (Operand.tmp 20), type := 4, pos := "chain.go:149", after := #[{ on := 3, ground := Ground.data }, { on := 3, ground := Ground.chain }], guard := none }) (v := ?_) rfl (by kernel_rfl) (by kernel_rfl) (by kernel_rfl) (fun _ _ _ h => h) (Or.inl ⟨by rfl, ?hy⟩) (by assumption) ?_
            case hy => (intro w9 hSw; (try dsimp only at hSw); go_simp; try with_reducible rfl)
            try simp only [Act.put, List.setIfInBounds_toArray, List.set_cons_zero, List.set_cons_succ]
            refine wpAnyH_take (i := 5) (oi := { dst := some 22, op := Op.load 24 (Operand.tmp 1), type := 24, pos := "chain.go:149", after := #[{ on := 4, ground := Ground.guard }], guard := some (4, true) }) (v := undef) rfl (by kernel_rfl) (by kernel_rfl) (by kernel_rfl) (fun _ _ _ h => h) (Or.inr ⟨by rfl, rfl⟩) (by assumption) ?_
            try simp only [Act.put, List.setIfInBounds_toArray, List.set_cons_zero, List.set_cons_succ]
            refine wpAnyH_take (i := 6) (oi := { dst := some 23, op := Op.move (Operand.tmp 4), type := 3, pos := "chain.go:149", after := #[{ on := 4, ground := Ground.guard }], guard := some (4, true) }) (v := undef) rfl (by kernel_rfl) (by kernel_rfl) (by kernel_rfl) (fun _ _ _ h => h) (Or.inr ⟨by rfl, rfl⟩) (by assumption) ?_
            try simp only [Act.put, List.setIfInBounds_toArray, List.set_cons_zero, List.set_cons_succ]
            refine wpAnyH_take (i := 7) (oi := { dst := some 24, op := Op.call { callee := Callee.value (Operand.func 22), args := #[Operand.tmp 22, Operand.tmp 23], argTypes := #[24, 3] }, type := 3, pos := "chain.go:149", after := #[{ on := 5, ground := Ground.data }, { on := 6, ground := Ground.data }, { on := 4, ground := Ground.chain }, { on := 4, ground := Ground.guard }], guard := some (4, true) }) (v := undef) rfl (by kernel_rfl) (by kernel_rfl) (by kernel_rfl) (fun _ _ _ h => h) (Or.inr ⟨by rfl, rfl⟩) (by assumption) ?_
            try simp only [Act.put, List.setIfInBounds_toArray, List.set_cons_zero, List.set_cons_succ]
            refine wpAnyH_take (i := 8) (oi := { dst := some 25, op := Op.load 24 (Operand.tmp 1), type := 24, pos := "chain.go:149", after := #[{ on := 4, ground := Ground.guard }], guard := some (4, true) }) (v := undef) rfl (by kernel_rfl) (by kernel_rfl) (by kernel_rfl) (fun _ _ _ h => h) (Or.inr ⟨by rfl, rfl⟩) (by assumption) ?_
            try simp only [Act.put, List.setIfInBounds_toArray, List.set_cons_zero, List.set_cons_succ]
            refine wpAnyH_take (i := 9) (oi := { dst := some 26, op := Op.move (Operand.tmp 3), type := 3, pos := "chain.go:149", after := #[{ on := 4, ground := Ground.guard }], guard := some (4, true) }) (v := undef) rfl (by kernel_rfl) (by kernel_rfl) (by kernel_rfl) (fun _ _ _ h => h) (Or.inr ⟨by rfl, rfl⟩) (by assumption) ?_
            try simp only [Act.put, List.setIfInBounds_toArray, List.set_cons_zero, List.set_cons_succ]
            refine wpAnyH_take (i := 10) (oi := { dst := some 27, op := Op.call { callee := Callee.value (Operand.func 22), args := #[Operand.tmp 25, Operand.tmp 26], argTypes := #[24, 3] }, type := 3, pos := "chain.go:149", after := #[{ on := 8, ground := Ground.data }, { on := 9, ground := Ground.data }, { on := 7, ground := Ground.chain }, { on := 4, ground := Ground.guard }], guard := some (4, true) }) (v := undef) rfl (by kernel_rfl) (by kernel_rfl) (by kernel_rfl) (fun _ _ _ h => h) (Or.inr ⟨by rfl, rfl⟩) (by assumption) ?_
            try simp only [Act.put, List.setIfInBounds_toArray, List.set_cons_zero, List.set_cons_succ]
            refine wpAnyH_take (i := 11) (oi := { dst := some 28, op := Op.binOp BinOp.add 3 (Operand.tmp 27) (Operand.const (Value.int IntKind.i64 1)) 3, type := 3, pos := "chain.go:149", after := #[{ on := 10, ground := Ground.data }, { on := 4, ground := Ground.guard }], guard := some (4, true) }) (v := undef) rfl (by kernel_rfl) (by kernel_rfl) (by kernel_rfl) (fun _ _ _ h => h) (Or.inr ⟨by rfl, rfl⟩) (by assumption) ?_
            try simp only [Act.put, List.setIfInBounds_toArray, List.set_cons_zero, List.set_cons_succ]
            refine wpAnyH_take (i := 12) (oi := { dst := some 29, op := Op.binOp BinOp.neq 3 (Operand.tmp 24) (Operand.tmp 28) 3, type := 4, pos := "chain.go:149", after := #[{ on := 7, ground := Ground.data }, { on := 11, ground := Ground.data }, { on := 4, ground := Ground.guard }], guard := some (4, true) }) (v := undef) rfl (by kernel_rfl) (by kernel_rfl) (by kernel_rfl) (fun _ _ _ h => h) (Or.inr ⟨by rfl, rfl⟩) (by assumption) ?_
            try simp only [Act.put, List.setIfInBounds_toArray, List.set_cons_zero, List.set_cons_succ]
            refine wpAnyH_take (i := 13) (oi := { dst := some 30, op := Op.pick (Operand.tmp 21) (Operand.tmp 29) (Operand.const (Value.bool false)), type := 4, pos := "chain.go:149", after := #[{ on := 4, ground := Ground.data }, { on := 12, ground := Ground.data }], guard := none }) (v := ?_) rfl (by kernel_rfl) (by kernel_rfl) (by kernel_rfl) (fun _ _ _ h => h) (Or.inl ⟨by rfl, ?hy⟩) (by assumption) ?_
            case hy => (intro w9 hSw; (try dsimp only at hSw); go_simp; try with_reducible rfl)
            try simp only [Act.put, List.setIfInBounds_toArray, List.set_cons_zero, List.set_cons_succ]
            refine wpAnyH_done (by kernel_rfl) ?_ _
            go_wp2_with fail
            go_roundw
            case rel => exact ⟨q + 1, by omega, by go_num, upto_succ hok2.out HY.out, (HKEEP.out _ (by assumption)).1, (HKEEP.out _ (by assumption)).2⟩
            case measure => simp [intOf]; omega
          · obtain ⟨X, HX⟩ : ∃ X, Hid (X = ht g n p) := ⟨_, rfl⟩
            obtain ⟨Y, HY⟩ : ∃ Y, Hid (Y = ht g n q) := ⟨_, rfl⟩
            rw [← HX.out] at hF1
            rw [← HY.out] at hF2
            have HXY : Hid (GrdAt g n p q ↔ Y = X + 1) := by rw [HX.out, HY.out]; exact ⟨fun h => h hb, fun h _ => h⟩
            have HKEEP : Hid (∀ w', Below wr.heap.size wr w' → Held w' w.heap.size n a n cap (fun k => (g k : Nat)) ∧ Below w.heap.size w w') := fun w' h => ⟨hH.step h, Below.then hB.out h⟩
            clear hH hB
            have hwr : IntKind.i64.wrap ((X : Int) + 1) = (X : Int) + 1 := wrap_i64_small _ (by omega) (by omega)
            by_cases he : Y = X + 1
            · have hqq : (((Y : Nat) : Int) != (X : Int) + 1) = false := by simp; omega
              have HYY : Hid (GrdAt g n p q) := HXY.out.2 he
              clear he
              go_wp2_with fail
              go_region_held3 (fun w' => Below wr.heap.size wr w')
                (first | exact KK | assumption | exact Below.then (by assumption) (by assumption))
                (first
                  | (go_at_call 28; refine (cover_as a n cap g p q true _ hb h10 HG.out (LR.out _ (by assumption)) hpl hql).mono ?_; rintro e w1 ⟨rfl, hb1⟩)
                  | (go_at_call_of 22 (Value.int IntKind.i64 (q : Int)); refine (ht_as n a cap g q Y _ HY.out h10 HG.out HO.out hql (LR.out _ (by assumption))).mono ?_; rintro e w1 ⟨rfl, hb1⟩)
                  | (go_at_call_of 22 (Value.int IntKind.i64 (p : Int)); refine (ht_as n a cap g p X _ HX.out h10 HG.out HO.out hpl (LR.out _ (by assumption))).mono ?_; rintro e w1 ⟨rfl, hb1⟩))
              all_goals go_wp2_with fail
              all_goals go_roundw
              case rel => exact ⟨q + 1, by omega, by go_num, upto_succ hok2.out HYY.out, (HKEEP.out _ (by assumption)).1, (HKEEP.out _ (by assumption)).2⟩
              case measure => simp [intOf]; omega
            · have hqq : (((Y : Nat) : Int) != (X : Int) + 1) = true := by simp; omega
              have HNO : Hid (¬ Grd g n) := fun h => he (HXY.out.1 (h p hpl q hql))
              clear he
              go_wp2_with fail
              go_region_held3 (fun w' => Below wr.heap.size wr w')
                (first | exact KK | assumption | exact Below.then (by assumption) (by assumption))
                (first
                  | (go_at_call 28; refine (cover_as a n cap g p q true _ hb h10 HG.out (LR.out _ (by assumption)) hpl hql).mono ?_; rintro e w1 ⟨rfl, hb1⟩)
                  | (go_at_call_of 22 (Value.int IntKind.i64 (q : Int)); refine (ht_as n a cap g q Y _ HY.out h10 HG.out HO.out hql (LR.out _ (by assumption))).mono ?_; rintro e w1 ⟨rfl, hb1⟩)
                  | (go_at_call_of 22 (Value.int IntKind.i64 (p : Int)); refine (ht_as n a cap g p X _ HX.out h10 HG.out HO.out hpl (LR.out _ (by assumption))).mono ?_; rintro e w1 ⟨rfl, hb1⟩))
              all_goals go_wp2_with fail
              all_goals go_ret
              all_goals exact ⟨Ans.no HNO.out, (HKEEP.out _ (by assumption)).2⟩
        · have hqn : q = n := by omega
          have hge : (n : Int) ≤ (q : Int) := by omega
          have HYY : Hid (∀ y, y < n → GrdAt g n p y) := fun y hy => hok2.out y (by omega)
          clear hqn c1
          go_wp2_with fail
          go_roundw
          case rel => exact ⟨p + 1, by omega, by go_num, upto_succ hok.out HYY.out, hH, hB.out⟩
          case measure => simp [intOf]; omega
    · have hpn : p = n := by omega
      have HYY : Hid (Grd g n) := fun x hx => hok.out x (by omega)
      have hge : (n : Int) ≤ (p : Int) := by omega
      clear hpn
      go_wp2_with fail
      go_ret
      exact ⟨Ans.yes HYY.out, hB.out⟩
end Go.Proofs.Ytliajgcobhjidaa
