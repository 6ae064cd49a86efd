/-
  What the reference's Under, LatticeMonotone and FixedEnd answer of a lattice and a map of its elements. Conditions: tables of at most forty elements; the map goes to elements.
  What the reference's FixedEnd answers of a lattice and a map of its elements where there is just one such element. Conditions: as the theorem says.
  What the reference's LatticeMonotone and FixedEnd answer of a lattice in which nothing is wrong, and a map. Conditions: as the theorems say.
  What fix.fixed, fix.Fixed and the reference's FixedSet answer; hasselaw.FixFixed returns true for every order and list. Conditions: slices read as slices of numbers; the law: the library's table lies in its variable.
  What hasselaw.mapsElements answers; hasselaw.FixEnds returns true for every lattice and list. Conditions: slices read as slices of rows and of numbers; the law: the library's table lies in its variable.
-/
import Derived.Deep.RegionHeld3
import Derived.Test.YtgmpmmdginikdaaDoorFixF
import Derived.Test.YtgmpmmdginikdaaDoorRefMon
import Derived.Test.YtgmpmmdginikdaaDoorFBegun
import Derived.Test.YtgmpmmdginikdaaDoorRefLat
namespace Go.Proofs.YtgmpmmdginikdaaDoor
open Go.RowKit

theorem int_beq' (a b : Nat) : (((a : Nat) : Int) == ((b : Nat) : Int)) = (a == b) := by
  rw [Bool.eq_iff_iff]; simp; omega
set_option maxHeartbeats 1000000 in
theorem under_any (n b1 o1 ca : Nat) (b2 : Option Addr) (lb cb : Nat) (R1 : Nat → Nat × Nat × Nat) (m : Nat → Nat → Nat) (x y : Nat) (w : World) (v : Bool) (hv : leB m x y = v) (ht1 : Tb w b1 o1 n R1 m) (hx : x < n) (hy : y < n) :
    Calls Tryd.prog 51 #[.agg #[.int .i64 (n : Int), .slice (some ⟨b1, o1, none⟩) n ca, .slice b2 lb cb], .int .i64 (x : Nat), .int .i64 (y : Nat)] w fun e w' => e = .returned (.bool v) ∧ Below w.heap.size w w' := by
  have B1 : Below w.heap.size w (w.alloc (.cells #[.int .i64 (n : Int), .slice (some ⟨b1, o1, none⟩) n ca, .slice b2 lb cb] 49)) := (Below.refl _ _).alloc (Nat.le_refl _) _
  have ht := ht1.step B1
  have HB : Hid (Below w.heap.size w (w.alloc (.cells #[.int .i64 (n : Int), .slice (some ⟨b1, o1, none⟩) n ca, .slice b2 lb cb] 49))) := B1
  have r1 := (ht x hx).1
  have r2 := (ht x hx).2 y hy
  have i1 : (x : Int) < (n : Int) := by omega
  have i2 : (y : Int) < (n : Int) := by omega
  have hq : (((m x y : Nat) : Int) == ((x : Nat) : Int)) = v := by rw [int_beq']; exact hv
  clear ht ht1 B1 hv
  go_enter Tryd.func51, Tryd.ntmps51
  go_wp2_with fail
  go_ret
  exact ⟨rfl, HB.out⟩


/-- So far the reference has found nothing against it. -/
def LaV (m : Nat → Nat → Nat) (f : Nat → Nat) (q i k : Nat) : Prop := ∀ x y, x < q → y < q → (x < i ∨ (x = i ∧ y < k)) → leB m x y = true → leB m (f x) (f y) = true
theorem LaV.zero (m : Nat → Nat → Nat) (f : Nat → Nat) (q : Nat) : LaV m f q 0 0 := fun x y _ _ h => by omega
theorem LaV.next {m : Nat → Nat → Nat} {f : Nat → Nat} {q i k : Nat} (h : LaV m f q i k) (e : leB m i k = true → leB m (f i) (f k) = true) : LaV m f q i (k + 1) := fun x y hx hy z => by
  rcases (by omega : (x < i ∨ (x = i ∧ y < k)) ∨ (x = i ∧ y = k)) with h1 | ⟨rfl, rfl⟩
  · exact h x y hx hy h1
  · exact e
theorem LaV.row {m : Nat → Nat → Nat} {f : Nat → Nat} {q i : Nat} (h : LaV m f q i q) : LaV m f q (i + 1) 0 := fun x y hx hy z => h x y hx hy (by omega)
theorem LaV.all {m : Nat → Nat → Nat} {f : Nat → Nat} {q : Nat} (h : LaV m f q q 0) : MonP (leB m) (leB m) f q := fun y hy x hx e => h x y hx hy (.inl hx) e
theorem LaV.not {m : Nat → Nat → Nat} {f : Nat → Nat} {q i k : Nat} (hi : i < q) (hk : k < q) (h1 : leB m i k = true) (h2 : leB m (f i) (f k) = false) : ¬ MonP (leB m) (leB m) f q := fun h => by
  have := h k hk i hi h1
  rw [h2] at this
  cases this

set_option maxHeartbeats 4000000 in
theorem latMon_any (q b1 o1 ca : Nat) (b2 : Option Addr) (lb cb : Nat) (R1 : Nat → Nat × Nat × Nat) (m : Nat → Nat → Nat) (fa : Option Addr) (fc : Nat) (f : Nat → Nat) (w : World) (h40 : q ≤ 40) (hff : ∀ k, k < q → f k < q)
    (ht1 : Tb w b1 o1 q R1 m) (hr : Row w fa q (fun k => (f k : Nat))) :
    Calls Tryd.prog 50 #[.agg #[.int .i64 (q : Nat), .slice (some ⟨b1, o1, none⟩) q ca, .slice b2 lb cb], .slice fa q fc] w fun e w' => BIs e (MonP (leB m) (leB m) f q) ∧ Below w.heap.size w w' := by
  obtain ⟨W, eW⟩ : ∃ W, Hid (W = w.alloc (.cells #[.int .i64 (q : Nat), .slice (some ⟨b1, o1, none⟩) q ca, .slice b2 lb cb] 49)) := ⟨_, rfl⟩
  have hW : Below w.heap.size w W := by rw [eW.out]; exact (Below.refl _ _).alloc (Nat.le_refl _) _
  have HB : Hid (Below w.heap.size w W) := hW
  have xa : LB W w.heap.size (q : Nat) (some ⟨b1, o1, none⟩) q ca b2 lb cb := by rw [eW.out]; exact LB.new _ _ _ _ _ _ _ _
  have HX : Hid (∀ wx, Below W.heap.size W wx → LB wx w.heap.size (q : Nat) (some ⟨b1, o1, none⟩) q ca b2 lb cb) := fun wx h => xa.step h
  have HFF : Hid (∀ x, x < q → f x < q) := hff
  have HT1 : Hid (∀ wx, Below W.heap.size W wx → Tb wx b1 o1 q R1 m) := fun wx h => (ht1.step hW).step h
  have HR : Hid (∀ wx, Below W.heap.size W wx → Row wx fa q (fun k => (f k : Nat))) := fun wx h => (hr.below hW).below h
  clear hW hff ht1 hr xa
  go_enter Tryd.func50, Tryd.ntmps50
  go_wp2_with fail
  rw [← eW.out]
  clear eW
  go_wp2_with fail
  go_loopw [5] (fun t wx => ∃ i : Nat, i ≤ q ∧ t = .int .i64 i ∧ Hid (Below W.heap.size W wx) ∧ Hid (LaV m f q i 0)) (fun t _ => q - (intOf t).toNat)
  case atStart => exact ⟨0, Nat.zero_le _, rfl, Below.refl _ _, LaV.zero _ _ _⟩
  case round =>
    obtain ⟨i, hi, rfl, HW, HI⟩ := hrel
    obtain ⟨l0, l1, l2⟩ := HX.out _ HW.out
    by_cases hlt : i < q
    · go_wp2_with fail
      clear l0 l1 l2
      go_loopw [6] (fun t wx => ∃ k : Nat, k ≤ q ∧ t = .int .i64 k ∧ Hid (Below W.heap.size W wx) ∧ Hid (LaV m f q i k)) (fun t _ => q - (intOf t).toNat)
      case atStart => exact ⟨0, Nat.zero_le _, rfl, HW, HI⟩
      case round =>
        clear HW HI
        obtain ⟨k, hk', rfl, HW, HI⟩ := hrel
        obtain ⟨l0, l1, l2⟩ := HX.out _ HW.out
        by_cases hk : k < q
        · obtain ⟨fb, fo, rfl, hci⟩ := HR.out _ HW.out i hlt
          have c1 : ∀ w', Below W.heap.size W w' → w'.cell? ⟨fb, fo + i, none⟩ = some (.int .i64 (f i : Nat)) := fun w' h => by
            obtain ⟨_, _, e, h2⟩ := HR.out _ h i hlt
            cases e; exact h2
          have c2 : ∀ w', Below W.heap.size W w' → w'.cell? ⟨fb, fo + k, none⟩ = some (.int .i64 (f k : Nat)) := fun w' h => by
            obtain ⟨_, _, e, h2⟩ := HR.out _ h k hk
            cases e; exact h2
          have a0 : ∀ w', Below W.heap.size W w' → w'.cell? ⟨w.heap.size, 0, none⟩ = some (.int .i64 (q : Nat)) := fun w' h => (HX.out _ h).1
          have a1 : ∀ w', Below W.heap.size W w' → w'.cell? ⟨w.heap.size, 1, none⟩ = some (.slice (some ⟨b1, o1, none⟩) q ca) := fun w' h => (HX.out _ h).2.1
          have a2 : ∀ w', Below W.heap.size W w' → w'.cell? ⟨w.heap.size, 2, none⟩ = some (.slice b2 lb cb) := fun w' h => (HX.out _ h).2.2
          have ii : (i : Int) < (q : Int) := by omega
          have ik : (k : Int) < (q : Int) := by omega
          have hfi := HFF.out i hlt
          have hfk := HFF.out k hk
          have KK := HW.out.drew
          obtain ⟨v1, hv1⟩ : ∃ v, leB m i k = v := ⟨_, rfl⟩
          obtain ⟨v2, hv2⟩ : ∃ v, leB m (f i) (f k) = v := ⟨_, rfl⟩
          clear hci
          rcases v1 with _ | _
          · have HN : Hid (LaV m f q i (k + 1)) := HI.out.next (fun e => by rw [hv1] at e; cases e)
            clear HI
            go_wp2_with fail
            clear l0 l1 l2
            refine wp_region_held_drew (S := (fun w' => Below W.heap.size W w')) (by kernel_rfl) (KK) (fun hHeld => ?_)
            refine wpAnyH_take (i := 0) (oi := { dst := some 19, op := Go.Op.load 49 (Go.Operand.tmp 2), type := 49, pos := "fix.go:95", after := #[], guard := none }) (v := ?_) rfl (by kernel_rfl) (by kernel_rfl) (by kernel_rfl) (fun _ _ _ h => h) (Or.inl ⟨by rfl, ?hy⟩) (by assumption) ?_
            case hy => (intro w9 hSw; (try dsimp only at hSw); go_simp; try with_reducible rfl)
            try simp only [Act.put, List.setIfInBounds_toArray, List.set_cons_zero, List.set_cons_succ]
            refine wpAnyH_take (i := 1) (oi := { dst := some 20, op := Go.Op.move (Go.Operand.tmp 5), type := 3, pos := "fix.go:95", after := #[], guard := none }) (v := ?_) rfl (by kernel_rfl) (by kernel_rfl) (by kernel_rfl) (fun _ _ _ h => h) (Or.inl ⟨by rfl, ?hy⟩) (by assumption) ?_
            case hy => (intro w9 hSw; (try dsimp only at hSw); go_simp; try with_reducible rfl)
            try simp only [Act.put, List.setIfInBounds_toArray, List.set_cons_zero, List.set_cons_succ]
            refine wpAnyH_take (i := 2) (oi := { dst := some 21, op := Go.Op.move (Go.Operand.tmp 6), type := 3, pos := "fix.go:95", after := #[], guard := none }) (v := ?_) rfl (by kernel_rfl) (by kernel_rfl) (by kernel_rfl) (fun _ _ _ h => h) (Or.inl ⟨by rfl, ?hy⟩) (by assumption) ?_
            case hy => (intro w9 hSw; (try dsimp only at hSw); go_simp; try with_reducible rfl)
            try simp only [Act.put, List.setIfInBounds_toArray, List.set_cons_zero, List.set_cons_succ]
            refine wpAnyH_ready (rs := [3]) (by kernel_rfl) (by simp) ?_
            refine AllReadyH.cons (o := { dst := some 22, op := Go.Op.call { callee := Go.Callee.value (Go.Operand.func 51), args := #[Go.Operand.tmp 19, Go.Operand.tmp 20, Go.Operand.tmp 21], argTypes := #[49, 3, 3] }, type := 4, pos := "fix.go:95", after := #[{ on := 0, ground := Go.Ground.data }, { on := 1, ground := Go.Ground.data }, { on := 2, ground := Go.Ground.data }], guard := none }) rfl (fun K hK => ?_) AllReadyH.nil
            go_simp
            refine (under_any q b1 o1 ca b2 lb cb R1 m i k _ _ hv1 (HT1.out _ (by assumption)) hlt hk).mono ?_
            rintro e w8 ⟨rfl, hb8⟩
            refine hK.out _ _ ?_ (fun hHeld => ?_)
            · first | assumption | exact Below.then (by assumption) (by assumption)
            clear hK K
            try simp only [Act.put, List.setIfInBounds_toArray, List.set_cons_zero, List.set_cons_succ]
            refine wpAnyH_take (i := 4) (oi := { dst := some 23, op := Go.Op.move (Go.Operand.tmp 22), type := 4, pos := "fix.go:95", after := #[{ on := 3, ground := Go.Ground.data }, { on := 3, ground := Go.Ground.chain }], guard := none }) (v := ?_) rfl (by kernel_rfl) (by kernel_rfl) (by kernel_rfl) (fun _ _ _ h => h) (Or.inl ⟨by rfl, ?hy⟩) (by assumption) ?_
            case hy => (intro w9 hSw; (try dsimp only at hSw); go_simp; try with_reducible rfl)
            try simp only [Act.put, List.setIfInBounds_toArray, List.set_cons_zero, List.set_cons_succ]
            refine wpAnyH_take (i := 5) (oi := { dst := some 24, op := Go.Op.load 49 (Go.Operand.tmp 2), type := 49, pos := "fix.go:95", after := #[{ on := 4, ground := Go.Ground.guard }], guard := some (4, true) }) (v := undef) rfl (by kernel_rfl) (by kernel_rfl) (by kernel_rfl) (fun _ _ _ h => h) (Or.inr ⟨by rfl, rfl⟩) (by assumption) ?_
            try simp only [Act.put, List.setIfInBounds_toArray, List.set_cons_zero, List.set_cons_succ]
            refine wpAnyH_take (i := 6) (oi := { dst := some 25, op := Go.Op.move (Go.Operand.tmp 1), type := 22, pos := "fix.go:95", after := #[{ on := 4, ground := Go.Ground.guard }], guard := some (4, true) }) (v := undef) rfl (by kernel_rfl) (by kernel_rfl) (by kernel_rfl) (fun _ _ _ h => h) (Or.inr ⟨by rfl, rfl⟩) (by assumption) ?_
            try simp only [Act.put, List.setIfInBounds_toArray, List.set_cons_zero, List.set_cons_succ]
            refine wpAnyH_take (i := 7) (oi := { dst := some 26, op := Go.Op.move (Go.Operand.tmp 5), type := 3, pos := "fix.go:95", after := #[{ on := 4, ground := Go.Ground.guard }], guard := some (4, true) }) (v := undef) rfl (by kernel_rfl) (by kernel_rfl) (by kernel_rfl) (fun _ _ _ h => h) (Or.inr ⟨by rfl, rfl⟩) (by assumption) ?_
            try simp only [Act.put, List.setIfInBounds_toArray, List.set_cons_zero, List.set_cons_succ]
            refine wpAnyH_take (i := 8) (oi := { dst := some 27, op := Go.Op.indexAddr 22 (Go.Operand.tmp 25) (Go.Operand.tmp 26), type := 0, pos := "fix.go:95", after := #[{ on := 6, ground := Go.Ground.data }, { on := 7, ground := Go.Ground.data }, { on := 4, ground := Go.Ground.guard }], guard := some (4, true) }) (v := undef) rfl (by kernel_rfl) (by kernel_rfl) (by kernel_rfl) (fun _ _ _ h => h) (Or.inr ⟨by rfl, rfl⟩) (by assumption) ?_
            try simp only [Act.put, List.setIfInBounds_toArray, List.set_cons_zero, List.set_cons_succ]
            refine wpAnyH_take (i := 9) (oi := { dst := some 28, op := Go.Op.load 3 (Go.Operand.tmp 27), type := 3, pos := "fix.go:95", after := #[{ on := 8, ground := Go.Ground.data }, { on := 4, ground := Go.Ground.guard }], guard := some (4, true) }) (v := undef) rfl (by kernel_rfl) (by kernel_rfl) (by kernel_rfl) (fun _ _ _ h => h) (Or.inr ⟨by rfl, rfl⟩) (by assumption) ?_
            try simp only [Act.put, List.setIfInBounds_toArray, List.set_cons_zero, List.set_cons_succ]
            refine wpAnyH_take (i := 10) (oi := { dst := some 29, op := Go.Op.move (Go.Operand.tmp 1), type := 22, pos := "fix.go:95", after := #[{ on := 4, ground := Go.Ground.guard }], guard := some (4, true) }) (v := undef) rfl (by kernel_rfl) (by kernel_rfl) (by kernel_rfl) (fun _ _ _ h => h) (Or.inr ⟨by rfl, rfl⟩) (by assumption) ?_
            try simp only [Act.put, List.setIfInBounds_toArray, List.set_cons_zero, List.set_cons_succ]
            refine wpAnyH_take (i := 11) (oi := { dst := some 30, op := Go.Op.move (Go.Operand.tmp 6), type := 3, pos := "fix.go:95", after := #[{ on := 4, ground := Go.Ground.guard }], guard := some (4, true) }) (v := undef) rfl (by kernel_rfl) (by kernel_rfl) (by kernel_rfl) (fun _ _ _ h => h) (Or.inr ⟨by rfl, rfl⟩) (by assumption) ?_
            try simp only [Act.put, List.setIfInBounds_toArray, List.set_cons_zero, List.set_cons_succ]
            refine wpAnyH_take (i := 12) (oi := { dst := some 31, op := Go.Op.indexAddr 22 (Go.Operand.tmp 29) (Go.Operand.tmp 30), type := 0, pos := "fix.go:95", after := #[{ on := 10, ground := Go.Ground.data }, { on := 11, ground := Go.Ground.data }, { on := 4, ground := Go.Ground.guard }], guard := some (4, true) }) (v := undef) rfl (by kernel_rfl) (by kernel_rfl) (by kernel_rfl) (fun _ _ _ h => h) (Or.inr ⟨by rfl, rfl⟩) (by assumption) ?_
            try simp only [Act.put, List.setIfInBounds_toArray, List.set_cons_zero, List.set_cons_succ]
            refine wpAnyH_take (i := 13) (oi := { dst := some 32, op := Go.Op.load 3 (Go.Operand.tmp 31), type := 3, pos := "fix.go:95", after := #[{ on := 12, ground := Go.Ground.data }, { on := 4, ground := Go.Ground.guard }], guard := some (4, true) }) (v := undef) rfl (by kernel_rfl) (by kernel_rfl) (by kernel_rfl) (fun _ _ _ h => h) (Or.inr ⟨by rfl, rfl⟩) (by assumption) ?_
            try simp only [Act.put, List.setIfInBounds_toArray, List.set_cons_zero, List.set_cons_succ]
            refine wpAnyH_take (i := 14) (oi := { dst := some 33, op := Go.Op.call { callee := Go.Callee.value (Go.Operand.func 51), args := #[Go.Operand.tmp 24, Go.Operand.tmp 28, Go.Operand.tmp 32], argTypes := #[49, 3, 3] }, type := 4, pos := "fix.go:95", after := #[{ on := 5, ground := Go.Ground.data }, { on := 9, ground := Go.Ground.data }, { on := 13, ground := Go.Ground.data }, { on := 4, ground := Go.Ground.chain }, { on := 4, ground := Go.Ground.guard }], guard := some (4, true) }) (v := undef) rfl (by kernel_rfl) (by kernel_rfl) (by kernel_rfl) (fun _ _ _ h => h) (Or.inr ⟨by rfl, rfl⟩) (by assumption) ?_
            try simp only [Act.put, List.setIfInBounds_toArray, List.set_cons_zero, List.set_cons_succ]
            refine wpAnyH_take (i := 15) (oi := { dst := some 34, op := Go.Op.unOp Go.UnOp.not 4 (Go.Operand.tmp 33), type := 4, pos := "fix.go:95", after := #[{ on := 14, ground := Go.Ground.data }, { on := 4, ground := Go.Ground.guard }], guard := some (4, true) }) (v := undef) rfl (by kernel_rfl) (by kernel_rfl) (by kernel_rfl) (fun _ _ _ h => h) (Or.inr ⟨by rfl, rfl⟩) (by assumption) ?_
            try simp only [Act.put, List.setIfInBounds_toArray, List.set_cons_zero, List.set_cons_succ]
            refine wpAnyH_take (i := 16) (oi := { dst := some 35, op := Go.Op.pick (Go.Operand.tmp 23) (Go.Operand.tmp 34) (Go.Operand.const (Go.Value.bool false)), type := 4, pos := "fix.go:95", after := #[{ on := 4, ground := Go.Ground.data }, { on := 15, ground := Go.Ground.data }], guard := none }) (v := ?_) rfl (by kernel_rfl) (by kernel_rfl) (by kernel_rfl) (fun _ _ _ h => h) (Or.inl ⟨by rfl, ?hy⟩) (by assumption) ?_
            case hy => (intro w9 hSw; (try dsimp only at hSw); go_simp; try with_reducible rfl)
            try simp only [Act.put, List.setIfInBounds_toArray, List.set_cons_zero, List.set_cons_succ]
            refine wpAnyH_done (by kernel_rfl) ?_ _
            try simp only [Act.put, List.setIfInBounds_toArray, List.set_cons_zero, List.set_cons_succ]
            have HW2 : Hid (Below W.heap.size W w8) := by first | assumption | exact hHeld
            clear c1 c2 a0 a1 a2 hv1 hv2 KK hHeld hb8
            go_wp2_with fail
            go_roundw
            case rel => exact ⟨k + 1, by omega, by go_num, HW2, HN⟩
            case measure => simp [intOf]; omega
          · rcases v2 with _ | _
            · have HN : Hid (¬ MonP (leB m) (leB m) f q) := LaV.not hlt hk hv1 hv2
              clear HI
              go_wp2_with fail
              clear l0 l1 l2
              refine wp_region_held_drew (S := (fun w' => Below W.heap.size W w')) (by kernel_rfl) (KK) (fun hHeld => ?_)
              refine wpAnyH_take (i := 0) (oi := { dst := some 19, op := Go.Op.load 49 (Go.Operand.tmp 2), type := 49, pos := "fix.go:95", after := #[], guard := none }) (v := ?_) rfl (by kernel_rfl) (by kernel_rfl) (by kernel_rfl) (fun _ _ _ h => h) (Or.inl ⟨by rfl, ?hy⟩) (by assumption) ?_
              case hy => (intro w9 hSw; (try dsimp only at hSw); go_simp; try with_reducible rfl)
              try simp only [Act.put, List.setIfInBounds_toArray, List.set_cons_zero, List.set_cons_succ]
              refine wpAnyH_take (i := 1) (oi := { dst := some 20, op := Go.Op.move (Go.Operand.tmp 5), type := 3, pos := "fix.go:95", after := #[], guard := none }) (v := ?_) rfl (by kernel_rfl) (by kernel_rfl) (by kernel_rfl) (fun _ _ _ h => h) (Or.inl ⟨by rfl, ?hy⟩) (by assumption) ?_
              case hy => (intro w9 hSw; (try dsimp only at hSw); go_simp; try with_reducible rfl)
              try simp only [Act.put, List.setIfInBounds_toArray, List.set_cons_zero, List.set_cons_succ]
              refine wpAnyH_take (i := 2) (oi := { dst := some 21, op := Go.Op.move (Go.Operand.tmp 6), type := 3, pos := "fix.go:95", after := #[], guard := none }) (v := ?_) rfl (by kernel_rfl) (by kernel_rfl) (by kernel_rfl) (fun _ _ _ h => h) (Or.inl ⟨by rfl, ?hy⟩) (by assumption) ?_
              case hy => (intro w9 hSw; (try dsimp only at hSw); go_simp; try with_reducible rfl)
              try simp only [Act.put, List.setIfInBounds_toArray, List.set_cons_zero, List.set_cons_succ]
              refine wpAnyH_ready (rs := [3]) (by kernel_rfl) (by simp) ?_
              refine AllReadyH.cons (o := { dst := some 22, op := Go.Op.call { callee := Go.Callee.value (Go.Operand.func 51), args := #[Go.Operand.tmp 19, Go.Operand.tmp 20, Go.Operand.tmp 21], argTypes := #[49, 3, 3] }, type := 4, pos := "fix.go:95", after := #[{ on := 0, ground := Go.Ground.data }, { on := 1, ground := Go.Ground.data }, { on := 2, ground := Go.Ground.data }], guard := none }) rfl (fun K hK => ?_) AllReadyH.nil
              go_simp
              refine (under_any q b1 o1 ca b2 lb cb R1 m i k _ _ hv1 (HT1.out _ (by assumption)) hlt hk).mono ?_
              rintro e w8 ⟨rfl, hb8⟩
              refine hK.out _ _ ?_ (fun hHeld => ?_)
              · first | assumption | exact Below.then (by assumption) (by assumption)
              clear hK K
              try simp only [Act.put, List.setIfInBounds_toArray, List.set_cons_zero, List.set_cons_succ]
              refine wpAnyH_take (i := 4) (oi := { dst := some 23, op := Go.Op.move (Go.Operand.tmp 22), type := 4, pos := "fix.go:95", after := #[{ on := 3, ground := Go.Ground.data }, { on := 3, ground := Go.Ground.chain }], guard := none }) (v := ?_) rfl (by kernel_rfl) (by kernel_rfl) (by kernel_rfl) (fun _ _ _ h => h) (Or.inl ⟨by rfl, ?hy⟩) (by assumption) ?_
              case hy => (intro w9 hSw; (try dsimp only at hSw); go_simp; try with_reducible rfl)
              try simp only [Act.put, List.setIfInBounds_toArray, List.set_cons_zero, List.set_cons_succ]
              refine wpAnyH_take (i := 5) (oi := { dst := some 24, op := Go.Op.load 49 (Go.Operand.tmp 2), type := 49, pos := "fix.go:95", after := #[{ on := 4, ground := Go.Ground.guard }], guard := some (4, true) }) (v := ?_) rfl (by kernel_rfl) (by kernel_rfl) (by kernel_rfl) (fun _ _ _ h => h) (Or.inl ⟨by rfl, ?hy⟩) (by assumption) ?_
              case hy => (intro w9 hSw; (try dsimp only at hSw); go_simp; try with_reducible rfl)
              try simp only [Act.put, List.setIfInBounds_toArray, List.set_cons_zero, List.set_cons_succ]
              refine wpAnyH_take (i := 6) (oi := { dst := some 25, op := Go.Op.move (Go.Operand.tmp 1), type := 22, pos := "fix.go:95", after := #[{ on := 4, ground := Go.Ground.guard }], guard := some (4, true) }) (v := ?_) rfl (by kernel_rfl) (by kernel_rfl) (by kernel_rfl) (fun _ _ _ h => h) (Or.inl ⟨by rfl, ?hy⟩) (by assumption) ?_
              case hy => (intro w9 hSw; (try dsimp only at hSw); go_simp; try with_reducible rfl)
              try simp only [Act.put, List.setIfInBounds_toArray, List.set_cons_zero, List.set_cons_succ]
              refine wpAnyH_take (i := 7) (oi := { dst := some 26, op := Go.Op.move (Go.Operand.tmp 5), type := 3, pos := "fix.go:95", after := #[{ on := 4, ground := Go.Ground.guard }], guard := some (4, true) }) (v := ?_) rfl (by kernel_rfl) (by kernel_rfl) (by kernel_rfl) (fun _ _ _ h => h) (Or.inl ⟨by rfl, ?hy⟩) (by assumption) ?_
              case hy => (intro w9 hSw; (try dsimp only at hSw); go_simp; try with_reducible rfl)
              try simp only [Act.put, List.setIfInBounds_toArray, List.set_cons_zero, List.set_cons_succ]
              refine wpAnyH_take (i := 8) (oi := { dst := some 27, op := Go.Op.indexAddr 22 (Go.Operand.tmp 25) (Go.Operand.tmp 26), type := 0, pos := "fix.go:95", after := #[{ on := 6, ground := Go.Ground.data }, { on := 7, ground := Go.Ground.data }, { on := 4, ground := Go.Ground.guard }], guard := some (4, true) }) (v := ?_) rfl (by kernel_rfl) (by kernel_rfl) (by kernel_rfl) (fun _ _ _ h => h) (Or.inl ⟨by rfl, ?hy⟩) (by assumption) ?_
              case hy => (intro w9 hSw; (try dsimp only at hSw); go_simp; try with_reducible rfl)
              try simp only [Act.put, List.setIfInBounds_toArray, List.set_cons_zero, List.set_cons_succ]
              refine wpAnyH_take (i := 9) (oi := { dst := some 28, op := Go.Op.load 3 (Go.Operand.tmp 27), type := 3, pos := "fix.go:95", after := #[{ on := 8, ground := Go.Ground.data }, { on := 4, ground := Go.Ground.guard }], guard := some (4, true) }) (v := ?_) rfl (by kernel_rfl) (by kernel_rfl) (by kernel_rfl) (fun _ _ _ h => h) (Or.inl ⟨by rfl, ?hy⟩) (by assumption) ?_
              case hy => (intro w9 hSw; (try dsimp only at hSw); go_simp; try with_reducible rfl)
              try simp only [Act.put, List.setIfInBounds_toArray, List.set_cons_zero, List.set_cons_succ]
              refine wpAnyH_take (i := 10) (oi := { dst := some 29, op := Go.Op.move (Go.Operand.tmp 1), type := 22, pos := "fix.go:95", after := #[{ on := 4, ground := Go.Ground.guard }], guard := some (4, true) }) (v := ?_) rfl (by kernel_rfl) (by kernel_rfl) (by kernel_rfl) (fun _ _ _ h => h) (Or.inl ⟨by rfl, ?hy⟩) (by assumption) ?_
              case hy => (intro w9 hSw; (try dsimp only at hSw); go_simp; try with_reducible rfl)
              try simp only [Act.put, List.setIfInBounds_toArray, List.set_cons_zero, List.set_cons_succ]
              refine wpAnyH_take (i := 11) (oi := { dst := some 30, op := Go.Op.move (Go.Operand.tmp 6), type := 3, pos := "fix.go:95", after := #[{ on := 4, ground := Go.Ground.guard }], guard := some (4, true) }) (v := ?_) rfl (by kernel_rfl) (by kernel_rfl) (by kernel_rfl) (fun _ _ _ h => h) (Or.inl ⟨by rfl, ?hy⟩) (by assumption) ?_
              case hy => (intro w9 hSw; (try dsimp only at hSw); go_simp; try with_reducible rfl)
              try simp only [Act.put, List.setIfInBounds_toArray, List.set_cons_zero, List.set_cons_succ]
              refine wpAnyH_take (i := 12) (oi := { dst := some 31, op := Go.Op.indexAddr 22 (Go.Operand.tmp 29) (Go.Operand.tmp 30), type := 0, pos := "fix.go:95", after := #[{ on := 10, ground := Go.Ground.data }, { on := 11, ground := Go.Ground.data }, { on := 4, ground := Go.Ground.guard }], guard := some (4, true) }) (v := ?_) rfl (by kernel_rfl) (by kernel_rfl) (by kernel_rfl) (fun _ _ _ h => h) (Or.inl ⟨by rfl, ?hy⟩) (by assumption) ?_
              case hy => (intro w9 hSw; (try dsimp only at hSw); go_simp; try with_reducible rfl)
              try simp only [Act.put, List.setIfInBounds_toArray, List.set_cons_zero, List.set_cons_succ]
              refine wpAnyH_take (i := 13) (oi := { dst := some 32, op := Go.Op.load 3 (Go.Operand.tmp 31), type := 3, pos := "fix.go:95", after := #[{ on := 12, ground := Go.Ground.data }, { on := 4, ground := Go.Ground.guard }], guard := some (4, true) }) (v := ?_) rfl (by kernel_rfl) (by kernel_rfl) (by kernel_rfl) (fun _ _ _ h => h) (Or.inl ⟨by rfl, ?hy⟩) (by assumption) ?_
              case hy => (intro w9 hSw; (try dsimp only at hSw); go_simp; try with_reducible rfl)
              try simp only [Act.put, List.setIfInBounds_toArray, List.set_cons_zero, List.set_cons_succ]
              refine wpAnyH_ready (rs := [14]) (by kernel_rfl) (by simp) ?_
              refine AllReadyH.cons (o := { dst := some 33, op := Go.Op.call { callee := Go.Callee.value (Go.Operand.func 51), args := #[Go.Operand.tmp 24, Go.Operand.tmp 28, Go.Operand.tmp 32], argTypes := #[49, 3, 3] }, type := 4, pos := "fix.go:95", after := #[{ on := 5, ground := Go.Ground.data }, { on := 9, ground := Go.Ground.data }, { on := 13, ground := Go.Ground.data }, { on := 4, ground := Go.Ground.chain }, { on := 4, ground := Go.Ground.guard }], guard := some (4, true) }) rfl (fun K hK => ?_) AllReadyH.nil
              go_simp
              refine (under_any q b1 o1 ca b2 lb cb R1 m (f i) (f k) _ _ hv2 (HT1.out _ (by assumption)) hfi hfk).mono ?_
              rintro e w9 ⟨rfl, hb9⟩
              refine hK.out _ _ ?_ (fun hHeld => ?_)
              · first | assumption | exact Below.then (by assumption) (by assumption)
              clear hK K
              try simp only [Act.put, List.setIfInBounds_toArray, List.set_cons_zero, List.set_cons_succ]
              refine wpAnyH_take (i := 15) (oi := { dst := some 34, op := Go.Op.unOp Go.UnOp.not 4 (Go.Operand.tmp 33), type := 4, pos := "fix.go:95", after := #[{ on := 14, ground := Go.Ground.data }, { on := 4, ground := Go.Ground.guard }], guard := some (4, true) }) (v := ?_) rfl (by kernel_rfl) (by kernel_rfl) (by kernel_rfl) (fun _ _ _ h => h) (Or.inl ⟨by rfl, ?hy⟩) (by assumption) ?_
              case hy => (intro w9 hSw; (try dsimp only at hSw); go_simp; try with_reducible rfl)
              try simp only [Act.put, List.setIfInBounds_toArray, List.set_cons_zero, List.set_cons_succ]
              refine wpAnyH_take (i := 16) (oi := { dst := some 35, op := Go.Op.pick (Go.Operand.tmp 23) (Go.Operand.tmp 34) (Go.Operand.const (Go.Value.bool false)), type := 4, pos := "fix.go:95", after := #[{ on := 4, ground := Go.Ground.data }, { on := 15, ground := Go.Ground.data }], guard := none }) (v := ?_) rfl (by kernel_rfl) (by kernel_rfl) (by kernel_rfl) (fun _ _ _ h => h) (Or.inl ⟨by rfl, ?hy⟩) (by assumption) ?_
              case hy => (intro w9 hSw; (try dsimp only at hSw); go_simp; try with_reducible rfl)
              try simp only [Act.put, List.setIfInBounds_toArray, List.set_cons_zero, List.set_cons_succ]
              refine wpAnyH_done (by kernel_rfl) ?_ _
              try simp only [Act.put, List.setIfInBounds_toArray, List.set_cons_zero, List.set_cons_succ]
              have HW2 : Hid (Below W.heap.size W w9) := by first | assumption | exact hHeld
              clear c1 c2 a0 a1 a2 hv1 hv2 KK hHeld hb8 hb9
              go_wp2_with fail
              go_ret
              exact ⟨⟨false, rfl, ⟨(fun h => by cases h), fun h => absurd h HN.out⟩⟩, Below.then HB.out HW2.out⟩
            · have HN : Hid (LaV m f q i (k + 1)) := HI.out.next (fun _ => hv2)
              clear HI
              go_wp2_with fail
              clear l0 l1 l2
              refine wp_region_held_drew (S := (fun w' => Below W.heap.size W w')) (by kernel_rfl) (KK) (fun hHeld => ?_)
              refine wpAnyH_take (i := 0) (oi := { dst := some 19, op := Go.Op.load 49 (Go.Operand.tmp 2), type := 49, pos := "fix.go:95", after := #[], guard := none }) (v := ?_) rfl (by kernel_rfl) (by kernel_rfl) (by kernel_rfl) (fun _ _ _ h => h) (Or.inl ⟨by rfl, ?hy⟩) (by assumption) ?_
              case hy => (intro w9 hSw; (try dsimp only at hSw); go_simp; try with_reducible rfl)
              try simp only [Act.put, List.setIfInBounds_toArray, List.set_cons_zero, List.set_cons_succ]
              refine wpAnyH_take (i := 1) (oi := { dst := some 20, op := Go.Op.move (Go.Operand.tmp 5), type := 3, pos := "fix.go:95", after := #[], guard := none }) (v := ?_) rfl (by kernel_rfl) (by kernel_rfl) (by kernel_rfl) (fun _ _ _ h => h) (Or.inl ⟨by rfl, ?hy⟩) (by assumption) ?_
              case hy => (intro w9 hSw; (try dsimp only at hSw); go_simp; try with_reducible rfl)
              try simp only [Act.put, List.setIfInBounds_toArray, List.set_cons_zero, List.set_cons_succ]
              refine wpAnyH_take (i := 2) (oi := { dst := some 21, op := Go.Op.move (Go.Operand.tmp 6), type := 3, pos := "fix.go:95", after := #[], guard := none }) (v := ?_) rfl (by kernel_rfl) (by kernel_rfl) (by kernel_rfl) (fun _ _ _ h => h) (Or.inl ⟨by rfl, ?hy⟩) (by assumption) ?_
              case hy => (intro w9 hSw; (try dsimp only at hSw); go_simp; try with_reducible rfl)
              try simp only [Act.put, List.setIfInBounds_toArray, List.set_cons_zero, List.set_cons_succ]
              refine wpAnyH_ready (rs := [3]) (by kernel_rfl) (by simp) ?_
              refine AllReadyH.cons (o := { dst := some 22, op := Go.Op.call { callee := Go.Callee.value (Go.Operand.func 51), args := #[Go.Operand.tmp 19, Go.Operand.tmp 20, Go.Operand.tmp 21], argTypes := #[49, 3, 3] }, type := 4, pos := "fix.go:95", after := #[{ on := 0, ground := Go.Ground.data }, { on := 1, ground := Go.Ground.data }, { on := 2, ground := Go.Ground.data }], guard := none }) rfl (fun K hK => ?_) AllReadyH.nil
              go_simp
              refine (under_any q b1 o1 ca b2 lb cb R1 m i k _ _ hv1 (HT1.out _ (by assumption)) hlt hk).mono ?_
              rintro e w8 ⟨rfl, hb8⟩
              refine hK.out _ _ ?_ (fun hHeld => ?_)
              · first | assumption | exact Below.then (by assumption) (by assumption)
              clear hK K
              try simp only [Act.put, List.setIfInBounds_toArray, List.set_cons_zero, List.set_cons_succ]
              refine wpAnyH_take (i := 4) (oi := { dst := some 23, op := Go.Op.move (Go.Operand.tmp 22), type := 4, pos := "fix.go:95", after := #[{ on := 3, ground := Go.Ground.data }, { on := 3, ground := Go.Ground.chain }], guard := none }) (v := ?_) rfl (by kernel_rfl) (by kernel_rfl) (by kernel_rfl) (fun _ _ _ h => h) (Or.inl ⟨by rfl, ?hy⟩) (by assumption) ?_
              case hy => (intro w9 hSw; (try dsimp only at hSw); go_simp; try with_reducible rfl)
              try simp only [Act.put, List.setIfInBounds_toArray, List.set_cons_zero, List.set_cons_succ]
              refine wpAnyH_take (i := 5) (oi := { dst := some 24, op := Go.Op.load 49 (Go.Operand.tmp 2), type := 49, pos := "fix.go:95", after := #[{ on := 4, ground := Go.Ground.guard }], guard := some (4, true) }) (v := ?_) rfl (by kernel_rfl) (by kernel_rfl) (by kernel_rfl) (fun _ _ _ h => h) (Or.inl ⟨by rfl, ?hy⟩) (by assumption) ?_
              case hy => (intro w9 hSw; (try dsimp only at hSw); go_simp; try with_reducible rfl)
              try simp only [Act.put, List.setIfInBounds_toArray, List.set_cons_zero, List.set_cons_succ]
              refine wpAnyH_take (i := 6) (oi := { dst := some 25, op := Go.Op.move (Go.Operand.tmp 1), type := 22, pos := "fix.go:95", after := #[{ on := 4, ground := Go.Ground.guard }], guard := some (4, true) }) (v := ?_) rfl (by kernel_rfl) (by kernel_rfl) (by kernel_rfl) (fun _ _ _ h => h) (Or.inl ⟨by rfl, ?hy⟩) (by assumption) ?_
              case hy => (intro w9 hSw; (try dsimp only at hSw); go_simp; try with_reducible rfl)
              try simp only [Act.put, List.setIfInBounds_toArray, List.set_cons_zero, List.set_cons_succ]
              refine wpAnyH_take (i := 7) (oi := { dst := some 26, op := Go.Op.move (Go.Operand.tmp 5), type := 3, pos := "fix.go:95", after := #[{ on := 4, ground := Go.Ground.guard }], guard := some (4, true) }) (v := ?_) rfl (by kernel_rfl) (by kernel_rfl) (by kernel_rfl) (fun _ _ _ h => h) (Or.inl ⟨by rfl, ?hy⟩) (by assumption) ?_
              case hy => (intro w9 hSw; (try dsimp only at hSw); go_simp; try with_reducible rfl)
              try simp only [Act.put, List.setIfInBounds_toArray, List.set_cons_zero, List.set_cons_succ]
              refine wpAnyH_take (i := 8) (oi := { dst := some 27, op := Go.Op.indexAddr 22 (Go.Operand.tmp 25) (Go.Operand.tmp 26), type := 0, pos := "fix.go:95", after := #[{ on := 6, ground := Go.Ground.data }, { on := 7, ground := Go.Ground.data }, { on := 4, ground := Go.Ground.guard }], guard := some (4, true) }) (v := ?_) rfl (by kernel_rfl) (by kernel_rfl) (by kernel_rfl) (fun _ _ _ h => h) (Or.inl ⟨by rfl, ?hy⟩) (by assumption) ?_
              case hy => (intro w9 hSw; (try dsimp only at hSw); go_simp; try with_reducible rfl)
              try simp only [Act.put, List.setIfInBounds_toArray, List.set_cons_zero, List.set_cons_succ]
              refine wpAnyH_take (i := 9) (oi := { dst := some 28, op := Go.Op.load 3 (Go.Operand.tmp 27), type := 3, pos := "fix.go:95", after := #[{ on := 8, ground := Go.Ground.data }, { on := 4, ground := Go.Ground.guard }], guard := some (4, true) }) (v := ?_) rfl (by kernel_rfl) (by kernel_rfl) (by kernel_rfl) (fun _ _ _ h => h) (Or.inl ⟨by rfl, ?hy⟩) (by assumption) ?_
              case hy => (intro w9 hSw; (try dsimp only at hSw); go_simp; try with_reducible rfl)
              try simp only [Act.put, List.setIfInBounds_toArray, List.set_cons_zero, List.set_cons_succ]
              refine wpAnyH_take (i := 10) (oi := { dst := some 29, op := Go.Op.move (Go.Operand.tmp 1), type := 22, pos := "fix.go:95", after := #[{ on := 4, ground := Go.Ground.guard }], guard := some (4, true) }) (v := ?_) rfl (by kernel_rfl) (by kernel_rfl) (by kernel_rfl) (fun _ _ _ h => h) (Or.inl ⟨by rfl, ?hy⟩) (by assumption) ?_
              case hy => (intro w9 hSw; (try dsimp only at hSw); go_simp; try with_reducible rfl)
              try simp only [Act.put, List.setIfInBounds_toArray, List.set_cons_zero, List.set_cons_succ]
              refine wpAnyH_take (i := 11) (oi := { dst := some 30, op := Go.Op.move (Go.Operand.tmp 6), type := 3, pos := "fix.go:95", after := #[{ on := 4, ground := Go.Ground.guard }], guard := some (4, true) }) (v := ?_) rfl (by kernel_rfl) (by kernel_rfl) (by kernel_rfl) (fun _ _ _ h => h) (Or.inl ⟨by rfl, ?hy⟩) (by assumption) ?_
              case hy => (intro w9 hSw; (try dsimp only at hSw); go_simp; try with_reducible rfl)
              try simp only [Act.put, List.setIfInBounds_toArray, List.set_cons_zero, List.set_cons_succ]
              refine wpAnyH_take (i := 12) (oi := { dst := some 31, op := Go.Op.indexAddr 22 (Go.Operand.tmp 29) (Go.Operand.tmp 30), type := 0, pos := "fix.go:95", after := #[{ on := 10, ground := Go.Ground.data }, { on := 11, ground := Go.Ground.data }, { on := 4, ground := Go.Ground.guard }], guard := some (4, true) }) (v := ?_) rfl (by kernel_rfl) (by kernel_rfl) (by kernel_rfl) (fun _ _ _ h => h) (Or.inl ⟨by rfl, ?hy⟩) (by assumption) ?_
              case hy => (intro w9 hSw; (try dsimp only at hSw); go_simp; try with_reducible rfl)
              try simp only [Act.put, List.setIfInBounds_toArray, List.set_cons_zero, List.set_cons_succ]
              refine wpAnyH_take (i := 13) (oi := { dst := some 32, op := Go.Op.load 3 (Go.Operand.tmp 31), type := 3, pos := "fix.go:95", after := #[{ on := 12, ground := Go.Ground.data }, { on := 4, ground := Go.Ground.guard }], guard := some (4, true) }) (v := ?_) rfl (by kernel_rfl) (by kernel_rfl) (by kernel_rfl) (fun _ _ _ h => h) (Or.inl ⟨by rfl, ?hy⟩) (by assumption) ?_
              case hy => (intro w9 hSw; (try dsimp only at hSw); go_simp; try with_reducible rfl)
              try simp only [Act.put, List.setIfInBounds_toArray, List.set_cons_zero, List.set_cons_succ]
              refine wpAnyH_ready (rs := [14]) (by kernel_rfl) (by simp) ?_
              refine AllReadyH.cons (o := { dst := some 33, op := Go.Op.call { callee := Go.Callee.value (Go.Operand.func 51), args := #[Go.Operand.tmp 24, Go.Operand.tmp 28, Go.Operand.tmp 32], argTypes := #[49, 3, 3] }, type := 4, pos := "fix.go:95", after := #[{ on := 5, ground := Go.Ground.data }, { on := 9, ground := Go.Ground.data }, { on := 13, ground := Go.Ground.data }, { on := 4, ground := Go.Ground.chain }, { on := 4, ground := Go.Ground.guard }], guard := some (4, true) }) rfl (fun K hK => ?_) AllReadyH.nil
              go_simp
              refine (under_any q b1 o1 ca b2 lb cb R1 m (f i) (f k) _ _ hv2 (HT1.out _ (by assumption)) hfi hfk).mono ?_
              rintro e w9 ⟨rfl, hb9⟩
              refine hK.out _ _ ?_ (fun hHeld => ?_)
              · first | assumption | exact Below.then (by assumption) (by assumption)
              clear hK K
              try simp only [Act.put, List.setIfInBounds_toArray, List.set_cons_zero, List.set_cons_succ]
              refine wpAnyH_take (i := 15) (oi := { dst := some 34, op := Go.Op.unOp Go.UnOp.not 4 (Go.Operand.tmp 33), type := 4, pos := "fix.go:95", after := #[{ on := 14, ground := Go.Ground.data }, { on := 4, ground := Go.Ground.guard }], guard := some (4, true) }) (v := ?_) rfl (by kernel_rfl) (by kernel_rfl) (by kernel_rfl) (fun _ _ _ h => h) (Or.inl ⟨by rfl, ?hy⟩) (by assumption) ?_
              case hy => (intro w9 hSw; (try dsimp only at hSw); go_simp; try with_reducible rfl)
              try simp only [Act.put, List.setIfInBounds_toArray, List.set_cons_zero, List.set_cons_succ]
              refine wpAnyH_take (i := 16) (oi := { dst := some 35, op := Go.Op.pick (Go.Operand.tmp 23) (Go.Operand.tmp 34) (Go.Operand.const (Go.Value.bool false)), type := 4, pos := "fix.go:95", after := #[{ on := 4, ground := Go.Ground.data }, { on := 15, ground := Go.Ground.data }], guard := none }) (v := ?_) rfl (by kernel_rfl) (by kernel_rfl) (by kernel_rfl) (fun _ _ _ h => h) (Or.inl ⟨by rfl, ?hy⟩) (by assumption) ?_
              case hy => (intro w9 hSw; (try dsimp only at hSw); go_simp; try with_reducible rfl)
              try simp only [Act.put, List.setIfInBounds_toArray, List.set_cons_zero, List.set_cons_succ]
              refine wpAnyH_done (by kernel_rfl) ?_ _
              try simp only [Act.put, List.setIfInBounds_toArray, List.set_cons_zero, List.set_cons_succ]
              have HW2 : Hid (Below W.heap.size W w9) := by first | assumption | exact hHeld
              clear c1 c2 a0 a1 a2 hv1 hv2 KK hHeld hb8 hb9
              go_wp2_with fail
              go_roundw
              case rel => exact ⟨k + 1, by omega, by go_num, HW2, HN⟩
              case measure => simp [intOf]; omega
        · obtain rfl : k = q := by omega
          have HN : Hid (LaV m f k (i + 1) 0) := HI.out.row
          clear HI
          go_wp2_with fail
          go_roundw
          case rel => exact ⟨i + 1, by omega, by go_num, HW, HN⟩
          case measure => simp [intOf]; omega
    · obtain rfl : i = q := by omega
      have HN : Hid (MonP (leB m) (leB m) f i) := HI.out.all
      clear HI
      go_wp2_with fail
      go_ret
      exact ⟨⟨true, rfl, ⟨fun _ => HN.out, fun _ => rfl⟩⟩, Below.then HB.out HW.out⟩


/-- Below (or above) y, if y goes to itself. -/
def endB (gr : Bool) (m : Nat → Nat → Nat) (f : Nat → Nat) (x y : Nat) : Bool := !(f y == y) || (if gr then leB m y x else leB m x y)
theorem endB_off {gr : Bool} {m : Nat → Nat → Nat} {f : Nat → Nat} {x y : Nat} (h : f y ≠ y) : endB gr m f x y = true := by simp [endB, h]
theorem endB_on {gr : Bool} {m : Nat → Nat → Nat} {f : Nat → Nat} {x y : Nat} (h : f y = y) : endB gr m f x y = (if gr then leB m y x else leB m x y) := by simp [endB, h]
def EndTo (gr : Bool) (m : Nat → Nat → Nat) (f : Nat → Nat) (x k : Nat) : Prop := f x = x ∧ ∀ y, y < k → endB gr m f x y = true
theorem EndTo.yes {gr : Bool} {m : Nat → Nat → Nat} {f : Nat → Nat} {x k : Nat} {v : Bool} (h : v = true ↔ EndTo gr m f x k) (e : endB gr m f x k = true) : v = true ↔ EndTo gr m f x (k + 1) := by
  rw [h]
  refine ⟨fun g => ⟨g.1, fun y hy => ?_⟩, fun g => ⟨g.1, fun y hy => g.2 y (by omega)⟩⟩
  rcases (by omega : y < k ∨ y = k) with h1 | rfl
  · exact g.2 y h1
  · exact e
theorem EndTo.no {gr : Bool} {m : Nat → Nat → Nat} {f : Nat → Nat} {x k : Nat} (e : endB gr m f x k = false) : false = true ↔ EndTo gr m f x (k + 1) :=
  ⟨(fun h => by cases h), fun g => by have := g.2 k (by omega); rw [e] at this; cases this⟩

set_option maxHeartbeats 4000000 in
theorem fixedEnd_any (q b1 o1 ca : Nat) (b2 : Option Addr) (lb cb : Nat) (R1 : Nat → Nat × Nat × Nat) (m : Nat → Nat → Nat) (fa : Option Addr) (fc : Nat) (f : Nat → Nat) (gr : Bool) (x0 : Nat) (w : World) (h40 : q ≤ 40) (hff : ∀ k, k < q → f k < q)
    (ht1 : Tb w b1 o1 q R1 m) (hr : Row w fa q (fun k => (f k : Nat))) (hx0 : x0 < q) (he : EndTo gr m f x0 q) (hu : ∀ x, x < q → EndTo gr m f x q → x = x0) :
    Calls Tryd.prog 27 #[.agg #[.int .i64 (q : Nat), .slice (some ⟨b1, o1, none⟩) q ca, .slice b2 lb cb], .slice fa q fc, .bool gr] w fun e w' => e = .returned (.int .i64 (x0 : Nat)) ∧ Below w.heap.size w w' := by
  obtain ⟨W, eW⟩ : ∃ W, Hid (W = w.alloc (.cells #[.int .i64 (q : Nat), .slice (some ⟨b1, o1, none⟩) q ca, .slice b2 lb cb] 49)) := ⟨_, rfl⟩
  have hW : Below w.heap.size w W := by rw [eW.out]; exact (Below.refl _ _).alloc (Nat.le_refl _) _
  have HB : Hid (Below w.heap.size w W) := hW
  have xa : LB W w.heap.size (q : Nat) (some ⟨b1, o1, none⟩) q ca b2 lb cb := by rw [eW.out]; exact LB.new _ _ _ _ _ _ _ _
  have HX : Hid (∀ wx, Below W.heap.size W wx → LB wx w.heap.size (q : Nat) (some ⟨b1, o1, none⟩) q ca b2 lb cb) := fun wx h => xa.step h
  have HFF : Hid (∀ x, x < q → f x < q) := hff
  have HEE : Hid (EndTo gr m f x0 q) := he
  have HU : Hid (∀ x, x < q → EndTo gr m f x q → x = x0) := hu
  have HT1 : Hid (∀ wx, Below W.heap.size W wx → Tb wx b1 o1 q R1 m) := fun wx h => (ht1.step hW).step h
  have HR : Hid (∀ wx, Below W.heap.size W wx → Row wx fa q (fun k => (f k : Nat))) := fun wx h => (hr.below hW).below h
  clear hW hff ht1 hr xa he hu
  rcases gr with _ | _
  · go_enter Tryd.func27, Tryd.ntmps27
    go_wp2_with fail
    rw [← eW.out]
    clear eW
    go_wp2_with fail
    go_loopw [7] (fun t wx => ∃ i : Nat, i ≤ x0 ∧ t = .int .i64 i ∧ Hid (Below W.heap.size W wx)) (fun t _ => q - (intOf t).toNat)
    case atStart => exact ⟨0, Nat.zero_le _, rfl, Below.refl _ _⟩
    case round =>
      obtain ⟨i, hi, rfl, HW⟩ := hrel
      obtain ⟨l0, l1, l2⟩ := HX.out _ HW.out
      have hlt : i < q := by omega
      obtain ⟨fb, fo, rfl, hci⟩ := HR.out _ HW.out i hlt
      have ii : (i : Int) < (q : Int) := by omega
      obtain ⟨v, hv⟩ : ∃ v, (((f i : Nat) : Int) == ((i : Nat) : Int)) = v := ⟨_, rfl⟩
      have HV : Hid (v = true ↔ EndTo false m f i 0) := by
        rw [← hv]
        exact ⟨fun h => ⟨by have := beq_iff_eq.1 h; omega, fun y hy => absurd hy (Nat.not_lt_zero _)⟩, fun h => beq_iff_eq.2 (by have := h.1; omega)⟩
      go_wp2_with fail
      clear l0 l1 l2 hci hv
      go_loopw [8, 9] (fun s t wx => ∃ (k : Nat) (v : Bool), k ≤ q ∧ t = .int .i64 k ∧ s = .bool v ∧ Hid (Below W.heap.size W wx) ∧ Hid (v = true ↔ EndTo false m f i k)) (fun _ t _ => q - (intOf t).toNat)
      case atStart => exact ⟨0, v, Nat.zero_le _, rfl, rfl, HW, HV⟩
      case round =>
        clear HW HV
        obtain ⟨k, v, hk', rfl, rfl, HW, HV⟩ := hrel
        obtain ⟨l0, l1, l2⟩ := HX.out _ HW.out
        by_cases hk : k < q
        · obtain ⟨_, _, e, hck⟩ := HR.out _ HW.out k hk
          cases e
          have ik : (k : Int) < (q : Int) := by omega
          by_cases e : f k = k
          · have he : (((f k : Nat) : Int) == ((k : Nat) : Int)) = true := by rw [e]; simp
            have HON : Hid (endB false m f i k = leB m i k) := endB_on e
            obtain ⟨u, hu⟩ : ∃ u, leB m i k = u := ⟨_, rfl⟩
            clear e
            rcases u with _ | _
            · have HN : Hid (false = true ↔ EndTo false m f i (k + 1)) := EndTo.no (HON.out.trans hu)
              clear HV HON
              go_wp2_with fail
              refine (under_any q b1 o1 ca b2 lb cb R1 m i k _ _ hu (HT1.out _ HW.out) (by omega) (by omega)).mono ?_
              rintro e w8 ⟨rfl, hb8⟩
              have HW2 : Hid (Below W.heap.size W w8) := Below.then HW.out hb8
              clear hb8 l0 l1 l2 hck hu HW
              go_wp2_with fail
              go_roundw
              case rel => exact ⟨k + 1, false, by omega, by go_num, rfl, HW2, HN⟩
              case measure => simp [intOf]; omega
            · have HN : Hid (v = true ↔ EndTo false m f i (k + 1)) := EndTo.yes HV.out (HON.out.trans hu)
              clear HV HON
              go_wp2_with fail
              refine (under_any q b1 o1 ca b2 lb cb R1 m i k _ _ hu (HT1.out _ HW.out) (by omega) (by omega)).mono ?_
              rintro e w8 ⟨rfl, hb8⟩
              have HW2 : Hid (Below W.heap.size W w8) := Below.then HW.out hb8
              clear hb8 l0 l1 l2 hck hu HW
              go_wp2_with fail
              go_roundw
              case rel => exact ⟨k + 1, v, by omega, by go_num, rfl, HW2, HN⟩
              case measure => simp [intOf]; omega
          · have he : (((f k : Nat) : Int) == ((k : Nat) : Int)) = false := by simp; omega
            have HN : Hid (v = true ↔ EndTo false m f i (k + 1)) := EndTo.yes HV.out (endB_off e)
            clear HV e
            go_wp2_with fail
            go_roundw
            case rel => exact ⟨k + 1, v, by omega, by go_num, rfl, HW, HN⟩
            case measure => simp [intOf]; omega
        · obtain rfl : k = q := by omega
          rcases v with _ | _
          · have hne : i ≠ x0 := fun e => by rw [← e] at HEE; cases HV.out.2 HEE.out
            clear HV
            go_wp2_with fail
            go_roundw
            case rel => exact ⟨i + 1, by omega, by go_num, HW⟩
            case measure => simp [intOf]; omega
          · obtain rfl : i = x0 := HU.out i hlt (HV.out.1 rfl)
            clear HV
            go_wp2_with fail
            go_ret
            exact ⟨rfl, Below.then HB.out HW.out⟩
  · go_enter Tryd.func27, Tryd.ntmps27
    go_wp2_with fail
    rw [← eW.out]
    clear eW
    go_wp2_with fail
    go_loopw [7] (fun t wx => ∃ i : Nat, i ≤ x0 ∧ t = .int .i64 i ∧ Hid (Below W.heap.size W wx)) (fun t _ => q - (intOf t).toNat)
    case atStart => exact ⟨0, Nat.zero_le _, rfl, Below.refl _ _⟩
    case round =>
      obtain ⟨i, hi, rfl, HW⟩ := hrel
      obtain ⟨l0, l1, l2⟩ := HX.out _ HW.out
      have hlt : i < q := by omega
      obtain ⟨fb, fo, rfl, hci⟩ := HR.out _ HW.out i hlt
      have ii : (i : Int) < (q : Int) := by omega
      obtain ⟨v, hv⟩ : ∃ v, (((f i : Nat) : Int) == ((i : Nat) : Int)) = v := ⟨_, rfl⟩
      have HV : Hid (v = true ↔ EndTo true m f i 0) := by
        rw [← hv]
        exact ⟨fun h => ⟨by have := beq_iff_eq.1 h; omega, fun y hy => absurd hy (Nat.not_lt_zero _)⟩, fun h => beq_iff_eq.2 (by have := h.1; omega)⟩
      go_wp2_with fail
      clear l0 l1 l2 hci hv
      go_loopw [8, 9] (fun s t wx => ∃ (k : Nat) (v : Bool), k ≤ q ∧ t = .int .i64 k ∧ s = .bool v ∧ Hid (Below W.heap.size W wx) ∧ Hid (v = true ↔ EndTo true m f i k)) (fun _ t _ => q - (intOf t).toNat)
      case atStart => exact ⟨0, v, Nat.zero_le _, rfl, rfl, HW, HV⟩
      case round =>
        clear HW HV
        obtain ⟨k, v, hk', rfl, rfl, HW, HV⟩ := hrel
        obtain ⟨l0, l1, l2⟩ := HX.out _ HW.out
        by_cases hk : k < q
        · obtain ⟨_, _, e, hck⟩ := HR.out _ HW.out k hk
          cases e
          have ik : (k : Int) < (q : Int) := by omega
          by_cases e : f k = k
          · have he : (((f k : Nat) : Int) == ((k : Nat) : Int)) = true := by rw [e]; simp
            have HON : Hid (endB true m f i k = leB m k i) := endB_on e
            obtain ⟨u, hu⟩ : ∃ u, leB m k i = u := ⟨_, rfl⟩
            clear e
            rcases u with _ | _
            · have HN : Hid (false = true ↔ EndTo true m f i (k + 1)) := EndTo.no (HON.out.trans hu)
              clear HV HON
              go_wp2_with fail
              refine (under_any q b1 o1 ca b2 lb cb R1 m k i _ _ hu (HT1.out _ HW.out) (by omega) (by omega)).mono ?_
              rintro e w8 ⟨rfl, hb8⟩
              have HW2 : Hid (Below W.heap.size W w8) := Below.then HW.out hb8
              clear hb8 l0 l1 l2 hck hu HW
              go_wp2_with fail
              go_roundw
              case rel => exact ⟨k + 1, false, by omega, by go_num, rfl, HW2, HN⟩
              case measure => simp [intOf]; omega
            · have HN : Hid (v = true ↔ EndTo true m f i (k + 1)) := EndTo.yes HV.out (HON.out.trans hu)
              clear HV HON
              go_wp2_with fail
              refine (under_any q b1 o1 ca b2 lb cb R1 m k i _ _ hu (HT1.out _ HW.out) (by omega) (by omega)).mono ?_
              rintro e w8 ⟨rfl, hb8⟩
              have HW2 : Hid (Below W.heap.size W w8) := Below.then HW.out hb8
              clear hb8 l0 l1 l2 hck hu HW
              go_wp2_with fail
              go_roundw
              case rel => exact ⟨k + 1, v, by omega, by go_num, rfl, HW2, HN⟩
              case measure => simp [intOf]; omega
          · have he : (((f k : Nat) : Int) == ((k : Nat) : Int)) = false := by simp; omega
            have HN : Hid (v = true ↔ EndTo true m f i (k + 1)) := EndTo.yes HV.out (endB_off e)
            clear HV e
            go_wp2_with fail
            go_roundw
            case rel => exact ⟨k + 1, v, by omega, by go_num, rfl, HW, HN⟩
            case measure => simp [intOf]; omega
        · obtain rfl : k = q := by omega
          rcases v with _ | _
          · have hne : i ≠ x0 := fun e => by rw [← e] at HEE; cases HV.out.2 HEE.out
            clear HV
            go_wp2_with fail
            go_roundw
            case rel => exact ⟨i + 1, by omega, by go_num, HW⟩
            case measure => simp [intOf]; omega
          · obtain rfl : i = x0 := HU.out i hlt (HV.out.1 rfl)
            clear HV
            go_wp2_with fail
            go_ret
            exact ⟨rfl, Below.then HB.out HW.out⟩


/-- A lattice boxed, and a list. -/
structure GL (L : LA) (f : MA) (s : Nat) (w : World) : Prop where
  ia : L.In w
  fi : f.In w
  xa : LB w s L.n L.a L.la L.ca L.b L.lb L.cb
theorem GL.step {L : LA} {f : MA} {s : Nat} {w w' : World} (h : GL L f s w) (hb : Below w.heap.size w w') : GL L f s w' := ⟨h.ia.step hb, h.fi.step hb, h.xa.step hb⟩
theorem GL.new {L : LA} {f : MA} {w : World} (hL : L.In w) (hf : f.In w) : GL L f w.heap.size (w.alloc (.cells #[.int .i64 L.n, .slice L.a L.la L.ca, .slice L.b L.lb L.cb] 49)) :=
  ⟨hL.step ((Below.refl _ _).alloc (Nat.le_refl _) _), hf.step ((Below.refl _ _).alloc (Nat.le_refl _) _), LB.new _ _ _ _ _ _ _ _⟩
theorem latMonL_any {X : LA} {Z : MA} {s : Nat} {wx : World} (h : GL X Z s wx) (hc : X.Ck 0) (hm : MCk X.n X.n Z.la Z.F 0) :
    Calls Tryd.prog 50 #[X.v, Z.v] wx fun e w' => BIs e (Mono X.q X.m Z.f) ∧ Below wx.heap.size wx w' := by
  obtain ⟨q, b1, o1, b2, o2, e1, e2, e3, e4, e5, h1, h40, hlat, ht1, ht2⟩ := LCk.open hc h.ia.2.2.1 h.ia.2.2.2
  have eq : q = X.q := by unfold LA.q; omega
  rw [e1] at hm
  obtain ⟨ef, hff, hr⟩ := MA.open hm
  have := latMon_any q b1 o1 X.ca (some ⟨b2, o2, none⟩) q X.cb _ (nat2 X.FA) Z.a Z.ca Z.f wx h40 hff ht1 (hr _ h.fi)
  unfold LA.v MA.v
  rw [e1, e2, ← e3, e4, ← e5, ef, ← eq]
  refine this.mono fun e w' g => ⟨?_, g.2⟩
  obtain ⟨v, hv, hq⟩ := g.1
  exact ⟨v, hv, hq.trans mono_iff⟩
/-- The end that Least and Greatest find is the one that the reference looks for. -/
theorem fixedEndL_any {X : LA} {Z : MA} {s : Nat} {wx : World} (h : GL X Z s wx) (hc : X.Ck 0) (hm : MCk X.n X.n Z.la Z.F 0) (gr : Bool) {x0 : Nat} (hI : FixI X.q (if gr then X.j else X.m) Z.f x0) (hx : Z.f x0 = x0) :
    Calls Tryd.prog 27 #[X.v, Z.v, .bool gr] wx fun e w' => e = .returned (.int .i64 (x0 : Nat)) ∧ Below wx.heap.size wx w' := by
  obtain ⟨q, b1, o1, b2, o2, e1, e2, e3, e4, e5, h1, h40, hlat, ht1, ht2⟩ := LCk.open hc h.ia.2.2.1 h.ia.2.2.2
  have eq : q = X.q := by unfold LA.q; omega
  rw [e1] at hm
  obtain ⟨ef, hff, hr⟩ := MA.open hm
  rw [← eq] at hI
  have hx0 : x0 < q := hI.1
  have hE : ∀ y, y < q → Z.f y = y → (if gr then leB (nat2 X.FA) y x0 else leB (nat2 X.FA) x0 y) = true := fun y hy hfy => by
    have h3 := hI.2.2 y hy hfy
    rcases gr with _ | _
    · have h4 : nat2 X.FA x0 y = x0 := h3
      simpa [leB] using h4
    · have h4 : nat2 X.FB x0 y = x0 := h3
      have h5 : nat2 X.FA y x0 = y := (hlat.le_join hy hx0).2 (by rw [hlat.turn.comm hy hx0]; exact h4)
      simpa [leB] using h5
  have hEnd : EndTo gr (nat2 X.FA) Z.f x0 q := ⟨hx, fun y hy => by
    by_cases e : Z.f y = y
    · rw [endB_on e]; exact hE y hy e
    · exact endB_off e⟩
  have hU : ∀ x, x < q → EndTo gr (nat2 X.FA) Z.f x q → x = x0 := fun x hxq g => by
    have g1 := g.2 x0 hx0
    rw [endB_on hx] at g1
    have g2 := hE x hxq g.1
    rcases gr with _ | _
    · exact hlat.le_anti hxq hx0 (by simpa [leB] using g1) (by simpa [leB] using g2)
    · exact hlat.le_anti hxq hx0 (by simpa [leB] using g2) (by simpa [leB] using g1)
  have := fixedEnd_any q b1 o1 X.ca (some ⟨b2, o2, none⟩) q X.cb _ (nat2 X.FA) Z.a Z.ca Z.f gr x0 wx h40 hff ht1 (hr _ h.fi) hx0 hEnd hU
  unfold LA.v MA.v
  rw [e1, e2, ← e3, e4, ← e5, ef]
  exact this


/-- Those that go to themselves. -/
def fxs (f : Nat → Nat) (k : Nat) : Nat := setBy (fun i => f i == i) k
theorem fxs_yes {f : Nat → Nat} {k : Nat} (h : f k = k) : fxs f (k + 1) = fxs f k + pw k := setBy_yes (by simpa using h)
theorem fxs_or {f : Nat → Nat} {k : Nat} (h : f k = k) : fxs f (k + 1) = fxs f k ||| pw k := (fxs_yes h).trans (or_pw_add (setBy_lt _ k)).symm
theorem fxs_no {f : Nat → Nat} {k : Nat} (h : f k ≠ k) : fxs f (k + 1) = fxs f k := setBy_no (by simpa using h)
theorem fxs_lt {f : Nat → Nat} {k : Nat} (h : k ≤ 10) : fxs f k < 1024 := Nat.lt_of_lt_of_le (setBy_lt _ k) (pw_le k h)
theorem pw_few {k : Nat} (h : k < 10) : pw k < 1024 := by
  have : pw k < 2 ^ 10 := Nat.pow_lt_pow_right (by decide) (by omega)
  omega

set_option maxHeartbeats 1000000 in
theorem fixed_any (q : Nat) (fa : Option Addr) (fc : Nat) (f : Nat → Nat) (w : World) (h10 : q ≤ 10) (hr : Row w fa q (fun k => (f k : Nat))) :
    Calls Tryd.prog 38 #[.slice fa q fc] w fun e w' => e = .returned (.int .i64 (fxs f q : Nat)) ∧ w = w' := by
  have HR : Hid (Row w fa q (fun k => (f k : Nat))) := hr
  clear hr
  go_enter Tryd.func38, Tryd.ntmps38
  go_wp2_with fail
  go_loopw [3, 8] (fun v i wx => ∃ k : Nat, k ≤ q ∧ i = .int .i64 k ∧ v = .int .i64 (fxs f k : Nat) ∧ wx = w) (fun _ i _ => q - (intOf i).toNat)
  case atStart => exact ⟨0, Nat.zero_le _, rfl, rfl, rfl⟩
  case round =>
    obtain ⟨k, hk, rfl, rfl, rfl⟩ := hrel
    by_cases hlt : k < q
    · obtain ⟨fb, fo, rfl, hc⟩ := HR.out k hlt
      have ik : (k : Int) < (q : Int) := by omega
      by_cases e : f k = k
      · have he : (((f k : Nat) : Int) == ((k : Nat) : Int)) = true := by rw [e]; simp
        have HE : Hid (fxs f (k + 1) = fxs f k ||| pw k) := fxs_or e
        have h1 : fxs f k < 1024 := fxs_lt (by omega)
        have h2 : pw k < 1024 := pw_few (by omega)
        have hor := i64_or (fxs f k) (pw k) (by omega) (by omega)
        have hsh := wrap_pow k (by omega)
        clear e
        go_wp2_with fail
        go_roundw
        case rel => exact ⟨k + 1, by omega, by go_num, by rw [HE.out], by first | rfl | trivial⟩
        case measure => simp [intOf]; omega
      · have he : (((f k : Nat) : Int) == ((k : Nat) : Int)) = false := by simp; omega
        have HE : Hid (fxs f (k + 1) = fxs f k) := fxs_no e
        clear e
        go_wp2_with fail
        go_roundw
        case rel => exact ⟨k + 1, by omega, by go_num, by rw [HE.out], by first | rfl | trivial⟩
        case measure => simp [intOf]; omega
    · obtain rfl : k = q := by omega
      go_wp2_with fail
      go_ret
      exact ⟨rfl, rfl⟩

set_option maxHeartbeats 1000000 in
theorem refFixed_any (q : Nat) (fa : Option Addr) (fc : Nat) (f : Nat → Nat) (w : World) (h10 : q ≤ 10) (hr : Row w fa q (fun k => (f k : Nat))) :
    Calls Tryd.prog 19 #[.slice fa q fc] w fun e w' => e = .returned (.int .i64 (fxs f q : Nat)) ∧ w = w' := by
  have HR : Hid (Row w fa q (fun k => (f k : Nat))) := hr
  clear hr
  go_enter Tryd.func19, Tryd.ntmps19
  go_wp2_with fail
  go_loopw [3, 4] (fun v i wx => ∃ k : Nat, k ≤ q ∧ i = .int .i64 k ∧ v = .int .i64 (fxs f k : Nat) ∧ wx = w) (fun _ i _ => q - (intOf i).toNat)
  case atStart => exact ⟨0, Nat.zero_le _, rfl, rfl, rfl⟩
  case round =>
    obtain ⟨k, hk, rfl, rfl, rfl⟩ := hrel
    by_cases hlt : k < q
    · obtain ⟨fb, fo, rfl, hc⟩ := HR.out k hlt
      have ik : (k : Int) < (q : Int) := by omega
      by_cases e : f k = k
      · have he : (((f k : Nat) : Int) == ((k : Nat) : Int)) = true := by rw [e]; simp
        have HE : Hid (fxs f (k + 1) = fxs f k + pw k) := fxs_yes e
        have h1 : fxs f k < 1024 := fxs_lt (by omega)
        have h2 : pw k < 1024 := pw_few (by omega)
        clear e
        go_wp2_with (go_at_call 39; refine (bit_any k _ (by omega)).mono ?_; rintro e w' ⟨rfl, hww⟩; subst hww)
        go_roundw
        case rel => exact ⟨k + 1, by omega, by go_num, by rw [HE.out]; go_num, by first | rfl | trivial⟩
        case measure => simp [intOf]; omega
      · have he : (((f k : Nat) : Int) == ((k : Nat) : Int)) = false := by simp; omega
        have HE : Hid (fxs f (k + 1) = fxs f k) := fxs_no e
        clear e
        go_wp2_with fail
        go_roundw
        case rel => exact ⟨k + 1, by omega, by go_num, by rw [HE.out], by first | rfl | trivial⟩
        case measure => simp [intOf]; omega
    · obtain rfl : k = q := by omega
      go_wp2_with fail
      go_ret
      exact ⟨rfl, rfl⟩

theorem numberIs_any (c v v' : Int) (w : World) (h : (c ≠ 0 ∧ v = 0) ∨ (c = 0 ∧ v = v')) :
    Calls Tryd.prog 17 #[.int .i64 v, .int .i64 c, .int .i64 c, .int .i64 v'] w fun e w' => e = .returned (.bool true) ∧ w = w' := by
  have hcc : (c == c) = true := beq_self_eq_true _
  rcases h with ⟨h0, rfl⟩ | ⟨rfl, rfl⟩
  · have hne : (c != 0) = true := by simpa using h0
    go_enter Tryd.func17, Tryd.ntmps17
    go_wp2_with fail
    go_ret
    exact ⟨rfl, rfl⟩
  · have hvv : (v == v) = true := beq_self_eq_true _
    go_enter Tryd.func17, Tryd.ntmps17
    go_wp2_with fail
    go_ret
    exact ⟨rfl, rfl⟩

/-- An order boxed, and a list. -/
structure GX (A : OA) (f : MA) (s : Nat) (w : World) : Prop where
  ia : A.In w
  fi : f.In w
  xa : OB w s A.n A.a A.la A.ca
theorem GX.step {A : OA} {f : MA} {s : Nat} {w w' : World} (h : GX A f s w) (hb : Below w.heap.size w w') : GX A f s w' := ⟨h.ia.step hb, h.fi.step hb, h.xa.step hb⟩
theorem GX.new {A : OA} {f : MA} {w : World} (hA : A.In w) (hf : f.In w) : GX A f w.heap.size (w.alloc (.cells #[.int .i64 A.n, .slice A.a A.la A.ca] 24)) :=
  ⟨hA.step ((Below.refl _ _).alloc (Nat.le_refl _) _), hf.step ((Below.refl _ _).alloc (Nat.le_refl _) _), OB.new _ _ _ _ _⟩
theorem MoCk.zero {X Y : OA} {Z : MA} (hc : MoCk X Y Z 0) : X.Ck 0 ∧ Y.Ck 0 ∧ MCk X.n Y.n Z.la Z.F 0 := by
  rcases hc with ⟨h, _⟩ | ⟨⟨h, _⟩ | h, hm⟩
  · exact absurd rfl h
  · exact absurd rfl h
  · exact ⟨h.1, h.2, hm⟩
/-- What the errno of Fixed must be. -/
def FxCk (A : OA) (f : MA) (c : Int) : Prop := ∃ c0, MoCk A A f c0 ∧ ((c0 ≠ 0 ∧ c = c0) ∨ (c0 = 0 ∧ ((c = 4 ∧ ¬ MonL A A f) ∨ (c = 0 ∧ MonL A A f))))
def FxPost (A : OA) (f : MA) (e : Ending) : Prop := ∃ c v, FxCk A f c ∧ e = .returned (.tuple #[.int .i64 v, .int .i64 c]) ∧ ((c ≠ 0 ∧ v = 0) ∨ (c = 0 ∧ v = (fxs f.f A.q : Nat)))
theorem FxCk.one {A : OA} {f : MA} {c d : Int} (h : FxCk A f c) (h' : FxCk A f d) : c = d := by
  obtain ⟨c0, h1, h2⟩ := h
  obtain ⟨d0, h1', h2'⟩ := h'
  obtain rfl := h1.one h1'
  rcases h2 with ⟨h0, rfl⟩ | ⟨h0, ⟨rfl, h3⟩ | ⟨rfl, h3⟩⟩ <;> rcases h2' with ⟨h0', rfl⟩ | ⟨h0', ⟨rfl, h3'⟩ | ⟨rfl, h3'⟩⟩ <;>
    first | rfl | exact absurd h0 h0' | exact absurd h0' h0 | exact absurd h3 h3' | exact absurd h3' h3
theorem fixedL_any {X : OA} {Z : MA} {wx : World} (hc : MoCk X X Z 0) (hf : Z.In wx) (F : Nat)
    (h : ∀ (q : Nat) (fa : Option Addr) (fc : Nat) (f : Nat → Nat) (w : World), q ≤ 10 → Row w fa q (fun k => (f k : Nat)) → Calls Tryd.prog F #[.slice fa q fc] w fun e w' => e = .returned (.int .i64 (fxs f q : Nat)) ∧ w = w') :
    Calls Tryd.prog F #[Z.v] wx fun e w' => e = .returned (.int .i64 (fxs Z.f X.q : Nat)) ∧ wx = w' := by
  obtain ⟨h1, _, h3⟩ := hc.zero
  obtain ⟨en, el, h10, hg, hr1⟩ := OA.open h1
  rw [en] at h3
  obtain ⟨ef, hff, hr⟩ := MA.open h3
  unfold MA.v
  rw [ef]
  exact h X.q Z.a Z.ca Z.f wx h10 (hr _ hf)

set_option maxHeartbeats 4000000 in
theorem fixFixed0_any (A : OA) (f : MA) (w : World) (hA : A.In w) (hf : f.In w) :
    Calls Tryd.prog 18 #[A.v, f.v] w fun e w' => FxPost A f e ∧ Below w.heap.size w w' := by
  obtain ⟨W, eW⟩ : ∃ W, Hid (W = w.alloc (.cells #[.int .i64 A.n, .slice A.a A.la A.ca] 24)) := ⟨_, rfl⟩
  have HB1 : Hid (Below w.heap.size w W) := by rw [eW.out]; exact (Below.refl _ _).alloc (Nat.le_refl _) _
  have hG : GX A f w.heap.size W := by rw [eW.out]; exact GX.new hA hf
  obtain ⟨X, hX⟩ : ∃ X, X = A := ⟨_, rfl⟩
  obtain ⟨Z, hZ⟩ : ∃ Z, Z = f := ⟨_, rfl⟩
  have HG : Hid (GX X Z w.heap.size W) := by rw [hX, hZ]; exact hG
  have Cm : Hid (∀ wx, GX X Z w.heap.size wx → Calls Tryd.prog 9 #[X.v, X.v, Z.v] wx fun e w' => MoPost X X Z e ∧ Below wx.heap.size wx w') := fun wx h => monotone_any X X Z wx h.ia h.ia h.fi
  have Cf : Hid (∀ wx, GX X Z w.heap.size wx → MoCk X X Z 0 → Calls Tryd.prog 38 #[Z.v] wx fun e w' => e = .returned (.int .i64 (fxs Z.f X.q : Nat)) ∧ wx = w') := fun wx h hc => fixedL_any hc h.fi _ fixed_any
  have HX : Hid (∀ wx, GX X Z w.heap.size wx → OB wx w.heap.size A.n A.a A.la A.ca) := fun wx h => by
    rw [hX] at h
    exact h.xa
  have HV : Hid (X.v = A.v ∧ Z.v = f.v) := by rw [hX, hZ]; exact ⟨rfl, rfl⟩
  rw [HV.out.1, HV.out.2] at Cm
  rw [HV.out.2] at Cf
  rw [← hX, ← hZ, HV.out.1, HV.out.2]
  clear hX hZ hA hf hG HV
  obtain ⟨n0, a, la, ca, F⟩ := A
  obtain ⟨fa, fl, fc, FF⟩ := f
  simp only [OA.v, MA.v] at *
  obtain ⟨l0, l1⟩ := HX.out _ HG.out
  go_enter Tryd.func18, Tryd.ntmps18
  go_wp2_with fail
  rw [← eW.out]
  go_wp2_with fail
  clear eW
  refine (Cm.out _ HG.out).mono ?_
  rintro e w1 ⟨⟨c, v, hc, rfl, hv⟩, hb1⟩
  have HB2 : Hid (Below w.heap.size w w1) := Below.then HB1.out hb1
  have HG1 : Hid (GX X Z w.heap.size w1) := HG.out.step hb1
  have HC : Hid (MoCk X X Z c) := hc
  clear hb1 HG HB1 l0 l1 hc Cm HX
  by_cases h0 : c = 0
  · subst h0
    have hvv : v = true ↔ MonL X X Z := by
      rcases hv with ⟨h, _⟩ | ⟨_, h⟩
      · exact absurd rfl h
      · exact h
    rcases v with _ | _
    · have HO : Hid (FxCk X Z 4) := ⟨0, HC.out, .inr ⟨rfl, .inl ⟨rfl, fun h => by cases hvv.2 h⟩⟩⟩
      clear hvv hv
      go_wp2_with fail
      go_ret2
      exact ⟨⟨4, 0, HO.out, rfl, .inl ⟨by decide, rfl⟩⟩, HB2.out⟩
    · have HO : Hid (FxCk X Z 0) := ⟨0, HC.out, .inr ⟨rfl, .inr ⟨rfl, hvv.1 rfl⟩⟩⟩
      clear hvv hv
      go_wp2_with fail
      refine (Cf.out _ HG1.out HC.out).mono ?_
      rintro e w2 ⟨rfl, hw2⟩
      have hw2' := hw2.symm
      subst hw2'
      clear hw2
      go_wp2_with fail
      go_ret2
      exact ⟨⟨0, _, HO.out, rfl, .inr ⟨rfl, rfl⟩⟩, HB2.out⟩
  · have hne : (c != 0) = true := by simpa using h0
    have HO : Hid (FxCk X Z c) := ⟨c, HC.out, .inl ⟨h0, rfl⟩⟩
    clear hv
    go_wp2_with fail
    go_ret2
    exact ⟨⟨c, 0, HO.out, rfl, .inl ⟨h0, rfl⟩⟩, HB2.out⟩

set_option maxHeartbeats 8000000 in
theorem fixFixed_all (A : OA) (f : MA) (w : World) (hA : A.In w) (hf : f.In w) (hT : Tab w) :
    Calls Tryd.prog 5 #[A.v, f.v] w fun e w' => e = .returned (.bool true) ∧ Below w.heap.size w w' := by
  obtain ⟨W, eW⟩ : ∃ W, Hid (W = w.alloc (.cells #[.int .i64 A.n, .slice A.a A.la A.ca] 24)) := ⟨_, rfl⟩
  have HB1 : Hid (Below w.heap.size w W) := by rw [eW.out]; exact (Below.refl _ _).alloc (Nat.le_refl _) _
  have hG : GX A f w.heap.size W := by rw [eW.out]; exact GX.new hA hf
  obtain ⟨X, hX⟩ : ∃ X, X = A := ⟨_, rfl⟩
  obtain ⟨Z, hZ⟩ : ∃ Z, Z = f := ⟨_, rfl⟩
  have HG : Hid (GX X Z w.heap.size W) := by rw [hX, hZ]; exact hG
  have HTT : Hid (Tab w) := hT
  have Cm : Hid (∀ wx, GX X Z w.heap.size wx → Calls Tryd.prog 18 #[X.v, Z.v] wx fun e w' => FxPost X Z e ∧ Below wx.heap.size wx w') := fun wx h => fixFixed0_any X Z wx h.ia h.fi
  have Ct : Hid (∀ wx, GX X Z w.heap.size wx → Calls Tryd.prog 10 #[X.v, X.v, Z.v] wx fun e w' => (∃ c, e = .returned (.int .i64 c) ∧ MoCk X X Z c) ∧ Below wx.heap.size wx w') := fun wx h => mapsTo_any X X Z wx h.ia h.ia h.fi
  have Cr : Hid (∀ wx, GX X Z w.heap.size wx → MoCk X X Z 0 → Calls Tryd.prog 13 #[X.v, X.v, Z.v] wx fun e w' => BIs e (MonL X X Z) ∧ Below wx.heap.size wx w') := fun wx h hc => by
    obtain ⟨h1, _, h3⟩ := hc.zero
    obtain ⟨en, el, h10, hg, hr1⟩ := OA.open h1
    rw [en] at h3
    obtain ⟨ef, hff, hr⟩ := MA.open h3
    have := refMon_any X.q X.q X.a X.a Z.a X.ca X.ca Z.ca X.g X.g Z.f wx h10 h10 hg hg hff (hr1 _ h.ia) (hr1 _ h.ia) (hr _ h.fi)
    unfold OA.v MA.v
    rw [en, el, ef]
    exact this
  have Cf : Hid (∀ wx, GX X Z w.heap.size wx → MoCk X X Z 0 → Calls Tryd.prog 19 #[Z.v] wx fun e w' => e = .returned (.int .i64 (fxs Z.f X.q : Nat)) ∧ wx = w') := fun wx h hc => fixedL_any hc h.fi _ refFixed_any
  have HX : Hid (∀ wx, GX X Z w.heap.size wx → OB wx w.heap.size A.n A.a A.la A.ca) := fun wx h => by
    rw [hX] at h
    exact h.xa
  have HV : Hid (X.v = A.v ∧ Z.v = f.v) := by rw [hX, hZ]; exact ⟨rfl, rfl⟩
  rw [HV.out.1, HV.out.2] at Cm
  rw [HV.out.1, HV.out.2] at Ct
  rw [HV.out.1, HV.out.2] at Cr
  rw [HV.out.2] at Cf
  clear hX hZ hA hf hG hT HV
  obtain ⟨n0, a, la, ca, F⟩ := A
  obtain ⟨fa, fl, fc, FF⟩ := f
  simp only [OA.v, MA.v] at *
  obtain ⟨l0, l1⟩ := HX.out _ HG.out
  go_enter Tryd.func5, Tryd.ntmps5
  go_wp2_with fail
  rw [← eW.out]
  go_wp2_with fail
  clear eW
  refine (Cm.out _ HG.out).mono ?_
  rintro e w1 ⟨⟨c, v, hc, rfl, hv⟩, hb1⟩
  have HB2 : Hid (Below w.heap.size w w1) := Below.then HB1.out hb1
  have HG1 : Hid (GX X Z w.heap.size w1) := HG.out.step hb1
  have HC : Hid (FxCk X Z c) := hc
  have HVV : Hid ((c ≠ 0 ∧ v = 0) ∨ (c = 0 ∧ v = (fxs Z.f X.q : Nat))) := hv
  clear hb1 HG HB1 l0 l1 hc hv Cm
  obtain ⟨l0, l1⟩ := HX.out _ HG1.out
  go_wp2_with fail
  refine (Ct.out _ HG1.out).mono ?_
  rintro e w2 ⟨⟨c', rfl, hc'⟩, hb2⟩
  have HM : Hid (MoCk X X Z c') := hc'
  have HB3 : Hid (Below w.heap.size w w2) := Below.then HB2.out hb2
  have HG2 : Hid (GX X Z w.heap.size w2) := HG1.out.step hb2
  clear hb2 HG1 HB2 l0 l1 hc' Ct
  by_cases h0 : c' = 0
  · subst h0
    obtain ⟨l0, l1⟩ := HX.out _ HG2.out
    go_wp2_with fail
    refine (Cr.out _ HG2.out HM.out).mono ?_
    rintro e w3 ⟨⟨v', rfl, hv'⟩, hb3⟩
    have HB4 : Hid (Below w.heap.size w w3) := Below.then HB3.out hb3
    have HG3 : Hid (GX X Z w.heap.size w3) := HG2.out.step hb3
    clear hb3 HG2 HB3 l0 l1 HX
    rcases v' with _ | _
    · have e4 : c = 4 := HC.out.one ⟨0, HM.out, .inr ⟨rfl, .inl ⟨rfl, fun h => by cases hv'.2 h⟩⟩⟩
      subst e4
      clear hv'
      go_wp2_with fail
      refine (fixBegun_any _ (HTT.out.step HB4.out)).mono ?_
      rintro e w4 ⟨rfl, hb4⟩
      have HB5 : Hid (Below w.heap.size w w4) := Below.then HB4.out hb4
      clear hb4 HB4 HG3
      go_wp2_with fail
      refine (numberIs_any 4 v 0 _ (.inl ⟨by decide, by rcases HVV.out with ⟨_, h⟩ | ⟨h, _⟩; exact h; omega⟩)).mono ?_
      rintro e w5 ⟨rfl, rfl⟩
      go_wp2_with fail
      go_ret
      exact ⟨rfl, HB5.out⟩
    · have e4 : c = 0 := HC.out.one ⟨0, HM.out, .inr ⟨rfl, .inr ⟨rfl, hv'.1 rfl⟩⟩⟩
      subst e4
      clear hv'
      go_wp2_with fail
      refine (Cf.out _ HG3.out HM.out).mono ?_
      rintro e w4 ⟨rfl, hw4⟩
      have hw4' := hw4.symm
      subst hw4'
      clear hw4
      go_wp2_with fail
      refine (fixBegun_any _ (HTT.out.step HB4.out)).mono ?_
      rintro e w5 ⟨rfl, hb4⟩
      have HB5 : Hid (Below w.heap.size w w5) := Below.then HB4.out hb4
      clear hb4 HB4 HG3
      go_wp2_with fail
      refine (numberIs_any 0 v _ _ (.inr ⟨rfl, by rcases HVV.out with ⟨h, _⟩ | ⟨_, h⟩; exact absurd rfl h; exact h⟩)).mono ?_
      rintro e w6 ⟨rfl, rfl⟩
      go_wp2_with fail
      go_ret
      exact ⟨rfl, HB5.out⟩
  · have hne : (c' == 0) = false := by simpa using h0
    have e4 : c = c' := HC.out.one ⟨c', HM.out, .inl ⟨h0, rfl⟩⟩
    subst e4
    clear HX
    go_wp2_with fail
    refine (fixBegun_any _ (HTT.out.step HB3.out)).mono ?_
    rintro e w4 ⟨rfl, hb4⟩
    have HB5 : Hid (Below w.heap.size w w4) := Below.then HB3.out hb4
    clear hb4 HB3 HG2
    go_wp2_with fail
    refine (numberIs_any c v 0 _ (.inl ⟨h0, by rcases HVV.out with ⟨_, h⟩ | ⟨h, _⟩; exact h; exact absurd h h0⟩)).mono ?_
    rintro e w5 ⟨rfl, rfl⟩
    go_wp2_with fail
    go_ret
    exact ⟨rfl, HB5.out⟩
theorem fixFixed_any (n0 : Int) (a0 : Option Addr) (la0 ca0 : Nat) (f0 : Nat → Int) (a2 : Option Addr) (b2 c2 : Nat) (f2 : Nat → Int) (w : World)
    (hl0 : la0 ≤ maxLen) (hl2 : b2 ≤ maxLen) (hr0 : Row w a0 la0 f0) (hr2 : Row w a2 b2 f2) (hT : Tab w) :
    Calls Tryd.prog 5 #[.agg #[.int .i64 n0, .slice a0 la0 ca0], .slice a2 b2 c2] w fun e w' => e = .returned (.bool true) ∧ Below w.heap.size w w' :=
  fixFixed_all ⟨n0, a0, la0, ca0, f0⟩ ⟨a2, b2, c2, f2⟩ w ⟨hl0, hr0⟩ ⟨hl2, hr2⟩ hT


set_option maxHeartbeats 4000000 in
theorem mapsElements_any (L : LA) (f : MA) (w : World) (hL : L.In w) (hf : f.In w) :
    Calls Tryd.prog 26 #[L.v, f.v] w fun e w' => (∃ c, e = .returned (.int .i64 c) ∧ FCk L f c) ∧ Below w.heap.size w w' := by
  obtain ⟨W, eW⟩ : ∃ W, Hid (W = w.alloc (.cells #[.int .i64 L.n, .slice L.a L.la L.ca, .slice L.b L.lb L.cb] 49)) := ⟨_, rfl⟩
  have HB1 : Hid (Below w.heap.size w W) := by rw [eW.out]; exact (Below.refl _ _).alloc (Nat.le_refl _) _
  have hG : GL L f w.heap.size W := by rw [eW.out]; exact GL.new hL hf
  obtain ⟨X, hX⟩ : ∃ X, X = L := ⟨_, rfl⟩
  obtain ⟨Z, hZ⟩ : ∃ Z, Z = f := ⟨_, rfl⟩
  have HG : Hid (GL X Z w.heap.size W) := by rw [hX, hZ]; exact hG
  have CC : Hid (∀ wx, GL X Z w.heap.size wx → Calls Tryd.prog 49 #[X.v] wx fun e w' => (∃ c, e = .returned (.int .i64 c) ∧ X.Ck c) ∧ Below wx.heap.size wx w') := fun wx h => checkLattice_any X.n X.a X.la X.ca X.SA X.FA X.b X.lb X.cb X.SB X.FB wx h.ia.1 h.ia.2.1 h.ia.2.2.1 h.ia.2.2.2
  have CM : Hid (∀ wx, GL X Z w.heap.size wx → Calls Tryd.prog 32 #[.int .i64 L.n, .int .i64 L.n, Z.v] wx fun e w' => (∃ c, e = .returned (.int .i64 c) ∧ MCk X.n X.n Z.la Z.F c) ∧ wx = w') := fun wx h => by
    rw [← hX]; exact mapped_any Z X.n X.n wx h.fi
  have CL : Hid (∀ wx, GL X Z w.heap.size wx → X.Ck 0 → MCk X.n X.n Z.la Z.F 0 → Calls Tryd.prog 50 #[X.v, Z.v] wx fun e w' => BIs e (Mono X.q X.m Z.f) ∧ Below wx.heap.size wx w') := fun wx h hc hm => latMonL_any h hc hm
  have HX : Hid (∀ wx, GL X Z w.heap.size wx → LB wx w.heap.size L.n L.a L.la L.ca L.b L.lb L.cb) := fun wx h => by
    rw [hX] at h
    exact h.xa
  have HV : Hid (X.v = L.v ∧ Z.v = f.v) := by rw [hX, hZ]; exact ⟨rfl, rfl⟩
  rw [HV.out.1] at CC
  rw [HV.out.2] at CM
  rw [HV.out.1, HV.out.2] at CL
  rw [← hX, ← hZ, HV.out.1, HV.out.2]
  clear hX hZ hL hf hG HV
  obtain ⟨n, a, la, ca, SA, FA, b, lb, cb, SB, FB⟩ := L
  obtain ⟨fa, fl, fc, FF⟩ := f
  simp only [LA.v, MA.v] at *
  obtain ⟨l0, l1, l2⟩ := HX.out _ HG.out
  go_enter Tryd.func26, Tryd.ntmps26
  go_wp2_with fail
  rw [← eW.out]
  go_wp2_with fail
  clear eW
  refine (CC.out _ HG.out).mono ?_
  rintro e w1 ⟨⟨c, rfl, hc⟩, hb1⟩
  have HB2 : Hid (Below w.heap.size w w1) := Below.then HB1.out hb1
  have HG1 : Hid (GL X Z w.heap.size w1) := HG.out.step hb1
  clear hb1 HG HB1 l0 l1 l2 CC
  by_cases h0 : c = 0
  · subst h0
    have HC : Hid (X.Ck 0) := hc
    clear hc
    obtain ⟨l0, l1, l2⟩ := HX.out _ HG1.out
    go_wp2_with fail
    refine (CM.out _ HG1.out).mono ?_
    rintro e w2 ⟨⟨c, rfl, hc⟩, hw2⟩
    have hw2' := hw2.symm
    subst hw2'
    clear hw2
    by_cases h0 : c = 0
    · subst h0
      have HM : Hid (MCk X.n X.n Z.la Z.F 0) := hc
      clear hc
      go_wp2_with fail
      refine (CL.out _ HG1.out HC.out HM.out).mono ?_
      rintro e w3 ⟨⟨v, rfl, hv⟩, hb3⟩
      have HB3 : Hid (Below w.heap.size w w3) := Below.then HB2.out hb3
      clear hb3 HB2 HG1 l0 l1 l2 CL CM HX
      rcases v with _ | _
      · have HO : Hid (FCk X Z 4) := .inr ⟨HC.out, .inr ⟨HM.out, .inl ⟨rfl, fun h => by cases hv.2 h⟩⟩⟩
        clear hv
        go_wp2_with fail
        go_ret
        exact ⟨⟨4, rfl, HO.out⟩, HB3.out⟩
      · have HO : Hid (FCk X Z 0) := .inr ⟨HC.out, .inr ⟨HM.out, .inr ⟨rfl, hv.1 rfl⟩⟩⟩
        clear hv
        go_wp2_with fail
        go_ret
        exact ⟨⟨0, rfl, HO.out⟩, HB3.out⟩
    · have hne : (c == 0) = false := by simpa using h0
      have HO : Hid (FCk X Z c) := .inr ⟨HC.out, .inl ⟨h0, hc⟩⟩
      clear hc
      go_wp2_with fail
      go_ret
      exact ⟨⟨c, rfl, HO.out⟩, HB2.out⟩
  · have hne : (c == 0) = false := by simpa using h0
    have HO : Hid (FCk X Z c) := .inl ⟨h0, hc⟩
    clear hc
    go_wp2_with fail
    go_ret
    exact ⟨⟨c, rfl, HO.out⟩, HB2.out⟩

theorem FCk.zero {X : LA} {Z : MA} (h : FCk X Z 0) : X.Ck 0 ∧ MCk X.n X.n Z.la Z.F 0 := by
  rcases h with ⟨h, _⟩ | ⟨h, ⟨h1, _⟩ | ⟨h1, _⟩⟩
  · exact absurd rfl h
  · exact absurd rfl h1
  · exact ⟨h, h1⟩

set_option maxHeartbeats 8000000 in
theorem fixEnds_all (L : LA) (f : MA) (w : World) (hL : L.In w) (hf : f.In w) (hT : Tab w) :
    Calls Tryd.prog 8 #[L.v, f.v] w fun e w' => e = .returned (.bool true) ∧ Below w.heap.size w w' := by
  obtain ⟨W, eW⟩ : ∃ W, Hid (W = w.alloc (.cells #[.int .i64 L.n, .slice L.a L.la L.ca, .slice L.b L.lb L.cb] 49)) := ⟨_, rfl⟩
  have HB1 : Hid (Below w.heap.size w W) := by rw [eW.out]; exact (Below.refl _ _).alloc (Nat.le_refl _) _
  have hG : GL L f w.heap.size W := by rw [eW.out]; exact GL.new hL hf
  obtain ⟨X, hX⟩ : ∃ X, X = L := ⟨_, rfl⟩
  obtain ⟨Z, hZ⟩ : ∃ Z, Z = f := ⟨_, rfl⟩
  have HG : Hid (GL X Z w.heap.size W) := by rw [hX, hZ]; exact hG
  have HTT : Hid (Tab w) := hT
  have C1 : Hid (∀ wx, GL X Z w.heap.size wx → Calls Tryd.prog 24 #[X.v, Z.v] wx fun e w' => FPost X Z X.m e ∧ Below wx.heap.size wx w') := fun wx h => least_any X Z wx h.ia h.fi
  have C2 : Hid (∀ wx, GL X Z w.heap.size wx → Calls Tryd.prog 25 #[X.v, Z.v] wx fun e w' => FPost X Z X.j e ∧ Below wx.heap.size wx w') := fun wx h => greatest_any X Z wx h.ia h.fi
  have C3 : Hid (∀ wx, GL X Z w.heap.size wx → Calls Tryd.prog 26 #[X.v, Z.v] wx fun e w' => (∃ c, e = .returned (.int .i64 c) ∧ FCk X Z c) ∧ Below wx.heap.size wx w') := fun wx h => mapsElements_any X Z wx h.ia h.fi
  have CF0 : Hid (∀ wx gr (x0 : Nat), FixI X.q (if gr then X.j else X.m) Z.f x0 → Z.f x0 = x0 → GL X Z w.heap.size wx → X.Ck 0 → MCk X.n X.n Z.la Z.F 0 → Calls Tryd.prog 27 #[X.v, Z.v, .bool gr] wx fun e w' => e = .returned (.int .i64 (x0 : Nat)) ∧ Below wx.heap.size wx w') := fun wx gr x0 hI hx h hc hm => fixedEndL_any h hc hm gr hI hx
  have HX : Hid (∀ wx, GL X Z w.heap.size wx → LB wx w.heap.size L.n L.a L.la L.ca L.b L.lb L.cb) := fun wx h => by
    rw [hX] at h
    exact h.xa
  have HV : Hid (X.v = L.v ∧ Z.v = f.v) := by rw [hX, hZ]; exact ⟨rfl, rfl⟩
  rw [HV.out.1, HV.out.2] at C1
  rw [HV.out.1, HV.out.2] at C2
  rw [HV.out.1, HV.out.2] at C3
  rw [HV.out.1, HV.out.2] at CF0
  clear hX hZ hL hf hG hT HV
  obtain ⟨n, a, la, ca, SA, FA, b, lb, cb, SB, FB⟩ := L
  obtain ⟨fa, fl, fc, FF⟩ := f
  simp only [LA.v, MA.v] at *
  obtain ⟨l0, l1, l2⟩ := HX.out _ HG.out
  go_enter Tryd.func8, Tryd.ntmps8
  go_wp2_with fail
  rw [← eW.out]
  go_wp2_with fail
  clear eW
  refine (C1.out _ HG.out).mono ?_
  rintro e w1 ⟨⟨c, v, hc, rfl, hv⟩, hb1⟩
  have HB2 : Hid (Below w.heap.size w w1) := Below.then HB1.out hb1
  have HG1 : Hid (GL X Z w.heap.size w1) := HG.out.step hb1
  have HC : Hid (FCk X Z c) := hc
  have HV1 : Hid ((c ≠ 0 ∧ v = 0) ∨ (c = 0 ∧ ∃ x : Nat, v = (x : Nat) ∧ FixI X.q X.m Z.f x ∧ Z.f x = x)) := hv
  clear hb1 HG HB1 l0 l1 l2 hc hv C1
  obtain ⟨l0, l1, l2⟩ := HX.out _ HG1.out
  go_wp2_with fail
  refine (C2.out _ HG1.out).mono ?_
  rintro e w2 ⟨⟨c', v', hc', rfl, hv'⟩, hb2⟩
  have ecc : c = c' := HC.out.one hc'
  subst ecc
  have HB3 : Hid (Below w.heap.size w w2) := Below.then HB2.out hb2
  have HG2 : Hid (GL X Z w.heap.size w2) := HG1.out.step hb2
  have HV2 : Hid ((c ≠ 0 ∧ v' = 0) ∨ (c = 0 ∧ ∃ x : Nat, v' = (x : Nat) ∧ FixI X.q X.j Z.f x ∧ Z.f x = x)) := hv'
  clear hb2 HG1 HB2 l0 l1 l2 hc' hv' C2
  obtain ⟨l0, l1, l2⟩ := HX.out _ HG2.out
  go_wp2_with fail
  refine (C3.out _ HG2.out).mono ?_
  rintro e w4 ⟨⟨c', rfl, hc'⟩, hb3⟩
  have ecc : c = c' := HC.out.one hc'
  subst ecc
  have HB4 : Hid (Below w.heap.size w w4) := Below.then HB3.out hb3
  have HG4 : Hid (GL X Z w.heap.size w4) := HG2.out.step hb3
  clear hb3 HG2 HB3 l0 l1 l2 hc' C3
  by_cases h0 : c = 0
  · subst h0
    have hp : ∃ x : Nat, v = (x : Nat) ∧ FixI X.q X.m Z.f x ∧ Z.f x = x := by
      rcases HV1.out with ⟨h, _⟩ | ⟨_, h⟩
      · exact absurd rfl h
      · exact h
    have hq : ∃ x : Nat, v' = (x : Nat) ∧ FixI X.q X.j Z.f x ∧ Z.f x = x := by
      rcases HV2.out with ⟨h, _⟩ | ⟨_, h⟩
      · exact absurd rfl h
      · exact h
    obtain ⟨x, rfl, hp⟩ := hp
    obtain ⟨y, rfl, hq⟩ := hq
    have HP : Hid (FixI X.q (if false then X.j else X.m) Z.f x ∧ Z.f x = x) := hp
    have HQ : Hid (FixI X.q (if true then X.j else X.m) Z.f y ∧ Z.f y = y) := hq
    have CF : Hid (∀ wx gr (x0 : Nat), FixI X.q (if gr then X.j else X.m) Z.f x0 → Z.f x0 = x0 → GL X Z w.heap.size wx → Calls Tryd.prog 27 #[.agg #[.int .i64 n, .slice a la ca, .slice b lb cb], .slice fa fl fc, .bool gr] wx fun e w' => e = .returned (.int .i64 (x0 : Nat)) ∧ Below wx.heap.size wx w') := fun wx gr x0 hI hx h => CF0.out wx gr x0 hI hx h HC.out.zero.1 HC.out.zero.2
    have a0 : ∀ w', Below w4.heap.size w4 w' → w'.cell? ⟨w.heap.size, 0, none⟩ = some (.int .i64 n) := fun w' h => (HX.out _ (HG4.out.step h)).1
    have a1 : ∀ w', Below w4.heap.size w4 w' → w'.cell? ⟨w.heap.size, 1, none⟩ = some (.slice a la ca) := fun w' h => (HX.out _ (HG4.out.step h)).2.1
    have a2 : ∀ w', Below w4.heap.size w4 w' → w'.cell? ⟨w.heap.size, 2, none⟩ = some (.slice b lb cb) := fun w' h => (HX.out _ (HG4.out.step h)).2.2
    have KK : Below w4.heap.size w4 w4.drew := (Below.refl _ _).drew
    clear hp hq HV1 HV2 CF0
    go_wp2_with fail
    refine wp_region_held_drew (S := (fun w' => Below w4.heap.size w4 w')) (by kernel_rfl) (KK) (fun hHeld => ?_)
    refine wpAnyH_take (i := 0) (oi := { dst := some 29, op := Go.Op.load 49 (Go.Operand.tmp 2), type := 49, pos := "fix.go:107", after := #[], guard := none }) (v := ?_) rfl (by kernel_rfl) (by kernel_rfl) (by kernel_rfl) (fun _ _ _ h => h) (Or.inl ⟨by rfl, ?hy⟩) (by assumption) ?_
    case hy => (intro w9 hSw; (try dsimp only at hSw); go_simp; try with_reducible rfl)
    try simp only [Act.put, List.setIfInBounds_toArray, List.set_cons_zero, List.set_cons_succ]
    refine wpAnyH_take (i := 1) (oi := { dst := some 30, op := Go.Op.move (Go.Operand.tmp 1), type := 22, pos := "fix.go:107", after := #[], guard := none }) (v := ?_) rfl (by kernel_rfl) (by kernel_rfl) (by kernel_rfl) (fun _ _ _ h => h) (Or.inl ⟨by rfl, ?hy⟩) (by assumption) ?_
    case hy => (intro w9 hSw; (try dsimp only at hSw); go_simp; try with_reducible rfl)
    try simp only [Act.put, List.setIfInBounds_toArray, List.set_cons_zero, List.set_cons_succ]
    refine wpAnyH_take (i := 3) (oi := { dst := some 32, op := Go.Op.load 49 (Go.Operand.tmp 2), type := 49, pos := "fix.go:107", after := #[], guard := none }) (v := ?_) rfl (by kernel_rfl) (by kernel_rfl) (by kernel_rfl) (fun _ _ _ h => h) (Or.inl ⟨by rfl, ?hy⟩) (by assumption) ?_
    case hy => (intro w9 hSw; (try dsimp only at hSw); go_simp; try with_reducible rfl)
    try simp only [Act.put, List.setIfInBounds_toArray, List.set_cons_zero, List.set_cons_succ]
    refine wpAnyH_take (i := 4) (oi := { dst := some 33, op := Go.Op.move (Go.Operand.tmp 1), type := 22, pos := "fix.go:107", after := #[], guard := none }) (v := ?_) rfl (by kernel_rfl) (by kernel_rfl) (by kernel_rfl) (fun _ _ _ h => h) (Or.inl ⟨by rfl, ?hy⟩) (by assumption) ?_
    case hy => (intro w9 hSw; (try dsimp only at hSw); go_simp; try with_reducible rfl)
    try simp only [Act.put, List.setIfInBounds_toArray, List.set_cons_zero, List.set_cons_succ]
    refine wpAnyH_ready (rs := [2]) (by kernel_rfl) (by simp) ?_
    refine AllReadyH.cons (o := { dst := some 31, op := Go.Op.call { callee := Go.Callee.value (Go.Operand.func 27), args := #[Go.Operand.tmp 29, Go.Operand.tmp 30, Go.Operand.const (Go.Value.bool false)], argTypes := #[49, 22, 4] }, type := 3, pos := "fix.go:107", after := #[{ on := 0, ground := Go.Ground.data }, { on := 1, ground := Go.Ground.data }], guard := none }) rfl (fun K hK => ?_) AllReadyH.nil
    go_simp
    refine (CF.out _ false _ HP.out.1 HP.out.2 (HG4.out.step (by assumption))).mono ?_
    rintro e w5 ⟨rfl, hb5⟩
    refine hK.out _ _ ?_ (fun hHeld => ?_)
    · first | assumption | exact Below.then (by assumption) (by assumption)
    clear hK K
    try simp only [Act.put, List.setIfInBounds_toArray, List.set_cons_zero, List.set_cons_succ]
    refine wpAnyH_ready (rs := [5]) (by kernel_rfl) (by simp) ?_
    refine AllReadyH.cons (o := { dst := some 34, op := Go.Op.call { callee := Go.Callee.value (Go.Operand.func 27), args := #[Go.Operand.tmp 32, Go.Operand.tmp 33, Go.Operand.const (Go.Value.bool true)], argTypes := #[49, 22, 4] }, type := 3, pos := "fix.go:107", after := #[{ on := 3, ground := Go.Ground.data }, { on := 4, ground := Go.Ground.data }, { on := 2, ground := Go.Ground.chain }], guard := none }) rfl (fun K hK => ?_) AllReadyH.nil
    go_simp
    refine (CF.out _ true _ HQ.out.1 HQ.out.2 (HG4.out.step (by assumption))).mono ?_
    rintro e w6 ⟨rfl, hb6⟩
    refine hK.out _ _ ?_ (fun hHeld => ?_)
    · first | assumption | exact Below.then (by assumption) (by assumption)
    clear hK K
    try simp only [Act.put, List.setIfInBounds_toArray, List.set_cons_zero, List.set_cons_succ]
    refine wpAnyH_take (i := 6) (oi := { dst := some 10, op := Go.Op.assign (Go.Operand.tmp 31), type := 3, pos := "fix.go:107", after := #[{ on := 2, ground := Go.Ground.data }, { on := 5, ground := Go.Ground.chain }, { on := 0, ground := Go.Ground.phase }, { on := 1, ground := Go.Ground.phase }, { on := 2, ground := Go.Ground.phase }, { on := 3, ground := Go.Ground.textOnly Go.Departure.lateStores }, { on := 4, ground := Go.Ground.textOnly Go.Departure.lateStores }, { on := 5, ground := Go.Ground.textOnly Go.Departure.lateStoresUnsure }], guard := none }) (v := ?_) rfl (by kernel_rfl) (by kernel_rfl) (by kernel_rfl) (fun _ _ _ h => h) (Or.inl ⟨by rfl, ?hy⟩) (by assumption) ?_
    case hy => (intro w9 hSw; (try dsimp only at hSw); go_simp; try with_reducible rfl)
    try simp only [Act.put, List.setIfInBounds_toArray, List.set_cons_zero, List.set_cons_succ]
    refine wpAnyH_take (i := 7) (oi := { dst := some 11, op := Go.Op.assign (Go.Operand.tmp 34), type := 3, pos := "fix.go:107", after := #[{ on := 5, ground := Go.Ground.data }, { on := 6, ground := Go.Ground.chain }, { on := 0, ground := Go.Ground.phase }, { on := 1, ground := Go.Ground.phase }, { on := 2, ground := Go.Ground.phase }, { on := 3, ground := Go.Ground.phase }, { on := 4, ground := Go.Ground.phase }, { on := 5, ground := Go.Ground.phase }, { on := 6, ground := Go.Ground.phase }], guard := none }) (v := ?_) rfl (by kernel_rfl) (by kernel_rfl) (by kernel_rfl) (fun _ _ _ h => h) (Or.inl ⟨by rfl, ?hy⟩) (by assumption) ?_
    case hy => (intro w9 hSw; (try dsimp only at hSw); go_simp; try with_reducible rfl)
    try simp only [Act.put, List.setIfInBounds_toArray, List.set_cons_zero, List.set_cons_succ]
    refine wpAnyH_done (by kernel_rfl) ?_ _
    try simp only [Act.put, List.setIfInBounds_toArray, List.set_cons_zero, List.set_cons_succ]
    have HB6 : Hid (Below w.heap.size w w6) := Below.then HB4.out (by first | assumption | exact hHeld)
    clear a0 a1 a2 KK hHeld hb5 hb6
    go_wp2_with fail
    refine (fixBegun_any _ (HTT.out.step HB6.out)).mono ?_
    rintro e w7 ⟨rfl, hb7⟩
    have HB7 : Hid (Below w.heap.size w w7) := Below.then HB6.out hb7
    clear hb7 HB6 HB4
    go_wp2_with fail
    refine (numberIs_any 0 _ _ _ (.inr ⟨rfl, rfl⟩)).mono ?_
    rintro e w8 ⟨rfl, rfl⟩
    go_wp2_with fail
    refine (numberIs_any 0 _ _ _ (.inr ⟨rfl, rfl⟩)).mono ?_
    rintro e w9 ⟨rfl, rfl⟩
    go_wp2_with fail
    go_ret
    exact ⟨rfl, HB7.out⟩
  · have hne : (c == 0) = false := by simpa using h0
    have e1 : v = 0 := by
      rcases HV1.out with ⟨_, h⟩ | ⟨h, _⟩
      · exact h
      · exact absurd h h0
    have e2 : v' = 0 := by
      rcases HV2.out with ⟨_, h⟩ | ⟨h, _⟩
      · exact h
      · exact absurd h h0
    subst e1
    subst e2
    clear HV1 HV2 CF0 HX
    go_wp2_with fail
    refine (fixBegun_any _ (HTT.out.step HB4.out)).mono ?_
    rintro e w7 ⟨rfl, hb7⟩
    have HB7 : Hid (Below w.heap.size w w7) := Below.then HB4.out hb7
    clear hb7 HB4
    go_wp2_with fail
    refine (numberIs_any c 0 0 _ (.inl ⟨h0, rfl⟩)).mono ?_
    rintro e w8 ⟨rfl, rfl⟩
    go_wp2_with fail
    refine (numberIs_any c 0 0 _ (.inl ⟨h0, rfl⟩)).mono ?_
    rintro e w9 ⟨rfl, rfl⟩
    go_wp2_with fail
    go_ret
    exact ⟨rfl, HB7.out⟩
theorem fixEnds_any (n : Int) (a : Option Addr) (la ca : Nat) (SA : Nat → Option Addr × Nat × Nat) (FA : Nat → Nat → Int) (b : Option Addr) (lb cb : Nat) (SB : Nat → Option Addr × Nat × Nat) (FB : Nat → Nat → Int) (a2 : Option Addr) (b2 c2 : Nat) (f2 : Nat → Int) (w : World)
    (hla : la ≤ maxLen) (hlb : lb ≤ maxLen) (hl2 : b2 ≤ maxLen) (hra : RR w a la SA FA) (hrb : RR w b lb SB FB) (hr2 : Row w a2 b2 f2) (hT : Tab w) :
    Calls Tryd.prog 8 #[.agg #[.int .i64 n, .slice a la ca, .slice b lb cb], .slice a2 b2 c2] w fun e w' => e = .returned (.bool true) ∧ Below w.heap.size w w' :=
  fixEnds_all ⟨n, a, la, ca, SA, FA, b, lb, cb, SB, FB⟩ ⟨a2, b2, c2, f2⟩ w ⟨hla, hlb, hra, hrb⟩ ⟨hl2, hr2⟩ hT
end Go.Proofs.YtgmpmmdginikdaaDoor
