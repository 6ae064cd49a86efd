/-
  What the reference's RowsOrder answers, whatever it is handed: the order of the rows. No condition but that slices read as slices of rows.
-/
import Derived.Deep.RegionHeld3
import Derived.Test.YtklfnghgpmjnmaaROf
import Derived.Test.YtklfnghgpmjnmaaOfRows
namespace Go.Proofs.Ytklfnghgpmjnmaa
open Go.RowKit

/-- Of each of the first m is it so? -/
def allTo (P : Nat → Bool) : Nat → Bool
  | 0 => true
  | k + 1 => allTo P k && P k
theorem allTo_iff {P : Nat → Bool} : ∀ k, allTo P k = true ↔ ∀ j, j < k → P j = true
  | 0 => ⟨fun _ j hj => absurd hj (Nat.not_lt_zero _), fun _ => rfl⟩
  | k + 1 => by
    rw [allTo, Bool.and_eq_true, allTo_iff k]
    constructor
    · rintro ⟨h1, h2⟩ j hj
      by_cases e : j = k
      · subst e; exact h2
      · exact h1 j (by omega)
    · exact fun h => ⟨fun j hj => h j (by omega), h k (by omega)⟩
theorem acc_bit (F : Nat → Nat → Int) (n y x : Nat) (hx : x < n) : ∀ m, (acc F n m y).testBit x = allTo (fun i => (bf (F i) n n y).testBit x) m
  | 0 => by
    show (pw n - 1).testBit x = true
    unfold pw
    rw [Nat.testBit_two_pow_sub_one, decide_eq_true hx]
  | m + 1 => by
    show (acc F n m y &&& bf (F m) n n y).testBit x = _
    rw [Nat.testBit_and, acc_bit F n y x hx m]; rfl
theorem acc_set (F : Nat → Nat → Int) (n m y : Nat) : setBy (fun x => allTo (fun i => (bf (F i) n n y).testBit x) m) n = acc F n m y :=
  eq_of_bits (n := n) (setBy_lt _ n) (acc_lt F n m y) (fun i hi => by rw [setBy_bit, decide_eq_true hi, Bool.true_and, acc_bit F n y i hi m])
theorem once_inj {f : Nat → Int} {n i j : Nat} (h : Once f n n) (hi : i < n) (hj : j < n) (e : f i = f j) : i = j := by
  rcases Nat.lt_trichotomy i j with q | q | q
  · exact absurd e ((h j hj).2 i q)
  · exact q
  · exact absurd e.symm ((h i hi).2 j q)
theorem place_cmp {f : Nat → Int} {n x y : Nat} {r1 r2 : Int} (h : Once f n n) (hx : x < n) (hy : y < n) (h1 : PlaceAt f n x r1) (h2 : PlaceAt f n y r2) : decide (r1 < r2) = (bf f n n y).testBit x := by
  have ax := once_all.1 h x hx
  have ay := once_all.1 h y hy
  rcases h1 with ⟨j1, hj1, rfl, e1, _⟩ | ⟨_, q⟩
  · rcases h2 with ⟨j2, hj2, rfl, e2, _⟩ | ⟨_, q⟩
    · have hb : bf f n n y = pl f n j2 := by
        have := bf_at n h hj2
        rw [e2] at this
        exact this
      rw [hb, pl_bit hx, Bool.eq_iff_iff, decide_eq_true_eq, sn_iff]
      constructor
      · intro q; exact ⟨j1, by omega, e1⟩
      · rintro ⟨i, hi, e⟩
        have := once_inj h (by omega) hj1 (e.trans e1.symm)
        omega
    · obtain ⟨j, hj, e⟩ := (sn_iff n).1 ay
      exact absurd e (q j hj)
  · obtain ⟨j, hj, e⟩ := (sn_iff n).1 ax
    exact absurd e (q j hj)

set_option maxHeartbeats 4000000 in
theorem rows1_any (B : Nat) (a : Option Addr) (m cap n : Nat) (S : Nat → Option Addr × Nat × Nat) (F : Nat → Nat → Int) (x y : Nat) (w : World) (hm : m ≤ 10) (h10 : n ≤ 10) (hx : x < n) (hy : y < n) (hon : ∀ k, k < m → (S k).2.1 = n ∧ Once (F k) n n) (hB : w.cell? ⟨B, 0, none⟩ = some (.slice a m cap)) (hr : RR w a m S F) :
    Calls Try.prog 30 #[.int .i64 x, .int .i64 y, .pointer (some ⟨B, 0, none⟩)] w fun e w' => e = .returned (.bool (allTo (fun i => (bf (F i) n n y).testBit x) m)) ∧ Below w.heap.size w w' := by
  have HR : Hid (RR w a m S F) := hr
  have HON : Hid (∀ k, k < m → (S k).2.1 = n ∧ Once (F k) n n) := hon
  have HC : Hid (w.cell? ⟨B, 0, none⟩ = some (.slice a m cap)) := hB
  clear hr hon
  go_enter Try.func30, Try.ntmps30
  go_wp2_with fail
  go_loopw [6] (fun ii wx => ∃ i : Nat, i ≤ m ∧ ii = .int .i64 i ∧ Hid (∀ k, k < i → (bf (F k) n n y).testBit x = true) ∧ Hid (Below w.heap.size w wx)) (fun ii _ => m - (intOf ii).toNat)
  case atStart => exact ⟨0, Nat.zero_le _, rfl, fun k hk => absurd hk (Nat.not_lt_zero _), Below.refl _ _⟩
  case round =>
    clear hB
    obtain ⟨i, hi, rfl, HA, HB⟩ := hrel
    have hB := (HB.out.cell (World.block_lt_of_cell? _ _ HC.out)).trans HC.out
    by_cases hlt : i < m
    · obtain ⟨b, off, rfl, hc0, hsl, hrow0⟩ := HR.out i hlt
      obtain ⟨e1, e2⟩ := HON.out i hlt
      have hc := (HB.out.cell (World.block_lt_of_cell? _ _ hc0)).trans hc0
      have hrow := hrow0.below HB.out
      clear hc0 hrow0
      generalize S i = s at *
      obtain ⟨sa, sl, sc⟩ := s
      simp only at hc hsl hrow e1
      subst e1
      have HCMP : Hid (∀ r1 r2, PlaceAt (F i) sl x r1 → PlaceAt (F i) sl y r2 → decide (r1 < r2) = (bf (F i) sl sl y).testBit x) := fun r1 r2 h1 h2 => place_cmp e2 hx hy h1 h2
      have LR : Hid (∀ w', Below wr.heap.size wr w' → Row w' sa sl (F i)) := fun w' h => hrow.below h
      have lB : ∀ w', Below wr.heap.size wr w' → w'.cell? ⟨B, 0, none⟩ = some (.slice (some ⟨b, off, none⟩) m cap) := fun w' h => (h.cell (World.block_lt_of_cell? _ _ hB)).trans hB
      have lc : ∀ w', Below wr.heap.size wr w' → w'.cell? ⟨b, off + i, none⟩ = some (.slice sa sl sc) := fun w' h => (h.cell (World.block_lt_of_cell? _ _ hc)).trans hc
      have KK : Below wr.heap.size wr wr.drew := (Below.refl _ _).drew
      have hlt' : (i : Int) < (m : Int) := by omega
      rcases (Bool.eq_false_or_eq_true ((bf (F i) sl sl y).testBit x)).symm with hb | hb
      · have HNO : Hid (allTo (fun i => (bf (F i) sl sl y).testBit x) m = false) := by
          rcases Bool.eq_false_or_eq_true (allTo (fun i => (bf (F i) sl sl y).testBit x) m) with q | q
          · have := (allTo_iff m).1 q i hlt; rw [hb] at this; cases this
          · exact q
        rw [hb] at HCMP
        clear hb HA hrow e2
        go_wp2_with fail
        refine wp_region_held_drew (S := (fun w' => Below wr.heap.size wr w')) (by kernel_rfl) (KK) (fun hHeld => ?_)
        refine wpAnyH_take (i := 0) (oi := { dst := some 13, op := Go.Op.load 22 (Go.Operand.tmp 2), type := 22, pos := "lattice.go:40", after := #[], guard := none }) (v := ?_) rfl (by kernel_rfl) (by kernel_rfl) (by kernel_rfl) (fun _ _ _ h => h) (Or.inl ⟨by rfl, ?hy⟩) (by assumption) ?_
        case hy => (intro w9 hSw; (try dsimp only at hSw); go_simp; try with_reducible rfl)
        try simp only [Act.put, List.setIfInBounds_toArray, List.set_cons_zero, List.set_cons_succ]
        refine wpAnyH_take (i := 1) (oi := { dst := some 14, op := Go.Op.move (Go.Operand.tmp 6), type := 3, pos := "lattice.go:40", after := #[], guard := none }) (v := ?_) rfl (by kernel_rfl) (by kernel_rfl) (by kernel_rfl) (fun _ _ _ h => h) (Or.inl ⟨by rfl, ?hy⟩) (by assumption) ?_
        case hy => (intro w9 hSw; (try dsimp only at hSw); go_simp; try with_reducible rfl)
        try simp only [Act.put, List.setIfInBounds_toArray, List.set_cons_zero, List.set_cons_succ]
        refine wpAnyH_take (i := 2) (oi := { dst := some 15, op := Go.Op.indexAddr 22 (Go.Operand.tmp 13) (Go.Operand.tmp 14), type := 0, pos := "lattice.go:40", after := #[{ on := 0, ground := Go.Ground.data }, { on := 1, ground := Go.Ground.data }], guard := none }) (v := ?_) rfl (by kernel_rfl) (by kernel_rfl) (by kernel_rfl) (fun _ _ _ h => h) (Or.inl ⟨by rfl, ?hy⟩) (by assumption) ?_
        case hy => (intro w9 hSw; (try dsimp only at hSw); go_simp; try with_reducible rfl)
        try simp only [Act.put, List.setIfInBounds_toArray, List.set_cons_zero, List.set_cons_succ]
        refine wpAnyH_take (i := 3) (oi := { dst := some 16, op := Go.Op.load 23 (Go.Operand.tmp 15), type := 23, pos := "lattice.go:40", after := #[{ on := 2, ground := Go.Ground.data }], guard := none }) (v := ?_) rfl (by kernel_rfl) (by kernel_rfl) (by kernel_rfl) (fun _ _ _ h => h) (Or.inl ⟨by rfl, ?hy⟩) (by assumption) ?_
        case hy => (intro w9 hSw; (try dsimp only at hSw); go_simp; try with_reducible rfl)
        try simp only [Act.put, List.setIfInBounds_toArray, List.set_cons_zero, List.set_cons_succ]
        refine wpAnyH_take (i := 4) (oi := { dst := some 17, op := Go.Op.move (Go.Operand.tmp 0), type := 3, pos := "lattice.go:40", after := #[], guard := none }) (v := ?_) rfl (by kernel_rfl) (by kernel_rfl) (by kernel_rfl) (fun _ _ _ h => h) (Or.inl ⟨by rfl, ?hy⟩) (by assumption) ?_
        case hy => (intro w9 hSw; (try dsimp only at hSw); go_simp; try with_reducible rfl)
        try simp only [Act.put, List.setIfInBounds_toArray, List.set_cons_zero, List.set_cons_succ]
        refine wpAnyH_take (i := 6) (oi := { dst := some 19, op := Go.Op.load 22 (Go.Operand.tmp 2), type := 22, pos := "lattice.go:40", after := #[], guard := none }) (v := ?_) rfl (by kernel_rfl) (by kernel_rfl) (by kernel_rfl) (fun _ _ _ h => h) (Or.inl ⟨by rfl, ?hy⟩) (by assumption) ?_
        case hy => (intro w9 hSw; (try dsimp only at hSw); go_simp; try with_reducible rfl)
        try simp only [Act.put, List.setIfInBounds_toArray, List.set_cons_zero, List.set_cons_succ]
        refine wpAnyH_take (i := 7) (oi := { dst := some 20, op := Go.Op.move (Go.Operand.tmp 6), type := 3, pos := "lattice.go:40", after := #[], guard := none }) (v := ?_) rfl (by kernel_rfl) (by kernel_rfl) (by kernel_rfl) (fun _ _ _ h => h) (Or.inl ⟨by rfl, ?hy⟩) (by assumption) ?_
        case hy => (intro w9 hSw; (try dsimp only at hSw); go_simp; try with_reducible rfl)
        try simp only [Act.put, List.setIfInBounds_toArray, List.set_cons_zero, List.set_cons_succ]
        refine wpAnyH_take (i := 8) (oi := { dst := some 21, op := Go.Op.indexAddr 22 (Go.Operand.tmp 19) (Go.Operand.tmp 20), type := 0, pos := "lattice.go:40", after := #[{ on := 6, ground := Go.Ground.data }, { on := 7, ground := Go.Ground.data }], guard := none }) (v := ?_) rfl (by kernel_rfl) (by kernel_rfl) (by kernel_rfl) (fun _ _ _ h => h) (Or.inl ⟨by rfl, ?hy⟩) (by assumption) ?_
        case hy => (intro w9 hSw; (try dsimp only at hSw); go_simp; try with_reducible rfl)
        try simp only [Act.put, List.setIfInBounds_toArray, List.set_cons_zero, List.set_cons_succ]
        refine wpAnyH_take (i := 9) (oi := { dst := some 22, op := Go.Op.load 23 (Go.Operand.tmp 21), type := 23, pos := "lattice.go:40", after := #[{ on := 8, ground := Go.Ground.data }], guard := none }) (v := ?_) rfl (by kernel_rfl) (by kernel_rfl) (by kernel_rfl) (fun _ _ _ h => h) (Or.inl ⟨by rfl, ?hy⟩) (by assumption) ?_
        case hy => (intro w9 hSw; (try dsimp only at hSw); go_simp; try with_reducible rfl)
        try simp only [Act.put, List.setIfInBounds_toArray, List.set_cons_zero, List.set_cons_succ]
        refine wpAnyH_take (i := 10) (oi := { dst := some 23, op := Go.Op.move (Go.Operand.tmp 1), type := 3, pos := "lattice.go:40", after := #[], guard := none }) (v := ?_) rfl (by kernel_rfl) (by kernel_rfl) (by kernel_rfl) (fun _ _ _ h => h) (Or.inl ⟨by rfl, ?hy⟩) (by assumption) ?_
        case hy => (intro w9 hSw; (try dsimp only at hSw); go_simp; try with_reducible rfl)
        try simp only [Act.put, List.setIfInBounds_toArray, List.set_cons_zero, List.set_cons_succ]
        refine wpAnyH_ready (rs := [5]) (by kernel_rfl) (by simp) ?_
        refine AllReadyH.cons (o := { dst := some 18, op := Go.Op.call { callee := Go.Callee.value (Go.Operand.func 31), args := #[Go.Operand.tmp 16, Go.Operand.tmp 17], argTypes := #[23, 3] }, type := 3, pos := "lattice.go:40", after := #[{ on := 3, ground := Go.Ground.data }, { on := 4, ground := Go.Ground.data }], guard := none }) rfl (fun K hK => ?_) AllReadyH.nil
        go_simp
        refine (place_any sa sl sc (F i) x _ hsl (LR.out _ (by assumption))).mono ?_
        rintro e w1 ⟨⟨r1, rfl, hp1⟩, hww1⟩
        subst hww1
        refine hK.out _ _ ?_ (fun hHeld => ?_)
        · first | assumption | exact Below.then (by assumption) (by assumption)
        clear hK K
        try simp only [Act.put, List.setIfInBounds_toArray, List.set_cons_zero, List.set_cons_succ]
        refine wpAnyH_ready (rs := [11]) (by kernel_rfl) (by simp) ?_
        refine AllReadyH.cons (o := { dst := some 24, op := Go.Op.call { callee := Go.Callee.value (Go.Operand.func 31), args := #[Go.Operand.tmp 22, Go.Operand.tmp 23], argTypes := #[23, 3] }, type := 3, pos := "lattice.go:40", after := #[{ on := 9, ground := Go.Ground.data }, { on := 10, ground := Go.Ground.data }, { on := 5, ground := Go.Ground.chain }], guard := none }) rfl (fun K hK => ?_) AllReadyH.nil
        go_simp
        refine (place_any sa sl sc (F i) y _ hsl (LR.out _ (by assumption))).mono ?_
        rintro e w1 ⟨⟨r2, rfl, hp2⟩, hww2⟩
        subst hww2
        have hcmp := HCMP.out r1 r2 hp1 hp2
        clear hp1 hp2
        have hcmp2 : r2 ≤ r1 := by have := of_decide_eq_false hcmp; omega
        refine hK.out _ _ ?_ (fun hHeld => ?_)
        · first | assumption | exact Below.then (by assumption) (by assumption)
        clear hK K
        try simp only [Act.put, List.setIfInBounds_toArray, List.set_cons_zero, List.set_cons_succ]
        refine wpAnyH_take (i := 12) (oi := { dst := some 25, op := Go.Op.binOp Go.BinOp.geq 3 (Go.Operand.tmp 18) (Go.Operand.tmp 24) 3, type := 4, pos := "lattice.go:40", after := #[{ on := 5, ground := Go.Ground.data }, { on := 11, ground := Go.Ground.data }], guard := none }) (v := .bool true) rfl (by kernel_rfl) (by kernel_rfl) (by kernel_rfl) (fun _ _ _ h => h) (Or.inl ⟨by rfl, ?hy⟩) (by assumption) ?_
        case hy => (intro w9 hSw; (try dsimp only at hSw); go_simp <;> (first | with_reducible rfl | (simp; omega) | omega))
        try simp only [Act.put, List.setIfInBounds_toArray, List.set_cons_zero, List.set_cons_succ]
        refine wpAnyH_done (by kernel_rfl) ?_ _
        try simp only [Act.put, List.setIfInBounds_toArray, List.set_cons_zero, List.set_cons_succ]
        have HBE : Hid (Below w.heap.size w wr.drew) := HB.out.drew
        go_wp2_with fail
        go_ret
        exact ⟨by rw [HNO.out]; rfl, HBE.out⟩
      · have HA2 : Hid (∀ k, k < i + 1 → (bf (F k) sl sl y).testBit x = true) := fun k hk => by
          by_cases e : k = i
          · subst e; exact hb
          · exact HA.out k (by omega)
        rw [hb] at HCMP
        clear hb HA hrow e2
        go_wp2_with fail
        refine wp_region_held_drew (S := (fun w' => Below wr.heap.size wr w')) (by kernel_rfl) (KK) (fun hHeld => ?_)
        refine wpAnyH_take (i := 0) (oi := { dst := some 13, op := Go.Op.load 22 (Go.Operand.tmp 2), type := 22, pos := "lattice.go:40", after := #[], guard := none }) (v := ?_) rfl (by kernel_rfl) (by kernel_rfl) (by kernel_rfl) (fun _ _ _ h => h) (Or.inl ⟨by rfl, ?hy⟩) (by assumption) ?_
        case hy => (intro w9 hSw; (try dsimp only at hSw); go_simp; try with_reducible rfl)
        try simp only [Act.put, List.setIfInBounds_toArray, List.set_cons_zero, List.set_cons_succ]
        refine wpAnyH_take (i := 1) (oi := { dst := some 14, op := Go.Op.move (Go.Operand.tmp 6), type := 3, pos := "lattice.go:40", after := #[], guard := none }) (v := ?_) rfl (by kernel_rfl) (by kernel_rfl) (by kernel_rfl) (fun _ _ _ h => h) (Or.inl ⟨by rfl, ?hy⟩) (by assumption) ?_
        case hy => (intro w9 hSw; (try dsimp only at hSw); go_simp; try with_reducible rfl)
        try simp only [Act.put, List.setIfInBounds_toArray, List.set_cons_zero, List.set_cons_succ]
        refine wpAnyH_take (i := 2) (oi := { dst := some 15, op := Go.Op.indexAddr 22 (Go.Operand.tmp 13) (Go.Operand.tmp 14), type := 0, pos := "lattice.go:40", after := #[{ on := 0, ground := Go.Ground.data }, { on := 1, ground := Go.Ground.data }], guard := none }) (v := ?_) rfl (by kernel_rfl) (by kernel_rfl) (by kernel_rfl) (fun _ _ _ h => h) (Or.inl ⟨by rfl, ?hy⟩) (by assumption) ?_
        case hy => (intro w9 hSw; (try dsimp only at hSw); go_simp; try with_reducible rfl)
        try simp only [Act.put, List.setIfInBounds_toArray, List.set_cons_zero, List.set_cons_succ]
        refine wpAnyH_take (i := 3) (oi := { dst := some 16, op := Go.Op.load 23 (Go.Operand.tmp 15), type := 23, pos := "lattice.go:40", after := #[{ on := 2, ground := Go.Ground.data }], guard := none }) (v := ?_) rfl (by kernel_rfl) (by kernel_rfl) (by kernel_rfl) (fun _ _ _ h => h) (Or.inl ⟨by rfl, ?hy⟩) (by assumption) ?_
        case hy => (intro w9 hSw; (try dsimp only at hSw); go_simp; try with_reducible rfl)
        try simp only [Act.put, List.setIfInBounds_toArray, List.set_cons_zero, List.set_cons_succ]
        refine wpAnyH_take (i := 4) (oi := { dst := some 17, op := Go.Op.move (Go.Operand.tmp 0), type := 3, pos := "lattice.go:40", after := #[], guard := none }) (v := ?_) rfl (by kernel_rfl) (by kernel_rfl) (by kernel_rfl) (fun _ _ _ h => h) (Or.inl ⟨by rfl, ?hy⟩) (by assumption) ?_
        case hy => (intro w9 hSw; (try dsimp only at hSw); go_simp; try with_reducible rfl)
        try simp only [Act.put, List.setIfInBounds_toArray, List.set_cons_zero, List.set_cons_succ]
        refine wpAnyH_take (i := 6) (oi := { dst := some 19, op := Go.Op.load 22 (Go.Operand.tmp 2), type := 22, pos := "lattice.go:40", after := #[], guard := none }) (v := ?_) rfl (by kernel_rfl) (by kernel_rfl) (by kernel_rfl) (fun _ _ _ h => h) (Or.inl ⟨by rfl, ?hy⟩) (by assumption) ?_
        case hy => (intro w9 hSw; (try dsimp only at hSw); go_simp; try with_reducible rfl)
        try simp only [Act.put, List.setIfInBounds_toArray, List.set_cons_zero, List.set_cons_succ]
        refine wpAnyH_take (i := 7) (oi := { dst := some 20, op := Go.Op.move (Go.Operand.tmp 6), type := 3, pos := "lattice.go:40", after := #[], guard := none }) (v := ?_) rfl (by kernel_rfl) (by kernel_rfl) (by kernel_rfl) (fun _ _ _ h => h) (Or.inl ⟨by rfl, ?hy⟩) (by assumption) ?_
        case hy => (intro w9 hSw; (try dsimp only at hSw); go_simp; try with_reducible rfl)
        try simp only [Act.put, List.setIfInBounds_toArray, List.set_cons_zero, List.set_cons_succ]
        refine wpAnyH_take (i := 8) (oi := { dst := some 21, op := Go.Op.indexAddr 22 (Go.Operand.tmp 19) (Go.Operand.tmp 20), type := 0, pos := "lattice.go:40", after := #[{ on := 6, ground := Go.Ground.data }, { on := 7, ground := Go.Ground.data }], guard := none }) (v := ?_) rfl (by kernel_rfl) (by kernel_rfl) (by kernel_rfl) (fun _ _ _ h => h) (Or.inl ⟨by rfl, ?hy⟩) (by assumption) ?_
        case hy => (intro w9 hSw; (try dsimp only at hSw); go_simp; try with_reducible rfl)
        try simp only [Act.put, List.setIfInBounds_toArray, List.set_cons_zero, List.set_cons_succ]
        refine wpAnyH_take (i := 9) (oi := { dst := some 22, op := Go.Op.load 23 (Go.Operand.tmp 21), type := 23, pos := "lattice.go:40", after := #[{ on := 8, ground := Go.Ground.data }], guard := none }) (v := ?_) rfl (by kernel_rfl) (by kernel_rfl) (by kernel_rfl) (fun _ _ _ h => h) (Or.inl ⟨by rfl, ?hy⟩) (by assumption) ?_
        case hy => (intro w9 hSw; (try dsimp only at hSw); go_simp; try with_reducible rfl)
        try simp only [Act.put, List.setIfInBounds_toArray, List.set_cons_zero, List.set_cons_succ]
        refine wpAnyH_take (i := 10) (oi := { dst := some 23, op := Go.Op.move (Go.Operand.tmp 1), type := 3, pos := "lattice.go:40", after := #[], guard := none }) (v := ?_) rfl (by kernel_rfl) (by kernel_rfl) (by kernel_rfl) (fun _ _ _ h => h) (Or.inl ⟨by rfl, ?hy⟩) (by assumption) ?_
        case hy => (intro w9 hSw; (try dsimp only at hSw); go_simp; try with_reducible rfl)
        try simp only [Act.put, List.setIfInBounds_toArray, List.set_cons_zero, List.set_cons_succ]
        refine wpAnyH_ready (rs := [5]) (by kernel_rfl) (by simp) ?_
        refine AllReadyH.cons (o := { dst := some 18, op := Go.Op.call { callee := Go.Callee.value (Go.Operand.func 31), args := #[Go.Operand.tmp 16, Go.Operand.tmp 17], argTypes := #[23, 3] }, type := 3, pos := "lattice.go:40", after := #[{ on := 3, ground := Go.Ground.data }, { on := 4, ground := Go.Ground.data }], guard := none }) rfl (fun K hK => ?_) AllReadyH.nil
        go_simp
        refine (place_any sa sl sc (F i) x _ hsl (LR.out _ (by assumption))).mono ?_
        rintro e w1 ⟨⟨r1, rfl, hp1⟩, hww1⟩
        subst hww1
        refine hK.out _ _ ?_ (fun hHeld => ?_)
        · first | assumption | exact Below.then (by assumption) (by assumption)
        clear hK K
        try simp only [Act.put, List.setIfInBounds_toArray, List.set_cons_zero, List.set_cons_succ]
        refine wpAnyH_ready (rs := [11]) (by kernel_rfl) (by simp) ?_
        refine AllReadyH.cons (o := { dst := some 24, op := Go.Op.call { callee := Go.Callee.value (Go.Operand.func 31), args := #[Go.Operand.tmp 22, Go.Operand.tmp 23], argTypes := #[23, 3] }, type := 3, pos := "lattice.go:40", after := #[{ on := 9, ground := Go.Ground.data }, { on := 10, ground := Go.Ground.data }, { on := 5, ground := Go.Ground.chain }], guard := none }) rfl (fun K hK => ?_) AllReadyH.nil
        go_simp
        refine (place_any sa sl sc (F i) y _ hsl (LR.out _ (by assumption))).mono ?_
        rintro e w1 ⟨⟨r2, rfl, hp2⟩, hww2⟩
        subst hww2
        have hcmp := HCMP.out r1 r2 hp1 hp2
        clear hp1 hp2
        have hcmp2 : r1 < r2 := of_decide_eq_true hcmp
        refine hK.out _ _ ?_ (fun hHeld => ?_)
        · first | assumption | exact Below.then (by assumption) (by assumption)
        clear hK K
        try simp only [Act.put, List.setIfInBounds_toArray, List.set_cons_zero, List.set_cons_succ]
        refine wpAnyH_take (i := 12) (oi := { dst := some 25, op := Go.Op.binOp Go.BinOp.geq 3 (Go.Operand.tmp 18) (Go.Operand.tmp 24) 3, type := 4, pos := "lattice.go:40", after := #[{ on := 5, ground := Go.Ground.data }, { on := 11, ground := Go.Ground.data }], guard := none }) (v := .bool false) rfl (by kernel_rfl) (by kernel_rfl) (by kernel_rfl) (fun _ _ _ h => h) (Or.inl ⟨by rfl, ?hy⟩) (by assumption) ?_
        case hy => (intro w9 hSw; (try dsimp only at hSw); go_simp <;> (first | with_reducible rfl | (simp; omega) | omega))
        try simp only [Act.put, List.setIfInBounds_toArray, List.set_cons_zero, List.set_cons_succ]
        refine wpAnyH_done (by kernel_rfl) ?_ _
        try simp only [Act.put, List.setIfInBounds_toArray, List.set_cons_zero, List.set_cons_succ]
        have HBE : Hid (Below w.heap.size w wr.drew) := HB.out.drew
        go_wp2_with fail
        go_roundw
        case rel => exact ⟨i + 1, by omega, by go_num, HA2.out, HBE.out⟩
        case measure => simp [intOf]; omega
    · obtain rfl : i = m := by omega
      have HY : Hid (allTo (fun i => (bf (F i) n n y).testBit x) i = true) := (allTo_iff i).2 HA.out
      go_wp2_with fail
      go_ret
      exact ⟨by rw [HY.out]; rfl, HB.out⟩

set_option maxHeartbeats 4000000 in
theorem rowsOrder_any (n : Int) (a : Option Addr) (m cap : Nat) (S : Nat → Option Addr × Nat × Nat) (F : Nat → Nat → Int) (w : World) (hm : m ≤ maxLen) (hr : RR w a m S F) :
    Calls Try.prog 9 #[.int .i64 n, .slice a m cap] w fun e w' => (∃ c x, e = .returned (.tuple #[x, .int .i64 c]) ∧ RCk n m S F c ∧ OrdErr c n n.toNat (fun k => (acc F n.toNat m k : Nat)) x w') ∧ Below w.heap.size w w' := by
  unfold maxLen at hm
  have HR : Hid (RR w a m S F) := hr
  clear hr
  have HZ : Hid (Below w.heap.size w ((w.alloc (.cells #[.slice a m cap] 22)).alloc (.cells #[.int .i64 0, .slice none 0 0] 25))) := ((Below.refl _ _).alloc (Nat.le_refl _) _).alloc (by simp) _
  have Z2 : ZBox ((w.alloc (.cells #[.slice a m cap] 22)).alloc (.cells #[.int .i64 0, .slice none 0 0] 25)) (w.heap.size + 1) := by
    have := ZBox.new (w.alloc (.cells #[.slice a m cap] 22))
    rwa [World.size_alloc] at this
  by_cases hn : 0 ≤ n ∧ n ≤ 10 ∧ 0 < m ∧ m ≤ 10
  · obtain ⟨q, rfl⟩ := Int.eq_ofNat_of_zero_le hn.1
    have h10 : q ≤ 10 := by omega
    have d1 : ¬ (q : Int) < 0 := by omega
    have d2 : ¬ (10 : Int) < (q : Int) := by omega
    have d3 : ((m : Int) == 0) = false := by simp; omega
    have d4 : ¬ (10 : Int) < (m : Int) := by omega
    have hc0 : ((w.alloc (.cells #[.slice a m cap] 22)).alloc (.cells #[.int .i64 0, .slice none 0 0] 25)).cell? ⟨w.heap.size, 0, none⟩ = some (.slice a m cap) := by simp
    have hs0 : w.heap.size + 2 ≤ ((w.alloc (.cells #[.slice a m cap] 22)).alloc (.cells #[.int .i64 0, .slice none 0 0] 25)).heap.size := by simp
    have HP0 : Hid (RR ((w.alloc (.cells #[.slice a m cap] 22)).alloc (.cells #[.int .i64 0, .slice none 0 0] 25)) a m S F) := HR.out.below HZ.out
    have HZ2 : Hid (ZBox ((w.alloc (.cells #[.slice a m cap] 22)).alloc (.cells #[.int .i64 0, .slice none 0 0] 25)) (w.heap.size + 1)) := Z2
    clear Z2
    go_enter Try.func9, Try.ntmps9
    go_wp2_with fail
    generalize (w.alloc (.cells #[.slice a m cap] 22)).alloc (.cells #[.int .i64 0, .slice none 0 0] 25) = W2 at *
    go_loopw [6] (fun ii wx => ∃ i : Nat, i ≤ m ∧ ii = .int .i64 i ∧ wx = W2 ∧ Hid (∀ k, k < i → (S k).2.1 = q ∧ Once (F k) q q)) (fun ii _ => m - (intOf ii).toNat)
    case atStart => exact ⟨0, Nat.zero_le _, rfl, rfl, fun j hj => absurd hj (Nat.not_lt_zero _)⟩
    case round =>
      obtain ⟨i, hi, rfl, rfl, HA⟩ := hrel
      by_cases hlt : i < m
      · obtain ⟨b, off, rfl, hc, hsl, hrow⟩ := HP0.out i hlt
        have HNF : Hid (¬ ((S i).2.1 = q ∧ Once (F i) q q) → RCk q m S F 1) := fun h => .inr ⟨q, rfl, h10, by omega, by omega, .inl ⟨rfl, i, hlt, h⟩⟩
        have HKN : Hid ((S i).2.1 = q ∧ Once (F i) q q → ∀ k, k < i + 1 → (S k).2.1 = q ∧ Once (F k) q q) := fun h k hk => by
          by_cases e : k = i
          · subst e; exact h
          · exact HA.out k (by omega)
        have HRow : Hid (Row wr (S i).1 (S i).2.1 (F i)) := hrow
        clear hrow HA
        generalize S i = s at *
        obtain ⟨sa, sl, sc⟩ := s
        simp only at hc hsl HRow HNF HKN
        go_wp2_with fail
        refine (isPerm_any sa sl sc q (F i) _ hsl h10 HRow.out).mono ?_
        rintro e w2 ⟨⟨v, rfl, hv⟩, hww⟩
        subst hww
        rcases v with _ | _
        · have HM : Hid (RCk q m S F 1) := HNF.out (fun h => by have := hv.2 h; cases this)
          obtain ⟨r0, r1, r2, r3⟩ := HZ2.out
          clear HNF HKN hv HRow
          go_wp2_with fail
          exact bodyPost_ret (v := .tuple #[noOrder, .int .i64 1]) (by simp [results, Try.results9, go_sem, noOrder, r0, r1]) rfl ⟨⟨1, noOrder, rfl, HM.out, .inl ⟨by decide, rfl⟩⟩, set2B HZ.out (by omega)⟩
        · have HK2 := (show Hid _ from HKN.out (hv.1 rfl))
          clear HNF HKN hv HRow
          go_wp2_with fail
          go_roundw
          case rel => exact ⟨i + 1, by omega, by go_num, by first | rfl | trivial, HK2.out⟩
          case measure => simp [intOf]; omega
      · obtain rfl : i = m := by omega
        have HM : Hid (RCk q i S F 0) := .inr ⟨q, rfl, h10, by omega, by omega, .inr ⟨rfl, HA.out⟩⟩
        have hbl : w.heap.size < wr.heap.size := by omega
        have hcc : Hid (wr.cell? ⟨w.heap.size, 0, none⟩ = some (.slice a i cap)) := hc0
        go_wp2_with fail
        refine (orderOf_rows q w.heap.size (fun x y => allTo (fun k => (bf (F k) q q y).testBit x) i) _ h10 (fun x y wx hx hy hb => rows1_any w.heap.size a i cap q S F x y wx (by omega) h10 hx hy HA.out ((hb.cell (p := ⟨w.heap.size, 0, none⟩) hbl).trans hcc.out) (HP0.out.below hb))).mono ?_
        rintro e w1 ⟨⟨a', cap', rfl, hrow, hfr⟩, hb⟩
        obtain ⟨r0, r1, r2, r3⟩ := HZ2.out.step hb
        have HB1 : Hid (Below w.heap.size w w1) := Below.then HZ.out hb
        have HR1 : Hid (Row w1 a' q (fun k => (acc F q i k : Nat))) := fun k hk => by
          have := hrow k hk
          simp only [acc_set] at this
          exact this
        have HF1 : Hid (Fresh (w.heap.size + 1 + 1) a' q) := hfr.mono (by omega)
        clear hb hrow hfr HZ2 HP0
        go_wp2_with fail
        exact bodyPost_ret (v := .tuple #[.agg #[.int .i64 (q : Int), .slice a' q cap'], .int .i64 0]) (by simp [results, Try.results9, go_sem, r0, r1]) rfl ⟨⟨0, _, rfl, HM.out, .inr ⟨rfl, a', cap', rfl, row_set2 HR1.out HF1.out⟩⟩, set2B HB1.out (by omega)⟩
  · have HM : Hid (RCk n m S F 2) := .inl ⟨rfl, hn⟩
    by_cases e1 : n < 0
    · go_enter Try.func9, Try.ntmps9
      go_wp2_with fail
      exact bodyPost_ret (v := .tuple #[noOrder, .int .i64 2]) (by simp [results, Try.results9, go_sem, noOrder]) rfl ⟨⟨2, noOrder, rfl, HM.out, .inl ⟨by decide, rfl⟩⟩, HZ.out⟩
    · by_cases e2 : 10 < n
      · go_enter Try.func9, Try.ntmps9
        go_wp2_with fail
        exact bodyPost_ret (v := .tuple #[noOrder, .int .i64 2]) (by simp [results, Try.results9, go_sem, noOrder]) rfl ⟨⟨2, noOrder, rfl, HM.out, .inl ⟨by decide, rfl⟩⟩, HZ.out⟩
      · by_cases e3 : m = 0
        · subst e3
          go_enter Try.func9, Try.ntmps9
          go_wp2_with fail
          exact bodyPost_ret (v := .tuple #[noOrder, .int .i64 2]) (by simp [results, Try.results9, go_sem, noOrder]) rfl ⟨⟨2, noOrder, rfl, HM.out, .inl ⟨by decide, rfl⟩⟩, HZ.out⟩
        · have d3 : ((m : Int) == 0) = false := by simpa using e3
          have d4 : (10 : Int) < (m : Int) := by omega
          go_enter Try.func9, Try.ntmps9
          go_wp2_with fail
          exact bodyPost_ret (v := .tuple #[noOrder, .int .i64 2]) (by simp [results, Try.results9, go_sem, noOrder]) rfl ⟨⟨2, noOrder, rfl, HM.out, .inl ⟨by decide, rfl⟩⟩, HZ.out⟩
end Go.Proofs.Ytklfnghgpmjnmaa
