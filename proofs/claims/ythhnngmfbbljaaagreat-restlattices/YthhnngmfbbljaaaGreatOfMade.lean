/-
  The drawn region of tables.OfSets that makes the two tables and their box, in whatever order. Condition: forty at most.
-/
import Derived.Deep.OwnRows
import Derived.Test.YthhnngmfbbljaaaGreatOfSets
namespace Go.Proofs.YthhnngmfbbljaaaGreat
open Go.RowKit

theorem Bx.new {X : World} {B n T1 T2 : Nat} {c0 c1 c2 : Value} (h0 : X.cell? ⟨B, 0, none⟩ = some c0) (h1 : X.cell? ⟨B, 1, none⟩ = some c1) (h2 : X.cell? ⟨B, 2, none⟩ = some c2) :
    Bx (((X.setCell ⟨B, 0, none⟩ (.int .i64 (n : Int))).setCell ⟨B, 1, none⟩ (.slice (some ⟨T1, 0, none⟩) n n)).setCell ⟨B, 2, none⟩ (.slice (some ⟨T2, 0, none⟩) n n)) B n T1 T2 := by
  have ne : ∀ {i k : Nat}, i ≠ k → (⟨B, i, none⟩ : Addr) ≠ ⟨B, k, none⟩ := fun h e => h (by injection e)
  refine ⟨?_, ?_, ?_⟩
  · rw [World.cell?_setCell_other _ _ _ _ (ne (by decide)), World.cell?_setCell_other _ _ _ _ (ne (by decide))]; exact World.cell?_setCell_same _ _ _ h0
  · rw [World.cell?_setCell_other _ _ _ _ (ne (by decide))]
    exact World.cell?_setCell_same _ _ _ (show _ = some c1 from by rw [World.cell?_setCell_other _ _ _ _ (ne (by decide))]; exact h1)
  · exact World.cell?_setCell_same _ _ _ (show _ = some c2 from by rw [World.cell?_setCell_other _ _ _ _ (ne (by decide)), World.cell?_setCell_other _ _ _ _ (ne (by decide))]; exact h2)
/-- The result's place, nothing in it yet. -/
def ZL (X : World) (B : Nat) : Prop := (X.cell? ⟨B, 0, none⟩ = some (.int .i64 0) ∧ X.cell? ⟨B, 1, none⟩ = some (.slice none 0 0) ∧ X.cell? ⟨B, 2, none⟩ = some (.slice none 0 0)) ∧ X.frozen? ⟨B, 0, none⟩ = false ∧ X.frozen? ⟨B, 1, none⟩ = false ∧ X.frozen? ⟨B, 2, none⟩ = false
theorem ZL.new (w : World) : ZL (w.alloc (.cells #[.int .i64 0, .slice none 0 0, .slice none 0 0] 27)) w.heap.size :=
  ⟨⟨by simp, by simp, by simp⟩, World.frozen?_alloc_at _ _ _ _ rfl, World.frozen?_alloc_at _ _ _ _ rfl, World.frozen?_alloc_at _ _ _ _ rfl⟩
theorem ZL.step {X X' : World} {B : Nat} (h : ZL X B) (hb : Below X.heap.size X X') : ZL X' B := by
  have hlt : B < X.heap.size := World.block_lt_of_cell? _ _ h.1.1
  obtain ⟨⟨h1, h2, h3⟩, h4, h5, h6⟩ := h
  exact ⟨⟨(hb.cell (p := ⟨B, 0, none⟩) hlt).trans h1, (hb.cell (p := ⟨B, 1, none⟩) hlt).trans h2, (hb.cell (p := ⟨B, 2, none⟩) hlt).trans h3⟩, (hb.frozen (p := ⟨B, 0, none⟩) hlt).trans h4, (hb.frozen (p := ⟨B, 1, none⟩) hlt).trans h5, (hb.frozen (p := ⟨B, 2, none⟩) hlt).trans h6⟩
theorem ZL.keep {X X' : World} {B C : Nat} (h : ZL X B) (hb : Below C X X') (hlt : B < C) : ZL X' B := by
  obtain ⟨⟨h1, h2, h3⟩, h4, h5, h6⟩ := h
  exact ⟨⟨(hb.cell (p := ⟨B, 0, none⟩) hlt).trans h1, (hb.cell (p := ⟨B, 1, none⟩) hlt).trans h2, (hb.cell (p := ⟨B, 2, none⟩) hlt).trans h3⟩, (hb.frozen (p := ⟨B, 0, none⟩) hlt).trans h4, (hb.frozen (p := ⟨B, 1, none⟩) hlt).trans h5, (hb.frozen (p := ⟨B, 2, none⟩) hlt).trans h6⟩
theorem set3B {w X : World} {B : Nat} {u v x : Value} (h : Below w.heap.size w X) (hB : w.heap.size ≤ B) : Below w.heap.size w (((X.setCell ⟨B, 0, none⟩ u).setCell ⟨B, 1, none⟩ v).setCell ⟨B, 2, none⟩ x) :=
  ((h.setCell (p := ⟨B, 0, none⟩) hB _).setCell (p := ⟨B, 1, none⟩) hB _).setCell (p := ⟨B, 2, none⟩) hB _
theorem owns_made {w : World} {base b m : Nat} (h : w.ownsRow base 22 1 (.slice (some ⟨b, 0, none⟩) m m) m (madeCells (Value.slice none 0 0).cells (m * 1)).toList) : OwnS w b m (fun _ => .slice none 0 0) := by
  intro k hk
  refine ⟨?_, h.frozenAt k⟩
  rw [h.cellAt k (by omega)]
  have e : (Value.slice none 0 0).cells = #[Value.slice none 0 0] := rfl
  rw [e, toList_madeCells_one]
  simp [hk]
theorem Tryz.infoLI : (Tryz.prog.info? 22).map (fun i => (i.zero, i.size, i.bytes)) = some (some (.slice none 0 0), 1, 12 + 12) := by kernel_rfl
/-- make of a slice of slices. -/
theorem wp_makeT {o : Oper} {a : Act} {K : Act → World → Prop} {Q : Exit → Act → World → Prop} (w : World) (l c : Operand) (hop : o.op = Op.makeSlice 25 l c) (n : Nat) (hl : a.eval l = .int .i64 (n : Int)) (hc : a.eval c = .int .i64 (n : Int)) (hn : n ≤ 1000)
    (h : ∀ w', OwnS w' w.heap.size n (fun _ => .slice none 0 0) → Below w.heap.size w w' → w'.heap.size = w.heap.size + 1 → K (a.put o.dst (.slice (some ⟨w.heap.size, 0, none⟩) n n)) w') : o.wp Tryz.prog a w K Q := by
  obtain ⟨j0, hj, hy0, hy1, hy2⟩ := info_parts Tryz.infoLI
  have hrun := run_make_row (P := Tryz.prog) 25 22 j0 (.slice none 0 0) Tryz.underlying25 hj hy0 hy1 rfl .i64 .i64 n (by rw [hy2]; omega) (by omega) w
  have hK := h (w.alloc (.cells (madeCells #[.slice none 0 0] n) 22)) (fun k hk => ?_) ((Below.refl _ _).alloc (Nat.le_refl _) _) (by simp)
  · unfold Oper.wp
    simp [execOp, hop, hl, hc, hrun, Result.andThen]
    exact hK
  · refine ⟨?_, World.frozen?_alloc_at _ _ _ _ rfl⟩
    simp
    rw [← Array.getElem?_toList, toList_madeCells_one]
    simp [hk]
def ops4 : Array Oper :=
  #[{ dst := some 15, op := Go.Op.move (Go.Operand.tmp 6), type := 3, pos := "tables.go:31", after := #[], guard := none },
    { dst := some 16, op := Go.Op.move (Go.Operand.tmp 6), type := 3, pos := "tables.go:31", after := #[], guard := none },
    { dst := some 17, op := Go.Op.makeSlice 25 (Go.Operand.tmp 16) (Go.Operand.tmp 16), type := 25, pos := "tables.go:31", after := #[{ on := 1, ground := Go.Ground.data }, { on := 1, ground := Go.Ground.data }], guard := none },
    { dst := some 18, op := Go.Op.move (Go.Operand.tmp 6), type := 3, pos := "tables.go:31", after := #[], guard := none },
    { dst := some 19, op := Go.Op.makeSlice 25 (Go.Operand.tmp 18) (Go.Operand.tmp 18), type := 25, pos := "tables.go:31", after := #[{ on := 3, ground := Go.Ground.data }, { on := 3, ground := Go.Ground.data }], guard := none },
    { dst := some 20, op := Go.Op.build 27 #[(0, Go.Operand.tmp 15), (1, Go.Operand.tmp 17), (2, Go.Operand.tmp 19)], type := 27, pos := "tables.go:31", after := #[{ on := 0, ground := Go.Ground.data }, { on := 2, ground := Go.Ground.data }, { on := 4, ground := Go.Ground.data }], guard := none },
    { dst := some 7, op := Go.Op.alloc 27, type := 0, pos := "tables.go:31", after := #[], guard := none },
    { dst := none, op := Go.Op.store 27 (Go.Operand.tmp 7) (Go.Operand.tmp 20), type := 0, pos := "tables.go:31", after := #[{ on := 6, ground := Go.Ground.data }, { on := 5, ground := Go.Ground.data }, { on := 0, ground := Go.Ground.phase }, { on := 1, ground := Go.Ground.phase }, { on := 2, ground := Go.Ground.phase }, { on := 3, ground := Go.Ground.phase }, { on := 4, ground := Go.Ground.phase }, { on := 5, ground := Go.Ground.phase }, { on := 6, ground := Go.Ground.phase }], guard := none }]
set_option maxHeartbeats 8000000 in
set_option maxRecDepth 100000 in
theorem reg4 {w : World} {n : Nat} {u0 u1 u2 u3 u4 u5 u7 u8 u9 u10 u11 u12 u13 u14 u15 u16 u17 u18 u19 u20 u21 u22 u23 u24 u25 u26 u27 u28 u29 u30 u31 u32 u33 u34 u35 u36 u37 u38 u39 u40 u41 u42 u43 u44 u45 u46 u47 u48 u49 u50 u51 u52 u53 u54 u55 u56 u57 u58 u59 u60 u61 u62 u63 u64 u65 u66 u67 u68 u69 u70 u71 u72 u73 u74 u75 u76 u77 : Value} {Q : Exit → Act → World → Prop} (h40 : n ≤ 40)
    (hQ : ∀ c a w (d : Nat) v, Q (.panic c) (a.put (some d) v) w → Q (.panic c) a w)
    (hk : ∀ T1 T2 B w', OwnS w' T1 n (fun _ => .slice none 0 0) → OwnS w' T2 n (fun _ => .slice none 0 0) → Bx w' B n T1 T2 → Below w.heap.size w w' →
      (w.heap.size ≤ B ∧ w.heap.size ≤ T1 ∧ w.heap.size ≤ T2) ∧ (B ≠ T1 ∧ B ≠ T2 ∧ T1 ≠ T2) ∧ B < w'.heap.size ∧ T1 < w'.heap.size ∧ T2 < w'.heap.size → ∀ z15 z16 z17 z18 z19 z20 : Value, Q .normal { tmps := (u0 :: u1 :: u2 :: u3 :: u4 :: u5 :: (.int .i64 (n : Int)) :: (.pointer (some ⟨B, 0, none⟩)) :: u8 :: u9 :: u10 :: u11 :: u12 :: u13 :: u14 :: z15 :: z16 :: z17 :: z18 :: z19 :: z20 :: u21 :: u22 :: u23 :: u24 :: u25 :: u26 :: u27 :: u28 :: u29 :: u30 :: u31 :: u32 :: u33 :: u34 :: u35 :: u36 :: u37 :: u38 :: u39 :: u40 :: u41 :: u42 :: u43 :: u44 :: u45 :: u46 :: u47 :: u48 :: u49 :: u50 :: u51 :: u52 :: u53 :: u54 :: u55 :: u56 :: u57 :: u58 :: u59 :: u60 :: u61 :: u62 :: u63 :: u64 :: u65 :: u66 :: u67 :: u68 :: u69 :: u70 :: u71 :: u72 :: u73 :: u74 :: u75 :: u76 :: u77 :: []).toArray, defers := [] } w') :
    (Code.region 4 ops4 true).wp Tryz.prog Q { tmps := (u0 :: u1 :: u2 :: u3 :: u4 :: u5 :: (.int .i64 (n : Int)) :: u7 :: u8 :: u9 :: u10 :: u11 :: u12 :: u13 :: u14 :: u15 :: u16 :: u17 :: u18 :: u19 :: u20 :: u21 :: u22 :: u23 :: u24 :: u25 :: u26 :: u27 :: u28 :: u29 :: u30 :: u31 :: u32 :: u33 :: u34 :: u35 :: u36 :: u37 :: u38 :: u39 :: u40 :: u41 :: u42 :: u43 :: u44 :: u45 :: u46 :: u47 :: u48 :: u49 :: u50 :: u51 :: u52 :: u53 :: u54 :: u55 :: u56 :: u57 :: u58 :: u59 :: u60 :: u61 :: u62 :: u63 :: u64 :: u65 :: u66 :: u67 :: u68 :: u69 :: u70 :: u71 :: u72 :: u73 :: u74 :: u75 :: u76 :: u77 :: []).toArray, defers := [] } w := by
  unfold ops4
  refine wp_lates (S := fun _ => True) (late := fun _ => false) (by kernel_rfl) ?_
  have HS : Hid True := trivial
  have HB : Below w.heap.size w w.drew := (Below.refl _ _).drew
  have HSD : Hid (w.drew.heap.size = w.heap.size) := rfl
  obtain ⟨wd, hwd⟩ : ∃ wd, Hid (wd = w.drew) := ⟨_, rfl⟩
  rw [← hwd.out] at HB HSD ⊢
  clear hwd
  refine lates_take (i := 0) (oi := { dst := some 15, op := Go.Op.move (Go.Operand.tmp 6), type := 3, pos := "tables.go:31", after := #[], guard := none }) (v := ?_) rfl (by kernel_rfl) (by kernel_rfl) (by kernel_rfl) ⟨rfl, by kernel_rfl⟩ (fun _ _ _ h => hQ _ _ _ _ _ h) (Or.inl ⟨by rfl, ?hy⟩) HS.out ?_
  case hy => (intro w9 hSw; clear hSw; go_simp; try with_reducible rfl)
  try simp only [Act.put, List.setIfInBounds_toArray, List.set_cons_zero, List.set_cons_succ]
  refine lates_take (i := 1) (oi := { dst := some 16, op := Go.Op.move (Go.Operand.tmp 6), type := 3, pos := "tables.go:31", after := #[], guard := none }) (v := ?_) rfl (by kernel_rfl) (by kernel_rfl) (by kernel_rfl) ⟨rfl, by kernel_rfl⟩ (fun _ _ _ h => hQ _ _ _ _ _ h) (Or.inl ⟨by rfl, ?hy⟩) HS.out ?_
  case hy => (intro w9 hSw; clear hSw; go_simp; try with_reducible rfl)
  try simp only [Act.put, List.setIfInBounds_toArray, List.set_cons_zero, List.set_cons_succ]
  refine lates_take (i := 3) (oi := { dst := some 18, op := Go.Op.move (Go.Operand.tmp 6), type := 3, pos := "tables.go:31", after := #[], guard := none }) (v := ?_) rfl (by kernel_rfl) (by kernel_rfl) (by kernel_rfl) ⟨rfl, by kernel_rfl⟩ (fun _ _ _ h => hQ _ _ _ _ _ h) (Or.inl ⟨by rfl, ?hy⟩) HS.out ?_
  case hy => (intro w9 hSw; clear hSw; go_simp; try with_reducible rfl)
  try simp only [Act.put, List.setIfInBounds_toArray, List.set_cons_zero, List.set_cons_succ]
  refine lates_ready (rs := [2, 4, 6]) (by kernel_rfl) (by simp) ?_
  refine AllLate.cons (o := { dst := some 17, op := Go.Op.makeSlice 25 (Go.Operand.tmp 16) (Go.Operand.tmp 16), type := 25, pos := "tables.go:31", after := #[{ on := 1, ground := Go.Ground.data }, { on := 1, ground := Go.Ground.data }], guard := none }) rfl (fun K hK => ?_) ?_
  · rw [if_pos (by rfl)]
    refine wp_makeT wd _ _ rfl n rfl rfl (by omega) ?_
    intro w2 ho2 hb2 hs2
    refine hK.out _ _ (fun _ => trivial) ?_
    have HS2 : Hid (w2.heap.size = wd.heap.size + 1) := hs2
    clear hs2
    have HB := Below.then HB hb2
    have HO1 := ho2
    clear ho2 hb2
    clear hK K
    try simp only [Act.put, List.setIfInBounds_toArray, List.set_cons_zero, List.set_cons_succ]
    refine lates_ready (rs := [4, 6]) (by kernel_rfl) (by simp) ?_
    refine AllLate.cons (o := { dst := some 19, op := Go.Op.makeSlice 25 (Go.Operand.tmp 18) (Go.Operand.tmp 18), type := 25, pos := "tables.go:31", after := #[{ on := 3, ground := Go.Ground.data }, { on := 3, ground := Go.Ground.data }], guard := none }) rfl (fun K hK => ?_) ?_
    · rw [if_pos (by rfl)]
      refine wp_makeT w2 _ _ rfl n rfl rfl (by omega) ?_
      intro w4 ho4 hb4 hs4
      refine hK.out _ _ (fun _ => trivial) ?_
      have HS4 : Hid (w4.heap.size = w2.heap.size + 1) := hs4
      clear hs4
      have HO1 := HO1.keep hb4 (by have := HSD.out; have := HS2.out; have := HS4.out; omega)
      have HB := Below.then HB hb4
      have HO2 := ho4
      clear ho4 hb4
      clear hK K
      try simp only [Act.put, List.setIfInBounds_toArray, List.set_cons_zero, List.set_cons_succ]
      refine lates_take (i := 5) (oi := { dst := some 20, op := Go.Op.build 27 #[(0, Go.Operand.tmp 15), (1, Go.Operand.tmp 17), (2, Go.Operand.tmp 19)], type := 27, pos := "tables.go:31", after := #[{ on := 0, ground := Go.Ground.data }, { on := 2, ground := Go.Ground.data }, { on := 4, ground := Go.Ground.data }], guard := none }) (v := ?_) rfl (by kernel_rfl) (by kernel_rfl) (by kernel_rfl) ⟨rfl, by kernel_rfl⟩ (fun _ _ _ h => hQ _ _ _ _ _ h) (Or.inl ⟨by rfl, ?hy⟩) HS.out ?_
      case hy => (intro w9 hSw; clear hSw; go_simp; try with_reducible rfl)
      try simp only [Act.put, List.setIfInBounds_toArray, List.set_cons_zero, List.set_cons_succ]
      refine lates_ready (rs := [6]) (by kernel_rfl) (by simp) ?_
      refine AllLate.cons (o := { dst := some 7, op := Go.Op.alloc 27, type := 0, pos := "tables.go:31", after := #[], guard := none }) rfl (fun K hK => ?_) ?_
      · go_simp
        refine hK.out _ _ (fun _ => trivial) ?_
        obtain ⟨w6, h6⟩ : ∃ w6, Hid (w6 = w4.alloc (.cells #[.int .i64 0, .slice none 0 0, .slice none 0 0] 27)) := ⟨_, rfl⟩
        rw [← h6.out]
        have hz6 : ZL w6 w4.heap.size := by rw [h6.out]; exact ZL.new _
        have hb6 : Below w4.heap.size w4 w6 := by rw [h6.out]; exact (Below.refl _ _).alloc (Nat.le_refl _) _
        have HS6 : Hid (w6.heap.size = w4.heap.size + 1) := by rw [Hid, h6.out]; simp
        clear h6
        have HO1 := HO1.keep hb6 (by have := HSD.out; have := HS2.out; have := HS4.out; have := HS6.out; omega)
        have HO2 := HO2.keep hb6 (by have := HSD.out; have := HS2.out; have := HS4.out; have := HS6.out; omega)
        have HB := Below.then HB hb6
        have HZ := hz6
        clear hz6 hb6
        clear hK K
        try simp only [Act.put, List.setIfInBounds_toArray, List.set_cons_zero, List.set_cons_succ]
        refine lates_ready (rs := [7]) (by kernel_rfl) (by simp) ?_
        refine AllLate.cons (o := { dst := none, op := Go.Op.store 27 (Go.Operand.tmp 7) (Go.Operand.tmp 20), type := 0, pos := "tables.go:31", after := #[{ on := 6, ground := Go.Ground.data }, { on := 5, ground := Go.Ground.data }, { on := 0, ground := Go.Ground.phase }, { on := 1, ground := Go.Ground.phase }, { on := 2, ground := Go.Ground.phase }, { on := 3, ground := Go.Ground.phase }, { on := 4, ground := Go.Ground.phase }, { on := 5, ground := Go.Ground.phase }, { on := 6, ground := Go.Ground.phase }], guard := none }) rfl (fun K hK => ?_) ?_
        · obtain ⟨⟨r0, r1, r2⟩, r3, r4, r5⟩ := HZ
          go_simp
          refine hK.out _ _ (fun _ => trivial) ?_
          have HF1 : Hid (OwnS (((w6.setCell ⟨w4.heap.size, 0, none⟩ (.int .i64 (n : Int))).setCell ⟨w4.heap.size, 1, none⟩ (.slice (some ⟨wd.heap.size, 0, none⟩) n n)).setCell ⟨w4.heap.size, 2, none⟩ (.slice (some ⟨w2.heap.size, 0, none⟩) n n)) (wd.heap.size) n (fun _ => .slice none 0 0)) := ((HO1.other (by have := HSD.out; have := HS2.out; have := HS4.out; have := HS6.out; omega) _).other (by have := HSD.out; have := HS2.out; have := HS4.out; have := HS6.out; omega) _).other (by have := HSD.out; have := HS2.out; have := HS4.out; have := HS6.out; omega) _
          have HF2 : Hid (OwnS (((w6.setCell ⟨w4.heap.size, 0, none⟩ (.int .i64 (n : Int))).setCell ⟨w4.heap.size, 1, none⟩ (.slice (some ⟨wd.heap.size, 0, none⟩) n n)).setCell ⟨w4.heap.size, 2, none⟩ (.slice (some ⟨w2.heap.size, 0, none⟩) n n)) (w2.heap.size) n (fun _ => .slice none 0 0)) := ((HO2.other (by have := HSD.out; have := HS2.out; have := HS4.out; have := HS6.out; omega) _).other (by have := HSD.out; have := HS2.out; have := HS4.out; have := HS6.out; omega) _).other (by have := HSD.out; have := HS2.out; have := HS4.out; have := HS6.out; omega) _
          have HF3 : Hid (Bx (((w6.setCell ⟨w4.heap.size, 0, none⟩ (.int .i64 (n : Int))).setCell ⟨w4.heap.size, 1, none⟩ (.slice (some ⟨wd.heap.size, 0, none⟩) n n)).setCell ⟨w4.heap.size, 2, none⟩ (.slice (some ⟨w2.heap.size, 0, none⟩) n n)) (w4.heap.size) n (wd.heap.size) (w2.heap.size)) := Bx.new r0 r1 r2
          have HF4 : Hid (Below w.heap.size w (((w6.setCell ⟨w4.heap.size, 0, none⟩ (.int .i64 (n : Int))).setCell ⟨w4.heap.size, 1, none⟩ (.slice (some ⟨wd.heap.size, 0, none⟩) n n)).setCell ⟨w4.heap.size, 2, none⟩ (.slice (some ⟨w2.heap.size, 0, none⟩) n n))) := set3B HB (by have := HSD.out; have := HS2.out; have := HS4.out; have := HS6.out; omega)
          have HF5 : Hid ((w.heap.size ≤ w4.heap.size ∧ w.heap.size ≤ wd.heap.size ∧ w.heap.size ≤ w2.heap.size) ∧ (w4.heap.size ≠ wd.heap.size ∧ w4.heap.size ≠ w2.heap.size ∧ wd.heap.size ≠ w2.heap.size) ∧ w4.heap.size < (((w6.setCell ⟨w4.heap.size, 0, none⟩ (.int .i64 (n : Int))).setCell ⟨w4.heap.size, 1, none⟩ (.slice (some ⟨wd.heap.size, 0, none⟩) n n)).setCell ⟨w4.heap.size, 2, none⟩ (.slice (some ⟨w2.heap.size, 0, none⟩) n n)).heap.size ∧ wd.heap.size < (((w6.setCell ⟨w4.heap.size, 0, none⟩ (.int .i64 (n : Int))).setCell ⟨w4.heap.size, 1, none⟩ (.slice (some ⟨wd.heap.size, 0, none⟩) n n)).setCell ⟨w4.heap.size, 2, none⟩ (.slice (some ⟨w2.heap.size, 0, none⟩) n n)).heap.size ∧ w2.heap.size < (((w6.setCell ⟨w4.heap.size, 0, none⟩ (.int .i64 (n : Int))).setCell ⟨w4.heap.size, 1, none⟩ (.slice (some ⟨wd.heap.size, 0, none⟩) n n)).setCell ⟨w4.heap.size, 2, none⟩ (.slice (some ⟨w2.heap.size, 0, none⟩) n n)).heap.size) := by
            have hw : (((w6.setCell ⟨w4.heap.size, 0, none⟩ (.int .i64 (n : Int))).setCell ⟨w4.heap.size, 1, none⟩ (.slice (some ⟨wd.heap.size, 0, none⟩) n n)).setCell ⟨w4.heap.size, 2, none⟩ (.slice (some ⟨w2.heap.size, 0, none⟩) n n)).heap.size = w6.heap.size := by simp
            rw [Hid, hw]
            have := HSD.out; have := HS2.out; have := HS4.out; have := HS6.out; refine ⟨⟨?_, ?_, ?_⟩, ⟨?_, ?_, ?_⟩, ?_, ?_, ?_⟩ <;> omega
          clear hK K HB HO1 HO2
          try simp only [Act.put, List.setIfInBounds_toArray, List.set_cons_zero, List.set_cons_succ]
          refine lates_done (by kernel_rfl) ?_ _
          try simp only [Act.put, List.setIfInBounds_toArray, List.set_cons_zero, List.set_cons_succ]
          exact hk _ _ _ _ HF1.out HF2.out HF3.out HF4.out HF5.out _ _ _ _ _ _
        exact AllLate.nil
      exact AllLate.nil
    refine AllLate.cons (o := { dst := some 7, op := Go.Op.alloc 27, type := 0, pos := "tables.go:31", after := #[], guard := none }) rfl (fun K hK => ?_) ?_
    · go_simp
      refine hK.out _ _ (fun _ => trivial) ?_
      obtain ⟨w6, h6⟩ : ∃ w6, Hid (w6 = w2.alloc (.cells #[.int .i64 0, .slice none 0 0, .slice none 0 0] 27)) := ⟨_, rfl⟩
      rw [← h6.out]
      have hz6 : ZL w6 w2.heap.size := by rw [h6.out]; exact ZL.new _
      have hb6 : Below w2.heap.size w2 w6 := by rw [h6.out]; exact (Below.refl _ _).alloc (Nat.le_refl _) _
      have HS6 : Hid (w6.heap.size = w2.heap.size + 1) := by rw [Hid, h6.out]; simp
      clear h6
      have HO1 := HO1.keep hb6 (by have := HSD.out; have := HS2.out; have := HS6.out; omega)
      have HB := Below.then HB hb6
      have HZ := hz6
      clear hz6 hb6
      clear hK K
      try simp only [Act.put, List.setIfInBounds_toArray, List.set_cons_zero, List.set_cons_succ]
      refine lates_ready (rs := [4]) (by kernel_rfl) (by simp) ?_
      refine AllLate.cons (o := { dst := some 19, op := Go.Op.makeSlice 25 (Go.Operand.tmp 18) (Go.Operand.tmp 18), type := 25, pos := "tables.go:31", after := #[{ on := 3, ground := Go.Ground.data }, { on := 3, ground := Go.Ground.data }], guard := none }) rfl (fun K hK => ?_) ?_
      · rw [if_pos (by rfl)]
        refine wp_makeT w6 _ _ rfl n rfl rfl (by omega) ?_
        intro w4 ho4 hb4 hs4
        refine hK.out _ _ (fun _ => trivial) ?_
        have HS4 : Hid (w4.heap.size = w6.heap.size + 1) := hs4
        clear hs4
        have HO1 := HO1.keep hb4 (by have := HSD.out; have := HS2.out; have := HS6.out; have := HS4.out; omega)
        have HZ := HZ.step hb4
        have HB := Below.then HB hb4
        have HO2 := ho4
        clear ho4 hb4
        clear hK K
        try simp only [Act.put, List.setIfInBounds_toArray, List.set_cons_zero, List.set_cons_succ]
        refine lates_take (i := 5) (oi := { dst := some 20, op := Go.Op.build 27 #[(0, Go.Operand.tmp 15), (1, Go.Operand.tmp 17), (2, Go.Operand.tmp 19)], type := 27, pos := "tables.go:31", after := #[{ on := 0, ground := Go.Ground.data }, { on := 2, ground := Go.Ground.data }, { on := 4, ground := Go.Ground.data }], guard := none }) (v := ?_) rfl (by kernel_rfl) (by kernel_rfl) (by kernel_rfl) ⟨rfl, by kernel_rfl⟩ (fun _ _ _ h => hQ _ _ _ _ _ h) (Or.inl ⟨by rfl, ?hy⟩) HS.out ?_
        case hy => (intro w9 hSw; clear hSw; go_simp; try with_reducible rfl)
        try simp only [Act.put, List.setIfInBounds_toArray, List.set_cons_zero, List.set_cons_succ]
        refine lates_ready (rs := [7]) (by kernel_rfl) (by simp) ?_
        refine AllLate.cons (o := { dst := none, op := Go.Op.store 27 (Go.Operand.tmp 7) (Go.Operand.tmp 20), type := 0, pos := "tables.go:31", after := #[{ on := 6, ground := Go.Ground.data }, { on := 5, ground := Go.Ground.data }, { on := 0, ground := Go.Ground.phase }, { on := 1, ground := Go.Ground.phase }, { on := 2, ground := Go.Ground.phase }, { on := 3, ground := Go.Ground.phase }, { on := 4, ground := Go.Ground.phase }, { on := 5, ground := Go.Ground.phase }, { on := 6, ground := Go.Ground.phase }], guard := none }) rfl (fun K hK => ?_) ?_
        · obtain ⟨⟨r0, r1, r2⟩, r3, r4, r5⟩ := HZ
          go_simp
          refine hK.out _ _ (fun _ => trivial) ?_
          have HF1 : Hid (OwnS (((w4.setCell ⟨w2.heap.size, 0, none⟩ (.int .i64 (n : Int))).setCell ⟨w2.heap.size, 1, none⟩ (.slice (some ⟨wd.heap.size, 0, none⟩) n n)).setCell ⟨w2.heap.size, 2, none⟩ (.slice (some ⟨w6.heap.size, 0, none⟩) n n)) (wd.heap.size) n (fun _ => .slice none 0 0)) := ((HO1.other (by have := HSD.out; have := HS2.out; have := HS6.out; have := HS4.out; omega) _).other (by have := HSD.out; have := HS2.out; have := HS6.out; have := HS4.out; omega) _).other (by have := HSD.out; have := HS2.out; have := HS6.out; have := HS4.out; omega) _
          have HF2 : Hid (OwnS (((w4.setCell ⟨w2.heap.size, 0, none⟩ (.int .i64 (n : Int))).setCell ⟨w2.heap.size, 1, none⟩ (.slice (some ⟨wd.heap.size, 0, none⟩) n n)).setCell ⟨w2.heap.size, 2, none⟩ (.slice (some ⟨w6.heap.size, 0, none⟩) n n)) (w6.heap.size) n (fun _ => .slice none 0 0)) := ((HO2.other (by have := HSD.out; have := HS2.out; have := HS6.out; have := HS4.out; omega) _).other (by have := HSD.out; have := HS2.out; have := HS6.out; have := HS4.out; omega) _).other (by have := HSD.out; have := HS2.out; have := HS6.out; have := HS4.out; omega) _
          have HF3 : Hid (Bx (((w4.setCell ⟨w2.heap.size, 0, none⟩ (.int .i64 (n : Int))).setCell ⟨w2.heap.size, 1, none⟩ (.slice (some ⟨wd.heap.size, 0, none⟩) n n)).setCell ⟨w2.heap.size, 2, none⟩ (.slice (some ⟨w6.heap.size, 0, none⟩) n n)) (w2.heap.size) n (wd.heap.size) (w6.heap.size)) := Bx.new r0 r1 r2
          have HF4 : Hid (Below w.heap.size w (((w4.setCell ⟨w2.heap.size, 0, none⟩ (.int .i64 (n : Int))).setCell ⟨w2.heap.size, 1, none⟩ (.slice (some ⟨wd.heap.size, 0, none⟩) n n)).setCell ⟨w2.heap.size, 2, none⟩ (.slice (some ⟨w6.heap.size, 0, none⟩) n n))) := set3B HB (by have := HSD.out; have := HS2.out; have := HS6.out; have := HS4.out; omega)
          have HF5 : Hid ((w.heap.size ≤ w2.heap.size ∧ w.heap.size ≤ wd.heap.size ∧ w.heap.size ≤ w6.heap.size) ∧ (w2.heap.size ≠ wd.heap.size ∧ w2.heap.size ≠ w6.heap.size ∧ wd.heap.size ≠ w6.heap.size) ∧ w2.heap.size < (((w4.setCell ⟨w2.heap.size, 0, none⟩ (.int .i64 (n : Int))).setCell ⟨w2.heap.size, 1, none⟩ (.slice (some ⟨wd.heap.size, 0, none⟩) n n)).setCell ⟨w2.heap.size, 2, none⟩ (.slice (some ⟨w6.heap.size, 0, none⟩) n n)).heap.size ∧ wd.heap.size < (((w4.setCell ⟨w2.heap.size, 0, none⟩ (.int .i64 (n : Int))).setCell ⟨w2.heap.size, 1, none⟩ (.slice (some ⟨wd.heap.size, 0, none⟩) n n)).setCell ⟨w2.heap.size, 2, none⟩ (.slice (some ⟨w6.heap.size, 0, none⟩) n n)).heap.size ∧ w6.heap.size < (((w4.setCell ⟨w2.heap.size, 0, none⟩ (.int .i64 (n : Int))).setCell ⟨w2.heap.size, 1, none⟩ (.slice (some ⟨wd.heap.size, 0, none⟩) n n)).setCell ⟨w2.heap.size, 2, none⟩ (.slice (some ⟨w6.heap.size, 0, none⟩) n n)).heap.size) := by
            have hw : (((w4.setCell ⟨w2.heap.size, 0, none⟩ (.int .i64 (n : Int))).setCell ⟨w2.heap.size, 1, none⟩ (.slice (some ⟨wd.heap.size, 0, none⟩) n n)).setCell ⟨w2.heap.size, 2, none⟩ (.slice (some ⟨w6.heap.size, 0, none⟩) n n)).heap.size = w4.heap.size := by simp
            rw [Hid, hw]
            have := HSD.out; have := HS2.out; have := HS6.out; have := HS4.out; refine ⟨⟨?_, ?_, ?_⟩, ⟨?_, ?_, ?_⟩, ?_, ?_, ?_⟩ <;> omega
          clear hK K HB HO1 HO2
          try simp only [Act.put, List.setIfInBounds_toArray, List.set_cons_zero, List.set_cons_succ]
          refine lates_done (by kernel_rfl) ?_ _
          try simp only [Act.put, List.setIfInBounds_toArray, List.set_cons_zero, List.set_cons_succ]
          exact hk _ _ _ _ HF1.out HF2.out HF3.out HF4.out HF5.out _ _ _ _ _ _
        exact AllLate.nil
      exact AllLate.nil
    exact AllLate.nil
  refine AllLate.cons (o := { dst := some 19, op := Go.Op.makeSlice 25 (Go.Operand.tmp 18) (Go.Operand.tmp 18), type := 25, pos := "tables.go:31", after := #[{ on := 3, ground := Go.Ground.data }, { on := 3, ground := Go.Ground.data }], guard := none }) rfl (fun K hK => ?_) ?_
  · rw [if_pos (by rfl)]
    refine wp_makeT wd _ _ rfl n rfl rfl (by omega) ?_
    intro w4 ho4 hb4 hs4
    refine hK.out _ _ (fun _ => trivial) ?_
    have HS4 : Hid (w4.heap.size = wd.heap.size + 1) := hs4
    clear hs4
    have HB := Below.then HB hb4
    have HO2 := ho4
    clear ho4 hb4
    clear hK K
    try simp only [Act.put, List.setIfInBounds_toArray, List.set_cons_zero, List.set_cons_succ]
    refine lates_ready (rs := [2, 6]) (by kernel_rfl) (by simp) ?_
    refine AllLate.cons (o := { dst := some 17, op := Go.Op.makeSlice 25 (Go.Operand.tmp 16) (Go.Operand.tmp 16), type := 25, pos := "tables.go:31", after := #[{ on := 1, ground := Go.Ground.data }, { on := 1, ground := Go.Ground.data }], guard := none }) rfl (fun K hK => ?_) ?_
    · rw [if_pos (by rfl)]
      refine wp_makeT w4 _ _ rfl n rfl rfl (by omega) ?_
      intro w2 ho2 hb2 hs2
      refine hK.out _ _ (fun _ => trivial) ?_
      have HS2 : Hid (w2.heap.size = w4.heap.size + 1) := hs2
      clear hs2
      have HO2 := HO2.keep hb2 (by have := HSD.out; have := HS4.out; have := HS2.out; omega)
      have HB := Below.then HB hb2
      have HO1 := ho2
      clear ho2 hb2
      clear hK K
      try simp only [Act.put, List.setIfInBounds_toArray, List.set_cons_zero, List.set_cons_succ]
      refine lates_take (i := 5) (oi := { dst := some 20, op := Go.Op.build 27 #[(0, Go.Operand.tmp 15), (1, Go.Operand.tmp 17), (2, Go.Operand.tmp 19)], type := 27, pos := "tables.go:31", after := #[{ on := 0, ground := Go.Ground.data }, { on := 2, ground := Go.Ground.data }, { on := 4, ground := Go.Ground.data }], guard := none }) (v := ?_) rfl (by kernel_rfl) (by kernel_rfl) (by kernel_rfl) ⟨rfl, by kernel_rfl⟩ (fun _ _ _ h => hQ _ _ _ _ _ h) (Or.inl ⟨by rfl, ?hy⟩) HS.out ?_
      case hy => (intro w9 hSw; clear hSw; go_simp; try with_reducible rfl)
      try simp only [Act.put, List.setIfInBounds_toArray, List.set_cons_zero, List.set_cons_succ]
      refine lates_ready (rs := [6]) (by kernel_rfl) (by simp) ?_
      refine AllLate.cons (o := { dst := some 7, op := Go.Op.alloc 27, type := 0, pos := "tables.go:31", after := #[], guard := none }) rfl (fun K hK => ?_) ?_
      · go_simp
        refine hK.out _ _ (fun _ => trivial) ?_
        obtain ⟨w6, h6⟩ : ∃ w6, Hid (w6 = w2.alloc (.cells #[.int .i64 0, .slice none 0 0, .slice none 0 0] 27)) := ⟨_, rfl⟩
        rw [← h6.out]
        have hz6 : ZL w6 w2.heap.size := by rw [h6.out]; exact ZL.new _
        have hb6 : Below w2.heap.size w2 w6 := by rw [h6.out]; exact (Below.refl _ _).alloc (Nat.le_refl _) _
        have HS6 : Hid (w6.heap.size = w2.heap.size + 1) := by rw [Hid, h6.out]; simp
        clear h6
        have HO2 := HO2.keep hb6 (by have := HSD.out; have := HS4.out; have := HS2.out; have := HS6.out; omega)
        have HO1 := HO1.keep hb6 (by have := HSD.out; have := HS4.out; have := HS2.out; have := HS6.out; omega)
        have HB := Below.then HB hb6
        have HZ := hz6
        clear hz6 hb6
        clear hK K
        try simp only [Act.put, List.setIfInBounds_toArray, List.set_cons_zero, List.set_cons_succ]
        refine lates_ready (rs := [7]) (by kernel_rfl) (by simp) ?_
        refine AllLate.cons (o := { dst := none, op := Go.Op.store 27 (Go.Operand.tmp 7) (Go.Operand.tmp 20), type := 0, pos := "tables.go:31", after := #[{ on := 6, ground := Go.Ground.data }, { on := 5, ground := Go.Ground.data }, { on := 0, ground := Go.Ground.phase }, { on := 1, ground := Go.Ground.phase }, { on := 2, ground := Go.Ground.phase }, { on := 3, ground := Go.Ground.phase }, { on := 4, ground := Go.Ground.phase }, { on := 5, ground := Go.Ground.phase }, { on := 6, ground := Go.Ground.phase }], guard := none }) rfl (fun K hK => ?_) ?_
        · obtain ⟨⟨r0, r1, r2⟩, r3, r4, r5⟩ := HZ
          go_simp
          refine hK.out _ _ (fun _ => trivial) ?_
          have HF1 : Hid (OwnS (((w6.setCell ⟨w2.heap.size, 0, none⟩ (.int .i64 (n : Int))).setCell ⟨w2.heap.size, 1, none⟩ (.slice (some ⟨w4.heap.size, 0, none⟩) n n)).setCell ⟨w2.heap.size, 2, none⟩ (.slice (some ⟨wd.heap.size, 0, none⟩) n n)) (w4.heap.size) n (fun _ => .slice none 0 0)) := ((HO1.other (by have := HSD.out; have := HS4.out; have := HS2.out; have := HS6.out; omega) _).other (by have := HSD.out; have := HS4.out; have := HS2.out; have := HS6.out; omega) _).other (by have := HSD.out; have := HS4.out; have := HS2.out; have := HS6.out; omega) _
          have HF2 : Hid (OwnS (((w6.setCell ⟨w2.heap.size, 0, none⟩ (.int .i64 (n : Int))).setCell ⟨w2.heap.size, 1, none⟩ (.slice (some ⟨w4.heap.size, 0, none⟩) n n)).setCell ⟨w2.heap.size, 2, none⟩ (.slice (some ⟨wd.heap.size, 0, none⟩) n n)) (wd.heap.size) n (fun _ => .slice none 0 0)) := ((HO2.other (by have := HSD.out; have := HS4.out; have := HS2.out; have := HS6.out; omega) _).other (by have := HSD.out; have := HS4.out; have := HS2.out; have := HS6.out; omega) _).other (by have := HSD.out; have := HS4.out; have := HS2.out; have := HS6.out; omega) _
          have HF3 : Hid (Bx (((w6.setCell ⟨w2.heap.size, 0, none⟩ (.int .i64 (n : Int))).setCell ⟨w2.heap.size, 1, none⟩ (.slice (some ⟨w4.heap.size, 0, none⟩) n n)).setCell ⟨w2.heap.size, 2, none⟩ (.slice (some ⟨wd.heap.size, 0, none⟩) n n)) (w2.heap.size) n (w4.heap.size) (wd.heap.size)) := Bx.new r0 r1 r2
          have HF4 : Hid (Below w.heap.size w (((w6.setCell ⟨w2.heap.size, 0, none⟩ (.int .i64 (n : Int))).setCell ⟨w2.heap.size, 1, none⟩ (.slice (some ⟨w4.heap.size, 0, none⟩) n n)).setCell ⟨w2.heap.size, 2, none⟩ (.slice (some ⟨wd.heap.size, 0, none⟩) n n))) := set3B HB (by have := HSD.out; have := HS4.out; have := HS2.out; have := HS6.out; omega)
          have HF5 : Hid ((w.heap.size ≤ w2.heap.size ∧ w.heap.size ≤ w4.heap.size ∧ w.heap.size ≤ wd.heap.size) ∧ (w2.heap.size ≠ w4.heap.size ∧ w2.heap.size ≠ wd.heap.size ∧ w4.heap.size ≠ wd.heap.size) ∧ w2.heap.size < (((w6.setCell ⟨w2.heap.size, 0, none⟩ (.int .i64 (n : Int))).setCell ⟨w2.heap.size, 1, none⟩ (.slice (some ⟨w4.heap.size, 0, none⟩) n n)).setCell ⟨w2.heap.size, 2, none⟩ (.slice (some ⟨wd.heap.size, 0, none⟩) n n)).heap.size ∧ w4.heap.size < (((w6.setCell ⟨w2.heap.size, 0, none⟩ (.int .i64 (n : Int))).setCell ⟨w2.heap.size, 1, none⟩ (.slice (some ⟨w4.heap.size, 0, none⟩) n n)).setCell ⟨w2.heap.size, 2, none⟩ (.slice (some ⟨wd.heap.size, 0, none⟩) n n)).heap.size ∧ wd.heap.size < (((w6.setCell ⟨w2.heap.size, 0, none⟩ (.int .i64 (n : Int))).setCell ⟨w2.heap.size, 1, none⟩ (.slice (some ⟨w4.heap.size, 0, none⟩) n n)).setCell ⟨w2.heap.size, 2, none⟩ (.slice (some ⟨wd.heap.size, 0, none⟩) n n)).heap.size) := by
            have hw : (((w6.setCell ⟨w2.heap.size, 0, none⟩ (.int .i64 (n : Int))).setCell ⟨w2.heap.size, 1, none⟩ (.slice (some ⟨w4.heap.size, 0, none⟩) n n)).setCell ⟨w2.heap.size, 2, none⟩ (.slice (some ⟨wd.heap.size, 0, none⟩) n n)).heap.size = w6.heap.size := by simp
            rw [Hid, hw]
            have := HSD.out; have := HS4.out; have := HS2.out; have := HS6.out; refine ⟨⟨?_, ?_, ?_⟩, ⟨?_, ?_, ?_⟩, ?_, ?_, ?_⟩ <;> omega
          clear hK K HB HO1 HO2
          try simp only [Act.put, List.setIfInBounds_toArray, List.set_cons_zero, List.set_cons_succ]
          refine lates_done (by kernel_rfl) ?_ _
          try simp only [Act.put, List.setIfInBounds_toArray, List.set_cons_zero, List.set_cons_succ]
          exact hk _ _ _ _ HF1.out HF2.out HF3.out HF4.out HF5.out _ _ _ _ _ _
        exact AllLate.nil
      exact AllLate.nil
    refine AllLate.cons (o := { dst := some 7, op := Go.Op.alloc 27, type := 0, pos := "tables.go:31", after := #[], guard := none }) rfl (fun K hK => ?_) ?_
    · go_simp
      refine hK.out _ _ (fun _ => trivial) ?_
      obtain ⟨w6, h6⟩ : ∃ w6, Hid (w6 = w4.alloc (.cells #[.int .i64 0, .slice none 0 0, .slice none 0 0] 27)) := ⟨_, rfl⟩
      rw [← h6.out]
      have hz6 : ZL w6 w4.heap.size := by rw [h6.out]; exact ZL.new _
      have hb6 : Below w4.heap.size w4 w6 := by rw [h6.out]; exact (Below.refl _ _).alloc (Nat.le_refl _) _
      have HS6 : Hid (w6.heap.size = w4.heap.size + 1) := by rw [Hid, h6.out]; simp
      clear h6
      have HO2 := HO2.keep hb6 (by have := HSD.out; have := HS4.out; have := HS6.out; omega)
      have HB := Below.then HB hb6
      have HZ := hz6
      clear hz6 hb6
      clear hK K
      try simp only [Act.put, List.setIfInBounds_toArray, List.set_cons_zero, List.set_cons_succ]
      refine lates_ready (rs := [2]) (by kernel_rfl) (by simp) ?_
      refine AllLate.cons (o := { dst := some 17, op := Go.Op.makeSlice 25 (Go.Operand.tmp 16) (Go.Operand.tmp 16), type := 25, pos := "tables.go:31", after := #[{ on := 1, ground := Go.Ground.data }, { on := 1, ground := Go.Ground.data }], guard := none }) rfl (fun K hK => ?_) ?_
      · rw [if_pos (by rfl)]
        refine wp_makeT w6 _ _ rfl n rfl rfl (by omega) ?_
        intro w2 ho2 hb2 hs2
        refine hK.out _ _ (fun _ => trivial) ?_
        have HS2 : Hid (w2.heap.size = w6.heap.size + 1) := hs2
        clear hs2
        have HO2 := HO2.keep hb2 (by have := HSD.out; have := HS4.out; have := HS6.out; have := HS2.out; omega)
        have HZ := HZ.step hb2
        have HB := Below.then HB hb2
        have HO1 := ho2
        clear ho2 hb2
        clear hK K
        try simp only [Act.put, List.setIfInBounds_toArray, List.set_cons_zero, List.set_cons_succ]
        refine lates_take (i := 5) (oi := { dst := some 20, op := Go.Op.build 27 #[(0, Go.Operand.tmp 15), (1, Go.Operand.tmp 17), (2, Go.Operand.tmp 19)], type := 27, pos := "tables.go:31", after := #[{ on := 0, ground := Go.Ground.data }, { on := 2, ground := Go.Ground.data }, { on := 4, ground := Go.Ground.data }], guard := none }) (v := ?_) rfl (by kernel_rfl) (by kernel_rfl) (by kernel_rfl) ⟨rfl, by kernel_rfl⟩ (fun _ _ _ h => hQ _ _ _ _ _ h) (Or.inl ⟨by rfl, ?hy⟩) HS.out ?_
        case hy => (intro w9 hSw; clear hSw; go_simp; try with_reducible rfl)
        try simp only [Act.put, List.setIfInBounds_toArray, List.set_cons_zero, List.set_cons_succ]
        refine lates_ready (rs := [7]) (by kernel_rfl) (by simp) ?_
        refine AllLate.cons (o := { dst := none, op := Go.Op.store 27 (Go.Operand.tmp 7) (Go.Operand.tmp 20), type := 0, pos := "tables.go:31", after := #[{ on := 6, ground := Go.Ground.data }, { on := 5, ground := Go.Ground.data }, { on := 0, ground := Go.Ground.phase }, { on := 1, ground := Go.Ground.phase }, { on := 2, ground := Go.Ground.phase }, { on := 3, ground := Go.Ground.phase }, { on := 4, ground := Go.Ground.phase }, { on := 5, ground := Go.Ground.phase }, { on := 6, ground := Go.Ground.phase }], guard := none }) rfl (fun K hK => ?_) ?_
        · obtain ⟨⟨r0, r1, r2⟩, r3, r4, r5⟩ := HZ
          go_simp
          refine hK.out _ _ (fun _ => trivial) ?_
          have HF1 : Hid (OwnS (((w2.setCell ⟨w4.heap.size, 0, none⟩ (.int .i64 (n : Int))).setCell ⟨w4.heap.size, 1, none⟩ (.slice (some ⟨w6.heap.size, 0, none⟩) n n)).setCell ⟨w4.heap.size, 2, none⟩ (.slice (some ⟨wd.heap.size, 0, none⟩) n n)) (w6.heap.size) n (fun _ => .slice none 0 0)) := ((HO1.other (by have := HSD.out; have := HS4.out; have := HS6.out; have := HS2.out; omega) _).other (by have := HSD.out; have := HS4.out; have := HS6.out; have := HS2.out; omega) _).other (by have := HSD.out; have := HS4.out; have := HS6.out; have := HS2.out; omega) _
          have HF2 : Hid (OwnS (((w2.setCell ⟨w4.heap.size, 0, none⟩ (.int .i64 (n : Int))).setCell ⟨w4.heap.size, 1, none⟩ (.slice (some ⟨w6.heap.size, 0, none⟩) n n)).setCell ⟨w4.heap.size, 2, none⟩ (.slice (some ⟨wd.heap.size, 0, none⟩) n n)) (wd.heap.size) n (fun _ => .slice none 0 0)) := ((HO2.other (by have := HSD.out; have := HS4.out; have := HS6.out; have := HS2.out; omega) _).other (by have := HSD.out; have := HS4.out; have := HS6.out; have := HS2.out; omega) _).other (by have := HSD.out; have := HS4.out; have := HS6.out; have := HS2.out; omega) _
          have HF3 : Hid (Bx (((w2.setCell ⟨w4.heap.size, 0, none⟩ (.int .i64 (n : Int))).setCell ⟨w4.heap.size, 1, none⟩ (.slice (some ⟨w6.heap.size, 0, none⟩) n n)).setCell ⟨w4.heap.size, 2, none⟩ (.slice (some ⟨wd.heap.size, 0, none⟩) n n)) (w4.heap.size) n (w6.heap.size) (wd.heap.size)) := Bx.new r0 r1 r2
          have HF4 : Hid (Below w.heap.size w (((w2.setCell ⟨w4.heap.size, 0, none⟩ (.int .i64 (n : Int))).setCell ⟨w4.heap.size, 1, none⟩ (.slice (some ⟨w6.heap.size, 0, none⟩) n n)).setCell ⟨w4.heap.size, 2, none⟩ (.slice (some ⟨wd.heap.size, 0, none⟩) n n))) := set3B HB (by have := HSD.out; have := HS4.out; have := HS6.out; have := HS2.out; omega)
          have HF5 : Hid ((w.heap.size ≤ w4.heap.size ∧ w.heap.size ≤ w6.heap.size ∧ w.heap.size ≤ wd.heap.size) ∧ (w4.heap.size ≠ w6.heap.size ∧ w4.heap.size ≠ wd.heap.size ∧ w6.heap.size ≠ wd.heap.size) ∧ w4.heap.size < (((w2.setCell ⟨w4.heap.size, 0, none⟩ (.int .i64 (n : Int))).setCell ⟨w4.heap.size, 1, none⟩ (.slice (some ⟨w6.heap.size, 0, none⟩) n n)).setCell ⟨w4.heap.size, 2, none⟩ (.slice (some ⟨wd.heap.size, 0, none⟩) n n)).heap.size ∧ w6.heap.size < (((w2.setCell ⟨w4.heap.size, 0, none⟩ (.int .i64 (n : Int))).setCell ⟨w4.heap.size, 1, none⟩ (.slice (some ⟨w6.heap.size, 0, none⟩) n n)).setCell ⟨w4.heap.size, 2, none⟩ (.slice (some ⟨wd.heap.size, 0, none⟩) n n)).heap.size ∧ wd.heap.size < (((w2.setCell ⟨w4.heap.size, 0, none⟩ (.int .i64 (n : Int))).setCell ⟨w4.heap.size, 1, none⟩ (.slice (some ⟨w6.heap.size, 0, none⟩) n n)).setCell ⟨w4.heap.size, 2, none⟩ (.slice (some ⟨wd.heap.size, 0, none⟩) n n)).heap.size) := by
            have hw : (((w2.setCell ⟨w4.heap.size, 0, none⟩ (.int .i64 (n : Int))).setCell ⟨w4.heap.size, 1, none⟩ (.slice (some ⟨w6.heap.size, 0, none⟩) n n)).setCell ⟨w4.heap.size, 2, none⟩ (.slice (some ⟨wd.heap.size, 0, none⟩) n n)).heap.size = w2.heap.size := by simp
            rw [Hid, hw]
            have := HSD.out; have := HS4.out; have := HS6.out; have := HS2.out; refine ⟨⟨?_, ?_, ?_⟩, ⟨?_, ?_, ?_⟩, ?_, ?_, ?_⟩ <;> omega
          clear hK K HB HO1 HO2
          try simp only [Act.put, List.setIfInBounds_toArray, List.set_cons_zero, List.set_cons_succ]
          refine lates_done (by kernel_rfl) ?_ _
          try simp only [Act.put, List.setIfInBounds_toArray, List.set_cons_zero, List.set_cons_succ]
          exact hk _ _ _ _ HF1.out HF2.out HF3.out HF4.out HF5.out _ _ _ _ _ _
        exact AllLate.nil
      exact AllLate.nil
    exact AllLate.nil
  refine AllLate.cons (o := { dst := some 7, op := Go.Op.alloc 27, type := 0, pos := "tables.go:31", after := #[], guard := none }) rfl (fun K hK => ?_) ?_
  · go_simp
    refine hK.out _ _ (fun _ => trivial) ?_
    obtain ⟨w6, h6⟩ : ∃ w6, Hid (w6 = wd.alloc (.cells #[.int .i64 0, .slice none 0 0, .slice none 0 0] 27)) := ⟨_, rfl⟩
    rw [← h6.out]
    have hz6 : ZL w6 wd.heap.size := by rw [h6.out]; exact ZL.new _
    have hb6 : Below wd.heap.size wd w6 := by rw [h6.out]; exact (Below.refl _ _).alloc (Nat.le_refl _) _
    have HS6 : Hid (w6.heap.size = wd.heap.size + 1) := by rw [Hid, h6.out]; simp
    clear h6
    have HB := Below.then HB hb6
    have HZ := hz6
    clear hz6 hb6
    clear hK K
    try simp only [Act.put, List.setIfInBounds_toArray, List.set_cons_zero, List.set_cons_succ]
    refine lates_ready (rs := [2, 4]) (by kernel_rfl) (by simp) ?_
    refine AllLate.cons (o := { dst := some 17, op := Go.Op.makeSlice 25 (Go.Operand.tmp 16) (Go.Operand.tmp 16), type := 25, pos := "tables.go:31", after := #[{ on := 1, ground := Go.Ground.data }, { on := 1, ground := Go.Ground.data }], guard := none }) rfl (fun K hK => ?_) ?_
    · rw [if_pos (by rfl)]
      refine wp_makeT w6 _ _ rfl n rfl rfl (by omega) ?_
      intro w2 ho2 hb2 hs2
      refine hK.out _ _ (fun _ => trivial) ?_
      have HS2 : Hid (w2.heap.size = w6.heap.size + 1) := hs2
      clear hs2
      have HZ := HZ.step hb2
      have HB := Below.then HB hb2
      have HO1 := ho2
      clear ho2 hb2
      clear hK K
      try simp only [Act.put, List.setIfInBounds_toArray, List.set_cons_zero, List.set_cons_succ]
      refine lates_ready (rs := [4]) (by kernel_rfl) (by simp) ?_
      refine AllLate.cons (o := { dst := some 19, op := Go.Op.makeSlice 25 (Go.Operand.tmp 18) (Go.Operand.tmp 18), type := 25, pos := "tables.go:31", after := #[{ on := 3, ground := Go.Ground.data }, { on := 3, ground := Go.Ground.data }], guard := none }) rfl (fun K hK => ?_) ?_
      · rw [if_pos (by rfl)]
        refine wp_makeT w2 _ _ rfl n rfl rfl (by omega) ?_
        intro w4 ho4 hb4 hs4
        refine hK.out _ _ (fun _ => trivial) ?_
        have HS4 : Hid (w4.heap.size = w2.heap.size + 1) := hs4
        clear hs4
        have HZ := HZ.step hb4
        have HO1 := HO1.keep hb4 (by have := HSD.out; have := HS6.out; have := HS2.out; have := HS4.out; omega)
        have HB := Below.then HB hb4
        have HO2 := ho4
        clear ho4 hb4
        clear hK K
        try simp only [Act.put, List.setIfInBounds_toArray, List.set_cons_zero, List.set_cons_succ]
        refine lates_take (i := 5) (oi := { dst := some 20, op := Go.Op.build 27 #[(0, Go.Operand.tmp 15), (1, Go.Operand.tmp 17), (2, Go.Operand.tmp 19)], type := 27, pos := "tables.go:31", after := #[{ on := 0, ground := Go.Ground.data }, { on := 2, ground := Go.Ground.data }, { on := 4, ground := Go.Ground.data }], guard := none }) (v := ?_) rfl (by kernel_rfl) (by kernel_rfl) (by kernel_rfl) ⟨rfl, by kernel_rfl⟩ (fun _ _ _ h => hQ _ _ _ _ _ h) (Or.inl ⟨by rfl, ?hy⟩) HS.out ?_
        case hy => (intro w9 hSw; clear hSw; go_simp; try with_reducible rfl)
        try simp only [Act.put, List.setIfInBounds_toArray, List.set_cons_zero, List.set_cons_succ]
        refine lates_ready (rs := [7]) (by kernel_rfl) (by simp) ?_
        refine AllLate.cons (o := { dst := none, op := Go.Op.store 27 (Go.Operand.tmp 7) (Go.Operand.tmp 20), type := 0, pos := "tables.go:31", after := #[{ on := 6, ground := Go.Ground.data }, { on := 5, ground := Go.Ground.data }, { on := 0, ground := Go.Ground.phase }, { on := 1, ground := Go.Ground.phase }, { on := 2, ground := Go.Ground.phase }, { on := 3, ground := Go.Ground.phase }, { on := 4, ground := Go.Ground.phase }, { on := 5, ground := Go.Ground.phase }, { on := 6, ground := Go.Ground.phase }], guard := none }) rfl (fun K hK => ?_) ?_
        · obtain ⟨⟨r0, r1, r2⟩, r3, r4, r5⟩ := HZ
          go_simp
          refine hK.out _ _ (fun _ => trivial) ?_
          have HF1 : Hid (OwnS (((w4.setCell ⟨wd.heap.size, 0, none⟩ (.int .i64 (n : Int))).setCell ⟨wd.heap.size, 1, none⟩ (.slice (some ⟨w6.heap.size, 0, none⟩) n n)).setCell ⟨wd.heap.size, 2, none⟩ (.slice (some ⟨w2.heap.size, 0, none⟩) n n)) (w6.heap.size) n (fun _ => .slice none 0 0)) := ((HO1.other (by have := HSD.out; have := HS6.out; have := HS2.out; have := HS4.out; omega) _).other (by have := HSD.out; have := HS6.out; have := HS2.out; have := HS4.out; omega) _).other (by have := HSD.out; have := HS6.out; have := HS2.out; have := HS4.out; omega) _
          have HF2 : Hid (OwnS (((w4.setCell ⟨wd.heap.size, 0, none⟩ (.int .i64 (n : Int))).setCell ⟨wd.heap.size, 1, none⟩ (.slice (some ⟨w6.heap.size, 0, none⟩) n n)).setCell ⟨wd.heap.size, 2, none⟩ (.slice (some ⟨w2.heap.size, 0, none⟩) n n)) (w2.heap.size) n (fun _ => .slice none 0 0)) := ((HO2.other (by have := HSD.out; have := HS6.out; have := HS2.out; have := HS4.out; omega) _).other (by have := HSD.out; have := HS6.out; have := HS2.out; have := HS4.out; omega) _).other (by have := HSD.out; have := HS6.out; have := HS2.out; have := HS4.out; omega) _
          have HF3 : Hid (Bx (((w4.setCell ⟨wd.heap.size, 0, none⟩ (.int .i64 (n : Int))).setCell ⟨wd.heap.size, 1, none⟩ (.slice (some ⟨w6.heap.size, 0, none⟩) n n)).setCell ⟨wd.heap.size, 2, none⟩ (.slice (some ⟨w2.heap.size, 0, none⟩) n n)) (wd.heap.size) n (w6.heap.size) (w2.heap.size)) := Bx.new r0 r1 r2
          have HF4 : Hid (Below w.heap.size w (((w4.setCell ⟨wd.heap.size, 0, none⟩ (.int .i64 (n : Int))).setCell ⟨wd.heap.size, 1, none⟩ (.slice (some ⟨w6.heap.size, 0, none⟩) n n)).setCell ⟨wd.heap.size, 2, none⟩ (.slice (some ⟨w2.heap.size, 0, none⟩) n n))) := set3B HB (by have := HSD.out; have := HS6.out; have := HS2.out; have := HS4.out; omega)
          have HF5 : Hid ((w.heap.size ≤ wd.heap.size ∧ w.heap.size ≤ w6.heap.size ∧ w.heap.size ≤ w2.heap.size) ∧ (wd.heap.size ≠ w6.heap.size ∧ wd.heap.size ≠ w2.heap.size ∧ w6.heap.size ≠ w2.heap.size) ∧ wd.heap.size < (((w4.setCell ⟨wd.heap.size, 0, none⟩ (.int .i64 (n : Int))).setCell ⟨wd.heap.size, 1, none⟩ (.slice (some ⟨w6.heap.size, 0, none⟩) n n)).setCell ⟨wd.heap.size, 2, none⟩ (.slice (some ⟨w2.heap.size, 0, none⟩) n n)).heap.size ∧ w6.heap.size < (((w4.setCell ⟨wd.heap.size, 0, none⟩ (.int .i64 (n : Int))).setCell ⟨wd.heap.size, 1, none⟩ (.slice (some ⟨w6.heap.size, 0, none⟩) n n)).setCell ⟨wd.heap.size, 2, none⟩ (.slice (some ⟨w2.heap.size, 0, none⟩) n n)).heap.size ∧ w2.heap.size < (((w4.setCell ⟨wd.heap.size, 0, none⟩ (.int .i64 (n : Int))).setCell ⟨wd.heap.size, 1, none⟩ (.slice (some ⟨w6.heap.size, 0, none⟩) n n)).setCell ⟨wd.heap.size, 2, none⟩ (.slice (some ⟨w2.heap.size, 0, none⟩) n n)).heap.size) := by
            have hw : (((w4.setCell ⟨wd.heap.size, 0, none⟩ (.int .i64 (n : Int))).setCell ⟨wd.heap.size, 1, none⟩ (.slice (some ⟨w6.heap.size, 0, none⟩) n n)).setCell ⟨wd.heap.size, 2, none⟩ (.slice (some ⟨w2.heap.size, 0, none⟩) n n)).heap.size = w4.heap.size := by simp
            rw [Hid, hw]
            have := HSD.out; have := HS6.out; have := HS2.out; have := HS4.out; refine ⟨⟨?_, ?_, ?_⟩, ⟨?_, ?_, ?_⟩, ?_, ?_, ?_⟩ <;> omega
          clear hK K HB HO1 HO2
          try simp only [Act.put, List.setIfInBounds_toArray, List.set_cons_zero, List.set_cons_succ]
          refine lates_done (by kernel_rfl) ?_ _
          try simp only [Act.put, List.setIfInBounds_toArray, List.set_cons_zero, List.set_cons_succ]
          exact hk _ _ _ _ HF1.out HF2.out HF3.out HF4.out HF5.out _ _ _ _ _ _
        exact AllLate.nil
      exact AllLate.nil
    refine AllLate.cons (o := { dst := some 19, op := Go.Op.makeSlice 25 (Go.Operand.tmp 18) (Go.Operand.tmp 18), type := 25, pos := "tables.go:31", after := #[{ on := 3, ground := Go.Ground.data }, { on := 3, ground := Go.Ground.data }], guard := none }) rfl (fun K hK => ?_) ?_
    · rw [if_pos (by rfl)]
      refine wp_makeT w6 _ _ rfl n rfl rfl (by omega) ?_
      intro w4 ho4 hb4 hs4
      refine hK.out _ _ (fun _ => trivial) ?_
      have HS4 : Hid (w4.heap.size = w6.heap.size + 1) := hs4
      clear hs4
      have HZ := HZ.step hb4
      have HB := Below.then HB hb4
      have HO2 := ho4
      clear ho4 hb4
      clear hK K
      try simp only [Act.put, List.setIfInBounds_toArray, List.set_cons_zero, List.set_cons_succ]
      refine lates_ready (rs := [2]) (by kernel_rfl) (by simp) ?_
      refine AllLate.cons (o := { dst := some 17, op := Go.Op.makeSlice 25 (Go.Operand.tmp 16) (Go.Operand.tmp 16), type := 25, pos := "tables.go:31", after := #[{ on := 1, ground := Go.Ground.data }, { on := 1, ground := Go.Ground.data }], guard := none }) rfl (fun K hK => ?_) ?_
      · rw [if_pos (by rfl)]
        refine wp_makeT w4 _ _ rfl n rfl rfl (by omega) ?_
        intro w2 ho2 hb2 hs2
        refine hK.out _ _ (fun _ => trivial) ?_
        have HS2 : Hid (w2.heap.size = w4.heap.size + 1) := hs2
        clear hs2
        have HZ := HZ.step hb2
        have HO2 := HO2.keep hb2 (by have := HSD.out; have := HS6.out; have := HS4.out; have := HS2.out; omega)
        have HB := Below.then HB hb2
        have HO1 := ho2
        clear ho2 hb2
        clear hK K
        try simp only [Act.put, List.setIfInBounds_toArray, List.set_cons_zero, List.set_cons_succ]
        refine lates_take (i := 5) (oi := { dst := some 20, op := Go.Op.build 27 #[(0, Go.Operand.tmp 15), (1, Go.Operand.tmp 17), (2, Go.Operand.tmp 19)], type := 27, pos := "tables.go:31", after := #[{ on := 0, ground := Go.Ground.data }, { on := 2, ground := Go.Ground.data }, { on := 4, ground := Go.Ground.data }], guard := none }) (v := ?_) rfl (by kernel_rfl) (by kernel_rfl) (by kernel_rfl) ⟨rfl, by kernel_rfl⟩ (fun _ _ _ h => hQ _ _ _ _ _ h) (Or.inl ⟨by rfl, ?hy⟩) HS.out ?_
        case hy => (intro w9 hSw; clear hSw; go_simp; try with_reducible rfl)
        try simp only [Act.put, List.setIfInBounds_toArray, List.set_cons_zero, List.set_cons_succ]
        refine lates_ready (rs := [7]) (by kernel_rfl) (by simp) ?_
        refine AllLate.cons (o := { dst := none, op := Go.Op.store 27 (Go.Operand.tmp 7) (Go.Operand.tmp 20), type := 0, pos := "tables.go:31", after := #[{ on := 6, ground := Go.Ground.data }, { on := 5, ground := Go.Ground.data }, { on := 0, ground := Go.Ground.phase }, { on := 1, ground := Go.Ground.phase }, { on := 2, ground := Go.Ground.phase }, { on := 3, ground := Go.Ground.phase }, { on := 4, ground := Go.Ground.phase }, { on := 5, ground := Go.Ground.phase }, { on := 6, ground := Go.Ground.phase }], guard := none }) rfl (fun K hK => ?_) ?_
        · obtain ⟨⟨r0, r1, r2⟩, r3, r4, r5⟩ := HZ
          go_simp
          refine hK.out _ _ (fun _ => trivial) ?_
          have HF1 : Hid (OwnS (((w2.setCell ⟨wd.heap.size, 0, none⟩ (.int .i64 (n : Int))).setCell ⟨wd.heap.size, 1, none⟩ (.slice (some ⟨w4.heap.size, 0, none⟩) n n)).setCell ⟨wd.heap.size, 2, none⟩ (.slice (some ⟨w6.heap.size, 0, none⟩) n n)) (w4.heap.size) n (fun _ => .slice none 0 0)) := ((HO1.other (by have := HSD.out; have := HS6.out; have := HS4.out; have := HS2.out; omega) _).other (by have := HSD.out; have := HS6.out; have := HS4.out; have := HS2.out; omega) _).other (by have := HSD.out; have := HS6.out; have := HS4.out; have := HS2.out; omega) _
          have HF2 : Hid (OwnS (((w2.setCell ⟨wd.heap.size, 0, none⟩ (.int .i64 (n : Int))).setCell ⟨wd.heap.size, 1, none⟩ (.slice (some ⟨w4.heap.size, 0, none⟩) n n)).setCell ⟨wd.heap.size, 2, none⟩ (.slice (some ⟨w6.heap.size, 0, none⟩) n n)) (w6.heap.size) n (fun _ => .slice none 0 0)) := ((HO2.other (by have := HSD.out; have := HS6.out; have := HS4.out; have := HS2.out; omega) _).other (by have := HSD.out; have := HS6.out; have := HS4.out; have := HS2.out; omega) _).other (by have := HSD.out; have := HS6.out; have := HS4.out; have := HS2.out; omega) _
          have HF3 : Hid (Bx (((w2.setCell ⟨wd.heap.size, 0, none⟩ (.int .i64 (n : Int))).setCell ⟨wd.heap.size, 1, none⟩ (.slice (some ⟨w4.heap.size, 0, none⟩) n n)).setCell ⟨wd.heap.size, 2, none⟩ (.slice (some ⟨w6.heap.size, 0, none⟩) n n)) (wd.heap.size) n (w4.heap.size) (w6.heap.size)) := Bx.new r0 r1 r2
          have HF4 : Hid (Below w.heap.size w (((w2.setCell ⟨wd.heap.size, 0, none⟩ (.int .i64 (n : Int))).setCell ⟨wd.heap.size, 1, none⟩ (.slice (some ⟨w4.heap.size, 0, none⟩) n n)).setCell ⟨wd.heap.size, 2, none⟩ (.slice (some ⟨w6.heap.size, 0, none⟩) n n))) := set3B HB (by have := HSD.out; have := HS6.out; have := HS4.out; have := HS2.out; omega)
          have HF5 : Hid ((w.heap.size ≤ wd.heap.size ∧ w.heap.size ≤ w4.heap.size ∧ w.heap.size ≤ w6.heap.size) ∧ (wd.heap.size ≠ w4.heap.size ∧ wd.heap.size ≠ w6.heap.size ∧ w4.heap.size ≠ w6.heap.size) ∧ wd.heap.size < (((w2.setCell ⟨wd.heap.size, 0, none⟩ (.int .i64 (n : Int))).setCell ⟨wd.heap.size, 1, none⟩ (.slice (some ⟨w4.heap.size, 0, none⟩) n n)).setCell ⟨wd.heap.size, 2, none⟩ (.slice (some ⟨w6.heap.size, 0, none⟩) n n)).heap.size ∧ w4.heap.size < (((w2.setCell ⟨wd.heap.size, 0, none⟩ (.int .i64 (n : Int))).setCell ⟨wd.heap.size, 1, none⟩ (.slice (some ⟨w4.heap.size, 0, none⟩) n n)).setCell ⟨wd.heap.size, 2, none⟩ (.slice (some ⟨w6.heap.size, 0, none⟩) n n)).heap.size ∧ w6.heap.size < (((w2.setCell ⟨wd.heap.size, 0, none⟩ (.int .i64 (n : Int))).setCell ⟨wd.heap.size, 1, none⟩ (.slice (some ⟨w4.heap.size, 0, none⟩) n n)).setCell ⟨wd.heap.size, 2, none⟩ (.slice (some ⟨w6.heap.size, 0, none⟩) n n)).heap.size) := by
            have hw : (((w2.setCell ⟨wd.heap.size, 0, none⟩ (.int .i64 (n : Int))).setCell ⟨wd.heap.size, 1, none⟩ (.slice (some ⟨w4.heap.size, 0, none⟩) n n)).setCell ⟨wd.heap.size, 2, none⟩ (.slice (some ⟨w6.heap.size, 0, none⟩) n n)).heap.size = w2.heap.size := by simp
            rw [Hid, hw]
            have := HSD.out; have := HS6.out; have := HS4.out; have := HS2.out; refine ⟨⟨?_, ?_, ?_⟩, ⟨?_, ?_, ?_⟩, ?_, ?_, ?_⟩ <;> omega
          clear hK K HB HO1 HO2
          try simp only [Act.put, List.setIfInBounds_toArray, List.set_cons_zero, List.set_cons_succ]
          refine lates_done (by kernel_rfl) ?_ _
          try simp only [Act.put, List.setIfInBounds_toArray, List.set_cons_zero, List.set_cons_succ]
          exact hk _ _ _ _ HF1.out HF2.out HF3.out HF4.out HF5.out _ _ _ _ _ _
        exact AllLate.nil
      exact AllLate.nil
    exact AllLate.nil
  exact AllLate.nil
end Go.Proofs.YthhnngmfbbljaaaGreat
