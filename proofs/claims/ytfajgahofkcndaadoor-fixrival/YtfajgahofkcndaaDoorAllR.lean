/-
  The drawn region of allMonotone's closure that lays the two closures on the orders: in whatever order. No condition.
-/
import Derived.Deep.RegionHeld3
import Derived.Laws.EntriesVeiled
import Derived.Test.YtfajgahofkcndaaDoorLateT
import Derived.Test.YtfajgahofkcndaaDoorInOrd
namespace Go.Proofs.YtfajgahofkcndaaDoor
open Go.RowKit

def allOps : Array Oper :=
  #[{ dst := some 7, op := Go.Op.load 24 (Go.Operand.tmp 1), type := 24, pos := "maps.go:37", after := #[], guard := none },
    { dst := some 8, op := Go.Op.call { callee := Go.Callee.value (Go.Operand.func 28), args := #[Go.Operand.tmp 7], argTypes := #[24] }, type := 57, pos := "maps.go:37", after := #[{ on := 0, ground := Go.Ground.data }], guard := none },
    { dst := some 9, op := Go.Op.load 24 (Go.Operand.tmp 2), type := 24, pos := "maps.go:37", after := #[], guard := none },
    { dst := some 10, op := Go.Op.call { callee := Go.Callee.value (Go.Operand.func 28), args := #[Go.Operand.tmp 9], argTypes := #[24] }, type := 57, pos := "maps.go:37", after := #[{ on := 2, ground := Go.Ground.data }, { on := 1, ground := Go.Ground.chain }], guard := none },
    { dst := some 4, op := Go.Op.alloc 57, type := 0, pos := "maps.go:37", after := #[], guard := none },
    { dst := some 5, op := Go.Op.alloc 57, type := 0, pos := "maps.go:37", after := #[], guard := none },
    { dst := none, op := Go.Op.store 57 (Go.Operand.tmp 4) (Go.Operand.tmp 8), type := 0, pos := "maps.go:37", after := #[{ on := 4, ground := Go.Ground.data }, { on := 1, ground := Go.Ground.data }, { on := 3, ground := Go.Ground.chain }, { on := 0, ground := Go.Ground.phase }, { on := 1, ground := Go.Ground.phase }, { on := 2, ground := Go.Ground.textOnly Go.Departure.lateStores }, { on := 3, ground := Go.Ground.textOnly Go.Departure.lateStoresUnsure }, { on := 4, ground := Go.Ground.phase }, { on := 5, ground := Go.Ground.phase }], guard := none },
    { dst := none, op := Go.Op.store 57 (Go.Operand.tmp 5) (Go.Operand.tmp 10), type := 0, pos := "maps.go:37", after := #[{ on := 5, ground := Go.Ground.data }, { on := 3, ground := Go.Ground.data }, { on := 6, ground := Go.Ground.chain }, { on := 0, ground := Go.Ground.phase }, { on := 1, ground := Go.Ground.phase }, { on := 2, ground := Go.Ground.phase }, { on := 3, ground := Go.Ground.phase }, { on := 4, ground := Go.Ground.phase }, { on := 5, ground := Go.Ground.phase }, { on := 6, ground := Go.Ground.phase }], guard := none }]
theorem drew_cell (w : World) (p : Addr) : w.drew.cell? p = w.cell? p := rfl
/-- What lies there behind it. -/
def Laid1 (W w' : World) (na nb : Int) (aa ab : Option Addr) (la ca lb cb o1 o2 f t : Nat) : Prop :=
  Below W.heap.size W w' ∧ (W.heap.size ≤ o1 ∧ W.heap.size ≤ o2 ∧ W.heap.size ≤ f ∧ W.heap.size ≤ t) ∧
  w'.cell? ⟨o1, 0, none⟩ = some (.int .i64 na) ∧ w'.cell? ⟨o1, 1, none⟩ = some (.slice aa la ca) ∧ w'.cell? ⟨o2, 0, none⟩ = some (.int .i64 nb) ∧ w'.cell? ⟨o2, 1, none⟩ = some (.slice ab lb cb) ∧
  w'.cell? ⟨f, 0, none⟩ = some (.func (.func 40) #[] #[.pointer (some ⟨o1, 0, none⟩)]) ∧ w'.cell? ⟨t, 0, none⟩ = some (.func (.func 40) #[] #[.pointer (some ⟨o2, 0, none⟩)])
set_option maxHeartbeats 8000000 in
set_option maxRecDepth 100000 in
theorem allReg {W : World} {A Bb la ca lb cb : Nat} {aa ab : Option Addr} {na nb : Int} {yv u3 u6 u11 u12 u13 u14 u15 u16 : Value} {u4 u5 u7 u8 u9 u10 : Value} {Q : Exit → Act → World → Prop}
    (a0 : ∀ w', Below W.heap.size W w' → w'.cell? ⟨A, 0, none⟩ = some (.int .i64 na)) (a1 : ∀ w', Below W.heap.size W w' → w'.cell? ⟨A, 1, none⟩ = some (.slice aa la ca))
    (b0 : ∀ w', Below W.heap.size W w' → w'.cell? ⟨Bb, 0, none⟩ = some (.int .i64 nb)) (b1 : ∀ w', Below W.heap.size W w' → w'.cell? ⟨Bb, 1, none⟩ = some (.slice ab lb cb))
    (hQ : ∀ c a w (d : Nat) v, Q (.panic c) (a.put (some d) v) w → Q (.panic c) a w) (hk : ∀ w' o1 o2 f t, Laid1 W w' na nb aa ab la ca lb cb o1 o2 f t → Q .normal { tmps := #[yv, .pointer (some ⟨A, 0, none⟩), .pointer (some ⟨Bb, 0, none⟩), u3, .pointer (some ⟨f, 0, none⟩), .pointer (some ⟨t, 0, none⟩), u6, .agg #[.int .i64 na, .slice aa la ca], .func (.func 40) #[] #[.pointer (some ⟨o1, 0, none⟩)], .agg #[.int .i64 nb, .slice ab lb cb], .func (.func 40) #[] #[.pointer (some ⟨o2, 0, none⟩)], u11, u12, u13, u14, u15, u16], defers := [] } w') :
    (Code.region 1 allOps true).wp Tryd.prog Q { tmps := #[yv, .pointer (some ⟨A, 0, none⟩), .pointer (some ⟨Bb, 0, none⟩), u3, u4, u5, u6, u7, u8, u9, u10, u11, u12, u13, u14, u15, u16], defers := [] } W := by
  unfold allOps
  refine wp_lates (S := (fun w' => Below W.heap.size W w')) (late := (fun i => i == 6 || i == 7)) (by kernel_rfl) ?_
  have HS : Hid (Below W.heap.size W W.drew) := (Below.refl _ _).drew
  refine lates_take (i := 0) (oi := { dst := some 7, op := Go.Op.load 24 (Go.Operand.tmp 1), type := 24, pos := "maps.go:37", after := #[], guard := none }) (v := ?_) rfl (by kernel_rfl) (by kernel_rfl) (by kernel_rfl) ⟨rfl, by kernel_rfl⟩ (fun _ _ _ h => hQ _ _ _ _ _ h) (Or.inl ⟨by rfl, ?hy⟩) HS.out ?_
  case hy => (intro w9 hSw; (have e0 := a0 _ hSw); (have e1 := a1 _ hSw); (have e2 := b0 _ hSw); (have e3 := b1 _ hSw); go_simp; try with_reducible rfl)
  try simp only [Act.put, List.setIfInBounds_toArray, List.set_cons_zero, List.set_cons_succ]
  refine lates_take2 (i := 2) (oi := { dst := some 9, op := Go.Op.load 24 (Go.Operand.tmp 2), type := 24, pos := "maps.go:37", after := #[], guard := none }) (v := ?_) (m := 3) (om := { dst := some 10, op := Go.Op.call { callee := Go.Callee.value (Go.Operand.func 28), args := #[Go.Operand.tmp 9], argTypes := #[24] }, type := 57, pos := "maps.go:37", after := #[{ on := 2, ground := Go.Ground.data }, { on := 1, ground := Go.Ground.chain }], guard := none }) rfl rfl (by kernel_rfl) (by kernel_rfl) (by kernel_rfl) (by kernel_rfl) (by kernel_rfl) (by kernel_rfl) (fun _ _ _ h => hQ _ _ _ _ _ h) (Or.inl ⟨by rfl, ?hy⟩) HS.out ?_
  case hy => (intro w9 hSw; (have e0 := a0 _ hSw); (have e1 := a1 _ hSw); (have e2 := b0 _ hSw); (have e3 := b1 _ hSw); go_simp; try with_reducible rfl)
  try simp only [Act.put, List.setIfInBounds_toArray, List.set_cons_zero, List.set_cons_succ]
  refine lates_ready (rs := [1, 4, 5]) (by kernel_rfl) (by simp) ?_
  refine AllLate.cons (o := { dst := some 8, op := Go.Op.call { callee := Go.Callee.value (Go.Operand.func 28), args := #[Go.Operand.tmp 7], argTypes := #[24] }, type := 57, pos := "maps.go:37", after := #[{ on := 0, ground := Go.Ground.data }], guard := none }) rfl (fun K hK => ?_) ?_
  · go_simp
    refine (inOrder_any na aa la ca _).mono ?_
    rintro e w1 ⟨rfl, rfl⟩
    refine hK.out _ _ (fun _ => ?_) ?_
    · exact HS.out.alloc (by simp; try omega) _
    have HS := (show Hid (Below W.heap.size W _) from HS.out.alloc (by simp; try omega) (.cells #[.int .i64 na, .slice aa la ca] 24))
    clear hK K
    try simp only [Act.put, List.setIfInBounds_toArray, List.set_cons_zero, List.set_cons_succ]
    refine lates_ready (rs := [3, 4, 5]) (by kernel_rfl) (by simp) ?_
    refine AllLate.cons (o := { dst := some 10, op := Go.Op.call { callee := Go.Callee.value (Go.Operand.func 28), args := #[Go.Operand.tmp 9], argTypes := #[24] }, type := 57, pos := "maps.go:37", after := #[{ on := 2, ground := Go.Ground.data }, { on := 1, ground := Go.Ground.chain }], guard := none }) rfl (fun K hK => ?_) ?_
    · go_simp
      refine (inOrder_any nb ab lb cb _).mono ?_
      rintro e w1 ⟨rfl, rfl⟩
      refine hK.out _ _ (fun _ => ?_) ?_
      · exact HS.out.alloc (by simp; try omega) _
      have HS := (show Hid (Below W.heap.size W _) from HS.out.alloc (by simp; try omega) (.cells #[.int .i64 nb, .slice ab lb cb] 24))
      clear hK K
      try simp only [Act.put, List.setIfInBounds_toArray, List.set_cons_zero, List.set_cons_succ]
      refine lates_ready (rs := [4, 5]) (by kernel_rfl) (by simp) ?_
      refine AllLate.cons (o := { dst := some 4, op := Go.Op.alloc 57, type := 0, pos := "maps.go:37", after := #[], guard := none }) rfl (fun K hK => ?_) ?_
      · go_simp

        refine hK.out _ _ (fun _ => ?_) ?_
        · exact HS.out.alloc (by simp; try omega) _
        have HS := (show Hid (Below W.heap.size W _) from HS.out.alloc (by simp; try omega) (.cells #[.nilFunc] 57))
        clear hK K
        try simp only [Act.put, List.setIfInBounds_toArray, List.set_cons_zero, List.set_cons_succ]
        refine lates_ready (rs := [5]) (by kernel_rfl) (by simp) ?_
        refine AllLate.cons (o := { dst := some 5, op := Go.Op.alloc 57, type := 0, pos := "maps.go:37", after := #[], guard := none }) rfl (fun K hK => ?_) ?_
        · go_simp

          refine hK.out _ _ (fun _ => ?_) ?_
          · exact HS.out.alloc (by simp; try omega) _
          have HS := (show Hid (Below W.heap.size W _) from HS.out.alloc (by simp; try omega) (.cells #[.nilFunc] 57))
          clear hK K
          try simp only [Act.put, List.setIfInBounds_toArray, List.set_cons_zero, List.set_cons_succ]
          refine lates_ready (rs := [6]) (by kernel_rfl) (by simp) ?_
          refine AllLate.cons (o := { dst := none, op := Go.Op.store 57 (Go.Operand.tmp 4) (Go.Operand.tmp 8), type := 0, pos := "maps.go:37", after := #[{ on := 4, ground := Go.Ground.data }, { on := 1, ground := Go.Ground.data }, { on := 3, ground := Go.Ground.chain }, { on := 0, ground := Go.Ground.phase }, { on := 1, ground := Go.Ground.phase }, { on := 2, ground := Go.Ground.textOnly Go.Departure.lateStores }, { on := 3, ground := Go.Ground.textOnly Go.Departure.lateStoresUnsure }, { on := 4, ground := Go.Ground.phase }, { on := 5, ground := Go.Ground.phase }], guard := none }) rfl (fun K hK => ?_) ?_
          · go_simp

            refine hK.out _ _ (fun h => by cases h) ?_
            clear hK K
            try simp only [Act.put, List.setIfInBounds_toArray, List.set_cons_zero, List.set_cons_succ]
            refine lates_ready (rs := [7]) (by kernel_rfl) (by simp) ?_
            refine AllLate.cons (o := { dst := none, op := Go.Op.store 57 (Go.Operand.tmp 5) (Go.Operand.tmp 10), type := 0, pos := "maps.go:37", after := #[{ on := 5, ground := Go.Ground.data }, { on := 3, ground := Go.Ground.data }, { on := 6, ground := Go.Ground.chain }, { on := 0, ground := Go.Ground.phase }, { on := 1, ground := Go.Ground.phase }, { on := 2, ground := Go.Ground.phase }, { on := 3, ground := Go.Ground.phase }, { on := 4, ground := Go.Ground.phase }, { on := 5, ground := Go.Ground.phase }, { on := 6, ground := Go.Ground.phase }], guard := none }) rfl (fun K hK => ?_) ?_
            · go_simp

              refine hK.out _ _ (fun h => by cases h) ?_
              clear hK K
              try simp only [Act.put, List.setIfInBounds_toArray, List.set_cons_zero, List.set_cons_succ]
              refine lates_done (by kernel_rfl) ?_ _
              try simp only [Act.put, List.setIfInBounds_toArray, List.set_cons_zero, List.set_cons_succ]
              refine hk _ _ _ _ _ ⟨Below.drew (Below.alloc (Below.alloc (Below.alloc (Below.alloc (Below.refl _ _) (by simp) _) (by simp; try omega) _) (by simp; try omega) _) (by simp; try omega) _), ⟨?_, ?_, ?_, ?_⟩, ?_, ?_, ?_, ?_, ?_, ?_⟩ <;> first | (rw [drew_cell]; simp [go_sem]; done) | (simp; done) | (simp; omega) | omega
            exact AllLate.nil
          exact AllLate.nil
        exact AllLate.nil
      refine AllLate.cons (o := { dst := some 5, op := Go.Op.alloc 57, type := 0, pos := "maps.go:37", after := #[], guard := none }) rfl (fun K hK => ?_) ?_
      · go_simp

        refine hK.out _ _ (fun _ => ?_) ?_
        · exact HS.out.alloc (by simp; try omega) _
        have HS := (show Hid (Below W.heap.size W _) from HS.out.alloc (by simp; try omega) (.cells #[.nilFunc] 57))
        clear hK K
        try simp only [Act.put, List.setIfInBounds_toArray, List.set_cons_zero, List.set_cons_succ]
        refine lates_ready (rs := [4]) (by kernel_rfl) (by simp) ?_
        refine AllLate.cons (o := { dst := some 4, op := Go.Op.alloc 57, type := 0, pos := "maps.go:37", after := #[], guard := none }) rfl (fun K hK => ?_) ?_
        · go_simp

          refine hK.out _ _ (fun _ => ?_) ?_
          · exact HS.out.alloc (by simp; try omega) _
          have HS := (show Hid (Below W.heap.size W _) from HS.out.alloc (by simp; try omega) (.cells #[.nilFunc] 57))
          clear hK K
          try simp only [Act.put, List.setIfInBounds_toArray, List.set_cons_zero, List.set_cons_succ]
          refine lates_ready (rs := [6]) (by kernel_rfl) (by simp) ?_
          refine AllLate.cons (o := { dst := none, op := Go.Op.store 57 (Go.Operand.tmp 4) (Go.Operand.tmp 8), type := 0, pos := "maps.go:37", after := #[{ on := 4, ground := Go.Ground.data }, { on := 1, ground := Go.Ground.data }, { on := 3, ground := Go.Ground.chain }, { on := 0, ground := Go.Ground.phase }, { on := 1, ground := Go.Ground.phase }, { on := 2, ground := Go.Ground.textOnly Go.Departure.lateStores }, { on := 3, ground := Go.Ground.textOnly Go.Departure.lateStoresUnsure }, { on := 4, ground := Go.Ground.phase }, { on := 5, ground := Go.Ground.phase }], guard := none }) rfl (fun K hK => ?_) ?_
          · go_simp

            refine hK.out _ _ (fun h => by cases h) ?_
            clear hK K
            try simp only [Act.put, List.setIfInBounds_toArray, List.set_cons_zero, List.set_cons_succ]
            refine lates_ready (rs := [7]) (by kernel_rfl) (by simp) ?_
            refine AllLate.cons (o := { dst := none, op := Go.Op.store 57 (Go.Operand.tmp 5) (Go.Operand.tmp 10), type := 0, pos := "maps.go:37", after := #[{ on := 5, ground := Go.Ground.data }, { on := 3, ground := Go.Ground.data }, { on := 6, ground := Go.Ground.chain }, { on := 0, ground := Go.Ground.phase }, { on := 1, ground := Go.Ground.phase }, { on := 2, ground := Go.Ground.phase }, { on := 3, ground := Go.Ground.phase }, { on := 4, ground := Go.Ground.phase }, { on := 5, ground := Go.Ground.phase }, { on := 6, ground := Go.Ground.phase }], guard := none }) rfl (fun K hK => ?_) ?_
            · go_simp

              refine hK.out _ _ (fun h => by cases h) ?_
              clear hK K
              try simp only [Act.put, List.setIfInBounds_toArray, List.set_cons_zero, List.set_cons_succ]
              refine lates_done (by kernel_rfl) ?_ _
              try simp only [Act.put, List.setIfInBounds_toArray, List.set_cons_zero, List.set_cons_succ]
              refine hk _ _ _ _ _ ⟨Below.drew (Below.alloc (Below.alloc (Below.alloc (Below.alloc (Below.refl _ _) (by simp) _) (by simp; try omega) _) (by simp; try omega) _) (by simp; try omega) _), ⟨?_, ?_, ?_, ?_⟩, ?_, ?_, ?_, ?_, ?_, ?_⟩ <;> first | (rw [drew_cell]; simp [go_sem]; done) | (simp; done) | (simp; omega) | omega
            exact AllLate.nil
          exact AllLate.nil
        exact AllLate.nil
      exact AllLate.nil
    refine AllLate.cons (o := { dst := some 4, op := Go.Op.alloc 57, type := 0, pos := "maps.go:37", after := #[], guard := none }) rfl (fun K hK => ?_) ?_
    · go_simp

      refine hK.out _ _ (fun _ => ?_) ?_
      · exact HS.out.alloc (by simp; try omega) _
      have HS := (show Hid (Below W.heap.size W _) from HS.out.alloc (by simp; try omega) (.cells #[.nilFunc] 57))
      clear hK K
      try simp only [Act.put, List.setIfInBounds_toArray, List.set_cons_zero, List.set_cons_succ]
      refine lates_ready (rs := [3, 5]) (by kernel_rfl) (by simp) ?_
      refine AllLate.cons (o := { dst := some 10, op := Go.Op.call { callee := Go.Callee.value (Go.Operand.func 28), args := #[Go.Operand.tmp 9], argTypes := #[24] }, type := 57, pos := "maps.go:37", after := #[{ on := 2, ground := Go.Ground.data }, { on := 1, ground := Go.Ground.chain }], guard := none }) rfl (fun K hK => ?_) ?_
      · go_simp
        refine (inOrder_any nb ab lb cb _).mono ?_
        rintro e w1 ⟨rfl, rfl⟩
        refine hK.out _ _ (fun _ => ?_) ?_
        · exact HS.out.alloc (by simp; try omega) _
        have HS := (show Hid (Below W.heap.size W _) from HS.out.alloc (by simp; try omega) (.cells #[.int .i64 nb, .slice ab lb cb] 24))
        clear hK K
        try simp only [Act.put, List.setIfInBounds_toArray, List.set_cons_zero, List.set_cons_succ]
        refine lates_ready (rs := [5]) (by kernel_rfl) (by simp) ?_
        refine AllLate.cons (o := { dst := some 5, op := Go.Op.alloc 57, type := 0, pos := "maps.go:37", after := #[], guard := none }) rfl (fun K hK => ?_) ?_
        · go_simp

          refine hK.out _ _ (fun _ => ?_) ?_
          · exact HS.out.alloc (by simp; try omega) _
          have HS := (show Hid (Below W.heap.size W _) from HS.out.alloc (by simp; try omega) (.cells #[.nilFunc] 57))
          clear hK K
          try simp only [Act.put, List.setIfInBounds_toArray, List.set_cons_zero, List.set_cons_succ]
          refine lates_ready (rs := [6]) (by kernel_rfl) (by simp) ?_
          refine AllLate.cons (o := { dst := none, op := Go.Op.store 57 (Go.Operand.tmp 4) (Go.Operand.tmp 8), type := 0, pos := "maps.go:37", after := #[{ on := 4, ground := Go.Ground.data }, { on := 1, ground := Go.Ground.data }, { on := 3, ground := Go.Ground.chain }, { on := 0, ground := Go.Ground.phase }, { on := 1, ground := Go.Ground.phase }, { on := 2, ground := Go.Ground.textOnly Go.Departure.lateStores }, { on := 3, ground := Go.Ground.textOnly Go.Departure.lateStoresUnsure }, { on := 4, ground := Go.Ground.phase }, { on := 5, ground := Go.Ground.phase }], guard := none }) rfl (fun K hK => ?_) ?_
          · go_simp

            refine hK.out _ _ (fun h => by cases h) ?_
            clear hK K
            try simp only [Act.put, List.setIfInBounds_toArray, List.set_cons_zero, List.set_cons_succ]
            refine lates_ready (rs := [7]) (by kernel_rfl) (by simp) ?_
            refine AllLate.cons (o := { dst := none, op := Go.Op.store 57 (Go.Operand.tmp 5) (Go.Operand.tmp 10), type := 0, pos := "maps.go:37", after := #[{ on := 5, ground := Go.Ground.data }, { on := 3, ground := Go.Ground.data }, { on := 6, ground := Go.Ground.chain }, { on := 0, ground := Go.Ground.phase }, { on := 1, ground := Go.Ground.phase }, { on := 2, ground := Go.Ground.phase }, { on := 3, ground := Go.Ground.phase }, { on := 4, ground := Go.Ground.phase }, { on := 5, ground := Go.Ground.phase }, { on := 6, ground := Go.Ground.phase }], guard := none }) rfl (fun K hK => ?_) ?_
            · go_simp

              refine hK.out _ _ (fun h => by cases h) ?_
              clear hK K
              try simp only [Act.put, List.setIfInBounds_toArray, List.set_cons_zero, List.set_cons_succ]
              refine lates_done (by kernel_rfl) ?_ _
              try simp only [Act.put, List.setIfInBounds_toArray, List.set_cons_zero, List.set_cons_succ]
              refine hk _ _ _ _ _ ⟨Below.drew (Below.alloc (Below.alloc (Below.alloc (Below.alloc (Below.refl _ _) (by simp) _) (by simp; try omega) _) (by simp; try omega) _) (by simp; try omega) _), ⟨?_, ?_, ?_, ?_⟩, ?_, ?_, ?_, ?_, ?_, ?_⟩ <;> first | (rw [drew_cell]; simp [go_sem]; done) | (simp; done) | (simp; omega) | omega
            exact AllLate.nil
          exact AllLate.nil
        exact AllLate.nil
      refine AllLate.cons (o := { dst := some 5, op := Go.Op.alloc 57, type := 0, pos := "maps.go:37", after := #[], guard := none }) rfl (fun K hK => ?_) ?_
      · go_simp

        refine hK.out _ _ (fun _ => ?_) ?_
        · exact HS.out.alloc (by simp; try omega) _
        have HS := (show Hid (Below W.heap.size W _) from HS.out.alloc (by simp; try omega) (.cells #[.nilFunc] 57))
        clear hK K
        try simp only [Act.put, List.setIfInBounds_toArray, List.set_cons_zero, List.set_cons_succ]
        refine lates_ready (rs := [3]) (by kernel_rfl) (by simp) ?_
        refine AllLate.cons (o := { dst := some 10, op := Go.Op.call { callee := Go.Callee.value (Go.Operand.func 28), args := #[Go.Operand.tmp 9], argTypes := #[24] }, type := 57, pos := "maps.go:37", after := #[{ on := 2, ground := Go.Ground.data }, { on := 1, ground := Go.Ground.chain }], guard := none }) rfl (fun K hK => ?_) ?_
        · go_simp
          refine (inOrder_any nb ab lb cb _).mono ?_
          rintro e w1 ⟨rfl, rfl⟩
          refine hK.out _ _ (fun _ => ?_) ?_
          · exact HS.out.alloc (by simp; try omega) _
          have HS := (show Hid (Below W.heap.size W _) from HS.out.alloc (by simp; try omega) (.cells #[.int .i64 nb, .slice ab lb cb] 24))
          clear hK K
          try simp only [Act.put, List.setIfInBounds_toArray, List.set_cons_zero, List.set_cons_succ]
          refine lates_ready (rs := [6]) (by kernel_rfl) (by simp) ?_
          refine AllLate.cons (o := { dst := none, op := Go.Op.store 57 (Go.Operand.tmp 4) (Go.Operand.tmp 8), type := 0, pos := "maps.go:37", after := #[{ on := 4, ground := Go.Ground.data }, { on := 1, ground := Go.Ground.data }, { on := 3, ground := Go.Ground.chain }, { on := 0, ground := Go.Ground.phase }, { on := 1, ground := Go.Ground.phase }, { on := 2, ground := Go.Ground.textOnly Go.Departure.lateStores }, { on := 3, ground := Go.Ground.textOnly Go.Departure.lateStoresUnsure }, { on := 4, ground := Go.Ground.phase }, { on := 5, ground := Go.Ground.phase }], guard := none }) rfl (fun K hK => ?_) ?_
          · go_simp

            refine hK.out _ _ (fun h => by cases h) ?_
            clear hK K
            try simp only [Act.put, List.setIfInBounds_toArray, List.set_cons_zero, List.set_cons_succ]
            refine lates_ready (rs := [7]) (by kernel_rfl) (by simp) ?_
            refine AllLate.cons (o := { dst := none, op := Go.Op.store 57 (Go.Operand.tmp 5) (Go.Operand.tmp 10), type := 0, pos := "maps.go:37", after := #[{ on := 5, ground := Go.Ground.data }, { on := 3, ground := Go.Ground.data }, { on := 6, ground := Go.Ground.chain }, { on := 0, ground := Go.Ground.phase }, { on := 1, ground := Go.Ground.phase }, { on := 2, ground := Go.Ground.phase }, { on := 3, ground := Go.Ground.phase }, { on := 4, ground := Go.Ground.phase }, { on := 5, ground := Go.Ground.phase }, { on := 6, ground := Go.Ground.phase }], guard := none }) rfl (fun K hK => ?_) ?_
            · go_simp

              refine hK.out _ _ (fun h => by cases h) ?_
              clear hK K
              try simp only [Act.put, List.setIfInBounds_toArray, List.set_cons_zero, List.set_cons_succ]
              refine lates_done (by kernel_rfl) ?_ _
              try simp only [Act.put, List.setIfInBounds_toArray, List.set_cons_zero, List.set_cons_succ]
              refine hk _ _ _ _ _ ⟨Below.drew (Below.alloc (Below.alloc (Below.alloc (Below.alloc (Below.refl _ _) (by simp) _) (by simp; try omega) _) (by simp; try omega) _) (by simp; try omega) _), ⟨?_, ?_, ?_, ?_⟩, ?_, ?_, ?_, ?_, ?_, ?_⟩ <;> first | (rw [drew_cell]; simp [go_sem]; done) | (simp; done) | (simp; omega) | omega
            exact AllLate.nil
          exact AllLate.nil
        exact AllLate.nil
      exact AllLate.nil
    refine AllLate.cons (o := { dst := some 5, op := Go.Op.alloc 57, type := 0, pos := "maps.go:37", after := #[], guard := none }) rfl (fun K hK => ?_) ?_
    · go_simp

      refine hK.out _ _ (fun _ => ?_) ?_
      · exact HS.out.alloc (by simp; try omega) _
      have HS := (show Hid (Below W.heap.size W _) from HS.out.alloc (by simp; try omega) (.cells #[.nilFunc] 57))
      clear hK K
      try simp only [Act.put, List.setIfInBounds_toArray, List.set_cons_zero, List.set_cons_succ]
      refine lates_ready (rs := [3, 4]) (by kernel_rfl) (by simp) ?_
      refine AllLate.cons (o := { dst := some 10, op := Go.Op.call { callee := Go.Callee.value (Go.Operand.func 28), args := #[Go.Operand.tmp 9], argTypes := #[24] }, type := 57, pos := "maps.go:37", after := #[{ on := 2, ground := Go.Ground.data }, { on := 1, ground := Go.Ground.chain }], guard := none }) rfl (fun K hK => ?_) ?_
      · go_simp
        refine (inOrder_any nb ab lb cb _).mono ?_
        rintro e w1 ⟨rfl, rfl⟩
        refine hK.out _ _ (fun _ => ?_) ?_
        · exact HS.out.alloc (by simp; try omega) _
        have HS := (show Hid (Below W.heap.size W _) from HS.out.alloc (by simp; try omega) (.cells #[.int .i64 nb, .slice ab lb cb] 24))
        clear hK K
        try simp only [Act.put, List.setIfInBounds_toArray, List.set_cons_zero, List.set_cons_succ]
        refine lates_ready (rs := [4]) (by kernel_rfl) (by simp) ?_
        refine AllLate.cons (o := { dst := some 4, op := Go.Op.alloc 57, type := 0, pos := "maps.go:37", after := #[], guard := none }) rfl (fun K hK => ?_) ?_
        · go_simp

          refine hK.out _ _ (fun _ => ?_) ?_
          · exact HS.out.alloc (by simp; try omega) _
          have HS := (show Hid (Below W.heap.size W _) from HS.out.alloc (by simp; try omega) (.cells #[.nilFunc] 57))
          clear hK K
          try simp only [Act.put, List.setIfInBounds_toArray, List.set_cons_zero, List.set_cons_succ]
          refine lates_ready (rs := [6]) (by kernel_rfl) (by simp) ?_
          refine AllLate.cons (o := { dst := none, op := Go.Op.store 57 (Go.Operand.tmp 4) (Go.Operand.tmp 8), type := 0, pos := "maps.go:37", after := #[{ on := 4, ground := Go.Ground.data }, { on := 1, ground := Go.Ground.data }, { on := 3, ground := Go.Ground.chain }, { on := 0, ground := Go.Ground.phase }, { on := 1, ground := Go.Ground.phase }, { on := 2, ground := Go.Ground.textOnly Go.Departure.lateStores }, { on := 3, ground := Go.Ground.textOnly Go.Departure.lateStoresUnsure }, { on := 4, ground := Go.Ground.phase }, { on := 5, ground := Go.Ground.phase }], guard := none }) rfl (fun K hK => ?_) ?_
          · go_simp

            refine hK.out _ _ (fun h => by cases h) ?_
            clear hK K
            try simp only [Act.put, List.setIfInBounds_toArray, List.set_cons_zero, List.set_cons_succ]
            refine lates_ready (rs := [7]) (by kernel_rfl) (by simp) ?_
            refine AllLate.cons (o := { dst := none, op := Go.Op.store 57 (Go.Operand.tmp 5) (Go.Operand.tmp 10), type := 0, pos := "maps.go:37", after := #[{ on := 5, ground := Go.Ground.data }, { on := 3, ground := Go.Ground.data }, { on := 6, ground := Go.Ground.chain }, { on := 0, ground := Go.Ground.phase }, { on := 1, ground := Go.Ground.phase }, { on := 2, ground := Go.Ground.phase }, { on := 3, ground := Go.Ground.phase }, { on := 4, ground := Go.Ground.phase }, { on := 5, ground := Go.Ground.phase }, { on := 6, ground := Go.Ground.phase }], guard := none }) rfl (fun K hK => ?_) ?_
            · go_simp

              refine hK.out _ _ (fun h => by cases h) ?_
              clear hK K
              try simp only [Act.put, List.setIfInBounds_toArray, List.set_cons_zero, List.set_cons_succ]
              refine lates_done (by kernel_rfl) ?_ _
              try simp only [Act.put, List.setIfInBounds_toArray, List.set_cons_zero, List.set_cons_succ]
              refine hk _ _ _ _ _ ⟨Below.drew (Below.alloc (Below.alloc (Below.alloc (Below.alloc (Below.refl _ _) (by simp) _) (by simp; try omega) _) (by simp; try omega) _) (by simp; try omega) _), ⟨?_, ?_, ?_, ?_⟩, ?_, ?_, ?_, ?_, ?_, ?_⟩ <;> first | (rw [drew_cell]; simp [go_sem]; done) | (simp; done) | (simp; omega) | omega
            exact AllLate.nil
          exact AllLate.nil
        exact AllLate.nil
      refine AllLate.cons (o := { dst := some 4, op := Go.Op.alloc 57, type := 0, pos := "maps.go:37", after := #[], guard := none }) rfl (fun K hK => ?_) ?_
      · go_simp

        refine hK.out _ _ (fun _ => ?_) ?_
        · exact HS.out.alloc (by simp; try omega) _
        have HS := (show Hid (Below W.heap.size W _) from HS.out.alloc (by simp; try omega) (.cells #[.nilFunc] 57))
        clear hK K
        try simp only [Act.put, List.setIfInBounds_toArray, List.set_cons_zero, List.set_cons_succ]
        refine lates_ready (rs := [3]) (by kernel_rfl) (by simp) ?_
        refine AllLate.cons (o := { dst := some 10, op := Go.Op.call { callee := Go.Callee.value (Go.Operand.func 28), args := #[Go.Operand.tmp 9], argTypes := #[24] }, type := 57, pos := "maps.go:37", after := #[{ on := 2, ground := Go.Ground.data }, { on := 1, ground := Go.Ground.chain }], guard := none }) rfl (fun K hK => ?_) ?_
        · go_simp
          refine (inOrder_any nb ab lb cb _).mono ?_
          rintro e w1 ⟨rfl, rfl⟩
          refine hK.out _ _ (fun _ => ?_) ?_
          · exact HS.out.alloc (by simp; try omega) _
          have HS := (show Hid (Below W.heap.size W _) from HS.out.alloc (by simp; try omega) (.cells #[.int .i64 nb, .slice ab lb cb] 24))
          clear hK K
          try simp only [Act.put, List.setIfInBounds_toArray, List.set_cons_zero, List.set_cons_succ]
          refine lates_ready (rs := [6]) (by kernel_rfl) (by simp) ?_
          refine AllLate.cons (o := { dst := none, op := Go.Op.store 57 (Go.Operand.tmp 4) (Go.Operand.tmp 8), type := 0, pos := "maps.go:37", after := #[{ on := 4, ground := Go.Ground.data }, { on := 1, ground := Go.Ground.data }, { on := 3, ground := Go.Ground.chain }, { on := 0, ground := Go.Ground.phase }, { on := 1, ground := Go.Ground.phase }, { on := 2, ground := Go.Ground.textOnly Go.Departure.lateStores }, { on := 3, ground := Go.Ground.textOnly Go.Departure.lateStoresUnsure }, { on := 4, ground := Go.Ground.phase }, { on := 5, ground := Go.Ground.phase }], guard := none }) rfl (fun K hK => ?_) ?_
          · go_simp

            refine hK.out _ _ (fun h => by cases h) ?_
            clear hK K
            try simp only [Act.put, List.setIfInBounds_toArray, List.set_cons_zero, List.set_cons_succ]
            refine lates_ready (rs := [7]) (by kernel_rfl) (by simp) ?_
            refine AllLate.cons (o := { dst := none, op := Go.Op.store 57 (Go.Operand.tmp 5) (Go.Operand.tmp 10), type := 0, pos := "maps.go:37", after := #[{ on := 5, ground := Go.Ground.data }, { on := 3, ground := Go.Ground.data }, { on := 6, ground := Go.Ground.chain }, { on := 0, ground := Go.Ground.phase }, { on := 1, ground := Go.Ground.phase }, { on := 2, ground := Go.Ground.phase }, { on := 3, ground := Go.Ground.phase }, { on := 4, ground := Go.Ground.phase }, { on := 5, ground := Go.Ground.phase }, { on := 6, ground := Go.Ground.phase }], guard := none }) rfl (fun K hK => ?_) ?_
            · go_simp

              refine hK.out _ _ (fun h => by cases h) ?_
              clear hK K
              try simp only [Act.put, List.setIfInBounds_toArray, List.set_cons_zero, List.set_cons_succ]
              refine lates_done (by kernel_rfl) ?_ _
              try simp only [Act.put, List.setIfInBounds_toArray, List.set_cons_zero, List.set_cons_succ]
              refine hk _ _ _ _ _ ⟨Below.drew (Below.alloc (Below.alloc (Below.alloc (Below.alloc (Below.refl _ _) (by simp) _) (by simp; try omega) _) (by simp; try omega) _) (by simp; try omega) _), ⟨?_, ?_, ?_, ?_⟩, ?_, ?_, ?_, ?_, ?_, ?_⟩ <;> first | (rw [drew_cell]; simp [go_sem]; done) | (simp; done) | (simp; omega) | omega
            exact AllLate.nil
          exact AllLate.nil
        exact AllLate.nil
      exact AllLate.nil
    exact AllLate.nil
  refine AllLate.cons (o := { dst := some 4, op := Go.Op.alloc 57, type := 0, pos := "maps.go:37", after := #[], guard := none }) rfl (fun K hK => ?_) ?_
  · go_simp

    refine hK.out _ _ (fun _ => ?_) ?_
    · exact HS.out.alloc (by simp; try omega) _
    have HS := (show Hid (Below W.heap.size W _) from HS.out.alloc (by simp; try omega) (.cells #[.nilFunc] 57))
    clear hK K
    try simp only [Act.put, List.setIfInBounds_toArray, List.set_cons_zero, List.set_cons_succ]
    refine lates_ready (rs := [1, 5]) (by kernel_rfl) (by simp) ?_
    refine AllLate.cons (o := { dst := some 8, op := Go.Op.call { callee := Go.Callee.value (Go.Operand.func 28), args := #[Go.Operand.tmp 7], argTypes := #[24] }, type := 57, pos := "maps.go:37", after := #[{ on := 0, ground := Go.Ground.data }], guard := none }) rfl (fun K hK => ?_) ?_
    · go_simp
      refine (inOrder_any na aa la ca _).mono ?_
      rintro e w1 ⟨rfl, rfl⟩
      refine hK.out _ _ (fun _ => ?_) ?_
      · exact HS.out.alloc (by simp; try omega) _
      have HS := (show Hid (Below W.heap.size W _) from HS.out.alloc (by simp; try omega) (.cells #[.int .i64 na, .slice aa la ca] 24))
      clear hK K
      try simp only [Act.put, List.setIfInBounds_toArray, List.set_cons_zero, List.set_cons_succ]
      refine lates_ready (rs := [3, 5]) (by kernel_rfl) (by simp) ?_
      refine AllLate.cons (o := { dst := some 10, op := Go.Op.call { callee := Go.Callee.value (Go.Operand.func 28), args := #[Go.Operand.tmp 9], argTypes := #[24] }, type := 57, pos := "maps.go:37", after := #[{ on := 2, ground := Go.Ground.data }, { on := 1, ground := Go.Ground.chain }], guard := none }) rfl (fun K hK => ?_) ?_
      · go_simp
        refine (inOrder_any nb ab lb cb _).mono ?_
        rintro e w1 ⟨rfl, rfl⟩
        refine hK.out _ _ (fun _ => ?_) ?_
        · exact HS.out.alloc (by simp; try omega) _
        have HS := (show Hid (Below W.heap.size W _) from HS.out.alloc (by simp; try omega) (.cells #[.int .i64 nb, .slice ab lb cb] 24))
        clear hK K
        try simp only [Act.put, List.setIfInBounds_toArray, List.set_cons_zero, List.set_cons_succ]
        refine lates_ready (rs := [5]) (by kernel_rfl) (by simp) ?_
        refine AllLate.cons (o := { dst := some 5, op := Go.Op.alloc 57, type := 0, pos := "maps.go:37", after := #[], guard := none }) rfl (fun K hK => ?_) ?_
        · go_simp

          refine hK.out _ _ (fun _ => ?_) ?_
          · exact HS.out.alloc (by simp; try omega) _
          have HS := (show Hid (Below W.heap.size W _) from HS.out.alloc (by simp; try omega) (.cells #[.nilFunc] 57))
          clear hK K
          try simp only [Act.put, List.setIfInBounds_toArray, List.set_cons_zero, List.set_cons_succ]
          refine lates_ready (rs := [6]) (by kernel_rfl) (by simp) ?_
          refine AllLate.cons (o := { dst := none, op := Go.Op.store 57 (Go.Operand.tmp 4) (Go.Operand.tmp 8), type := 0, pos := "maps.go:37", after := #[{ on := 4, ground := Go.Ground.data }, { on := 1, ground := Go.Ground.data }, { on := 3, ground := Go.Ground.chain }, { on := 0, ground := Go.Ground.phase }, { on := 1, ground := Go.Ground.phase }, { on := 2, ground := Go.Ground.textOnly Go.Departure.lateStores }, { on := 3, ground := Go.Ground.textOnly Go.Departure.lateStoresUnsure }, { on := 4, ground := Go.Ground.phase }, { on := 5, ground := Go.Ground.phase }], guard := none }) rfl (fun K hK => ?_) ?_
          · go_simp

            refine hK.out _ _ (fun h => by cases h) ?_
            clear hK K
            try simp only [Act.put, List.setIfInBounds_toArray, List.set_cons_zero, List.set_cons_succ]
            refine lates_ready (rs := [7]) (by kernel_rfl) (by simp) ?_
            refine AllLate.cons (o := { dst := none, op := Go.Op.store 57 (Go.Operand.tmp 5) (Go.Operand.tmp 10), type := 0, pos := "maps.go:37", after := #[{ on := 5, ground := Go.Ground.data }, { on := 3, ground := Go.Ground.data }, { on := 6, ground := Go.Ground.chain }, { on := 0, ground := Go.Ground.phase }, { on := 1, ground := Go.Ground.phase }, { on := 2, ground := Go.Ground.phase }, { on := 3, ground := Go.Ground.phase }, { on := 4, ground := Go.Ground.phase }, { on := 5, ground := Go.Ground.phase }, { on := 6, ground := Go.Ground.phase }], guard := none }) rfl (fun K hK => ?_) ?_
            · go_simp

              refine hK.out _ _ (fun h => by cases h) ?_
              clear hK K
              try simp only [Act.put, List.setIfInBounds_toArray, List.set_cons_zero, List.set_cons_succ]
              refine lates_done (by kernel_rfl) ?_ _
              try simp only [Act.put, List.setIfInBounds_toArray, List.set_cons_zero, List.set_cons_succ]
              refine hk _ _ _ _ _ ⟨Below.drew (Below.alloc (Below.alloc (Below.alloc (Below.alloc (Below.refl _ _) (by simp) _) (by simp; try omega) _) (by simp; try omega) _) (by simp; try omega) _), ⟨?_, ?_, ?_, ?_⟩, ?_, ?_, ?_, ?_, ?_, ?_⟩ <;> first | (rw [drew_cell]; simp [go_sem]; done) | (simp; done) | (simp; omega) | omega
            exact AllLate.nil
          exact AllLate.nil
        exact AllLate.nil
      refine AllLate.cons (o := { dst := some 5, op := Go.Op.alloc 57, type := 0, pos := "maps.go:37", after := #[], guard := none }) rfl (fun K hK => ?_) ?_
      · go_simp

        refine hK.out _ _ (fun _ => ?_) ?_
        · exact HS.out.alloc (by simp; try omega) _
        have HS := (show Hid (Below W.heap.size W _) from HS.out.alloc (by simp; try omega) (.cells #[.nilFunc] 57))
        clear hK K
        try simp only [Act.put, List.setIfInBounds_toArray, List.set_cons_zero, List.set_cons_succ]
        refine lates_ready (rs := [3]) (by kernel_rfl) (by simp) ?_
        refine AllLate.cons (o := { dst := some 10, op := Go.Op.call { callee := Go.Callee.value (Go.Operand.func 28), args := #[Go.Operand.tmp 9], argTypes := #[24] }, type := 57, pos := "maps.go:37", after := #[{ on := 2, ground := Go.Ground.data }, { on := 1, ground := Go.Ground.chain }], guard := none }) rfl (fun K hK => ?_) ?_
        · go_simp
          refine (inOrder_any nb ab lb cb _).mono ?_
          rintro e w1 ⟨rfl, rfl⟩
          refine hK.out _ _ (fun _ => ?_) ?_
          · exact HS.out.alloc (by simp; try omega) _
          have HS := (show Hid (Below W.heap.size W _) from HS.out.alloc (by simp; try omega) (.cells #[.int .i64 nb, .slice ab lb cb] 24))
          clear hK K
          try simp only [Act.put, List.setIfInBounds_toArray, List.set_cons_zero, List.set_cons_succ]
          refine lates_ready (rs := [6]) (by kernel_rfl) (by simp) ?_
          refine AllLate.cons (o := { dst := none, op := Go.Op.store 57 (Go.Operand.tmp 4) (Go.Operand.tmp 8), type := 0, pos := "maps.go:37", after := #[{ on := 4, ground := Go.Ground.data }, { on := 1, ground := Go.Ground.data }, { on := 3, ground := Go.Ground.chain }, { on := 0, ground := Go.Ground.phase }, { on := 1, ground := Go.Ground.phase }, { on := 2, ground := Go.Ground.textOnly Go.Departure.lateStores }, { on := 3, ground := Go.Ground.textOnly Go.Departure.lateStoresUnsure }, { on := 4, ground := Go.Ground.phase }, { on := 5, ground := Go.Ground.phase }], guard := none }) rfl (fun K hK => ?_) ?_
          · go_simp

            refine hK.out _ _ (fun h => by cases h) ?_
            clear hK K
            try simp only [Act.put, List.setIfInBounds_toArray, List.set_cons_zero, List.set_cons_succ]
            refine lates_ready (rs := [7]) (by kernel_rfl) (by simp) ?_
            refine AllLate.cons (o := { dst := none, op := Go.Op.store 57 (Go.Operand.tmp 5) (Go.Operand.tmp 10), type := 0, pos := "maps.go:37", after := #[{ on := 5, ground := Go.Ground.data }, { on := 3, ground := Go.Ground.data }, { on := 6, ground := Go.Ground.chain }, { on := 0, ground := Go.Ground.phase }, { on := 1, ground := Go.Ground.phase }, { on := 2, ground := Go.Ground.phase }, { on := 3, ground := Go.Ground.phase }, { on := 4, ground := Go.Ground.phase }, { on := 5, ground := Go.Ground.phase }, { on := 6, ground := Go.Ground.phase }], guard := none }) rfl (fun K hK => ?_) ?_
            · go_simp

              refine hK.out _ _ (fun h => by cases h) ?_
              clear hK K
              try simp only [Act.put, List.setIfInBounds_toArray, List.set_cons_zero, List.set_cons_succ]
              refine lates_done (by kernel_rfl) ?_ _
              try simp only [Act.put, List.setIfInBounds_toArray, List.set_cons_zero, List.set_cons_succ]
              refine hk _ _ _ _ _ ⟨Below.drew (Below.alloc (Below.alloc (Below.alloc (Below.alloc (Below.refl _ _) (by simp) _) (by simp; try omega) _) (by simp; try omega) _) (by simp; try omega) _), ⟨?_, ?_, ?_, ?_⟩, ?_, ?_, ?_, ?_, ?_, ?_⟩ <;> first | (rw [drew_cell]; simp [go_sem]; done) | (simp; done) | (simp; omega) | omega
            exact AllLate.nil
          exact AllLate.nil
        exact AllLate.nil
      exact AllLate.nil
    refine AllLate.cons (o := { dst := some 5, op := Go.Op.alloc 57, type := 0, pos := "maps.go:37", after := #[], guard := none }) rfl (fun K hK => ?_) ?_
    · go_simp

      refine hK.out _ _ (fun _ => ?_) ?_
      · exact HS.out.alloc (by simp; try omega) _
      have HS := (show Hid (Below W.heap.size W _) from HS.out.alloc (by simp; try omega) (.cells #[.nilFunc] 57))
      clear hK K
      try simp only [Act.put, List.setIfInBounds_toArray, List.set_cons_zero, List.set_cons_succ]
      refine lates_ready (rs := [1]) (by kernel_rfl) (by simp) ?_
      refine AllLate.cons (o := { dst := some 8, op := Go.Op.call { callee := Go.Callee.value (Go.Operand.func 28), args := #[Go.Operand.tmp 7], argTypes := #[24] }, type := 57, pos := "maps.go:37", after := #[{ on := 0, ground := Go.Ground.data }], guard := none }) rfl (fun K hK => ?_) ?_
      · go_simp
        refine (inOrder_any na aa la ca _).mono ?_
        rintro e w1 ⟨rfl, rfl⟩
        refine hK.out _ _ (fun _ => ?_) ?_
        · exact HS.out.alloc (by simp; try omega) _
        have HS := (show Hid (Below W.heap.size W _) from HS.out.alloc (by simp; try omega) (.cells #[.int .i64 na, .slice aa la ca] 24))
        clear hK K
        try simp only [Act.put, List.setIfInBounds_toArray, List.set_cons_zero, List.set_cons_succ]
        refine lates_ready (rs := [3]) (by kernel_rfl) (by simp) ?_
        refine AllLate.cons (o := { dst := some 10, op := Go.Op.call { callee := Go.Callee.value (Go.Operand.func 28), args := #[Go.Operand.tmp 9], argTypes := #[24] }, type := 57, pos := "maps.go:37", after := #[{ on := 2, ground := Go.Ground.data }, { on := 1, ground := Go.Ground.chain }], guard := none }) rfl (fun K hK => ?_) ?_
        · go_simp
          refine (inOrder_any nb ab lb cb _).mono ?_
          rintro e w1 ⟨rfl, rfl⟩
          refine hK.out _ _ (fun _ => ?_) ?_
          · exact HS.out.alloc (by simp; try omega) _
          have HS := (show Hid (Below W.heap.size W _) from HS.out.alloc (by simp; try omega) (.cells #[.int .i64 nb, .slice ab lb cb] 24))
          clear hK K
          try simp only [Act.put, List.setIfInBounds_toArray, List.set_cons_zero, List.set_cons_succ]
          refine lates_ready (rs := [6]) (by kernel_rfl) (by simp) ?_
          refine AllLate.cons (o := { dst := none, op := Go.Op.store 57 (Go.Operand.tmp 4) (Go.Operand.tmp 8), type := 0, pos := "maps.go:37", after := #[{ on := 4, ground := Go.Ground.data }, { on := 1, ground := Go.Ground.data }, { on := 3, ground := Go.Ground.chain }, { on := 0, ground := Go.Ground.phase }, { on := 1, ground := Go.Ground.phase }, { on := 2, ground := Go.Ground.textOnly Go.Departure.lateStores }, { on := 3, ground := Go.Ground.textOnly Go.Departure.lateStoresUnsure }, { on := 4, ground := Go.Ground.phase }, { on := 5, ground := Go.Ground.phase }], guard := none }) rfl (fun K hK => ?_) ?_
          · go_simp

            refine hK.out _ _ (fun h => by cases h) ?_
            clear hK K
            try simp only [Act.put, List.setIfInBounds_toArray, List.set_cons_zero, List.set_cons_succ]
            refine lates_ready (rs := [7]) (by kernel_rfl) (by simp) ?_
            refine AllLate.cons (o := { dst := none, op := Go.Op.store 57 (Go.Operand.tmp 5) (Go.Operand.tmp 10), type := 0, pos := "maps.go:37", after := #[{ on := 5, ground := Go.Ground.data }, { on := 3, ground := Go.Ground.data }, { on := 6, ground := Go.Ground.chain }, { on := 0, ground := Go.Ground.phase }, { on := 1, ground := Go.Ground.phase }, { on := 2, ground := Go.Ground.phase }, { on := 3, ground := Go.Ground.phase }, { on := 4, ground := Go.Ground.phase }, { on := 5, ground := Go.Ground.phase }, { on := 6, ground := Go.Ground.phase }], guard := none }) rfl (fun K hK => ?_) ?_
            · go_simp

              refine hK.out _ _ (fun h => by cases h) ?_
              clear hK K
              try simp only [Act.put, List.setIfInBounds_toArray, List.set_cons_zero, List.set_cons_succ]
              refine lates_done (by kernel_rfl) ?_ _
              try simp only [Act.put, List.setIfInBounds_toArray, List.set_cons_zero, List.set_cons_succ]
              refine hk _ _ _ _ _ ⟨Below.drew (Below.alloc (Below.alloc (Below.alloc (Below.alloc (Below.refl _ _) (by simp) _) (by simp; try omega) _) (by simp; try omega) _) (by simp; try omega) _), ⟨?_, ?_, ?_, ?_⟩, ?_, ?_, ?_, ?_, ?_, ?_⟩ <;> first | (rw [drew_cell]; simp [go_sem]; done) | (simp; done) | (simp; omega) | omega
            exact AllLate.nil
          exact AllLate.nil
        exact AllLate.nil
      exact AllLate.nil
    exact AllLate.nil
  refine AllLate.cons (o := { dst := some 5, op := Go.Op.alloc 57, type := 0, pos := "maps.go:37", after := #[], guard := none }) rfl (fun K hK => ?_) ?_
  · go_simp

    refine hK.out _ _ (fun _ => ?_) ?_
    · exact HS.out.alloc (by simp; try omega) _
    have HS := (show Hid (Below W.heap.size W _) from HS.out.alloc (by simp; try omega) (.cells #[.nilFunc] 57))
    clear hK K
    try simp only [Act.put, List.setIfInBounds_toArray, List.set_cons_zero, List.set_cons_succ]
    refine lates_ready (rs := [1, 4]) (by kernel_rfl) (by simp) ?_
    refine AllLate.cons (o := { dst := some 8, op := Go.Op.call { callee := Go.Callee.value (Go.Operand.func 28), args := #[Go.Operand.tmp 7], argTypes := #[24] }, type := 57, pos := "maps.go:37", after := #[{ on := 0, ground := Go.Ground.data }], guard := none }) rfl (fun K hK => ?_) ?_
    · go_simp
      refine (inOrder_any na aa la ca _).mono ?_
      rintro e w1 ⟨rfl, rfl⟩
      refine hK.out _ _ (fun _ => ?_) ?_
      · exact HS.out.alloc (by simp; try omega) _
      have HS := (show Hid (Below W.heap.size W _) from HS.out.alloc (by simp; try omega) (.cells #[.int .i64 na, .slice aa la ca] 24))
      clear hK K
      try simp only [Act.put, List.setIfInBounds_toArray, List.set_cons_zero, List.set_cons_succ]
      refine lates_ready (rs := [3, 4]) (by kernel_rfl) (by simp) ?_
      refine AllLate.cons (o := { dst := some 10, op := Go.Op.call { callee := Go.Callee.value (Go.Operand.func 28), args := #[Go.Operand.tmp 9], argTypes := #[24] }, type := 57, pos := "maps.go:37", after := #[{ on := 2, ground := Go.Ground.data }, { on := 1, ground := Go.Ground.chain }], guard := none }) rfl (fun K hK => ?_) ?_
      · go_simp
        refine (inOrder_any nb ab lb cb _).mono ?_
        rintro e w1 ⟨rfl, rfl⟩
        refine hK.out _ _ (fun _ => ?_) ?_
        · exact HS.out.alloc (by simp; try omega) _
        have HS := (show Hid (Below W.heap.size W _) from HS.out.alloc (by simp; try omega) (.cells #[.int .i64 nb, .slice ab lb cb] 24))
        clear hK K
        try simp only [Act.put, List.setIfInBounds_toArray, List.set_cons_zero, List.set_cons_succ]
        refine lates_ready (rs := [4]) (by kernel_rfl) (by simp) ?_
        refine AllLate.cons (o := { dst := some 4, op := Go.Op.alloc 57, type := 0, pos := "maps.go:37", after := #[], guard := none }) rfl (fun K hK => ?_) ?_
        · go_simp

          refine hK.out _ _ (fun _ => ?_) ?_
          · exact HS.out.alloc (by simp; try omega) _
          have HS := (show Hid (Below W.heap.size W _) from HS.out.alloc (by simp; try omega) (.cells #[.nilFunc] 57))
          clear hK K
          try simp only [Act.put, List.setIfInBounds_toArray, List.set_cons_zero, List.set_cons_succ]
          refine lates_ready (rs := [6]) (by kernel_rfl) (by simp) ?_
          refine AllLate.cons (o := { dst := none, op := Go.Op.store 57 (Go.Operand.tmp 4) (Go.Operand.tmp 8), type := 0, pos := "maps.go:37", after := #[{ on := 4, ground := Go.Ground.data }, { on := 1, ground := Go.Ground.data }, { on := 3, ground := Go.Ground.chain }, { on := 0, ground := Go.Ground.phase }, { on := 1, ground := Go.Ground.phase }, { on := 2, ground := Go.Ground.textOnly Go.Departure.lateStores }, { on := 3, ground := Go.Ground.textOnly Go.Departure.lateStoresUnsure }, { on := 4, ground := Go.Ground.phase }, { on := 5, ground := Go.Ground.phase }], guard := none }) rfl (fun K hK => ?_) ?_
          · go_simp

            refine hK.out _ _ (fun h => by cases h) ?_
            clear hK K
            try simp only [Act.put, List.setIfInBounds_toArray, List.set_cons_zero, List.set_cons_succ]
            refine lates_ready (rs := [7]) (by kernel_rfl) (by simp) ?_
            refine AllLate.cons (o := { dst := none, op := Go.Op.store 57 (Go.Operand.tmp 5) (Go.Operand.tmp 10), type := 0, pos := "maps.go:37", after := #[{ on := 5, ground := Go.Ground.data }, { on := 3, ground := Go.Ground.data }, { on := 6, ground := Go.Ground.chain }, { on := 0, ground := Go.Ground.phase }, { on := 1, ground := Go.Ground.phase }, { on := 2, ground := Go.Ground.phase }, { on := 3, ground := Go.Ground.phase }, { on := 4, ground := Go.Ground.phase }, { on := 5, ground := Go.Ground.phase }, { on := 6, ground := Go.Ground.phase }], guard := none }) rfl (fun K hK => ?_) ?_
            · go_simp

              refine hK.out _ _ (fun h => by cases h) ?_
              clear hK K
              try simp only [Act.put, List.setIfInBounds_toArray, List.set_cons_zero, List.set_cons_succ]
              refine lates_done (by kernel_rfl) ?_ _
              try simp only [Act.put, List.setIfInBounds_toArray, List.set_cons_zero, List.set_cons_succ]
              refine hk _ _ _ _ _ ⟨Below.drew (Below.alloc (Below.alloc (Below.alloc (Below.alloc (Below.refl _ _) (by simp) _) (by simp; try omega) _) (by simp; try omega) _) (by simp; try omega) _), ⟨?_, ?_, ?_, ?_⟩, ?_, ?_, ?_, ?_, ?_, ?_⟩ <;> first | (rw [drew_cell]; simp [go_sem]; done) | (simp; done) | (simp; omega) | omega
            exact AllLate.nil
          exact AllLate.nil
        exact AllLate.nil
      refine AllLate.cons (o := { dst := some 4, op := Go.Op.alloc 57, type := 0, pos := "maps.go:37", after := #[], guard := none }) rfl (fun K hK => ?_) ?_
      · go_simp

        refine hK.out _ _ (fun _ => ?_) ?_
        · exact HS.out.alloc (by simp; try omega) _
        have HS := (show Hid (Below W.heap.size W _) from HS.out.alloc (by simp; try omega) (.cells #[.nilFunc] 57))
        clear hK K
        try simp only [Act.put, List.setIfInBounds_toArray, List.set_cons_zero, List.set_cons_succ]
        refine lates_ready (rs := [3]) (by kernel_rfl) (by simp) ?_
        refine AllLate.cons (o := { dst := some 10, op := Go.Op.call { callee := Go.Callee.value (Go.Operand.func 28), args := #[Go.Operand.tmp 9], argTypes := #[24] }, type := 57, pos := "maps.go:37", after := #[{ on := 2, ground := Go.Ground.data }, { on := 1, ground := Go.Ground.chain }], guard := none }) rfl (fun K hK => ?_) ?_
        · go_simp
          refine (inOrder_any nb ab lb cb _).mono ?_
          rintro e w1 ⟨rfl, rfl⟩
          refine hK.out _ _ (fun _ => ?_) ?_
          · exact HS.out.alloc (by simp; try omega) _
          have HS := (show Hid (Below W.heap.size W _) from HS.out.alloc (by simp; try omega) (.cells #[.int .i64 nb, .slice ab lb cb] 24))
          clear hK K
          try simp only [Act.put, List.setIfInBounds_toArray, List.set_cons_zero, List.set_cons_succ]
          refine lates_ready (rs := [6]) (by kernel_rfl) (by simp) ?_
          refine AllLate.cons (o := { dst := none, op := Go.Op.store 57 (Go.Operand.tmp 4) (Go.Operand.tmp 8), type := 0, pos := "maps.go:37", after := #[{ on := 4, ground := Go.Ground.data }, { on := 1, ground := Go.Ground.data }, { on := 3, ground := Go.Ground.chain }, { on := 0, ground := Go.Ground.phase }, { on := 1, ground := Go.Ground.phase }, { on := 2, ground := Go.Ground.textOnly Go.Departure.lateStores }, { on := 3, ground := Go.Ground.textOnly Go.Departure.lateStoresUnsure }, { on := 4, ground := Go.Ground.phase }, { on := 5, ground := Go.Ground.phase }], guard := none }) rfl (fun K hK => ?_) ?_
          · go_simp

            refine hK.out _ _ (fun h => by cases h) ?_
            clear hK K
            try simp only [Act.put, List.setIfInBounds_toArray, List.set_cons_zero, List.set_cons_succ]
            refine lates_ready (rs := [7]) (by kernel_rfl) (by simp) ?_
            refine AllLate.cons (o := { dst := none, op := Go.Op.store 57 (Go.Operand.tmp 5) (Go.Operand.tmp 10), type := 0, pos := "maps.go:37", after := #[{ on := 5, ground := Go.Ground.data }, { on := 3, ground := Go.Ground.data }, { on := 6, ground := Go.Ground.chain }, { on := 0, ground := Go.Ground.phase }, { on := 1, ground := Go.Ground.phase }, { on := 2, ground := Go.Ground.phase }, { on := 3, ground := Go.Ground.phase }, { on := 4, ground := Go.Ground.phase }, { on := 5, ground := Go.Ground.phase }, { on := 6, ground := Go.Ground.phase }], guard := none }) rfl (fun K hK => ?_) ?_
            · go_simp

              refine hK.out _ _ (fun h => by cases h) ?_
              clear hK K
              try simp only [Act.put, List.setIfInBounds_toArray, List.set_cons_zero, List.set_cons_succ]
              refine lates_done (by kernel_rfl) ?_ _
              try simp only [Act.put, List.setIfInBounds_toArray, List.set_cons_zero, List.set_cons_succ]
              refine hk _ _ _ _ _ ⟨Below.drew (Below.alloc (Below.alloc (Below.alloc (Below.alloc (Below.refl _ _) (by simp) _) (by simp; try omega) _) (by simp; try omega) _) (by simp; try omega) _), ⟨?_, ?_, ?_, ?_⟩, ?_, ?_, ?_, ?_, ?_, ?_⟩ <;> first | (rw [drew_cell]; simp [go_sem]; done) | (simp; done) | (simp; omega) | omega
            exact AllLate.nil
          exact AllLate.nil
        exact AllLate.nil
      exact AllLate.nil
    refine AllLate.cons (o := { dst := some 4, op := Go.Op.alloc 57, type := 0, pos := "maps.go:37", after := #[], guard := none }) rfl (fun K hK => ?_) ?_
    · go_simp

      refine hK.out _ _ (fun _ => ?_) ?_
      · exact HS.out.alloc (by simp; try omega) _
      have HS := (show Hid (Below W.heap.size W _) from HS.out.alloc (by simp; try omega) (.cells #[.nilFunc] 57))
      clear hK K
      try simp only [Act.put, List.setIfInBounds_toArray, List.set_cons_zero, List.set_cons_succ]
      refine lates_ready (rs := [1]) (by kernel_rfl) (by simp) ?_
      refine AllLate.cons (o := { dst := some 8, op := Go.Op.call { callee := Go.Callee.value (Go.Operand.func 28), args := #[Go.Operand.tmp 7], argTypes := #[24] }, type := 57, pos := "maps.go:37", after := #[{ on := 0, ground := Go.Ground.data }], guard := none }) rfl (fun K hK => ?_) ?_
      · go_simp
        refine (inOrder_any na aa la ca _).mono ?_
        rintro e w1 ⟨rfl, rfl⟩
        refine hK.out _ _ (fun _ => ?_) ?_
        · exact HS.out.alloc (by simp; try omega) _
        have HS := (show Hid (Below W.heap.size W _) from HS.out.alloc (by simp; try omega) (.cells #[.int .i64 na, .slice aa la ca] 24))
        clear hK K
        try simp only [Act.put, List.setIfInBounds_toArray, List.set_cons_zero, List.set_cons_succ]
        refine lates_ready (rs := [3]) (by kernel_rfl) (by simp) ?_
        refine AllLate.cons (o := { dst := some 10, op := Go.Op.call { callee := Go.Callee.value (Go.Operand.func 28), args := #[Go.Operand.tmp 9], argTypes := #[24] }, type := 57, pos := "maps.go:37", after := #[{ on := 2, ground := Go.Ground.data }, { on := 1, ground := Go.Ground.chain }], guard := none }) rfl (fun K hK => ?_) ?_
        · go_simp
          refine (inOrder_any nb ab lb cb _).mono ?_
          rintro e w1 ⟨rfl, rfl⟩
          refine hK.out _ _ (fun _ => ?_) ?_
          · exact HS.out.alloc (by simp; try omega) _
          have HS := (show Hid (Below W.heap.size W _) from HS.out.alloc (by simp; try omega) (.cells #[.int .i64 nb, .slice ab lb cb] 24))
          clear hK K
          try simp only [Act.put, List.setIfInBounds_toArray, List.set_cons_zero, List.set_cons_succ]
          refine lates_ready (rs := [6]) (by kernel_rfl) (by simp) ?_
          refine AllLate.cons (o := { dst := none, op := Go.Op.store 57 (Go.Operand.tmp 4) (Go.Operand.tmp 8), type := 0, pos := "maps.go:37", after := #[{ on := 4, ground := Go.Ground.data }, { on := 1, ground := Go.Ground.data }, { on := 3, ground := Go.Ground.chain }, { on := 0, ground := Go.Ground.phase }, { on := 1, ground := Go.Ground.phase }, { on := 2, ground := Go.Ground.textOnly Go.Departure.lateStores }, { on := 3, ground := Go.Ground.textOnly Go.Departure.lateStoresUnsure }, { on := 4, ground := Go.Ground.phase }, { on := 5, ground := Go.Ground.phase }], guard := none }) rfl (fun K hK => ?_) ?_
          · go_simp

            refine hK.out _ _ (fun h => by cases h) ?_
            clear hK K
            try simp only [Act.put, List.setIfInBounds_toArray, List.set_cons_zero, List.set_cons_succ]
            refine lates_ready (rs := [7]) (by kernel_rfl) (by simp) ?_
            refine AllLate.cons (o := { dst := none, op := Go.Op.store 57 (Go.Operand.tmp 5) (Go.Operand.tmp 10), type := 0, pos := "maps.go:37", after := #[{ on := 5, ground := Go.Ground.data }, { on := 3, ground := Go.Ground.data }, { on := 6, ground := Go.Ground.chain }, { on := 0, ground := Go.Ground.phase }, { on := 1, ground := Go.Ground.phase }, { on := 2, ground := Go.Ground.phase }, { on := 3, ground := Go.Ground.phase }, { on := 4, ground := Go.Ground.phase }, { on := 5, ground := Go.Ground.phase }, { on := 6, ground := Go.Ground.phase }], guard := none }) rfl (fun K hK => ?_) ?_
            · go_simp

              refine hK.out _ _ (fun h => by cases h) ?_
              clear hK K
              try simp only [Act.put, List.setIfInBounds_toArray, List.set_cons_zero, List.set_cons_succ]
              refine lates_done (by kernel_rfl) ?_ _
              try simp only [Act.put, List.setIfInBounds_toArray, List.set_cons_zero, List.set_cons_succ]
              refine hk _ _ _ _ _ ⟨Below.drew (Below.alloc (Below.alloc (Below.alloc (Below.alloc (Below.refl _ _) (by simp) _) (by simp; try omega) _) (by simp; try omega) _) (by simp; try omega) _), ⟨?_, ?_, ?_, ?_⟩, ?_, ?_, ?_, ?_, ?_, ?_⟩ <;> first | (rw [drew_cell]; simp [go_sem]; done) | (simp; done) | (simp; omega) | omega
            exact AllLate.nil
          exact AllLate.nil
        exact AllLate.nil
      exact AllLate.nil
    exact AllLate.nil
  exact AllLate.nil
end Go.Proofs.YtfajgahofkcndaaDoor
