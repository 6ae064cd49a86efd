/-
  What scales.Best answers. Condition: a slice reads as a slice of numbers.
-/
import Derived.Test.YtipgojoiakbaiaaWoC
namespace Go.Proofs.Ytipgojoiakbaiaa
open Go.RowKit Go.Maps Go.WideMaps
set_option maxRecDepth 100000

theorem results_tmp4 {fn : Func} {s t u v : Tmp} (h : fn.results = #[.tmp s, .tmp t, .tmp u, .tmp v]) (tmps : Array Value) (P : Program) (w : World) :
    (results fn tmps).run P w = .ok (.tuple #[tmps.getD s undef, tmps.getD t undef, tmps.getD u undef, tmps.getD v undef]) w := by
  simp [results, h]
theorem wb_of {X wa : World} (h : X.alloc (.cells #[.int .i64 0, .int .i64 0, .int .i64 0] 55) = wa) : Hid (WB wa X.heap.size 0 0 0) := by rw [← h]; exact WB.new _ 0 0 0
theorem mok_of {n Bm k : Nat} {X wa : World} {o : Obj} {D : DataW Value} (h : Hid (MOk n Bm k X D)) (e : X.alloc o = wa) : Hid (MOk n Bm k wa D) := by rw [← e]; exact h.out.kept (World.grownBy_alloc _ _ none)
theorem wb_set {wn wz : World} {b : Nat} {x y z : Int} (h : Hid (WB wn b 0 0 0)) (e : ((wn.setCell ⟨b, 0, none⟩ (.int .i64 x)).setCell ⟨b, 1, none⟩ (.int .i64 y)).setCell ⟨b, 2, none⟩ (.int .i64 z) = wz) : Hid (WB wz b x y z) := by rw [← e]; exact h.out.set3 x y z
def BestPost (n : Int) (len : Nat) (f : Nat → Int) (e : Ending) : Prop := ∃ (c x y : Int) (v : Bool), e = .returned (.tuple #[.int .i64 x, .int .i64 y, .bool v, .int .i64 c]) ∧ WCk n len f c ∧ ((c ≠ 0 ∧ x = 0 ∧ y = 0 ∧ v = false) ∨ (c = 0 ∧ x = ((nx len (knw (nat f) len)).a : Nat) ∧ y = ((nx len (knw (nat f) len)).b : Nat) ∧ v = decide (0 < cst len (knw (nat f) len))))
set_option maxHeartbeats 4000000 in
theorem best_any (n : Int) (a : Option Addr) (len cap : Nat) (f : Nat → Int) (w : World) (hl : len ≤ maxLen) (hr : Row w a len f) :
    Calls Try.prog 14 #[.agg #[.int .i64 n, .slice a len cap]] w fun e w' => BestPost n len f e ∧ Below w.heap.size w w' := by
  have K0 : Held (w.alloc (.cells #[.int .i64 n, .slice a len cap] 24)) w.heap.size n a len cap f := Held.box hr
  have HB0 : Hid (Below w.heap.size w (w.alloc (.cells #[.int .i64 n, .slice a len cap] 24))) := (Below.refl _ _).alloc (Nat.le_refl _) _
  clear hr
  go_enter Try.func14, Try.ntmps14
  go_wp2_with fail
  refine (scheck_any n a len cap f _ hl K0.row).mono ?_
  rintro e w1 ⟨⟨c, rfl, hc⟩, hb⟩
  have K1 := K0.step hb
  have HB1 : Hid (Below w.heap.size w w1) := Below.then HB0.out hb
  have HC : Hid (WCk n len f c) := hc
  clear hb K0 HB0 hc
  by_cases h0 : c = 0
  · subst h0
    obtain ⟨rfl, h5, hrng, hord⟩ := HC.out.good
    have HWK : Hid (WOk len (knw (nat f) len)) := HC.out.wok
    have HR : Hid (∀ wx, Below w1.heap.size w1 wx → Row wx a len (fun k => (nat f k : Nat))) := fun wx h => hrng.row (K1.step h).row
    have hc0 : ∀ wx, Below w1.heap.size w1 wx → wx.cell? ⟨w.heap.size, 0, none⟩ = some (.int .i64 (len : Nat)) := fun wx h => (K1.step h).c0
    have hc1 : ∀ wx, Below w1.heap.size w1 wx → wx.cell? ⟨w.heap.size, 1, none⟩ = some (.slice a len cap) := fun wx h => (K1.step h).c1
    have HB2 : Hid (Below w1.heap.size w1 w1) := Below.refl _ _
    clear hrng hord K1
    go_wp2_with fail
    refine wp_region_held_drew (S := (fun w' => Below w1.heap.size w1 w')) (by kernel_rfl) (HB2.out.drew) (fun hHeld => ?_)
    generalize hwd : w1.drew = wd at hHeld ⊢
    clear hwd
    refine wpAnyH_take (i := 0) (oi := { dst := some 13, op := Go.Op.fieldAddr 24 (Go.Operand.tmp 1) 0, type := 0, pos := "scales.go:23", after := #[], guard := none }) (v := ?_) rfl (by kernel_rfl) (by kernel_rfl) (by kernel_rfl) (fun _ _ _ h => h) (Or.inl ⟨by rfl, ?hy⟩) (by assumption) ?_
    case hy => (intro w9 hSw; (try dsimp only at hSw); go_simp; try with_reducible rfl)
    try simp only [Act.put, List.setIfInBounds_toArray, List.set_cons_zero, List.set_cons_succ]
    refine wpAnyH_take (i := 1) (oi := { dst := some 14, op := Go.Op.load 3 (Go.Operand.tmp 13), type := 3, pos := "scales.go:23", after := #[{ on := 0, ground := Go.Ground.data }], guard := none }) (v := ?_) rfl (by kernel_rfl) (by kernel_rfl) (by kernel_rfl) (fun _ _ _ h => h) (Or.inl ⟨by rfl, ?hy⟩) (by assumption) ?_
    case hy => (intro w9 hSw; (try dsimp only at hSw); go_simp; try with_reducible rfl)
    try simp only [Act.put, List.setIfInBounds_toArray, List.set_cons_zero, List.set_cons_succ]
    refine wpAnyH_take (i := 3) (oi := { dst := some 16, op := Go.Op.load 24 (Go.Operand.tmp 1), type := 24, pos := "scales.go:23", after := #[], guard := none }) (v := ?_) rfl (by kernel_rfl) (by kernel_rfl) (by kernel_rfl) (fun _ _ _ h => h) (Or.inl ⟨by rfl, ?hy⟩) (by assumption) ?_
    case hy => (intro w9 hSw; (try dsimp only at hSw); go_simp; try with_reducible rfl)
    try simp only [Act.put, List.setIfInBounds_toArray, List.set_cons_zero, List.set_cons_succ]
    refine wpAnyH_ready (rs := [2, 6]) (by kernel_rfl) (by simp) ?_
    refine AllReadyH.cons (o := { dst := some 15, op := Go.Op.call { callee := Go.Callee.value (Go.Operand.func 29), args := #[Go.Operand.tmp 14], argTypes := #[3] }, type := 58, pos := "scales.go:23", after := #[{ on := 1, ground := Go.Ground.data }], guard := none }) rfl (fun K hK => ?_) ?_
    · go_simp
      refine (tableOf_any len _).mono ?_
      rintro e wt ⟨⟨Bm, rfl, hBm, hmt⟩, hbt⟩
      have hBmH : Hid (w1.heap.size ≤ Bm) := Nat.le_trans hHeld.size hBm
      refine hK.out _ _ ?_ (fun hHeld => ?_)
      · first | exact below_fresh hHeld hgn hBmH.out | exact Below.then hHeld hbt | exact Below.then hHeld hbk | exact Below.alloc hHeld hHeld.size _ | exact Below.setCell (p := ⟨_, 2, none⟩) (Below.setCell (p := ⟨_, 1, none⟩) (Below.setCell (p := ⟨_, 0, none⟩) hHeld HBX.out _) HBX.out _) HBX.out _
      clear hK K
      try simp only [Act.put, List.setIfInBounds_toArray, List.set_cons_zero, List.set_cons_succ]
      have HM : Hid (MOk len Bm 0 wt _) := hmt
      try (have HWB : Hid (WB wt _ 0 0 0) := HWB.out.keep hbt (World.block_lt_of_cell? _ _ HWB.out.1.1))
      refine wpAnyH_ready (rs := [4, 6]) (by kernel_rfl) (by simp) ?_
      refine AllReadyH.cons (o := { dst := some 17, op := Go.Op.call { callee := Go.Callee.value (Go.Operand.func 31), args := #[Go.Operand.tmp 16], argTypes := #[24] }, type := 62, pos := "scales.go:23", after := #[{ on := 3, ground := Go.Ground.data }, { on := 2, ground := Go.Ground.chain }], guard := none }) rfl (fun K hK => ?_) ?_
      · go_simp
        refine (knownOf_any len a cap (nat f) _ h5 (HR.out _ (by assumption))).mono ?_
        rintro e wk ⟨rfl, hbk⟩
        refine hK.out _ _ ?_ (fun hHeld => ?_)
        · first | exact below_fresh hHeld hgn hBmH.out | exact Below.then hHeld hbt | exact Below.then hHeld hbk | exact Below.alloc hHeld hHeld.size _ | exact Below.setCell (p := ⟨_, 2, none⟩) (Below.setCell (p := ⟨_, 1, none⟩) (Below.setCell (p := ⟨_, 0, none⟩) hHeld HBX.out _) HBX.out _) HBX.out _
        clear hK K
        try simp only [Act.put, List.setIfInBounds_toArray, List.set_cons_zero, List.set_cons_succ]
        have HM : Hid (MOk len Bm 0 wk _) := HM.out.kept (grown_of_below hbk _)
        try (have HWB : Hid (WB wk _ 0 0 0) := HWB.out.keep hbk (World.block_lt_of_cell? _ _ HWB.out.1.1))
        refine wpAnyH_ready (rs := [5, 6]) (by kernel_rfl) (by simp) ?_
        refine AllReadyH.cons (o := { dst := some 18, op := Go.Op.call { callee := Go.Callee.value (Go.Operand.func 30), args := #[Go.Operand.tmp 15, Go.Operand.tmp 17], argTypes := #[58, 62] }, type := 55, pos := "scales.go:23", after := #[{ on := 2, ground := Go.Ground.data }, { on := 4, ground := Go.Ground.data }, { on := 4, ground := Go.Ground.chain }], guard := none }) rfl (fun K hK => ?_) ?_
        · go_simp
          refine (next_any (knw (nat f) len) _ _ 0 HWK.out HM.out room0).mono ?_
          rintro e wn ⟨rfl, hgn, Dn, hmn⟩
          unfold wgV
          refine hK.out _ _ ?_ (fun hHeld => ?_)
          · first | exact below_fresh hHeld hgn hBmH.out | exact Below.then hHeld hbt | exact Below.then hHeld hbk | exact Below.alloc hHeld hHeld.size _ | exact Below.setCell (p := ⟨_, 2, none⟩) (Below.setCell (p := ⟨_, 1, none⟩) (Below.setCell (p := ⟨_, 0, none⟩) hHeld HBX.out _) HBX.out _) HBX.out _
          clear hK K
          try simp only [Act.put, List.setIfInBounds_toArray, List.set_cons_zero, List.set_cons_succ]
          try (have HWB : Hid (WB wn _ 0 0 0) := HWB.out.but hgn (ne_map HM.out.own HWB.out.1.1))
          try (have m0 := HWB.out.1.1; have m1 := HWB.out.2.1.1; have m2 := HWB.out.2.2.1; have y0 := HWB.out.1.2; have y1 := HWB.out.2.1.2; have y2 := HWB.out.2.2.2)
          refine wpAnyH_ready (rs := [6]) (by kernel_rfl) (by simp) ?_
          refine AllReadyH.cons (o := { dst := some 7, op := Go.Op.alloc 55, type := 0, pos := "scales.go:23", after := #[], guard := none }) rfl (fun K hK => ?_) AllReadyH.nil
          go_simp
          have HBX : Hid (w1.heap.size ≤ _) := hHeld.size
          refine hK.out _ _ ?_ (fun hHeld => ?_)
          · first | exact below_fresh hHeld hgn hBmH.out | exact Below.then hHeld hbt | exact Below.then hHeld hbk | exact Below.alloc hHeld hHeld.size _ | exact Below.setCell (p := ⟨_, 2, none⟩) (Below.setCell (p := ⟨_, 1, none⟩) (Below.setCell (p := ⟨_, 0, none⟩) hHeld HBX.out _) HBX.out _) HBX.out _
          clear hK K
          try simp only [Act.put, List.setIfInBounds_toArray, List.set_cons_zero, List.set_cons_succ]
          generalize hwa : World.alloc _ _ = wa at hHeld ⊢
          have HWB := wb_of hwa
          try (have HM := mok_of HM hwa)
          have m0 := HWB.out.1.1
          have m1 := HWB.out.2.1.1
          have m2 := HWB.out.2.2.1
          have y0 := HWB.out.1.2
          have y1 := HWB.out.2.1.2
          have y2 := HWB.out.2.2.2
          clear hwa
          refine wpAnyH_ready (rs := [7]) (by kernel_rfl) (by simp) ?_
          refine AllReadyH.cons (o := { dst := none, op := Go.Op.store 55 (Go.Operand.tmp 7) (Go.Operand.tmp 18), type := 0, pos := "scales.go:23", after := #[{ on := 6, ground := Go.Ground.data }, { on := 5, ground := Go.Ground.data }, { on := 5, ground := Go.Ground.chain }, { on := 0, ground := Go.Ground.phase }, { on := 1, ground := Go.Ground.phase }, { on := 2, ground := Go.Ground.phase }, { on := 3, ground := Go.Ground.phase }, { on := 4, ground := Go.Ground.phase }, { on := 5, ground := Go.Ground.phase }, { on := 6, ground := Go.Ground.phase }], guard := none }) rfl (fun K hK => ?_) AllReadyH.nil
          go_simp
          skip
          refine hK.out _ _ ?_ (fun hHeld => ?_)
          · first | exact below_fresh hHeld hgn hBmH.out | exact Below.then hHeld hbt | exact Below.then hHeld hbk | exact Below.alloc hHeld hHeld.size _ | exact Below.setCell (p := ⟨_, 2, none⟩) (Below.setCell (p := ⟨_, 1, none⟩) (Below.setCell (p := ⟨_, 0, none⟩) hHeld HBX.out _) HBX.out _) HBX.out _
          clear hK K
          try simp only [Act.put, List.setIfInBounds_toArray, List.set_cons_zero, List.set_cons_succ]
          refine wpAnyH_done (by kernel_rfl) ?_ _
          try simp only [Act.put, List.setIfInBounds_toArray, List.set_cons_zero, List.set_cons_succ]
          generalize hwz : World.setCell _ _ _ = wz at hHeld ⊢
          have HW9 := wb_set HWB hwz
          have HB9 : Hid (Below w.heap.size w wz) := Below.then HB1.out hHeld
          have q0 := HW9.out.1.1
          have q1 := HW9.out.2.1.1
          have q2 := HW9.out.2.2.1
          clear hwz HW9 HWB HM hmn hgn hHeld hc0 hc1 m0 m1 m2 y0 y1 y2
          go_wp2_with fail
          go_region
          go_wp2_with fail
          exact bodyPost_ret (results_tmp4 rfl _ _ _) rfl ⟨⟨0, _, _, _, rfl, HC.out, .inr ⟨rfl, rfl, rfl, decide_eq_decide.2 (by unfold cst; omega)⟩⟩, HB9.out.drew⟩
        refine AllReadyH.cons (o := { dst := some 7, op := Go.Op.alloc 55, type := 0, pos := "scales.go:23", after := #[], guard := none }) rfl (fun K hK => ?_) ?_
        · go_simp
          have HBX : Hid (w1.heap.size ≤ _) := hHeld.size
          refine hK.out _ _ ?_ (fun hHeld => ?_)
          · first | exact below_fresh hHeld hgn hBmH.out | exact Below.then hHeld hbt | exact Below.then hHeld hbk | exact Below.alloc hHeld hHeld.size _ | exact Below.setCell (p := ⟨_, 2, none⟩) (Below.setCell (p := ⟨_, 1, none⟩) (Below.setCell (p := ⟨_, 0, none⟩) hHeld HBX.out _) HBX.out _) HBX.out _
          clear hK K
          try simp only [Act.put, List.setIfInBounds_toArray, List.set_cons_zero, List.set_cons_succ]
          generalize hwa : World.alloc _ _ = wa at hHeld ⊢
          have HWB := wb_of hwa
          try (have HM := mok_of HM hwa)
          have m0 := HWB.out.1.1
          have m1 := HWB.out.2.1.1
          have m2 := HWB.out.2.2.1
          have y0 := HWB.out.1.2
          have y1 := HWB.out.2.1.2
          have y2 := HWB.out.2.2.2
          clear hwa
          refine wpAnyH_ready (rs := [5]) (by kernel_rfl) (by simp) ?_
          refine AllReadyH.cons (o := { dst := some 18, op := Go.Op.call { callee := Go.Callee.value (Go.Operand.func 30), args := #[Go.Operand.tmp 15, Go.Operand.tmp 17], argTypes := #[58, 62] }, type := 55, pos := "scales.go:23", after := #[{ on := 2, ground := Go.Ground.data }, { on := 4, ground := Go.Ground.data }, { on := 4, ground := Go.Ground.chain }], guard := none }) rfl (fun K hK => ?_) AllReadyH.nil
          go_simp
          refine (next_any (knw (nat f) len) _ _ 0 HWK.out HM.out room0).mono ?_
          rintro e wn ⟨rfl, hgn, Dn, hmn⟩
          unfold wgV
          refine hK.out _ _ ?_ (fun hHeld => ?_)
          · first | exact below_fresh hHeld hgn hBmH.out | exact Below.then hHeld hbt | exact Below.then hHeld hbk | exact Below.alloc hHeld hHeld.size _ | exact Below.setCell (p := ⟨_, 2, none⟩) (Below.setCell (p := ⟨_, 1, none⟩) (Below.setCell (p := ⟨_, 0, none⟩) hHeld HBX.out _) HBX.out _) HBX.out _
          clear hK K
          try simp only [Act.put, List.setIfInBounds_toArray, List.set_cons_zero, List.set_cons_succ]
          try (have HWB : Hid (WB wn _ 0 0 0) := HWB.out.but hgn (ne_map HM.out.own HWB.out.1.1))
          try (have m0 := HWB.out.1.1; have m1 := HWB.out.2.1.1; have m2 := HWB.out.2.2.1; have y0 := HWB.out.1.2; have y1 := HWB.out.2.1.2; have y2 := HWB.out.2.2.2)
          refine wpAnyH_ready (rs := [7]) (by kernel_rfl) (by simp) ?_
          refine AllReadyH.cons (o := { dst := none, op := Go.Op.store 55 (Go.Operand.tmp 7) (Go.Operand.tmp 18), type := 0, pos := "scales.go:23", after := #[{ on := 6, ground := Go.Ground.data }, { on := 5, ground := Go.Ground.data }, { on := 5, ground := Go.Ground.chain }, { on := 0, ground := Go.Ground.phase }, { on := 1, ground := Go.Ground.phase }, { on := 2, ground := Go.Ground.phase }, { on := 3, ground := Go.Ground.phase }, { on := 4, ground := Go.Ground.phase }, { on := 5, ground := Go.Ground.phase }, { on := 6, ground := Go.Ground.phase }], guard := none }) rfl (fun K hK => ?_) AllReadyH.nil
          go_simp
          skip
          refine hK.out _ _ ?_ (fun hHeld => ?_)
          · first | exact below_fresh hHeld hgn hBmH.out | exact Below.then hHeld hbt | exact Below.then hHeld hbk | exact Below.alloc hHeld hHeld.size _ | exact Below.setCell (p := ⟨_, 2, none⟩) (Below.setCell (p := ⟨_, 1, none⟩) (Below.setCell (p := ⟨_, 0, none⟩) hHeld HBX.out _) HBX.out _) HBX.out _
          clear hK K
          try simp only [Act.put, List.setIfInBounds_toArray, List.set_cons_zero, List.set_cons_succ]
          refine wpAnyH_done (by kernel_rfl) ?_ _
          try simp only [Act.put, List.setIfInBounds_toArray, List.set_cons_zero, List.set_cons_succ]
          generalize hwz : World.setCell _ _ _ = wz at hHeld ⊢
          have HW9 := wb_set HWB hwz
          have HB9 : Hid (Below w.heap.size w wz) := Below.then HB1.out hHeld
          have q0 := HW9.out.1.1
          have q1 := HW9.out.2.1.1
          have q2 := HW9.out.2.2.1
          clear hwz HW9 HWB HM hmn hgn hHeld hc0 hc1 m0 m1 m2 y0 y1 y2
          go_wp2_with fail
          go_region
          go_wp2_with fail
          exact bodyPost_ret (results_tmp4 rfl _ _ _) rfl ⟨⟨0, _, _, _, rfl, HC.out, .inr ⟨rfl, rfl, rfl, decide_eq_decide.2 (by unfold cst; omega)⟩⟩, HB9.out.drew⟩
        exact AllReadyH.nil
      refine AllReadyH.cons (o := { dst := some 7, op := Go.Op.alloc 55, type := 0, pos := "scales.go:23", after := #[], guard := none }) rfl (fun K hK => ?_) ?_
      · go_simp
        have HBX : Hid (w1.heap.size ≤ _) := hHeld.size
        refine hK.out _ _ ?_ (fun hHeld => ?_)
        · first | exact below_fresh hHeld hgn hBmH.out | exact Below.then hHeld hbt | exact Below.then hHeld hbk | exact Below.alloc hHeld hHeld.size _ | exact Below.setCell (p := ⟨_, 2, none⟩) (Below.setCell (p := ⟨_, 1, none⟩) (Below.setCell (p := ⟨_, 0, none⟩) hHeld HBX.out _) HBX.out _) HBX.out _
        clear hK K
        try simp only [Act.put, List.setIfInBounds_toArray, List.set_cons_zero, List.set_cons_succ]
        generalize hwa : World.alloc _ _ = wa at hHeld ⊢
        have HWB := wb_of hwa
        try (have HM := mok_of HM hwa)
        have m0 := HWB.out.1.1
        have m1 := HWB.out.2.1.1
        have m2 := HWB.out.2.2.1
        have y0 := HWB.out.1.2
        have y1 := HWB.out.2.1.2
        have y2 := HWB.out.2.2.2
        clear hwa
        refine wpAnyH_ready (rs := [4]) (by kernel_rfl) (by simp) ?_
        refine AllReadyH.cons (o := { dst := some 17, op := Go.Op.call { callee := Go.Callee.value (Go.Operand.func 31), args := #[Go.Operand.tmp 16], argTypes := #[24] }, type := 62, pos := "scales.go:23", after := #[{ on := 3, ground := Go.Ground.data }, { on := 2, ground := Go.Ground.chain }], guard := none }) rfl (fun K hK => ?_) AllReadyH.nil
        go_simp
        refine (knownOf_any len a cap (nat f) _ h5 (HR.out _ (by assumption))).mono ?_
        rintro e wk ⟨rfl, hbk⟩
        refine hK.out _ _ ?_ (fun hHeld => ?_)
        · first | exact below_fresh hHeld hgn hBmH.out | exact Below.then hHeld hbt | exact Below.then hHeld hbk | exact Below.alloc hHeld hHeld.size _ | exact Below.setCell (p := ⟨_, 2, none⟩) (Below.setCell (p := ⟨_, 1, none⟩) (Below.setCell (p := ⟨_, 0, none⟩) hHeld HBX.out _) HBX.out _) HBX.out _
        clear hK K
        try simp only [Act.put, List.setIfInBounds_toArray, List.set_cons_zero, List.set_cons_succ]
        have HM : Hid (MOk len Bm 0 wk _) := HM.out.kept (grown_of_below hbk _)
        try (have HWB : Hid (WB wk _ 0 0 0) := HWB.out.keep hbk (World.block_lt_of_cell? _ _ HWB.out.1.1))
        refine wpAnyH_ready (rs := [5]) (by kernel_rfl) (by simp) ?_
        refine AllReadyH.cons (o := { dst := some 18, op := Go.Op.call { callee := Go.Callee.value (Go.Operand.func 30), args := #[Go.Operand.tmp 15, Go.Operand.tmp 17], argTypes := #[58, 62] }, type := 55, pos := "scales.go:23", after := #[{ on := 2, ground := Go.Ground.data }, { on := 4, ground := Go.Ground.data }, { on := 4, ground := Go.Ground.chain }], guard := none }) rfl (fun K hK => ?_) AllReadyH.nil
        go_simp
        refine (next_any (knw (nat f) len) _ _ 0 HWK.out HM.out room0).mono ?_
        rintro e wn ⟨rfl, hgn, Dn, hmn⟩
        unfold wgV
        refine hK.out _ _ ?_ (fun hHeld => ?_)
        · first | exact below_fresh hHeld hgn hBmH.out | exact Below.then hHeld hbt | exact Below.then hHeld hbk | exact Below.alloc hHeld hHeld.size _ | exact Below.setCell (p := ⟨_, 2, none⟩) (Below.setCell (p := ⟨_, 1, none⟩) (Below.setCell (p := ⟨_, 0, none⟩) hHeld HBX.out _) HBX.out _) HBX.out _
        clear hK K
        try simp only [Act.put, List.setIfInBounds_toArray, List.set_cons_zero, List.set_cons_succ]
        try (have HWB : Hid (WB wn _ 0 0 0) := HWB.out.but hgn (ne_map HM.out.own HWB.out.1.1))
        try (have m0 := HWB.out.1.1; have m1 := HWB.out.2.1.1; have m2 := HWB.out.2.2.1; have y0 := HWB.out.1.2; have y1 := HWB.out.2.1.2; have y2 := HWB.out.2.2.2)
        refine wpAnyH_ready (rs := [7]) (by kernel_rfl) (by simp) ?_
        refine AllReadyH.cons (o := { dst := none, op := Go.Op.store 55 (Go.Operand.tmp 7) (Go.Operand.tmp 18), type := 0, pos := "scales.go:23", after := #[{ on := 6, ground := Go.Ground.data }, { on := 5, ground := Go.Ground.data }, { on := 5, ground := Go.Ground.chain }, { on := 0, ground := Go.Ground.phase }, { on := 1, ground := Go.Ground.phase }, { on := 2, ground := Go.Ground.phase }, { on := 3, ground := Go.Ground.phase }, { on := 4, ground := Go.Ground.phase }, { on := 5, ground := Go.Ground.phase }, { on := 6, ground := Go.Ground.phase }], guard := none }) rfl (fun K hK => ?_) AllReadyH.nil
        go_simp
        skip
        refine hK.out _ _ ?_ (fun hHeld => ?_)
        · first | exact below_fresh hHeld hgn hBmH.out | exact Below.then hHeld hbt | exact Below.then hHeld hbk | exact Below.alloc hHeld hHeld.size _ | exact Below.setCell (p := ⟨_, 2, none⟩) (Below.setCell (p := ⟨_, 1, none⟩) (Below.setCell (p := ⟨_, 0, none⟩) hHeld HBX.out _) HBX.out _) HBX.out _
        clear hK K
        try simp only [Act.put, List.setIfInBounds_toArray, List.set_cons_zero, List.set_cons_succ]
        refine wpAnyH_done (by kernel_rfl) ?_ _
        try simp only [Act.put, List.setIfInBounds_toArray, List.set_cons_zero, List.set_cons_succ]
        generalize hwz : World.setCell _ _ _ = wz at hHeld ⊢
        have HW9 := wb_set HWB hwz
        have HB9 : Hid (Below w.heap.size w wz) := Below.then HB1.out hHeld
        have q0 := HW9.out.1.1
        have q1 := HW9.out.2.1.1
        have q2 := HW9.out.2.2.1
        clear hwz HW9 HWB HM hmn hgn hHeld hc0 hc1 m0 m1 m2 y0 y1 y2
        go_wp2_with fail
        go_region
        go_wp2_with fail
        exact bodyPost_ret (results_tmp4 rfl _ _ _) rfl ⟨⟨0, _, _, _, rfl, HC.out, .inr ⟨rfl, rfl, rfl, decide_eq_decide.2 (by unfold cst; omega)⟩⟩, HB9.out.drew⟩
      exact AllReadyH.nil
    refine AllReadyH.cons (o := { dst := some 7, op := Go.Op.alloc 55, type := 0, pos := "scales.go:23", after := #[], guard := none }) rfl (fun K hK => ?_) ?_
    · go_simp
      have HBX : Hid (w1.heap.size ≤ _) := hHeld.size
      refine hK.out _ _ ?_ (fun hHeld => ?_)
      · first | exact below_fresh hHeld hgn hBmH.out | exact Below.then hHeld hbt | exact Below.then hHeld hbk | exact Below.alloc hHeld hHeld.size _ | exact Below.setCell (p := ⟨_, 2, none⟩) (Below.setCell (p := ⟨_, 1, none⟩) (Below.setCell (p := ⟨_, 0, none⟩) hHeld HBX.out _) HBX.out _) HBX.out _
      clear hK K
      try simp only [Act.put, List.setIfInBounds_toArray, List.set_cons_zero, List.set_cons_succ]
      generalize hwa : World.alloc _ _ = wa at hHeld ⊢
      have HWB := wb_of hwa
      try (have HM := mok_of HM hwa)
      have m0 := HWB.out.1.1
      have m1 := HWB.out.2.1.1
      have m2 := HWB.out.2.2.1
      have y0 := HWB.out.1.2
      have y1 := HWB.out.2.1.2
      have y2 := HWB.out.2.2.2
      clear hwa
      refine wpAnyH_ready (rs := [2]) (by kernel_rfl) (by simp) ?_
      refine AllReadyH.cons (o := { dst := some 15, op := Go.Op.call { callee := Go.Callee.value (Go.Operand.func 29), args := #[Go.Operand.tmp 14], argTypes := #[3] }, type := 58, pos := "scales.go:23", after := #[{ on := 1, ground := Go.Ground.data }], guard := none }) rfl (fun K hK => ?_) AllReadyH.nil
      go_simp
      refine (tableOf_any len _).mono ?_
      rintro e wt ⟨⟨Bm, rfl, hBm, hmt⟩, hbt⟩
      have hBmH : Hid (w1.heap.size ≤ Bm) := Nat.le_trans hHeld.size hBm
      refine hK.out _ _ ?_ (fun hHeld => ?_)
      · first | exact below_fresh hHeld hgn hBmH.out | exact Below.then hHeld hbt | exact Below.then hHeld hbk | exact Below.alloc hHeld hHeld.size _ | exact Below.setCell (p := ⟨_, 2, none⟩) (Below.setCell (p := ⟨_, 1, none⟩) (Below.setCell (p := ⟨_, 0, none⟩) hHeld HBX.out _) HBX.out _) HBX.out _
      clear hK K
      try simp only [Act.put, List.setIfInBounds_toArray, List.set_cons_zero, List.set_cons_succ]
      have HM : Hid (MOk len Bm 0 wt _) := hmt
      try (have HWB : Hid (WB wt _ 0 0 0) := HWB.out.keep hbt (World.block_lt_of_cell? _ _ HWB.out.1.1))
      refine wpAnyH_ready (rs := [4]) (by kernel_rfl) (by simp) ?_
      refine AllReadyH.cons (o := { dst := some 17, op := Go.Op.call { callee := Go.Callee.value (Go.Operand.func 31), args := #[Go.Operand.tmp 16], argTypes := #[24] }, type := 62, pos := "scales.go:23", after := #[{ on := 3, ground := Go.Ground.data }, { on := 2, ground := Go.Ground.chain }], guard := none }) rfl (fun K hK => ?_) AllReadyH.nil
      go_simp
      refine (knownOf_any len a cap (nat f) _ h5 (HR.out _ (by assumption))).mono ?_
      rintro e wk ⟨rfl, hbk⟩
      refine hK.out _ _ ?_ (fun hHeld => ?_)
      · first | exact below_fresh hHeld hgn hBmH.out | exact Below.then hHeld hbt | exact Below.then hHeld hbk | exact Below.alloc hHeld hHeld.size _ | exact Below.setCell (p := ⟨_, 2, none⟩) (Below.setCell (p := ⟨_, 1, none⟩) (Below.setCell (p := ⟨_, 0, none⟩) hHeld HBX.out _) HBX.out _) HBX.out _
      clear hK K
      try simp only [Act.put, List.setIfInBounds_toArray, List.set_cons_zero, List.set_cons_succ]
      have HM : Hid (MOk len Bm 0 wk _) := HM.out.kept (grown_of_below hbk _)
      try (have HWB : Hid (WB wk _ 0 0 0) := HWB.out.keep hbk (World.block_lt_of_cell? _ _ HWB.out.1.1))
      refine wpAnyH_ready (rs := [5]) (by kernel_rfl) (by simp) ?_
      refine AllReadyH.cons (o := { dst := some 18, op := Go.Op.call { callee := Go.Callee.value (Go.Operand.func 30), args := #[Go.Operand.tmp 15, Go.Operand.tmp 17], argTypes := #[58, 62] }, type := 55, pos := "scales.go:23", after := #[{ on := 2, ground := Go.Ground.data }, { on := 4, ground := Go.Ground.data }, { on := 4, ground := Go.Ground.chain }], guard := none }) rfl (fun K hK => ?_) AllReadyH.nil
      go_simp
      refine (next_any (knw (nat f) len) _ _ 0 HWK.out HM.out room0).mono ?_
      rintro e wn ⟨rfl, hgn, Dn, hmn⟩
      unfold wgV
      refine hK.out _ _ ?_ (fun hHeld => ?_)
      · first | exact below_fresh hHeld hgn hBmH.out | exact Below.then hHeld hbt | exact Below.then hHeld hbk | exact Below.alloc hHeld hHeld.size _ | exact Below.setCell (p := ⟨_, 2, none⟩) (Below.setCell (p := ⟨_, 1, none⟩) (Below.setCell (p := ⟨_, 0, none⟩) hHeld HBX.out _) HBX.out _) HBX.out _
      clear hK K
      try simp only [Act.put, List.setIfInBounds_toArray, List.set_cons_zero, List.set_cons_succ]
      try (have HWB : Hid (WB wn _ 0 0 0) := HWB.out.but hgn (ne_map HM.out.own HWB.out.1.1))
      try (have m0 := HWB.out.1.1; have m1 := HWB.out.2.1.1; have m2 := HWB.out.2.2.1; have y0 := HWB.out.1.2; have y1 := HWB.out.2.1.2; have y2 := HWB.out.2.2.2)
      refine wpAnyH_ready (rs := [7]) (by kernel_rfl) (by simp) ?_
      refine AllReadyH.cons (o := { dst := none, op := Go.Op.store 55 (Go.Operand.tmp 7) (Go.Operand.tmp 18), type := 0, pos := "scales.go:23", after := #[{ on := 6, ground := Go.Ground.data }, { on := 5, ground := Go.Ground.data }, { on := 5, ground := Go.Ground.chain }, { on := 0, ground := Go.Ground.phase }, { on := 1, ground := Go.Ground.phase }, { on := 2, ground := Go.Ground.phase }, { on := 3, ground := Go.Ground.phase }, { on := 4, ground := Go.Ground.phase }, { on := 5, ground := Go.Ground.phase }, { on := 6, ground := Go.Ground.phase }], guard := none }) rfl (fun K hK => ?_) AllReadyH.nil
      go_simp
      skip
      refine hK.out _ _ ?_ (fun hHeld => ?_)
      · first | exact below_fresh hHeld hgn hBmH.out | exact Below.then hHeld hbt | exact Below.then hHeld hbk | exact Below.alloc hHeld hHeld.size _ | exact Below.setCell (p := ⟨_, 2, none⟩) (Below.setCell (p := ⟨_, 1, none⟩) (Below.setCell (p := ⟨_, 0, none⟩) hHeld HBX.out _) HBX.out _) HBX.out _
      clear hK K
      try simp only [Act.put, List.setIfInBounds_toArray, List.set_cons_zero, List.set_cons_succ]
      refine wpAnyH_done (by kernel_rfl) ?_ _
      try simp only [Act.put, List.setIfInBounds_toArray, List.set_cons_zero, List.set_cons_succ]
      generalize hwz : World.setCell _ _ _ = wz at hHeld ⊢
      have HW9 := wb_set HWB hwz
      have HB9 : Hid (Below w.heap.size w wz) := Below.then HB1.out hHeld
      have q0 := HW9.out.1.1
      have q1 := HW9.out.2.1.1
      have q2 := HW9.out.2.2.1
      clear hwz HW9 HWB HM hmn hgn hHeld hc0 hc1 m0 m1 m2 y0 y1 y2
      go_wp2_with fail
      go_region
      go_wp2_with fail
      exact bodyPost_ret (results_tmp4 rfl _ _ _) rfl ⟨⟨0, _, _, _, rfl, HC.out, .inr ⟨rfl, rfl, rfl, decide_eq_decide.2 (by unfold cst; omega)⟩⟩, HB9.out.drew⟩
    exact AllReadyH.nil
  · have hne : (c != 0) = true := by simpa using h0
    clear K1
    go_wp2_with fail
    exact bodyPost_ret (results_tmp4 rfl _ _ _) rfl ⟨⟨c, 0, 0, false, rfl, HC.out, .inl ⟨h0, rfl, rfl, rfl⟩⟩, HB1.out⟩
end Go.Proofs.Ytipgojoiakbaiaa
