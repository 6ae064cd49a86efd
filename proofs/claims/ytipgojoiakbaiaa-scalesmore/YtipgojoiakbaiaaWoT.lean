/-
  What the reference's Also and ToldIn answer. Conditions: an order of at most five points.
-/
import Derived.Test.YtipgojoiakbaiaaWoR
namespace Go.Proofs.Ytipgojoiakbaiaa
open Go.RowKit
set_option maxRecDepth 100000

theorem cell_far {W : World} (o : Obj) {a : Addr} {v : Value} (h : W.cell? a = some v) : (W.alloc o).cell? a = some v := (World.cell?_alloc_lt _ _ _ (World.block_lt_of_cell? _ _ h)).trans h
theorem cell_newB (W : World) (v : Value) (T : TypeId) (b : Nat) (hb : b = W.heap.size) : (W.alloc (.cells #[v] T)).cell? ⟨b, 0, none⟩ = some v := by rw [hb]; simp
/-- The boxes that Also lays first. -/
def alW (w : World) (n : Nat) (a : Option Addr) (cap x y : Nat) : World := (((w.alloc (.cells #[.int .i64 (n : Nat), .slice a n cap] 24)).alloc (.cells #[.int .i64 (x : Nat)] 3)).alloc (.cells #[.int .i64 (y : Nat)] 3)).alloc (.cells #[.int .i64 0, .slice none 0 0] 24)
theorem alW_ok (w : World) (n : Nat) (a : Option Addr) (cap x y : Nat) (g : Nat → Nat) (hr : Row w a n (fun k => (g k : Nat))) :
    Held (alW w n a cap x y) w.heap.size n a n cap (fun k => (g k : Nat)) ∧ (alW w n a cap x y).cell? ⟨w.heap.size + 1, 0, none⟩ = some (.int .i64 (x : Nat)) ∧ (alW w n a cap x y).cell? ⟨w.heap.size + 1 + 1, 0, none⟩ = some (.int .i64 (y : Nat)) ∧
    ZBox (alW w n a cap x y) (w.heap.size + 1 + 1 + 1) ∧ Below w.heap.size w (alW w n a cap x y) ∧ (alW w n a cap x y).heap.size = w.heap.size + 1 + 1 + 1 + 1 := by
  unfold alW
  have h1 : Held (w.alloc (.cells #[.int .i64 (n : Nat), .slice a n cap] 24)) w.heap.size n a n cap (fun k => (g k : Nat)) := Held.box hr
  have hz := ZBox.new (((w.alloc (.cells #[.int .i64 (n : Nat), .slice a n cap] 24)).alloc (.cells #[.int .i64 (x : Nat)] 3)).alloc (.cells #[.int .i64 (y : Nat)] 3))
  simp only [World.size_alloc] at hz
  refine ⟨((h1.step ((Below.refl _ _).alloc (Nat.le_refl _) _)).step ((Below.refl _ _).alloc (Nat.le_refl _) _)).step ((Below.refl _ _).alloc (Nat.le_refl _) _), ?_, ?_, hz, ?_, by simp⟩
  · exact cell_far _ (cell_far _ (cell_newB _ _ _ _ (by simp)))
  · exact cell_far _ (cell_newB _ _ _ _ (by simp))
  · exact ((((Below.refl _ _).alloc (Nat.le_refl _) _).alloc (by simp) _).alloc (by simp; omega) _).alloc (by simp; omega) _
set_option maxHeartbeats 2000000 in
theorem also_any (n : Nat) (a : Option Addr) (cap : Nat) (g : Nat → Nat) (x y : Nat) (w : World) (hg : WOk n g) (hr : Row w a n (fun k => (g k : Nat))) (hx : x < n) (hy : y < n) (hne : x ≠ y) (ho : opn g x y = true) :
    Calls Try.prog 19 #[.agg #[.int .i64 (n : Nat), .slice a n cap], .int .i64 (x : Nat), .int .i64 (y : Nat)] w fun e w' => OrderPost w n (wth g x y) e w' ∧ Below w.heap.size w w' := by
  obtain ⟨W, HW⟩ : ∃ W, Hid (alW w n a cap x y = W) := ⟨_, rfl⟩
  have hk := alW_ok w n a cap x y g hr
  rw [HW.out] at hk
  obtain ⟨hH, hcx, hcy, hz, hb, hs⟩ := hk
  have c0 := hH.c0
  have h10 : n ≤ 10 := by have := hg.n5; omega
  have HO : Hid (Calls Try.prog 40 #[.int .i64 (n : Nat), .func (.func 41) #[] #[.pointer (some ⟨w.heap.size, 0, none⟩), .pointer (some ⟨w.heap.size + 1, 0, none⟩), .pointer (some ⟨w.heap.size + 1 + 1, 0, none⟩)]] W fun e w' => OrderPost W n (wth g x y) e w' ∧ Below W.heap.size W w') := by
    have h1 := orderOf_clo n 41 #[.pointer (some ⟨w.heap.size, 0, none⟩), .pointer (some ⟨w.heap.size + 1, 0, none⟩), .pointer (some ⟨w.heap.size + 1 + 1, 0, none⟩)] (alB g x y) W h10 ent_also (fun p q wx hp hq hb' => also1_any hg hx hy hp hq (hH.step hb') ((hb'.cell (World.block_lt_of_cell? _ _ hcx)).trans hcx) ((hb'.cell (World.block_lt_of_cell? _ _ hcy)).trans hcy))
    have e : (fun q => setBy (fun p => alB g x y p q) n) = wth g x y := by funext q; exact al_set hg hx hy hne ho q
    rw [e] at h1
    exact h1
  have HZ : Hid (ZBox W (w.heap.size + 1 + 1 + 1)) := hz
  have HB : Hid (Below w.heap.size w W) := hb
  have HS : Hid (W.heap.size = w.heap.size + 1 + 1 + 1 + 1) := hs
  have HRW : Hid (∀ w', Below W.heap.size W w' → Row w' a n (fun k => (g k : Nat))) := fun w' h => (hH.step h).row
  clear hcx hcy hz hb hs hH hr
  go_enter Try.func19, Try.ntmps19
  generalize hC : Code.region 1 _ false = C
  go_wp2_with fail
  rw [show (((w.alloc (.cells #[.int .i64 (n : Nat), .slice a n cap] 24)).alloc (.cells #[.int .i64 (x : Nat)] 3)).alloc (.cells #[.int .i64 (y : Nat)] 3)).alloc (.cells #[.int .i64 0, .slice none 0 0] 24) = alW w n a cap x y from rfl, HW.out]
  rw [← hC]
  clear hC C HW
  go_wp2_with fail
  refine (Calls.mono HO.out) ?_
  rintro e w1 ⟨⟨a1, cap1, rfl, hr1, hf1⟩, hb1⟩
  obtain ⟨r0, r1, r2, r3⟩ := HZ.out.step hb1
  have HB1 : Hid (Below w.heap.size w w1) := Below.then HB.out hb1
  have HF : Hid (Fresh W.heap.size a1 n) := hf1
  have HR1 : Hid (Row w1 a1 n (fun k => (wth g x y k : Nat))) := hr1
  clear hb1 hf1 hr1 HO HZ HRW c0
  go_wp2_with fail
  refine bodyPost_ret (v := .agg #[.int .i64 (n : Nat), .slice a1 n cap1]) ?_ rfl ⟨⟨a1, cap1, rfl, ?_, HF.out.mono (by rw [HS.out]; omega)⟩, set2B HB1.out (by omega)⟩
  · simp [results, Try.results19, go_sem, r0, r1]
  · exact row_set2 HR1.out (fun h => by
      obtain ⟨b, off, e, hl⟩ := HF.out h
      exact ⟨b, off, e, by rw [HS.out] at hl; omega⟩)

/-- Can it be told when one begins with a pair that is open, with so many weighings more? -/
def TP (n : Nat) (g : Nat → Nat) (k x y : Nat) : Prop := opn g x y = true ∧ cst n (wth g x y) ≤ k ∧ cst n (wth g y x) ≤ k
set_option maxHeartbeats 4000000 in
theorem told_any {n : Nat} : ∀ (k : Nat) (a : Option Addr) (cap : Nat) (g : Nat → Nat) (w : World), k ≤ 20 → WOk n g → Row w a n (fun k => (g k : Nat)) →
    Calls Try.prog 33 #[.agg #[.int .i64 (n : Nat), .slice a n cap], .int .i64 (k : Nat)] w fun e w' => Ans e (cst n g ≤ k) ∧ Below w.heap.size w w' := by
  intro k
  induction k with
  | zero =>
    intro a cap g w hk hg hr
    have K0 : Held (w.alloc (.cells #[.int .i64 (n : Nat), .slice a n cap] 24)) w.heap.size n a n cap (fun k => (g k : Nat)) := Held.box hr
    have HB0 : Hid (Below w.heap.size w (w.alloc (.cells #[.int .i64 (n : Nat), .slice a n cap] 24))) := (Below.refl _ _).alloc (Nat.le_refl _) _
    have HG : Hid (WOk n g) := hg
    have h10 : n ≤ 10 := by have := hg.n5; omega
    clear hr hg hk
    go_enter Try.func33, Try.ntmps33
    go_wp2_with fail
    refine (isLine_any n a cap g _ HG.out K0.row).mono ?_
    rintro e w1 ⟨⟨v, rfl, hv⟩, hb⟩
    have HB1 : Hid (Below w.heap.size w w1) := Below.then HB0.out hb
    have HV : Hid (v = true ↔ Lin n g) := hv
    clear hv hb HB0 K0
    cases v
    · have HNO : Hid (¬ cst n g ≤ 0) := fun h => by
        have := (cst_zero HG.out).1 (by omega)
        exact absurd (HV.out.2 this) (by decide)
      have HR : Hid (∀ wx, Below w1.heap.size w1 wx → True) := fun _ _ => trivial
      have HB2 : Hid (Below w1.heap.size w1 w1) := Below.refl _ _
      go_wp2_with fail
      refine wp_region_held_drew (S := (fun w' => Below w1.heap.size w1 w')) (by kernel_rfl) (HB2.out.drew) (fun hHeld => ?_)
      refine wpAnyH_take (i := 0) (oi := { dst := some 9, op := Go.Op.move (Go.Operand.tmp 1), type := 3, pos := "embed.go:163", after := #[], guard := none }) (v := ?_) rfl (by kernel_rfl) (by kernel_rfl) (by kernel_rfl) (fun _ _ _ h => h) (Or.inl ⟨by rfl, ?hy⟩) (by assumption) ?_
      case hy => (intro w9 hSw; (try dsimp only at hSw); go_simp; try with_reducible rfl)
      try simp only [Act.put, List.setIfInBounds_toArray, List.set_cons_zero, List.set_cons_succ]
      refine wpAnyH_take (i := 1) (oi := { dst := some 10, op := Go.Op.binOp Go.BinOp.eql 3 (Go.Operand.tmp 9) (Go.Operand.const (Go.Value.int Go.IntKind.i64 0)) 3, type := 4, pos := "embed.go:163", after := #[{ on := 0, ground := Go.Ground.data }], guard := none }) (v := ?_) rfl (by kernel_rfl) (by kernel_rfl) (by kernel_rfl) (fun _ _ _ h => h) (Or.inl ⟨by rfl, ?hy⟩) (by assumption) ?_
      case hy => (intro w9 hSw; (try dsimp only at hSw); go_simp; try with_reducible rfl)
      try simp only [Act.put, List.setIfInBounds_toArray, List.set_cons_zero, List.set_cons_succ]
      refine wpAnyH_take (i := 2) (oi := { dst := some 11, op := Go.Op.move (Go.Operand.tmp 10), type := 4, pos := "embed.go:163", after := #[{ on := 1, ground := Go.Ground.data }], guard := none }) (v := ?_) rfl (by kernel_rfl) (by kernel_rfl) (by kernel_rfl) (fun _ _ _ h => h) (Or.inl ⟨by rfl, ?hy⟩) (by assumption) ?_
      case hy => (intro w9 hSw; (try dsimp only at hSw); go_simp; try with_reducible rfl)
      try simp only [Act.put, List.setIfInBounds_toArray, List.set_cons_zero, List.set_cons_succ]
      refine wpAnyH_take (i := 3) (oi := { dst := some 12, op := Go.Op.load 24 (Go.Operand.tmp 2), type := 24, pos := "embed.go:163", after := #[{ on := 2, ground := Go.Ground.guard }], guard := some (2, false) }) (v := undef) rfl (by kernel_rfl) (by kernel_rfl) (by kernel_rfl) (fun _ _ _ h => h) (Or.inr ⟨by rfl, rfl⟩) (by assumption) ?_
      try simp only [Act.put, List.setIfInBounds_toArray, List.set_cons_zero, List.set_cons_succ]
      refine wpAnyH_take (i := 4) (oi := { dst := some 13, op := Go.Op.call { callee := Go.Callee.value (Go.Operand.func 55), args := #[Go.Operand.tmp 12], argTypes := #[24] }, type := 22, pos := "embed.go:163", after := #[{ on := 3, ground := Go.Ground.data }, { on := 2, ground := Go.Ground.chain }, { on := 2, ground := Go.Ground.guard }], guard := some (2, false) }) (v := undef) rfl (by kernel_rfl) (by kernel_rfl) (by kernel_rfl) (fun _ _ _ h => h) (Or.inr ⟨by rfl, rfl⟩) (by assumption) ?_
      try simp only [Act.put, List.setIfInBounds_toArray, List.set_cons_zero, List.set_cons_succ]
      refine wpAnyH_take (i := 5) (oi := { dst := some 14, op := Go.Op.indexAddr 22 (Go.Operand.tmp 13) (Go.Operand.const (Go.Value.int Go.IntKind.i64 0)), type := 0, pos := "embed.go:163", after := #[{ on := 4, ground := Go.Ground.data }, { on := 2, ground := Go.Ground.guard }], guard := some (2, false) }) (v := undef) rfl (by kernel_rfl) (by kernel_rfl) (by kernel_rfl) (fun _ _ _ h => h) (Or.inr ⟨by rfl, rfl⟩) (by assumption) ?_
      try simp only [Act.put, List.setIfInBounds_toArray, List.set_cons_zero, List.set_cons_succ]
      refine wpAnyH_take (i := 6) (oi := { dst := some 15, op := Go.Op.load 3 (Go.Operand.tmp 14), type := 3, pos := "embed.go:163", after := #[{ on := 5, ground := Go.Ground.data }, { on := 2, ground := Go.Ground.guard }], guard := some (2, false) }) (v := undef) rfl (by kernel_rfl) (by kernel_rfl) (by kernel_rfl) (fun _ _ _ h => h) (Or.inr ⟨by rfl, rfl⟩) (by assumption) ?_
      try simp only [Act.put, List.setIfInBounds_toArray, List.set_cons_zero, List.set_cons_succ]
      refine wpAnyH_take (i := 7) (oi := { dst := some 16, op := Go.Op.move (Go.Operand.tmp 1), type := 3, pos := "embed.go:163", after := #[{ on := 2, ground := Go.Ground.guard }], guard := some (2, false) }) (v := undef) rfl (by kernel_rfl) (by kernel_rfl) (by kernel_rfl) (fun _ _ _ h => h) (Or.inr ⟨by rfl, rfl⟩) (by assumption) ?_
      try simp only [Act.put, List.setIfInBounds_toArray, List.set_cons_zero, List.set_cons_succ]
      refine wpAnyH_take (i := 8) (oi := { dst := some 17, op := Go.Op.call { callee := Go.Callee.value (Go.Operand.func 23), args := #[Go.Operand.tmp 16], argTypes := #[3] }, type := 3, pos := "embed.go:163", after := #[{ on := 7, ground := Go.Ground.data }, { on := 4, ground := Go.Ground.chain }, { on := 2, ground := Go.Ground.guard }], guard := some (2, false) }) (v := undef) rfl (by kernel_rfl) (by kernel_rfl) (by kernel_rfl) (fun _ _ _ h => h) (Or.inr ⟨by rfl, rfl⟩) (by assumption) ?_
      try simp only [Act.put, List.setIfInBounds_toArray, List.set_cons_zero, List.set_cons_succ]
      refine wpAnyH_take (i := 9) (oi := { dst := some 18, op := Go.Op.binOp Go.BinOp.gtr 3 (Go.Operand.tmp 15) (Go.Operand.tmp 17) 3, type := 4, pos := "embed.go:163", after := #[{ on := 6, ground := Go.Ground.data }, { on := 8, ground := Go.Ground.data }, { on := 2, ground := Go.Ground.guard }], guard := some (2, false) }) (v := undef) rfl (by kernel_rfl) (by kernel_rfl) (by kernel_rfl) (fun _ _ _ h => h) (Or.inr ⟨by rfl, rfl⟩) (by assumption) ?_
      try simp only [Act.put, List.setIfInBounds_toArray, List.set_cons_zero, List.set_cons_succ]
      refine wpAnyH_take (i := 10) (oi := { dst := some 19, op := Go.Op.pick (Go.Operand.tmp 11) (Go.Operand.const (Go.Value.bool true)) (Go.Operand.tmp 18), type := 4, pos := "embed.go:163", after := #[{ on := 2, ground := Go.Ground.data }, { on := 9, ground := Go.Ground.data }], guard := none }) (v := ?_) rfl (by kernel_rfl) (by kernel_rfl) (by kernel_rfl) (fun _ _ _ h => h) (Or.inl ⟨by rfl, ?hy⟩) (by assumption) ?_
      case hy => (intro w9 hSw; (try dsimp only at hSw); go_simp; try with_reducible rfl)
      try simp only [Act.put, List.setIfInBounds_toArray, List.set_cons_zero, List.set_cons_succ]
      refine wpAnyH_done (by kernel_rfl) ?_ _
      try simp only [Act.put, List.setIfInBounds_toArray, List.set_cons_zero, List.set_cons_succ]
      have HB9 : Hid (Below w.heap.size w _) := Below.then HB1.out hHeld
      clear hHeld
      go_wp2_with fail
      go_ret
      exact ⟨Ans.no HNO.out, HB9.out⟩
    · have HY : Hid (cst n g ≤ 0) := by rw [(cst_zero HG.out).2 (HV.out.1 rfl)]; exact Nat.le_refl _
      go_wp2_with fail
      go_ret
      exact ⟨Ans.yes HY.out, HB1.out⟩
  | succ k ih =>
    intro a cap g w hk hg hr
    have HIH : Hid (∀ (a : Option Addr) (cap : Nat) (g : Nat → Nat) (w : World), WOk n g → Row w a n (fun k => (g k : Nat)) → Calls Try.prog 33 #[.agg #[.int .i64 (n : Nat), .slice a n cap], .int .i64 (k : Nat)] w fun e w' => Ans e (cst n g ≤ k) ∧ Below w.heap.size w w') := fun a cap g w h1 h2 => ih a cap g w (by omega) h1 h2
    clear ih
    obtain ⟨kk, HKK⟩ : ∃ kk, Hid (k + 1 = kk) := ⟨_, rfl⟩
    have hKk : k + 1 = kk := HKK.out
    rw [HKK.out]
    have K0 : Held (w.alloc (.cells #[.int .i64 (n : Nat), .slice a n cap] 24)) w.heap.size n a n cap (fun k => (g k : Nat)) := Held.box hr
    have HB0 : Hid (Below w.heap.size w (w.alloc (.cells #[.int .i64 (n : Nat), .slice a n cap] 24))) := (Below.refl _ _).alloc (Nat.le_refl _) _
    have HG : Hid (WOk n g) := hg
    have HG1 : Hid (∀ k, k < n → g k < 1024) := fun k _ => Nat.lt_trans (hg.small k) (by decide)
    have h10 : n ≤ 10 := by have := hg.n5; omega
    have hK0 : ((kk : Int) == 0) = false := by simp; omega
    have hK20 : kk ≤ 20 := by omega
    have hKi : (kk : Int) - 1 = (k : Int) := by omega
    clear hr hg hk hKk
    go_enter Try.func33, Try.ntmps33
    go_wp2_with fail
    refine (isLine_any n a cap g _ HG.out K0.row).mono ?_
    rintro e w1 ⟨⟨v, rfl, hv⟩, hb⟩
    have K1 := K0.step hb
    have HB1 : Hid (Below w.heap.size w w1) := Below.then HB0.out hb
    have HV0 : Hid (v = true ↔ Lin n g) := hv
    clear hv hb HB0 K0
    cases v
    · have HNL : Hid (¬ Lin n g) := fun h => absurd (HV0.out.2 h) (by decide)
      have HR : Hid (∀ wx, Below w1.heap.size w1 wx → Row wx a n (fun k => (g k : Nat))) := fun wx h => (K1.step h).row
      have hc0 : ∀ wx, Below w1.heap.size w1 wx → wx.cell? ⟨w.heap.size, 0, none⟩ = some (.int .i64 (n : Nat)) := fun wx h => (K1.step h).c0
      have hc1 : ∀ wx, Below w1.heap.size w1 wx → wx.cell? ⟨w.heap.size, 1, none⟩ = some (.slice a n cap) := fun wx h => (K1.step h).c1
      have HB2 : Hid (Below w1.heap.size w1 w1) := Below.refl _ _
      obtain ⟨M, HMM⟩ : ∃ M, Hid (ways g n 0 = M) := ⟨_, rfl⟩
      have HV : Hid (∀ w' b, Tabl w' b n 0 g → w'.cell? ⟨b, 0, none⟩ = some (.int .i64 (M : Nat))) := fun w' b h => by rw [← HMM.out]; exact h 0 (pw_pos _) (Nat.le_refl _)
      have hpi : 0 < pw n := pw_pos n
      clear K1 HV0
      go_wp2_with fail
      refine wp_region_held_drew (S := (fun w' => Below w1.heap.size w1 w')) (by kernel_rfl) (HB2.out.drew) (fun hHeld => ?_)
      refine wpAnyH_take (i := 0) (oi := { dst := some 9, op := Go.Op.move (Go.Operand.tmp 1), type := 3, pos := "embed.go:163", after := #[], guard := none }) (v := ?_) rfl (by kernel_rfl) (by kernel_rfl) (by kernel_rfl) (fun _ _ _ h => h) (Or.inl ⟨by rfl, ?hy⟩) (by assumption) ?_
      case hy => (intro w9 hSw; (try dsimp only at hSw); go_simp; try with_reducible rfl)
      try simp only [Act.put, List.setIfInBounds_toArray, List.set_cons_zero, List.set_cons_succ]
      refine wpAnyH_take (i := 1) (oi := { dst := some 10, op := Go.Op.binOp Go.BinOp.eql 3 (Go.Operand.tmp 9) (Go.Operand.const (Go.Value.int Go.IntKind.i64 0)) 3, type := 4, pos := "embed.go:163", after := #[{ on := 0, ground := Go.Ground.data }], guard := none }) (v := ?_) rfl (by kernel_rfl) (by kernel_rfl) (by kernel_rfl) (fun _ _ _ h => h) (Or.inl ⟨by rfl, ?hy⟩) (by assumption) ?_
      case hy => (intro w9 hSw; (try dsimp only at hSw); go_simp; try with_reducible rfl)
      try simp only [Act.put, List.setIfInBounds_toArray, List.set_cons_zero, List.set_cons_succ]
      refine wpAnyH_take (i := 2) (oi := { dst := some 11, op := Go.Op.move (Go.Operand.tmp 10), type := 4, pos := "embed.go:163", after := #[{ on := 1, ground := Go.Ground.data }], guard := none }) (v := ?_) rfl (by kernel_rfl) (by kernel_rfl) (by kernel_rfl) (fun _ _ _ h => h) (Or.inl ⟨by rfl, ?hy⟩) (by assumption) ?_
      case hy => (intro w9 hSw; (try dsimp only at hSw); go_simp; try with_reducible rfl)
      try simp only [Act.put, List.setIfInBounds_toArray, List.set_cons_zero, List.set_cons_succ]
      refine wpAnyH_take (i := 3) (oi := { dst := some 12, op := Go.Op.load 24 (Go.Operand.tmp 2), type := 24, pos := "embed.go:163", after := #[{ on := 2, ground := Go.Ground.guard }], guard := some (2, false) }) (v := ?_) rfl (by kernel_rfl) (by kernel_rfl) (by kernel_rfl) (fun _ _ _ h => h) (Or.inl ⟨by rfl, ?hy⟩) (by assumption) ?_
      case hy => (intro w9 hSw; (try dsimp only at hSw); go_simp; try with_reducible rfl)
      try simp only [Act.put, List.setIfInBounds_toArray, List.set_cons_zero, List.set_cons_succ]
      refine wpAnyH_take (i := 7) (oi := { dst := some 16, op := Go.Op.move (Go.Operand.tmp 1), type := 3, pos := "embed.go:163", after := #[{ on := 2, ground := Go.Ground.guard }], guard := some (2, false) }) (v := ?_) rfl (by kernel_rfl) (by kernel_rfl) (by kernel_rfl) (fun _ _ _ h => h) (Or.inl ⟨by rfl, ?hy⟩) (by assumption) ?_
      case hy => (intro w9 hSw; (try dsimp only at hSw); go_simp; try with_reducible rfl)
      try simp only [Act.put, List.setIfInBounds_toArray, List.set_cons_zero, List.set_cons_succ]
      refine wpAnyH_ready (rs := [4]) (by kernel_rfl) (by simp) ?_
      refine AllReadyH.cons (o := { dst := some 13, op := Go.Op.call { callee := Go.Callee.value (Go.Operand.func 55), args := #[Go.Operand.tmp 12], argTypes := #[24] }, type := 22, pos := "embed.go:163", after := #[{ on := 3, ground := Go.Ground.data }, { on := 2, ground := Go.Ground.chain }, { on := 2, ground := Go.Ground.guard }], guard := some (2, false) }) rfl (fun K hK => ?_) AllReadyH.nil
      go_simp
      refine (refRows_any n a cap g _ h10 HG.out.sm (HR.out _ (by assumption))).mono ?_
      rintro e wr1 ⟨⟨bT, rfl, htab⟩, hbr⟩
      refine hK.out _ _ ?_ (fun hHeld => ?_)
      · first | exact Below.then hHeld hbr | exact hHeld
      clear hK K
      try simp only [Act.put, List.setIfInBounds_toArray, List.set_cons_zero, List.set_cons_succ]
      have hv := HV.out _ _ htab
      clear htab
      refine wpAnyH_take (i := 5) (oi := { dst := some 14, op := Go.Op.indexAddr 22 (Go.Operand.tmp 13) (Go.Operand.const (Go.Value.int Go.IntKind.i64 0)), type := 0, pos := "embed.go:163", after := #[{ on := 4, ground := Go.Ground.data }, { on := 2, ground := Go.Ground.guard }], guard := some (2, false) }) (v := ?_) rfl (by kernel_rfl) (by kernel_rfl) (by kernel_rfl) (fun _ _ _ h => h) (Or.inl ⟨by rfl, ?hy⟩) (by assumption) ?_
      case hy => (intro w9 hSw; (try dsimp only at hSw); go_simp; try with_reducible rfl)
      try simp only [Act.put, List.setIfInBounds_toArray, List.set_cons_zero, List.set_cons_succ]
      refine wpAnyH_ready (rs := [6, 8]) (by kernel_rfl) (by simp) ?_
      refine AllReadyH.cons (o := { dst := some 15, op := Go.Op.load 3 (Go.Operand.tmp 14), type := 3, pos := "embed.go:163", after := #[{ on := 5, ground := Go.Ground.data }, { on := 2, ground := Go.Ground.guard }], guard := some (2, false) }) rfl (fun K hK => ?_) ?_
      · go_simp
        skip
        refine hK.out _ _ ?_ (fun hHeld => ?_)
        · first | exact Below.then hHeld hbr | exact hHeld
        clear hK K
        try simp only [Act.put, List.setIfInBounds_toArray, List.set_cons_zero, List.set_cons_succ]
        refine wpAnyH_ready (rs := [8]) (by kernel_rfl) (by simp) ?_
        refine AllReadyH.cons (o := { dst := some 17, op := Go.Op.call { callee := Go.Callee.value (Go.Operand.func 23), args := #[Go.Operand.tmp 16], argTypes := #[3] }, type := 3, pos := "embed.go:163", after := #[{ on := 7, ground := Go.Ground.data }, { on := 4, ground := Go.Ground.chain }, { on := 2, ground := Go.Ground.guard }], guard := some (2, false) }) rfl (fun K hK => ?_) AllReadyH.nil
        go_simp
        refine (bit_any kk _ (by omega)).mono ?_
        rintro e wr2 ⟨rfl, rfl⟩
        refine hK.out _ _ ?_ (fun hHeld => ?_)
        · first | exact Below.then hHeld hbr | exact hHeld
        clear hK K
        try simp only [Act.put, List.setIfInBounds_toArray, List.set_cons_zero, List.set_cons_succ]
        refine wpAnyH_take (i := 9) (oi := { dst := some 18, op := Go.Op.binOp Go.BinOp.gtr 3 (Go.Operand.tmp 15) (Go.Operand.tmp 17) 3, type := 4, pos := "embed.go:163", after := #[{ on := 6, ground := Go.Ground.data }, { on := 8, ground := Go.Ground.data }, { on := 2, ground := Go.Ground.guard }], guard := some (2, false) }) (v := ?_) rfl (by kernel_rfl) (by kernel_rfl) (by kernel_rfl) (fun _ _ _ h => h) (Or.inl ⟨by rfl, ?hy⟩) (by assumption) ?_
        case hy => (intro w9 hSw; (try dsimp only at hSw); go_simp; try with_reducible rfl)
        try simp only [Act.put, List.setIfInBounds_toArray, List.set_cons_zero, List.set_cons_succ]
        refine wpAnyH_take (i := 10) (oi := { dst := some 19, op := Go.Op.pick (Go.Operand.tmp 11) (Go.Operand.const (Go.Value.bool true)) (Go.Operand.tmp 18), type := 4, pos := "embed.go:163", after := #[{ on := 2, ground := Go.Ground.data }, { on := 9, ground := Go.Ground.data }], guard := none }) (v := ?_) rfl (by kernel_rfl) (by kernel_rfl) (by kernel_rfl) (fun _ _ _ h => h) (Or.inl ⟨by rfl, ?hy⟩) (by assumption) ?_
        case hy => (intro w9 hSw; (try dsimp only at hSw); go_simp; try with_reducible rfl)
        try simp only [Act.put, List.setIfInBounds_toArray, List.set_cons_zero, List.set_cons_succ]
        refine wpAnyH_done (by kernel_rfl) ?_ _
        try simp only [Act.put, List.setIfInBounds_toArray, List.set_cons_zero, List.set_cons_succ]
        have HB3 : Hid (Below w1.heap.size w1 wr1) := by assumption
        clear hHeld hv hbr
        by_cases hgt : pw kk < M
        · have hgti : ((pw kk : Nat) : Int) < (M : Int) := by omega
          have HNO : Hid (¬ cst n g ≤ kk) := fun h => by
            have h1 := rows_cst HG.out
            have h2 : pw (cst n g) ≤ pw kk := Nat.pow_le_pow_right (by decide) h
            have := HMM.out
            omega
          have HB9 : Hid (Below w.heap.size w wr1) := Below.then HB1.out HB3.out
          go_wp2_with fail
          go_ret
          exact ⟨Ans.no HNO.out, HB9.out⟩
        · have hgti : (M : Int) ≤ ((pw kk : Nat) : Int) := by omega
          have hdec2 : decide (pw kk < M) = false := decide_eq_false hgt
          go_wp2_with fail
          simp only [hdec2]
          clear hgti hgt hdec2
          go_loopw [4, 5] (fun _ x wx => ∃ p : Nat, p ≤ n ∧ x = .int .i64 p ∧ Hid (∀ x y, x < p → x < y → y < n → ¬ TP n g k x y) ∧ Hid (Below w1.heap.size w1 wx)) (fun _ x _ => n - (intOf x).toNat)
          case atStart => exact ⟨0, Nat.zero_le _, rfl, fun x _ hx => absurd hx (Nat.not_lt_zero _), HB3⟩
          case round =>
            clear HB3
            obtain ⟨p, hp, rfl, hok, hB⟩ := hrel
            have c0 := hc0 _ hB.out
            by_cases hpn : p < n
            · have hpni : (p : Int) < (n : Int) := by omega
              go_wp2_with fail
              clear c0
              go_loopw [4, 6] (fun _ x wx => ∃ q : Nat, p + 1 ≤ q ∧ q ≤ n ∧ x = .int .i64 q ∧ Hid (∀ y, p < y → y < q → ¬ TP n g k p y) ∧ Hid (Below w1.heap.size w1 wx)) (fun _ x _ => n - (intOf x).toNat)
              case atStart => exact ⟨p + 1, Nat.le_refl _, by omega, by go_num, fun y h1 h2 => absurd h1 (by omega), hB⟩
              case round =>
                clear hB
                obtain ⟨q, hpq, hq, rfl, hoq, hB⟩ := hrel
                have c0 := hc0 _ hB.out
                have c1 := hc1 _ hB.out
                by_cases hqn : q < n
                · have hqni : (q : Int) < (n : Int) := by omega
                  have hne : p ≠ q := by omega
                  have HRW : Hid (∀ wx, Below w1.heap.size w1 wx → Row wx a n (fun k => (g k : Nat))) := HR
                  cases hop : opn g p q
                  · have HA : Hid (apB g p q = false) := (apB_opn g p q).trans hop
                    have HO2 : Hid (∀ y, p < y → y < q + 1 → ¬ TP n g k p y) := fun y h1 h2 => by
                      by_cases e : y = q
                      · subst e; rintro ⟨h3, _⟩; rw [hop] at h3; cases h3
                      · exact hoq.out y h1 (by omega)
                    clear hop
                    go_wp2_with fail
                    refine (apart_as n a cap g p q false _ HA.out h10 HG1.out (HRW.out _ hB.out) hpn hqn hne).mono ?_
                    rintro e w2 ⟨rfl, hb2⟩
                    have HB2 : Hid (Below w1.heap.size w1 w2) := Below.then hB.out hb2
                    clear hb2 hB c0 c1
                    go_wp2_with fail
                    go_roundw
                    case rel => exact ⟨q + 1, by omega, by omega, by go_num, HO2, HB2⟩
                    case measure => simp [intOf]; omega
                  · have HA : Hid (apB g p q = true) := (apB_opn g p q).trans hop
                    have HOP : Hid (opn g p q = true) := hop
                    have HOQ : Hid (opn g q p = true) := by rw [opn_comm]; exact hop
                    clear hop
                    go_wp2_with fail
                    refine (apart_as n a cap g p q true _ HA.out h10 HG1.out (HRW.out _ hB.out) hpn hqn hne).mono ?_
                    rintro e w2 ⟨rfl, hb2⟩
                    have HB2 : Hid (Below w1.heap.size w1 w2) := Below.then hB.out hb2
                    have d0 := hc0 _ HB2.out
                    have d1 := hc1 _ HB2.out
                    clear hb2 hB c0 c1
                    go_wp2_with fail
                    refine (also_any n a cap g p q _ HG.out (HRW.out _ HB2.out) hpn hqn hne HOP.out).mono ?_
                    rintro e w3 ⟨⟨a3, cap3, rfl, hr3, _⟩, hb3⟩
                    have HB3 : Hid (Below w1.heap.size w1 w3) := Below.then HB2.out hb3
                    have HR3 : Hid (Row w3 a3 n (fun k => (wth g p q k : Nat))) := hr3
                    clear hb3 hr3 d0 d1
                    go_wp2_with fail
                    refine (HIH.out a3 cap3 (wth g p q) _ (HG.out.wth hpn hqn hne HOP.out) HR3.out).mono ?_
                    rintro e w4 ⟨⟨v4, rfl, hv4⟩, hb4⟩
                    have HB4 : Hid (Below w1.heap.size w1 w4) := Below.then HB3.out hb4
                    have HV4 : Hid (v4 = true ↔ cst n (wth g p q) ≤ k) := hv4
                    have d0 := hc0 _ HB4.out
                    have d1 := hc1 _ HB4.out
                    clear hb4 hv4 HR3
                    cases v4
                    · have HO2 : Hid (∀ y, p < y → y < q + 1 → ¬ TP n g k p y) := fun y h1 h2 => by
                        by_cases e : y = q
                        · subst e; rintro ⟨_, h3, _⟩; exact absurd (HV4.out.2 h3) (by decide)
                        · exact hoq.out y h1 (by omega)
                      go_wp2_with fail
                      go_roundw
                      case rel => exact ⟨q + 1, by omega, by omega, by go_num, HO2, HB4⟩
                      case measure => simp [intOf]; omega
                    · have H4 : Hid (cst n (wth g p q) ≤ k) := HV4.out.1 rfl
                      go_wp2_with fail
                      refine (also_any n a cap g q p _ HG.out (HRW.out _ HB4.out) hqn hpn (Ne.symm hne) HOQ.out).mono ?_
                      rintro e w5 ⟨⟨a5, cap5, rfl, hr5, _⟩, hb5⟩
                      have HB5 : Hid (Below w1.heap.size w1 w5) := Below.then HB4.out hb5
                      have HR5 : Hid (Row w5 a5 n (fun k => (wth g q p k : Nat))) := hr5
                      clear hb5 hr5 d0 d1
                      go_wp2_with fail
                      refine (HIH.out a5 cap5 (wth g q p) _ (HG.out.wth hqn hpn (Ne.symm hne) HOQ.out) HR5.out).mono ?_
                      rintro e w6 ⟨⟨v6, rfl, hv6⟩, hb6⟩
                      have HB6 : Hid (Below w1.heap.size w1 w6) := Below.then HB5.out hb6
                      have HV6 : Hid (v6 = true ↔ cst n (wth g q p) ≤ k) := hv6
                      clear hb6 hv6 HR5
                      cases v6
                      · have HO2 : Hid (∀ y, p < y → y < q + 1 → ¬ TP n g k p y) := fun y h1 h2 => by
                          by_cases e : y = q
                          · subst e; rintro ⟨_, _, h3⟩; exact absurd (HV6.out.2 h3) (by decide)
                          · exact hoq.out y h1 (by omega)
                        go_wp2_with fail
                        go_roundw
                        case rel => exact ⟨q + 1, by omega, by omega, by go_num, HO2, HB6⟩
                        case measure => simp [intOf]; omega
                      · have HY : Hid (cst n g ≤ kk) := by rw [← HKK.out]; exact (told_iff HG.out).2 (.inr ⟨p, q, by omega, hqn, HOP.out, H4.out, HV6.out.1 rfl⟩)
                        have HB9 : Hid (Below w.heap.size w w6) := Below.then HB1.out HB6.out
                        go_wp2_with fail
                        go_ret
                        exact ⟨Ans.yes HY.out, HB9.out⟩
                · obtain rfl : q = n := by omega
                  have HO2 : Hid (∀ x y, x < p + 1 → x < y → y < q → ¬ TP q g k x y) := fun x y h1 h2 h3 => by
                    by_cases e : x = p
                    · subst e; exact hoq.out y h2 h3
                    · exact hok.out x y (by omega) h2 h3
                  go_wp2_with fail
                  go_roundw
                  case rel => exact ⟨p + 1, by omega, by go_num, HO2, hB⟩
                  case measure => simp [intOf]; omega
            · obtain rfl : p = n := by omega
              have HNO : Hid (¬ cst p g ≤ kk) := fun h => by
                rw [← HKK.out] at h
                rcases (told_iff HG.out).1 h with h1 | ⟨x, y, h1, h2, h3⟩
                · exact HNL.out h1
                · exact hok.out x y (by omega) h1 h2 h3
              have HB9 : Hid (Below w.heap.size w wr) := Below.then HB1.out hB.out
              go_wp2_with fail
              go_ret
              exact ⟨Ans.no HNO.out, HB9.out⟩
      refine AllReadyH.cons (o := { dst := some 17, op := Go.Op.call { callee := Go.Callee.value (Go.Operand.func 23), args := #[Go.Operand.tmp 16], argTypes := #[3] }, type := 3, pos := "embed.go:163", after := #[{ on := 7, ground := Go.Ground.data }, { on := 4, ground := Go.Ground.chain }, { on := 2, ground := Go.Ground.guard }], guard := some (2, false) }) rfl (fun K hK => ?_) ?_
      · go_simp
        refine (bit_any kk _ (by omega)).mono ?_
        rintro e wr2 ⟨rfl, rfl⟩
        refine hK.out _ _ ?_ (fun hHeld => ?_)
        · first | exact Below.then hHeld hbr | exact hHeld
        clear hK K
        try simp only [Act.put, List.setIfInBounds_toArray, List.set_cons_zero, List.set_cons_succ]
        refine wpAnyH_ready (rs := [6]) (by kernel_rfl) (by simp) ?_
        refine AllReadyH.cons (o := { dst := some 15, op := Go.Op.load 3 (Go.Operand.tmp 14), type := 3, pos := "embed.go:163", after := #[{ on := 5, ground := Go.Ground.data }, { on := 2, ground := Go.Ground.guard }], guard := some (2, false) }) rfl (fun K hK => ?_) AllReadyH.nil
        go_simp
        skip
        refine hK.out _ _ ?_ (fun hHeld => ?_)
        · first | exact Below.then hHeld hbr | exact hHeld
        clear hK K
        try simp only [Act.put, List.setIfInBounds_toArray, List.set_cons_zero, List.set_cons_succ]
        refine wpAnyH_take (i := 9) (oi := { dst := some 18, op := Go.Op.binOp Go.BinOp.gtr 3 (Go.Operand.tmp 15) (Go.Operand.tmp 17) 3, type := 4, pos := "embed.go:163", after := #[{ on := 6, ground := Go.Ground.data }, { on := 8, ground := Go.Ground.data }, { on := 2, ground := Go.Ground.guard }], guard := some (2, false) }) (v := ?_) rfl (by kernel_rfl) (by kernel_rfl) (by kernel_rfl) (fun _ _ _ h => h) (Or.inl ⟨by rfl, ?hy⟩) (by assumption) ?_
        case hy => (intro w9 hSw; (try dsimp only at hSw); go_simp; try with_reducible rfl)
        try simp only [Act.put, List.setIfInBounds_toArray, List.set_cons_zero, List.set_cons_succ]
        refine wpAnyH_take (i := 10) (oi := { dst := some 19, op := Go.Op.pick (Go.Operand.tmp 11) (Go.Operand.const (Go.Value.bool true)) (Go.Operand.tmp 18), type := 4, pos := "embed.go:163", after := #[{ on := 2, ground := Go.Ground.data }, { on := 9, ground := Go.Ground.data }], guard := none }) (v := ?_) rfl (by kernel_rfl) (by kernel_rfl) (by kernel_rfl) (fun _ _ _ h => h) (Or.inl ⟨by rfl, ?hy⟩) (by assumption) ?_
        case hy => (intro w9 hSw; (try dsimp only at hSw); go_simp; try with_reducible rfl)
        try simp only [Act.put, List.setIfInBounds_toArray, List.set_cons_zero, List.set_cons_succ]
        refine wpAnyH_done (by kernel_rfl) ?_ _
        try simp only [Act.put, List.setIfInBounds_toArray, List.set_cons_zero, List.set_cons_succ]
        have HB3 : Hid (Below w1.heap.size w1 wr1) := by assumption
        clear hHeld hv hbr
        by_cases hgt : pw kk < M
        · have hgti : ((pw kk : Nat) : Int) < (M : Int) := by omega
          have HNO : Hid (¬ cst n g ≤ kk) := fun h => by
            have h1 := rows_cst HG.out
            have h2 : pw (cst n g) ≤ pw kk := Nat.pow_le_pow_right (by decide) h
            have := HMM.out
            omega
          have HB9 : Hid (Below w.heap.size w wr1) := Below.then HB1.out HB3.out
          go_wp2_with fail
          go_ret
          exact ⟨Ans.no HNO.out, HB9.out⟩
        · have hgti : (M : Int) ≤ ((pw kk : Nat) : Int) := by omega
          have hdec2 : decide (pw kk < M) = false := decide_eq_false hgt
          go_wp2_with fail
          simp only [hdec2]
          clear hgti hgt hdec2
          go_loopw [4, 5] (fun _ x wx => ∃ p : Nat, p ≤ n ∧ x = .int .i64 p ∧ Hid (∀ x y, x < p → x < y → y < n → ¬ TP n g k x y) ∧ Hid (Below w1.heap.size w1 wx)) (fun _ x _ => n - (intOf x).toNat)
          case atStart => exact ⟨0, Nat.zero_le _, rfl, fun x _ hx => absurd hx (Nat.not_lt_zero _), HB3⟩
          case round =>
            clear HB3
            obtain ⟨p, hp, rfl, hok, hB⟩ := hrel
            have c0 := hc0 _ hB.out
            by_cases hpn : p < n
            · have hpni : (p : Int) < (n : Int) := by omega
              go_wp2_with fail
              clear c0
              go_loopw [4, 6] (fun _ x wx => ∃ q : Nat, p + 1 ≤ q ∧ q ≤ n ∧ x = .int .i64 q ∧ Hid (∀ y, p < y → y < q → ¬ TP n g k p y) ∧ Hid (Below w1.heap.size w1 wx)) (fun _ x _ => n - (intOf x).toNat)
              case atStart => exact ⟨p + 1, Nat.le_refl _, by omega, by go_num, fun y h1 h2 => absurd h1 (by omega), hB⟩
              case round =>
                clear hB
                obtain ⟨q, hpq, hq, rfl, hoq, hB⟩ := hrel
                have c0 := hc0 _ hB.out
                have c1 := hc1 _ hB.out
                by_cases hqn : q < n
                · have hqni : (q : Int) < (n : Int) := by omega
                  have hne : p ≠ q := by omega
                  have HRW : Hid (∀ wx, Below w1.heap.size w1 wx → Row wx a n (fun k => (g k : Nat))) := HR
                  cases hop : opn g p q
                  · have HA : Hid (apB g p q = false) := (apB_opn g p q).trans hop
                    have HO2 : Hid (∀ y, p < y → y < q + 1 → ¬ TP n g k p y) := fun y h1 h2 => by
                      by_cases e : y = q
                      · subst e; rintro ⟨h3, _⟩; rw [hop] at h3; cases h3
                      · exact hoq.out y h1 (by omega)
                    clear hop
                    go_wp2_with fail
                    refine (apart_as n a cap g p q false _ HA.out h10 HG1.out (HRW.out _ hB.out) hpn hqn hne).mono ?_
                    rintro e w2 ⟨rfl, hb2⟩
                    have HB2 : Hid (Below w1.heap.size w1 w2) := Below.then hB.out hb2
                    clear hb2 hB c0 c1
                    go_wp2_with fail
                    go_roundw
                    case rel => exact ⟨q + 1, by omega, by omega, by go_num, HO2, HB2⟩
                    case measure => simp [intOf]; omega
                  · have HA : Hid (apB g p q = true) := (apB_opn g p q).trans hop
                    have HOP : Hid (opn g p q = true) := hop
                    have HOQ : Hid (opn g q p = true) := by rw [opn_comm]; exact hop
                    clear hop
                    go_wp2_with fail
                    refine (apart_as n a cap g p q true _ HA.out h10 HG1.out (HRW.out _ hB.out) hpn hqn hne).mono ?_
                    rintro e w2 ⟨rfl, hb2⟩
                    have HB2 : Hid (Below w1.heap.size w1 w2) := Below.then hB.out hb2
                    have d0 := hc0 _ HB2.out
                    have d1 := hc1 _ HB2.out
                    clear hb2 hB c0 c1
                    go_wp2_with fail
                    refine (also_any n a cap g p q _ HG.out (HRW.out _ HB2.out) hpn hqn hne HOP.out).mono ?_
                    rintro e w3 ⟨⟨a3, cap3, rfl, hr3, _⟩, hb3⟩
                    have HB3 : Hid (Below w1.heap.size w1 w3) := Below.then HB2.out hb3
                    have HR3 : Hid (Row w3 a3 n (fun k => (wth g p q k : Nat))) := hr3
                    clear hb3 hr3 d0 d1
                    go_wp2_with fail
                    refine (HIH.out a3 cap3 (wth g p q) _ (HG.out.wth hpn hqn hne HOP.out) HR3.out).mono ?_
                    rintro e w4 ⟨⟨v4, rfl, hv4⟩, hb4⟩
                    have HB4 : Hid (Below w1.heap.size w1 w4) := Below.then HB3.out hb4
                    have HV4 : Hid (v4 = true ↔ cst n (wth g p q) ≤ k) := hv4
                    have d0 := hc0 _ HB4.out
                    have d1 := hc1 _ HB4.out
                    clear hb4 hv4 HR3
                    cases v4
                    · have HO2 : Hid (∀ y, p < y → y < q + 1 → ¬ TP n g k p y) := fun y h1 h2 => by
                        by_cases e : y = q
                        · subst e; rintro ⟨_, h3, _⟩; exact absurd (HV4.out.2 h3) (by decide)
                        · exact hoq.out y h1 (by omega)
                      go_wp2_with fail
                      go_roundw
                      case rel => exact ⟨q + 1, by omega, by omega, by go_num, HO2, HB4⟩
                      case measure => simp [intOf]; omega
                    · have H4 : Hid (cst n (wth g p q) ≤ k) := HV4.out.1 rfl
                      go_wp2_with fail
                      refine (also_any n a cap g q p _ HG.out (HRW.out _ HB4.out) hqn hpn (Ne.symm hne) HOQ.out).mono ?_
                      rintro e w5 ⟨⟨a5, cap5, rfl, hr5, _⟩, hb5⟩
                      have HB5 : Hid (Below w1.heap.size w1 w5) := Below.then HB4.out hb5
                      have HR5 : Hid (Row w5 a5 n (fun k => (wth g q p k : Nat))) := hr5
                      clear hb5 hr5 d0 d1
                      go_wp2_with fail
                      refine (HIH.out a5 cap5 (wth g q p) _ (HG.out.wth hqn hpn (Ne.symm hne) HOQ.out) HR5.out).mono ?_
                      rintro e w6 ⟨⟨v6, rfl, hv6⟩, hb6⟩
                      have HB6 : Hid (Below w1.heap.size w1 w6) := Below.then HB5.out hb6
                      have HV6 : Hid (v6 = true ↔ cst n (wth g q p) ≤ k) := hv6
                      clear hb6 hv6 HR5
                      cases v6
                      · have HO2 : Hid (∀ y, p < y → y < q + 1 → ¬ TP n g k p y) := fun y h1 h2 => by
                          by_cases e : y = q
                          · subst e; rintro ⟨_, _, h3⟩; exact absurd (HV6.out.2 h3) (by decide)
                          · exact hoq.out y h1 (by omega)
                        go_wp2_with fail
                        go_roundw
                        case rel => exact ⟨q + 1, by omega, by omega, by go_num, HO2, HB6⟩
                        case measure => simp [intOf]; omega
                      · have HY : Hid (cst n g ≤ kk) := by rw [← HKK.out]; exact (told_iff HG.out).2 (.inr ⟨p, q, by omega, hqn, HOP.out, H4.out, HV6.out.1 rfl⟩)
                        have HB9 : Hid (Below w.heap.size w w6) := Below.then HB1.out HB6.out
                        go_wp2_with fail
                        go_ret
                        exact ⟨Ans.yes HY.out, HB9.out⟩
                · obtain rfl : q = n := by omega
                  have HO2 : Hid (∀ x y, x < p + 1 → x < y → y < q → ¬ TP q g k x y) := fun x y h1 h2 h3 => by
                    by_cases e : x = p
                    · subst e; exact hoq.out y h2 h3
                    · exact hok.out x y (by omega) h2 h3
                  go_wp2_with fail
                  go_roundw
                  case rel => exact ⟨p + 1, by omega, by go_num, HO2, hB⟩
                  case measure => simp [intOf]; omega
            · obtain rfl : p = n := by omega
              have HNO : Hid (¬ cst p g ≤ kk) := fun h => by
                rw [← HKK.out] at h
                rcases (told_iff HG.out).1 h with h1 | ⟨x, y, h1, h2, h3⟩
                · exact HNL.out h1
                · exact hok.out x y (by omega) h1 h2 h3
              have HB9 : Hid (Below w.heap.size w wr) := Below.then HB1.out hB.out
              go_wp2_with fail
              go_ret
              exact ⟨Ans.no HNO.out, HB9.out⟩
      exact AllReadyH.nil
    · have HY : Hid (cst n g ≤ kk) := by rw [(cst_zero HG.out).2 (HV0.out.1 rfl)]; exact Nat.zero_le _
      go_wp2_with fail
      go_ret
      exact ⟨Ans.yes HY.out, HB1.out⟩
end Go.Proofs.Ytipgojoiakbaiaa
