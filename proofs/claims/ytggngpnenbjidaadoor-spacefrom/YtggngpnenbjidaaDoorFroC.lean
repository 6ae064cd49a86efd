/-
  What the reference's SpaceOf answers. Conditions: good sets of at most ten points.
-/
import Derived.Deep.RegionHeld3
import Derived.Test.YtggngpnenbjidaaDoorFroB
namespace Go.Proofs.YtggngpnenbjidaaDoor
set_option maxRecDepth 100000
open Go.RowKit

/-- Is there an order of which just these sets are open? -/
def FGn (F : Nat → Nat) (n len : Nat) (f : Nat → Int) : Prop := Chk (n : Int) n (fun k => ((bl F len n k : Nat) : Int)) 0 ∧ SameRows (opn (bl F len n) n).length len (fun k => ((nth (opn (bl F len n) n) k : Nat) : Int)) f
def SoPost (B : Nat) (F : Nat → Nat) (n len : Nat) (f : Nat → Int) (e : Ending) (w' : World) : Prop :=
  ∃ (x : Value) (b : Bool), e = .returned (.tuple #[x, .bool b]) ∧ ((b = false ∧ ¬ FGn F n len f ∧ x = noOrder) ∨ (b = true ∧ FGn F n len f ∧ ∃ a cap, x = .agg #[.int .i64 (n : Int), .slice a n cap] ∧ Row w' a n (fun k => ((bl F len n k : Nat) : Int)) ∧ Fresh B a n))

theorem chk_some (n : Int) (len : Nat) (f : Nat → Int) : ∃ c, Hid (Chk n len f c) := by
  by_cases h1 : 0 ≤ n ∧ n ≤ 10
  · obtain ⟨m, rfl⟩ := Int.eq_ofNat_of_zero_le h1.1
    by_cases h2 : len = m
    · by_cases h3 : Rng m f
      · by_cases h4 : Ord m (nat f)
        · exact ⟨0, .inr ⟨m, rfl, by omega, .inr ⟨h2, .inr ⟨h3, .inr ⟨rfl, h4⟩⟩⟩⟩⟩
        · exact ⟨4, .inr ⟨m, rfl, by omega, .inr ⟨h2, .inr ⟨h3, .inl ⟨rfl, h4⟩⟩⟩⟩⟩
      · exact ⟨3, .inr ⟨m, rfl, by omega, .inr ⟨h2, .inl ⟨rfl, h3⟩⟩⟩⟩
    · exact ⟨1, .inr ⟨m, rfl, by omega, .inl ⟨rfl, h2⟩⟩⟩
  · exact ⟨2, .inl ⟨rfl, h1⟩⟩

set_option maxHeartbeats 4000000 in
theorem spaceOf_any (a : Option Addr) (n len cap : Nat) (F : Nat → Nat) (f : Nat → Int) (w : World) (h10 : n ≤ 10) (hll : len ≤ 1024) (hF : ∀ k, k < len → F k < 1024) (hr : Row w a len f) (hr2 : Row w a len (fun k => ((F k : Nat) : Int))) :
    Calls Tryd.prog 16 #[.int .i64 (n : Nat), .slice a len cap] w fun e w' => SoPost w.heap.size F n len f e w' ∧ Below w.heap.size w w' := by
  have hl : len ≤ maxLen := by unfold maxLen; omega
  have hpl := pw_le n h10
  have hb1 := bel_one w (.cells #[.slice a len cap] 22)
  have hb2 := bel_one (w.alloc (.cells #[.slice a len cap] 22)) (.cells #[.int .i64 0, .slice none 0 0] 24)
  have HB0 : Hid (Below w.heap.size w ((w.alloc (.cells #[.slice a len cap] 22)).alloc (.cells #[.int .i64 0, .slice none 0 0] 24))) := Below.then hb1 hb2
  have HC0 : Hid (((w.alloc (.cells #[.slice a len cap] 22)).alloc (.cells #[.int .i64 0, .slice none 0 0] 24)).cell? ⟨w.heap.size, 0, none⟩ = some (.slice a len cap)) := (hb2.cell (World.block_lt_of_cell? _ _ (newAt w (.slice a len cap) 22))).trans (newAt w (.slice a len cap) 22)
  have HZ0 : Hid (ZBox ((w.alloc (.cells #[.slice a len cap] 22)).alloc (.cells #[.int .i64 0, .slice none 0 0] 24)) (w.heap.size + 1)) := by
    have := ZBox.new (w.alloc (.cells #[.slice a len cap] 22))
    rw [World.size_alloc] at this
    exact this
  have HR0 : Hid (Row ((w.alloc (.cells #[.slice a len cap] 22)).alloc (.cells #[.int .i64 0, .slice none 0 0] 24)) a len f) := hr.below HB0.out
  have HR2 : Hid (Row ((w.alloc (.cells #[.slice a len cap] 22)).alloc (.cells #[.int .i64 0, .slice none 0 0] 24)) a len (fun k => ((F k : Nat) : Int))) := hr2.below HB0.out
  have HF : Hid (∀ k, k < len → F k < 1024) := hF
  have HBS : Hid (∀ k, k < n → bl F len n k < 1024) := fun k _ => by have := bl_lt F len n k; omega
  have HOL : Hid ((opn (bl F len n) n).length ≤ maxLen) := Nat.le_trans (idls_len _ _ h10) (by decide)
  clear hr hr2 hF hb1 hb2
  go_enter Tryd.func16, Tryd.ntmps16
  go_wp2_with fail
  refine (orderOf_clo n 44 #[.pointer (some ⟨w.heap.size, 0, none⟩)] (fun x y => okT F x y len && decide (x ≠ y)) _ h10 ent_space (fun x y wx hx hy hb => space1_any w.heap.size a len cap F x y wx hll HF.out (by omega) (by omega) ((hb.cell (World.block_lt_of_cell? _ _ HC0.out)).trans HC0.out) (HR2.out.below hb))).mono ?_
  rintro e w1 ⟨⟨xa, xc, rfl, hrow, hfr⟩, hb1⟩
  have hbx := bel_one w1 (.cells #[.int .i64 (n : Int), .slice xa n xc] 24)
  have HB1 : Hid (Below w.heap.size w (w1.alloc (.cells #[.int .i64 (n : Int), .slice xa n xc] 24))) := Below.then (Below.then HB0.out hb1) hbx
  have HZ1 : Hid (ZBox (w1.alloc (.cells #[.int .i64 (n : Int), .slice xa n xc] 24)) (w.heap.size + 1)) := (HZ0.out.step hb1).step hbx
  have HR1 : Hid (Row (w1.alloc (.cells #[.int .i64 (n : Int), .slice xa n xc] 24)) a len f) := (HR0.out.below hb1).below hbx
  have HC1 : Hid ((w1.alloc (.cells #[.int .i64 (n : Int), .slice xa n xc] 24)).cell? ⟨w.heap.size, 0, none⟩ = some (.slice a len cap)) := by
    have h1 := (hb1.cell (World.block_lt_of_cell? _ _ HC0.out)).trans HC0.out
    exact (hbx.cell (World.block_lt_of_cell? _ _ h1)).trans h1
  have K1 : Hid (Held (w1.alloc (.cells #[.int .i64 (n : Int), .slice xa n xc] 24)) w1.heap.size n xa n xc (fun k => ((bl F len n k : Nat) : Int))) := Held.box hrow
  have HFR : Hid (Fresh (w.heap.size + 1 + 1) xa n) := (by simpa using hfr : Fresh (w.heap.size + 1 + 1) xa n)
  clear hbx hb1 hrow hfr HB0 HC0 HZ0 HR0 HR2 HF
  go_wp2_with fail
  generalize w1.alloc (.cells #[.int .i64 (n : Int), .slice xa n xc] 24) = W at *
  generalize w1.heap.size = B6 at *
  have LR : Hid (∀ w', Below W.heap.size W w' → Row w' xa n (fun k => ((bl F len n k : Nat) : Int))) := fun w' h => (K1.out.step h).row
  have LA : Hid (∀ w', Below W.heap.size W w' → Row w' a len f) := fun w' h => HR1.out.below h
  have l0 : ∀ w', Below W.heap.size W w' → w'.cell? ⟨B6, 0, none⟩ = some (.int .i64 (n : Int)) := fun w' h => (K1.out.step h).c0
  have l1 : ∀ w', Below W.heap.size W w' → w'.cell? ⟨B6, 1, none⟩ = some (.slice xa n xc) := fun w' h => (K1.out.step h).c1
  have l2 : ∀ w', Below W.heap.size W w' → w'.cell? ⟨w.heap.size, 0, none⟩ = some (.slice a len cap) := fun w' h => (h.cell (World.block_lt_of_cell? _ _ HC1.out)).trans HC1.out
  have KK : Below W.heap.size W W.drew := (Below.refl _ _).drew
  obtain ⟨c0, HCK⟩ : ∃ c0, Hid (Chk (n : Int) n (fun k => ((bl F len n k : Nat) : Int)) c0) := chk_some _ _ _
  by_cases hc0 : c0 = 0
  · subst hc0
    refine wp_region_held_drew (S := (fun w' => Below W.heap.size W w')) (by kernel_rfl) (KK) (fun hHeld => ?_)
    refine wpAnyH_take (i := 0) (oi := { dst := some 10, op := Go.Op.load 24 (Go.Operand.tmp 6), type := 24, pos := "quotient.go:526", after := #[], guard := none }) (v := ?_) rfl (by kernel_rfl) (by kernel_rfl) (by kernel_rfl) (fun _ _ _ h => h) (Or.inl ⟨by rfl, ?hy⟩) (by assumption) ?_
    case hy => (intro w9 hSw; (try dsimp only at hSw); go_simp; try with_reducible rfl)
    try simp only [Act.put, List.setIfInBounds_toArray, List.set_cons_zero, List.set_cons_succ]
    refine wpAnyH_ready (rs := [1]) (by kernel_rfl) (by simp) ?_
    refine AllReadyH.cons (o := { dst := some 11, op := Go.Op.call { callee := Go.Callee.value (Go.Operand.func 10), args := #[Go.Operand.tmp 10], argTypes := #[24] }, type := 25, pos := "quotient.go:526", after := #[{ on := 0, ground := Go.Ground.data }], guard := none }) rfl (fun K hK => ?_) AllReadyH.nil
    go_simp
    refine (checkOrder_any n xa n xc (fun k => ((bl F len n k : Nat) : Int)) _ (by unfold maxLen; omega) (LR.out _ (by assumption))).mono ?_
    rintro e w5 ⟨⟨c, rfl, hc⟩, hb5⟩
    obtain rfl : c = 0 := hc.unique HCK.out
    refine hK.out _ _ ?_ (fun hHeld => ?_)
    · first | assumption | exact Below.then (by assumption) (by assumption)
    clear hK K
    try simp only [Act.put, List.setIfInBounds_toArray, List.set_cons_zero, List.set_cons_succ]
    refine wpAnyH_take (i := 2) (oi := { dst := some 12, op := Go.Op.binOp Go.BinOp.neq 25 (Go.Operand.tmp 11) (Go.Operand.const (Go.Value.int Go.IntKind.i64 0)) 25, type := 4, pos := "quotient.go:526", after := #[{ on := 1, ground := Go.Ground.data }], guard := none }) (v := ?_) rfl (by kernel_rfl) (by kernel_rfl) (by kernel_rfl) (fun _ _ _ h => h) (Or.inl ⟨by rfl, ?hy⟩) (by assumption) ?_
    case hy => (intro w9 hSw; (try dsimp only at hSw); go_simp; try with_reducible rfl)
    try simp only [Act.put, List.setIfInBounds_toArray, List.set_cons_zero, List.set_cons_succ]
    refine wpAnyH_take (i := 3) (oi := { dst := some 13, op := Go.Op.move (Go.Operand.tmp 12), type := 4, pos := "quotient.go:526", after := #[{ on := 2, ground := Go.Ground.data }, { on := 1, ground := Go.Ground.chain }], guard := none }) (v := ?_) rfl (by kernel_rfl) (by kernel_rfl) (by kernel_rfl) (fun _ _ _ h => h) (Or.inl ⟨by rfl, ?hy⟩) (by assumption) ?_
    case hy => (intro w9 hSw; (try dsimp only at hSw); go_simp; try with_reducible rfl)
    try simp only [Act.put, List.setIfInBounds_toArray, List.set_cons_zero, List.set_cons_succ]
    refine wpAnyH_take (i := 4) (oi := { dst := some 14, op := Go.Op.load 24 (Go.Operand.tmp 6), type := 24, pos := "quotient.go:526", after := #[{ on := 3, ground := Go.Ground.guard }], guard := some (3, false) }) (v := ?_) rfl (by kernel_rfl) (by kernel_rfl) (by kernel_rfl) (fun _ _ _ h => h) (Or.inl ⟨by rfl, ?hy⟩) (by assumption) ?_
    case hy => (intro w9 hSw; (try dsimp only at hSw); go_simp; try with_reducible rfl)
    try simp only [Act.put, List.setIfInBounds_toArray, List.set_cons_zero, List.set_cons_succ]
    refine wpAnyH_take (i := 6) (oi := { dst := some 16, op := Go.Op.load 22 (Go.Operand.tmp 3), type := 22, pos := "quotient.go:526", after := #[{ on := 3, ground := Go.Ground.guard }], guard := some (3, false) }) (v := ?_) rfl (by kernel_rfl) (by kernel_rfl) (by kernel_rfl) (fun _ _ _ h => h) (Or.inl ⟨by rfl, ?hy⟩) (by assumption) ?_
    case hy => (intro w9 hSw; (try dsimp only at hSw); go_simp; try with_reducible rfl)
    try simp only [Act.put, List.setIfInBounds_toArray, List.set_cons_zero, List.set_cons_succ]
    refine wpAnyH_ready (rs := [5]) (by kernel_rfl) (by simp) ?_
    refine AllReadyH.cons (o := { dst := some 15, op := Go.Op.call { callee := Go.Callee.value (Go.Operand.func 11), args := #[Go.Operand.tmp 14], argTypes := #[24] }, type := 22, pos := "quotient.go:526", after := #[{ on := 4, ground := Go.Ground.data }, { on := 3, ground := Go.Ground.chain }, { on := 3, ground := Go.Ground.guard }], guard := some (3, false) }) rfl (fun K hK => ?_) AllReadyH.nil
    go_simp
    refine (refOpens_any xa n xc (bl F len n) _ h10 HBS.out (LR.out _ (by assumption))).mono ?_
    rintro e w6 ⟨⟨v6, rfl, va, vc, rfl, hrow6⟩, hb6⟩
    refine hK.out _ _ ?_ (fun hHeld => ?_)
    · first | assumption | exact Below.then (by assumption) (by assumption)
    clear hK K
    try simp only [Act.put, List.setIfInBounds_toArray, List.set_cons_zero, List.set_cons_succ]
    refine wpAnyH_ready (rs := [7]) (by kernel_rfl) (by simp) ?_
    refine AllReadyH.cons (o := { dst := some 17, op := Go.Op.call { callee := Go.Callee.value (Go.Operand.func 39), args := #[Go.Operand.tmp 15, Go.Operand.tmp 16], argTypes := #[22, 22] }, type := 4, pos := "quotient.go:526", after := #[{ on := 5, ground := Go.Ground.data }, { on := 6, ground := Go.Ground.data }, { on := 5, ground := Go.Ground.chain }, { on := 3, ground := Go.Ground.guard }], guard := some (3, false) }) rfl (fun K hK => ?_) AllReadyH.nil
    go_simp
    refine (same_any va a (opn (bl F len n) n).length vc len cap _ _ _ HOL.out hl hrow6 (LA.out _ (by assumption))).mono ?_
    rintro e w7 ⟨⟨b7, rfl, hb7⟩, hbb7⟩
    refine hK.out _ _ ?_ (fun hHeld => ?_)
    · first | assumption | exact Below.then (by assumption) (by assumption)
    clear hK K
    try simp only [Act.put, List.setIfInBounds_toArray, List.set_cons_zero, List.set_cons_succ]
    refine wpAnyH_take (i := 8) (oi := { dst := some 18, op := Go.Op.unOp Go.UnOp.not 4 (Go.Operand.tmp 17), type := 4, pos := "quotient.go:526", after := #[{ on := 7, ground := Go.Ground.data }, { on := 3, ground := Go.Ground.guard }], guard := some (3, false) }) (v := ?_) rfl (by kernel_rfl) (by kernel_rfl) (by kernel_rfl) (fun _ _ _ h => h) (Or.inl ⟨by rfl, ?hy⟩) (by assumption) ?_
    case hy => (intro w9 hSw; (try dsimp only at hSw); go_simp; try with_reducible rfl)
    try simp only [Act.put, List.setIfInBounds_toArray, List.set_cons_zero, List.set_cons_succ]
    refine wpAnyH_take (i := 9) (oi := { dst := some 19, op := Go.Op.pick (Go.Operand.tmp 13) (Go.Operand.const (Go.Value.bool true)) (Go.Operand.tmp 18), type := 4, pos := "quotient.go:526", after := #[{ on := 3, ground := Go.Ground.data }, { on := 8, ground := Go.Ground.data }], guard := none }) (v := ?_) rfl (by kernel_rfl) (by kernel_rfl) (by kernel_rfl) (fun _ _ _ h => h) (Or.inl ⟨by rfl, ?hy⟩) (by assumption) ?_
    case hy => (intro w9 hSw; (try dsimp only at hSw); go_simp; try with_reducible rfl)
    try simp only [Act.put, List.setIfInBounds_toArray, List.set_cons_zero, List.set_cons_succ]
    refine wpAnyH_done (by kernel_rfl) ?_ _
    try simp only [Act.put, List.setIfInBounds_toArray, List.set_cons_zero, List.set_cons_succ]
    have HSR : Hid (b7 = true ↔ SameRows (opn (bl F len n) n).length len (fun k => ((nth (opn (bl F len n) n) k : Nat) : Int)) f) := hb7
    have H7 : Hid (Below W.heap.size W w7) := hHeld
    obtain ⟨r0, r1, r2, r3⟩ := HZ1.out.step H7.out
    have k0 := l0 _ H7.out
    have k1 := l1 _ H7.out
    have HRO : Hid (Row w7 xa n (fun k => ((bl F len n k : Nat) : Int))) := LR.out _ H7.out
    have HB7 : Hid (Below w.heap.size w w7) := Below.then HB1.out H7.out
    clear l0 l1 l2 hb7 hrow6 hb5 hb6 hbb7
    cases b7
    · have HNG : Hid (¬ FGn F n len f) := fun h => by have := HSR.out.2 h.2; cases this
      clear HSR k0 k1
      go_wp2_with fail
      exact bodyPost_ret (v := .tuple #[noOrder, .bool false]) (by simp [results, Tryd.results16, go_sem, noOrder, r0, r1]) rfl ⟨⟨_, false, rfl, .inl ⟨rfl, HNG.out, rfl⟩⟩, set2B HB7.out (by omega)⟩
    · have HYG : Hid (FGn F n len f) := ⟨HCK.out, HSR.out.1 rfl⟩
      clear HSR
      go_wp2_with fail
      refine bodyPost_ret (v := .tuple #[.agg #[.int .i64 (n : Int), .slice xa n xc], .bool true]) (by simp [results, Tryd.results16, go_sem, r0, r1]) rfl ⟨⟨_, true, rfl, .inr ⟨rfl, HYG.out, _, _, rfl, ?_⟩⟩, set2B HB7.out (by omega)⟩
      exact ⟨row_set2 HRO.out HFR.out, HFR.out.mono (by omega)⟩
  · have hne : (c0 != 0) = true := by simpa using hc0
    have HNG : Hid (¬ FGn F n len f) := fun h => hc0 (HCK.out.unique h.1)
    refine wp_region_held_drew (S := (fun w' => Below W.heap.size W w')) (by kernel_rfl) (KK) (fun hHeld => ?_)
    refine wpAnyH_take (i := 0) (oi := { dst := some 10, op := Go.Op.load 24 (Go.Operand.tmp 6), type := 24, pos := "quotient.go:526", after := #[], guard := none }) (v := ?_) rfl (by kernel_rfl) (by kernel_rfl) (by kernel_rfl) (fun _ _ _ h => h) (Or.inl ⟨by rfl, ?hy⟩) (by assumption) ?_
    case hy => (intro w9 hSw; (try dsimp only at hSw); go_simp; try with_reducible rfl)
    try simp only [Act.put, List.setIfInBounds_toArray, List.set_cons_zero, List.set_cons_succ]
    refine wpAnyH_ready (rs := [1]) (by kernel_rfl) (by simp) ?_
    refine AllReadyH.cons (o := { dst := some 11, op := Go.Op.call { callee := Go.Callee.value (Go.Operand.func 10), args := #[Go.Operand.tmp 10], argTypes := #[24] }, type := 25, pos := "quotient.go:526", after := #[{ on := 0, ground := Go.Ground.data }], guard := none }) rfl (fun K hK => ?_) AllReadyH.nil
    go_simp
    refine (checkOrder_any n xa n xc (fun k => ((bl F len n k : Nat) : Int)) _ (by unfold maxLen; omega) (LR.out _ (by assumption))).mono ?_
    rintro e w5 ⟨⟨c, rfl, hc⟩, hb5⟩
    obtain rfl : c = c0 := hc.unique HCK.out
    refine hK.out _ _ ?_ (fun hHeld => ?_)
    · first | assumption | exact Below.then (by assumption) (by assumption)
    clear hK K
    try simp only [Act.put, List.setIfInBounds_toArray, List.set_cons_zero, List.set_cons_succ]
    refine wpAnyH_take (i := 2) (oi := { dst := some 12, op := Go.Op.binOp Go.BinOp.neq 25 (Go.Operand.tmp 11) (Go.Operand.const (Go.Value.int Go.IntKind.i64 0)) 25, type := 4, pos := "quotient.go:526", after := #[{ on := 1, ground := Go.Ground.data }], guard := none }) (v := ?_) rfl (by kernel_rfl) (by kernel_rfl) (by kernel_rfl) (fun _ _ _ h => h) (Or.inl ⟨by rfl, ?hy⟩) (by assumption) ?_
    case hy => (intro w9 hSw; (try dsimp only at hSw); go_simp; try with_reducible rfl)
    try simp only [Act.put, List.setIfInBounds_toArray, List.set_cons_zero, List.set_cons_succ]
    refine wpAnyH_take (i := 3) (oi := { dst := some 13, op := Go.Op.move (Go.Operand.tmp 12), type := 4, pos := "quotient.go:526", after := #[{ on := 2, ground := Go.Ground.data }, { on := 1, ground := Go.Ground.chain }], guard := none }) (v := ?_) rfl (by kernel_rfl) (by kernel_rfl) (by kernel_rfl) (fun _ _ _ h => h) (Or.inl ⟨by rfl, ?hy⟩) (by assumption) ?_
    case hy => (intro w9 hSw; (try dsimp only at hSw); go_simp; try with_reducible rfl)
    try simp only [Act.put, List.setIfInBounds_toArray, List.set_cons_zero, List.set_cons_succ]
    refine wpAnyH_take (i := 4) (oi := { dst := some 14, op := Go.Op.load 24 (Go.Operand.tmp 6), type := 24, pos := "quotient.go:526", after := #[{ on := 3, ground := Go.Ground.guard }], guard := some (3, false) }) (v := undef) rfl (by kernel_rfl) (by kernel_rfl) (by kernel_rfl) (fun _ _ _ h => h) (Or.inr ⟨by rfl, rfl⟩) (by assumption) ?_
    try simp only [Act.put, List.setIfInBounds_toArray, List.set_cons_zero, List.set_cons_succ]
    refine wpAnyH_take (i := 5) (oi := { dst := some 15, op := Go.Op.call { callee := Go.Callee.value (Go.Operand.func 11), args := #[Go.Operand.tmp 14], argTypes := #[24] }, type := 22, pos := "quotient.go:526", after := #[{ on := 4, ground := Go.Ground.data }, { on := 3, ground := Go.Ground.chain }, { on := 3, ground := Go.Ground.guard }], guard := some (3, false) }) (v := undef) rfl (by kernel_rfl) (by kernel_rfl) (by kernel_rfl) (fun _ _ _ h => h) (Or.inr ⟨by rfl, rfl⟩) (by assumption) ?_
    try simp only [Act.put, List.setIfInBounds_toArray, List.set_cons_zero, List.set_cons_succ]
    refine wpAnyH_take (i := 6) (oi := { dst := some 16, op := Go.Op.load 22 (Go.Operand.tmp 3), type := 22, pos := "quotient.go:526", after := #[{ on := 3, ground := Go.Ground.guard }], guard := some (3, false) }) (v := undef) rfl (by kernel_rfl) (by kernel_rfl) (by kernel_rfl) (fun _ _ _ h => h) (Or.inr ⟨by rfl, rfl⟩) (by assumption) ?_
    try simp only [Act.put, List.setIfInBounds_toArray, List.set_cons_zero, List.set_cons_succ]
    refine wpAnyH_take (i := 7) (oi := { dst := some 17, op := Go.Op.call { callee := Go.Callee.value (Go.Operand.func 39), args := #[Go.Operand.tmp 15, Go.Operand.tmp 16], argTypes := #[22, 22] }, type := 4, pos := "quotient.go:526", after := #[{ on := 5, ground := Go.Ground.data }, { on := 6, ground := Go.Ground.data }, { on := 5, ground := Go.Ground.chain }, { on := 3, ground := Go.Ground.guard }], guard := some (3, false) }) (v := undef) rfl (by kernel_rfl) (by kernel_rfl) (by kernel_rfl) (fun _ _ _ h => h) (Or.inr ⟨by rfl, rfl⟩) (by assumption) ?_
    try simp only [Act.put, List.setIfInBounds_toArray, List.set_cons_zero, List.set_cons_succ]
    refine wpAnyH_take (i := 8) (oi := { dst := some 18, op := Go.Op.unOp Go.UnOp.not 4 (Go.Operand.tmp 17), type := 4, pos := "quotient.go:526", after := #[{ on := 7, ground := Go.Ground.data }, { on := 3, ground := Go.Ground.guard }], guard := some (3, false) }) (v := undef) rfl (by kernel_rfl) (by kernel_rfl) (by kernel_rfl) (fun _ _ _ h => h) (Or.inr ⟨by rfl, rfl⟩) (by assumption) ?_
    try simp only [Act.put, List.setIfInBounds_toArray, List.set_cons_zero, List.set_cons_succ]
    refine wpAnyH_take (i := 9) (oi := { dst := some 19, op := Go.Op.pick (Go.Operand.tmp 13) (Go.Operand.const (Go.Value.bool true)) (Go.Operand.tmp 18), type := 4, pos := "quotient.go:526", after := #[{ on := 3, ground := Go.Ground.data }, { on := 8, ground := Go.Ground.data }], guard := none }) (v := ?_) rfl (by kernel_rfl) (by kernel_rfl) (by kernel_rfl) (fun _ _ _ h => h) (Or.inl ⟨by rfl, ?hy⟩) (by assumption) ?_
    case hy => (intro w9 hSw; (try dsimp only at hSw); go_simp; try with_reducible rfl)
    try simp only [Act.put, List.setIfInBounds_toArray, List.set_cons_zero, List.set_cons_succ]
    refine wpAnyH_done (by kernel_rfl) ?_ _
    try simp only [Act.put, List.setIfInBounds_toArray, List.set_cons_zero, List.set_cons_succ]
    have H5 : Hid (Below W.heap.size W w5) := hHeld
    obtain ⟨r0, r1, r2, r3⟩ := HZ1.out.step H5.out
    have HB5 : Hid (Below w.heap.size w w5) := Below.then HB1.out H5.out
    clear l0 l1 l2 hb5 hc
    go_wp2_with fail
    exact bodyPost_ret (v := .tuple #[noOrder, .bool false]) (by simp [results, Tryd.results16, go_sem, noOrder, r0, r1]) rfl ⟨⟨_, false, rfl, .inl ⟨rfl, HNG.out, rfl⟩⟩, set2B HB5.out (by omega)⟩
end Go.Proofs.YtggngpnenbjidaaDoor
