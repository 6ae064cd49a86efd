/-
  For every order and list that are handed in, hasselaw.FixAbian returns true, and writes nothing that was there. Condition: the table of the least bits.
-/
import Derived.Test.YtcfpnljkcaophaaDoorFixedL
import Derived.Test.YtcfpnljkcaophaaDoorFBegun
import Derived.Test.YtcfpnljkcaophaaDoorAbianM
import Derived.Deep.RegionHeld3
namespace Go.Proofs.YtcfpnljkcaophaaDoor
open Go.RowKit

/-- Is P so of one of the first k? -/
def anyB (P : Nat → Bool) : Nat → Bool
  | 0 => false
  | k + 1 => anyB P k || P k
theorem anyB_of {P : Nat → Bool} : ∀ {k j : Nat}, j < k → P j = true → anyB P k = true
  | k + 1, j, h, hp => by
    by_cases e : j = k
    · subst e; simp [anyB, hp]
    · simp [anyB, anyB_of (by omega : j < k) hp]
/-- Is j above i, and goes to itself? -/
def abP (g f : Nat → Nat) (i j : Nat) : Bool := decide (f j = j) && upB g i j
theorem fxs_bit {f : Nat → Nat} {q k : Nat} (h : k < q) : (fxs f q).testBit k = decide (f k = k) := by
  unfold fxs
  rw [setBy_bit, Bool.eq_iff_iff]
  simp [h]

set_option maxHeartbeats 4000000 in
set_option maxRecDepth 100000 in
theorem fixAbian_any (n0 : Int) (a0 : Option Addr) (la0 ca0 : Nat) (f0 : Nat → Int) (a2 : Option Addr) (b2 c2 : Nat) (f2 : Nat → Int) (w : World)
    (hl0 : la0 ≤ maxLen) (hl2 : b2 ≤ maxLen) (hr0 : Row w a0 la0 f0) (hr2 : Row w a2 b2 f2) (hT : Tab w) :
    Calls Tryd.prog 3 #[.agg #[.int .i64 n0, .slice a0 la0 ca0], .slice a2 b2 c2] w fun e w' => e = .returned (.bool true) ∧ Below w.heap.size w w' := by
  obtain ⟨W, eW⟩ : ∃ W, Hid (W = w.alloc (.cells #[.int .i64 n0, .slice a0 la0 ca0] 24)) := ⟨_, rfl⟩
  have HB1 : Hid (Below w.heap.size w W) := by rw [eW.out]; exact (Below.refl _ _).alloc (Nat.le_refl _) _
  have HA : Hid (∀ wx, Below W.heap.size W wx → OA.In ⟨n0, a0, la0, ca0, f0⟩ wx) := fun wx h => ⟨hl0, (hr0.below HB1.out).below h⟩
  have HM : Hid (∀ wx, Below W.heap.size W wx → MA.In ⟨a2, b2, c2, f2⟩ wx) := fun wx h => ⟨hl2, (hr2.below HB1.out).below h⟩
  have HOB : Hid (OB W w.heap.size n0 a0 la0 ca0) := by rw [eW.out]; exact OB.new _ _ _ _ _
  have HO : Hid (∀ wx, Below W.heap.size W wx → OB wx w.heap.size n0 a0 la0 ca0) := fun wx h => HOB.out.step h
  have HT : Hid (Tab W) := hT.step HB1.out
  have HFX : Hid (∀ wx, Below W.heap.size W wx → Calls Tryd.prog 5 #[.agg #[.int .i64 n0, .slice a0 la0 ca0], .slice a2 b2 c2] wx fun e w' => FxPost ⟨n0, a0, la0, ca0, f0⟩ ⟨a2, b2, c2, f2⟩ e ∧ Below wx.heap.size wx w') := fun wx h => fixFixed0_any ⟨n0, a0, la0, ca0, f0⟩ ⟨a2, b2, c2, f2⟩ wx (HA.out wx h) (HM.out wx h)
  clear hr0 hr2 hT HOB hl0 hl2
  go_enter Tryd.func3, Tryd.ntmps3
  go_wp2_with fail
  rw [← eW.out]
  refine (fixBegun_any _ HT.out).mono ?_
  rintro e w1 ⟨rfl, hb1⟩
  have HB2 : Hid (Below W.heap.size W w1) := hb1
  obtain ⟨l0, l1⟩ := HO.out _ HB2.out
  clear hb1
  go_wp2_with fail
  refine (HFX.out _ HB2.out).mono ?_
  rintro e w2 ⟨⟨c, v, hc, rfl, hv⟩, hb2⟩
  have HB3 : Hid (Below W.heap.size W w2) := Below.then HB2.out hb2
  clear hb2 l0 l1 HFX HB2
  by_cases h0 : c = 0
  · subst h0
    obtain rfl : v = (fxs (MA.f ⟨a2, b2, c2, f2⟩) (OA.q ⟨n0, a0, la0, ca0, f0⟩) : Nat) := by
      rcases hv with ⟨h, _⟩ | ⟨_, h⟩
      · exact absurd rfl h
      · exact h
    clear hv
    obtain ⟨c0, hm, hc0⟩ := hc
    obtain ⟨rfl, hmon⟩ : c0 = 0 ∧ MonL ⟨n0, a0, la0, ca0, f0⟩ ⟨n0, a0, la0, ca0, f0⟩ ⟨a2, b2, c2, f2⟩ := by
      rcases hc0 with ⟨h1, h2⟩ | ⟨h1, ⟨h2, _⟩ | ⟨_, h2⟩⟩
      · exact absurd h2.symm h1
      · cases h2
      · exact ⟨h1, h2⟩
    obtain ⟨hck, _, hmc⟩ := hm.zero
    obtain ⟨en, el, h10, hg, hro⟩ := OA.open hck
    rw [en] at hmc
    obtain ⟨ef, hff, hrf⟩ := MA.open hmc
    have hord : Ord (OA.q ⟨n0, a0, la0, ca0, f0⟩) (OA.g ⟨n0, a0, la0, ca0, f0⟩) := by
      rcases hck with ⟨h, _⟩ | ⟨m, e1, _, ⟨h, _⟩ | ⟨_, ⟨h, _⟩ | ⟨_, ⟨h, _⟩ | ⟨_, h⟩⟩⟩⟩
      · cases h
      · cases h
      · cases h
      · cases h
      · have e2 : OA.q ⟨n0, a0, la0, ca0, f0⟩ = m := by
          have : n0 = (m : Int) := e1
          show n0.toNat = m
          omega
        rw [e2]; exact h
    have HAB : Hid (∀ i, i < OA.q ⟨n0, a0, la0, ca0, f0⟩ → upB (OA.g ⟨n0, a0, la0, ca0, f0⟩) i (MA.f ⟨a2, b2, c2, f2⟩ i) = true → anyB (abP (OA.g ⟨n0, a0, la0, ca0, f0⟩) (MA.f ⟨a2, b2, c2, f2⟩) i) (OA.q ⟨n0, a0, la0, ca0, f0⟩) = true) := fun i hi h => by
      obtain ⟨k, hk, h1, h2⟩ := abian hord hg hff hmon _ i (Nat.le_refl _) hi h
      exact anyB_of hk (by simp [abP, h1, h2])
    have HRO : Hid (∀ wx, Below w2.heap.size w2 wx → Row wx a0 (OA.q ⟨n0, a0, la0, ca0, f0⟩) (fun k => (OA.g ⟨n0, a0, la0, ca0, f0⟩ k : Nat))) := fun wx h => hro wx (HA.out wx (Below.then HB3.out h))
    have HRF : Hid (∀ wx, Below w2.heap.size w2 wx → Row wx a2 (OA.q ⟨n0, a0, la0, ca0, f0⟩) (fun k => (MA.f ⟨a2, b2, c2, f2⟩ k : Nat))) := fun wx h => hrf wx (HM.out wx (Below.then HB3.out h))
    have HOX : Hid (∀ wx, Below w2.heap.size w2 wx → OB wx w.heap.size n0 a0 la0 ca0) := fun wx h => HO.out wx (Below.then HB3.out h)
    have HSB : Hid (∀ k, k < OA.q ⟨n0, a0, la0, ca0, f0⟩ → (fxs (MA.f ⟨a2, b2, c2, f2⟩) (OA.q ⟨n0, a0, la0, ca0, f0⟩)).testBit k = decide (MA.f ⟨a2, b2, c2, f2⟩ k = k)) := fun k hk => fxs_bit hk
    have hs := fxs_lt (f := MA.f ⟨a2, b2, c2, f2⟩) h10
    have HG : Hid (∀ k, k < OA.q ⟨n0, a0, la0, ca0, f0⟩ → OA.g ⟨n0, a0, la0, ca0, f0⟩ k < 1024) := hg
    have HF : Hid (∀ k, k < OA.q ⟨n0, a0, la0, ca0, f0⟩ → MA.f ⟨a2, b2, c2, f2⟩ k < OA.q ⟨n0, a0, la0, ca0, f0⟩) := hff
    have en' : n0 = ((OA.q ⟨n0, a0, la0, ca0, f0⟩ : Nat) : Int) := en
    have el' : la0 = OA.q ⟨n0, a0, la0, ca0, f0⟩ := el
    have ef' : b2 = OA.q ⟨n0, a0, la0, ca0, f0⟩ := ef
    clear hm hc0 hmon hck hmc en el hg hro ef hff hrf hord HA HM HO
    generalize fxs (MA.f ⟨a2, b2, c2, f2⟩) (OA.q ⟨n0, a0, la0, ca0, f0⟩) = s at *
    generalize OA.q ⟨n0, a0, la0, ca0, f0⟩ = q at *
    generalize OA.g ⟨n0, a0, la0, ca0, f0⟩ = g at *
    generalize MA.f ⟨a2, b2, c2, f2⟩ = F at *
    subst en' el' ef'
    have HU : Hid (∀ i j v, i < b2 → j < b2 → upB g i j = v → ∀ wx, Below w2.heap.size w2 wx → Calls Tryd.prog 6 #[.agg #[.int .i64 (b2 : Nat), .slice a0 b2 ca0], .int .i64 (i : Nat), .int .i64 (j : Nat)] wx fun e w' => e = .returned (.bool v) ∧ Below wx.heap.size wx w') := fun i j v hi hj hv wx h =>
      upto_any _ a0 b2 ca0 g i j wx v hv h10 HG.out (HRO.out wx h) (by omega) hj
    clear HRO HG
    go_wp2_with fail
    go_loopw [7] (fun i wx => ∃ k : Nat, k ≤ b2 ∧ i = .int .i64 k ∧ Hid (Below w2.heap.size w2 wx)) (fun i _ => b2 - (intOf i).toNat)
    case atStart => exact ⟨0, Nat.zero_le _, rfl, Below.refl _ _⟩
    case round =>
      obtain ⟨i, hi, rfl, HBx⟩ := hrel
      obtain ⟨l0, l1⟩ := HOX.out _ HBx.out
      by_cases hlt : i < b2
      · have hlt' : (i : Int) < (b2 : Int) := by omega
        obtain ⟨bf, off, rfl, cf⟩ := HRF.out _ HBx.out i hlt
        have hfi := HF.out i hlt
        obtain ⟨y, HY⟩ : ∃ y, Hid (F i = y) := ⟨_, rfl⟩
        rw [HY.out] at hfi
        have cf' : wr.cell? ⟨bf, off + i, none⟩ = some (.int .i64 (y : Nat)) := by rw [← HY.out]; exact cf
        have m0 : ∀ w' : World, Below wr.heap.size wr w' → w'.cell? ⟨w.heap.size, 0, none⟩ = some (.int .i64 (b2 : Nat)) := fun w' h => (h.cell (World.block_lt_of_cell? _ _ l0)).trans l0
        have m1 : ∀ w' : World, Below wr.heap.size wr w' → w'.cell? ⟨w.heap.size, 1, none⟩ = some (.slice a0 b2 ca0) := fun w' h => (h.cell (World.block_lt_of_cell? _ _ l1)).trans l1
        have m2 : ∀ w' : World, Below wr.heap.size wr w' → w'.cell? ⟨bf, off + i, none⟩ = some (.int .i64 (y : Nat)) := fun w' h => (h.cell (World.block_lt_of_cell? _ _ cf')).trans cf'
        clear cf
        rcases (Bool.eq_false_or_eq_true (upB g i y)).symm with hu | hu
        · have HUP : Hid (∀ wx, Below wr.heap.size wr wx → Calls Tryd.prog 6 #[.agg #[.int .i64 (b2 : Nat), .slice a0 b2 ca0], .int .i64 (i : Nat), .int .i64 (y : Nat)] wx fun e w' => e = .returned (.bool false) ∧ Below wx.heap.size wx w') := fun wx h => HU.out i y false hlt hfi hu wx (Below.then HBx.out h)
          go_wp2_with fail
          refine wp_region_held_drew (S := (fun w' => Below wr.heap.size wr w')) (by kernel_rfl) ((Below.refl _ _).drew) (fun hHeld => ?_)
          refine wpAnyH_take (i := 0) (oi := { dst := some 26, op := Go.Op.load 24 (Go.Operand.tmp 2), type := 24, pos := "fix.go:160", after := #[], guard := none }) (v := ?_) rfl (by kernel_rfl) (by kernel_rfl) (by kernel_rfl) (fun _ _ _ h => h) (Or.inl ⟨by rfl, ?hy⟩) (by assumption) ?_
          case hy => (intro w9 hSw; (try dsimp only at hSw); go_simp; try with_reducible rfl)
          try simp only [Act.put, List.setIfInBounds_toArray, List.set_cons_zero, List.set_cons_succ]
          refine wpAnyH_take (i := 1) (oi := { dst := some 27, op := Go.Op.move (Go.Operand.tmp 7), type := 3, pos := "fix.go:160", after := #[], guard := none }) (v := ?_) rfl (by kernel_rfl) (by kernel_rfl) (by kernel_rfl) (fun _ _ _ h => h) (Or.inl ⟨by rfl, ?hy⟩) (by assumption) ?_
          case hy => (intro w9 hSw; (try dsimp only at hSw); go_simp; try with_reducible rfl)
          try simp only [Act.put, List.setIfInBounds_toArray, List.set_cons_zero, List.set_cons_succ]
          refine wpAnyH_take (i := 2) (oi := { dst := some 28, op := Go.Op.move (Go.Operand.tmp 1), type := 22, pos := "fix.go:160", after := #[], guard := none }) (v := ?_) rfl (by kernel_rfl) (by kernel_rfl) (by kernel_rfl) (fun _ _ _ h => h) (Or.inl ⟨by rfl, ?hy⟩) (by assumption) ?_
          case hy => (intro w9 hSw; (try dsimp only at hSw); go_simp; try with_reducible rfl)
          try simp only [Act.put, List.setIfInBounds_toArray, List.set_cons_zero, List.set_cons_succ]
          refine wpAnyH_take (i := 3) (oi := { dst := some 29, op := Go.Op.move (Go.Operand.tmp 7), type := 3, pos := "fix.go:160", after := #[], guard := none }) (v := ?_) rfl (by kernel_rfl) (by kernel_rfl) (by kernel_rfl) (fun _ _ _ h => h) (Or.inl ⟨by rfl, ?hy⟩) (by assumption) ?_
          case hy => (intro w9 hSw; (try dsimp only at hSw); go_simp; try with_reducible rfl)
          try simp only [Act.put, List.setIfInBounds_toArray, List.set_cons_zero, List.set_cons_succ]
          refine wpAnyH_take (i := 4) (oi := { dst := some 30, op := Go.Op.indexAddr 22 (Go.Operand.tmp 28) (Go.Operand.tmp 29), type := 0, pos := "fix.go:160", after := #[{ on := 2, ground := Go.Ground.data }, { on := 3, ground := Go.Ground.data }], guard := none }) (v := ?_) rfl (by kernel_rfl) (by kernel_rfl) (by kernel_rfl) (fun _ _ _ h => h) (Or.inl ⟨by rfl, ?hy⟩) (by assumption) ?_
          case hy => (intro w9 hSw; (try dsimp only at hSw); go_simp; try with_reducible rfl)
          try simp only [Act.put, List.setIfInBounds_toArray, List.set_cons_zero, List.set_cons_succ]
          refine wpAnyH_take (i := 5) (oi := { dst := some 31, op := Go.Op.load 3 (Go.Operand.tmp 30), type := 3, pos := "fix.go:160", after := #[{ on := 4, ground := Go.Ground.data }], guard := none }) (v := ?_) rfl (by kernel_rfl) (by kernel_rfl) (by kernel_rfl) (fun _ _ _ h => h) (Or.inl ⟨by rfl, ?hy⟩) (by assumption) ?_
          case hy => (intro w9 hSw; (try dsimp only at hSw); go_simp; try with_reducible rfl)
          try simp only [Act.put, List.setIfInBounds_toArray, List.set_cons_zero, List.set_cons_succ]
          refine wpAnyH_ready (rs := [6]) (by kernel_rfl) (by simp) ?_
          refine AllReadyH.cons (o := { dst := some 32, op := Go.Op.call { callee := Go.Callee.value (Go.Operand.func 6), args := #[Go.Operand.tmp 26, Go.Operand.tmp 27, Go.Operand.tmp 31], argTypes := #[24, 3, 3] }, type := 4, pos := "fix.go:160", after := #[{ on := 0, ground := Go.Ground.data }, { on := 1, ground := Go.Ground.data }, { on := 5, ground := Go.Ground.data }], guard := none }) rfl (fun K hK => ?_) AllReadyH.nil
          go_simp
          refine (HUP.out _ hHeld).mono ?_
          rintro e w4 ⟨rfl, hb4⟩
          refine hK.out _ _ ?_ (fun hHeld => ?_)
          · first | assumption | exact Below.then (by assumption) (by assumption)
          clear hK K
          try simp only [Act.put, List.setIfInBounds_toArray, List.set_cons_zero, List.set_cons_succ]
          refine wpAnyH_take (i := 7) (oi := { dst := some 33, op := Go.Op.unOp Go.UnOp.not 4 (Go.Operand.tmp 32), type := 4, pos := "fix.go:160", after := #[{ on := 6, ground := Go.Ground.data }], guard := none }) (v := ?_) rfl (by kernel_rfl) (by kernel_rfl) (by kernel_rfl) (fun _ _ _ h => h) (Or.inl ⟨by rfl, ?hy⟩) (by assumption) ?_
          case hy => (intro w9 hSw; (try dsimp only at hSw); go_simp; try with_reducible rfl)
          try simp only [Act.put, List.setIfInBounds_toArray, List.set_cons_zero, List.set_cons_succ]
          refine wpAnyH_done (by kernel_rfl) ?_ _
          try simp only [Act.put, List.setIfInBounds_toArray, List.set_cons_zero, List.set_cons_succ]
          have HB4 : Hid (Below wr.heap.size wr w4) := by assumption
          go_wp2_with fail
          go_roundw
          case rel => exact ⟨i + 1, by omega, by go_num, Below.then HBx.out HB4.out⟩
          case measure => simp [intOf]; omega
        · have HUP : Hid (∀ wx, Below wr.heap.size wr wx → Calls Tryd.prog 6 #[.agg #[.int .i64 (b2 : Nat), .slice a0 b2 ca0], .int .i64 (i : Nat), .int .i64 (y : Nat)] wx fun e w' => e = .returned (.bool true) ∧ Below wx.heap.size wx w') := fun wx h => HU.out i y true hlt hfi hu wx (Below.then HBx.out h)
          have HAI : Hid (anyB (abP g F i) b2 = true) := HAB.out i hlt (by rw [HY.out]; exact hu)
          go_wp2_with fail
          refine wp_region_held_drew (S := (fun w' => Below wr.heap.size wr w')) (by kernel_rfl) ((Below.refl _ _).drew) (fun hHeld => ?_)
          refine wpAnyH_take (i := 0) (oi := { dst := some 26, op := Go.Op.load 24 (Go.Operand.tmp 2), type := 24, pos := "fix.go:160", after := #[], guard := none }) (v := ?_) rfl (by kernel_rfl) (by kernel_rfl) (by kernel_rfl) (fun _ _ _ h => h) (Or.inl ⟨by rfl, ?hy⟩) (by assumption) ?_
          case hy => (intro w9 hSw; (try dsimp only at hSw); go_simp; try with_reducible rfl)
          try simp only [Act.put, List.setIfInBounds_toArray, List.set_cons_zero, List.set_cons_succ]
          refine wpAnyH_take (i := 1) (oi := { dst := some 27, op := Go.Op.move (Go.Operand.tmp 7), type := 3, pos := "fix.go:160", after := #[], guard := none }) (v := ?_) rfl (by kernel_rfl) (by kernel_rfl) (by kernel_rfl) (fun _ _ _ h => h) (Or.inl ⟨by rfl, ?hy⟩) (by assumption) ?_
          case hy => (intro w9 hSw; (try dsimp only at hSw); go_simp; try with_reducible rfl)
          try simp only [Act.put, List.setIfInBounds_toArray, List.set_cons_zero, List.set_cons_succ]
          refine wpAnyH_take (i := 2) (oi := { dst := some 28, op := Go.Op.move (Go.Operand.tmp 1), type := 22, pos := "fix.go:160", after := #[], guard := none }) (v := ?_) rfl (by kernel_rfl) (by kernel_rfl) (by kernel_rfl) (fun _ _ _ h => h) (Or.inl ⟨by rfl, ?hy⟩) (by assumption) ?_
          case hy => (intro w9 hSw; (try dsimp only at hSw); go_simp; try with_reducible rfl)
          try simp only [Act.put, List.setIfInBounds_toArray, List.set_cons_zero, List.set_cons_succ]
          refine wpAnyH_take (i := 3) (oi := { dst := some 29, op := Go.Op.move (Go.Operand.tmp 7), type := 3, pos := "fix.go:160", after := #[], guard := none }) (v := ?_) rfl (by kernel_rfl) (by kernel_rfl) (by kernel_rfl) (fun _ _ _ h => h) (Or.inl ⟨by rfl, ?hy⟩) (by assumption) ?_
          case hy => (intro w9 hSw; (try dsimp only at hSw); go_simp; try with_reducible rfl)
          try simp only [Act.put, List.setIfInBounds_toArray, List.set_cons_zero, List.set_cons_succ]
          refine wpAnyH_take (i := 4) (oi := { dst := some 30, op := Go.Op.indexAddr 22 (Go.Operand.tmp 28) (Go.Operand.tmp 29), type := 0, pos := "fix.go:160", after := #[{ on := 2, ground := Go.Ground.data }, { on := 3, ground := Go.Ground.data }], guard := none }) (v := ?_) rfl (by kernel_rfl) (by kernel_rfl) (by kernel_rfl) (fun _ _ _ h => h) (Or.inl ⟨by rfl, ?hy⟩) (by assumption) ?_
          case hy => (intro w9 hSw; (try dsimp only at hSw); go_simp; try with_reducible rfl)
          try simp only [Act.put, List.setIfInBounds_toArray, List.set_cons_zero, List.set_cons_succ]
          refine wpAnyH_take (i := 5) (oi := { dst := some 31, op := Go.Op.load 3 (Go.Operand.tmp 30), type := 3, pos := "fix.go:160", after := #[{ on := 4, ground := Go.Ground.data }], guard := none }) (v := ?_) rfl (by kernel_rfl) (by kernel_rfl) (by kernel_rfl) (fun _ _ _ h => h) (Or.inl ⟨by rfl, ?hy⟩) (by assumption) ?_
          case hy => (intro w9 hSw; (try dsimp only at hSw); go_simp; try with_reducible rfl)
          try simp only [Act.put, List.setIfInBounds_toArray, List.set_cons_zero, List.set_cons_succ]
          refine wpAnyH_ready (rs := [6]) (by kernel_rfl) (by simp) ?_
          refine AllReadyH.cons (o := { dst := some 32, op := Go.Op.call { callee := Go.Callee.value (Go.Operand.func 6), args := #[Go.Operand.tmp 26, Go.Operand.tmp 27, Go.Operand.tmp 31], argTypes := #[24, 3, 3] }, type := 4, pos := "fix.go:160", after := #[{ on := 0, ground := Go.Ground.data }, { on := 1, ground := Go.Ground.data }, { on := 5, ground := Go.Ground.data }], guard := none }) rfl (fun K hK => ?_) AllReadyH.nil
          go_simp
          refine (HUP.out _ hHeld).mono ?_
          rintro e w4 ⟨rfl, hb4⟩
          refine hK.out _ _ ?_ (fun hHeld => ?_)
          · first | assumption | exact Below.then (by assumption) (by assumption)
          clear hK K
          try simp only [Act.put, List.setIfInBounds_toArray, List.set_cons_zero, List.set_cons_succ]
          refine wpAnyH_take (i := 7) (oi := { dst := some 33, op := Go.Op.unOp Go.UnOp.not 4 (Go.Operand.tmp 32), type := 4, pos := "fix.go:160", after := #[{ on := 6, ground := Go.Ground.data }], guard := none }) (v := ?_) rfl (by kernel_rfl) (by kernel_rfl) (by kernel_rfl) (fun _ _ _ h => h) (Or.inl ⟨by rfl, ?hy⟩) (by assumption) ?_
          case hy => (intro w9 hSw; (try dsimp only at hSw); go_simp; try with_reducible rfl)
          try simp only [Act.put, List.setIfInBounds_toArray, List.set_cons_zero, List.set_cons_succ]
          refine wpAnyH_done (by kernel_rfl) ?_ _
          try simp only [Act.put, List.setIfInBounds_toArray, List.set_cons_zero, List.set_cons_succ]
          have HB4 : Hid (Below w2.heap.size w2 w4) := Below.then HBx.out (by assumption)
          clear HUP m0 m1 m2 l0 l1 cf' hHeld hb4 HBx
          go_wp2_with fail
          go_loopw [8, 9] (fun v j wx => ∃ k : Nat, k ≤ b2 ∧ j = .int .i64 k ∧ v = .bool (anyB (abP g F i) k) ∧ Hid (Below w2.heap.size w2 wx)) (fun _ j _ => b2 - (intOf j).toNat)
          case atStart => exact ⟨0, Nat.zero_le _, rfl, rfl, HB4⟩
          case round =>
            obtain ⟨k, hk, rfl, rfl, HBy⟩ := hrel
            obtain ⟨l0, l1⟩ := HOX.out _ HBy.out
            by_cases hlt2 : k < b2
            · have hlt2' : (k : Int) < (b2 : Int) := by omega
              have HST : Hid (anyB (abP g F i) (k + 1) = (anyB (abP g F i) k || (decide (F k = k) && upB g i k))) := rfl
              obtain ⟨bk, ok, ek, ck⟩ := HRF.out _ HBy.out k hlt2
              obtain ⟨rfl, rfl⟩ : bf = bk ∧ off = ok := by simp at ek; exact ek
              rcases (Bool.eq_false_or_eq_true (anyB (abP g F i) k)).symm with ha | ha
              · rw [ha] at HST ⊢
                by_cases hf : F k = k
                · have hsb : s.testBit k = true := by rw [HSB.out k hlt2]; simp [hf]
                  have ck' : wr.cell? ⟨bf, off + k, none⟩ = some (.int .i64 (k : Nat)) := by rw [ck]; exact congrArg (fun z : Nat => some (Value.int .i64 (z : Int))) hf
                  rw [show decide (F k = k) = true by simp [hf], Bool.true_and, Bool.false_or] at HST
                  obtain ⟨u, HUU⟩ : ∃ u, Hid (upB g i k = u) := ⟨_, rfl⟩
                  rw [HUU.out] at HST
                  have HUK := (show Hid (Calls Tryd.prog 6 #[.agg #[.int .i64 (b2 : Nat), .slice a0 b2 ca0], .int .i64 (i : Nat), .int .i64 (k : Nat)] wr fun e w' => e = .returned (.bool u) ∧ Below wr.heap.size wr w') from HU.out i k u hlt hlt2 HUU.out wr HBy.out)
                  clear ck hf
                  go_wp2_with fail
                  refine (in_any s k _ (by omega) (by omega)).mono ?_
                  rintro e w' ⟨rfl, rfl⟩
                  rw [hsb]
                  go_wp2_with fail
                  refine HUK.out.mono ?_
                  rintro e w5 ⟨rfl, hb5⟩
                  have HB5 : Hid (Below w2.heap.size w2 w5) := Below.then HBy.out hb5
                  clear hb5 HUK l0 l1 ck'
                  go_wp2_with fail
                  go_roundw
                  case rel => exact ⟨k + 1, by omega, by go_num, by rw [HST.out], HB5⟩
                  case measure => simp [intOf]; omega
                · have hsb : s.testBit k = false := by rw [HSB.out k hlt2]; simp [hf]
                  rw [show decide (F k = k) = false by simp [hf], Bool.false_and, Bool.false_or] at HST
                  clear ck hf
                  go_wp2_with fail
                  refine (in_any s k _ (by omega) (by omega)).mono ?_
                  rintro e w' ⟨rfl, rfl⟩
                  rw [hsb]
                  go_wp2_with fail
                  go_roundw
                  case rel => exact ⟨k + 1, by omega, by go_num, by rw [HST.out], HBy⟩
                  case measure => simp [intOf]; omega
              · rw [ha] at HST ⊢
                clear ck
                go_wp2_with fail
                go_roundw
                case rel => exact ⟨k + 1, by omega, by go_num, by rw [HST.out]; rfl, HBy⟩
                case measure => simp [intOf]; omega
            · have hkq : k = b2 := by omega
              have hle : (b2 : Int) ≤ (k : Int) := by omega
              have HE : Hid (anyB (abP g F i) k = true) := by rw [hkq]; exact HAI.out
              rw [HE.out]
              go_wp2_with fail
              go_roundw
              case rel => exact ⟨i + 1, by omega, by go_num, HBy⟩
              case measure => simp [intOf]; omega
      · have hle : (b2 : Int) ≤ (i : Int) := by omega
        go_wp2_with fail
        go_ret
        exact ⟨rfl, Below.then HB1.out (Below.then HB3.out HBx.out)⟩
  · have hne : (c != 0) = true := by simpa using h0
    clear hc hv
    go_wp2_with fail
    go_ret
    exact ⟨rfl, Below.then HB1.out HB3.out⟩
end Go.Proofs.YtcfpnljkcaophaaDoor
