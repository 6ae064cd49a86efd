/-
  What the reference's Canonical answers of right terms whose kids are of other kinds and rise. Conditions: as each theorem says.
-/
import Derived.Deep.RegionHeld3
import Derived.Test.YtjhpegjcknaioaaDoorRfV
namespace Go.Proofs.YtjhpegjcknaioaaDoor
set_option maxRecDepth 100000
open Go.RowKit

def mnF (f : Nat → Int) : Nat → Int
  | 0 => f 0
  | j + 1 => if f j < mnF f j then f j else mnF f j
theorem mnF_succ (f : Nat → Int) (j : Nat) : mnF f (j + 1) = if f j < mnF f j then f j else mnF f j := rfl
theorem mnF_le (f : Nat → Int) : ∀ m i, i < m → mnF f m ≤ f i
  | 0, i, h => absurd h (Nat.not_lt_zero _)
  | m + 1, i, h => by
    rw [mnF_succ]
    by_cases e : i = m
    · subst e; split <;> omega
    · have := mnF_le f m i (by omega); split <;> omega
theorem mnF_is (f : Nat → Int) {n : Nat} (hn : 0 < n) : ∀ m, m ≤ n → ∃ i, i < n ∧ mnF f m = f i
  | 0, _ => ⟨0, hn, rfl⟩
  | m + 1, h => by
    rw [mnF_succ]
    split
    · exact ⟨m, by omega, rfl⟩
    · exact mnF_is f hn m (by omega)
/-- The least of a right term's points. -/
theorem mn_lo {L : Nat → Nat → Bool} {T : TT} (h : Ok L T) : mnF (nthI (pl T)) (pl T).length = ((lo (st T) : Nat) : Int) := by
  have hp := h.gd.pos
  have h0 : st T ≠ 0 := fun e => by
    obtain ⟨a, ha⟩ := h.has
    rw [e] at ha; simp at ha
  have hlo := lo_bit h.lt h0
  obtain ⟨i, hi, e⟩ := nthI_iff.2 ((h.mem ((lo (st T) : Nat) : Int)).2 ⟨by omega, by simpa using hlo⟩)
  have h1 := mnF_le (nthI (pl T)) _ i hi
  obtain ⟨j, hj, e2⟩ := mnF_is (nthI (pl T)) hp _ (Nat.le_refl _)
  have h3 := (h.mem _).1 (nthI_iff.1 ⟨j, hj, rfl⟩)
  have h4 := lo_min h.lt h3.2
  omega
theorem TRep.kind {K : Nat} {w : World} {T : TT} {k x : Int} {s : Value} (h : TRep K w T (.agg #[.int .i64 k, .int .i64 x, s])) : kd T = k := by
  induction T using TT.ind with
  | leaf => exact h.elim
  | mk k' x' n kid _ =>
    obtain ⟨a, cap, e, _⟩ := h
    injection e with e
    injection e with e
    injection e with e1 e2
    injection e1 with _ e1
    exact e1.symm
def lstI (kid : Nat → TT) : Nat → Int
  | 0 => -1
  | t + 1 => ((lo (st (kid t)) : Nat) : Int)
set_option maxHeartbeats 4000000 in
theorem canonical_any (L : Nat → Nat → Bool) (T : TT) : ∀ (v : Value) (w : World), (Can T ∧ Ok L T ∧ sz T ≤ 40) → TRep 0 w T v → Calls Tryd.prog 14 #[v] w fun e w' => e = .returned (.bool true) ∧ Below w.heap.size w w' := by
  induction T using TT.ind with
  | leaf => exact fun _ _ _ h => h.elim
  | mk k x n kid ih =>
    intro v w hG hf
    obtain ⟨a, cap, rfl, hn, hk⟩ := hf
    have hn' : n ≤ 9223372036854775807 := by unfold maxLen at hn; omega
    have HIH : Hid (∀ i (v : Value) (w : World), (Can (kid i) ∧ Ok L (kid i) ∧ sz (kid i) ≤ 40) → TRep 0 w (kid i) v → Calls Tryd.prog 14 #[v] w fun e w' => e = .returned (.bool true) ∧ Below w.heap.size w w') := ih
    obtain ⟨W, hW⟩ : ∃ W, W = w.alloc (.cells #[.int .i64 k, .int .i64 x, .slice a n cap] 27) := ⟨_, rfl⟩
    have HB1 : Hid (Below w.heap.size w W) := by rw [hW]; exact (Below.refl _ _).alloc (Nat.le_refl _) _
    have HX : Hid (∀ w', Below W.heap.size W w' → (w'.cell? ⟨w.heap.size, 0, none⟩ = some (.int .i64 k) ∧ w'.cell? ⟨w.heap.size, 1, none⟩ = some (.int .i64 x)) ∧ w'.cell? ⟨w.heap.size, 2, none⟩ = some (.slice a n cap)) := fun w' h =>
      ⟨⟨cell_stp h (by rw [hW]; simp), cell_stp h (by rw [hW]; simp)⟩, cell_stp h (by rw [hW]; simp)⟩
    have HWE : Hid (W = w.alloc (.cells #[.int .i64 k, .int .i64 x, .slice a n cap] 27)) := hW
    have HK : Hid (∀ i, i < n → ∃ b off, a = some ⟨b, off, none⟩ ∧ ∃ (k' x' : Int) (a' : Option Addr) (n' c' : Nat), ∀ w', Below W.heap.size W w' →
        (w'.cell? ⟨b, off + i * 3, none⟩ = some (.int .i64 k') ∧ w'.cell? ⟨b, off + i * 3 + 1, none⟩ = some (.int .i64 x') ∧ w'.cell? ⟨b, off + i * 3 + 2, none⟩ = some (.slice a' n' c')) ∧ TRep 0 w' (kid i) (.agg #[.int .i64 k', .int .i64 x', .slice a' n' c'])) := fun i hi => by
      obtain ⟨b, off, e, _, k', x', a', n', c', ⟨h1, h2, h3⟩, h4⟩ := hk i hi
      exact ⟨b, off, e, k', x', a', n', c', fun w' hb0 => by
        have hb := Below.then HB1.out hb0
        exact ⟨⟨cell_stp hb h1, cell_stp hb h2, cell_stp hb h3⟩, TRep.step hb _ _ h4⟩⟩
    have x0 : W.cell? ⟨w.heap.size, 0, none⟩ = some (.int .i64 k) := (HX.out W (Below.refl _ _)).1.1
    have x1 : W.cell? ⟨w.heap.size, 1, none⟩ = some (.int .i64 x) := (HX.out W (Below.refl _ _)).1.2
    have x2 : W.cell? ⟨w.heap.size, 2, none⟩ = some (.slice a n cap) := (HX.out W (Below.refl _ _)).2
    clear hk ih hn hW
    obtain ⟨hcan, hok, h40⟩ := hG
    have HKP : Hid (∀ i, i < n → (Can (kid i) ∧ Ok L (kid i) ∧ sz (kid i) ≤ 40) ∧ kd (kid i) ≠ k ∧ (k = 2 → lstI kid i < ((lo (st (kid i)) : Nat) : Int))) := fun i hi => by
      have hk1 : k ≠ 1 := fun e => by
        rcases hok with ⟨_, h2, _⟩ | ⟨h1, _⟩
        · omega
        · omega
      obtain ⟨_, _, _, h4⟩ := hok.kids hk1
      obtain ⟨c1, c2, c3⟩ := hcan i hi
      refine ⟨⟨c1, h4 i hi, ?_⟩, c2, fun e => ?_⟩
      · have h1 := szK_mono kid (i + 1) (n - (i + 1))
        rw [show i + 1 + (n - (i + 1)) = n by omega] at h1
        have h2 := szK_succ kid i
        have h5 : szK kid n ≤ 40 := h40
        omega
      · cases i with
        | zero => show (-1 : Int) < _; omega
        | succ i => have h7 : lo (st (kid i)) < lo (st (kid (i + 1))) := c3 e i (by omega); show ((lo (st (kid i)) : Nat) : Int) < ((lo (st (kid (i + 1))) : Nat) : Int); omega
    clear hcan hok h40
    go_enter Tryd.func14, Tryd.ntmps14
    go_wp2_with fail
    rw [← HWE.out]
    clear HWE x0 x1 x2
    go_loopw [3, 4] (fun l i wx => ∃ t : Nat, t ≤ n ∧ i = .int .i64 (t : Nat) ∧ l = .int .i64 (lstI kid t) ∧ Hid (Below W.heap.size W wx)) (fun _ i _ => n - (intOf i).toNat)
    case atStart => exact ⟨0, Nat.zero_le _, rfl, rfl, Below.refl _ _⟩
    case round =>
      obtain ⟨t, ht, rfl, rfl, HW⟩ := hrel
      have y2 := (HX.out _ HW.out).2
      by_cases htn : t < n
      · have htI : (t : Int) < (n : Int) := by omega
        obtain ⟨b, off, HA, k', x', a', n', c', HC⟩ := HK.out t htn
        subst HA
        have HR : Hid (∀ w', Below W.heap.size W w' → TRep 0 w' (kid t) (.agg #[.int .i64 k', .int .i64 x', .slice a' n' c'])) := fun w' h => (HC w' h).2
        obtain ⟨hP, hkd, hls⟩ := HKP.out t htn
        have HP : Hid (Can (kid t) ∧ Ok L (kid t) ∧ sz (kid t) ≤ 40) := hP
        have HLS : Hid (k = 2 → lstI kid t < ((lo (st (kid t)) : Nat) : Int)) := hls
        have hkk : (k' == k) = false := by
          have e := (HR.out _ HW.out).kind
          rw [e] at hkd
          simpa using hkd
        have m0 : ∀ w', Below W.heap.size W w' → w'.cell? ⟨b, off + t * 3, none⟩ = some (.int .i64 k') := fun w' h => (HC w' h).1.1
        have m1 : ∀ w', Below W.heap.size W w' → w'.cell? ⟨b, off + t * 3 + 1, none⟩ = some (.int .i64 x') := fun w' h => (HC w' h).1.2.1
        have m2 : ∀ w', Below W.heap.size W w' → w'.cell? ⟨b, off + t * 3 + 2, none⟩ = some (.slice a' n' c') := fun w' h => (HC w' h).1.2.2
        have l0 : ∀ w', Below W.heap.size W w' → w'.cell? ⟨w.heap.size, 0, none⟩ = some (.int .i64 k) := fun w' h => (HX.out w' h).1.1
        have l2 : ∀ w', Below W.heap.size W w' → w'.cell? ⟨w.heap.size, 2, none⟩ = some (.slice (some ⟨b, off, none⟩) n cap) := fun w' h => (HX.out w' h).2
        have HBd : Hid (Below W.heap.size W wr.drew) := HW.out.drew
        have HML : Hid (mnF (nthI (pl (kid t))) (pl (kid t)).length = ((lo (st (kid t)) : Nat) : Int)) := mn_lo hP.2.1
        have HPO : Hid (0 < (pl (kid t)).length) := hP.2.1.gd.pos
        have HL40 : Hid ((pl (kid t)).length ≤ 40) := by have := pl_len (kid t); have := hP.2.2; show _ ≤ _; omega
        have HLT : Hid (lstI kid (t + 1) = ((lo (st (kid t)) : Nat) : Int)) := rfl
        clear HC hP hkd hls HW
        go_wp2_with fail
        refine wp_region_held_drew (S := (fun w' => Below W.heap.size W w')) (by kernel_rfl) (HBd.out) (fun hHeld => ?_)
        refine wpAnyH_take (i := 0) (oi := { dst := some 15, op := Go.Op.fieldAddr 27 (Go.Operand.tmp 1) 2, type := 0, pos := "lattice.go:289", after := #[], guard := none }) (v := ?_) rfl (by kernel_rfl) (by kernel_rfl) (by kernel_rfl) (fun _ _ _ h => h) (Or.inl ⟨by rfl, ?hy⟩) (by assumption) ?_
        case hy => (intro w9 hSw; (try dsimp only at hSw); go_simp; try with_reducible rfl)
        try simp only [Act.put, List.setIfInBounds_toArray, List.set_cons_zero, List.set_cons_succ]
        refine wpAnyH_take (i := 1) (oi := { dst := some 16, op := Go.Op.load 25 (Go.Operand.tmp 15), type := 25, pos := "lattice.go:289", after := #[{ on := 0, ground := Go.Ground.data }], guard := none }) (v := ?_) rfl (by kernel_rfl) (by kernel_rfl) (by kernel_rfl) (fun _ _ _ h => h) (Or.inl ⟨by rfl, ?hy⟩) (by assumption) ?_
        case hy => (intro w9 hSw; (try dsimp only at hSw); go_simp; try with_reducible rfl)
        try simp only [Act.put, List.setIfInBounds_toArray, List.set_cons_zero, List.set_cons_succ]
        refine wpAnyH_take (i := 2) (oi := { dst := some 17, op := Go.Op.move (Go.Operand.tmp 4), type := 3, pos := "lattice.go:289", after := #[], guard := none }) (v := ?_) rfl (by kernel_rfl) (by kernel_rfl) (by kernel_rfl) (fun _ _ _ h => h) (Or.inl ⟨by rfl, ?hy⟩) (by assumption) ?_
        case hy => (intro w9 hSw; (try dsimp only at hSw); go_simp; try with_reducible rfl)
        try simp only [Act.put, List.setIfInBounds_toArray, List.set_cons_zero, List.set_cons_succ]
        refine wpAnyH_take (i := 3) (oi := { dst := some 18, op := Go.Op.indexAddr 25 (Go.Operand.tmp 16) (Go.Operand.tmp 17), type := 0, pos := "lattice.go:289", after := #[{ on := 1, ground := Go.Ground.data }, { on := 2, ground := Go.Ground.data }], guard := none }) (v := ?_) rfl (by kernel_rfl) (by kernel_rfl) (by kernel_rfl) (fun _ _ _ h => h) (Or.inl ⟨by rfl, ?hy⟩) (by assumption) ?_
        case hy => (intro w9 hSw; (try dsimp only at hSw); go_simp; try with_reducible rfl)
        try simp only [Act.put, List.setIfInBounds_toArray, List.set_cons_zero, List.set_cons_succ]
        refine wpAnyH_take (i := 4) (oi := { dst := some 19, op := Go.Op.fieldAddr 27 (Go.Operand.tmp 18) 0, type := 0, pos := "lattice.go:289", after := #[{ on := 3, ground := Go.Ground.data }], guard := none }) (v := ?_) rfl (by kernel_rfl) (by kernel_rfl) (by kernel_rfl) (fun _ _ _ h => h) (Or.inl ⟨by rfl, ?hy⟩) (by assumption) ?_
        case hy => (intro w9 hSw; (try dsimp only at hSw); go_simp; try with_reducible rfl)
        try simp only [Act.put, List.setIfInBounds_toArray, List.set_cons_zero, List.set_cons_succ]
        refine wpAnyH_take (i := 5) (oi := { dst := some 20, op := Go.Op.load 3 (Go.Operand.tmp 19), type := 3, pos := "lattice.go:289", after := #[{ on := 4, ground := Go.Ground.data }], guard := none }) (v := ?_) rfl (by kernel_rfl) (by kernel_rfl) (by kernel_rfl) (fun _ _ _ h => h) (Or.inl ⟨by rfl, ?hy⟩) (by assumption) ?_
        case hy => (intro w9 hSw; (try dsimp only at hSw); go_simp; try with_reducible rfl)
        try simp only [Act.put, List.setIfInBounds_toArray, List.set_cons_zero, List.set_cons_succ]
        refine wpAnyH_take (i := 6) (oi := { dst := some 21, op := Go.Op.fieldAddr 27 (Go.Operand.tmp 1) 0, type := 0, pos := "lattice.go:289", after := #[], guard := none }) (v := ?_) rfl (by kernel_rfl) (by kernel_rfl) (by kernel_rfl) (fun _ _ _ h => h) (Or.inl ⟨by rfl, ?hy⟩) (by assumption) ?_
        case hy => (intro w9 hSw; (try dsimp only at hSw); go_simp; try with_reducible rfl)
        try simp only [Act.put, List.setIfInBounds_toArray, List.set_cons_zero, List.set_cons_succ]
        refine wpAnyH_take (i := 7) (oi := { dst := some 22, op := Go.Op.load 3 (Go.Operand.tmp 21), type := 3, pos := "lattice.go:289", after := #[{ on := 6, ground := Go.Ground.data }], guard := none }) (v := ?_) rfl (by kernel_rfl) (by kernel_rfl) (by kernel_rfl) (fun _ _ _ h => h) (Or.inl ⟨by rfl, ?hy⟩) (by assumption) ?_
        case hy => (intro w9 hSw; (try dsimp only at hSw); go_simp; try with_reducible rfl)
        try simp only [Act.put, List.setIfInBounds_toArray, List.set_cons_zero, List.set_cons_succ]
        refine wpAnyH_take (i := 8) (oi := { dst := some 23, op := Go.Op.binOp Go.BinOp.eql 3 (Go.Operand.tmp 20) (Go.Operand.tmp 22) 3, type := 4, pos := "lattice.go:289", after := #[{ on := 5, ground := Go.Ground.data }, { on := 7, ground := Go.Ground.data }], guard := none }) (v := ?_) rfl (by kernel_rfl) (by kernel_rfl) (by kernel_rfl) (fun _ _ _ h => h) (Or.inl ⟨by rfl, ?hy⟩) (by assumption) ?_
        case hy => (intro w9 hSw; (try dsimp only at hSw); go_simp; try with_reducible rfl)
        try simp only [Act.put, List.setIfInBounds_toArray, List.set_cons_zero, List.set_cons_succ]
        refine wpAnyH_take (i := 9) (oi := { dst := some 24, op := Go.Op.move (Go.Operand.tmp 23), type := 4, pos := "lattice.go:289", after := #[{ on := 8, ground := Go.Ground.data }], guard := none }) (v := ?_) rfl (by kernel_rfl) (by kernel_rfl) (by kernel_rfl) (fun _ _ _ h => h) (Or.inl ⟨by rfl, ?hy⟩) (by assumption) ?_
        case hy => (intro w9 hSw; (try dsimp only at hSw); go_simp; try with_reducible rfl)
        try simp only [Act.put, List.setIfInBounds_toArray, List.set_cons_zero, List.set_cons_succ]
        refine wpAnyH_take (i := 10) (oi := { dst := some 25, op := Go.Op.fieldAddr 27 (Go.Operand.tmp 1) 2, type := 0, pos := "lattice.go:289", after := #[{ on := 9, ground := Go.Ground.guard }], guard := some (9, false) }) (v := ?_) rfl (by kernel_rfl) (by kernel_rfl) (by kernel_rfl) (fun _ _ _ h => h) (Or.inl ⟨by rfl, ?hy⟩) (by assumption) ?_
        case hy => (intro w9 hSw; (try dsimp only at hSw); go_simp; try with_reducible rfl)
        try simp only [Act.put, List.setIfInBounds_toArray, List.set_cons_zero, List.set_cons_succ]
        refine wpAnyH_take (i := 11) (oi := { dst := some 26, op := Go.Op.load 25 (Go.Operand.tmp 25), type := 25, pos := "lattice.go:289", after := #[{ on := 10, ground := Go.Ground.data }, { on := 9, ground := Go.Ground.guard }], guard := some (9, false) }) (v := ?_) rfl (by kernel_rfl) (by kernel_rfl) (by kernel_rfl) (fun _ _ _ h => h) (Or.inl ⟨by rfl, ?hy⟩) (by assumption) ?_
        case hy => (intro w9 hSw; (try dsimp only at hSw); go_simp; try with_reducible rfl)
        try simp only [Act.put, List.setIfInBounds_toArray, List.set_cons_zero, List.set_cons_succ]
        refine wpAnyH_take (i := 12) (oi := { dst := some 27, op := Go.Op.move (Go.Operand.tmp 4), type := 3, pos := "lattice.go:289", after := #[{ on := 9, ground := Go.Ground.guard }], guard := some (9, false) }) (v := ?_) rfl (by kernel_rfl) (by kernel_rfl) (by kernel_rfl) (fun _ _ _ h => h) (Or.inl ⟨by rfl, ?hy⟩) (by assumption) ?_
        case hy => (intro w9 hSw; (try dsimp only at hSw); go_simp; try with_reducible rfl)
        try simp only [Act.put, List.setIfInBounds_toArray, List.set_cons_zero, List.set_cons_succ]
        refine wpAnyH_take (i := 13) (oi := { dst := some 28, op := Go.Op.indexAddr 25 (Go.Operand.tmp 26) (Go.Operand.tmp 27), type := 0, pos := "lattice.go:289", after := #[{ on := 11, ground := Go.Ground.data }, { on := 12, ground := Go.Ground.data }, { on := 9, ground := Go.Ground.guard }], guard := some (9, false) }) (v := ?_) rfl (by kernel_rfl) (by kernel_rfl) (by kernel_rfl) (fun _ _ _ h => h) (Or.inl ⟨by rfl, ?hy⟩) (by assumption) ?_
        case hy => (intro w9 hSw; (try dsimp only at hSw); go_simp; try with_reducible rfl)
        try simp only [Act.put, List.setIfInBounds_toArray, List.set_cons_zero, List.set_cons_succ]
        refine wpAnyH_take (i := 14) (oi := { dst := some 29, op := Go.Op.load 27 (Go.Operand.tmp 28), type := 27, pos := "lattice.go:289", after := #[{ on := 13, ground := Go.Ground.data }, { on := 9, ground := Go.Ground.guard }], guard := some (9, false) }) (v := ?_) rfl (by kernel_rfl) (by kernel_rfl) (by kernel_rfl) (fun _ _ _ h => h) (Or.inl ⟨by rfl, ?hy⟩) (by assumption) ?_
        case hy => (intro w9 hSw; (try dsimp only at hSw); go_simp; try with_reducible rfl)
        try simp only [Act.put, List.setIfInBounds_toArray, List.set_cons_zero, List.set_cons_succ]
        refine wpAnyH_ready (rs := [15]) (by kernel_rfl) (by simp) ?_
        refine AllReadyH.cons (o := { dst := some 30, op := Go.Op.call { callee := Go.Callee.value (Go.Operand.func 14), args := #[Go.Operand.tmp 29], argTypes := #[27] }, type := 4, pos := "lattice.go:289", after := #[{ on := 14, ground := Go.Ground.data }, { on := 9, ground := Go.Ground.chain }, { on := 9, ground := Go.Ground.guard }], guard := some (9, false) }) rfl (fun K hK => ?_) AllReadyH.nil
        go_simp
        refine (HIH.out t _ _ HP.out (HR.out _ (by assumption))).mono ?_
        rintro e w1 ⟨rfl, hb1⟩
        refine hK.out _ _ ?_ (fun hHeld => ?_)
        · first | assumption | exact Below.then (by assumption) (by assumption)
        clear hK K
        try simp only [Act.put, List.setIfInBounds_toArray, List.set_cons_zero, List.set_cons_succ]
        refine wpAnyH_take (i := 16) (oi := { dst := some 31, op := Go.Op.unOp Go.UnOp.not 4 (Go.Operand.tmp 30), type := 4, pos := "lattice.go:289", after := #[{ on := 15, ground := Go.Ground.data }, { on := 9, ground := Go.Ground.guard }], guard := some (9, false) }) (v := ?_) rfl (by kernel_rfl) (by kernel_rfl) (by kernel_rfl) (fun _ _ _ h => h) (Or.inl ⟨by rfl, ?hy⟩) (by assumption) ?_
        case hy => (intro w9 hSw; (try dsimp only at hSw); go_simp; try with_reducible rfl)
        try simp only [Act.put, List.setIfInBounds_toArray, List.set_cons_zero, List.set_cons_succ]
        refine wpAnyH_take (i := 17) (oi := { dst := some 32, op := Go.Op.pick (Go.Operand.tmp 24) (Go.Operand.const (Go.Value.bool true)) (Go.Operand.tmp 31), type := 4, pos := "lattice.go:289", after := #[{ on := 9, ground := Go.Ground.data }, { on := 16, ground := Go.Ground.data }], guard := none }) (v := ?_) rfl (by kernel_rfl) (by kernel_rfl) (by kernel_rfl) (fun _ _ _ h => h) (Or.inl ⟨by rfl, ?hy⟩) (by assumption) ?_
        case hy => (intro w9 hSw; (try dsimp only at hSw); go_simp; try with_reducible rfl)
        try simp only [Act.put, List.setIfInBounds_toArray, List.set_cons_zero, List.set_cons_succ]
        refine wpAnyH_done (by kernel_rfl) ?_ _
        try simp only [Act.put, List.setIfInBounds_toArray, List.set_cons_zero, List.set_cons_succ]
        have HW2 : Hid (Below W.heap.size W w1) := by first | exact hHeld | assumption
        have z0 := m0 _ HW2.out
        have z1 := m1 _ HW2.out
        have z2 := m2 _ HW2.out
        have z3 := l2 _ HW2.out
        clear hHeld hb1
        go_wp2_with fail
        refine (termPoints_any (kid t) _ _ ⟨HP.out.2.1.gd, HP.out.2.2⟩ (HR.out _ HW2.out)).mono ?_
        rintro e w3 ⟨⟨v3, rfl, hown3⟩, hb3⟩
        have HW3 : Hid (Below W.heap.size W w3) := Below.then HW2.out hb3
        obtain ⟨a3, c3, rfl, hr3, _⟩ := owns_ints hown3 HPO.out
        have HR3 : Hid (Row w3 a3 (pl (kid t)).length (nthI (pl (kid t)))) := hr3
        obtain ⟨b4, o4, rfl, q4'⟩ := hr3 0 HPO.out
        have q4 : w3.cell? ⟨b4, o4, none⟩ = some (.int .i64 (nthI (pl (kid t)) 0)) := q4'
        clear q4'
        have hl0 := HPO.out
        have h40 := HL40.out
        have u0 := l0 _ HW3.out
        clear hown3 hb3 hr3 z0 z1 z2 z3 m0 m1 m2 l0 l2 HW2 HPO HL40
        generalize hlm : (pl (kid t)).length = m at *
        generalize hfm : nthI (pl (kid t)) = f at *
        generalize lo (st (kid t)) = z at *
        clear hlm hfm
        have hmI : (0 : Int) < (m : Int) := by omega
        go_wp2_with fail
        go_loopw [6, 7] (fun s i wx => ∃ j : Nat, j ≤ m ∧ i = .int .i64 j ∧ s = .int .i64 (mnF f j) ∧ wx = w3) (fun _ i _ => m - (intOf i).toNat)
        case atStart => exact ⟨0, Nat.zero_le _, rfl, rfl, rfl⟩
        case round =>
          obtain ⟨j, hj, rfl, rfl, rfl⟩ := hrel
          by_cases hjm : j < m
          · have hjI : (j : Int) < (m : Int) := by omega
            obtain ⟨b5, o5, e5, q5⟩ := HR3.out j hjm
            injection e5 with e5
            injection e5 with e6 e7
            subst e6
            subst e7
            have HMS : Hid (mnF f (j + 1) = if f j < mnF f j then f j else mnF f j) := rfl
            by_cases hlt : f j < mnF f j
            · go_wp2_with fail
              go_roundw
              case rel => exact ⟨j + 1, by omega, by go_num, by rw [HMS.out, if_pos hlt], trivial⟩
              case measure => simp [intOf]; omega
            · go_wp2_with fail
              go_roundw
              case rel => exact ⟨j + 1, by omega, by go_num, by rw [HMS.out, if_neg hlt], trivial⟩
              case measure => simp [intOf]; omega
          · obtain rfl : j = m := by omega
            rw [HML.out]
            by_cases hk2 : k = 2
            · subst hk2
              have hls := HLS.out rfl
              have hls2 : ¬ ((z : Nat) : Int) ≤ lstI kid t := by omega
              go_wp2_with fail
              go_roundw
              case rel => exact ⟨t + 1, by omega, by go_num, by rw [HLT.out], HW3.out⟩
              case measure => simp [intOf]; omega
            · have hkB2 : (k == 2) = false := by simpa using hk2
              go_wp2_with fail
              go_roundw
              case rel => exact ⟨t + 1, by omega, by go_num, by rw [HLT.out], HW3.out⟩
              case measure => simp [intOf]; omega
      · obtain rfl : t = n := by omega
        go_wp2_with fail
        go_ret
        exact ⟨rfl, Below.then HB1.out HW.out⟩
end Go.Proofs.YtjhpegjcknaioaaDoor
