/-
  Plain facts on what formulas come to in a lattice. No condition.
  What heyting.value answers of an algebra. Conditions: as the theorem says.
-/
import Derived.Test.YtibnadbobijjpaaFmM
import Derived.Test.YtibnadbobijjpaaHeyM
import Derived.Test.YtibnadbobijjpaaAlgO
import Derived.Test.YtibnadbobijjpaaFmR
namespace Go.Proofs.Ytibnadbobijjpaa

/-- What a formula comes to. -/
def val (q : Nat) (m j : Nat → Nat → Nat) (f : Nat → Nat) : FT → Nat
  | .node none _ => 0
  | .node (some (k, x, _)) kid => if k = 1 then en m q else if k = 2 then f x.toNat else if k = 3 then m (val q m j f (kid 0 rfl)) (val q m j f (kid 1 rfl)) else if k = 4 then j (val q m j f (kid 0 rfl)) (val q m j f (kid 1 rfl)) else imp q m j (val q m j f (kid 0 rfl)) (val q m j f (kid 1 rfl))
/-- A formula that is well made. -/
theorem cf_zero {k x : Int} {n : Nat} {kid : Nat → FT} (h : cf (.mk k x n kid) = 0) :
    (k = 1 ∧ n = 0) ∨ (k = 2 ∧ n = 0 ∧ 0 ≤ x ∧ x ≤ 2) ∨ ((k = 3 ∨ k = 4 ∨ k = 5) ∧ n = 2 ∧ cf (kid 0) = 0 ∧ cf (kid 1) = 0) := by
  rw [cf_eq] at h
  by_cases h1 : k < 1 ∨ 5 < k
  · rw [if_pos h1] at h; omega
  rw [if_neg h1] at h
  by_cases h2 : (k < 3 ∧ n ≠ 0) ∨ (3 ≤ k ∧ n ≠ 2)
  · rw [if_pos h2] at h; omega
  rw [if_neg h2] at h
  by_cases h3 : x < 0 ∨ 2 < x ∨ (k ≠ 2 ∧ x ≠ 0)
  · rw [if_pos h3] at h; omega
  rw [if_neg h3] at h
  by_cases hk : k < 3
  · rcases (by omega : k = 1 ∨ k = 2) with e | e
    · exact .inl ⟨e, by omega⟩
    · exact .inr (.inl ⟨e, by omega, by omega, by omega⟩)
  · have hn : n = 2 := by omega
    subst hn
    rw [show (2 : Nat) = 1 + 1 from rfl, cfK_succ] at h
    have h0 : cfK kid 1 = 0 := by
      by_cases q : cfK kid 1 = 0
      · exact q
      · rw [if_pos q] at h; exact h
    rw [if_neg (by simp [h0])] at h
    have h00 : cfK kid 0 = 0 := rfl
    rw [show (1 : Nat) = 0 + 1 from rfl, cfK_succ, if_neg (by simp [h00])] at h0
    exact .inr (.inr ⟨by omega, rfl, h0, h⟩)
theorem val_lt {q : Nat} {m j : Nat → Nat → Nat} {f : Nat → Nat} (hl : Lat q m j) (h1 : 1 ≤ q) (hf : ∀ i, i < 3 → f i < q) (T : FT) : cf T = 0 → val q m j f T < q := by
  induction T using FT.ind with
  | leaf => exact fun _ => h1
  | mk k x n kid ih =>
    intro h
    rcases cf_zero h with ⟨rfl, _⟩ | ⟨rfl, _, hx1, hx2⟩ | ⟨hk, _, a0, a1⟩
    · exact en_lt h1 hl.im q (Nat.le_refl _)
    · exact hf _ (by omega)
    · have v0 := ih 0 a0
      have v1 := ih 1 a1
      rcases hk with rfl | rfl | rfl
      · exact hl.im _ _ v0 v1
      · exact hl.ij _ _ v0 v1
      · exact imp_lt hl h1 _ _
end Go.Proofs.Ytibnadbobijjpaa
namespace Go.Proofs.Ytibnadbobijjpaa
set_option maxRecDepth 100000
open Go.RowKit

section
variable {w0 w w' : World} {A n b off ca b' off' cb : Nat} {R R' : Nat → Nat × Nat × Nat} {m j : Nat → Nat → Nat}
/-- The algebra, new or laid out. -/
def St (w0 : World) (A n b off ca b' off' cb : Nat) (f : Nat → Nat → Nat) (w : World) : Prop := AlgN w0 A n b off ca b' off' cb w ∨ AlgL w0 A n b off ca b' off' cb f w
theorem AlgN.step (h : AlgN w0 A n b off ca b' off' cb w) (hb : Below w.heap.size w w') : AlgN w0 A n b off ca b' off' cb w' := by
  have hlt : A < w.heap.size := World.block_lt_of_cell? _ _ h.c6
  exact ⟨h.bel.trans (hb.mono (Nat.le_of_lt hlt)), h.lb.step hb, cell_step hb h.c3, cell_step hb h.c4, cell_step hb h.c6, fun k => (hb.frozen (p := ⟨A, k, none⟩) hlt).trans (h.fz k)⟩
theorem St.step {f : Nat → Nat → Nat} (h : St w0 A n b off ca b' off' cb f w) (hb : Below w.heap.size w w') : St w0 A n b off ca b' off' cb f w' := h.imp (fun h => h.step hb) (fun h => h.step hb)
theorem St.bel {f : Nat → Nat → Nat} (h : St w0 A n b off ca b' off' cb f w) : Below A w0 w := h.elim (fun h => h.bel) (fun h => h.bel)
theorem St.lb {f : Nat → Nat → Nat} (h : St w0 A n b off ca b' off' cb f w) : LB w A (n : Nat) (some ⟨b, off, none⟩) n ca (some ⟨b', off', none⟩) n cb := h.elim (fun h => h.lb) (fun h => h.lb)
theorem implies_st {x y : Nat} (B : Base w0 n b off b' off' R R' m j) (hA : A = w0.heap.size) (h : St w0 A n b off ca b' off' cb (imp n m j) w) (hx : x < n) (hy : y < n) :
    Calls Try.prog 32 #[.pointer (some ⟨A, 0, none⟩), .int .i64 (x : Nat), .int .i64 (y : Nat)] w fun e w' => e = .returned (.int .i64 (imp n m j x y : Nat)) ∧ St w0 A n b off ca b' off' cb (imp n m j) w' ∧ But A w w' := by
  rcases h with h | h
  · exact (implies_new B hA h hx hy).mono fun e w' ⟨h1, h2, h3⟩ => ⟨h1, .inr h2, h3⟩
  · exact (implies_laid h hx hy).mono fun e w' ⟨h1, h2⟩ => ⟨h1, by rw [h2]; exact .inr h, by rw [h2]; exact But.refl _ _⟩
set_option maxHeartbeats 2000000 in
theorem value_false (B : Base w0 n b off b' off' R R' m j) (hA : A = w0.heap.size) (h : St w0 A n b off ca b' off' cb (imp n m j) w) (x : Int) (a : Option Addr) (l cap : Nat) (vs : Value) :
    Calls Try.prog 14 #[.iface 39 (.pointer (some ⟨A, 0, none⟩)), .agg #[.int .i64 1, .int .i64 x, .slice a l cap], vs] w fun e w' => e = .returned (.int .i64 (en m n : Nat)) ∧ St w0 A n b off ca b' off' cb (imp n m j) w' ∧ But A w w' := by
  have B1 : Below w.heap.size w (w.alloc (.cells #[.int .i64 1, .int .i64 x, .slice a l cap] 27)) := (Below.refl _ _).alloc (Nat.le_refl _) _
  have HS : Hid (St w0 A n b off ca b' off' cb (imp n m j) (w.alloc (.cells #[.int .i64 1, .int .i64 x, .slice a l cap] 27)) ∧ But A w (w.alloc (.cells #[.int .i64 1, .int .i64 x, .slice a l cap] 27))) := ⟨h.step B1, But.of B1⟩
  have HE : Hid _ := aleast_any B.h1 B.h40 B.lat.im HS.out.1.lb (B.tm _ (by rw [← hA]; exact HS.out.1.bel))
  have HA : Hid (A = w0.heap.size) := hA
  clear h B1 B hA
  go_enter Try.func14, Try.ntmps14
  go_wp2_with fail
  refine (Calls.mono HE.out) ?_
  rintro e w1 ⟨rfl, hw1⟩
  subst w1
  go_wp2_with fail
  go_ret
  exact ⟨rfl, HS.out⟩
set_option maxHeartbeats 1000000 in
theorem aand_any {x y : Nat} (hL : LB w A (n : Nat) (some ⟨b, off, none⟩) n ca (some ⟨b', off', none⟩) n cb) (ht : Tb w b off n R m) (hx : x < n) (hy : y < n) :
    Calls Try.prog 98 #[.pointer (some ⟨A, 0, none⟩), .int .i64 (x : Nat), .int .i64 (y : Nat)] w fun e w' => e = .returned (.int .i64 (m x y : Nat)) ∧ w' = w := by
  have c1 := hL.2.1
  have r1 := (ht x hx).1
  have r2 := (ht x hx).2 y hy
  have hxI : (x : Int) < (n : Int) := by omega
  have hyI : (y : Int) < (n : Int) := by omega
  clear hL ht
  go_enter Try.func98, Try.ntmps98
  go_wp2_with fail
  go_ret
  exact ⟨rfl, rfl⟩
set_option maxHeartbeats 1000000 in
theorem aor_any {x y : Nat} (hL : LB w A (n : Nat) (some ⟨b, off, none⟩) n ca (some ⟨b', off', none⟩) n cb) (ht : Tb w b' off' n R' j) (hx : x < n) (hy : y < n) :
    Calls Try.prog 99 #[.pointer (some ⟨A, 0, none⟩), .int .i64 (x : Nat), .int .i64 (y : Nat)] w fun e w' => e = .returned (.int .i64 (j x y : Nat)) ∧ w' = w := by
  have c1 := hL.2.2
  have r1 := (ht x hx).1
  have r2 := (ht x hx).2 y hy
  have hxI : (x : Int) < (n : Int) := by omega
  have hyI : (y : Int) < (n : Int) := by omega
  clear hL ht
  go_enter Try.func99, Try.ntmps99
  go_wp2_with fail
  go_ret
  exact ⟨rfl, rfl⟩
set_option maxHeartbeats 1000000 in
theorem value_variable (h : St w0 A n b off ca b' off' cb (imp n m j) w) (x : Nat) (hx : x < 3) (a : Option Addr) (l cap c co cc y : Nat) (hc : w.cell? ⟨c, co + x, none⟩ = some (.int .i64 (y : Nat))) :
    Calls Try.prog 14 #[.iface 39 (.pointer (some ⟨A, 0, none⟩)), .agg #[.int .i64 2, .int .i64 (x : Nat), .slice a l cap], .slice (some ⟨c, co, none⟩) 3 cc] w fun e w' => e = .returned (.int .i64 (y : Nat)) ∧ St w0 A n b off ca b' off' cb (imp n m j) w' ∧ But A w w' := by
  have B1 : Below w.heap.size w (w.alloc (.cells #[.int .i64 2, .int .i64 (x : Nat), .slice a l cap] 27)) := (Below.refl _ _).alloc (Nat.le_refl _) _
  have HS : Hid (St w0 A n b off ca b' off' cb (imp n m j) (w.alloc (.cells #[.int .i64 2, .int .i64 (x : Nat), .slice a l cap] 27)) ∧ But A w (w.alloc (.cells #[.int .i64 2, .int .i64 (x : Nat), .slice a l cap] 27))) := ⟨h.step B1, But.of B1⟩
  have d0 := cell_step B1 hc
  have hxI : (x : Int) < 3 := by omega
  clear h B1 hc
  go_enter Try.func14, Try.ntmps14
  go_wp2_with fail
  go_ret
  exact ⟨rfl, HS.out⟩
set_option maxHeartbeats 4000000 in
theorem value_two (B : Base w0 n b off b' off' R R' m j) (hA : A = w0.heap.size) (h : St w0 A n b off ca b' off' cb (imp n m j) w) (k x : Int) (hk : k = 3 ∨ k = 4 ∨ k = 5) {kb ko cap X Y : Nat} {k0 x0 k1 x1 : Int} {s0 s1 vs : Value} (hX : X < n) (hY : Y < n) (hkb : kb < A)
    (hq0 : (w0.cell? ⟨kb, ko, none⟩ = some (.int .i64 k0) ∧ w0.cell? ⟨kb, ko + 1, none⟩ = some (.int .i64 x0)) ∧ w0.cell? ⟨kb, ko + 2, none⟩ = some s0)
    (hq1 : (w0.cell? ⟨kb, ko + 3, none⟩ = some (.int .i64 k1) ∧ w0.cell? ⟨kb, ko + 4, none⟩ = some (.int .i64 x1)) ∧ w0.cell? ⟨kb, ko + 5, none⟩ = some s1)
    (h0 : ∀ w, St w0 A n b off ca b' off' cb (imp n m j) w → Calls Try.prog 14 #[.iface 39 (.pointer (some ⟨A, 0, none⟩)), .agg #[.int .i64 k0, .int .i64 x0, s0], vs] w fun e w' => e = .returned (.int .i64 (X : Nat)) ∧ St w0 A n b off ca b' off' cb (imp n m j) w' ∧ But A w w')
    (h1 : ∀ w, St w0 A n b off ca b' off' cb (imp n m j) w → Calls Try.prog 14 #[.iface 39 (.pointer (some ⟨A, 0, none⟩)), .agg #[.int .i64 k1, .int .i64 x1, s1], vs] w fun e w' => e = .returned (.int .i64 (Y : Nat)) ∧ St w0 A n b off ca b' off' cb (imp n m j) w' ∧ But A w w') :
    Calls Try.prog 14 #[.iface 39 (.pointer (some ⟨A, 0, none⟩)), .agg #[.int .i64 k, .int .i64 x, .slice (some ⟨kb, ko, none⟩) 2 cap], vs] w fun e w' => e = .returned (.int .i64 ((if k = 3 then m X Y else if k = 4 then j X Y else imp n m j X Y : Nat) : Nat)) ∧ St w0 A n b off ca b' off' cb (imp n m j) w' ∧ But A w w' := by
  obtain ⟨wr, hW⟩ : ∃ wr, wr = w.alloc (.cells #[.int .i64 k, .int .i64 x, .slice (some ⟨kb, ko, none⟩) 2 cap] 27) := ⟨_, rfl⟩
  have B1 : Below w.heap.size w wr := by rw [hW]; exact (Below.refl _ _).alloc (Nat.le_refl _) _
  have HS : Hid (St w0 A n b off ca b' off' cb (imp n m j) wr ∧ But A w wr) := ⟨h.step B1, But.of B1⟩
  have HBB : Hid (But A w wr) := But.of B1
  have hAw : A < w.heap.size := World.block_lt_of_cell? _ _ h.lb.1
  have hsz : wr.heap.size = w.heap.size + 1 := by rw [hW]; simp
  have HCE : Hid (∀ w' i v, (St w0 A n b off ca b' off' cb (imp n m j) w' ∧ But A wr w') → wr.cell? ⟨w.heap.size, i, none⟩ = some v → w'.cell? ⟨w.heap.size, i, none⟩ = some v) := fun w' i v hh e => (hh.2.cell (p := ⟨w.heap.size, i, none⟩) (show w.heap.size < wr.heap.size by omega) (show w.heap.size ≠ A by omega)).trans e
  have HKE : Hid (∀ w' i v, (St w0 A n b off ca b' off' cb (imp n m j) w' ∧ But A wr w') → w0.cell? ⟨kb, i, none⟩ = some v → w'.cell? ⟨kb, i, none⟩ = some v) := fun w' i v hh e => (hh.1.bel.cell (p := ⟨kb, i, none⟩) hkb).trans e
  have d0 : ∀ w', (St w0 A n b off ca b' off' cb (imp n m j) w' ∧ But A wr w') → w'.cell? ⟨w.heap.size, 0, none⟩ = some (.int .i64 k) := fun w' hh => HCE.out w' 0 _ hh (by rw [hW]; simp)
  have d2 : ∀ w', (St w0 A n b off ca b' off' cb (imp n m j) w' ∧ But A wr w') → w'.cell? ⟨w.heap.size, 2, none⟩ = some (.slice (some ⟨kb, ko, none⟩) 2 cap) := fun w' hh => HCE.out w' 2 _ hh (by rw [hW]; simp)
  have q01 : ∀ w', (St w0 A n b off ca b' off' cb (imp n m j) w' ∧ But A wr w') → w'.cell? ⟨kb, ko, none⟩ = some (.int .i64 k0) := fun w' hh => HKE.out w' _ _ hh hq0.1.1
  have q02 : ∀ w', (St w0 A n b off ca b' off' cb (imp n m j) w' ∧ But A wr w') → w'.cell? ⟨kb, ko + 1, none⟩ = some (.int .i64 x0) := fun w' hh => HKE.out w' _ _ hh hq0.1.2
  have q03 : ∀ w', (St w0 A n b off ca b' off' cb (imp n m j) w' ∧ But A wr w') → w'.cell? ⟨kb, ko + 2, none⟩ = some s0 := fun w' hh => HKE.out w' _ _ hh hq0.2
  have q11 : ∀ w', (St w0 A n b off ca b' off' cb (imp n m j) w' ∧ But A wr w') → w'.cell? ⟨kb, ko + 3, none⟩ = some (.int .i64 k1) := fun w' hh => HKE.out w' _ _ hh hq1.1.1
  have q12 : ∀ w', (St w0 A n b off ca b' off' cb (imp n m j) w' ∧ But A wr w') → w'.cell? ⟨kb, ko + 4, none⟩ = some (.int .i64 x1) := fun w' hh => HKE.out w' _ _ hh hq1.1.2
  have q13 : ∀ w', (St w0 A n b off ca b' off' cb (imp n m j) w' ∧ But A wr w') → w'.cell? ⟨kb, ko + 5, none⟩ = some s1 := fun w' hh => HKE.out w' _ _ hh hq1.2
  have HV0 : Hid (∀ w', (St w0 A n b off ca b' off' cb (imp n m j) w' ∧ But A wr w') → Calls Try.prog 14 #[.iface 39 (.pointer (some ⟨A, 0, none⟩)), .agg #[.int .i64 k0, .int .i64 x0, s0], vs] w' fun e w'' => e = .returned (.int .i64 (X : Nat)) ∧ (St w0 A n b off ca b' off' cb (imp n m j) w'' ∧ But A wr w'')) := fun w' hh => (h0 w' hh.1).mono fun e w'' ⟨a1, a2, a3⟩ => ⟨a1, a2, hh.2.trans a3⟩
  have HV1 : Hid (∀ w', (St w0 A n b off ca b' off' cb (imp n m j) w' ∧ But A wr w') → Calls Try.prog 14 #[.iface 39 (.pointer (some ⟨A, 0, none⟩)), .agg #[.int .i64 k1, .int .i64 x1, s1], vs] w' fun e w'' => e = .returned (.int .i64 (Y : Nat)) ∧ (St w0 A n b off ca b' off' cb (imp n m j) w'' ∧ But A wr w'')) := fun w' hh => (h1 w' hh.1).mono fun e w'' ⟨a1, a2, a3⟩ => ⟨a1, a2, hh.2.trans a3⟩
  have HAND : Hid (∀ w', (St w0 A n b off ca b' off' cb (imp n m j) w' ∧ But A wr w') → Calls Try.prog 98 #[.pointer (some ⟨A, 0, none⟩), .int .i64 (X : Nat), .int .i64 (Y : Nat)] w' fun e w'' => e = .returned (.int .i64 (m X Y : Nat)) ∧ w'' = w') := fun w' hh => aand_any hh.1.lb (B.tm _ (by rw [← hA]; exact hh.1.bel)) hX hY
  have HOR : Hid (∀ w', (St w0 A n b off ca b' off' cb (imp n m j) w' ∧ But A wr w') → Calls Try.prog 99 #[.pointer (some ⟨A, 0, none⟩), .int .i64 (X : Nat), .int .i64 (Y : Nat)] w' fun e w'' => e = .returned (.int .i64 (j X Y : Nat)) ∧ w'' = w') := fun w' hh => aor_any hh.1.lb (B.tj _ (by rw [← hA]; exact hh.1.bel)) hX hY
  have HIM : Hid (∀ w', (St w0 A n b off ca b' off' cb (imp n m j) w' ∧ But A wr w') → Calls Try.prog 32 #[.pointer (some ⟨A, 0, none⟩), .int .i64 (X : Nat), .int .i64 (Y : Nat)] w' fun e w'' => e = .returned (.int .i64 (imp n m j X Y : Nat)) ∧ St w0 A n b off ca b' off' cb (imp n m j) w'' ∧ But A w' w'') := fun w' hh => implies_st B hA hh.1 hX hY
  have HST : Hid (∀ w' w'', (St w0 A n b off ca b' off' cb (imp n m j) w' ∧ But A wr w') → (St w0 A n b off ca b' off' cb (imp n m j) w'' ∧ But A w' w'') → (St w0 A n b off ca b' off' cb (imp n m j) w'' ∧ But A wr w'')) := fun w' w'' a1 a2 => ⟨a2.1, a1.2.trans a2.2⟩
  have HWE : Hid (wr = w.alloc (.cells #[.int .i64 k, .int .i64 x, .slice (some ⟨kb, ko, none⟩) 2 cap] 27)) := hW
  have HAA : Hid (A = w0.heap.size) := hA
  clear h h0 h1 hq0 hq1 B hA hW B1 hAw hsz hkb
  rcases hk with rfl | rfl | rfl
  · go_enter Try.func14, Try.ntmps14
    go_wp2_with fail
    rw [← HWE.out]
    clear HWE
    refine wp_region_held_drew (S := (fun w' => St w0 A n b off ca b' off' cb (imp n m j) w' ∧ But A wr w')) (by kernel_rfl) (⟨HS.out.1.step (Below.refl _ _).drew, But.drew A wr⟩) (fun hHeld => ?_)
    refine wpAnyH_take (i := 0) (oi := { dst := some 22, op := Go.Op.move (Go.Operand.tmp 0), type := 75, pos := "formula.go:62", after := #[], guard := none }) (v := ?_) rfl (by kernel_rfl) (by kernel_rfl) (by kernel_rfl) (fun _ _ _ h => h) (Or.inl ⟨by rfl, ?hy⟩) (by assumption) ?_
    case hy => (intro w9 hSw; (try dsimp only at hSw); go_simp; try with_reducible rfl)
    try simp only [Act.put, List.setIfInBounds_toArray, List.set_cons_zero, List.set_cons_succ]
    refine wpAnyH_take (i := 1) (oi := { dst := some 23, op := Go.Op.fieldAddr 27 (Go.Operand.tmp 4) 2, type := 0, pos := "formula.go:62", after := #[], guard := none }) (v := ?_) rfl (by kernel_rfl) (by kernel_rfl) (by kernel_rfl) (fun _ _ _ h => h) (Or.inl ⟨by rfl, ?hy⟩) (by assumption) ?_
    case hy => (intro w9 hSw; (try dsimp only at hSw); go_simp; try with_reducible rfl)
    try simp only [Act.put, List.setIfInBounds_toArray, List.set_cons_zero, List.set_cons_succ]
    refine wpAnyH_take (i := 2) (oi := { dst := some 24, op := Go.Op.load 25 (Go.Operand.tmp 23), type := 25, pos := "formula.go:62", after := #[{ on := 1, ground := Go.Ground.data }], guard := none }) (v := ?_) rfl (by kernel_rfl) (by kernel_rfl) (by kernel_rfl) (fun _ _ _ h => h) (Or.inl ⟨by rfl, ?hy⟩) (by assumption) ?_
    case hy => (intro w9 hSw; (try dsimp only at hSw); go_simp; try with_reducible rfl)
    try simp only [Act.put, List.setIfInBounds_toArray, List.set_cons_zero, List.set_cons_succ]
    refine wpAnyH_take (i := 3) (oi := { dst := some 25, op := Go.Op.indexAddr 25 (Go.Operand.tmp 24) (Go.Operand.const (Go.Value.int Go.IntKind.i64 0)), type := 0, pos := "formula.go:62", after := #[{ on := 2, ground := Go.Ground.data }], guard := none }) (v := ?_) rfl (by kernel_rfl) (by kernel_rfl) (by kernel_rfl) (fun _ _ _ h => h) (Or.inl ⟨by rfl, ?hy⟩) (by assumption) ?_
    case hy => (intro w9 hSw; (try dsimp only at hSw); go_simp; try with_reducible rfl)
    try simp only [Act.put, List.setIfInBounds_toArray, List.set_cons_zero, List.set_cons_succ]
    refine wpAnyH_take (i := 4) (oi := { dst := some 26, op := Go.Op.load 27 (Go.Operand.tmp 25), type := 27, pos := "formula.go:62", after := #[{ on := 3, ground := Go.Ground.data }], guard := none }) (v := ?_) rfl (by kernel_rfl) (by kernel_rfl) (by kernel_rfl) (fun _ _ _ h => h) (Or.inl ⟨by rfl, ?hy⟩) (by assumption) ?_
    case hy => (intro w9 hSw; (try dsimp only at hSw); go_simp; try with_reducible rfl)
    try simp only [Act.put, List.setIfInBounds_toArray, List.set_cons_zero, List.set_cons_succ]
    refine wpAnyH_take (i := 5) (oi := { dst := some 27, op := Go.Op.move (Go.Operand.tmp 2), type := 28, pos := "formula.go:62", after := #[], guard := none }) (v := ?_) rfl (by kernel_rfl) (by kernel_rfl) (by kernel_rfl) (fun _ _ _ h => h) (Or.inl ⟨by rfl, ?hy⟩) (by assumption) ?_
    case hy => (intro w9 hSw; (try dsimp only at hSw); go_simp; try with_reducible rfl)
    try simp only [Act.put, List.setIfInBounds_toArray, List.set_cons_zero, List.set_cons_succ]
    refine wpAnyH_take (i := 7) (oi := { dst := some 29, op := Go.Op.move (Go.Operand.tmp 0), type := 75, pos := "formula.go:62", after := #[], guard := none }) (v := ?_) rfl (by kernel_rfl) (by kernel_rfl) (by kernel_rfl) (fun _ _ _ h => h) (Or.inl ⟨by rfl, ?hy⟩) (by assumption) ?_
    case hy => (intro w9 hSw; (try dsimp only at hSw); go_simp; try with_reducible rfl)
    try simp only [Act.put, List.setIfInBounds_toArray, List.set_cons_zero, List.set_cons_succ]
    refine wpAnyH_take (i := 8) (oi := { dst := some 30, op := Go.Op.fieldAddr 27 (Go.Operand.tmp 4) 2, type := 0, pos := "formula.go:62", after := #[], guard := none }) (v := ?_) rfl (by kernel_rfl) (by kernel_rfl) (by kernel_rfl) (fun _ _ _ h => h) (Or.inl ⟨by rfl, ?hy⟩) (by assumption) ?_
    case hy => (intro w9 hSw; (try dsimp only at hSw); go_simp; try with_reducible rfl)
    try simp only [Act.put, List.setIfInBounds_toArray, List.set_cons_zero, List.set_cons_succ]
    refine wpAnyH_take (i := 9) (oi := { dst := some 31, op := Go.Op.load 25 (Go.Operand.tmp 30), type := 25, pos := "formula.go:62", after := #[{ on := 8, ground := Go.Ground.data }], guard := none }) (v := ?_) rfl (by kernel_rfl) (by kernel_rfl) (by kernel_rfl) (fun _ _ _ h => h) (Or.inl ⟨by rfl, ?hy⟩) (by assumption) ?_
    case hy => (intro w9 hSw; (try dsimp only at hSw); go_simp; try with_reducible rfl)
    try simp only [Act.put, List.setIfInBounds_toArray, List.set_cons_zero, List.set_cons_succ]
    refine wpAnyH_take (i := 10) (oi := { dst := some 32, op := Go.Op.indexAddr 25 (Go.Operand.tmp 31) (Go.Operand.const (Go.Value.int Go.IntKind.i64 1)), type := 0, pos := "formula.go:62", after := #[{ on := 9, ground := Go.Ground.data }], guard := none }) (v := ?_) rfl (by kernel_rfl) (by kernel_rfl) (by kernel_rfl) (fun _ _ _ h => h) (Or.inl ⟨by rfl, ?hy⟩) (by assumption) ?_
    case hy => (intro w9 hSw; (try dsimp only at hSw); go_simp; try with_reducible rfl)
    try simp only [Act.put, List.setIfInBounds_toArray, List.set_cons_zero, List.set_cons_succ]
    refine wpAnyH_take (i := 11) (oi := { dst := some 33, op := Go.Op.load 27 (Go.Operand.tmp 32), type := 27, pos := "formula.go:62", after := #[{ on := 10, ground := Go.Ground.data }], guard := none }) (v := ?_) rfl (by kernel_rfl) (by kernel_rfl) (by kernel_rfl) (fun _ _ _ h => h) (Or.inl ⟨by rfl, ?hy⟩) (by assumption) ?_
    case hy => (intro w9 hSw; (try dsimp only at hSw); go_simp; try with_reducible rfl)
    try simp only [Act.put, List.setIfInBounds_toArray, List.set_cons_zero, List.set_cons_succ]
    refine wpAnyH_take (i := 12) (oi := { dst := some 34, op := Go.Op.move (Go.Operand.tmp 2), type := 28, pos := "formula.go:62", after := #[], guard := none }) (v := ?_) rfl (by kernel_rfl) (by kernel_rfl) (by kernel_rfl) (fun _ _ _ h => h) (Or.inl ⟨by rfl, ?hy⟩) (by assumption) ?_
    case hy => (intro w9 hSw; (try dsimp only at hSw); go_simp; try with_reducible rfl)
    try simp only [Act.put, List.setIfInBounds_toArray, List.set_cons_zero, List.set_cons_succ]
    refine wpAnyH_ready (rs := [6]) (by kernel_rfl) (by simp) ?_
    refine AllReadyH.cons (o := { dst := some 28, op := Go.Op.call { callee := Go.Callee.value (Go.Operand.func 14), args := #[Go.Operand.tmp 22, Go.Operand.tmp 26, Go.Operand.tmp 27], argTypes := #[75, 27, 28] }, type := 3, pos := "formula.go:62", after := #[{ on := 0, ground := Go.Ground.data }, { on := 4, ground := Go.Ground.data }, { on := 5, ground := Go.Ground.data }], guard := none }) rfl (fun K hK => ?_) AllReadyH.nil
    go_simp
    refine (HV0.out _ (by assumption)).mono ?_
    rintro e w7 ⟨rfl, hb7⟩
    refine hK.out _ _ ?_ (fun hHeld => ?_)
    · assumption
    clear hK K
    try simp only [Act.put, List.setIfInBounds_toArray, List.set_cons_zero, List.set_cons_succ]
    refine wpAnyH_ready (rs := [13]) (by kernel_rfl) (by simp) ?_
    refine AllReadyH.cons (o := { dst := some 35, op := Go.Op.call { callee := Go.Callee.value (Go.Operand.func 14), args := #[Go.Operand.tmp 29, Go.Operand.tmp 33, Go.Operand.tmp 34], argTypes := #[75, 27, 28] }, type := 3, pos := "formula.go:62", after := #[{ on := 7, ground := Go.Ground.data }, { on := 11, ground := Go.Ground.data }, { on := 12, ground := Go.Ground.data }, { on := 6, ground := Go.Ground.chain }], guard := none }) rfl (fun K hK => ?_) AllReadyH.nil
    go_simp
    refine (HV1.out _ (by assumption)).mono ?_
    rintro e w8 ⟨rfl, hb8⟩
    refine hK.out _ _ ?_ (fun hHeld => ?_)
    · assumption
    clear hK K
    try simp only [Act.put, List.setIfInBounds_toArray, List.set_cons_zero, List.set_cons_succ]
    refine wpAnyH_take (i := 14) (oi := { dst := some 7, op := Go.Op.assign (Go.Operand.tmp 28), type := 3, pos := "formula.go:62", after := #[{ on := 6, ground := Go.Ground.data }, { on := 13, ground := Go.Ground.chain }, { on := 0, ground := Go.Ground.phase }, { on := 1, ground := Go.Ground.phase }, { on := 2, ground := Go.Ground.phase }, { on := 3, ground := Go.Ground.phase }, { on := 4, ground := Go.Ground.phase }, { on := 5, ground := Go.Ground.phase }, { on := 6, ground := Go.Ground.phase }, { on := 7, ground := Go.Ground.textOnly Go.Departure.lateStores }, { on := 8, ground := Go.Ground.textOnly Go.Departure.lateStores }, { on := 9, ground := Go.Ground.textOnly Go.Departure.lateStores }, { on := 10, ground := Go.Ground.textOnly Go.Departure.lateStores }, { on := 11, ground := Go.Ground.textOnly Go.Departure.lateStores }, { on := 12, ground := Go.Ground.textOnly Go.Departure.lateStores }, { on := 13, ground := Go.Ground.textOnly Go.Departure.lateStoresUnsure }], guard := none }) (v := ?_) rfl (by kernel_rfl) (by kernel_rfl) (by kernel_rfl) (fun _ _ _ h => h) (Or.inl ⟨by rfl, ?hy⟩) (by assumption) ?_
    case hy => (intro w9 hSw; (try dsimp only at hSw); go_simp; try with_reducible rfl)
    try simp only [Act.put, List.setIfInBounds_toArray, List.set_cons_zero, List.set_cons_succ]
    refine wpAnyH_take (i := 15) (oi := { dst := some 8, op := Go.Op.assign (Go.Operand.tmp 35), type := 3, pos := "formula.go:62", after := #[{ on := 13, ground := Go.Ground.data }, { on := 14, ground := Go.Ground.chain }, { on := 0, ground := Go.Ground.phase }, { on := 1, ground := Go.Ground.phase }, { on := 2, ground := Go.Ground.phase }, { on := 3, ground := Go.Ground.phase }, { on := 4, ground := Go.Ground.phase }, { on := 5, ground := Go.Ground.phase }, { on := 6, ground := Go.Ground.phase }, { on := 7, ground := Go.Ground.phase }, { on := 8, ground := Go.Ground.phase }, { on := 9, ground := Go.Ground.phase }, { on := 10, ground := Go.Ground.phase }, { on := 11, ground := Go.Ground.phase }, { on := 12, ground := Go.Ground.phase }, { on := 13, ground := Go.Ground.phase }, { on := 14, ground := Go.Ground.phase }], guard := none }) (v := ?_) rfl (by kernel_rfl) (by kernel_rfl) (by kernel_rfl) (fun _ _ _ h => h) (Or.inl ⟨by rfl, ?hy⟩) (by assumption) ?_
    case hy => (intro w9 hSw; (try dsimp only at hSw); go_simp; try with_reducible rfl)
    try simp only [Act.put, List.setIfInBounds_toArray, List.set_cons_zero, List.set_cons_succ]
    refine wpAnyH_done (by kernel_rfl) ?_ _
    try simp only [Act.put, List.setIfInBounds_toArray, List.set_cons_zero, List.set_cons_succ]
    have z0 := d0 _ hHeld
    have HH : Hid (St w0 A n b off ca b' off' cb (imp n m j) _ ∧ But A wr _) := hHeld
    clear hHeld d0 d2 q01 q02 q03 q11 q12 q13 HV0 HV1
    go_wp2_with fail
    refine (HAND.out _ HH.out).mono ?_
    rintro e w9 ⟨rfl, h9⟩
    have HF9 : Hid (St w0 A n b off ca b' off' cb (imp n m j) w9 ∧ But A wr w9) := by rw [h9]; exact HH.out
    clear h9 HH
    go_wp2_with fail
    go_ret
    exact ⟨rfl, HF9.out.1, HBB.out.trans HF9.out.2⟩
  · go_enter Try.func14, Try.ntmps14
    go_wp2_with fail
    rw [← HWE.out]
    clear HWE
    refine wp_region_held_drew (S := (fun w' => St w0 A n b off ca b' off' cb (imp n m j) w' ∧ But A wr w')) (by kernel_rfl) (⟨HS.out.1.step (Below.refl _ _).drew, But.drew A wr⟩) (fun hHeld => ?_)
    refine wpAnyH_take (i := 0) (oi := { dst := some 22, op := Go.Op.move (Go.Operand.tmp 0), type := 75, pos := "formula.go:62", after := #[], guard := none }) (v := ?_) rfl (by kernel_rfl) (by kernel_rfl) (by kernel_rfl) (fun _ _ _ h => h) (Or.inl ⟨by rfl, ?hy⟩) (by assumption) ?_
    case hy => (intro w9 hSw; (try dsimp only at hSw); go_simp; try with_reducible rfl)
    try simp only [Act.put, List.setIfInBounds_toArray, List.set_cons_zero, List.set_cons_succ]
    refine wpAnyH_take (i := 1) (oi := { dst := some 23, op := Go.Op.fieldAddr 27 (Go.Operand.tmp 4) 2, type := 0, pos := "formula.go:62", after := #[], guard := none }) (v := ?_) rfl (by kernel_rfl) (by kernel_rfl) (by kernel_rfl) (fun _ _ _ h => h) (Or.inl ⟨by rfl, ?hy⟩) (by assumption) ?_
    case hy => (intro w9 hSw; (try dsimp only at hSw); go_simp; try with_reducible rfl)
    try simp only [Act.put, List.setIfInBounds_toArray, List.set_cons_zero, List.set_cons_succ]
    refine wpAnyH_take (i := 2) (oi := { dst := some 24, op := Go.Op.load 25 (Go.Operand.tmp 23), type := 25, pos := "formula.go:62", after := #[{ on := 1, ground := Go.Ground.data }], guard := none }) (v := ?_) rfl (by kernel_rfl) (by kernel_rfl) (by kernel_rfl) (fun _ _ _ h => h) (Or.inl ⟨by rfl, ?hy⟩) (by assumption) ?_
    case hy => (intro w9 hSw; (try dsimp only at hSw); go_simp; try with_reducible rfl)
    try simp only [Act.put, List.setIfInBounds_toArray, List.set_cons_zero, List.set_cons_succ]
    refine wpAnyH_take (i := 3) (oi := { dst := some 25, op := Go.Op.indexAddr 25 (Go.Operand.tmp 24) (Go.Operand.const (Go.Value.int Go.IntKind.i64 0)), type := 0, pos := "formula.go:62", after := #[{ on := 2, ground := Go.Ground.data }], guard := none }) (v := ?_) rfl (by kernel_rfl) (by kernel_rfl) (by kernel_rfl) (fun _ _ _ h => h) (Or.inl ⟨by rfl, ?hy⟩) (by assumption) ?_
    case hy => (intro w9 hSw; (try dsimp only at hSw); go_simp; try with_reducible rfl)
    try simp only [Act.put, List.setIfInBounds_toArray, List.set_cons_zero, List.set_cons_succ]
    refine wpAnyH_take (i := 4) (oi := { dst := some 26, op := Go.Op.load 27 (Go.Operand.tmp 25), type := 27, pos := "formula.go:62", after := #[{ on := 3, ground := Go.Ground.data }], guard := none }) (v := ?_) rfl (by kernel_rfl) (by kernel_rfl) (by kernel_rfl) (fun _ _ _ h => h) (Or.inl ⟨by rfl, ?hy⟩) (by assumption) ?_
    case hy => (intro w9 hSw; (try dsimp only at hSw); go_simp; try with_reducible rfl)
    try simp only [Act.put, List.setIfInBounds_toArray, List.set_cons_zero, List.set_cons_succ]
    refine wpAnyH_take (i := 5) (oi := { dst := some 27, op := Go.Op.move (Go.Operand.tmp 2), type := 28, pos := "formula.go:62", after := #[], guard := none }) (v := ?_) rfl (by kernel_rfl) (by kernel_rfl) (by kernel_rfl) (fun _ _ _ h => h) (Or.inl ⟨by rfl, ?hy⟩) (by assumption) ?_
    case hy => (intro w9 hSw; (try dsimp only at hSw); go_simp; try with_reducible rfl)
    try simp only [Act.put, List.setIfInBounds_toArray, List.set_cons_zero, List.set_cons_succ]
    refine wpAnyH_take (i := 7) (oi := { dst := some 29, op := Go.Op.move (Go.Operand.tmp 0), type := 75, pos := "formula.go:62", after := #[], guard := none }) (v := ?_) rfl (by kernel_rfl) (by kernel_rfl) (by kernel_rfl) (fun _ _ _ h => h) (Or.inl ⟨by rfl, ?hy⟩) (by assumption) ?_
    case hy => (intro w9 hSw; (try dsimp only at hSw); go_simp; try with_reducible rfl)
    try simp only [Act.put, List.setIfInBounds_toArray, List.set_cons_zero, List.set_cons_succ]
    refine wpAnyH_take (i := 8) (oi := { dst := some 30, op := Go.Op.fieldAddr 27 (Go.Operand.tmp 4) 2, type := 0, pos := "formula.go:62", after := #[], guard := none }) (v := ?_) rfl (by kernel_rfl) (by kernel_rfl) (by kernel_rfl) (fun _ _ _ h => h) (Or.inl ⟨by rfl, ?hy⟩) (by assumption) ?_
    case hy => (intro w9 hSw; (try dsimp only at hSw); go_simp; try with_reducible rfl)
    try simp only [Act.put, List.setIfInBounds_toArray, List.set_cons_zero, List.set_cons_succ]
    refine wpAnyH_take (i := 9) (oi := { dst := some 31, op := Go.Op.load 25 (Go.Operand.tmp 30), type := 25, pos := "formula.go:62", after := #[{ on := 8, ground := Go.Ground.data }], guard := none }) (v := ?_) rfl (by kernel_rfl) (by kernel_rfl) (by kernel_rfl) (fun _ _ _ h => h) (Or.inl ⟨by rfl, ?hy⟩) (by assumption) ?_
    case hy => (intro w9 hSw; (try dsimp only at hSw); go_simp; try with_reducible rfl)
    try simp only [Act.put, List.setIfInBounds_toArray, List.set_cons_zero, List.set_cons_succ]
    refine wpAnyH_take (i := 10) (oi := { dst := some 32, op := Go.Op.indexAddr 25 (Go.Operand.tmp 31) (Go.Operand.const (Go.Value.int Go.IntKind.i64 1)), type := 0, pos := "formula.go:62", after := #[{ on := 9, ground := Go.Ground.data }], guard := none }) (v := ?_) rfl (by kernel_rfl) (by kernel_rfl) (by kernel_rfl) (fun _ _ _ h => h) (Or.inl ⟨by rfl, ?hy⟩) (by assumption) ?_
    case hy => (intro w9 hSw; (try dsimp only at hSw); go_simp; try with_reducible rfl)
    try simp only [Act.put, List.setIfInBounds_toArray, List.set_cons_zero, List.set_cons_succ]
    refine wpAnyH_take (i := 11) (oi := { dst := some 33, op := Go.Op.load 27 (Go.Operand.tmp 32), type := 27, pos := "formula.go:62", after := #[{ on := 10, ground := Go.Ground.data }], guard := none }) (v := ?_) rfl (by kernel_rfl) (by kernel_rfl) (by kernel_rfl) (fun _ _ _ h => h) (Or.inl ⟨by rfl, ?hy⟩) (by assumption) ?_
    case hy => (intro w9 hSw; (try dsimp only at hSw); go_simp; try with_reducible rfl)
    try simp only [Act.put, List.setIfInBounds_toArray, List.set_cons_zero, List.set_cons_succ]
    refine wpAnyH_take (i := 12) (oi := { dst := some 34, op := Go.Op.move (Go.Operand.tmp 2), type := 28, pos := "formula.go:62", after := #[], guard := none }) (v := ?_) rfl (by kernel_rfl) (by kernel_rfl) (by kernel_rfl) (fun _ _ _ h => h) (Or.inl ⟨by rfl, ?hy⟩) (by assumption) ?_
    case hy => (intro w9 hSw; (try dsimp only at hSw); go_simp; try with_reducible rfl)
    try simp only [Act.put, List.setIfInBounds_toArray, List.set_cons_zero, List.set_cons_succ]
    refine wpAnyH_ready (rs := [6]) (by kernel_rfl) (by simp) ?_
    refine AllReadyH.cons (o := { dst := some 28, op := Go.Op.call { callee := Go.Callee.value (Go.Operand.func 14), args := #[Go.Operand.tmp 22, Go.Operand.tmp 26, Go.Operand.tmp 27], argTypes := #[75, 27, 28] }, type := 3, pos := "formula.go:62", after := #[{ on := 0, ground := Go.Ground.data }, { on := 4, ground := Go.Ground.data }, { on := 5, ground := Go.Ground.data }], guard := none }) rfl (fun K hK => ?_) AllReadyH.nil
    go_simp
    refine (HV0.out _ (by assumption)).mono ?_
    rintro e w7 ⟨rfl, hb7⟩
    refine hK.out _ _ ?_ (fun hHeld => ?_)
    · assumption
    clear hK K
    try simp only [Act.put, List.setIfInBounds_toArray, List.set_cons_zero, List.set_cons_succ]
    refine wpAnyH_ready (rs := [13]) (by kernel_rfl) (by simp) ?_
    refine AllReadyH.cons (o := { dst := some 35, op := Go.Op.call { callee := Go.Callee.value (Go.Operand.func 14), args := #[Go.Operand.tmp 29, Go.Operand.tmp 33, Go.Operand.tmp 34], argTypes := #[75, 27, 28] }, type := 3, pos := "formula.go:62", after := #[{ on := 7, ground := Go.Ground.data }, { on := 11, ground := Go.Ground.data }, { on := 12, ground := Go.Ground.data }, { on := 6, ground := Go.Ground.chain }], guard := none }) rfl (fun K hK => ?_) AllReadyH.nil
    go_simp
    refine (HV1.out _ (by assumption)).mono ?_
    rintro e w8 ⟨rfl, hb8⟩
    refine hK.out _ _ ?_ (fun hHeld => ?_)
    · assumption
    clear hK K
    try simp only [Act.put, List.setIfInBounds_toArray, List.set_cons_zero, List.set_cons_succ]
    refine wpAnyH_take (i := 14) (oi := { dst := some 7, op := Go.Op.assign (Go.Operand.tmp 28), type := 3, pos := "formula.go:62", after := #[{ on := 6, ground := Go.Ground.data }, { on := 13, ground := Go.Ground.chain }, { on := 0, ground := Go.Ground.phase }, { on := 1, ground := Go.Ground.phase }, { on := 2, ground := Go.Ground.phase }, { on := 3, ground := Go.Ground.phase }, { on := 4, ground := Go.Ground.phase }, { on := 5, ground := Go.Ground.phase }, { on := 6, ground := Go.Ground.phase }, { on := 7, ground := Go.Ground.textOnly Go.Departure.lateStores }, { on := 8, ground := Go.Ground.textOnly Go.Departure.lateStores }, { on := 9, ground := Go.Ground.textOnly Go.Departure.lateStores }, { on := 10, ground := Go.Ground.textOnly Go.Departure.lateStores }, { on := 11, ground := Go.Ground.textOnly Go.Departure.lateStores }, { on := 12, ground := Go.Ground.textOnly Go.Departure.lateStores }, { on := 13, ground := Go.Ground.textOnly Go.Departure.lateStoresUnsure }], guard := none }) (v := ?_) rfl (by kernel_rfl) (by kernel_rfl) (by kernel_rfl) (fun _ _ _ h => h) (Or.inl ⟨by rfl, ?hy⟩) (by assumption) ?_
    case hy => (intro w9 hSw; (try dsimp only at hSw); go_simp; try with_reducible rfl)
    try simp only [Act.put, List.setIfInBounds_toArray, List.set_cons_zero, List.set_cons_succ]
    refine wpAnyH_take (i := 15) (oi := { dst := some 8, op := Go.Op.assign (Go.Operand.tmp 35), type := 3, pos := "formula.go:62", after := #[{ on := 13, ground := Go.Ground.data }, { on := 14, ground := Go.Ground.chain }, { on := 0, ground := Go.Ground.phase }, { on := 1, ground := Go.Ground.phase }, { on := 2, ground := Go.Ground.phase }, { on := 3, ground := Go.Ground.phase }, { on := 4, ground := Go.Ground.phase }, { on := 5, ground := Go.Ground.phase }, { on := 6, ground := Go.Ground.phase }, { on := 7, ground := Go.Ground.phase }, { on := 8, ground := Go.Ground.phase }, { on := 9, ground := Go.Ground.phase }, { on := 10, ground := Go.Ground.phase }, { on := 11, ground := Go.Ground.phase }, { on := 12, ground := Go.Ground.phase }, { on := 13, ground := Go.Ground.phase }, { on := 14, ground := Go.Ground.phase }], guard := none }) (v := ?_) rfl (by kernel_rfl) (by kernel_rfl) (by kernel_rfl) (fun _ _ _ h => h) (Or.inl ⟨by rfl, ?hy⟩) (by assumption) ?_
    case hy => (intro w9 hSw; (try dsimp only at hSw); go_simp; try with_reducible rfl)
    try simp only [Act.put, List.setIfInBounds_toArray, List.set_cons_zero, List.set_cons_succ]
    refine wpAnyH_done (by kernel_rfl) ?_ _
    try simp only [Act.put, List.setIfInBounds_toArray, List.set_cons_zero, List.set_cons_succ]
    have z0 := d0 _ hHeld
    have HH : Hid (St w0 A n b off ca b' off' cb (imp n m j) _ ∧ But A wr _) := hHeld
    clear hHeld d0 d2 q01 q02 q03 q11 q12 q13 HV0 HV1
    go_wp2_with fail
    refine (HOR.out _ HH.out).mono ?_
    rintro e w9 ⟨rfl, h9⟩
    have HF9 : Hid (St w0 A n b off ca b' off' cb (imp n m j) w9 ∧ But A wr w9) := by rw [h9]; exact HH.out
    clear h9 HH
    go_wp2_with fail
    go_ret
    exact ⟨rfl, HF9.out.1, HBB.out.trans HF9.out.2⟩
  · go_enter Try.func14, Try.ntmps14
    go_wp2_with fail
    rw [← HWE.out]
    clear HWE
    refine wp_region_held_drew (S := (fun w' => St w0 A n b off ca b' off' cb (imp n m j) w' ∧ But A wr w')) (by kernel_rfl) (⟨HS.out.1.step (Below.refl _ _).drew, But.drew A wr⟩) (fun hHeld => ?_)
    refine wpAnyH_take (i := 0) (oi := { dst := some 22, op := Go.Op.move (Go.Operand.tmp 0), type := 75, pos := "formula.go:62", after := #[], guard := none }) (v := ?_) rfl (by kernel_rfl) (by kernel_rfl) (by kernel_rfl) (fun _ _ _ h => h) (Or.inl ⟨by rfl, ?hy⟩) (by assumption) ?_
    case hy => (intro w9 hSw; (try dsimp only at hSw); go_simp; try with_reducible rfl)
    try simp only [Act.put, List.setIfInBounds_toArray, List.set_cons_zero, List.set_cons_succ]
    refine wpAnyH_take (i := 1) (oi := { dst := some 23, op := Go.Op.fieldAddr 27 (Go.Operand.tmp 4) 2, type := 0, pos := "formula.go:62", after := #[], guard := none }) (v := ?_) rfl (by kernel_rfl) (by kernel_rfl) (by kernel_rfl) (fun _ _ _ h => h) (Or.inl ⟨by rfl, ?hy⟩) (by assumption) ?_
    case hy => (intro w9 hSw; (try dsimp only at hSw); go_simp; try with_reducible rfl)
    try simp only [Act.put, List.setIfInBounds_toArray, List.set_cons_zero, List.set_cons_succ]
    refine wpAnyH_take (i := 2) (oi := { dst := some 24, op := Go.Op.load 25 (Go.Operand.tmp 23), type := 25, pos := "formula.go:62", after := #[{ on := 1, ground := Go.Ground.data }], guard := none }) (v := ?_) rfl (by kernel_rfl) (by kernel_rfl) (by kernel_rfl) (fun _ _ _ h => h) (Or.inl ⟨by rfl, ?hy⟩) (by assumption) ?_
    case hy => (intro w9 hSw; (try dsimp only at hSw); go_simp; try with_reducible rfl)
    try simp only [Act.put, List.setIfInBounds_toArray, List.set_cons_zero, List.set_cons_succ]
    refine wpAnyH_take (i := 3) (oi := { dst := some 25, op := Go.Op.indexAddr 25 (Go.Operand.tmp 24) (Go.Operand.const (Go.Value.int Go.IntKind.i64 0)), type := 0, pos := "formula.go:62", after := #[{ on := 2, ground := Go.Ground.data }], guard := none }) (v := ?_) rfl (by kernel_rfl) (by kernel_rfl) (by kernel_rfl) (fun _ _ _ h => h) (Or.inl ⟨by rfl, ?hy⟩) (by assumption) ?_
    case hy => (intro w9 hSw; (try dsimp only at hSw); go_simp; try with_reducible rfl)
    try simp only [Act.put, List.setIfInBounds_toArray, List.set_cons_zero, List.set_cons_succ]
    refine wpAnyH_take (i := 4) (oi := { dst := some 26, op := Go.Op.load 27 (Go.Operand.tmp 25), type := 27, pos := "formula.go:62", after := #[{ on := 3, ground := Go.Ground.data }], guard := none }) (v := ?_) rfl (by kernel_rfl) (by kernel_rfl) (by kernel_rfl) (fun _ _ _ h => h) (Or.inl ⟨by rfl, ?hy⟩) (by assumption) ?_
    case hy => (intro w9 hSw; (try dsimp only at hSw); go_simp; try with_reducible rfl)
    try simp only [Act.put, List.setIfInBounds_toArray, List.set_cons_zero, List.set_cons_succ]
    refine wpAnyH_take (i := 5) (oi := { dst := some 27, op := Go.Op.move (Go.Operand.tmp 2), type := 28, pos := "formula.go:62", after := #[], guard := none }) (v := ?_) rfl (by kernel_rfl) (by kernel_rfl) (by kernel_rfl) (fun _ _ _ h => h) (Or.inl ⟨by rfl, ?hy⟩) (by assumption) ?_
    case hy => (intro w9 hSw; (try dsimp only at hSw); go_simp; try with_reducible rfl)
    try simp only [Act.put, List.setIfInBounds_toArray, List.set_cons_zero, List.set_cons_succ]
    refine wpAnyH_take (i := 7) (oi := { dst := some 29, op := Go.Op.move (Go.Operand.tmp 0), type := 75, pos := "formula.go:62", after := #[], guard := none }) (v := ?_) rfl (by kernel_rfl) (by kernel_rfl) (by kernel_rfl) (fun _ _ _ h => h) (Or.inl ⟨by rfl, ?hy⟩) (by assumption) ?_
    case hy => (intro w9 hSw; (try dsimp only at hSw); go_simp; try with_reducible rfl)
    try simp only [Act.put, List.setIfInBounds_toArray, List.set_cons_zero, List.set_cons_succ]
    refine wpAnyH_take (i := 8) (oi := { dst := some 30, op := Go.Op.fieldAddr 27 (Go.Operand.tmp 4) 2, type := 0, pos := "formula.go:62", after := #[], guard := none }) (v := ?_) rfl (by kernel_rfl) (by kernel_rfl) (by kernel_rfl) (fun _ _ _ h => h) (Or.inl ⟨by rfl, ?hy⟩) (by assumption) ?_
    case hy => (intro w9 hSw; (try dsimp only at hSw); go_simp; try with_reducible rfl)
    try simp only [Act.put, List.setIfInBounds_toArray, List.set_cons_zero, List.set_cons_succ]
    refine wpAnyH_take (i := 9) (oi := { dst := some 31, op := Go.Op.load 25 (Go.Operand.tmp 30), type := 25, pos := "formula.go:62", after := #[{ on := 8, ground := Go.Ground.data }], guard := none }) (v := ?_) rfl (by kernel_rfl) (by kernel_rfl) (by kernel_rfl) (fun _ _ _ h => h) (Or.inl ⟨by rfl, ?hy⟩) (by assumption) ?_
    case hy => (intro w9 hSw; (try dsimp only at hSw); go_simp; try with_reducible rfl)
    try simp only [Act.put, List.setIfInBounds_toArray, List.set_cons_zero, List.set_cons_succ]
    refine wpAnyH_take (i := 10) (oi := { dst := some 32, op := Go.Op.indexAddr 25 (Go.Operand.tmp 31) (Go.Operand.const (Go.Value.int Go.IntKind.i64 1)), type := 0, pos := "formula.go:62", after := #[{ on := 9, ground := Go.Ground.data }], guard := none }) (v := ?_) rfl (by kernel_rfl) (by kernel_rfl) (by kernel_rfl) (fun _ _ _ h => h) (Or.inl ⟨by rfl, ?hy⟩) (by assumption) ?_
    case hy => (intro w9 hSw; (try dsimp only at hSw); go_simp; try with_reducible rfl)
    try simp only [Act.put, List.setIfInBounds_toArray, List.set_cons_zero, List.set_cons_succ]
    refine wpAnyH_take (i := 11) (oi := { dst := some 33, op := Go.Op.load 27 (Go.Operand.tmp 32), type := 27, pos := "formula.go:62", after := #[{ on := 10, ground := Go.Ground.data }], guard := none }) (v := ?_) rfl (by kernel_rfl) (by kernel_rfl) (by kernel_rfl) (fun _ _ _ h => h) (Or.inl ⟨by rfl, ?hy⟩) (by assumption) ?_
    case hy => (intro w9 hSw; (try dsimp only at hSw); go_simp; try with_reducible rfl)
    try simp only [Act.put, List.setIfInBounds_toArray, List.set_cons_zero, List.set_cons_succ]
    refine wpAnyH_take (i := 12) (oi := { dst := some 34, op := Go.Op.move (Go.Operand.tmp 2), type := 28, pos := "formula.go:62", after := #[], guard := none }) (v := ?_) rfl (by kernel_rfl) (by kernel_rfl) (by kernel_rfl) (fun _ _ _ h => h) (Or.inl ⟨by rfl, ?hy⟩) (by assumption) ?_
    case hy => (intro w9 hSw; (try dsimp only at hSw); go_simp; try with_reducible rfl)
    try simp only [Act.put, List.setIfInBounds_toArray, List.set_cons_zero, List.set_cons_succ]
    refine wpAnyH_ready (rs := [6]) (by kernel_rfl) (by simp) ?_
    refine AllReadyH.cons (o := { dst := some 28, op := Go.Op.call { callee := Go.Callee.value (Go.Operand.func 14), args := #[Go.Operand.tmp 22, Go.Operand.tmp 26, Go.Operand.tmp 27], argTypes := #[75, 27, 28] }, type := 3, pos := "formula.go:62", after := #[{ on := 0, ground := Go.Ground.data }, { on := 4, ground := Go.Ground.data }, { on := 5, ground := Go.Ground.data }], guard := none }) rfl (fun K hK => ?_) AllReadyH.nil
    go_simp
    refine (HV0.out _ (by assumption)).mono ?_
    rintro e w7 ⟨rfl, hb7⟩
    refine hK.out _ _ ?_ (fun hHeld => ?_)
    · assumption
    clear hK K
    try simp only [Act.put, List.setIfInBounds_toArray, List.set_cons_zero, List.set_cons_succ]
    refine wpAnyH_ready (rs := [13]) (by kernel_rfl) (by simp) ?_
    refine AllReadyH.cons (o := { dst := some 35, op := Go.Op.call { callee := Go.Callee.value (Go.Operand.func 14), args := #[Go.Operand.tmp 29, Go.Operand.tmp 33, Go.Operand.tmp 34], argTypes := #[75, 27, 28] }, type := 3, pos := "formula.go:62", after := #[{ on := 7, ground := Go.Ground.data }, { on := 11, ground := Go.Ground.data }, { on := 12, ground := Go.Ground.data }, { on := 6, ground := Go.Ground.chain }], guard := none }) rfl (fun K hK => ?_) AllReadyH.nil
    go_simp
    refine (HV1.out _ (by assumption)).mono ?_
    rintro e w8 ⟨rfl, hb8⟩
    refine hK.out _ _ ?_ (fun hHeld => ?_)
    · assumption
    clear hK K
    try simp only [Act.put, List.setIfInBounds_toArray, List.set_cons_zero, List.set_cons_succ]
    refine wpAnyH_take (i := 14) (oi := { dst := some 7, op := Go.Op.assign (Go.Operand.tmp 28), type := 3, pos := "formula.go:62", after := #[{ on := 6, ground := Go.Ground.data }, { on := 13, ground := Go.Ground.chain }, { on := 0, ground := Go.Ground.phase }, { on := 1, ground := Go.Ground.phase }, { on := 2, ground := Go.Ground.phase }, { on := 3, ground := Go.Ground.phase }, { on := 4, ground := Go.Ground.phase }, { on := 5, ground := Go.Ground.phase }, { on := 6, ground := Go.Ground.phase }, { on := 7, ground := Go.Ground.textOnly Go.Departure.lateStores }, { on := 8, ground := Go.Ground.textOnly Go.Departure.lateStores }, { on := 9, ground := Go.Ground.textOnly Go.Departure.lateStores }, { on := 10, ground := Go.Ground.textOnly Go.Departure.lateStores }, { on := 11, ground := Go.Ground.textOnly Go.Departure.lateStores }, { on := 12, ground := Go.Ground.textOnly Go.Departure.lateStores }, { on := 13, ground := Go.Ground.textOnly Go.Departure.lateStoresUnsure }], guard := none }) (v := ?_) rfl (by kernel_rfl) (by kernel_rfl) (by kernel_rfl) (fun _ _ _ h => h) (Or.inl ⟨by rfl, ?hy⟩) (by assumption) ?_
    case hy => (intro w9 hSw; (try dsimp only at hSw); go_simp; try with_reducible rfl)
    try simp only [Act.put, List.setIfInBounds_toArray, List.set_cons_zero, List.set_cons_succ]
    refine wpAnyH_take (i := 15) (oi := { dst := some 8, op := Go.Op.assign (Go.Operand.tmp 35), type := 3, pos := "formula.go:62", after := #[{ on := 13, ground := Go.Ground.data }, { on := 14, ground := Go.Ground.chain }, { on := 0, ground := Go.Ground.phase }, { on := 1, ground := Go.Ground.phase }, { on := 2, ground := Go.Ground.phase }, { on := 3, ground := Go.Ground.phase }, { on := 4, ground := Go.Ground.phase }, { on := 5, ground := Go.Ground.phase }, { on := 6, ground := Go.Ground.phase }, { on := 7, ground := Go.Ground.phase }, { on := 8, ground := Go.Ground.phase }, { on := 9, ground := Go.Ground.phase }, { on := 10, ground := Go.Ground.phase }, { on := 11, ground := Go.Ground.phase }, { on := 12, ground := Go.Ground.phase }, { on := 13, ground := Go.Ground.phase }, { on := 14, ground := Go.Ground.phase }], guard := none }) (v := ?_) rfl (by kernel_rfl) (by kernel_rfl) (by kernel_rfl) (fun _ _ _ h => h) (Or.inl ⟨by rfl, ?hy⟩) (by assumption) ?_
    case hy => (intro w9 hSw; (try dsimp only at hSw); go_simp; try with_reducible rfl)
    try simp only [Act.put, List.setIfInBounds_toArray, List.set_cons_zero, List.set_cons_succ]
    refine wpAnyH_done (by kernel_rfl) ?_ _
    try simp only [Act.put, List.setIfInBounds_toArray, List.set_cons_zero, List.set_cons_succ]
    have z0 := d0 _ hHeld
    have HH : Hid (St w0 A n b off ca b' off' cb (imp n m j) _ ∧ But A wr _) := hHeld
    clear hHeld d0 d2 q01 q02 q03 q11 q12 q13 HV0 HV1
    go_wp2_with fail
    refine (HIM.out _ HH.out).mono ?_ -- implies
    rintro e w9 ⟨rfl, h9⟩
    have HF9 : Hid (St w0 A n b off ca b' off' cb (imp n m j) w9 ∧ But A wr w9) := HST.out _ _ HH.out h9
    clear h9 HH
    go_wp2_with fail
    go_ret
    exact ⟨rfl, HF9.out.1, HBB.out.trans HF9.out.2⟩
end
end Go.Proofs.Ytibnadbobijjpaa
