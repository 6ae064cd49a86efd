/-
  Lattices as plain mathematics: Dedekind's and Birkhoff's theorems. No condition.
  Plain facts on the first three elements of which something is so, and on lattices told by tables. No condition.
-/
import Derived.Test.YthhnngmfbbljaaaGreatFilM
namespace Go.Proofs.YthhnngmfbbljaaaGreat
set_option maxRecDepth 100000

/-- Two operations with the laws of a lattice. -/
structure AL (α : Type) where
  m : α → α → α
  j : α → α → α
  mi : ∀ x, m x x = x
  ji : ∀ x, j x x = x
  mc : ∀ x y, m x y = m y x
  jc : ∀ x y, j x y = j y x
  ma : ∀ x y z, m x (m y z) = m (m x y) z
  ja : ∀ x y z, j x (j y z) = j (j x y) z
  mj : ∀ x y, m x (j x y) = x
  jm : ∀ x y, j x (m x y) = x

/-- Turned over. -/
def AL.dual {α : Type} (L : AL α) : AL α := ⟨L.j, L.m, L.ji, L.mi, L.jc, L.mc, L.ja, L.ma, L.jm, L.mj⟩
def AL.le {α : Type} (L : AL α) (x y : α) : Prop := L.m x y = x
theorem AL.le_j {α : Type} (L : AL α) {x y : α} : L.le x y ↔ L.j x y = y := by
  constructor
  · intro h
    have := L.jm y x
    rw [L.mc y x, show L.m x y = x from h] at this
    rw [L.jc]; exact this
  · intro h
    show L.m x y = x
    rw [← h]; exact L.mj x y
theorem AL.refl {α : Type} (L : AL α) (x : α) : L.le x x := L.mi x
theorem AL.trans {α : Type} (L : AL α) {x y z : α} (h : L.le x y) (h' : L.le y z) : L.le x z := by
  unfold AL.le at *
  rw [← h, ← L.ma, h']
theorem AL.anti {α : Type} (L : AL α) {x y : α} (h : L.le x y) (h' : L.le y x) : x = y := by
  unfold AL.le at *
  rw [← h, L.mc, h']
theorem AL.ml {α : Type} (L : AL α) (x y : α) : L.le (L.m x y) x := by
  unfold AL.le
  rw [L.mc, L.ma, L.mi]
theorem AL.mr {α : Type} (L : AL α) (x y : α) : L.le (L.m x y) y := by rw [L.mc]; exact L.ml y x
theorem AL.glb {α : Type} (L : AL α) {x y z : α} (h : L.le z x) (h' : L.le z y) : L.le z (L.m x y) := by
  unfold AL.le at *
  rw [L.ma, h, h']
theorem AL.jl {α : Type} (L : AL α) (x y : α) : L.le x (L.j x y) := L.mj x y
theorem AL.jr {α : Type} (L : AL α) (x y : α) : L.le y (L.j x y) := by rw [L.jc]; exact L.mj y x
theorem AL.lub {α : Type} (L : AL α) {x y z : α} (h : L.le x z) (h' : L.le y z) : L.le (L.j x y) z := by
  rw [L.le_j] at *
  rw [← L.ja, h', h]
theorem AL.mm {α : Type} (L : AL α) {x y x' y' : α} (h : L.le x x') (h' : L.le y y') : L.le (L.m x y) (L.m x' y') :=
  L.glb (L.trans (L.ml _ _) h) (L.trans (L.mr _ _) h')
theorem AL.jj {α : Type} (L : AL α) {x y x' y' : α} (h : L.le x x') (h' : L.le y y') : L.le (L.j x y) (L.j x' y') :=
  L.lub (L.trans h (L.jl _ _)) (L.trans h' (L.jr _ _))

def AL.Mod {α : Type} (L : AL α) : Prop := ∀ x y z, L.m x z ≠ x ∨ L.j x (L.m y z) = L.m (L.j x y) z
def AL.Dis {α : Type} (L : AL α) : Prop := ∀ x y z, L.m x (L.j y z) = L.j (L.m x y) (L.m x z)
def AL.Pen {α : Type} (L : AL α) (x y z : α) : Prop := (x ≠ y ∧ L.m x y = x) ∧ L.m x z = L.m y z ∧ L.j x z = L.j y z
def AL.Dia {α : Type} (L : AL α) (x y z : α) : Prop := x ≠ y ∧ x ≠ z ∧ y ≠ z ∧ (L.m x y = L.m x z ∧ L.m x y = L.m y z) ∧ (L.j x y = L.j x z ∧ L.j x y = L.j y z)

theorem AL.Mod.at {α : Type} {L : AL α} (h : L.Mod) {x z : α} (y : α) (hx : L.le x z) : L.j x (L.m y z) = L.m (L.j x y) z :=
  (h x y z).resolve_left fun k => k hx
theorem AL.Mod.dual {α : Type} {L : AL α} (h : L.Mod) : L.dual.Mod := fun x y z => by
  by_cases hz : L.j x z = x
  · right
    have hle : L.le z x := L.le_j.mpr (by rw [L.jc]; exact hz)
    have := h.at y hle
    show L.m x (L.j y z) = L.j (L.m x y) z
    rw [L.mc x (L.j y z), L.jc y z, ← this, L.jc, L.mc y x]
  · exact .inl hz
theorem AL.mod_dual {α : Type} (L : AL α) : L.Mod ↔ L.dual.Mod := ⟨AL.Mod.dual, fun h => AL.Mod.dual (L := L.dual) h⟩

/-- DEDEKIND. -/
theorem AL.dedekind {α : Type} (L : AL α) : L.Mod ↔ ¬ ∃ x y z, L.Pen x y z := by
  constructor
  · rintro h ⟨x, y, z, ⟨hne, hle⟩, hm, hj⟩
    apply hne
    have h1 : y = L.m y (L.j x z) := by rw [hj]; exact (L.mj y z).symm
    have h2 := h.at z (show L.le x y from hle)
    rw [h1, L.mc, ← h2, L.mc z y, ← hm, L.jm]
  · intro h x y z
    by_cases hx : L.m x z = x
    · right
      apply Classical.byContradiction
      intro hne
      apply h
      have hxz : L.le x z := hx
      have hab : L.le (L.j x (L.m y z)) (L.m (L.j x y) z) := L.glb (L.jj (L.refl _) (L.ml _ _)) (L.lub hxz (L.mr _ _))
      refine ⟨L.j x (L.m y z), L.m (L.j x y) z, y, ⟨hne, hab⟩, ?_, ?_⟩
      · refine L.anti (L.mm hab (L.refl _)) (L.glb (L.trans ?_ (L.jr x (L.m y z))) (L.mr _ _))
        exact L.glb (L.mr _ _) (L.trans (L.ml _ _) (L.mr _ _))
      · refine L.anti (L.jj hab (L.refl _)) (L.lub ?_ (L.jr _ _))
        refine L.trans (L.ml _ _) (L.lub (L.trans (L.jl _ _) (L.jl _ _)) (L.jr _ _))
    · exact .inl hx
theorem AL.Dis.mod {α : Type} {L : AL α} (h : L.Dis) : L.Mod := fun x y z => by
  by_cases hx : L.m x z = x
  · right
    rw [L.mc (L.j x y) z, h, L.mc z x, hx, L.mc z y]
  · exact .inl hx
theorem AL.Dis.dual {α : Type} {L : AL α} (h : L.Dis) : L.dual.Dis := fun x y z => by
  show L.j x (L.m y z) = L.m (L.j x y) (L.j x z)
  rw [h (L.j x y) x z, L.mc (L.j x y) x, L.mj, L.mc (L.j x y) z, h z x y, L.ja, L.mc z x, L.jm, L.mc z y]
theorem AL.dis_dual {α : Type} (L : AL α) : L.Dis ↔ L.dual.Dis := ⟨AL.Dis.dual, fun h => AL.Dis.dual (L := L.dual) h⟩
theorem AL.Dis.one {α : Type} {L : AL α} (h : L.Dis) {x y z : α} (hm : L.m x y = L.m x z) (hj : L.j x y = L.j x z) : y = z := by
  have h1 : y = L.m y (L.j x z) := by rw [← hj, L.jc]; exact (L.mj y x).symm
  have h2 : z = L.m z (L.j x y) := by rw [hj, L.jc]; exact (L.mj z x).symm
  rw [h1, h, L.mc y x, hm, L.mc y z, L.mc x z, ← h, ← h2]

/-- The middle of three, from below and from above. -/
def AL.d {α : Type} (L : AL α) (x y z : α) : α := L.j (L.j (L.m x y) (L.m y z)) (L.m z x)
def AL.u {α : Type} (L : AL α) (x y z : α) : α := L.m (L.m (L.j x y) (L.j y z)) (L.j z x)
def AL.a {α : Type} (L : AL α) (x y z : α) : α := L.j (L.m x (L.u x y z)) (L.d x y z)
theorem AL.d_rot {α : Type} (L : AL α) (x y z : α) : L.d y z x = L.d x y z := by
  unfold AL.d
  rw [L.jc (L.j (L.m y z) (L.m z x)) (L.m x y), L.ja]
theorem AL.u_rot {α : Type} (L : AL α) (x y z : α) : L.u y z x = L.u x y z := L.dual.d_rot x y z
theorem AL.d1 {α : Type} (L : AL α) (x y z : α) : L.le (L.m x y) (L.d x y z) := L.trans (L.jl _ _) (L.jl _ _)
theorem AL.d2 {α : Type} (L : AL α) (x y z : α) : L.le (L.m y z) (L.d x y z) := L.trans (L.jr _ _) (L.jl _ _)
theorem AL.d3 {α : Type} (L : AL α) (x y z : α) : L.le (L.m z x) (L.d x y z) := L.jr _ _
theorem AL.u1 {α : Type} (L : AL α) (x y z : α) : L.le (L.u x y z) (L.j x y) := L.trans (L.ml _ _) (L.ml _ _)
theorem AL.u2 {α : Type} (L : AL α) (x y z : α) : L.le (L.u x y z) (L.j y z) := L.trans (L.ml _ _) (L.mr _ _)
theorem AL.u3 {α : Type} (L : AL α) (x y z : α) : L.le (L.u x y z) (L.j z x) := L.mr _ _
theorem AL.du {α : Type} (L : AL α) (x y z : α) : L.le (L.d x y z) (L.u x y z) := by
  have p : ∀ a b c : α, L.le (L.m a b) (L.j a c) := fun a b c => L.trans (L.ml _ _) (L.jl _ _)
  have q : ∀ a b c : α, L.le (L.m a b) (L.j b c) := fun a b c => L.trans (L.mr _ _) (L.jl _ _)
  have p' : ∀ a b c : α, L.le (L.m a b) (L.j c a) := fun a b c => L.trans (L.ml _ _) (L.jr _ _)
  have q' : ∀ a b c : α, L.le (L.m a b) (L.j c b) := fun a b c => L.trans (L.mr _ _) (L.jr _ _)
  exact L.lub (L.lub (L.glb (L.glb (p _ _ _) (q _ _ _)) (p' _ _ _)) (L.glb (L.glb (p' _ _ _) (p _ _ _)) (q _ _ _))) (L.glb (L.glb (q _ _ _) (p' _ _ _)) (p _ _ _))
/-- In a modular one: a from above. -/
theorem AL.a_up {α : Type} {L : AL α} (h : L.Mod) (x y z : α) : L.a x y z = L.dual.a x y z := by
  have := h.at x (L.du x y z)
  show L.j (L.m x (L.u x y z)) (L.d x y z) = L.m (L.j x (L.d x y z)) (L.u x y z)
  rw [L.jc x, ← this, L.jc]
theorem AL.ab {α : Type} {L : AL α} (h : L.Mod) (x y z : α) : L.m (L.a x y z) (L.a y z x) = L.d x y z := by
  have hb : L.a y z x = L.m (L.j y (L.d x y z)) (L.u x y z) := by
    rw [L.a_up h]
    show L.m (L.j y (L.d y z x)) (L.u y z x) = _
    rw [L.d_rot, L.u_rot]
  have hdb : L.le (L.d x y z) (L.a y z x) := by
    have := L.jr (L.m y (L.u y z x)) (L.d y z x)
    rw [L.d_rot x y z] at this
    unfold AL.a
    rw [L.d_rot x y z]; exact this
  have h1 := h.at (L.m x (L.u x y z)) hdb
  have h2 : L.a x y z = L.j (L.d x y z) (L.m x (L.u x y z)) := L.jc _ _
  rw [h2, ← h1]
  refine L.anti (L.lub (L.refl _) ?_) (L.jl _ _)
  rw [hb]
  -- x and (y or x and z)
  have k1 : L.le (L.j y (L.d x y z)) (L.j y (L.m z x)) :=
    L.lub (L.jl _ _) (L.lub (L.lub (L.trans (L.mr _ _) (L.jl _ _)) (L.trans (L.ml _ _) (L.jl _ _))) (L.jr _ _))
  have k2 : L.le (L.m (L.m x (L.u x y z)) (L.m (L.j y (L.d x y z)) (L.u x y z))) (L.m (L.j (L.m z x) y) x) := by
    refine L.glb (L.trans (L.mr _ _) (L.trans (L.ml _ _) ?_)) (L.trans (L.ml _ _) (L.ml _ _))
    rw [L.jc (L.m z x) y]; exact k1
  refine L.trans k2 ?_
  rw [← h.at y (L.mr z x)]
  refine L.lub (L.d3 _ _ _) ?_
  rw [L.mc]; exact L.d1 _ _ _
theorem AL.abj {α : Type} {L : AL α} (h : L.Mod) (x y z : α) : L.j (L.a x y z) (L.a y z x) = L.u x y z := by
  have := AL.ab (L := L.dual) h.dual x y z
  rw [L.a_up h, L.a_up h]
  exact this

/-- BIRKHOFF. -/
theorem AL.birkhoff {α : Type} (L : AL α) : L.Dis ↔ (¬ ∃ x y z, L.Pen x y z) ∧ ¬ ∃ x y z, L.Dia x y z := by
  constructor
  · intro h
    refine ⟨L.dedekind.mp h.mod, ?_⟩
    rintro ⟨x, y, z, hxy, hxz, hyz, ⟨m1, m2⟩, j1, j2⟩
    exact hyz (h.one m1 j1)
  · rintro ⟨hp, hd⟩ x y z
    have h := L.dedekind.mpr hp
    apply Classical.byContradiction
    intro hne
    by_cases e : L.d x y z = L.u x y z
    · apply hne
      have k1 : L.m x (L.j y z) = L.m x (L.u x y z) := L.anti (L.glb (L.ml _ _) (L.glb (L.glb (L.trans (L.ml _ _) (L.jl _ _)) (L.mr _ _)) (L.trans (L.ml _ _) (L.jr _ _)))) (L.mm (L.refl _) (L.u2 _ _ _))
      rw [k1, ← e]
      have k2 : L.d x y z = L.j (L.j (L.m x y) (L.m z x)) (L.m y z) := by
        unfold AL.d
        rw [← L.ja, L.jc (L.m y z), L.ja]
      have k3 : L.le (L.j (L.m x y) (L.m z x)) x := L.lub (L.ml _ _) (L.mr _ _)
      rw [L.mc, k2, ← h.at (L.m y z) k3, L.mc x z]
      refine L.anti (L.lub (L.refl _) ?_) (L.jl _ _)
      exact L.trans (L.glb (L.mr _ _) (L.trans (L.ml _ _) (L.ml _ _))) (L.jl _ _)
    · apply hd
      have a1 := L.ab h x y z
      have a2 := L.ab h y z x
      have a3 := L.ab h z x y
      have b1 := L.abj h x y z
      have b2 := L.abj h y z x
      have b3 := L.abj h z x y
      rw [L.d_rot] at a2
      rw [L.d_rot, L.d_rot] at a3
      rw [L.u_rot] at b2
      rw [L.u_rot, L.u_rot] at b3
      rw [L.mc] at a3
      rw [L.jc] at b3
      refine ⟨L.a x y z, L.a y z x, L.a z x y, ?_, ?_, ?_, ⟨a1.trans a3.symm, a1.trans a2.symm⟩, b1.trans b3.symm, b1.trans b2.symm⟩
      · intro q; rw [← q, L.mi] at a1; rw [← q, L.ji] at b1; exact e (a1.symm.trans b1)
      · intro q; rw [← q, L.mi] at a3; rw [← q, L.ji] at b3; exact e (a3.symm.trans b3)
      · intro q; rw [← q, L.mi] at a2; rw [← q, L.ji] at b2; exact e (a2.symm.trans b2)
end Go.Proofs.YthhnngmfbbljaaaGreat
namespace Go.Proofs.YthhnngmfbbljaaaGreat
set_option maxRecDepth 100000

/-- Not so of any three that come ahead of x, y, z. -/
def No3 (n : Nat) (P : Nat → Nat → Nat → Bool) (x y z : Nat) : Prop :=
  ∀ a b c, a < n → b < n → c < n → (a < x ∨ (a = x ∧ (b < y ∨ (b = y ∧ c < z)))) → P a b c = false
theorem No3.zero (n : Nat) (P : Nat → Nat → Nat → Bool) : No3 n P 0 0 0 := fun a b c _ _ _ h => by omega
theorem No3.next {n : Nat} {P : Nat → Nat → Nat → Bool} {x y z : Nat} (h : No3 n P x y z) (h1 : P x y z = false) : No3 n P x y (z + 1) := fun a b c ha hb hc k => by
  by_cases e : a = x ∧ b = y ∧ c = z
  · obtain ⟨rfl, rfl, rfl⟩ := e; exact h1
  · exact h a b c ha hb hc (by omega)
theorem No3.y {n : Nat} {P : Nat → Nat → Nat → Bool} {x y : Nat} (h : No3 n P x y n) : No3 n P x (y + 1) 0 := fun a b c ha hb hc k => h a b c ha hb hc (by omega)
theorem No3.x {n : Nat} {P : Nat → Nat → Nat → Bool} {x : Nat} (h : No3 n P x n 0) : No3 n P (x + 1) 0 0 := fun a b c ha hb hc k => h a b c ha hb hc (by omega)
/-- The first three of which it is so; or there are none. -/
def First3 (n : Nat) (P : Nat → Nat → Nat → Bool) (l : List Nat) (ok : Bool) : Prop :=
  (ok = true ∧ ∃ x y z, (x < n ∧ y < n ∧ z < n) ∧ P x y z = true ∧ No3 n P x y z ∧ l = [x, y, z]) ∨ (ok = false ∧ l = [] ∧ ∀ x y z, x < n → y < n → z < n → P x y z = false)
theorem First3.one {n : Nat} {P : Nat → Nat → Nat → Bool} {l l' : List Nat} {ok ok' : Bool} (h : First3 n P l ok) (h' : First3 n P l' ok') : l = l' ∧ ok = ok' := by
  rcases h with ⟨rfl, x, y, z, ⟨hx, hy, hz⟩, hp, hu, rfl⟩ | ⟨rfl, rfl, hu⟩ <;> rcases h' with ⟨rfl, x', y', z', ⟨hx', hy', hz'⟩, hp', hu', rfl⟩ | ⟨rfl, rfl, hu'⟩
  · by_cases h1 : x < x' ∨ (x = x' ∧ (y < y' ∨ (y = y' ∧ z < z')))
    · have := hu' x y z hx hy hz h1; rw [hp] at this; cases this
    · by_cases h2 : x' < x ∨ (x' = x ∧ (y' < y ∨ (y' = y ∧ z' < z)))
      · have := hu x' y' z' hx' hy' hz' h2; rw [hp'] at this; cases this
      · obtain ⟨rfl, rfl, rfl⟩ : x = x' ∧ y = y' ∧ z = z' := by omega
        exact ⟨rfl, rfl⟩
  · have := hu' x y z hx hy hz; rw [hp] at this; cases this
  · have := hu x' y' z' hx' hy' hz'; rw [hp'] at this; cases this
  · exact ⟨rfl, rfl⟩
theorem First3.ok {n : Nat} {P : Nat → Nat → Nat → Bool} {l : List Nat} {ok : Bool} (h : First3 n P l ok) : ok = true ↔ ∃ x y z, x < n ∧ y < n ∧ z < n ∧ P x y z = true := by
  rcases h with ⟨rfl, x, y, z, ⟨hx, hy, hz⟩, hp, _, rfl⟩ | ⟨rfl, rfl, hu⟩
  · exact ⟨fun _ => ⟨x, y, z, hx, hy, hz, hp⟩, fun _ => rfl⟩
  · refine ⟨fun h => (by cases h), ?_⟩
    rintro ⟨x, y, z, hx, hy, hz, hp⟩
    have := hu x y z hx hy hz; rw [hp] at this; cases this
theorem First3.congr {n : Nat} {P Q : Nat → Nat → Nat → Bool} (h : ∀ x y z, x < n → y < n → z < n → P x y z = Q x y z) {l : List Nat} {ok : Bool} (hf : First3 n P l ok) : First3 n Q l ok := by
  rcases hf with ⟨rfl, x, y, z, ⟨hx, hy, hz⟩, hp, hu, rfl⟩ | ⟨rfl, rfl, hu⟩
  · exact .inl ⟨rfl, x, y, z, ⟨hx, hy, hz⟩, (h x y z hx hy hz) ▸ hp, fun a b c ha hb hc k => (h a b c ha hb hc) ▸ hu a b c ha hb hc k, rfl⟩
  · exact .inr ⟨rfl, rfl, fun x y z hx hy hz => (h x y z hx hy hz) ▸ hu x y z hx hy hz⟩
theorem First3.len {n : Nat} {P : Nat → Nat → Nat → Bool} {l : List Nat} {ok : Bool} (h : First3 n P l ok) : l.length ≤ 3 ∧ ((ok == (l.length == 3)) = true) := by
  rcases h with ⟨rfl, x, y, z, _, _, _, rfl⟩ | ⟨rfl, rfl, _⟩ <;> simp

/-- What must be of a table beside the other one. -/
def lawB (m j : Nat → Nat → Nat) (x y z : Nat) : Bool := m x x == x && (m x y == m y x && (m x (m y z) == m (m x y) z && m x (j x y) == x))
def Lws (n : Nat) (m j : Nat → Nat → Nat) : Prop := ∀ x y z, x < n → y < n → z < n → lawB m j x y z = true
theorem Lws.at {n : Nat} {m j : Nat → Nat → Nat} (h : Lws n m j) {x y z : Nat} (hx : x < n) (hy : y < n) (hz : z < n) : m x x = x ∧ m x y = m y x ∧ m x (m y z) = m (m x y) z ∧ m x (j x y) = x := by
  have := h x y z hx hy hz
  simpa [lawB] using this
theorem lws_iff {n : Nat} {m j : Nat → Nat → Nat} : Lws n m j ↔ ∀ x y z, x < n → y < n → z < n → m x x = x ∧ m x y = m y x ∧ m x (m y z) = m (m x y) z ∧ m x (j x y) = x :=
  ⟨fun h _ _ _ hx hy hz => h.at hx hy hz, fun h x y z hx hy hz => by simpa [lawB] using h x y z hx hy hz⟩
/-- All of a table are elements. -/
def Inn (n : Nat) (m : Nat → Nat → Nat) : Prop := ∀ x y, x < n → y < n → m x y < n
/-- A lattice told by its tables. -/
structure Lat (n : Nat) (m j : Nat → Nat → Nat) : Prop where
  im : Inn n m
  ij : Inn n j
  lm : Lws n m j
  lj : Lws n j m
theorem Lat.turn {n : Nat} {m j : Nat → Nat → Nat} (h : Lat n m j) : Lat n j m := ⟨h.ij, h.im, h.lj, h.lm⟩
/-- The same, over the elements alone. -/
def Lat.al {n : Nat} {m j : Nat → Nat → Nat} (h : Lat n m j) : AL (Fin n) where
  m := fun x y => ⟨m x.1 y.1, h.im _ _ x.2 y.2⟩
  j := fun x y => ⟨j x.1 y.1, h.ij _ _ x.2 y.2⟩
  mi := fun x => Fin.ext (h.lm.at x.2 x.2 x.2).1
  ji := fun x => Fin.ext (h.lj.at x.2 x.2 x.2).1
  mc := fun x y => Fin.ext (h.lm.at x.2 y.2 x.2).2.1
  jc := fun x y => Fin.ext (h.lj.at x.2 y.2 x.2).2.1
  ma := fun x y z => Fin.ext (h.lm.at x.2 y.2 z.2).2.2.1
  ja := fun x y z => Fin.ext (h.lj.at x.2 y.2 z.2).2.2.1
  mj := fun x y => Fin.ext (h.lm.at x.2 y.2 x.2).2.2.2
  jm := fun x y => Fin.ext (h.lj.at x.2 y.2 x.2).2.2.2

def modB (m j : Nat → Nat → Nat) (x y z : Nat) : Bool := !(m x z == x) || j x (m y z) == m (j x y) z
def disB (m j : Nat → Nat → Nat) (x y z : Nat) : Bool := m x (j y z) == j (m x y) (m x z)
def penB (m j : Nat → Nat → Nat) (x y z : Nat) : Bool := (!(x == y) && m x y == x) && (m x z == m y z && j x z == j y z)
def diaB (m j : Nat → Nat → Nat) (x y z : Nat) : Bool := !(x == y) && (!(x == z) && (!(y == z) && ((m x y == m x z && m x y == m y z) && (j x y == j x z && j x y == j y z))))
def All3 (n : Nat) (P : Nat → Nat → Nat → Bool) : Prop := ∀ x y z, x < n → y < n → z < n → P x y z = true
def Some3 (n : Nat) (P : Nat → Nat → Nat → Bool) : Prop := ∃ x y z, x < n ∧ y < n ∧ z < n ∧ P x y z = true
theorem Lat.mod {n : Nat} {m j : Nat → Nat → Nat} (h : Lat n m j) : h.al.Mod ↔ All3 n (modB m j) := by
  constructor
  · intro k x y z hx hy hz
    rcases k ⟨x, hx⟩ ⟨y, hy⟩ ⟨z, hz⟩ with k | k
    · have : m x z ≠ x := fun e => k (Fin.ext e)
      simp [modB, this]
    · have := congrArg Fin.val k
      have : j x (m y z) = m (j x y) z := this
      simp [modB, this]
  · intro k x y z
    have := k x.1 y.1 z.1 x.2 y.2 z.2
    simp only [modB, Bool.or_eq_true, Bool.not_eq_true', beq_eq_false_iff_ne, beq_iff_eq] at this
    rcases this with q | q
    · exact .inl fun e => q (congrArg Fin.val e)
    · exact .inr (Fin.ext q)
theorem Lat.dis {n : Nat} {m j : Nat → Nat → Nat} (h : Lat n m j) : h.al.Dis ↔ All3 n (disB m j) := by
  constructor
  · intro k x y z hx hy hz
    have := congrArg Fin.val (k ⟨x, hx⟩ ⟨y, hy⟩ ⟨z, hz⟩)
    exact beq_iff_eq.mpr this
  · intro k x y z
    exact Fin.ext (beq_iff_eq.mp (k x.1 y.1 z.1 x.2 y.2 z.2))
theorem Lat.pen {n : Nat} {m j : Nat → Nat → Nat} (h : Lat n m j) : (∃ x y z, h.al.Pen x y z) ↔ Some3 n (penB m j) := by
  constructor
  · rintro ⟨x, y, z, ⟨h1, h2⟩, h3, h4⟩
    refine ⟨x.1, y.1, z.1, x.2, y.2, z.2, ?_⟩
    have e1 : x.1 ≠ y.1 := fun e => h1 (Fin.ext e)
    have e2 : m x.1 y.1 = x.1 := congrArg Fin.val h2
    have e3 : m x.1 z.1 = m y.1 z.1 := congrArg Fin.val h3
    have e4 : j x.1 z.1 = j y.1 z.1 := congrArg Fin.val h4
    simp [penB, e1, e2, e3, e4]
  · rintro ⟨x, y, z, hx, hy, hz, k⟩
    simp only [penB, Bool.and_eq_true, Bool.not_eq_true', beq_eq_false_iff_ne, beq_iff_eq] at k
    obtain ⟨⟨h1, h2⟩, h3, h4⟩ := k
    exact ⟨⟨x, hx⟩, ⟨y, hy⟩, ⟨z, hz⟩, ⟨fun e => h1 (congrArg Fin.val e), Fin.ext h2⟩, Fin.ext h3, Fin.ext h4⟩
theorem Lat.dia {n : Nat} {m j : Nat → Nat → Nat} (h : Lat n m j) : (∃ x y z, h.al.Dia x y z) ↔ Some3 n (diaB m j) := by
  constructor
  · rintro ⟨x, y, z, h1, h2, h3, ⟨h4, h5⟩, h6, h7⟩
    refine ⟨x.1, y.1, z.1, x.2, y.2, z.2, ?_⟩
    have e1 : x.1 ≠ y.1 := fun e => h1 (Fin.ext e)
    have e2 : x.1 ≠ z.1 := fun e => h2 (Fin.ext e)
    have e3 : y.1 ≠ z.1 := fun e => h3 (Fin.ext e)
    have e4 : m x.1 y.1 = m x.1 z.1 := congrArg Fin.val h4
    have e5 : m x.1 y.1 = m y.1 z.1 := congrArg Fin.val h5
    have e6 : j x.1 y.1 = j x.1 z.1 := congrArg Fin.val h6
    have e7 : j x.1 y.1 = j y.1 z.1 := congrArg Fin.val h7
    simp only [diaB, Bool.and_eq_true, Bool.not_eq_true', beq_eq_false_iff_ne, beq_iff_eq]
    exact ⟨e1, e2, e3, ⟨e4, e5⟩, e6, e7⟩
  · rintro ⟨x, y, z, hx, hy, hz, k⟩
    simp only [diaB, Bool.and_eq_true, Bool.not_eq_true', beq_eq_false_iff_ne, beq_iff_eq] at k
    obtain ⟨h1, h2, h3, ⟨h4, h5⟩, h6, h7⟩ := k
    exact ⟨⟨x, hx⟩, ⟨y, hy⟩, ⟨z, hz⟩, fun e => h1 (congrArg Fin.val e), fun e => h2 (congrArg Fin.val e), fun e => h3 (congrArg Fin.val e), ⟨Fin.ext h4, Fin.ext h5⟩, Fin.ext h6, Fin.ext h7⟩
theorem Lat.dedekind {n : Nat} {m j : Nat → Nat → Nat} (h : Lat n m j) : All3 n (modB m j) ↔ ¬ Some3 n (penB m j) := by
  rw [← h.mod, ← h.pen]; exact h.al.dedekind
theorem Lat.mod_turn {n : Nat} {m j : Nat → Nat → Nat} (h : Lat n m j) : All3 n (modB m j) ↔ All3 n (modB j m) := by
  rw [← h.mod, ← h.turn.mod]; exact h.al.mod_dual
theorem Lat.birkhoff {n : Nat} {m j : Nat → Nat → Nat} (h : Lat n m j) : All3 n (disB m j) ↔ ¬ Some3 n (penB m j) ∧ ¬ Some3 n (diaB m j) := by
  rw [← h.dis, ← h.pen, ← h.dia]; exact h.al.birkhoff
theorem Lat.dis_turn {n : Nat} {m j : Nat → Nat → Nat} (h : Lat n m j) : All3 n (disB m j) ↔ All3 n (disB j m) := by
  rw [← h.dis, ← h.turn.dis]; exact h.al.dis_dual
theorem Lat.dis_mod {n : Nat} {m j : Nat → Nat → Nat} (h : Lat n m j) (k : All3 n (disB m j)) : All3 n (modB m j) :=
  h.mod.mp (h.dis.mpr k).mod
theorem Lat.one {n : Nat} {m j : Nat → Nat → Nat} (h : Lat n m j) (k : All3 n (disB m j)) {x y z : Nat} (hx : x < n) (hy : y < n) (hz : z < n) (e1 : m x y = m x z) (e2 : j x y = j x z) : y = z := by
  have := (h.dis.mpr k).one (x := ⟨x, hx⟩) (y := ⟨y, hy⟩) (z := ⟨z, hz⟩) (Fin.ext e1) (Fin.ext e2)
  exact congrArg Fin.val this
end Go.Proofs.YthhnngmfbbljaaaGreat
