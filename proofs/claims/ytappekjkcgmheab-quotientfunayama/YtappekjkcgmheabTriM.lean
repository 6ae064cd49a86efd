/-
  Plain facts on the first three elements of which something is so, and on lattices told by tables. No condition.
-/
import Derived.Test.YtappekjkcgmheabLatM
namespace Go.Proofs.Ytappekjkcgmheab

/-- Not so of any three that come ahead of x, y, z. -/
def No3 (n : Nat) (P : Nat → Nat → Nat → Bool) (x y z : Nat) : Prop :=
  ∀ a b c, a < n → b < n → c < n → (a < x ∨ (a = x ∧ (b < y ∨ (b = y ∧ c < z)))) → P a b c = false
theorem No3.zero (n : Nat) (P : Nat → Nat → Nat → Bool) : No3 n P 0 0 0 := fun a b c _ _ _ h => by omega
theorem No3.next {n : Nat} {P : Nat → Nat → Nat → Bool} {x y z : Nat} (h : No3 n P x y z) (h1 : P x y z = false) : No3 n P x y (z + 1) := fun a b c ha hb hc k => by
  by_cases e : a = x ∧ b = y ∧ c = z
  · obtain ⟨rfl, rfl, rfl⟩ := e; exact h1
  · exact h a b c ha hb hc (by omega)
theorem No3.y {n : Nat} {P : Nat → Nat → Nat → Bool} {x y : Nat} (h : No3 n P x y n) : No3 n P x (y + 1) 0 := fun a b c ha hb hc k => h a b c ha hb hc (by omega)
theorem No3.x {n : Nat} {P : Nat → Nat → Nat → Bool} {x : Nat} (h : No3 n P x n 0) : No3 n P (x + 1) 0 0 := fun a b c ha hb hc k => h a b c ha hb hc (by omega)
/-- The first three of which it is so; or there are none. -/
def First3 (n : Nat) (P : Nat → Nat → Nat → Bool) (l : List Nat) (ok : Bool) : Prop :=
  (ok = true ∧ ∃ x y z, (x < n ∧ y < n ∧ z < n) ∧ P x y z = true ∧ No3 n P x y z ∧ l = [x, y, z]) ∨ (ok = false ∧ l = [] ∧ ∀ x y z, x < n → y < n → z < n → P x y z = false)
theorem First3.one {n : Nat} {P : Nat → Nat → Nat → Bool} {l l' : List Nat} {ok ok' : Bool} (h : First3 n P l ok) (h' : First3 n P l' ok') : l = l' ∧ ok = ok' := by
  rcases h with ⟨rfl, x, y, z, ⟨hx, hy, hz⟩, hp, hu, rfl⟩ | ⟨rfl, rfl, hu⟩ <;> rcases h' with ⟨rfl, x', y', z', ⟨hx', hy', hz'⟩, hp', hu', rfl⟩ | ⟨rfl, rfl, hu'⟩
  · by_cases h1 : x < x' ∨ (x = x' ∧ (y < y' ∨ (y = y' ∧ z < z')))
    · have := hu' x y z hx hy hz h1; rw [hp] at this; cases this
    · by_cases h2 : x' < x ∨ (x' = x ∧ (y' < y ∨ (y' = y ∧ z' < z)))
      · have := hu x' y' z' hx' hy' hz' h2; rw [hp'] at this; cases this
      · obtain ⟨rfl, rfl, rfl⟩ : x = x' ∧ y = y' ∧ z = z' := by omega
        exact ⟨rfl, rfl⟩
  · have := hu' x y z hx hy hz; rw [hp] at this; cases this
  · have := hu x' y' z' hx' hy' hz'; rw [hp'] at this; cases this
  · exact ⟨rfl, rfl⟩
theorem First3.ok {n : Nat} {P : Nat → Nat → Nat → Bool} {l : List Nat} {ok : Bool} (h : First3 n P l ok) : ok = true ↔ ∃ x y z, x < n ∧ y < n ∧ z < n ∧ P x y z = true := by
  rcases h with ⟨rfl, x, y, z, ⟨hx, hy, hz⟩, hp, _, rfl⟩ | ⟨rfl, rfl, hu⟩
  · exact ⟨fun _ => ⟨x, y, z, hx, hy, hz, hp⟩, fun _ => rfl⟩
  · refine ⟨fun h => (by cases h), ?_⟩
    rintro ⟨x, y, z, hx, hy, hz, hp⟩
    have := hu x y z hx hy hz; rw [hp] at this; cases this
theorem First3.congr {n : Nat} {P Q : Nat → Nat → Nat → Bool} (h : ∀ x y z, x < n → y < n → z < n → P x y z = Q x y z) {l : List Nat} {ok : Bool} (hf : First3 n P l ok) : First3 n Q l ok := by
  rcases hf with ⟨rfl, x, y, z, ⟨hx, hy, hz⟩, hp, hu, rfl⟩ | ⟨rfl, rfl, hu⟩
  · exact .inl ⟨rfl, x, y, z, ⟨hx, hy, hz⟩, (h x y z hx hy hz) ▸ hp, fun a b c ha hb hc k => (h a b c ha hb hc) ▸ hu a b c ha hb hc k, rfl⟩
  · exact .inr ⟨rfl, rfl, fun x y z hx hy hz => (h x y z hx hy hz) ▸ hu x y z hx hy hz⟩
theorem First3.len {n : Nat} {P : Nat → Nat → Nat → Bool} {l : List Nat} {ok : Bool} (h : First3 n P l ok) : l.length ≤ 3 ∧ ((ok == (l.length == 3)) = true) := by
  rcases h with ⟨rfl, x, y, z, _, _, _, rfl⟩ | ⟨rfl, rfl, _⟩ <;> simp

/-- What must be of a table beside the other one. -/
def lawB (m j : Nat → Nat → Nat) (x y z : Nat) : Bool := m x x == x && (m x y == m y x && (m x (m y z) == m (m x y) z && m x (j x y) == x))
def Lws (n : Nat) (m j : Nat → Nat → Nat) : Prop := ∀ x y z, x < n → y < n → z < n → lawB m j x y z = true
theorem Lws.at {n : Nat} {m j : Nat → Nat → Nat} (h : Lws n m j) {x y z : Nat} (hx : x < n) (hy : y < n) (hz : z < n) : m x x = x ∧ m x y = m y x ∧ m x (m y z) = m (m x y) z ∧ m x (j x y) = x := by
  have := h x y z hx hy hz
  simpa [lawB] using this
theorem lws_iff {n : Nat} {m j : Nat → Nat → Nat} : Lws n m j ↔ ∀ x y z, x < n → y < n → z < n → m x x = x ∧ m x y = m y x ∧ m x (m y z) = m (m x y) z ∧ m x (j x y) = x :=
  ⟨fun h _ _ _ hx hy hz => h.at hx hy hz, fun h x y z hx hy hz => by simpa [lawB] using h x y z hx hy hz⟩
/-- All of a table are elements. -/
def Inn (n : Nat) (m : Nat → Nat → Nat) : Prop := ∀ x y, x < n → y < n → m x y < n
/-- A lattice told by its tables. -/
structure Lat (n : Nat) (m j : Nat → Nat → Nat) : Prop where
  im : Inn n m
  ij : Inn n j
  lm : Lws n m j
  lj : Lws n j m
theorem Lat.turn {n : Nat} {m j : Nat → Nat → Nat} (h : Lat n m j) : Lat n j m := ⟨h.ij, h.im, h.lj, h.lm⟩
/-- The same, over the elements alone. -/
def Lat.al {n : Nat} {m j : Nat → Nat → Nat} (h : Lat n m j) : AL (Fin n) where
  m := fun x y => ⟨m x.1 y.1, h.im _ _ x.2 y.2⟩
  j := fun x y => ⟨j x.1 y.1, h.ij _ _ x.2 y.2⟩
  mi := fun x => Fin.ext (h.lm.at x.2 x.2 x.2).1
  ji := fun x => Fin.ext (h.lj.at x.2 x.2 x.2).1
  mc := fun x y => Fin.ext (h.lm.at x.2 y.2 x.2).2.1
  jc := fun x y => Fin.ext (h.lj.at x.2 y.2 x.2).2.1
  ma := fun x y z => Fin.ext (h.lm.at x.2 y.2 z.2).2.2.1
  ja := fun x y z => Fin.ext (h.lj.at x.2 y.2 z.2).2.2.1
  mj := fun x y => Fin.ext (h.lm.at x.2 y.2 x.2).2.2.2
  jm := fun x y => Fin.ext (h.lj.at x.2 y.2 x.2).2.2.2

def modB (m j : Nat → Nat → Nat) (x y z : Nat) : Bool := !(m x z == x) || j x (m y z) == m (j x y) z
def disB (m j : Nat → Nat → Nat) (x y z : Nat) : Bool := m x (j y z) == j (m x y) (m x z)
def penB (m j : Nat → Nat → Nat) (x y z : Nat) : Bool := (!(x == y) && m x y == x) && (m x z == m y z && j x z == j y z)
def diaB (m j : Nat → Nat → Nat) (x y z : Nat) : Bool := !(x == y) && (!(x == z) && (!(y == z) && ((m x y == m x z && m x y == m y z) && (j x y == j x z && j x y == j y z))))
def All3 (n : Nat) (P : Nat → Nat → Nat → Bool) : Prop := ∀ x y z, x < n → y < n → z < n → P x y z = true
def Some3 (n : Nat) (P : Nat → Nat → Nat → Bool) : Prop := ∃ x y z, x < n ∧ y < n ∧ z < n ∧ P x y z = true
theorem Lat.mod {n : Nat} {m j : Nat → Nat → Nat} (h : Lat n m j) : h.al.Mod ↔ All3 n (modB m j) := by
  constructor
  · intro k x y z hx hy hz
    rcases k ⟨x, hx⟩ ⟨y, hy⟩ ⟨z, hz⟩ with k | k
    · have : m x z ≠ x := fun e => k (Fin.ext e)
      simp [modB, this]
    · have := congrArg Fin.val k
      have : j x (m y z) = m (j x y) z := this
      simp [modB, this]
  · intro k x y z
    have := k x.1 y.1 z.1 x.2 y.2 z.2
    simp only [modB, Bool.or_eq_true, Bool.not_eq_true', beq_eq_false_iff_ne, beq_iff_eq] at this
    rcases this with q | q
    · exact .inl fun e => q (congrArg Fin.val e)
    · exact .inr (Fin.ext q)
theorem Lat.dis {n : Nat} {m j : Nat → Nat → Nat} (h : Lat n m j) : h.al.Dis ↔ All3 n (disB m j) := by
  constructor
  · intro k x y z hx hy hz
    have := congrArg Fin.val (k ⟨x, hx⟩ ⟨y, hy⟩ ⟨z, hz⟩)
    exact beq_iff_eq.mpr this
  · intro k x y z
    exact Fin.ext (beq_iff_eq.mp (k x.1 y.1 z.1 x.2 y.2 z.2))
theorem Lat.pen {n : Nat} {m j : Nat → Nat → Nat} (h : Lat n m j) : (∃ x y z, h.al.Pen x y z) ↔ Some3 n (penB m j) := by
  constructor
  · rintro ⟨x, y, z, ⟨h1, h2⟩, h3, h4⟩
    refine ⟨x.1, y.1, z.1, x.2, y.2, z.2, ?_⟩
    have e1 : x.1 ≠ y.1 := fun e => h1 (Fin.ext e)
    have e2 : m x.1 y.1 = x.1 := congrArg Fin.val h2
    have e3 : m x.1 z.1 = m y.1 z.1 := congrArg Fin.val h3
    have e4 : j x.1 z.1 = j y.1 z.1 := congrArg Fin.val h4
    simp [penB, e1, e2, e3, e4]
  · rintro ⟨x, y, z, hx, hy, hz, k⟩
    simp only [penB, Bool.and_eq_true, Bool.not_eq_true', beq_eq_false_iff_ne, beq_iff_eq] at k
    obtain ⟨⟨h1, h2⟩, h3, h4⟩ := k
    exact ⟨⟨x, hx⟩, ⟨y, hy⟩, ⟨z, hz⟩, ⟨fun e => h1 (congrArg Fin.val e), Fin.ext h2⟩, Fin.ext h3, Fin.ext h4⟩
theorem Lat.dia {n : Nat} {m j : Nat → Nat → Nat} (h : Lat n m j) : (∃ x y z, h.al.Dia x y z) ↔ Some3 n (diaB m j) := by
  constructor
  · rintro ⟨x, y, z, h1, h2, h3, ⟨h4, h5⟩, h6, h7⟩
    refine ⟨x.1, y.1, z.1, x.2, y.2, z.2, ?_⟩
    have e1 : x.1 ≠ y.1 := fun e => h1 (Fin.ext e)
    have e2 : x.1 ≠ z.1 := fun e => h2 (Fin.ext e)
    have e3 : y.1 ≠ z.1 := fun e => h3 (Fin.ext e)
    have e4 : m x.1 y.1 = m x.1 z.1 := congrArg Fin.val h4
    have e5 : m x.1 y.1 = m y.1 z.1 := congrArg Fin.val h5
    have e6 : j x.1 y.1 = j x.1 z.1 := congrArg Fin.val h6
    have e7 : j x.1 y.1 = j y.1 z.1 := congrArg Fin.val h7
    simp only [diaB, Bool.and_eq_true, Bool.not_eq_true', beq_eq_false_iff_ne, beq_iff_eq]
    exact ⟨e1, e2, e3, ⟨e4, e5⟩, e6, e7⟩
  · rintro ⟨x, y, z, hx, hy, hz, k⟩
    simp only [diaB, Bool.and_eq_true, Bool.not_eq_true', beq_eq_false_iff_ne, beq_iff_eq] at k
    obtain ⟨h1, h2, h3, ⟨h4, h5⟩, h6, h7⟩ := k
    exact ⟨⟨x, hx⟩, ⟨y, hy⟩, ⟨z, hz⟩, fun e => h1 (congrArg Fin.val e), fun e => h2 (congrArg Fin.val e), fun e => h3 (congrArg Fin.val e), ⟨Fin.ext h4, Fin.ext h5⟩, Fin.ext h6, Fin.ext h7⟩
theorem Lat.dedekind {n : Nat} {m j : Nat → Nat → Nat} (h : Lat n m j) : All3 n (modB m j) ↔ ¬ Some3 n (penB m j) := by
  rw [← h.mod, ← h.pen]; exact h.al.dedekind
theorem Lat.mod_turn {n : Nat} {m j : Nat → Nat → Nat} (h : Lat n m j) : All3 n (modB m j) ↔ All3 n (modB j m) := by
  rw [← h.mod, ← h.turn.mod]; exact h.al.mod_dual
theorem Lat.birkhoff {n : Nat} {m j : Nat → Nat → Nat} (h : Lat n m j) : All3 n (disB m j) ↔ ¬ Some3 n (penB m j) ∧ ¬ Some3 n (diaB m j) := by
  rw [← h.dis, ← h.pen, ← h.dia]; exact h.al.birkhoff
theorem Lat.dis_turn {n : Nat} {m j : Nat → Nat → Nat} (h : Lat n m j) : All3 n (disB m j) ↔ All3 n (disB j m) := by
  rw [← h.dis, ← h.turn.dis]; exact h.al.dis_dual
theorem Lat.dis_mod {n : Nat} {m j : Nat → Nat → Nat} (h : Lat n m j) (k : All3 n (disB m j)) : All3 n (modB m j) :=
  h.mod.mp (h.dis.mpr k).mod
theorem Lat.one {n : Nat} {m j : Nat → Nat → Nat} (h : Lat n m j) (k : All3 n (disB m j)) {x y z : Nat} (hx : x < n) (hy : y < n) (hz : z < n) (e1 : m x y = m x z) (e2 : j x y = j x z) : y = z := by
  have := (h.dis.mpr k).one (x := ⟨x, hx⟩) (y := ⟨y, hy⟩) (z := ⟨z, hz⟩) (Fin.ext e1) (Fin.ext e2)
  exact congrArg Fin.val this
end Go.Proofs.Ytappekjkcgmheab
