/-
  Plain facts on formulas: how many are in one another, and what is wrong with one. No condition.
-/
import Derived.Test.YtibnadbobijjpaaRows
namespace Go.Proofs.Ytibnadbobijjpaa

/-- A formula: its kind, its variable, and what is in it (the leaf is none: it fills the places behind). -/
structure FT where
  node ::
  d : Option (Int × Int × Nat)
  kids : Nat → d.isSome = true → FT
abbrev FT.leaf : FT := .node none (fun _ h => absurd h (by decide))
abbrev FT.mk (k x : Int) (n : Nat) (kid : Nat → FT) : FT := .node (some (k, x, n)) (fun i _ => kid i)
theorem FT.ind {P : FT → Prop} (leaf : P .leaf) (mk : ∀ (k x : Int) (n : Nat) (kid : Nat → FT), (∀ i, P (kid i)) → P (.mk k x n kid)) : ∀ T, P T
  | .node none kids => by
    have e : kids = fun _ h => absurd h (by decide) := by funext _ h; exact absurd h (by decide)
    rw [e]; exact leaf
  | .node (some (k, x, n)) kids => mk k x n (fun i => kids i rfl) (fun i => FT.ind leaf mk (kids i rfl))
def foldI (f : Nat → Int → Int) (s : Int) : Nat → Int
  | 0 => s
  | i + 1 => f i (foldI f s i)
def foldN (f : Nat → Nat → Nat) (s : Nat) : Nat → Nat
  | 0 => s
  | i + 1 => f i (foldN f s i)
/-- How many formulas are left of m. -/
def lf : FT → Int → Int
  | .node none _, m => m - 1
  | .node (some (_, _, n)) kid, m => foldI (fun i a => if a < 0 then a else lf (kid i rfl) a) (m - 1) n
/-- How many there are. -/
def sz : FT → Nat
  | .node none _ => 1
  | .node (some (_, _, n)) kid => foldN (fun i a => a + sz (kid i rfl)) 1 n
/-- The reference's count. -/
def fc : FT → Int → Int
  | .node none _, m => if m < 1 then m + 1 else 1
  | .node (some (_, _, n)) kid, m => if m < foldI (fun i a => if a ≤ m then a + fc (kid i rfl) (m - a) else a) 1 n then m + 1 else foldI (fun i a => if a ≤ m then a + fc (kid i rfl) (m - a) else a) 1 n
/-- What is wrong. -/
def cf : FT → Int
  | .node none _ => 0
  | .node (some (k, x, n)) kid => if k < 1 ∨ 5 < k then 7 else if (k < 3 ∧ n ≠ 0) ∨ (3 ≤ k ∧ n ≠ 2) then 1 else if x < 0 ∨ 2 < x ∨ (k ≠ 2 ∧ x ≠ 0) then 3 else foldI (fun i e => if e ≠ 0 then e else cf (kid i rfl)) 0 n
def lfK (kid : Nat → FT) (m : Int) (i : Nat) : Int := foldI (fun i a => if a < 0 then a else lf (kid i) a) (m - 1) i
def szK (kid : Nat → FT) (i : Nat) : Nat := foldN (fun i a => a + sz (kid i)) 1 i
def fcK (kid : Nat → FT) (m : Int) (i : Nat) : Int := foldI (fun i a => if a ≤ m then a + fc (kid i) (m - a) else a) 1 i
def cfK (kid : Nat → FT) (i : Nat) : Int := foldI (fun i e => if e ≠ 0 then e else cf (kid i)) 0 i
theorem lf_eq (k x : Int) (n : Nat) (kid : Nat → FT) (m : Int) : lf (.mk k x n kid) m = lfK kid m n := rfl
theorem sz_eq (k x : Int) (n : Nat) (kid : Nat → FT) : sz (.mk k x n kid) = szK kid n := rfl
theorem fc_eq (k x : Int) (n : Nat) (kid : Nat → FT) (m : Int) : fc (.mk k x n kid) m = if m < fcK kid m n then m + 1 else fcK kid m n := rfl
theorem cf_eq (k x : Int) (n : Nat) (kid : Nat → FT) : cf (.mk k x n kid) = if k < 1 ∨ 5 < k then 7 else if (k < 3 ∧ n ≠ 0) ∨ (3 ≤ k ∧ n ≠ 2) then 1 else if x < 0 ∨ 2 < x ∨ (k ≠ 2 ∧ x ≠ 0) then 3 else cfK kid n := rfl
theorem lfK_succ (kid : Nat → FT) (m : Int) (i : Nat) : lfK kid m (i + 1) = if lfK kid m i < 0 then lfK kid m i else lf (kid i) (lfK kid m i) := rfl
theorem szK_succ (kid : Nat → FT) (i : Nat) : szK kid (i + 1) = szK kid i + sz (kid i) := rfl
theorem fcK_succ (kid : Nat → FT) (m : Int) (i : Nat) : fcK kid m (i + 1) = if fcK kid m i ≤ m then fcK kid m i + fc (kid i) (m - fcK kid m i) else fcK kid m i := rfl
theorem cfK_succ (kid : Nat → FT) (i : Nat) : cfK kid (i + 1) = if cfK kid i ≠ 0 then cfK kid i else cf (kid i) := rfl
theorem szK_mono (kid : Nat → FT) : ∀ i, 1 ≤ szK kid i
  | 0 => Nat.le_refl _
  | i + 1 => by rw [szK_succ]; have := szK_mono kid i; omega
theorem lfK_spec {kid : Nat → FT} (ih : ∀ i m, 0 ≤ m → ((sz (kid i) : Int) ≤ m → lf (kid i) m = m - sz (kid i)) ∧ (m < sz (kid i) → lf (kid i) m < 0) ∧ -1 ≤ lf (kid i) m ∧ lf (kid i) m ≤ m) {m : Int} (hm : 0 ≤ m) :
    ∀ i, ((szK kid i : Int) ≤ m → lfK kid m i = m - szK kid i) ∧ (m < szK kid i → lfK kid m i < 0) ∧ -1 ≤ lfK kid m i ∧ lfK kid m i ≤ m
  | 0 => by
    have e1 : szK kid 0 = 1 := rfl
    have e2 : lfK kid m 0 = m - 1 := rfl
    rw [e1, e2]
    exact ⟨fun _ => rfl, fun h => by omega, by omega, by omega⟩
  | i + 1 => by
    obtain ⟨h1, h2, h3, h4⟩ := lfK_spec ih hm i
    rw [lfK_succ, szK_succ]
    by_cases h : lfK kid m i < 0
    · rw [if_pos h]
      refine ⟨fun q => ?_, fun _ => h, h3, h4⟩
      have := h1 (by omega)
      omega
    · rw [if_neg h]
      have hs : (szK kid i : Int) ≤ m := by
        rcases Int.lt_or_le m (szK kid i : Int) with q | q
        · exact absurd (h2 q) h
        · exact q
      have e := h1 hs
      obtain ⟨k1, k2, k3, k4⟩ := ih i (lfK kid m i) (by omega)
      refine ⟨fun q => ?_, fun q => k2 (by omega), k3, by omega⟩
      rw [k1 (by omega)]; omega
theorem lf_spec : ∀ (T : FT) (m : Int), 0 ≤ m → ((sz T : Int) ≤ m → lf T m = m - sz T) ∧ (m < sz T → lf T m < 0) ∧ -1 ≤ lf T m ∧ lf T m ≤ m := by
  intro T
  induction T using FT.ind with
  | leaf =>
    intro m hm
    show (((1 : Nat) : Int) ≤ m → m - 1 = m - ((1 : Nat) : Int)) ∧ (m < ((1 : Nat) : Int) → m - 1 < 0) ∧ -1 ≤ m - 1 ∧ m - 1 ≤ m
    exact ⟨fun _ => rfl, fun h => by omega, by omega, by omega⟩
  | mk k x n kid IHK =>
    intro m hm
    rw [lf_eq, sz_eq]
    exact lfK_spec (fun i m h => IHK i m h) hm n
theorem lfK_bound {kid : Nat → FT} {m : Int} (hm : 0 ≤ m) (i : Nat) : -1 ≤ lfK kid m i ∧ lfK kid m i ≤ m := (lfK_spec (fun i m h => lf_spec (kid i) m h) hm i).2.2
theorem fcK_spec {kid : Nat → FT} (ih : ∀ i m, 0 ≤ m → ((sz (kid i) : Int) ≤ m → fc (kid i) m = sz (kid i)) ∧ (m < sz (kid i) → fc (kid i) m = m + 1)) {m : Int} (hm : 0 ≤ m) :
    ∀ i, ((szK kid i : Int) ≤ m → fcK kid m i = szK kid i) ∧ (m < szK kid i → fcK kid m i = m + 1)
  | 0 => by
    have e1 : szK kid 0 = 1 := rfl
    have e2 : fcK kid m 0 = 1 := rfl
    rw [e1, e2]
    exact ⟨fun _ => rfl, fun h => by omega⟩
  | i + 1 => by
    obtain ⟨h1, h2⟩ := fcK_spec ih hm i
    rw [fcK_succ, szK_succ]
    by_cases h : fcK kid m i ≤ m
    · rw [if_pos h]
      have hs : (szK kid i : Int) ≤ m := by
        rcases Int.lt_or_le m (szK kid i : Int) with q | q
        · have := h2 q; omega
        · exact q
      have e := h1 hs
      obtain ⟨k1, k2⟩ := ih i (m - fcK kid m i) (by omega)
      refine ⟨fun q => ?_, fun q => ?_⟩
      · rw [k1 (by omega)]; omega
      · rw [k2 (by omega)]; omega
    · rw [if_neg h]
      have hs : m < (szK kid i : Int) := by
        rcases Int.lt_or_le m (szK kid i : Int) with q | q
        · exact q
        · have := h1 q; omega
      refine ⟨fun q => by omega, fun _ => h2 hs⟩
theorem fc_spec : ∀ (T : FT) (m : Int), 0 ≤ m → ((sz T : Int) ≤ m → fc T m = sz T) ∧ (m < sz T → fc T m = m + 1) := by
  intro T
  induction T using FT.ind with
  | leaf =>
    intro m hm
    show (((1 : Nat) : Int) ≤ m → (if m < 1 then m + 1 else 1) = ((1 : Nat) : Int)) ∧ (m < ((1 : Nat) : Int) → (if m < 1 then m + 1 else 1) = m + 1)
    exact ⟨fun h => by rw [if_neg (by omega)]; rfl, fun h => by rw [if_pos (by omega)]⟩
  | mk k x n kid IHK =>
    intro m hm
    obtain ⟨h1, h2⟩ := fcK_spec (fun i m h => IHK i m h) hm n
    rw [fc_eq, sz_eq]
    refine ⟨fun q => ?_, fun q => ?_⟩
    · rw [h1 q, if_neg (by omega)]
    · rw [h2 q, if_pos (by omega)]
theorem fcK_bound {kid : Nat → FT} {m : Int} (hm : 0 ≤ m) (i : Nat) : 1 ≤ fcK kid m i ∧ fcK kid m i ≤ m + 1 := by
  obtain ⟨h1, h2⟩ := fcK_spec (fun i m h => fc_spec (kid i) m h) hm i
  have := szK_mono kid i
  rcases Int.lt_or_le m (szK kid i : Int) with q | q
  · have := h2 q; omega
  · have := h1 q; omega
/-- The two counts tell the same. -/
theorem many_iff (T : FT) : lf T 30 < 0 ↔ 30 < fc T 30 := by
  obtain ⟨h1, h2, _, _⟩ := lf_spec T 30 (by decide)
  obtain ⟨k1, k2⟩ := fc_spec T 30 (by decide)
  rcases Int.lt_or_le 30 (sz T : Int) with q | q
  · have := h2 q; have := k2 q; omega
  · have := h1 q; have := k1 q; omega
end Go.Proofs.Ytibnadbobijjpaa
