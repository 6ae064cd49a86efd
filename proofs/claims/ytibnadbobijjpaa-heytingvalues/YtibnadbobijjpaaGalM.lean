/-
  A map between two lattices that keeps joins, and its way back, as plain mathematics. No condition but that both are lattices and the map goes from the one into the other. No Go text here.
-/
import Derived.Test.YtibnadbobijjpaaIrrM
namespace Go.Proofs.Ytibnadbobijjpaa

/-- It goes from n elements into n'. -/
def Mp (n n' : Nat) (f : Nat → Nat) : Prop := ∀ x, x < n → f x < n'
/-- It keeps joins. -/
def Keep (n : Nat) (m j : Nat → Nat → Nat) (n' : Nat) (m' j' : Nat → Nat → Nat) (f : Nat → Nat) : Prop :=
  f (en m n) = en m' n' ∧ ∀ x y, x < n → y < n → f (j x y) = j' (f x) (f y)
/-- The Join of all elements below k whose f is y or below it. -/
def jun (n : Nat) (m j m' : Nat → Nat → Nat) (f : Nat → Nat) (y : Nat) : Nat → Nat
  | 0 => en m n
  | k + 1 => if leB m' (f k) y = true then j (jun n m j m' f y k) k else jun n m j m' f y k
theorem jun_yes {n : Nat} {m j m' : Nat → Nat → Nat} {f : Nat → Nat} {y k : Nat} (h : leB m' (f k) y = true) : jun n m j m' f y (k + 1) = j (jun n m j m' f y k) k := by simp [jun, h]
theorem jun_no {n : Nat} {m j m' : Nat → Nat → Nat} {f : Nat → Nat} {y k : Nat} (h : leB m' (f k) y = false) : jun n m j m' f y (k + 1) = jun n m j m' f y k := by simp [jun, h]
theorem jun_lt {n : Nat} {m j m' : Nat → Nat → Nat} {f : Nat → Nat} {y : Nat} (h1 : 1 ≤ n) (hm : Inn n m) (hj : Inn n j) : ∀ k, k ≤ n → jun n m j m' f y k < n
  | 0, _ => en_lt h1 hm n (Nat.le_refl _)
  | k + 1, hk => by
    rcases h : leB m' (f k) y with _ | _
    · rw [jun_no h]; exact jun_lt h1 hm hj k (by omega)
    · rw [jun_yes h]; exact hj _ _ (jun_lt h1 hm hj k (by omega)) (by omega)
theorem leB_iff {m : Nat → Nat → Nat} {x y : Nat} : leB m x y = true ↔ m x y = x := by simp [leB]
/-- The way back. -/
def bk (n : Nat) (m j m' : Nat → Nat → Nat) (f : Nat → Nat) (y : Nat) : Nat := jun n m j m' f y n

section
variable {n n' : Nat} {m j m' j' : Nat → Nat → Nat} {f : Nat → Nat}

theorem jun_over (h : Lat n m j) (h1 : 1 ≤ n) {y : Nat} : ∀ k, k ≤ n → ∀ x, x < k → m' (f x) y = f x → m x (jun n m j m' f y k) = x
  | 0, _, x, hx, _ => absurd hx (Nat.not_lt_zero _)
  | k + 1, hk, x, hx, hl => by
    have hJ := jun_lt (m' := m') (f := f) (y := y) h1 h.im h.ij k (by omega)
    by_cases e : x = k
    · subst e
      rw [jun_yes (leB_iff.2 hl)]
      exact h.join_r hJ (by omega)
    · have ih := jun_over h h1 (y := y) k (by omega) x (by omega) hl
      rcases q : leB m' (f k) y with _ | _
      · rw [jun_no q]; exact ih
      · rw [jun_yes q]
        exact h.le_tr (by omega) hJ (h.ij _ _ hJ (by omega)) ih (h.join_l hJ (by omega))
theorem jun_under (h : Lat n m j) (h1 : 1 ≤ n) (h' : Lat n' m' j') (h1' : 1 ≤ n') (hf : Mp n n' f) (hK : Keep n m j n' m' j' f) {y : Nat} (hy : y < n') : ∀ k, k ≤ n → m' (f (jun n m j m' f y k)) y = f (jun n m j m' f y k)
  | 0, _ => by
    show m' (f (en m n)) y = f (en m n)
    rw [hK.1]; exact h'.least h1' hy
  | k + 1, hk => by
    have hJ := jun_lt (m' := m') (f := f) (y := y) h1 h.im h.ij k (by omega)
    have ih := jun_under h h1 h' h1' hf hK hy k (by omega)
    rcases q : leB m' (f k) y with _ | _
    · rw [jun_no q]; exact ih
    · rw [jun_yes q, hK.2 _ _ hJ (by omega)]
      exact h'.join_lub (hf _ hJ) (hf _ (by omega)) hy ih (leB_iff.1 q)
theorem keep_mono (h : Lat n m j) (h' : Lat n' m' j') (hf : Mp n n' f) (hK : Keep n m j n' m' j' f) {x z : Nat} (hx : x < n) (hz : z < n) (hl : m x z = x) : m' (f x) (f z) = f x := by
  have e := (h.le_join hx hz).1 hl
  have := hK.2 x z hx hz
  rw [e] at this
  exact (h'.le_join (hf x hx) (hf z hz)).2 this.symm
theorem bk_lt (h : Lat n m j) (h1 : 1 ≤ n) (y : Nat) : bk n m j m' f y < n := jun_lt h1 h.im h.ij n (Nat.le_refl _)
/-- GALOIS: there and back. -/
theorem bk_iff (h : Lat n m j) (h1 : 1 ≤ n) (h' : Lat n' m' j') (h1' : 1 ≤ n') (hf : Mp n n' f) (hK : Keep n m j n' m' j' f) {x y : Nat} (hx : x < n) (hy : y < n') : m' (f x) y = f x ↔ m x (bk n m j m' f y) = x := by
  have hJ := bk_lt (m' := m') (f := f) h h1 y
  constructor
  · exact fun hl => jun_over h h1 n (Nat.le_refl _) x hx hl
  · intro hl
    exact h'.le_tr (hf x hx) (hf _ hJ) hy (keep_mono h h' hf hK hx hJ hl) (jun_under h h1 h' h1' hf hK hy n (Nat.le_refl _))
/-- ORE: what has a way back keeps joins. -/
theorem keep_of_back (h : Lat n m j) (h1 : 1 ≤ n) (h' : Lat n' m' j') (h1' : 1 ≤ n') (hf : Mp n n' f) (g : Nat → Nat) (hg : ∀ y, y < n' → g y < n ∧ ∀ z, z < n → (m' (f z) y = f z ↔ m z (g y) = z)) : Keep n m j n' m' j' f := by
  have hmono : ∀ x z, x < n → z < n → m x z = x → m' (f x) (f z) = f x := fun x z hx hz hl => by
    have hG := hg (f z) (hf z hz)
    exact (hG.2 x hx).2 (h.le_tr hx hz hG.1 hl ((hG.2 z hz).1 (h'.le_refl (hf z hz))))
  have hE := en_lt h1 h.im n (Nat.le_refl _)
  have hE' := en_lt h1' h'.im n' (Nat.le_refl _)
  refine ⟨?_, fun x y hx hy => ?_⟩
  · refine h'.le_anti (hf _ hE) hE' ?_ (h'.least h1' (hf _ hE))
    exact ((hg _ hE').2 _ hE).2 (h.least h1 (hg _ hE').1)
  · have hxy := h.ij x y hx hy
    have ht := h'.ij _ _ (hf x hx) (hf y hy)
    have hG := hg _ ht
    refine h'.le_anti (hf _ hxy) ht ?_ ?_
    · refine (hG.2 _ hxy).2 (h.join_lub hx hy hG.1 ?_ ?_)
      · exact (hG.2 x hx).1 (h'.join_l (hf x hx) (hf y hy))
      · exact (hG.2 y hy).1 (h'.join_r (hf x hx) (hf y hy))
    · exact h'.join_lub (hf x hx) (hf y hy) (hf _ hxy) (hmono x _ hx hxy (h.join_l hx hy)) (hmono y _ hy hxy (h.join_r hx hy))
theorem bk_mono (h : Lat n m j) (h1 : 1 ≤ n) (h' : Lat n' m' j') (h1' : 1 ≤ n') (hf : Mp n n' f) (hK : Keep n m j n' m' j' f) {y z : Nat} (hy : y < n') (hz : z < n') (hl : m' y z = y) : m (bk n m j m' f y) (bk n m j m' f z) = bk n m j m' f y := by
  have hJ := bk_lt (m' := m') (f := f) h h1 y
  exact (bk_iff h h1 h' h1' hf hK hJ hz).1 (h'.le_tr (hf _ hJ) hy hz ((bk_iff h h1 h' h1' hf hK hJ hy).2 (h.le_refl hJ)) hl)
theorem bk_up (h : Lat n m j) (h1 : 1 ≤ n) (h' : Lat n' m' j') (h1' : 1 ≤ n') (hf : Mp n n' f) (hK : Keep n m j n' m' j' f) {x : Nat} (hx : x < n) : m x (bk n m j m' f (f x)) = x :=
  (bk_iff h h1 h' h1' hf hK hx (hf x hx)).1 (h'.le_refl (hf x hx))
theorem bk_down (h : Lat n m j) (h1 : 1 ≤ n) (h' : Lat n' m' j') (h1' : 1 ≤ n') (hf : Mp n n' f) (hK : Keep n m j n' m' j' f) {y : Nat} (hy : y < n') : m' (f (bk n m j m' f y)) y = f (bk n m j m' f y) :=
  (bk_iff h h1 h' h1' hf hK (bk_lt h h1 y) hy).2 (h.le_refl (bk_lt h h1 y))
/-- There, back and there is there. -/
theorem bk_there (h : Lat n m j) (h1 : 1 ≤ n) (h' : Lat n' m' j') (h1' : 1 ≤ n') (hf : Mp n n' f) (hK : Keep n m j n' m' j' f) {x : Nat} (hx : x < n) : f (bk n m j m' f (f x)) = f x :=
  h'.le_anti (hf _ (bk_lt h h1 _)) (hf x hx) (bk_down h h1 h' h1' hf hK (hf x hx)) (keep_mono h h' hf hK hx (bk_lt h h1 _) (bk_up h h1 h' h1' hf hK hx))
theorem bk_back (h : Lat n m j) (h1 : 1 ≤ n) (h' : Lat n' m' j') (h1' : 1 ≤ n') (hf : Mp n n' f) (hK : Keep n m j n' m' j' f) {y : Nat} (hy : y < n') : bk n m j m' f (f (bk n m j m' f y)) = bk n m j m' f y :=
  h.le_anti (bk_lt h h1 _) (bk_lt h h1 _) (bk_mono h h1 h' h1' hf hK (hf _ (bk_lt h h1 _)) hy (bk_down h h1 h' h1' hf hK hy)) (bk_up h h1 h' h1' hf hK (bk_lt h h1 _))
/-- Back keeps meets. -/
theorem bk_meet (h : Lat n m j) (h1 : 1 ≤ n) (h' : Lat n' m' j') (h1' : 1 ≤ n') (hf : Mp n n' f) (hK : Keep n m j n' m' j' f) {y z : Nat} (hy : y < n') (hz : z < n') : bk n m j m' f (m' y z) = m (bk n m j m' f y) (bk n m j m' f z) := by
  have a := bk_lt (m' := m') (f := f) h h1 y
  have b := bk_lt (m' := m') (f := f) h h1 z
  have c := h'.im y z hy hz
  have d := h.im _ _ a b
  refine h.le_anti (bk_lt h h1 _) d ?_ ?_
  · exact h.meet_glb a b (bk_lt h h1 _) (bk_mono h h1 h' h1' hf hK c hy (h'.meet_l hy hz)) (bk_mono h h1 h' h1' hf hK c hz (h'.meet_r hy hz))
  · refine (bk_iff h h1 h' h1' hf hK d c).1 (h'.meet_glb hy hz (hf _ d) ?_ ?_)
    · exact (bk_iff h h1 h' h1' hf hK d hy).2 (h.meet_l a b)
    · exact (bk_iff h h1 h' h1' hf hK d hz).2 (h.meet_r a b)
end

/-- The reference: is x so of all z below k? -/
def bkA (m m' : Nat → Nat → Nat) (f : Nat → Nat) (y x : Nat) : Nat → Bool
  | 0 => true
  | k + 1 => bkA m m' f y x k && (leB m' (f k) y == leB m k x)
theorem bkA_iff {m m' : Nat → Nat → Nat} {f : Nat → Nat} {y x : Nat} : ∀ k, bkA m m' f y x k = true ↔ ∀ z, z < k → (m' (f z) y = f z ↔ m z x = z)
  | 0 => by simp [bkA]
  | k + 1 => by
    have q : ((leB m' (f k) y == leB m k x) = true) ↔ (m' (f k) y = f k ↔ m k x = k) := by
      rw [beq_iff_eq, Bool.eq_iff_iff, leB_iff, leB_iff]
    rw [bkA, Bool.and_eq_true, bkA_iff k, q]
    constructor
    · rintro ⟨a, b⟩ z hz
      by_cases e : z = k
      · subst e; exact b
      · exact a z (by omega)
    · exact fun a => ⟨fun z hz => a z (by omega), a k (by omega)⟩
/-- The last one below k of which it is so. -/
def topA (n : Nat) (m m' : Nat → Nat → Nat) (f : Nat → Nat) (y : Nat) : Nat → Int
  | 0 => -1
  | k + 1 => if bkA m m' f y k n = true then (k : Nat) else topA n m m' f y k
theorem topA_none {n : Nat} {m m' : Nat → Nat → Nat} {f : Nat → Nat} {y : Nat} : ∀ k, (∀ x, x < k → bkA m m' f y x n = false) → topA n m m' f y k = -1
  | 0, _ => rfl
  | k + 1, h => by simp [topA, h k (by omega)]; exact topA_none k fun x hx => h x (by omega)
theorem topA_some {n : Nat} {m m' : Nat → Nat → Nat} {f : Nat → Nat} {y : Nat} : ∀ k, (∃ x, x < k ∧ bkA m m' f y x n = true) → ∃ x, x < k ∧ bkA m m' f y x n = true ∧ topA n m m' f y k = (x : Nat)
  | 0, h => by obtain ⟨x, hx, _⟩ := h; exact absurd hx (Nat.not_lt_zero _)
  | k + 1, h => by
    by_cases q : bkA m m' f y k n = true
    · exact ⟨k, by omega, q, by simp [topA, q]⟩
    · obtain ⟨x, hx, hb⟩ := h
      obtain ⟨x', h1, h2, h3⟩ := topA_some k ⟨x, by (have : x ≠ k := fun e => q (e ▸ hb)); omega, hb⟩
      exact ⟨x', by omega, h2, by simp [topA, q, h3]⟩
theorem topA_keep {n n' : Nat} {m j m' j' : Nat → Nat → Nat} {f : Nat → Nat} (h : Lat n m j) (h1 : 1 ≤ n) (h' : Lat n' m' j') (h1' : 1 ≤ n') (hf : Mp n n' f) (hK : Keep n m j n' m' j' f) {y : Nat} (hy : y < n') : topA n m m' f y n = (bk n m j m' f y : Nat) := by
  have hJ := bk_lt (m' := m') (f := f) h h1 y
  obtain ⟨x, hx, hb, e⟩ := topA_some n ⟨_, hJ, (bkA_iff n).2 fun z hz => bk_iff h h1 h' h1' hf hK hz hy⟩
  rw [e]
  have hx' := (bkA_iff n).1 hb
  have : x = bk n m j m' f y := h.le_anti hx hJ ((bk_iff h h1 h' h1' hf hK hx hy).1 ((hx' x hx).2 (h.le_refl hx))) ((hx' _ hJ).1 ((bk_iff h h1 h' h1' hf hK hJ hy).2 (h.le_refl hJ)))
  rw [this]
theorem topA_not {n n' : Nat} {m j m' j' : Nat → Nat → Nat} {f : Nat → Nat} (h : Lat n m j) (h1 : 1 ≤ n) (h' : Lat n' m' j') (h1' : 1 ≤ n') (hf : Mp n n' f) (hK : ¬ Keep n m j n' m' j' f) : ∃ y, y < n' ∧ topA n m m' f y n = -1 := by
  apply Classical.byContradiction
  intro hno
  apply hK
  have key : ∀ y, ∃ x, y < n' → x < n ∧ ∀ z, z < n → (m' (f z) y = f z ↔ m z x = z) := fun y => by
    by_cases hy : y < n'
    · by_cases q : ∃ x, x < n ∧ bkA m m' f y x n = true
      · obtain ⟨x, hx, hb⟩ := q
        exact ⟨x, fun _ => ⟨hx, (bkA_iff n).1 hb⟩⟩
      · exact absurd ⟨y, hy, topA_none n fun x hx => by
          rcases r : bkA m m' f y x n with _ | _
          · rfl
          · exact absurd ⟨x, hx, r⟩ q⟩ hno
    · exact ⟨0, fun h => absurd h hy⟩
  obtain ⟨g, hg⟩ := Classical.axiomOfChoice key
  exact keep_of_back h h1 h' h1' hf g hg
theorem topA_ge {n : Nat} {m m' : Nat → Nat → Nat} {f : Nat → Nat} {y : Nat} : ∀ k, topA n m m' f y k = -1 ∨ ∃ x : Nat, x < k ∧ topA n m m' f y k = x
  | 0 => .inl rfl
  | k + 1 => by
    by_cases q : bkA m m' f y k n = true
    · exact .inr ⟨k, by omega, by simp [topA, q]⟩
    · rcases topA_ge (n := n) (m := m) (m' := m') (f := f) (y := y) k with e | ⟨x, hx, e⟩
      · exact .inl (by simp [topA, q, e])
      · exact .inr ⟨x, by omega, by simp [topA, q, e]⟩

end Go.Proofs.Ytibnadbobijjpaa
