/-
  What a formula's value leans on: its own variables. All values of three variables, and those of the formula's own.
-/
import Derived.Test.YtddpeldchffidaaFmR
namespace Go.Proofs.Ytddpeldchffidaa

/-- Has a formula a variable? -/
def HasV : FT → Int → Prop
  | .node none _, _ => False
  | .node (some (k, x, n)) kid, v => (k = 2 ∧ x = v) ∨ ∃ i, i < n ∧ HasV (kid i rfl) v
theorem val_dep {q : Nat} {m j : Nat → Nat → Nat} {f g : Nat → Nat} (T : FT) : cf T = 0 → (∀ i : Nat, i < 3 → HasV T (i : Nat) → f i = g i) → val q m j f T = val q m j g T := by
  induction T using FT.ind with
  | leaf => exact fun _ _ => rfl
  | mk k x n kid ih =>
    intro hc h
    rcases cf_zero hc with ⟨rfl, rfl⟩ | ⟨rfl, rfl, hx1, hx2⟩ | ⟨hk3, rfl, a0, a1⟩
    · simp [val]
    · have h1 := h x.toNat (by omega) (.inl ⟨rfl, by omega⟩)
      simp [val, h1]
    · have h0 := ih 0 a0 (fun i hi hv => h i hi (.inr ⟨0, by omega, hv⟩))
      have h1 := ih 1 a1 (fun i hi hv => h i hi (.inr ⟨1, by omega, hv⟩))
      rcases hk3 with rfl | rfl | rfl <;> simp [val, h0, h1]
/-- Three values as a list. -/
def v3 (x y z : Nat) : Nat → Nat := fun i => if i = 0 then x else if i = 1 then y else z
/-- The values that the number k stands for. -/
def vK (n k : Nat) : Nat → Nat := v3 (k / n / n) (k / n % n) (k % n)
/-- Only the formula's own variables have other values than 0. -/
def Own3 (T : FT) (v : Nat → Nat) : Prop := (v 0 = 0 ∨ HasV T 0) ∧ (v 1 = 0 ∨ HasV T 1) ∧ (v 2 = 0 ∨ HasV T 2)
theorem vK_lt {n k : Nat} (h : k < n * n * n) : ∀ i, i < 3 → vK n k i < n := by
  intro i hi
  have hn : 0 < n := by
    cases n with
    | zero => simp at h
    | succ n => omega
  rcases (by omega : i = 0 ∨ i = 1 ∨ i = 2) with rfl | rfl | rfl
  · show k / n / n < n
    rw [Nat.div_div_eq_div_mul]
    exact Nat.div_lt_of_lt_mul (by rw [Nat.mul_assoc] at h ⊢; exact h)
  · exact Nat.mod_lt _ hn
  · exact Nat.mod_lt _ hn
theorem vK_of {n x y z : Nat} (hx : x < n) (hy : y < n) (hz : z < n) : (x * n + y) * n + z < n * n * n ∧ vK n ((x * n + y) * n + z) = v3 x y z := by
  have hn : 0 < n := by omega
  have e1 : ((x * n + y) * n + z) / n = x * n + y := by
    rw [Nat.mul_comm, Nat.mul_add_div hn, Nat.div_eq_of_lt hz, Nat.add_zero]
  have e2 : ((x * n + y) * n + z) % n = z := by
    rw [Nat.mul_comm, Nat.mul_add_mod, Nat.mod_eq_of_lt hz]
  have e3 : (x * n + y) / n = x := by
    rw [Nat.mul_comm, Nat.mul_add_div hn, Nat.div_eq_of_lt hy, Nat.add_zero]
  have e4 : (x * n + y) % n = y := by
    rw [Nat.mul_comm, Nat.mul_add_mod, Nat.mod_eq_of_lt hy]
  refine ⟨?_, by unfold vK; rw [e1, e2, e3, e4]⟩
  have h1 : x * n + y < n * n := by
    have : (x + 1) * n ≤ n * n := Nat.mul_le_mul_right _ hx
    rw [Nat.add_mul] at this; omega
  have : (x * n + y + 1) * n ≤ n * n * n := Nat.mul_le_mul_right _ h1
  rw [Nat.add_mul] at this; omega
/-- Both ways of looking at all values tell the same. -/
theorem sure_iff {q : Nat} {m j : Nat → Nat → Nat} {T : FT} {n t : Nat} (hc : cf T = 0) :
    (∀ k, k < n * n * n → Own3 T (vK n k) → val q m j (vK n k) T = t) ↔ ∀ x y z, x < n → y < n → z < n → val q m j (v3 x y z) T = t := by
  constructor
  · intro h x y z hx hy hz
    have key : ∀ (i : Int) (u : Nat), u < n → ∃ u', u' < n ∧ (u' = 0 ∨ HasV T i) ∧ (HasV T i → u = u') := fun i u hu => by
      by_cases hv : HasV T i
      · exact ⟨u, hu, .inr hv, fun _ => rfl⟩
      · exact ⟨0, by omega, .inl rfl, fun h => absurd h hv⟩
    obtain ⟨x', hx', ox, ex⟩ := key 0 x hx
    obtain ⟨y', hy', oy, ey⟩ := key 1 y hy
    obtain ⟨z', hz', oz, ez⟩ := key 2 z hz
    obtain ⟨hk, he⟩ := vK_of hx' hy' hz'
    have := h _ hk (by rw [he]; exact ⟨ox, oy, oz⟩)
    rw [he] at this
    rw [← this]
    refine val_dep T hc fun i hi hv => ?_
    rcases (by omega : i = 0 ∨ i = 1 ∨ i = 2) with rfl | rfl | rfl
    · exact ex hv
    · exact ey hv
    · exact ez hv
  · intro h k hk _
    have hl := vK_lt hk
    exact h _ _ _ (hl 0 (by omega)) (hl 1 (by omega)) (hl 2 (by omega))
end Go.Proofs.Ytddpeldchffidaa
