/-
  Ahlswede and Daykin's theorem, and Harris': plain facts on weights of sets. No Go text here. No condition.
-/
import Derived.Test.YtoagfjikjdacoaaSmP
namespace Go.Proofs.Ytoagfjikjdacoaa

/-- Four numbers of one point more. -/
theorem four_one {a0 a1 b0 b1 c0 c1 d0 d1 : Nat} (h00 : a0 * b0 ≤ c0 * d0) (h01 : a0 * b1 ≤ c1 * d0) (h10 : a1 * b0 ≤ c1 * d0) (h11 : a1 * b1 ≤ c1 * d1) :
    (a0 + a1) * (b0 + b1) ≤ (c0 + c1) * (d0 + d1) := by
  have key : a0 * b1 + a1 * b0 ≤ c1 * d0 + c0 * d1 := by
    have hm : (a0 * b1) * (a1 * b0) ≤ (c1 * d0) * (c0 * d1) := by
      have := Nat.mul_le_mul h00 h11
      have e1 : (a0 * b1) * (a1 * b0) = a0 * b0 * (a1 * b1) := by ac_rfl
      have e2 : (c1 * d0) * (c0 * d1) = c0 * d0 * (c1 * d1) := by ac_rfl
      rw [e1, e2]; exact this
    generalize a0 * b1 = u at *
    generalize a1 * b0 = v at *
    generalize c1 * d0 = p at *
    generalize c0 * d1 = q at *
    rcases Nat.eq_zero_or_pos p with rfl | hp
    · omega
    · apply Nat.le_of_mul_le_mul_left _ hp
      obtain ⟨x, rfl⟩ := Nat.exists_eq_add_of_le h01
      obtain ⟨y, hy⟩ := Nat.exists_eq_add_of_le h10
      -- p = u + x = v + y, so p * (u + v) + x * y = p * p + u * v
      have e : (u + x) * (u + v) + x * y = (u + x) * (u + x) + u * v := by
        have e1 : x * y + x * v = x * (u + x) := by rw [← Nat.mul_add]; congr 1; omega
        have e2 : (u + x) * (u + v) = (u + x) * u + (u * v + x * v) := by rw [Nat.mul_add, Nat.add_mul u x v]
        have e3 : (u + x) * (u + x) = (u + x) * u + (u * x + x * x) := by rw [Nat.mul_add (u + x) u x, Nat.add_mul u x x]
        have e4 : x * (u + x) = u * x + x * x := by rw [Nat.mul_add, Nat.mul_comm x u]
        omega
      have e5 : (u + x) * (u + x + q) = (u + x) * (u + x) + (u + x) * q := Nat.mul_add _ _ _
      omega
  have e1 : (a0 + a1) * (b0 + b1) = a0 * b0 + a1 * b1 + (a0 * b1 + a1 * b0) := by rw [Nat.add_mul, Nat.mul_add, Nat.mul_add]; omega
  have e2 : (c0 + c1) * (d0 + d1) = c0 * d0 + c1 * d1 + (c1 * d0 + c0 * d1) := by rw [Nat.add_mul, Nat.mul_add, Nat.mul_add]; omega
  rw [e1, e2]; omega
theorem sumTo_split (φ : Nat → Nat) (m : Nat) : ∀ k, sumTo φ (m + k) = sumTo φ m + sumTo (fun x => φ (m + x)) k
  | 0 => rfl
  | k + 1 => by rw [← Nat.add_assoc, sumTo, sumTo, sumTo_split φ m k]; omega
theorem sumTo_plus (φ ψ : Nat → Nat) : ∀ n, sumTo (fun k => φ k + ψ k) n = sumTo φ n + sumTo ψ n
  | 0 => rfl
  | n + 1 => by rw [sumTo, sumTo, sumTo, sumTo_plus φ ψ n]; omega
theorem sumTo_two (φ : Nat → Nat) (n : Nat) : sumTo φ (pw (n + 1)) = sumTo (fun x => φ x + φ (pw n + x)) (pw n) := by
  rw [pw_succ, Nat.two_mul, sumTo_split, ← sumTo_plus]
theorem top_or {n x y : Nat} (hx : x < pw n) (hy : y < pw n) : (pw n + x) ||| y = pw n + (x ||| y) ∧ x ||| (pw n + y) = pw n + (x ||| y) ∧ (pw n + x) ||| (pw n + y) = pw n + (x ||| y) := by
  have hxy : x ||| y < 2 ^ n := Nat.or_lt_two_pow hx hy
  unfold pw at *
  refine ⟨?_, ?_, ?_⟩ <;> apply Nat.eq_of_testBit_eq <;> intro i <;> simp only [Nat.testBit_or]
  all_goals
    rcases Nat.lt_trichotomy i n with h | h | h
  all_goals first
    | (subst h; simp [Nat.testBit_two_pow_add_eq, Nat.testBit_lt_two_pow hx, Nat.testBit_lt_two_pow hy, Nat.testBit_lt_two_pow hxy])
    | (simp [Nat.testBit_two_pow_add_gt h])
    | (have h1 : ∀ z, z < 2 ^ n → (2 ^ n + z).testBit i = false := fun z hz => Nat.testBit_lt_two_pow (Nat.lt_of_lt_of_le (show 2 ^ n + z < 2 ^ (n + 1) by rw [Nat.pow_succ]; omega) (Nat.pow_le_pow_right (by decide) h))
       have h2 : ∀ z, z < 2 ^ n → z.testBit i = false := fun z hz => Nat.testBit_lt_two_pow (Nat.lt_of_lt_of_le hz (Nat.pow_le_pow_right (by decide) (by omega)))
       simp [h1 _ hx, h1 _ hy, h1 _ hxy, h2 _ hx, h2 _ hy])
theorem top_and {n x y : Nat} (hx : x < pw n) (hy : y < pw n) : (pw n + x) &&& y = x &&& y ∧ x &&& (pw n + y) = x &&& y ∧ (pw n + x) &&& (pw n + y) = pw n + (x &&& y) := by
  have hxy : x &&& y < 2 ^ n := Nat.and_lt_two_pow _ hy
  unfold pw at *
  refine ⟨?_, ?_, ?_⟩ <;> apply Nat.eq_of_testBit_eq <;> intro i <;> simp only [Nat.testBit_and]
  all_goals
    rcases Nat.lt_trichotomy i n with h | h | h
  all_goals first
    | (subst h; simp [Nat.testBit_two_pow_add_eq, Nat.testBit_lt_two_pow hx, Nat.testBit_lt_two_pow hy, Nat.testBit_lt_two_pow hxy])
    | (simp [Nat.testBit_two_pow_add_gt h])
    | (have h1 : ∀ z, z < 2 ^ n → (2 ^ n + z).testBit i = false := fun z hz => Nat.testBit_lt_two_pow (Nat.lt_of_lt_of_le (show 2 ^ n + z < 2 ^ (n + 1) by rw [Nat.pow_succ]; omega) (Nat.pow_le_pow_right (by decide) h))
       have h2 : ∀ z, z < 2 ^ n → z.testBit i = false := fun z hz => Nat.testBit_lt_two_pow (Nat.lt_of_lt_of_le hz (Nat.pow_le_pow_right (by decide) (by omega)))
       simp [h1 _ hx, h1 _ hy, h1 _ hxy, h2 _ hx, h2 _ hy])
/-- Is Four so of each two sets? -/
def FourN (n : Nat) (a b c d : Nat → Nat) : Prop := ∀ x y, x < pw n → y < pw n → a x * b y ≤ c (x ||| y) * d (x &&& y)
/-- Ahlswede and Daykin: it is of all together. -/
theorem four_all : ∀ (n : Nat) (a b c d : Nat → Nat), FourN n a b c d → sumTo a (pw n) * sumTo b (pw n) ≤ sumTo c (pw n) * sumTo d (pw n)
  | 0, a, b, c, d, h => by
    have := h 0 0 (by decide) (by decide)
    simpa [pw, sumTo] using this
  | n + 1, a, b, c, d, h => by
    rw [sumTo_two a, sumTo_two b, sumTo_two c, sumTo_two d]
    refine four_all n _ _ _ _ fun x y hx hy => ?_
    have hs := pw_succ n
    have h00 := h x y (by omega) (by omega)
    have h01 := h x (pw n + y) (by omega) (by omega)
    have h10 := h (pw n + x) y (by omega) (by omega)
    have h11 := h (pw n + x) (pw n + y) (by omega) (by omega)
    obtain ⟨o1, o2, o3⟩ := top_or hx hy
    obtain ⟨e1, e2, e3⟩ := top_and hx hy
    rw [o2, e2] at h01
    rw [o1, e1] at h10
    rw [o3, e3] at h11
    exact four_one h00 h01 h10 h11
/-- Do weights rise? -/
def RisN (n : Nat) (f : Nat → Nat) : Prop := ∀ x y, x < pw n → y < pw n → x &&& y = x → f x ≤ f y
/-- Harris: by a curved weight two that rise go together. -/
theorem harris {n : Nat} {w f g : Nat → Nat} (hw : FourN n w w w w) (hf : RisN n f) (hg : RisN n g) :
    sumTo (fun x => w x * f x) (pw n) * sumTo (fun x => w x * g x) (pw n) ≤ sumTo (fun x => w x * f x * g x) (pw n) * sumTo w (pw n) := by
  refine four_all n _ _ _ _ fun x y hx hy => ?_
  have h0 := hw x y hx hy
  have hxy : x ||| y < pw n := Nat.or_lt_two_pow hx hy
  have h1 := hf x (x ||| y) hx hxy (by apply Nat.eq_of_testBit_eq; intro i; simp; cases x.testBit i <;> simp)
  have h2 := hg y (x ||| y) hy hxy (by apply Nat.eq_of_testBit_eq; intro i; simp; cases y.testBit i <;> simp)
  calc w x * f x * (w y * g y) = w x * w y * (f x * g y) := by ac_rfl
    _ ≤ w (x ||| y) * w (x &&& y) * (f (x ||| y) * g (x ||| y)) := Nat.mul_le_mul h0 (Nat.mul_le_mul h1 h2)
    _ = w (x ||| y) * f (x ||| y) * g (x ||| y) * w (x &&& y) := by ac_rfl
end Go.Proofs.Ytoagfjikjdacoaa
