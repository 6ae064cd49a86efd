/-
  Shepp's inequality: who stands ahead of one stands ahead of another one more often. Maps into long chains, Ahlswede's and Daykin's theorem on them, and what is left of it when the chain grows. Plain facts: no Go text here. Conditions: at most ten points.
-/
import Derived.Test.YtdnpegjekckmgaaAheadM
namespace Go.Proofs.Ytdnpegjekckmgaa
open Go.RowKit

/-- Four numbers of one point more. -/
theorem four_one {a0 a1 b0 b1 c0 c1 d0 d1 : Nat} (h00 : a0 * b0 ≤ c0 * d0) (h01 : a0 * b1 ≤ c1 * d0) (h10 : a1 * b0 ≤ c1 * d0) (h11 : a1 * b1 ≤ c1 * d1) :
    (a0 + a1) * (b0 + b1) ≤ (c0 + c1) * (d0 + d1) := by
  have key : a0 * b1 + a1 * b0 ≤ c1 * d0 + c0 * d1 := by
    have hm : (a0 * b1) * (a1 * b0) ≤ (c1 * d0) * (c0 * d1) := by
      have := Nat.mul_le_mul h00 h11
      have e1 : (a0 * b1) * (a1 * b0) = a0 * b0 * (a1 * b1) := by ac_rfl
      have e2 : (c1 * d0) * (c0 * d1) = c0 * d0 * (c1 * d1) := by ac_rfl
      rw [e1, e2]; exact this
    generalize a0 * b1 = u at *
    generalize a1 * b0 = v at *
    generalize c1 * d0 = p at *
    generalize c0 * d1 = q at *
    rcases Nat.eq_zero_or_pos p with rfl | hp
    · omega
    · apply Nat.le_of_mul_le_mul_left _ hp
      obtain ⟨x, rfl⟩ := Nat.exists_eq_add_of_le h01
      obtain ⟨y, hy⟩ := Nat.exists_eq_add_of_le h10
      have e : (u + x) * (u + v) + x * y = (u + x) * (u + x) + u * v := by
        have e1 : x * y + x * v = x * (u + x) := by rw [← Nat.mul_add]; congr 1; omega
        have e2 : (u + x) * (u + v) = (u + x) * u + (u * v + x * v) := by rw [Nat.mul_add, Nat.add_mul u x v]
        have e3 : (u + x) * (u + x) = (u + x) * u + (u * x + x * x) := by rw [Nat.mul_add (u + x) u x, Nat.add_mul u x x]
        have e4 : x * (u + x) = u * x + x * x := by rw [Nat.mul_add, Nat.mul_comm x u]
        omega
      have e5 : (u + x) * (u + x + q) = (u + x) * (u + x) + (u + x) * q := Nat.mul_add _ _ _
      omega
  have e1 : (a0 + a1) * (b0 + b1) = a0 * b0 + a1 * b1 + (a0 * b1 + a1 * b0) := by rw [Nat.add_mul, Nat.mul_add, Nat.mul_add]; omega
  have e2 : (c0 + c1) * (d0 + d1) = c0 * d0 + c1 * d1 + (c1 * d0 + c0 * d1) := by rw [Nat.add_mul, Nat.mul_add, Nat.mul_add]; omega
  rw [e1, e2]; omega
theorem sumTo_leq {φ ψ : Nat → Nat} : ∀ n, (∀ k, k < n → φ k ≤ ψ k) → sumTo φ n ≤ sumTo ψ n
  | 0, _ => Nat.le_refl _
  | n + 1, h => by
    have h1 := sumTo_leq (φ := φ) (ψ := ψ) n (fun k hk => h k (by omega))
    have h2 := h n (by omega)
    rw [sumTo, sumTo]; omega
theorem sumTo_mulr (c : Nat) (φ : Nat → Nat) (n : Nat) : sumTo (fun k => φ k * c) n = sumTo φ n * c := by
  rw [Nat.mul_comm, ← sumTo_mul]; exact sumTo_congr n fun k _ => Nat.mul_comm _ _
theorem sumTo_const (c : Nat) : ∀ n, sumTo (fun _ => c) n = n * c
  | 0 => by simp [sumTo]
  | n + 1 => by rw [sumTo, sumTo_const c n, Nat.succ_mul]
theorem sumTo_cat (φ : Nat → Nat) (m : Nat) : ∀ k, sumTo φ (m + k) = sumTo φ m + sumTo (fun x => φ (m + x)) k
  | 0 => rfl
  | k + 1 => by rw [← Nat.add_assoc, sumTo, sumTo, sumTo_cat φ m k]; omega
theorem sumTo_first (φ : Nat → Nat) (n : Nat) : sumTo φ (n + 1) = φ 0 + sumTo (fun x => φ (x + 1)) n := by
  rw [Nat.add_comm n 1, sumTo_cat]
  simp only [sumTo, Nat.zero_add]
  congr 1
  exact sumTo_congr n fun k _ => by rw [Nat.add_comm]

/-- Ahlswede and Daykin on a chain. -/
theorem chain_four (A B C D : Nat → Nat) : ∀ N, (∀ v v', v < N → v' < N → A v * B v' ≤ C (max v v') * D (min v v')) → sumTo A N * sumTo B N ≤ sumTo C N * sumTo D N
  | 0, _ => by simp [sumTo]
  | N + 1, h => by
    rw [sumTo, sumTo, sumTo, sumTo]
    refine four_one (chain_four A B C D N fun v v' h1 h2 => h v v' (by omega) (by omega)) ?_ ?_ ?_
    · rw [← sumTo_mulr, ← sumTo_mul]
      refine sumTo_leq N fun k hk => ?_
      have := h k N (by omega) (by omega)
      rwa [show max k N = N by omega, show min k N = k by omega] at this
    · rw [← sumTo_mul, ← sumTo_mul]
      refine sumTo_leq N fun k hk => ?_
      have := h N k (by omega) (by omega)
      rwa [show max N k = N by omega, show min N k = k by omega] at this
    · have := h N N (by omega) (by omega)
      rwa [Nat.max_self, Nat.min_self] at this
theorem sumTo_lo (A : Nat → Nat) (N s : Nat) : sumTo (fun w => if w < N then A w else 0) (N + s) = sumTo A N := by
  rw [sumTo_cat]
  have e1 : sumTo (fun w => if w < N then A w else 0) N = sumTo A N := sumTo_congr N fun k hk => if_pos hk
  have e2 : sumTo (fun x => (fun w => if w < N then A w else 0) (N + x)) s = sumTo (fun _ => 0) s := sumTo_congr s fun k _ => if_neg (by omega)
  rw [e1, e2, sumTo_const]; omega
theorem sumTo_hi (A : Nat → Nat) (N s : Nat) : sumTo (fun w => if s ≤ w then A (w - s) else 0) (N + s) = sumTo A N := by
  rw [Nat.add_comm, sumTo_cat]
  have e1 : sumTo (fun w => if s ≤ w then A (w - s) else 0) s = sumTo (fun _ => 0) s := sumTo_congr s fun k hk => if_neg (by omega)
  have e2 : sumTo (fun x => (fun w => if s ≤ w then A (w - s) else 0) (s + x)) N = sumTo A N := sumTo_congr N fun k _ => by
    show (if s ≤ s + k then A (s + k - s) else 0) = A k
    rw [if_pos (by omega), Nat.add_sub_cancel_left]
  rw [e1, e2, sumTo_const]; omega
/-- The same, where one is shifted. -/
theorem chain_shift (A B C D : Nat → Nat) (N s : Nat) (h : ∀ v v', v < N → v' < N → A v * B v' ≤ C (max (v - s) v') * D (min v (v' + s))) : sumTo A N * sumTo B N ≤ sumTo C N * sumTo D N := by
  rw [← sumTo_lo A N s, ← sumTo_hi B N s, ← sumTo_hi C N s, ← sumTo_lo D N s]
  refine chain_four _ _ _ _ (N + s) fun v v' hv hv' => ?_
  by_cases h1 : v < N
  · by_cases h2 : s ≤ v'
    · rw [if_pos h1, if_pos h2, if_pos (show s ≤ max v v' by omega), if_pos (show min v v' < N by omega)]
      have := h v (v' - s) h1 (by omega)
      rwa [show max (v - s) (v' - s) = max v v' - s by omega, show min v (v' - s + s) = min v v' by omega] at this
    · rw [if_neg h2, Nat.mul_zero]; exact Nat.zero_le _
  · rw [if_neg h1, Nat.zero_mul]; exact Nat.zero_le _

/-- The sum over all maps of some points to numbers less than N. -/
def sumF (N : Nat) : List Nat → ((Nat → Nat) → Nat) → Nat
  | [], φ => φ (fun _ => 0)
  | i :: l, φ => sumTo (fun v => sumF N l (fun f => φ (upd f i v))) N
theorem sumF_leq {N : Nat} : ∀ {l : List Nat} {φ ψ : (Nat → Nat) → Nat}, (∀ f, φ f ≤ ψ f) → sumF N l φ ≤ sumF N l ψ
  | [], _, _, h => h _
  | _ :: _, _, _, h => sumTo_leq N fun _ _ => sumF_leq fun _ => h _
theorem sumF_congr {N : Nat} {l : List Nat} {φ ψ : (Nat → Nat) → Nat} (h : ∀ f, φ f = ψ f) : sumF N l φ = sumF N l ψ := by
  rw [show φ = ψ from funext h]
theorem sumF_add {N : Nat} : ∀ (l : List Nat) (φ ψ : (Nat → Nat) → Nat), sumF N l (fun f => φ f + ψ f) = sumF N l φ + sumF N l ψ
  | [], _, _ => rfl
  | i :: l, φ, ψ => by
    simp only [sumF]
    rw [← sumTo_add]
    exact sumTo_congr N fun v _ => sumF_add l _ _
theorem sumF_const {N : Nat} (c : Nat) : ∀ (l : List Nat), sumF N l (fun _ => c) = N ^ l.length * c
  | [] => by simp [sumF]
  | i :: l => by
    simp only [sumF, List.length_cons]
    rw [sumTo_congr N fun v _ => sumF_const c l, sumTo_const, Nat.pow_succ]; ac_rfl
theorem sumF_zero {N : Nat} {l : List Nat} {φ : (Nat → Nat) → Nat} (h : ∀ f, φ f = 0) : sumF N l φ = 0 := by
  rw [sumF_congr h, sumF_const, Nat.mul_zero]
theorem sumF_sumTo {N : Nat} : ∀ (l : List Nat) (m : Nat) (φ : Nat → (Nat → Nat) → Nat), sumF N l (fun f => sumTo (fun v => φ v f) m) = sumTo (fun v => sumF N l (φ v)) m
  | l, 0, _ => by simp only [sumTo]; exact sumF_zero fun _ => rfl
  | l, m + 1, φ => by simp only [sumTo]; rw [sumF_add, sumF_sumTo l m φ]

/-- Ahlswede and Daykin on maps, where one is shifted. -/
theorem maps_shift {N s : Nat} : ∀ (l : List Nat) (a b c d : (Nat → Nat) → Nat), (∀ f g, a f * b g ≤ c (fun i => max (f i - s) (g i)) * d (fun i => min (f i) (g i + s))) →
    sumF N l a * sumF N l b ≤ sumF N l c * sumF N l d
  | [], a, b, c, d, h => by
    have := h (fun _ => 0) (fun _ => 0)
    simpa [sumF] using this
  | i :: l, a, b, c, d, h => by
    simp only [sumF]
    refine chain_shift _ _ _ _ N s fun v v' _ _ => ?_
    refine maps_shift (s := s) l _ _ _ _ fun f g => ?_
    have := h (upd f i v) (upd g i v')
    have e1 : (fun j => max (upd f i v j - s) (upd g i v' j)) = upd (fun j => max (f j - s) (g j)) i (max (v - s) v') := by
      funext j; unfold upd; split <;> rfl
    have e2 : (fun j => min (upd f i v j) (upd g i v' j + s)) = upd (fun j => min (f j) (g j + s)) i (min v (v' + s)) := by
      funext j; unfold upd; split <;> rfl
    rwa [e1, e2] at this
/-- Two maps taken together as they stand against a point. -/
def jnX (x : Nat) (f g : Nat → Nat) (i : Nat) : Nat := if g x ≤ f x then max (f i - (f x - g x)) (g i) else max (f i) (g i - (g x - f x))
def mtX (x : Nat) (f g : Nat → Nat) (i : Nat) : Nat := if g x ≤ f x then min (f i) (g i + (f x - g x)) else min (f i + (g x - f x)) (g i)
theorem maps_four {N : Nat} (x : Nat) (l : List Nat) (a b c d : (Nat → Nat) → Nat) (h : ∀ f g, a f * b g ≤ c (jnX x f g) * d (mtX x f g)) :
    sumF N (x :: l) a * sumF N (x :: l) b ≤ sumF N (x :: l) c * sumF N (x :: l) d := by
  simp only [sumF]
  rw [Nat.mul_comm (sumTo (fun v => sumF N l fun f => c (upd f x v)) N)]
  refine chain_four _ _ _ _ N fun u v _ _ => ?_
  rcases Nat.lt_or_ge u v with huv | huv
  · rw [show max u v = v by omega, show min u v = u by omega, Nat.mul_comm, Nat.mul_comm (sumF N l fun f => d (upd f x v))]
    refine maps_shift (s := v - u) l _ _ _ _ fun g f => ?_
    have := h (upd f x u) (upd g x v)
    have e1 : jnX x (upd f x u) (upd g x v) = upd (fun i => max (g i - (v - u)) (f i)) x u := by
      funext j; unfold jnX
      rw [upd_same, upd_same, if_neg (by omega)]
      by_cases e : j = x
      · subst e; rw [upd_same, upd_same, upd_same]; omega
      · rw [upd_other _ _ _ _ e, upd_other _ _ _ _ e, upd_other _ _ _ _ e]; omega
    have e2 : mtX x (upd f x u) (upd g x v) = upd (fun i => min (g i) (f i + (v - u))) x v := by
      funext j; unfold mtX
      rw [upd_same, upd_same, if_neg (by omega)]
      by_cases e : j = x
      · subst e; rw [upd_same, upd_same, upd_same]; omega
      · rw [upd_other _ _ _ _ e, upd_other _ _ _ _ e, upd_other _ _ _ _ e]; omega
    rw [e1, e2] at this
    rw [Nat.mul_comm]; exact this
  · rw [show max u v = u by omega, show min u v = v by omega, Nat.mul_comm (sumF N l fun f => d (upd f x u))]
    refine maps_shift (s := u - v) l _ _ _ _ fun f g => ?_
    have := h (upd f x u) (upd g x v)
    have e1 : jnX x (upd f x u) (upd g x v) = upd (fun i => max (f i - (u - v)) (g i)) x v := by
      funext j; unfold jnX
      rw [upd_same, upd_same, if_pos (by omega)]
      by_cases e : j = x
      · subst e; rw [upd_same, upd_same, upd_same]; omega
      · rw [upd_other _ _ _ _ e, upd_other _ _ _ _ e, upd_other _ _ _ _ e]
    have e2 : mtX x (upd f x u) (upd g x v) = upd (fun i => min (f i) (g i + (u - v))) x u := by
      funext j; unfold mtX
      rw [upd_same, upd_same, if_pos (by omega)]
      by_cases e : j = x
      · subst e; rw [upd_same, upd_same, upd_same]; omega
      · rw [upd_other _ _ _ _ e, upd_other _ _ _ _ e, upd_other _ _ _ _ e]
    rw [e1, e2] at this
    exact this
end Go.Proofs.Ytdnpegjekckmgaa
