/-
  In how many ways everyone on the left has somebody: counted one by one, and by who is taken. Plain facts: no Go text here. Conditions: at most ten points on either side.
-/
import Derived.Test.YtadocffdneiaaaaDoorMLack
namespace Go.Proofs.YtadocffdneiaaaaDoor
open Go.RowKit

def sumTo (φ : Nat → Nat) : Nat → Nat
  | 0 => 0
  | k + 1 => sumTo φ k + φ k
theorem sumTo_congr {φ ψ : Nat → Nat} : ∀ n, (∀ k, k < n → φ k = ψ k) → sumTo φ n = sumTo ψ n
  | 0, _ => rfl
  | n + 1, h => by rw [sumTo, sumTo, sumTo_congr n (fun k hk => h k (by omega)), h n (by omega)]
theorem sumTo_le {φ : Nat → Nat} {B : Nat} : ∀ n, (∀ k, k < n → φ k ≤ B) → sumTo φ n ≤ n * B
  | 0, _ => by simp [sumTo]
  | n + 1, h => by
    have := sumTo_le n (fun k hk => h k (by omega))
    have := h n (by omega)
    rw [sumTo, Nat.succ_mul]; omega
theorem le_sumTo {φ : Nat → Nat} {k : Nat} : ∀ n, k < n → φ k ≤ sumTo φ n
  | 0, h => absurd h (Nat.not_lt_zero _)
  | n + 1, h => by
    rw [sumTo]
    by_cases e : k = n
    · subst e; omega
    · have := le_sumTo (φ := φ) n (show k < n by omega); omega
theorem sumTo_mono {φ : Nat → Nat} {m : Nat} : ∀ n, m ≤ n → sumTo φ m ≤ sumTo φ n
  | 0, h => by rw [show m = 0 by omega]; exact Nat.le_refl _
  | n + 1, h => by
    by_cases e : m = n + 1
    · subst e; exact Nat.le_refl _
    · have := sumTo_mono (φ := φ) n (show m ≤ n by omega); rw [sumTo]; omega
theorem sumTo_add (φ ψ : Nat → Nat) : ∀ n, sumTo (fun k => φ k + ψ k) n = sumTo φ n + sumTo ψ n
  | 0 => rfl
  | n + 1 => by rw [sumTo, sumTo, sumTo, sumTo_add φ ψ n]; omega
theorem sumTo_mul (c : Nat) (φ : Nat → Nat) : ∀ n, sumTo (fun k => c * φ k) n = c * sumTo φ n
  | 0 => by simp [sumTo]
  | n + 1 => by rw [sumTo, sumTo, sumTo_mul c φ n, Nat.mul_add]
/-- One value more, weighed. -/
theorem sumTo_upd {f M : Nat → Nat} {i v : Nat} : ∀ n, i < n → sumTo (fun x => upd f i (f i + v) x * M x) n = sumTo (fun x => f x * M x) n + v * M i
  | 0, h => absurd h (Nat.not_lt_zero _)
  | n + 1, h => by
    rw [sumTo, sumTo]
    by_cases e : i = n
    · subst e
      rw [upd_same, Nat.add_mul]
      have : sumTo (fun x => upd f i (f i + v) x * M x) i = sumTo (fun x => f x * M x) i := sumTo_congr i fun k hk => by rw [upd_other _ _ _ _ (by omega)]
      rw [this]; omega
    · rw [sumTo_upd n (by omega), upd_other _ _ _ _ (by omega)]; omega

/-- May right go with left, when taken are? -/
def fre (t : Nat → Nat) (left taken k : Nat) : Bool := (t left).testBit k && !taken.testBit k
/-- In how many ways the d from 'left' on have somebody who is not taken. -/
def mat (t : Nat → Nat) (r : Nat) : Nat → Nat → Nat → Nat
  | 0, _, _ => 1
  | d + 1, left, taken => sumTo (fun k => if fre t left taken k = true then mat t r d (left + 1) (taken + pw k) else 0) r
theorem mat_le (t : Nat → Nat) {r : Nat} (hr : r ≤ 10) : ∀ d left taken, mat t r d left taken ≤ 10 ^ d
  | 0, _, _ => by simp [mat]
  | d + 1, left, taken => by
    rw [mat]
    have h := sumTo_le (φ := fun k => if fre t left taken k = true then mat t r d (left + 1) (taken + pw k) else 0) (B := 10 ^ d) r (fun k _ => by
      have := mat_le t hr d (left + 1) (taken + pw k)
      split
      · exact this
      · exact Nat.zero_le _)
    refine Nat.le_trans h ?_
    rw [Nat.pow_succ, Nat.mul_comm]
    exact Nat.mul_le_mul (Nat.le_refl _) hr

/-- One more on the left has somebody: what comes of those who are taken already. -/
def addR (t : Nat → Nat) (left : Nat) (W : Nat → Nat) (taken : Nat) (more : Nat → Nat) : Nat → Nat → Nat
  | 0 => more
  | k + 1 => if fre t left taken k = true then upd (addR t left W taken more k) (taken ||| pw k) (addR t left W taken more k (taken ||| pw k) + W taken) else addR t left W taken more k
def addT (t : Nat → Nat) (r left : Nat) (W : Nat → Nat) : Nat → Nat → Nat
  | 0 => fun _ => 0
  | T + 1 => addR t left W T (addT t r left W T) r
theorem addR_yes {t : Nat → Nat} {left : Nat} {W : Nat → Nat} {taken : Nat} {more : Nat → Nat} {k : Nat} (h : fre t left taken k = true) : addR t left W taken more (k + 1) = upd (addR t left W taken more k) (taken ||| pw k) (addR t left W taken more k (taken ||| pw k) + W taken) := by simp [addR, h]
theorem addR_no {t : Nat → Nat} {left : Nat} {W : Nat → Nat} {taken : Nat} {more : Nat → Nat} {k : Nat} (h : fre t left taken k = false) : addR t left W taken more (k + 1) = addR t left W taken more k := by simp [addR, h]
theorem or_lt {taken k r : Nat} (ht : taken < pw r) (hk : k < r) : taken ||| pw k < pw r := Nat.or_lt_two_pow ht (Nat.pow_lt_pow_right (by decide) hk)
theorem or_free {x k : Nat} (h : x.testBit k = false) : x ||| pw k = x + pw k := by
  have hm : x % 2 ^ (k + 1) < 2 ^ k := by
    rw [Nat.mod_pow_succ]
    have h2 : x / 2 ^ k % 2 = 0 := by
      rw [Nat.testBit_eq_decide_div_mod_eq] at h
      have : ¬ (x / 2 ^ k % 2 = 1) := by simpa using h
      omega
    rw [h2, Nat.mul_zero, Nat.add_zero]
    exact Nat.mod_lt _ (Nat.two_pow_pos k)
  have hlt : x % 2 ^ (k + 1) < 2 ^ (k + 1) := Nat.mod_lt _ (Nat.two_pow_pos _)
  have hx : x = 2 ^ (k + 1) * (x / 2 ^ (k + 1)) + x % 2 ^ (k + 1) := (Nat.div_add_mod x (2 ^ (k + 1))).symm
  have h1 := Nat.two_pow_add_eq_or_of_lt hlt (x / 2 ^ (k + 1))
  have h2 : x % 2 ^ (k + 1) + 2 ^ k < 2 ^ (k + 1) := by rw [Nat.pow_succ] at *; omega
  have h3 := Nat.two_pow_add_eq_or_of_lt h2 (x / 2 ^ (k + 1))
  have h4 : x % 2 ^ (k + 1) ||| pw k = x % 2 ^ (k + 1) + pw k := or_pw_add hm
  have e : x ||| pw k = 2 ^ (k + 1) * (x / 2 ^ (k + 1)) + (x % 2 ^ (k + 1) + 2 ^ k) := by
    rw [h3, show x % 2 ^ (k + 1) + 2 ^ k = x % 2 ^ (k + 1) ||| pw k from h4.symm, ← Nat.or_assoc, ← h1, ← hx]
  rw [e]
  show _ = x + 2 ^ k
  omega
theorem addR_sum {t : Nat → Nat} {left : Nat} {W M : Nat → Nat} {taken r : Nat} {more : Nat → Nat} (ht : taken < pw r) : ∀ k, k ≤ r →
    sumTo (fun x => addR t left W taken more k x * M x) (pw r) = sumTo (fun x => more x * M x) (pw r) + W taken * sumTo (fun j => if fre t left taken j = true then M (taken ||| pw j) else 0) k
  | 0, _ => by simp [addR, sumTo]
  | k + 1, hk => by
    have ih := addR_sum (t := t) (left := left) (W := W) (M := M) (more := more) ht k (by omega)
    rw [sumTo]
    cases h : fre t left taken k
    · rw [addR_no h, ih]; simp
    · rw [addR_yes h, sumTo_upd _ (or_lt ht (by omega)), ih]
      simp only [if_true, Nat.mul_add]; omega
theorem addT_sum {t : Nat → Nat} {left : Nat} {W M : Nat → Nat} {r : Nat} : ∀ T, T ≤ pw r →
    sumTo (fun x => addT t r left W T x * M x) (pw r) = sumTo (fun s => W s * sumTo (fun j => if fre t left s j = true then M (s ||| pw j) else 0) r) T
  | 0, _ => by
    rw [sumTo]
    have : sumTo (fun x => addT t r left W 0 x * M x) (pw r) = sumTo (fun x => 0 * M x) (pw r) := sumTo_congr _ fun k _ => rfl
    rw [this, sumTo_mul]; simp
  | T + 1, hT => by
    rw [sumTo, ← addT_sum T (by omega)]
    exact addR_sum (by omega) r (Nat.le_refl _)
theorem cnt_le {r : Nat} (hr : r ≤ 10) (P : Nat → Bool) (k : Nat) (hk : k ≤ r) : sumTo (fun j => if P j = true then 1 else 0) k ≤ 10 := by
  have := sumTo_le (φ := fun j => if P j = true then 1 else 0) (B := 1) k (fun j _ => by split <;> omega)
  omega
/-- No value grows beyond ten times what there was together. -/
theorem addR_bound {t : Nat → Nat} {left : Nat} {W : Nat → Nat} {r T k : Nat} (hr : r ≤ 10) (hT : T < pw r) (hk : k ≤ r) {x : Nat} (hx : x < pw r) :
    addR t left W T (addT t r left W T) k x ≤ 10 * sumTo W (pw r) := by
  have h1 := addR_sum (t := t) (left := left) (W := W) (M := fun _ => 1) (more := addT t r left W T) hT k hk
  have h2 := addT_sum (t := t) (left := left) (W := W) (M := fun _ => 1) (r := r) T (by omega)
  simp only [Nat.mul_one] at h1 h2
  have h3 := le_sumTo (φ := fun x => addR t left W T (addT t r left W T) k x) (pw r) hx
  have h4 : W T * sumTo (fun j => if fre t left T j = true then 1 else 0) k ≤ W T * 10 := Nat.mul_le_mul (Nat.le_refl _) (cnt_le hr _ k hk)
  have h5 : sumTo (fun s => W s * sumTo (fun j => if fre t left s j = true then 1 else 0) r) T ≤ sumTo (fun s => 10 * W s) T := by
    have : ∀ n, sumTo (fun s => W s * sumTo (fun j => if fre t left s j = true then 1 else 0) r) n ≤ sumTo (fun s => 10 * W s) n := by
      intro n
      induction n with
      | zero => exact Nat.le_refl _
      | succ n ih =>
        rw [sumTo, sumTo]
        have := Nat.mul_le_mul (Nat.le_refl (W n)) (cnt_le hr (fun j => fre t left n j) r (Nat.le_refl _))
        omega
    exact this T
  rw [sumTo_mul] at h5
  have h6 : sumTo W (T + 1) ≤ sumTo W (pw r) := sumTo_mono _ hT
  rw [sumTo] at h6
  omega
theorem addT_total {t : Nat → Nat} {left : Nat} {W : Nat → Nat} {r : Nat} (hr : r ≤ 10) : sumTo (addT t r left W (pw r)) (pw r) ≤ 10 * sumTo W (pw r) := by
  have h2 := addT_sum (t := t) (left := left) (W := W) (M := fun _ => 1) (r := r) (pw r) (Nat.le_refl _)
  simp only [Nat.mul_one] at h2
  have e : sumTo (fun x => addT t r left W (pw r) x) (pw r) = sumTo (addT t r left W (pw r)) (pw r) := rfl
  rw [← e, h2, ← sumTo_mul]
  have : ∀ n, sumTo (fun s => W s * sumTo (fun j => if fre t left s j = true then 1 else 0) r) n ≤ sumTo (fun s => 10 * W s) n := by
    intro n
    induction n with
    | zero => exact Nat.le_refl _
    | succ n ih =>
      rw [sumTo, sumTo]
      have := Nat.mul_le_mul (Nat.le_refl (W n)) (cnt_le hr (fun j => fre t left n j) r (Nat.le_refl _))
      omega
  exact this _
/-- In how many ways just these are taken by the first k. -/
def wks (t : Nat → Nat) (r : Nat) : Nat → Nat → Nat
  | 0 => upd (fun _ => 0) 0 1
  | k + 1 => addT t r k (wks t r k) (pw r)
theorem wks_total (t : Nat → Nat) {r : Nat} (hr : r ≤ 10) : ∀ k, sumTo (wks t r k) (pw r) ≤ 10 ^ k
  | 0 => by
    have h := sumTo_upd (f := fun _ => 0) (M := fun _ => 1) (i := 0) (v := 1) (pw r) (pw_pos r)
    simp only [Nat.mul_one, Nat.zero_add] at h
    have h0 : sumTo (fun _ => 0) (pw r) = 0 := by have := sumTo_mul 0 (fun _ => 0) (pw r); simpa using this
    rw [h0] at h
    have e : sumTo (fun x => upd (fun _ => 0) 0 1 x) (pw r) = sumTo (wks t r 0) (pw r) := rfl
    rw [← e, h]; simp
  | k + 1 => by
    have h1 := wks_total t hr k
    have h2 := addT_total (t := t) (left := k) (W := wks t r k) hr
    rw [wks, Nat.pow_succ]; omega
theorem wks_mat (t : Nat → Nat) (r : Nat) : ∀ k d, sumTo (fun x => wks t r k x * mat t r d k x) (pw r) = mat t r (k + d) 0 0
  | 0, d => by
    have h := sumTo_upd (f := fun _ => 0) (M := fun x => mat t r d 0 x) (i := 0) (v := 1) (pw r) (pw_pos r)
    simp only [Nat.zero_add, Nat.one_mul] at h
    have h0 : sumTo (fun x => 0 * mat t r d 0 x) (pw r) = 0 := by rw [sumTo_mul]; simp
    rw [h0, Nat.zero_add] at h
    rw [Nat.zero_add]
    exact h
  | k + 1, d => by
    rw [show k + 1 + d = k + (d + 1) by omega, ← wks_mat t r k (d + 1)]
    have h := addT_sum (t := t) (left := k) (W := wks t r k) (M := fun x => mat t r d (k + 1) x) (r := r) (pw r) (Nat.le_refl _)
    rw [wks]
    rw [h]
    refine sumTo_congr _ fun s _ => ?_
    rw [mat]
    congr 1
    refine sumTo_congr _ fun j _ => ?_
    cases hf : fre t k s j
    · rfl
    · simp only [if_true]
      unfold fre at hf
      simp only [Bool.and_eq_true, Bool.not_eq_true'] at hf
      rw [or_free hf.2]
theorem wks_sum (t : Nat → Nat) (r l : Nat) : sumTo (wks t r l) (pw r) = mat t r l 0 0 := by
  have h := wks_mat t r l 0
  simp only [mat, Nat.mul_one, Nat.add_zero] at h
  exact h
end Go.Proofs.YtadocffdneiaaaaDoor
