/-
  A region that draws its order, inside a round of a loop over an iterator: the lone laws serve there. Conditions: none of its operations defers a call.
  Sums, and a set with a point more. Plain facts: no Go text here. No condition.
-/
import Derived.RangeFuncNested
import Derived.OrdersIn
import Derived.Deep.RegionHeld
import Derived.Test.YtklfnghgpmjnmaaDoorBuild
import Derived.Test.YtklfnghgpmjnmaaDoorSets
namespace Go.Proofs.YtklfnghgpmjnmaaDoor
open Go.RowKit

theorem oper_round {l n : Nat} {P : Program} {o : Oper} {a : Act} {w : World} {K : Act → World → Prop} {Q : Exit → Act → World → Prop} (hd : ∀ c, o.op ≠ .defer c) (hL : ¬ LetsOut Q)
    (h : o.wp P a w K Q ∨ (o.asks P a w ∧ LetsOut Q)) : o.wpIn (Fence.wide.inRound l) n P a w K Q := by
  have h1 : o.wp P a w K Q := h.resolve_right fun h => hL h.2
  unfold Oper.wpIn
  refine ⟨fun _ _ => trivial, ?_⟩
  rw [Fence.inRound_round, Oper.semAt_some _ _ _ hd]
  unfold Oper.wp at h1
  generalize (execOp a.eval o).run P w = r at h1
  cases r with
  | ok x w' =>
    cases x with
    | value v => exact h1
    | skip => exact h1
    | defer d => exact h1
    | enter f args => exact ⟨fun e => by simp [Fence.inRound, Fence.wide] at e, callsIn_wide.2 h1⟩
    | row rw0 args => exact ⟨fun e => by simp [Fence.inRound, Fence.wide] at e, fun c cs _ => let ⟨v, w', r, s⟩ := h1 c cs; ⟨v, w', r, stepsIn_wide.2 s⟩⟩
    | _ => exact h1.elim
  | halt e w' =>
    cases e with
    | panic v => exact h1
    | _ => exact h1.elim
theorem any_round {l n : Nat} {P : Program} {md : Region.Mode} {ops : Array Oper} {Q : Exit → Act → World → Prop} (hd : ∀ (i : Nat) (o : Oper) c, ops[i]? = some o → o.op ≠ .defer c) (hL : ¬ LetsOut Q) :
    ∀ (fuel : Nat) (listed : Array Bool) (a : Act) (w : World), wpAny P md ops Q fuel listed a w → wpAnyIn (Fence.wide.inRound l) n P md ops Q fuel listed a w
  | 0, _, _, _, h => h
  | fuel + 1, listed, a, w, h => by
    refine ⟨h.1, fun i hi => ?_⟩
    have h2 := h.2 i hi
    unfold wpOp at h2
    unfold wpOpIn
    cases ho : ops[i]? with
    | none =>
      rw [ho] at h2
      exact any_round hd hL fuel _ _ _ h2
    | some o =>
      rw [ho] at h2
      simp only at h2 ⊢
      by_cases hw : Region.wanted o (yielded ops a.tmps) = true
      · rw [if_pos hw] at h2 ⊢
        refine Oper.wpIn_mono (fun a w h => any_round hd hL fuel _ a w h) (oper_round (fun c => hd i o c ho) hL h2)
      · rw [if_neg hw] at h2 ⊢
        exact ⟨fun _ _ => trivial, any_round hd hL fuel _ _ _ h2⟩
/-- The beginning: S is shown of the world behind the draw, once, and handed on. -/
theorem round_held_drew {l n : Nat} {P : Program} {ops : Array Oper} {Q : Exit → Act → World → Prop} {S : World → Prop} {id : Nat} {a : Act} {w : World} (hd : ∀ (i : Nat) (o : Oper) c, ops[i]? = some o → o.op ≠ .defer c) (hL : ¬ LetsOut Q)
    (hm : P.follows .mixedOrders = true) (hS : S w.drew) (h : S w.drew → wpAnyH P .any ops Q S ops.size (Array.replicate ops.size false) a w.drew) : (Code.region id ops true).wpIn (Fence.wide.inRound l) n P Q a w :=
  wpIn_region_any hm (any_round hd hL _ _ _ _ (wpAny_of_held _ _ _ _ (h hS)))
end Go.Proofs.YtklfnghgpmjnmaaDoor
namespace Go.Proofs.YtklfnghgpmjnmaaDoor
open Go.RowKit

def sumTo (φ : Nat → Nat) : Nat → Nat
  | 0 => 0
  | k + 1 => sumTo φ k + φ k
theorem sumTo_congr {φ ψ : Nat → Nat} : ∀ n, (∀ k, k < n → φ k = ψ k) → sumTo φ n = sumTo ψ n
  | 0, _ => rfl
  | n + 1, h => by rw [sumTo, sumTo, sumTo_congr n (fun k hk => h k (by omega)), h n (by omega)]
theorem sumTo_le {φ : Nat → Nat} {B : Nat} : ∀ n, (∀ k, k < n → φ k ≤ B) → sumTo φ n ≤ n * B
  | 0, _ => by simp [sumTo]
  | n + 1, h => by
    have := sumTo_le n (fun k hk => h k (by omega))
    have := h n (by omega)
    rw [sumTo, Nat.succ_mul]; omega
theorem le_sumTo {φ : Nat → Nat} {k : Nat} : ∀ n, k < n → φ k ≤ sumTo φ n
  | 0, h => absurd h (Nat.not_lt_zero _)
  | n + 1, h => by
    rw [sumTo]
    by_cases e : k = n
    · subst e; omega
    · have := le_sumTo (φ := φ) n (show k < n by omega); omega
theorem sumTo_mono {φ : Nat → Nat} {m : Nat} : ∀ n, m ≤ n → sumTo φ m ≤ sumTo φ n
  | 0, h => by rw [show m = 0 by omega]; exact Nat.le_refl _
  | n + 1, h => by
    by_cases e : m = n + 1
    · subst e; exact Nat.le_refl _
    · have := sumTo_mono (φ := φ) n (show m ≤ n by omega); rw [sumTo]; omega
theorem sumTo_add (φ ψ : Nat → Nat) : ∀ n, sumTo (fun k => φ k + ψ k) n = sumTo φ n + sumTo ψ n
  | 0 => rfl
  | n + 1 => by rw [sumTo, sumTo, sumTo, sumTo_add φ ψ n]; omega
theorem sumTo_mul (c : Nat) (φ : Nat → Nat) : ∀ n, sumTo (fun k => c * φ k) n = c * sumTo φ n
  | 0 => by simp [sumTo]
  | n + 1 => by rw [sumTo, sumTo, sumTo_mul c φ n, Nat.mul_add]
/-- One value more, weighed. -/
theorem sumTo_upd {f M : Nat → Nat} {i v : Nat} : ∀ n, i < n → sumTo (fun x => upd f i (f i + v) x * M x) n = sumTo (fun x => f x * M x) n + v * M i
  | 0, h => absurd h (Nat.not_lt_zero _)
  | n + 1, h => by
    rw [sumTo, sumTo]
    by_cases e : i = n
    · subst e
      rw [upd_same, Nat.add_mul]
      have : sumTo (fun x => upd f i (f i + v) x * M x) i = sumTo (fun x => f x * M x) i := sumTo_congr i fun k hk => by rw [upd_other _ _ _ _ (by omega)]
      rw [this]; omega
    · rw [sumTo_upd n (by omega), upd_other _ _ _ _ (by omega)]; omega

theorem or_lt {taken k r : Nat} (ht : taken < pw r) (hk : k < r) : taken ||| pw k < pw r := Nat.or_lt_two_pow ht (Nat.pow_lt_pow_right (by decide) hk)
theorem or_free {x k : Nat} (h : x.testBit k = false) : x ||| pw k = x + pw k := by
  have hm : x % 2 ^ (k + 1) < 2 ^ k := by
    rw [Nat.mod_pow_succ]
    have h2 : x / 2 ^ k % 2 = 0 := by
      rw [Nat.testBit_eq_decide_div_mod_eq] at h
      have : ¬ (x / 2 ^ k % 2 = 1) := by simpa using h
      omega
    rw [h2, Nat.mul_zero, Nat.add_zero]
    exact Nat.mod_lt _ (Nat.two_pow_pos k)
  have hlt : x % 2 ^ (k + 1) < 2 ^ (k + 1) := Nat.mod_lt _ (Nat.two_pow_pos _)
  have hx : x = 2 ^ (k + 1) * (x / 2 ^ (k + 1)) + x % 2 ^ (k + 1) := (Nat.div_add_mod x (2 ^ (k + 1))).symm
  have h1 := Nat.two_pow_add_eq_or_of_lt hlt (x / 2 ^ (k + 1))
  have h2 : x % 2 ^ (k + 1) + 2 ^ k < 2 ^ (k + 1) := by rw [Nat.pow_succ] at *; omega
  have h3 := Nat.two_pow_add_eq_or_of_lt h2 (x / 2 ^ (k + 1))
  have h4 : x % 2 ^ (k + 1) ||| pw k = x % 2 ^ (k + 1) + pw k := or_pw_add hm
  have e : x ||| pw k = 2 ^ (k + 1) * (x / 2 ^ (k + 1)) + (x % 2 ^ (k + 1) + 2 ^ k) := by
    rw [h3, show x % 2 ^ (k + 1) + 2 ^ k = x % 2 ^ (k + 1) ||| pw k from h4.symm, ← Nat.or_assoc, ← h1, ← hx]
  rw [e]
  show _ = x + 2 ^ k
  omega
end Go.Proofs.YtklfnghgpmjnmaaDoor
