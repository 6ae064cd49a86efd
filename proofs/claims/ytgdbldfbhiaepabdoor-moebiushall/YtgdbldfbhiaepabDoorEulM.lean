/-
  Chains with an odd number of points less the others, by their numbers and one by one. No condition. No Go text here.
-/
import Derived.Test.YtgdbldfbhiaepabDoorChains
import Derived.Test.YtgdbldfbhiaepabDoorMoeM
namespace Go.Proofs.YtgdbldfbhiaepabDoor
open Go.RowKit

def sg (i : Nat) : Int := if i % 2 = 1 then 1 else -1
/-- The first k numbers of a list, those at odd places less the others. -/
def eulL (l : List Nat) (k : Nat) : Int := sumI (fun i => sg i * (nth l i : Int)) k
/-- The first k sets, if they are chains, those with an odd number of points less the others. -/
def eulS (g : Nat → Nat) (n k : Nat) : Int := sumI (fun S => if chB g n S = true then sg (pc S) else 0) k
theorem eulL_odd {l : List Nat} {k : Nat} (h : k % 2 = 1) : eulL l (k + 1) = eulL l k + (nth l k : Int) := by
  unfold eulL; rw [sumI]; simp [sg, h]
theorem eulL_even {l : List Nat} {k : Nat} (h : ¬ k % 2 = 1) : eulL l (k + 1) = eulL l k - (nth l k : Int) := by
  unfold eulL; rw [sumI]; simp [sg, h]; omega
theorem sumTo_cast (F : Nat → Nat) : ∀ n, ((sumTo F n : Nat) : Int) = sumI (fun k => (F k : Int)) n
  | 0 => rfl
  | n + 1 => by rw [sumTo, sumI, ← sumTo_cast F n]; omega
theorem sumI_one {F : Nat → Int} {j : Nat} : ∀ n, j < n → (∀ k, k < n → k ≠ j → F k = 0) → sumI F n = F j
  | 0, h, _ => absurd h (Nat.not_lt_zero _)
  | n + 1, h, hz => by
    rw [sumI]
    by_cases e : j = n
    · subst e
      rw [sumI_congr (G := fun _ => 0) j fun k hk => hz k (by omega) (by omega), sumI_zero]; omega
    · rw [sumI_one n (by omega) fun k hk he => hz k (by omega) he, hz n (by omega) (fun e' => e e'.symm)]; omega
theorem nth_chs {g : Nat → Nat} {n : Nat} (hn : n ≤ 10) (hg : ∀ k, k < n → g k < pw n) (ho : Ord n g) {i : Nat} (hi : i < (chs g n).length) : nth (chs g n) i = cN g n i (pw n) := by
  rw [chs, chTo_len] at hi
  cases i with
  | zero => rw [cN_zero hn]; rfl
  | succ i =>
    rw [cN_succ hn hg ho]
    have : i < tops g n := by omega
    simp [nth, chs, chTo, mapTo, this]
theorem chain_short {g : Nat → Nat} {n S : Nat} (hn : n ≤ 10) (hg : ∀ k, k < n → g k < pw n) (ho : Ord n g) (hS : S < pw n) (hc : chB g n S = true) : pc S < (chs g n).length := by
  rw [chs, chTo_len]
  cases hp : pc S with
  | zero => omega
  | succ s =>
    have h1 : 0 < cN g n (s + 1) (pw n) := by
      unfold cN
      rw [sumTo_pos]
      exact ⟨S, hS, by simp [hc, hp, ind]⟩
    rw [cN_succ hn hg ho, tot_pos hn hg ho] at h1
    omega
theorem eul_eq {g : Nat → Nat} {n : Nat} (hn : n ≤ 10) (hg : ∀ k, k < n → g k < pw n) (ho : Ord n g) : eulL (chs g n) (chs g n).length = eulS g n (pw n) := by
  unfold eulL eulS
  have e1 : sumI (fun i => sg i * (nth (chs g n) i : Int)) (chs g n).length = sumI (fun i => sumI (fun S => sg i * ((ind (chB g n S && (pc S == i)) : Nat) : Int)) (pw n)) (chs g n).length := by
    refine sumI_congr _ fun i hi => ?_
    rw [nth_chs hn hg ho hi, cN, sumTo_cast, sumI_mul]
  rw [e1, sumI_swap]
  refine sumI_congr _ fun S hS => ?_
  cases hc : chB g n S
  · simp only [Bool.false_and, Bool.false_eq_true, if_false]
    exact (sumI_congr _ fun i _ => by simp [ind]).trans (sumI_zero _)
  · simp only [Bool.true_and, if_true]
    rw [sumI_one (j := pc S) _ (chain_short hn hg ho hS hc) fun k _ he => by
      have : (pc S == k) = false := by simpa using fun e => he e.symm
      rw [this]; simp [ind]]
    simp [ind]
end Go.Proofs.YtgdbldfbhiaepabDoor
