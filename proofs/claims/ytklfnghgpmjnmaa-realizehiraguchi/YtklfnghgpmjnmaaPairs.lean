/-
  What sets.Size and the reference's Size answer: how many points a set has. Conditions: a set of at most ten points.
  Lists of pairs as slices: what is owned, what SamePairs answers of two slices of one list. Conditions: as each theorem says.
-/
import Derived.Test.YtklfnghgpmjnmaaBuild
import Derived.Test.YtklfnghgpmjnmaaClone
import Derived.Test.YtklfnghgpmjnmaaBegun
import Derived.Laws.StructEq
namespace Go.Proofs.Ytklfnghgpmjnmaa
open Go.RowKit

/-- How many of the first k points are in s. -/
def pcn (s : Nat) : Nat → Nat
  | 0 => 0
  | k + 1 => if s.testBit k = true then pcn s k + 1 else pcn s k
/-- How many points a set has. -/
def pc (s : Nat) : Nat := pcn s 10

theorem ones_any (s : Nat) (w : World) (hs : s < 1024) :
    Calls Try.prog 64 #[.int .u64 s] w fun e w' => e = .returned (.int .i64 (pc s : Nat)) ∧ w = w' := by
  go_enter Try.func64, Try.ntmps64
  go_wp2
  go_ret
  refine ⟨ret_int ?_, rfl⟩
  clear w
  revert s
  decide +kernel
theorem onesCount_any (s : Nat) (w : World) (hs : s < 1024) :
    Calls Try.prog 53 #[.int .u64 s] w fun e w' => e = .returned (.int .i64 (pc s : Nat)) ∧ w = w' := by
  go_enter Try.func53, Try.ntmps53
  go_wp2_with (go_at_call 64; refine (ones_any s _ hs).mono ?_; rintro e w' ⟨rfl, rfl⟩)
  go_ret
  exact ⟨rfl, rfl⟩
theorem size_any (s : Nat) (w : World) (hs : s < 1024) :
    Calls Try.prog 42 #[.int .i64 s] w fun e w' => e = .returned (.int .i64 (pc s : Nat)) ∧ w = w' := by
  go_enter Try.func42, Try.ntmps42
  go_wp2_with (go_at_call 53; refine (onesCount_any s _ hs).mono ?_; rintro e w' ⟨rfl, rfl⟩)
  go_ret
  exact ⟨rfl, rfl⟩

theorem pcn_le (s : Nat) : ∀ k, pcn s k ≤ k
  | 0 => Nat.le_refl _
  | k + 1 => by have := pcn_le s k; unfold pcn; split <;> omega
theorem pcn_stop {s k : Nat} (h : ∀ j, k ≤ j → s.testBit j = false) : ∀ d, pcn s (k + d) = pcn s k
  | 0 => rfl
  | d + 1 => by
    rw [← Nat.add_assoc, pcn, h (k + d) (by omega)]
    simpa using pcn_stop h d
theorem pcn_step (s k : Nat) : pcn s (k + 1) = pcn s k + hv s k % 2 := by
  rw [pcn, hv_bit]
  rcases Nat.mod_two_eq_zero_or_one (hv s k) with h | h <;> simp [h]
end Go.Proofs.Ytklfnghgpmjnmaa
namespace Go.Proofs.Ytklfnghgpmjnmaa
open Go.RowKit

theorem Try.info92 : (Try.prog.info? 92).map (fun i => (i.zero, i.size, i.bytes)) = some (some (.agg #[.int .i64 0, .int .i64 0]), 2, 16) := by kernel_rfl

def pairVals : List (Nat × Nat) → List Value
  | [] => []
  | p :: l => .int .i64 (p.1 : Nat) :: .int .i64 (p.2 : Nat) :: pairVals l
theorem pairVals_append : ∀ l m, pairVals (l ++ m) = pairVals l ++ pairVals m
  | [], _ => rfl
  | p :: l, m => by simp [pairVals, pairVals_append l m]
def pairAt (l : List (Nat × Nat)) (k : Nat) : Int × Int := (((l.getD k (0, 0)).1 : Nat), ((l.getD k (0, 0)).2 : Nat))
theorem pairVals_at : ∀ (l : List (Nat × Nat)) (k : Nat), k < l.length → (pairVals l)[k * 2]? = some (.int .i64 (pairAt l k).1) ∧ (pairVals l)[k * 2 + 1]? = some (.int .i64 (pairAt l k).2)
  | [], k, h => absurd h (Nat.not_lt_zero _)
  | p :: l, 0, _ => ⟨rfl, rfl⟩
  | p :: l, k + 1, h => by
    have ih := pairVals_at l k (by simpa using h)
    have e1 : (k + 1) * 2 = k * 2 + 1 + 1 := by omega
    rw [e1]
    simp only [pairVals, List.getElem?_cons_succ]
    exact ih

def rowPairs (C : Nat → Nat → Bool) (x : Nat) : Nat → List (Nat × Nat)
  | 0 => []
  | k + 1 => if C x k = true then rowPairs C x k ++ [(x, k)] else rowPairs C x k
def allPairs (C : Nat → Nat → Bool) (n : Nat) : Nat → List (Nat × Nat)
  | 0 => []
  | x + 1 => allPairs C n x ++ rowPairs C x n
theorem rowPairs_yes {C : Nat → Nat → Bool} {x k : Nat} (h : C x k = true) : rowPairs C x (k + 1) = rowPairs C x k ++ [(x, k)] := by simp [rowPairs, h]
theorem rowPairs_no {C : Nat → Nat → Bool} {x k : Nat} (h : C x k = false) : rowPairs C x (k + 1) = rowPairs C x k := by simp [rowPairs, h]
theorem rowPairs_len (C : Nat → Nat → Bool) (x : Nat) : ∀ k, (rowPairs C x k).length ≤ k
  | 0 => by simp [rowPairs]
  | k + 1 => by
    have ih := rowPairs_len C x k
    cases h : C x k
    · rw [rowPairs_no h]; omega
    · rw [rowPairs_yes h, List.length_append]; simp; exact ih
theorem allPairs_len (C : Nat → Nat → Bool) (n : Nat) (hn : n ≤ 10) : ∀ x, (allPairs C n x).length ≤ x * 10
  | 0 => by simp [allPairs]
  | x + 1 => by
    have ih := allPairs_len C n hn x
    have := rowPairs_len C x n
    rw [allPairs, List.length_append]; omega
theorem rowPairs_congr {C D : Nat → Nat → Bool} {x : Nat} : ∀ k, (∀ y, y < k → C x y = D x y) → rowPairs C x k = rowPairs D x k
  | 0, _ => rfl
  | k + 1, h => by
    have ih := rowPairs_congr k (fun y hy => h y (by omega))
    simp only [rowPairs, h k (by omega), ih]
theorem allPairs_congr {C D : Nat → Nat → Bool} {n : Nat} : ∀ x, (∀ z y, z < x → y < n → C z y = D z y) → allPairs C n x = allPairs D n x
  | 0, _ => rfl
  | x + 1, h => by
    rw [allPairs, allPairs, allPairs_congr x (fun z y hz hy => h z y (by omega) hy), rowPairs_congr n (fun y hy => h x y (by omega) hy)]

/-- A value that is a slice of the pairs l. -/
def PSl (w : World) (v : Value) (l : List (Nat × Nat)) : Prop := ∃ a cap, v = .slice a l.length cap ∧ PRow w a l.length (pairAt l)
theorem PSl.below {w w' : World} {v : Value} {l : List (Nat × Nat)} (h : PSl w v l) (hb : Below w.heap.size w w') : PSl w' v l := by
  obtain ⟨a, cap, rfl, hr⟩ := h
  exact ⟨a, cap, rfl, hr.below hb⟩
theorem owns_pairs {w : World} {base : Nat} {v : Value} {l : List (Nat × Nat)} (h : w.ownsRow base 92 2 v l.length (pairVals l)) : PSl w v l := by
  by_cases hn : 0 < l.length
  · obtain ⟨g, cap, rfl⟩ := owns_form h hn
    refine ⟨_, cap, rfl, fun k hk => ⟨g, 0, rfl, ?_, ?_⟩⟩
    · rw [Nat.zero_add, h.cellAt _ (by omega)]; exact (pairVals_at l k hk).1
    · rw [Nat.zero_add, h.cellAt _ (by omega)]; exact (pairVals_at l k hk).2
  · have h0 : l.length = 0 := by omega
    rcases h.2 with ⟨rfl, _⟩ | ⟨g, cap, cur, rfl, _⟩
    · exact ⟨none, 0, by rw [h0], fun k hk => absurd (Nat.lt_of_le_of_lt (Nat.zero_le _) hk) hn⟩
    · exact ⟨_, cap, rfl, fun k hk => absurd (Nat.lt_of_le_of_lt (Nat.zero_le _) hk) hn⟩

theorem eqIn_pair (d : Nat) (x y : Int) (w : World) : (Op.equalIn (d + 2) 92 (.agg #[.int .i64 x, .int .i64 y]) (.agg #[.int .i64 x, .int .i64 y])).run Try.prog w = .ok true w := by
  have hP2 : Try.prog.underlying 92 = some (.array 2 3) := Try.underlying92
  have h3 : Try.prog.underlying 3 = some (.int .i64) := Try.underlying3
  obtain ⟨i0, hi, _, hz1, _⟩ := info_parts Try.info3
  have hd : (d + 2) = (d + 1) + 1 := rfl
  rw [hd, Op.equalIn]
  simp only [Sem.run_bind, run_underlying hP2, Result.andThen_ok]
  simp [sizeOf, typeInfo, hi, hz1, Std.Legacy.Range.forIn_eq_forIn_range', show List.range' 0 2 = [0, 1] from rfl, part, isAgg, Op.equalIn, run_underlying h3]
theorem neq_pair (x y : Int) (w : World) : (binOp .neq 92 (.agg #[.int .i64 x, .int .i64 y]) (.agg #[.int .i64 x, .int .i64 y])).run Try.prog w = .ok (.bool false) w := by
  simp only [binOp]
  simp [Op.equal, Op.maxDepth, eqIn_pair 9998]

end Go.Proofs.Ytklfnghgpmjnmaa
