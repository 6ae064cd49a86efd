/-
  Lists of pairs as slices: what is owned, what SamePairs answers of two slices of one list. Conditions: as each theorem says.
  For every order that is handed in, hasselaw.OrderChecks returns true, and writes nothing that was there. No condition.
  What a good order gives. No condition.
  Sums, and a set with a point more. Plain facts: no Go text here. No condition.
  In how many ways the points that do not stand yet go behind a set, each behind those that it needs. Plain facts: no Go text here. Conditions: at most ten points.
-/
import Derived.Test.YtinblbkglkhjmaaDoorBuild
import Derived.Laws.StructEq
import Derived.Deep.RegionHeld3
namespace Go.Proofs.YtinblbkglkhjmaaDoor
open Go.RowKit

theorem Tryd.info42 : (Tryd.prog.info? 42).map (fun i => (i.zero, i.size, i.bytes)) = some (some (.agg #[.int .i64 0, .int .i64 0]), 2, 16) := by kernel_rfl

def pairVals : List (Nat × Nat) → List Value
  | [] => []
  | p :: l => .int .i64 (p.1 : Nat) :: .int .i64 (p.2 : Nat) :: pairVals l
theorem pairVals_append : ∀ l m, pairVals (l ++ m) = pairVals l ++ pairVals m
  | [], _ => rfl
  | p :: l, m => by simp [pairVals, pairVals_append l m]
def pairAt (l : List (Nat × Nat)) (k : Nat) : Int × Int := (((l.getD k (0, 0)).1 : Nat), ((l.getD k (0, 0)).2 : Nat))
theorem pairVals_at : ∀ (l : List (Nat × Nat)) (k : Nat), k < l.length → (pairVals l)[k * 2]? = some (.int .i64 (pairAt l k).1) ∧ (pairVals l)[k * 2 + 1]? = some (.int .i64 (pairAt l k).2)
  | [], k, h => absurd h (Nat.not_lt_zero _)
  | p :: l, 0, _ => ⟨rfl, rfl⟩
  | p :: l, k + 1, h => by
    have ih := pairVals_at l k (by simpa using h)
    have e1 : (k + 1) * 2 = k * 2 + 1 + 1 := by omega
    rw [e1]
    simp only [pairVals, List.getElem?_cons_succ]
    exact ih

def rowPairs (C : Nat → Nat → Bool) (x : Nat) : Nat → List (Nat × Nat)
  | 0 => []
  | k + 1 => if C x k = true then rowPairs C x k ++ [(x, k)] else rowPairs C x k
def allPairs (C : Nat → Nat → Bool) (n : Nat) : Nat → List (Nat × Nat)
  | 0 => []
  | x + 1 => allPairs C n x ++ rowPairs C x n
theorem rowPairs_yes {C : Nat → Nat → Bool} {x k : Nat} (h : C x k = true) : rowPairs C x (k + 1) = rowPairs C x k ++ [(x, k)] := by simp [rowPairs, h]
theorem rowPairs_no {C : Nat → Nat → Bool} {x k : Nat} (h : C x k = false) : rowPairs C x (k + 1) = rowPairs C x k := by simp [rowPairs, h]
theorem rowPairs_len (C : Nat → Nat → Bool) (x : Nat) : ∀ k, (rowPairs C x k).length ≤ k
  | 0 => by simp [rowPairs]
  | k + 1 => by
    have ih := rowPairs_len C x k
    cases h : C x k
    · rw [rowPairs_no h]; omega
    · rw [rowPairs_yes h, List.length_append]; simp; exact ih
theorem allPairs_len (C : Nat → Nat → Bool) (n : Nat) (hn : n ≤ 10) : ∀ x, (allPairs C n x).length ≤ x * 10
  | 0 => by simp [allPairs]
  | x + 1 => by
    have ih := allPairs_len C n hn x
    have := rowPairs_len C x n
    rw [allPairs, List.length_append]; omega
theorem rowPairs_congr {C D : Nat → Nat → Bool} {x : Nat} : ∀ k, (∀ y, y < k → C x y = D x y) → rowPairs C x k = rowPairs D x k
  | 0, _ => rfl
  | k + 1, h => by
    have ih := rowPairs_congr k (fun y hy => h y (by omega))
    simp only [rowPairs, h k (by omega), ih]
theorem allPairs_congr {C D : Nat → Nat → Bool} {n : Nat} : ∀ x, (∀ z y, z < x → y < n → C z y = D z y) → allPairs C n x = allPairs D n x
  | 0, _ => rfl
  | x + 1, h => by
    rw [allPairs, allPairs, allPairs_congr x (fun z y hz hy => h z y (by omega) hy), rowPairs_congr n (fun y hy => h x y (by omega) hy)]

/-- A value that is a slice of the pairs l. -/
def PSl (w : World) (v : Value) (l : List (Nat × Nat)) : Prop := ∃ a cap, v = .slice a l.length cap ∧ PRow w a l.length (pairAt l)
theorem PSl.below {w w' : World} {v : Value} {l : List (Nat × Nat)} (h : PSl w v l) (hb : Below w.heap.size w w') : PSl w' v l := by
  obtain ⟨a, cap, rfl, hr⟩ := h
  exact ⟨a, cap, rfl, hr.below hb⟩
theorem owns_pairs {w : World} {base : Nat} {v : Value} {l : List (Nat × Nat)} (h : w.ownsRow base 42 2 v l.length (pairVals l)) : PSl w v l := by
  by_cases hn : 0 < l.length
  · obtain ⟨g, cap, rfl⟩ := owns_form h hn
    refine ⟨_, cap, rfl, fun k hk => ⟨g, 0, rfl, ?_, ?_⟩⟩
    · rw [Nat.zero_add, h.cellAt _ (by omega)]; exact (pairVals_at l k hk).1
    · rw [Nat.zero_add, h.cellAt _ (by omega)]; exact (pairVals_at l k hk).2
  · have h0 : l.length = 0 := by omega
    rcases h.2 with ⟨rfl, _⟩ | ⟨g, cap, cur, rfl, _⟩
    · exact ⟨none, 0, by rw [h0], fun k hk => absurd (Nat.lt_of_le_of_lt (Nat.zero_le _) hk) hn⟩
    · exact ⟨_, cap, rfl, fun k hk => absurd (Nat.lt_of_le_of_lt (Nat.zero_le _) hk) hn⟩

theorem eqIn_pair (d : Nat) (x y : Int) (w : World) : (Op.equalIn (d + 2) 42 (.agg #[.int .i64 x, .int .i64 y]) (.agg #[.int .i64 x, .int .i64 y])).run Tryd.prog w = .ok true w := by
  have hP2 : Tryd.prog.underlying 42 = some (.array 2 3) := Tryd.underlying42
  have h3 : Tryd.prog.underlying 3 = some (.int .i64) := Tryd.underlying3
  obtain ⟨i0, hi, _, hz1, _⟩ := info_parts Tryd.info3
  have hd : (d + 2) = (d + 1) + 1 := rfl
  rw [hd, Op.equalIn]
  simp only [Sem.run_bind, run_underlying hP2, Result.andThen_ok]
  simp [sizeOf, typeInfo, hi, hz1, Std.Legacy.Range.forIn_eq_forIn_range', show List.range' 0 2 = [0, 1] from rfl, part, isAgg, Op.equalIn, run_underlying h3]
theorem neq_pair (x y : Int) (w : World) : (binOp .neq 42 (.agg #[.int .i64 x, .int .i64 y]) (.agg #[.int .i64 x, .int .i64 y])).run Tryd.prog w = .ok (.bool false) w := by
  simp only [binOp]
  simp [Op.equal, Op.maxDepth, eqIn_pair 9998]

end Go.Proofs.YtinblbkglkhjmaaDoor
namespace Go.Proofs.YtinblbkglkhjmaaDoor
open Go.RowKit

theorem kept_step {w0 w1 w2 : World} {n : Int} {a : Option Addr} {len cap : Nat} {f : Nat → Int}
    (h : w1.cell? ⟨w0.heap.size, 0, none⟩ = some (.int .i64 n) ∧ w1.cell? ⟨w0.heap.size, 1, none⟩ = some (.slice a len cap) ∧ Row w1 a len f ∧ Below w0.heap.size w0 w1)
    (hb : Below w1.heap.size w1 w2) :
    w2.cell? ⟨w0.heap.size, 0, none⟩ = some (.int .i64 n) ∧ w2.cell? ⟨w0.heap.size, 1, none⟩ = some (.slice a len cap) ∧ Row w2 a len f ∧ Below w0.heap.size w0 w2 := by
  obtain ⟨h1, h2, h3, h4⟩ := h
  obtain ⟨k1, k2, k3⟩ := Held.step ⟨h1, h2, h3⟩ hb
  exact ⟨k1, k2, k3, Below.then h4 hb⟩
theorem kept_row {w0 w1 : World} {n : Int} {a : Option Addr} {len cap : Nat} {f : Nat → Int}
    (h : w1.cell? ⟨w0.heap.size, 0, none⟩ = some (.int .i64 n) ∧ w1.cell? ⟨w0.heap.size, 1, none⟩ = some (.slice a len cap) ∧ Row w1 a len f ∧ Below w0.heap.size w0 w1) : Row w1 a len f := h.2.2.1
theorem kept_below {w0 w1 : World} {n : Int} {a : Option Addr} {len cap : Nat} {f : Nat → Int}
    (h : w1.cell? ⟨w0.heap.size, 0, none⟩ = some (.int .i64 n) ∧ w1.cell? ⟨w0.heap.size, 1, none⟩ = some (.slice a len cap) ∧ Row w1 a len f ∧ Below w0.heap.size w0 w1) : Below w0.heap.size w0 w1 := h.2.2.2
theorem kept_first {w0 : World} {n : Int} {a : Option Addr} {len cap : Nat} {f : Nat → Int} (hr : Row w0 a len f) :
    (w0.alloc (.cells #[.int .i64 n, .slice a len cap] 24)).drew.cell? ⟨w0.heap.size, 0, none⟩ = some (.int .i64 n) ∧ (w0.alloc (.cells #[.int .i64 n, .slice a len cap] 24)).drew.cell? ⟨w0.heap.size, 1, none⟩ = some (.slice a len cap) ∧ Row (w0.alloc (.cells #[.int .i64 n, .slice a len cap] 24)).drew a len f ∧ Below w0.heap.size w0 (w0.alloc (.cells #[.int .i64 n, .slice a len cap] 24)).drew := by
  obtain ⟨k1, k2, k3⟩ := Held.box (n := n) (cap := cap) hr
  exact ⟨k1, k2, k3, ((Below.refl _ _).alloc (Nat.le_refl _) _).drew⟩

end Go.Proofs.YtinblbkglkhjmaaDoor
namespace Go.Proofs.YtinblbkglkhjmaaDoor
open Go.RowKit

theorem Chk.good {n : Int} {len : Nat} {f : Nat → Int} (h : Chk n len f 0) : n = (len : Int) ∧ len ≤ 10 ∧ Rng len f ∧ Ord len (nat f) := by
  rcases h with ⟨h, _⟩ | ⟨m, hm, h10, ⟨h, _⟩ | ⟨rfl, ⟨h, _⟩ | ⟨hr, ⟨h, _⟩ | ⟨_, ho⟩⟩⟩⟩
  · cases h
  · cases h
  · cases h
  · cases h
  · exact ⟨hm, h10, hr, ho⟩
theorem Rng.row {w : World} {a : Option Addr} {len : Nat} {f : Nat → Int} (hr : Rng len f) (h : Row w a len f) : Row w a len (fun k => (nat f k : Nat)) := by
  intro j hj
  have := h j hj
  have e : f j = (nat f j : Nat) := by have := hr j hj; unfold nat; omega
  rw [e] at this
  exact this
theorem Rng.small {len : Nat} {f : Nat → Int} (hr : Rng len f) : ∀ k, k < len → nat f k < pw len := fun k hk => by
  have := hr k hk; unfold nat; omega
theorem Rng.small2 {len : Nat} {f : Nat → Int} (hr : Rng len f) (hl : len ≤ 10) : ∀ k, k < len → nat f k < 1024 := fun k hk =>
  Nat.lt_of_lt_of_le (hr.small k hk) (pw_le len hl)

end Go.Proofs.YtinblbkglkhjmaaDoor
namespace Go.Proofs.YtinblbkglkhjmaaDoor
open Go.RowKit

def sumTo (φ : Nat → Nat) : Nat → Nat
  | 0 => 0
  | k + 1 => sumTo φ k + φ k
theorem sumTo_congr {φ ψ : Nat → Nat} : ∀ n, (∀ k, k < n → φ k = ψ k) → sumTo φ n = sumTo ψ n
  | 0, _ => rfl
  | n + 1, h => by rw [sumTo, sumTo, sumTo_congr n (fun k hk => h k (by omega)), h n (by omega)]
theorem sumTo_le {φ : Nat → Nat} {B : Nat} : ∀ n, (∀ k, k < n → φ k ≤ B) → sumTo φ n ≤ n * B
  | 0, _ => by simp [sumTo]
  | n + 1, h => by
    have := sumTo_le n (fun k hk => h k (by omega))
    have := h n (by omega)
    rw [sumTo, Nat.succ_mul]; omega
theorem le_sumTo {φ : Nat → Nat} {k : Nat} : ∀ n, k < n → φ k ≤ sumTo φ n
  | 0, h => absurd h (Nat.not_lt_zero _)
  | n + 1, h => by
    rw [sumTo]
    by_cases e : k = n
    · subst e; omega
    · have := le_sumTo (φ := φ) n (show k < n by omega); omega
theorem sumTo_mono {φ : Nat → Nat} {m : Nat} : ∀ n, m ≤ n → sumTo φ m ≤ sumTo φ n
  | 0, h => by rw [show m = 0 by omega]; exact Nat.le_refl _
  | n + 1, h => by
    by_cases e : m = n + 1
    · subst e; exact Nat.le_refl _
    · have := sumTo_mono (φ := φ) n (show m ≤ n by omega); rw [sumTo]; omega
theorem sumTo_add (φ ψ : Nat → Nat) : ∀ n, sumTo (fun k => φ k + ψ k) n = sumTo φ n + sumTo ψ n
  | 0 => rfl
  | n + 1 => by rw [sumTo, sumTo, sumTo, sumTo_add φ ψ n]; omega
theorem sumTo_mul (c : Nat) (φ : Nat → Nat) : ∀ n, sumTo (fun k => c * φ k) n = c * sumTo φ n
  | 0 => by simp [sumTo]
  | n + 1 => by rw [sumTo, sumTo, sumTo_mul c φ n, Nat.mul_add]
/-- One value more, weighed. -/
theorem sumTo_upd {f M : Nat → Nat} {i v : Nat} : ∀ n, i < n → sumTo (fun x => upd f i (f i + v) x * M x) n = sumTo (fun x => f x * M x) n + v * M i
  | 0, h => absurd h (Nat.not_lt_zero _)
  | n + 1, h => by
    rw [sumTo, sumTo]
    by_cases e : i = n
    · subst e
      rw [upd_same, Nat.add_mul]
      have : sumTo (fun x => upd f i (f i + v) x * M x) i = sumTo (fun x => f x * M x) i := sumTo_congr i fun k hk => by rw [upd_other _ _ _ _ (by omega)]
      rw [this]; omega
    · rw [sumTo_upd n (by omega), upd_other _ _ _ _ (by omega)]; omega

theorem or_lt {taken k r : Nat} (ht : taken < pw r) (hk : k < r) : taken ||| pw k < pw r := Nat.or_lt_two_pow ht (Nat.pow_lt_pow_right (by decide) hk)
theorem or_free {x k : Nat} (h : x.testBit k = false) : x ||| pw k = x + pw k := by
  have hm : x % 2 ^ (k + 1) < 2 ^ k := by
    rw [Nat.mod_pow_succ]
    have h2 : x / 2 ^ k % 2 = 0 := by
      rw [Nat.testBit_eq_decide_div_mod_eq] at h
      have : ¬ (x / 2 ^ k % 2 = 1) := by simpa using h
      omega
    rw [h2, Nat.mul_zero, Nat.add_zero]
    exact Nat.mod_lt _ (Nat.two_pow_pos k)
  have hlt : x % 2 ^ (k + 1) < 2 ^ (k + 1) := Nat.mod_lt _ (Nat.two_pow_pos _)
  have hx : x = 2 ^ (k + 1) * (x / 2 ^ (k + 1)) + x % 2 ^ (k + 1) := (Nat.div_add_mod x (2 ^ (k + 1))).symm
  have h1 := Nat.two_pow_add_eq_or_of_lt hlt (x / 2 ^ (k + 1))
  have h2 : x % 2 ^ (k + 1) + 2 ^ k < 2 ^ (k + 1) := by rw [Nat.pow_succ] at *; omega
  have h3 := Nat.two_pow_add_eq_or_of_lt h2 (x / 2 ^ (k + 1))
  have h4 : x % 2 ^ (k + 1) ||| pw k = x % 2 ^ (k + 1) + pw k := or_pw_add hm
  have e : x ||| pw k = 2 ^ (k + 1) * (x / 2 ^ (k + 1)) + (x % 2 ^ (k + 1) + 2 ^ k) := by
    rw [h3, show x % 2 ^ (k + 1) + 2 ^ k = x % 2 ^ (k + 1) ||| pw k from h4.symm, ← Nat.or_assoc, ← h1, ← hx]
  rw [e]
  show _ = x + 2 ^ k
  omega
end Go.Proofs.YtinblbkglkhjmaaDoor
namespace Go.Proofs.YtinblbkglkhjmaaDoor
open Go.RowKit

/-- May a point stand next behind a set? -/
def may (u : Nat → Nat) (s i : Nat) : Bool := !s.testBit i && decide (lack (u i) s = 0)
theorem may_in {u : Nat → Nat} {s i : Nat} (h : s.testBit i = true) : may u s i = false := by simp [may, h]
theorem may_yes {u : Nat → Nat} {s i : Nat} (h : s.testBit i = false) (h2 : lack (u i) s = 0) : may u s i = true := by simp [may, h, h2]
theorem may_no {u : Nat → Nat} {s i : Nat} (h2 : lack (u i) s ≠ 0) : may u s i = false := by simp [may, h2]
theorem may_out {u : Nat → Nat} {s i : Nat} (h : may u s i = true) : s.testBit i = false := by
  cases hb : s.testBit i
  · rfl
  · rw [may_in hb] at h; cases h
/-- How many of n points a set has not. -/
def miss (n s : Nat) : Nat := sumTo (fun i => if s.testBit i = true then 0 else 1) n
theorem miss_le (n s : Nat) : miss n s ≤ n := by
  have := sumTo_le (φ := fun i => if s.testBit i = true then 0 else 1) (B := 1) n (fun k _ => by split <;> omega)
  unfold miss; omega
theorem add_bit {s i : Nat} (h : s.testBit i = false) (k : Nat) : (s + pw i).testBit k = (s.testBit k || decide (i = k)) := by
  rw [← or_free h, Nat.testBit_or, pw_bit]
theorem miss_add {s i : Nat} (h : s.testBit i = false) : ∀ n, i < n → miss n (s + pw i) + 1 = miss n s
  | 0, hi => absurd hi (Nat.not_lt_zero _)
  | n + 1, hi => by
    unfold miss
    rw [sumTo, sumTo]
    by_cases e : i = n
    · subst e
      have e1 : sumTo (fun k => if (s + pw i).testBit k = true then 0 else 1) i = sumTo (fun k => if s.testBit k = true then 0 else 1) i := sumTo_congr i fun k hk => by
        have hne : ¬ i = k := by omega
        rw [add_bit h k]; simp [hne]
      rw [e1, add_bit h i, h]; simp
    · have ih := miss_add h n (by omega)
      unfold miss at ih
      rw [add_bit h n, decide_eq_false e, Bool.or_false]
      omega
theorem add_lt {n s i : Nat} (hs : s < pw n) (hi : i < n) (h : s.testBit i = false) : s + pw i < pw n := by
  rw [← or_free h]; exact or_lt hs hi

/-- In how many ways the others go behind a set, with so much fuel. -/
def waysF (u : Nat → Nat) (n : Nat) : Nat → Nat → Nat
  | 0, s => if s = pw n - 1 then 1 else 0
  | f + 1, s => if pw n - 1 ≤ s then (if s = pw n - 1 then 1 else 0) else sumTo (fun i => if may u s i = true then waysF u n f (s + pw i) else 0) n
theorem waysF_top (u : Nat → Nat) (n : Nat) {s : Nat} (h : pw n - 1 ≤ s) : ∀ f, waysF u n f s = if s = pw n - 1 then 1 else 0
  | 0 => rfl
  | f + 1 => by unfold waysF; rw [if_pos h]
theorem waysF_eq (u : Nat → Nat) (n : Nat) : ∀ f f' s, pw n - s ≤ f → pw n - s ≤ f' → waysF u n f s = waysF u n f' s
  | 0, f', s, h, _ => by rw [waysF_top u n (by omega), waysF_top u n (by omega)]
  | f + 1, 0, s, _, h' => by rw [waysF_top u n (by omega), waysF_top u n (by omega)]
  | f + 1, f' + 1, s, h, h' => by
    by_cases e : pw n - 1 ≤ s
    · rw [waysF_top u n e, waysF_top u n e]
    · unfold waysF
      rw [if_neg e, if_neg e]
      refine sumTo_congr n fun i _ => ?_
      have hp := pw_pos i
      rw [waysF_eq u n f f' (s + pw i) (by omega) (by omega)]
/-- In how many ways the others go behind a set. -/
def ways (u : Nat → Nat) (n s : Nat) : Nat := waysF u n (pw n) s
/-- In how many ways they go behind a set with a point next. -/
def goes (u : Nat → Nat) (n s i : Nat) : Nat := if may u s i = true then ways u n (s + pw i) else 0
theorem goes_no {u : Nat → Nat} {n s i : Nat} (h : may u s i = false) : goes u n s i = 0 := by simp [goes, h]
theorem goes_yes {u : Nat → Nat} {n s i : Nat} (h : may u s i = true) : goes u n s i = ways u n (s + pw i) := by simp [goes, h]
theorem ways_all (u : Nat → Nat) (n : Nat) : ways u n (pw n - 1) = 1 := by unfold ways; rw [waysF_top u n (Nat.le_refl _)]; simp
theorem ways_eq {u : Nat → Nat} {n s : Nat} (h : s + 1 < pw n) : ways u n s = sumTo (goes u n s) n := by
  obtain ⟨f, hf⟩ : ∃ f, pw n = f + 1 := ⟨pw n - 1, by omega⟩
  have e : ways u n s = waysF u n (f + 1) s := by unfold ways; rw [hf]
  rw [e]
  unfold waysF
  rw [if_neg (by omega)]
  refine sumTo_congr n fun i _ => ?_
  unfold goes ways
  have hp := pw_pos i
  rw [waysF_eq u n f (pw n) (s + pw i) (by omega) (by omega)]
theorem all_bit {n i : Nat} (hi : i < n) : (pw n - 1).testBit i = true := by
  have := Nat.testBit_two_pow_sub_one n i
  unfold pw; rw [this]; simp [hi]
theorem goes_all {u : Nat → Nat} {n i : Nat} (hi : i < n) : goes u n (pw n - 1) i = 0 := goes_no (may_in (all_bit hi))
theorem sum_all {u : Nat → Nat} {n : Nat} : ∀ k, k ≤ n → sumTo (goes u n (pw n - 1)) k = 0
  | 0, _ => rfl
  | k + 1, h => by rw [sumTo, sum_all k (by omega), goes_all (by omega)]
theorem ways_le {u : Nat → Nat} {n : Nat} (h10 : n ≤ 10) : ∀ m s, pw n - s ≤ m → s < pw n → ways u n s ≤ 10 ^ miss n s
  | 0, s, h, hs => by omega
  | m + 1, s, h, hs => by
    by_cases e : s + 1 < pw n
    · rw [ways_eq e]
      by_cases z : ∃ i, i < n ∧ may u s i = true
      · obtain ⟨i, hi, hm⟩ := z
        have hb := may_out hm
        have h1 := miss_add hb n hi
        have h2 := sumTo_le (φ := goes u n s) (B := 10 ^ (miss n s - 1)) n (fun k hk => by
          cases hk2 : may u s k
          · rw [goes_no hk2]; exact Nat.zero_le _
          · rw [goes_yes hk2]
            have h3 := ways_le (u := u) h10 m (s + pw k) (by have := pw_pos k; omega) (add_lt hs hk (may_out hk2))
            have h4 := miss_add (may_out hk2) n hk
            rw [show miss n s - 1 = miss n (s + pw k) by omega]; exact h3)
        refine Nat.le_trans h2 ?_
        rw [show miss n s = (miss n s - 1) + 1 by omega, Nat.pow_succ, Nat.mul_comm]
        exact Nat.mul_le_mul (Nat.le_refl _) h10
      · have h2 := sumTo_le (φ := goes u n s) (B := 0) n (fun k hk => by
          cases hk2 : may u s k
          · rw [goes_no hk2]; exact Nat.zero_le _
          · exact absurd ⟨k, hk, hk2⟩ z)
        exact Nat.le_trans (by omega) (Nat.zero_le _)
    · have : s = pw n - 1 := by omega
      rw [this, ways_all]; exact Nat.pos_of_ne_zero (by have := Nat.pow_pos (n := miss n (pw n - 1)) (show 0 < 10 by decide); omega)
theorem ways_small {u : Nat → Nat} {n s : Nat} (h10 : n ≤ 10) (hs : s < pw n) : ways u n s ≤ 10000000000 := by
  refine Nat.le_trans (ways_le h10 _ s (Nat.le_refl _) hs) ?_
  have h1 := miss_le n s
  exact Nat.le_trans (Nat.pow_le_pow_right (by decide) (show miss n s ≤ 10 by omega)) (by decide)
theorem goes_small {u : Nat → Nat} {n s i : Nat} (h10 : n ≤ 10) (hs : s < pw n) (hi : i < n) : goes u n s i ≤ 10000000000 := by
  cases h : may u s i
  · rw [goes_no h]; exact Nat.zero_le _
  · rw [goes_yes h]; exact ways_small h10 (add_lt hs hi (may_out h))
theorem sum_small {u : Nat → Nat} {n s k : Nat} (h10 : n ≤ 10) (hs : s < pw n) (hk : k ≤ n) : sumTo (goes u n s) k ≤ 100000000000 := by
  have := sumTo_le (φ := goes u n s) (B := 10000000000) k (fun j hj => goes_small h10 hs (by omega))
  omega
theorem ways_congr {u v : Nat → Nat} {n : Nat} (h : ∀ s i, s < pw n → i < n → may u s i = may v s i) : ∀ m s, pw n - s ≤ m → s < pw n → ways u n s = ways v n s
  | 0, s, hm, hs => by omega
  | m + 1, s, hm, hs => by
    by_cases e : s + 1 < pw n
    · rw [ways_eq e, ways_eq e]
      refine sumTo_congr n fun k hk => ?_
      cases h1 : may u s k
      · rw [goes_no h1, goes_no (by rw [← h s k hs hk]; exact h1)]
      · rw [goes_yes h1, goes_yes (by rw [← h s k hs hk]; exact h1)]
        exact ways_congr h m _ (by have := pw_pos k; omega) (add_lt hs hk (may_out h1))
    · have : s = pw n - 1 := by omega
      rw [this, ways_all, ways_all]
/-- Where a point needs itself there is no way. -/
theorem ways_self {u : Nat → Nat} {n a : Nat} (ha : a < n) (hu : u a < 18446744073709551616) (h : (u a).testBit a = true) (hn : n ≤ 10) : ∀ m s, pw n - s ≤ m → s < pw n → s.testBit a = false → ways u n s = 0
  | 0, s, hm, hs, _ => by omega
  | m + 1, s, hm, hs, hb => by
    have e : s + 1 < pw n := by
      rcases Nat.lt_or_ge (s + 1) (pw n) with h1 | h1
      · exact h1
      · have : s = pw n - 1 := by omega
        rw [this, all_bit ha] at hb; cases hb
    rw [ways_eq e]
    have h2 := sumTo_le (φ := goes u n s) (B := 0) n (fun k hk => by
      cases hk2 : may u s k
      · rw [goes_no hk2]; exact Nat.zero_le _
      · rw [goes_yes hk2]
        have hka : k ≠ a := by
          intro hka; subst hka
          have hz : lack (u k) s ≠ 0 := by
            intro hz
            have := (lack_zero (u k) s hu (by have := pw_le n hn; omega)).1 hz k h
            rw [hb] at this; cases this
          rw [may_no hz] at hk2; cases hk2
        rw [ways_self ha hu h hn m _ (by have := pw_pos k; omega) (add_lt hs hk (may_out hk2)) (by rw [add_bit (may_out hk2), hb]; simpa using hka)]
        exact Nat.zero_le _)
    omega
end Go.Proofs.YtinblbkglkhjmaaDoor
