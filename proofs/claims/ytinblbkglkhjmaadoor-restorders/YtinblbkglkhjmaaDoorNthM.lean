/-
  What the reference's Rows answers: how many ways go on behind each set. Conditions: an order of at most ten points that lies in a slice of numbers.
  Lists of numbers as slices. No condition.
  What extend.Count answers, and that hasselaw.extendBegun answers true. No condition but that a slice reads as a slice of numbers.
  The row with a number: which point stands next. Plain facts: no Go text here. Conditions: at most ten points.
-/
import Derived.Test.YtinblbkglkhjmaaDoorLayOut
import Derived.Test.YtinblbkglkhjmaaDoorBuild
import Derived.Test.YtinblbkglkhjmaaDoorExtM
namespace Go.Proofs.YtinblbkglkhjmaaDoor
open Go.RowKit

/-- All stand already: one way. -/
def st (n s : Nat) : Nat := if s + 1 = pw n then 1 else 0
theorem st_le (n s : Nat) : st n s ≤ 1 := by unfold st; split <;> omega
theorem ways_st {u : Nat → Nat} {n s : Nat} (hs : s < pw n) : st n s + sumTo (goes u n s) n = ways u n s := by
  unfold st
  by_cases e : s + 1 = pw n
  · rw [if_pos e, show s = pw n - 1 by omega, sum_all n (Nat.le_refl _), ways_all]
  · rw [if_neg e, ways_eq (by omega), Nat.zero_add]

theorem tb_none {u : Nat → Nat} {n s : Nat} (hs : s < pw n) : 0 = tb u n (pw n) s := by
  have : ¬ pw n ≤ s := by omega
  simp [tb, this]
end Go.Proofs.YtinblbkglkhjmaaDoor
namespace Go.Proofs.YtinblbkglkhjmaaDoor
open Go.RowKit

def natVals (l : List Nat) : List Value := l.map fun x => .int .i64 (x : Nat)
theorem natVals_append (l m : List Nat) : natVals (l ++ m) = natVals l ++ natVals m := by simp [natVals]
def nth (l : List Nat) (k : Nat) : Nat := l.getD k 0
theorem natVals_at (l : List Nat) (k : Nat) (h : k < l.length) : (natVals l)[k]? = some (.int .i64 (nth l k : Nat)) := by
  simp [natVals, nth, h]
/-- A value that is a slice of the numbers l. -/
def NSl (w : World) (v : Value) (l : List Nat) : Prop := ∃ a cap, v = .slice a l.length cap ∧ Row w a l.length (fun k => (nth l k : Nat))
theorem owns_nats {w : World} {base : Nat} {v : Value} {l : List Nat} (h : w.ownsRow base 3 1 v l.length (natVals l)) : NSl w v l := by
  by_cases hn : 0 < l.length
  · obtain ⟨g, cap, rfl⟩ := owns_form h hn
    refine ⟨_, cap, rfl, fun k hk => ⟨g, 0, rfl, ?_⟩⟩
    rw [Nat.zero_add, h.cellAt _ (by omega)]; exact natVals_at l k hk
  · have h0 : l.length = 0 := by omega
    rcases h.2 with ⟨rfl, _⟩ | ⟨g, cap, cur, rfl, _⟩
    · exact ⟨none, 0, by rw [h0], fun k hk => absurd (Nat.lt_of_le_of_lt (Nat.zero_le _) hk) hn⟩
    · exact ⟨_, cap, rfl, fun k hk => absurd (Nat.lt_of_le_of_lt (Nat.zero_le _) hk) hn⟩
theorem below_append3 {w wx w1 : World} {o2 : Obj} {e : TypeId} {size n : Nat} {v : Value} {xs : List Value} (h : Below w.heap.size w wx) (hown : wx.ownsRow w.heap.size e size v n xs) (hg : (wx.alloc o2).grownBy w1 v.ownBlock) : Below w.heap.size w w1 :=
  (h.alloc h.size o2).grown hg (by have := h.size; simp; omega) (owns_block hown)

end Go.Proofs.YtinblbkglkhjmaaDoor
namespace Go.Proofs.YtinblbkglkhjmaaDoor
open Go.RowKit

def CountPost (n : Int) (len : Nat) (f : Nat → Int) (e : Ending) : Prop :=
  ∃ c : Int, Chk n len f c ∧ ((c ≠ 0 ∧ e = .returned (.tuple #[.int .i64 0, .int .i64 c])) ∨
    (c = 0 ∧ e = .returned (.tuple #[.int .i64 (ways (nat f) len 0 : Nat), .int .i64 0])))

theorem rcount_any (n b : Nat) (x : Value) (u : Nat → Nat) (w : World) (ht : Tabl w b n 0 u) :
    Calls Tryd.prog 69 #[.agg #[x, .slice (some ⟨b, 0, none⟩) (pw n) (pw n)]] w fun e w' => e = .returned (.int .i64 (ways u n 0 : Nat)) ∧ Below w.heap.size w w' := by
  have hc := ht 0 (pw_pos n) (Nat.le_refl _)
  have hlt : b < w.heap.size := World.block_lt_of_cell? _ _ hc
  have hpi : (0 : Int) < ((pw n : Nat) : Int) := by have := pw_pos n; omega
  clear ht
  generalize ways u n 0 = V at *
  go_enter Tryd.func69, Tryd.ntmps69
  go_wp2_with fail
  go_ret
  exact ⟨rfl, (Below.refl _ _).alloc (Nat.le_refl _) _⟩

set_option maxHeartbeats 1000000 in
theorem count_any (n : Int) (a : Option Addr) (len cap : Nat) (f : Nat → Int) (w : World) (hl : len ≤ maxLen) (hr : Row w a len f) :
    Calls Tryd.prog 60 #[.agg #[.int .i64 n, .slice a len cap]] w fun e w' => CountPost n len f e ∧ Below w.heap.size w w' := by
  have K0 : Held (w.alloc (.cells #[.int .i64 n, .slice a len cap] 24)) w.heap.size n a len cap f := Held.box hr
  have HB0 : Hid (Below w.heap.size w (w.alloc (.cells #[.int .i64 n, .slice a len cap] 24))) := (Below.refl _ _).alloc (Nat.le_refl _) _
  clear hr
  go_enter Tryd.func60, Tryd.ntmps60
  go_wp2_with fail
  refine (check_any n a len cap f _ hl K0.row).mono ?_
  rintro e w1 ⟨⟨c, rfl, hc⟩, hb⟩
  have K1 := K0.step hb
  have HB1 : Hid (Below w.heap.size w w1) := Below.then HB0.out hb
  clear hb K0 HB0
  by_cases h0 : c = 0
  · subst h0
    obtain ⟨rfl, h10, hrng, hord⟩ := hc.good
    have HC : Hid (Chk (len : Int) len f 0) := hc
    have k0 := K1.c0
    have k1 := K1.c1
    have HFIN : Hid (∀ v, v = ways (nat f) len 0 → CountPost len len f (.returned (.tuple #[.int .i64 (v : Nat), .int .i64 0]))) := fun v hv => ⟨0, HC.out, .inr ⟨rfl, by rw [hv]⟩⟩
    go_wp2_with fail
    refine (layOut_any len a cap (nat f) none 0 0 (fun _ => (0, 0)) _ h10 hrng.small (hrng.row K1.row) (fun k hk => absurd hk (Nat.not_lt_zero _)) (by omega) (fun k hk => absurd hk (Nat.not_lt_zero _))).mono ?_
    rintro e w2 ⟨⟨ac, cc, b, rfl, _, htab⟩, hb2⟩
    have HB2 : Hid (Below w.heap.size w w2) := Below.then HB1.out hb2
    have HT : Hid (Tabl w2 b len 0 (nat f)) := htab
    clear hb2 HB1 htab K1 k0 k1
    go_wp2_with fail
    refine (rcount_any len b _ (nat f) _ HT.out).mono ?_
    rintro e w3 ⟨rfl, hb3⟩
    have HB3 : Hid (Below w.heap.size w w3) := Below.then HB2.out hb3
    clear hb3 HB2 hrng hord hc
    go_wp2_with fail
    go_ret2
    exact ⟨HFIN.out _ rfl, HB3.out⟩
  · have hne : (c != 0) = true := by simpa using h0
    have HC : Hid (Chk n len f c) := hc
    clear hc
    go_wp2_with fail
    go_ret2
    exact ⟨⟨c, HC.out, .inl ⟨h0, rfl⟩⟩, HB1.out⟩

/-- Three points apart have six rows. -/
theorem three_rows (u : Nat → Nat) (h : ∀ k, k < 3 → u k = 0) : ways u 3 0 = 6 := by
  have m : ∀ s i, i < 3 → may u s i = !s.testBit i := fun s i hi => by
    have e : lack (u i) s = 0 := by rw [h i hi]; simp [lack]
    simp [may, e]
  have e8 : pw 3 = 8 := by decide
  have p0 : pw 0 = 1 := by decide
  have p1 : pw 1 = 2 := by decide
  have p2 : pw 2 = 4 := by decide
  have w7 : ways u 3 7 = 1 := by have := ways_all u 3; rw [e8] at this; exact this
  have go : ∀ s, s + 1 < 8 → ways u 3 s = (if s.testBit 0 = true then 0 else ways u 3 (s + 1)) + (if s.testBit 1 = true then 0 else ways u 3 (s + 2)) + (if s.testBit 2 = true then 0 else ways u 3 (s + 4)) := fun s hs => by
    rw [ways_eq (by rw [e8]; exact hs)]
    simp only [sumTo, goes, m s 0 (by decide), m s 1 (by decide), m s 2 (by decide), p0, p1, p2, Nat.zero_add]
    cases s.testBit 0 <;> cases s.testBit 1 <;> cases s.testBit 2 <;> simp
  have w6 : ways u 3 6 = 1 := by rw [go 6 (by decide)]; simp (decide := true) [w7]
  have w5 : ways u 3 5 = 1 := by rw [go 5 (by decide)]; simp (decide := true) [w7]
  have w3 : ways u 3 3 = 1 := by rw [go 3 (by decide)]; simp (decide := true) [w7]
  have w4 : ways u 3 4 = 2 := by rw [go 4 (by decide)]; simp (decide := true) [w5, w6]
  have w2 : ways u 3 2 = 2 := by rw [go 2 (by decide)]; simp (decide := true) [w3, w6]
  have w1 : ways u 3 1 = 2 := by rw [go 1 (by decide)]; simp (decide := true) [w3, w5]
  rw [go 0 (by decide)]; simp (decide := true) [w1, w2, w4]
theorem zero_chk : Chk 3 3 (fun _ => 0) 0 := by
  refine .inr ⟨3, rfl, by omega, .inr ⟨rfl, .inr ⟨?_, .inr ⟨rfl, ?_⟩⟩⟩⟩
  · unfold Rng; decide +kernel
  · unfold Ord OrdAt nat; decide +kernel

end Go.Proofs.YtinblbkglkhjmaaDoor
namespace Go.Proofs.YtinblbkglkhjmaaDoor
open Go.RowKit

/-- Where a number falls among sums. -/
def pick (φ : Nat → Nat) (k : Nat) : Nat → Nat
  | 0 => 0
  | m + 1 => if k < sumTo φ m then pick φ k m else m
theorem pick_spec {φ : Nat → Nat} {k : Nat} : ∀ n, k < sumTo φ n → pick φ k n < n ∧ sumTo φ (pick φ k n) ≤ k ∧ k < sumTo φ (pick φ k n + 1)
  | 0, h => absurd h (Nat.not_lt_zero _)
  | m + 1, h => by
    by_cases e : k < sumTo φ m
    · obtain ⟨h1, h2, h3⟩ := pick_spec m e
      rw [pick, if_pos e]
      exact ⟨by omega, h2, h3⟩
    · rw [pick, if_neg e]
      exact ⟨by omega, by omega, h⟩
theorem pick_uniq {φ : Nat → Nat} {k i n : Nat} (h1 : sumTo φ i ≤ k) (h2 : k < sumTo φ (i + 1)) (hi : i < n) : pick φ k n = i := by
  have hn : k < sumTo φ n := Nat.lt_of_lt_of_le h2 (sumTo_mono n hi)
  obtain ⟨p1, p2, p3⟩ := pick_spec n hn
  generalize pick φ k n = j at *
  rcases Nat.lt_trichotomy j i with h | h | h
  · have := sumTo_mono (φ := φ) i (show j + 1 ≤ i from h); omega
  · exact h
  · have := sumTo_mono (φ := φ) j (show i + 1 ≤ j from h); omega
/-- What stands, and what is left to count, behind t points of the row with a number. -/
def nst (u : Nat → Nat) (n k : Nat) : Nat → Nat × Nat
  | 0 => (0, k)
  | t + 1 => ((nst u n k t).1 + pw (pick (goes u n (nst u n k t).1) (nst u n k t).2 n), (nst u n k t).2 - sumTo (goes u n (nst u n k t).1) (pick (goes u n (nst u n k t).1) (nst u n k t).2 n))
def nS (u : Nat → Nat) (n k t : Nat) : Nat := (nst u n k t).1
def nK (u : Nat → Nat) (n k t : Nat) : Nat := (nst u n k t).2
/-- The point that stands there. -/
def nP (u : Nat → Nat) (n k t : Nat) : Nat := pick (goes u n (nS u n k t)) (nK u n k t) n
theorem nS_zero (u : Nat → Nat) (n k : Nat) : nS u n k 0 = 0 := rfl
theorem nK_zero (u : Nat → Nat) (n k : Nat) : nK u n k 0 = k := rfl
theorem nS_succ (u : Nat → Nat) (n k t : Nat) : nS u n k (t + 1) = nS u n k t + pw (nP u n k t) := rfl
theorem nK_succ (u : Nat → Nat) (n k t : Nat) : nK u n k (t + 1) = nK u n k t - sumTo (goes u n (nS u n k t)) (nP u n k t) := rfl
theorem miss_zero_iff {n s : Nat} (hs : s < pw n) : miss n s = 0 ↔ s = pw n - 1 := by
  constructor
  · intro h
    have hb : ∀ i, i < n → s.testBit i = true := fun i hi => by
      cases hb : s.testBit i
      · have := le_sumTo (φ := fun i => if s.testBit i = true then 0 else 1) n hi
        unfold miss at h
        rw [h] at this
        simp [hb] at this
      · rfl
    refine Nat.eq_of_testBit_eq fun i => ?_
    rcases Nat.lt_or_ge i n with hi | hi
    · rw [hb i hi, all_bit hi]
    · have h1 : s.testBit i = false := Nat.testBit_lt_two_pow (Nat.lt_of_lt_of_le hs (Nat.pow_le_pow_right (by decide) hi))
      have h2 : (pw n - 1).testBit i = false := Nat.testBit_lt_two_pow (Nat.lt_of_lt_of_le (by have := pw_pos n; show pw n - 1 < pw n; omega) (Nat.pow_le_pow_right (by decide) hi))
      rw [h1, h2]
  · intro h
    have := sumTo_le (φ := fun i => if s.testBit i = true then 0 else 1) (B := 0) n (fun i hi => by rw [h, all_bit hi]; simp)
    unfold miss; omega
theorem miss_empty : ∀ n, miss n 0 = n
  | 0 => rfl
  | n + 1 => by
    have := miss_empty n
    unfold miss at *
    rw [sumTo, this]; simp
/-- What is so at each place of the row. -/
structure NOk (u : Nat → Nat) (n k t : Nat) : Prop where
  lt : nS u n k t < pw n
  miss : miss n (nS u n k t) + t = n
  rest : nK u n k t < ways u n (nS u n k t)
structure NPt (u : Nat → Nat) (n k t : Nat) : Prop where
  room : nS u n k t + 1 < pw n
  lt : nP u n k t < n
  le : sumTo (goes u n (nS u n k t)) (nP u n k t) ≤ nK u n k t
  gt : nK u n k t < sumTo (goes u n (nS u n k t)) (nP u n k t + 1)
  all : nK u n k t < sumTo (goes u n (nS u n k t)) n
  may : may u (nS u n k t) (nP u n k t) = true
theorem NOk.pt {u : Nat → Nat} {n k t : Nat} (h : NOk u n k t) (ht : t < n) : NPt u n k t := by
  have hm := h.miss
  have hr : nS u n k t + 1 < pw n := by
    have h1 := h.lt
    have h2 := (miss_zero_iff h1).2
    by_cases e : nS u n k t = pw n - 1
    · have := h2 e; omega
    · omega
  have hw := h.rest
  rw [ways_eq hr] at hw
  obtain ⟨p1, p2, p3⟩ := pick_spec n hw
  refine ⟨hr, p1, p2, p3, hw, ?_⟩
  cases hmay : Go.Proofs.YtinblbkglkhjmaaDoor.may u (nS u n k t) (nP u n k t)
  · exfalso
    have : goes u n (nS u n k t) (nP u n k t) = 0 := goes_no hmay
    have h3 : nK u n k t < sumTo (goes u n (nS u n k t)) (nP u n k t) + goes u n (nS u n k t) (nP u n k t) := p3
    have h4 : sumTo (goes u n (nS u n k t)) (nP u n k t) ≤ nK u n k t := p2
    omega
  · rfl
theorem nok {u : Nat → Nat} {n k : Nat} (hk : k < ways u n 0) : ∀ t, t ≤ n → NOk u n k t
  | 0, _ => ⟨pw_pos n, by rw [nS_zero, miss_empty]; rfl, hk⟩
  | t + 1, ht => by
    have ih := nok hk t (by omega)
    have p := ih.pt (by omega)
    have hb := may_out p.may
    refine ⟨?_, ?_, ?_⟩
    · rw [nS_succ]; exact add_lt ih.lt p.lt hb
    · rw [nS_succ]
      have := miss_add hb n p.lt
      have := ih.miss
      omega
    · rw [nS_succ, nK_succ, ← goes_yes p.may]
      have h1 := p.le
      have h2 := p.gt
      rw [sumTo] at h2
      omega
theorem nK_le {u : Nat → Nat} {n k : Nat} : ∀ t, nK u n k t ≤ k
  | 0 => Nat.le_refl _
  | t + 1 => by have := nK_le (u := u) (n := n) (k := k) t; rw [nK_succ]; omega
/-- Where the search stands: not yet behind the point. -/
theorem search_in {φ : Nat → Nat} {k j n : Nat} (h : k < sumTo φ n) (hj : sumTo φ j ≤ k) : j < n := by
  rcases Nat.lt_or_ge j n with h1 | h1
  · exact h1
  · have := sumTo_mono (φ := φ) j h1; omega
end Go.Proofs.YtinblbkglkhjmaaDoor
