/-
  The number of a row: plain facts. No Go text here. Conditions: at most ten points.
  The row with a number, and the number of a row: plain facts. No Go text here. Conditions: at most ten points.
  The rows of an order, one after the other, as realize.allRows yields them. Conditions: an order of at most ten points that lies in a slice of numbers.
-/
import Derived.Test.YtinblbkglkhjmaaDoorNthM
import Derived.Test.YtinblbkglkhjmaaDoorExtM
import Derived.RangeFuncBound
import Derived.RangeFuncCalls
import Derived.Shelf.RegionOpen
import Derived.Shelf.Abstract
import Derived.WalkKit
import Derived.OwnWalkIn
import Derived.TacticsInMore
import Derived.LoopNIn
import Derived.LoopIn
import Derived.Maps.AppendAt
import Derived.Test.YtinblbkglkhjmaaDoorClone
import Derived.Test.YtinblbkglkhjmaaDoorNth
namespace Go.Proofs.YtinblbkglkhjmaaDoor
open Go.RowKit

/-- What stands behind the first points of a list. -/
def sB (r : Nat → Nat) (i : Nat) : Nat := sumTo (fun j => pw (r j)) i
theorem sB_succ (r : Nat → Nat) (i : Nat) : sB r (i + 1) = sB r i + pw (r i) := rfl
/-- The first points of a list stand as they may. -/
def RowTo (u : Nat → Nat) (n : Nat) (f : Nat → Int) (i : Nat) : Prop := ∀ j, j < i → 0 ≤ f j ∧ f j < (n : Nat) ∧ may u (sB (nat f) j) (nat f j) = true
theorem RowTo.less {u : Nat → Nat} {n : Nat} {f : Nat → Int} {i : Nat} (h : RowTo u n f i) {j : Nat} (hj : j ≤ i) : RowTo u n f j := fun k hk => h k (by omega)
theorem nat_lt {f : Nat → Int} {j n : Nat} (h0 : 0 ≤ f j) (h1 : f j < (n : Nat)) : nat f j < n := by unfold nat; omega
theorem nat_eq {f : Nat → Int} {j : Nat} (h0 : 0 ≤ f j) : f j = (nat f j : Nat) := by unfold nat; omega
theorem RowTo.set {u : Nat → Nat} {n : Nat} {f : Nat → Int} : ∀ i, RowTo u n f i → sB (nat f) i < pw n ∧ miss n (sB (nat f) i) + i = n
  | 0, _ => ⟨pw_pos n, by rw [show sB (nat f) 0 = 0 from rfl, miss_empty]; rfl⟩
  | i + 1, h => by
    obtain ⟨h1, h2⟩ := RowTo.set i (h.less (by omega))
    obtain ⟨g0, g1, g2⟩ := h i (by omega)
    have hlt := nat_lt g0 g1
    have hb := may_out g2
    rw [sB_succ]
    refine ⟨add_lt h1 hlt hb, ?_⟩
    have := miss_add hb n hlt
    omega
theorem RowTo.le {u : Nat → Nat} {n : Nat} {f : Nat → Int} {i : Nat} (h : RowTo u n f i) : i ≤ n := by have := (RowTo.set i h).2; omega
/-- Is a list a row? -/
def IsRw (u : Nat → Nat) (n lr : Nat) (f : Nat → Int) : Prop := lr = n ∧ RowTo u n f n
/-- Its number, by its first points. -/
def rk (u : Nat → Nat) (n : Nat) (r : Nat → Nat) (i : Nat) : Nat := sumTo (fun j => sumTo (goes u n (sB r j)) (r j)) i
theorem rk_succ (u : Nat → Nat) (n : Nat) (r : Nat → Nat) (i : Nat) : rk u n r (i + 1) = rk u n r i + sumTo (goes u n (sB r i)) (r i) := rfl
theorem rk_small {u : Nat → Nat} {n : Nat} {f : Nat → Int} (h10 : n ≤ 10) {i : Nat} (h : RowTo u n f i) : rk u n (nat f) i ≤ 1000000000000 := by
  have hi := h.le
  have := sumTo_le (φ := fun j => sumTo (goes u n (sB (nat f) j)) (nat f j)) (B := 100000000000) i (fun j hj => by
    obtain ⟨g0, g1, _⟩ := h j hj
    exact sum_small h10 (RowTo.set j (h.less (by omega))).1 (Nat.le_of_lt (nat_lt g0 g1)))
  unfold rk
  omega
end Go.Proofs.YtinblbkglkhjmaaDoor
namespace Go.Proofs.YtinblbkglkhjmaaDoor
open Go.RowKit

theorem sB_nP (u : Nat → Nat) (n k : Nat) : ∀ t, sB (nP u n k) t = nS u n k t
  | 0 => rfl
  | t + 1 => by rw [sB_succ, sB_nP u n k t, nS_succ]
theorem nat_cast (P : Nat → Nat) : nat (fun j => ((P j : Nat) : Int)) = P := by funext j; simp [nat]
theorem nth_isRw {u : Nat → Nat} {n k : Nat} (hk : k < ways u n 0) : IsRw u n n (fun j => ((nP u n k j : Nat) : Int)) := by
  refine ⟨rfl, fun j hj => ?_⟩
  have pt := (nok hk j (by omega)).pt hj
  refine ⟨Int.natCast_nonneg _, Int.ofNat_lt.2 pt.lt, ?_⟩
  rw [nat_cast, sB_nP]; exact pt.may
theorem rk_nK {u : Nat → Nat} {n k : Nat} (hk : k < ways u n 0) : ∀ t, t ≤ n → rk u n (nP u n k) t + nK u n k t = k
  | 0, _ => by simp [rk, sumTo, nK_zero]
  | t + 1, ht => by
    have ih := rk_nK hk t (by omega)
    have pt := (nok hk t (by omega)).pt (by omega)
    have h1 := pt.le
    rw [rk_succ, sB_nP, nK_succ]
    omega
theorem nK_end {u : Nat → Nat} {n k : Nat} (hk : k < ways u n 0) : nK u n k n = 0 := by
  have ok := nok hk n (Nat.le_refl _)
  have h1 := (miss_zero_iff ok.lt).1 (by have := ok.miss; omega)
  have h2 := ok.rest
  rw [h1, ways_all] at h2
  omega
theorem rk_nth {u : Nat → Nat} {n k : Nat} (hk : k < ways u n 0) : rk u n (nP u n k) n = k := by
  have h1 := rk_nK hk n (Nat.le_refl _)
  rw [nK_end hk] at h1
  exact h1
theorem pick_le {φ : Nat → Nat} {k k' n : Nat} (h : k ≤ k') (hk : k < sumTo φ n) (hk' : k' < sumTo φ n) : pick φ k n ≤ pick φ k' n := by
  obtain ⟨a1, a2, a3⟩ := pick_spec n hk
  obtain ⟨b1, b2, b3⟩ := pick_spec n hk'
  rcases Nat.lt_or_ge (pick φ k' n) (pick φ k n) with h1 | h1
  · have := sumTo_mono (φ := φ) (pick φ k n) (show pick φ k' n + 1 ≤ pick φ k n from h1); omega
  · exact h1
/-- Rows rise with their numbers. -/
theorem nth_rise {u : Nat → Nat} {n k k' : Nat} (hlt : k < k') (hk' : k' < ways u n 0) : ∃ t, t < n ∧ (∀ j, j < t → nP u n k j = nP u n k' j) ∧ nP u n k t < nP u n k' t := by
  have hk : k < ways u n 0 := by omega
  have key : ∀ t, t ≤ n → (∃ s, s < t ∧ (∀ j, j < s → nP u n k j = nP u n k' j) ∧ nP u n k s < nP u n k' s) ∨ ((∀ j, j < t → nP u n k j = nP u n k' j) ∧ nS u n k t = nS u n k' t ∧ nK u n k t < nK u n k' t) := by
    intro t
    induction t with
    | zero => intro _; exact .inr ⟨fun j hj => absurd hj (Nat.not_lt_zero _), rfl, hlt⟩
    | succ t ih =>
      intro ht
      rcases ih (by omega) with ⟨s, h1, h2, h3⟩ | ⟨h1, h2, h3⟩
      · exact .inl ⟨s, by omega, h2, h3⟩
      · have p := (nok hk t (by omega)).pt (by omega)
        have p' := (nok hk' t (by omega)).pt (by omega)
        have e1 := p.all
        have e2 := p'.all
        rw [h2] at e1
        have hle : nP u n k t ≤ nP u n k' t := by
          unfold nP
          rw [h2]
          exact pick_le (Nat.le_of_lt h3) e1 e2
        rcases Nat.lt_or_ge (nP u n k t) (nP u n k' t) with h4 | h4
        · exact .inl ⟨t, by omega, h1, h4⟩
        · have he : nP u n k t = nP u n k' t := by omega
          refine .inr ⟨fun j hj => ?_, ?_, ?_⟩
          · rcases Nat.lt_or_ge j t with h5 | h5
            · exact h1 j h5
            · rw [show j = t by omega]; exact he
          · rw [nS_succ, nS_succ, h2, he]
          · rw [nK_succ, nK_succ, h2, he]
            have l1 := p.le
            rw [h2, he] at l1
            omega
  rcases key n (Nat.le_refl _) with ⟨s, h1, h2, h3⟩ | ⟨_, _, h3⟩
  · exact ⟨s, h1, h2, h3⟩
  · rw [nK_end hk'] at h3; omega
/-- Has a set with each point all below it? -/
def Down (u : Nat → Nat) (n s : Nat) : Prop := ∀ i, i < n → s.testBit i = true → lack (u i) s = 0
theorem lack_not {x s : Nat} (hx : x < 18446744073709551616) (hs : s < 18446744073709551616) (h : lack x s ≠ 0) : ∃ j, x.testBit j = true ∧ s.testBit j = false := by
  refine Classical.byContradiction fun hn => h ((lack_zero x s hx hs).2 fun i hi => ?_)
  cases hb : s.testBit i
  · exact absurd ⟨i, hi, hb⟩ hn
  · rfl
theorem sub_lt {x y j : Nat} (hy : y < 18446744073709551616) (hx : x < 18446744073709551616) (h : lack x y = 0) (hj : y.testBit j = true) (hjx : x.testBit j = false) : x < y := by
  have hs := (lack_zero x y hx hy).1 h
  have hle : x ≤ y := by
    have : x &&& y = x := Nat.eq_of_testBit_eq fun i => by
      rw [Nat.testBit_and]
      cases hb : x.testBit i
      · rfl
      · rw [hs i hb]; rfl
    rw [← this]; exact Nat.and_le_right
  rcases Nat.lt_or_ge x y with h1 | h1
  · exact h1
  · have : x = y := by omega
    rw [this, hj] at hjx; cases hjx
/-- Of the points that do not stand one may stand next. -/
theorem next_may {u : Nat → Nat} {n s : Nat} (hn : n ≤ 10) (hu : Sm n n u) (ho : Ord n u) (hs : s < pw n) : ∀ m i, u i ≤ m → i < n → s.testBit i = false → ∃ j, j < n ∧ may u s j = true := by
  have hp := pw_le n hn
  have hb : ∀ i, i < n → u i < 18446744073709551616 := fun i hi => by have := hu i hi; omega
  intro m
  induction m with
  | zero =>
    intro i hm hi hb0
    refine ⟨i, hi, may_yes hb0 ?_⟩
    rw [show u i = 0 by omega]; simp [lack]
  | succ m ih =>
    intro i hm hi hb0
    by_cases h : lack (u i) s = 0
    · exact ⟨i, hi, may_yes hb0 h⟩
    · obtain ⟨j, h1, h2⟩ := lack_not (hb i hi) (by omega) h
      have hj : j < n := bit_of_lt (hu i hi) h1
      have hlt : u j < u i := sub_lt (hb i hi) (hb j hj) ((ho i hi).2 j hj h1) h1 (ho j hj).1
      exact ih j (by omega) hj h2
theorem Down.add {u : Nat → Nat} {n s i : Nat} (hn : n ≤ 10) (hu : Sm n n u) (hs : s < pw n) (hd : Down u n s) (hi : i < n) (hm : may u s i = true) : Down u n (s + pw i) := by
  have hp := pw_le n hn
  have hlt := add_lt hs hi (may_out hm)
  have key : ∀ k, k < n → lack (u k) s = 0 → lack (u k) (s + pw i) = 0 := fun k hk h => by
    have hk2 := hu k hk
    refine (lack_zero _ _ (by omega) (by omega)).2 fun j hj => ?_
    rw [add_bit (may_out hm), (lack_zero _ _ (by omega) (by omega)).1 h j hj]; rfl
  intro k hk hb
  rw [add_bit (may_out hm)] at hb
  refine key k hk ?_
  cases hs2 : s.testBit k
  · rw [hs2] at hb
    have : i = k := by simpa using hb
    subst this
    unfold may at hm
    rw [may_out (u := u) (by unfold may; exact hm)] at hm
    simpa using hm
  · exact hd k hk hs2
theorem ways_pos {u : Nat → Nat} {n : Nat} (hn : n ≤ 10) (hu : Sm n n u) (ho : Ord n u) : ∀ m s, pw n - s ≤ m → s < pw n → Down u n s → 0 < ways u n s
  | 0, s, hm, hs, _ => by omega
  | m + 1, s, hm, hs, hd => by
    by_cases e : s + 1 < pw n
    · rw [ways_eq e]
      have hfree : ∃ i, i < n ∧ s.testBit i = false := by
        refine Classical.byContradiction fun hno => ?_
        have h0 : miss n s = 0 := by
          have := sumTo_le (φ := fun i => if s.testBit i = true then 0 else 1) (B := 0) n (fun i hi => by
            cases hb : s.testBit i
            · exact absurd ⟨i, hi, hb⟩ hno
            · simp)
          unfold miss; omega
        have := (miss_zero_iff hs).1 h0
        omega
      obtain ⟨i, hi, hb⟩ := hfree
      obtain ⟨j, hj, hmay⟩ := next_may hn hu ho hs (u i) i (Nat.le_refl _) hi hb
      have h1 := le_sumTo (φ := goes u n s) n hj
      rw [goes_yes hmay] at h1
      have h2 := ways_pos hn hu ho m (s + pw j) (by have := pw_pos j; omega) (add_lt hs hj (may_out hmay)) (hd.add hn hu hs hj hmay)
      omega
    · rw [show s = pw n - 1 by omega, ways_all]; decide
theorem ways_some {u : Nat → Nat} {n : Nat} (hn : n ≤ 10) (hu : Sm n n u) (ho : Ord n u) : 0 < ways u n 0 :=
  ways_pos hn hu ho (pw n) 0 (by omega) (pw_pos n) (fun i _ h => by simp at h)
end Go.Proofs.YtinblbkglkhjmaaDoor
namespace Go.Proofs.YtinblbkglkhjmaaDoor
open Go.RowKit
attribute [local go_sem] Oper.semAt_some

theorem allRows_any (n : Int) (a : Option Addr) (la ca : Nat) (w : World) :
    Calls Tryd.prog 48 #[.agg #[.int .i64 n, .slice a la ca]] w fun e w' => e = .returned (.func (.func 59) #[] #[.pointer (some ⟨w.heap.size, 0, none⟩)]) ∧ w' = w.alloc (.cells #[.int .i64 n, .slice a la ca] 24) := by
  go_enter Tryd.func48, Tryd.ntmps48
  go_wp2
  go_ret
  exact ⟨rfl, rfl⟩
/-- What lay below a block lies as it lay, but one block. -/
structure Oth (c B : Nat) (W W' : World) : Prop where
  size : W.heap.size ≤ W'.heap.size
  same : ∀ (k : Nat) (o : Obj), k < B → k ≠ c → W.heap[k]? = some o → o.isCells = true → W'.heap[k]? = some o
theorem Oth.refl (c B : Nat) (W : World) : Oth c B W W := ⟨Nat.le_refl _, fun _ _ _ _ h _ => h⟩
theorem Oth.trans {c B : Nat} {X Y Z : World} (h : Oth c B X Y) (k : Oth c B Y Z) : Oth c B X Z := ⟨Nat.le_trans h.size k.size, fun i o hb hi ho hc => k.same i o hb hi (h.same i o hb hi ho hc) hc⟩
theorem Oth.loop (c B : Nat) (W : World) (l : Nat) (r r' : Loop) (h : W.heap[l]? = some (.loop r)) : Oth c B W (W.putObj l (.loop r')) := by
  refine ⟨by simp [World.putObj], fun k o _ _ hk ho => ?_⟩
  by_cases e : k = l
  · subst e; rw [h] at hk; cases hk; cases ho
  · exact (World.putObj_heap_other e).trans hk
theorem Oth.below {c B : Nat} {W0 W W' : World} (h : Oth c B W0 W) (hB : B ≤ W0.heap.size) (hb : Below W.heap.size W W') : Oth c B W0 W' :=
  ⟨Nat.le_trans h.size hb.size, fun k o hk hkc h0 ho => (hb.block k (by have := h.size; omega)).trans (h.same k o hk hkc h0 ho)⟩
theorem cells_of_cell {W : World} {a : Addr} {v : Value} (h : W.cell? a = some v) : ∃ o : Obj, W.heap[a.block]? = some o ∧ o.isCells = true := by
  unfold World.cell? at h
  cases ho : W.heap[a.block]? with
  | none => rw [ho] at h; cases h
  | some o => rw [ho] at h; cases o <;> first | exact ⟨_, rfl, rfl⟩ | cases h
theorem Oth.cell {c B : Nat} {W W' : World} (h : Oth c B W W') {p : Addr} {v : Value} (hv : W.cell? p = some v) (hp : p.block ≠ c) (hB : p.block < B) : W'.cell? p = some v := by
  obtain ⟨o, ho, hc⟩ := cells_of_cell hv
  rw [← hv]
  exact World.cell?_of_block (w := W) ((h.same _ o hB hp ho hc).trans ho.symm)
theorem Oth.row {c B : Nat} {W W' : World} (h : Oth c B W W') {a : Option Addr} {n : Nat} {f : Nat → Int} (hr : Row W a n f) (hB : B = W.heap.size) (hc : ∀ b off, 0 < n → a = some ⟨b, off, none⟩ → b ≠ c) : Row W' a n f := fun k hk => by
  obtain ⟨b, off, e, hv⟩ := hr k hk
  have hlt : b < W.heap.size := World.block_lt_of_cell? _ _ hv
  exact ⟨b, off, e, h.cell hv (hc b off (by omega) e) (by rw [hB]; exact hlt)⟩

/-- What a round is handed: a row, by where it lies and its number. -/
def encR (n : Nat) (x : Option Addr × Nat × Nat) : Value := .slice x.1 n x.2.1
def VR (g : Nat → Nat) (n Z : Nat) (x : Option Addr × Nat × Nat) (W : World) : Prop := x.2.2 < ways g n 0 ∧ W.ownsRow Z 3 1 (encR n x) n (rowVals (nP g n x.2.2) n)

theorem abides_below {β : Type} {B : Nat} {J : β → World → Prop} (h : AbidesFrom B J) {s : β} {W W' : World} (hs : J s W) (hb : Below W.heap.size W W') : J s W' :=
  h s W W' none hs ⟨hb.os, hb.tape, hb.output, hb.size, fun k hk _ => hb.block k hk⟩ (fun r e => by cases e)

set_option maxRecDepth 100000 in
set_option maxHeartbeats 4000000 in
theorem rows_seq (c n B len : Nat) (a : Option Addr) (cap : Nat) (f : Nat → Int) (w : World) (hl : len ≤ maxLen) (hc : Chk (len : Nat) len f 0)
    (b0 : w.cell? ⟨B, 0, none⟩ = some (.int .i64 (len : Nat))) (b1 : w.cell? ⟨B, 1, none⟩ = some (.slice a len cap)) (hr : Row w a len f) (nB : B ≠ c) (hca : ∀ b off, 0 < len → a = some ⟨b, off, none⟩ → b ≠ c) :
    SeqW Fence.wide n Tryd.prog 59 #[.pointer (some ⟨B, 0, none⟩)] (encR len) (VR (nat f) len w.heap.size) (Oth c w.heap.size) (fun xs => xs.map (fun x => x.2.2) = List.range (ways (nat f) len 0)) (ways (nat f) len 0) w := fun l J W hW hJ hY h0 => by
  have HCK : Hid (Chk (len : Nat) len f 0) := hc
  have HJ : Hid (AbidesFrom W.heap.size J) := hJ
  have HO : Hid (∀ X, Oth c w.heap.size w X → X.cell? ⟨B, 0, none⟩ = some (.int .i64 (len : Nat)) ∧ X.cell? ⟨B, 1, none⟩ = some (.slice a len cap) ∧ Row X a len f) := fun X h =>
    ⟨h.cell b0 nB (World.block_lt_of_cell? _ _ b0), h.cell b1 nB (World.block_lt_of_cell? _ _ b1), h.row hr rfl hca⟩
  have HOW : Hid (Oth c w.heap.size w W) := (Oth.refl _ _ _).below (Nat.le_refl _) hW
  have HY := (show Hid _ from hY)
  have HJ0 : Hid (J [] W) := h0
  obtain ⟨hn, h10, _, _⟩ := hc.good
  have hws := ways_small (u := nat f) h10 (pw_pos len)
  obtain ⟨N, HN⟩ : ∃ N, Hid (N = ways (nat f) len 0) := ⟨_, rfl⟩
  rw [← HN.out] at hws
  have x0 := (HO.out W HOW.out).1
  have x1 := (HO.out W HOW.out).2.1
  clear hc b0 b1 hr hca hJ hY h0 hW
  refine callsIn_of_wp Tryd.func59 rfl trivial ?_ rfl
  simp only [Tryd.ntmps59, List.size_toArray, List.length_cons, List.length_nil, Nat.reduceAdd, Nat.reduceSub, Array.replicate_succ, Array.replicate_zero, List.push_toArray, List.append_toArray, List.nil_append, List.cons_append]
  gi_wp2
  refine ⟨trivial, fun h => by simp [Fence.wide] at h, (callsIn_wide.2 (count_any (len : Nat) a len cap f W hl (HO.out W HOW.out).2.2)).mono ?_⟩
  rintro e w1 ⟨⟨c1, hc1, he⟩, hb1⟩
  obtain rfl := Chk.unique hc1 HCK.out
  rcases he with ⟨h0, _⟩ | ⟨_, rfl⟩
  · exact absurd rfl h0
  rw [← HN.out]
  have HO1 : Hid (Oth c w.heap.size w w1) := HOW.out.below (Nat.le_refl _) hb1
  have HJ1 : Hid (J [] w1) := abides_below HJ.out HJ0.out hb1
  clear hb1 hc1 x0 x1 HJ0 HOW
  gi_wp2
  gi_loopw [14] (fun t wx => ∃ (k : Nat) (xs : List (Option Addr × Nat × Nat)), k ≤ N ∧ t = .int .i64 (k : Nat) ∧ Hid (xs.map (fun x => x.2.2) = List.range k) ∧ Hid (J xs wx) ∧ Hid (Oth c w.heap.size w wx)) (fun t _ => N - (intOf t).toNat)
  case atStart => exact ⟨0, [], Nat.zero_le _, rfl, rfl, HJ1, HO1⟩
  case round =>
    obtain ⟨k, xs, hk, rfl, HXS, HJX, HOX⟩ := hrel
    by_cases hkN : k < N
    · have hkN' : (k : Int) < (N : Int) := by omega
      have x0 := (HO.out wr HOX.out).1
      have x1 := (HO.out wr HOX.out).2.1
      gi_wp2
      refine ⟨trivial, fun h => by simp [Fence.wide] at h, (callsIn_wide.2 (nth_any (len : Nat) a len cap f (k : Nat) wr hl (HO.out wr HOX.out).2.2)).mono ?_⟩
      rintro e w2 ⟨⟨c2, hc2, he⟩, hb2⟩
      obtain rfl := Chk.unique hc2 HCK.out
      rcases he with ⟨h0, _⟩ | ⟨_, hno, _⟩ | ⟨_, k', hkk, hkw, a', cap', rfl, hrow, hown⟩
      · exact absurd rfl h0
      · exact absurd ⟨by omega, by rw [← HN.out]; omega⟩ hno
      obtain rfl : k = k' := by omega
      have HO2 : Hid (Oth c w.heap.size w w2) := HOX.out.below (Nat.le_refl _) hb2
      have HJ2 : Hid (J xs w2) := abides_below HJ.out HJX.out hb2
      have HV : Hid (VR (nat f) len w.heap.size (a', cap', k) w2) := ⟨hkw, owns_mono hown HOX.out.size⟩
      have HLX : Hid (xs.length < ways (nat f) len 0) := by
        have := congrArg List.length HXS.out
        rw [List.length_map, List.length_range] at this
        rw [this]; exact hkw
      have HNX : Hid ((xs ++ [(a', cap', k)]).map (fun x => x.2.2) = List.range (k + 1)) := by
        rw [List.map_append, HXS.out, List.range_succ]; rfl
      obtain ⟨fn, tmps, assign, body, hy, hRd⟩ := HY.out xs (a', cap', k) w2 HJ2.out HV.out HLX.out
      have hy' : Sem.run Tryd.prog (Instr.yield l #[.slice a' len cap']) w2 = Result.ok (Next.round l fn tmps assign body) w2 := hy
      clear hy hb2 hc2 hrow hown hkk hkw x0 x1 HV HLX HXS HJX HOX
      gi_wp2
      refine ⟨fun h => by simp [Fence.wide] at h, ?_⟩
      refine hRd.mono ?_
      rintro e w3 ⟨rfl, hj3, ho3⟩
      have HJ3 : Hid (J (xs ++ [(a', cap', k)]) w3) := hj3
      have HO3 : Hid (Oth c w.heap.size w w3) := HO2.out.trans ho3
      clear hj3 ho3 hRd hy' HJ2 HO2
      gi_wp2
      go_roundw
      case rel => exact ⟨k + 1, xs ++ [(a', cap', k)], by omega, by go_num, HNX, HJ3, HO3⟩
      case measure => simp [intOf]; omega
    · obtain rfl : k = N := by omega
      have HF : Hid (∃ xs : List (Option Addr × Nat × Nat), xs.map (fun x => x.2.2) = List.range (ways (nat f) len 0) ∧ J xs wr) := ⟨xs, by rw [← HN.out]; exact HXS.out, HJX.out⟩
      gi_wp2
      go_end0
      exact ⟨⟨_, rfl⟩, HF.out⟩
end Go.Proofs.YtinblbkglkhjmaaDoor
