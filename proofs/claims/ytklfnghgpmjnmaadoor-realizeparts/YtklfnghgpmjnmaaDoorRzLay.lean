/-
  The rows of an order, one after the other, as realize.allRows yields them. Conditions: an order of at most ten points that lies in a slice of numbers.
-/
import Derived.RangeFuncBound
import Derived.RangeFuncCalls
import Derived.Shelf.RegionOpen
import Derived.Shelf.Abstract
import Derived.WalkKit
import Derived.OwnWalkIn
import Derived.TacticsInMore
import Derived.LoopNIn
import Derived.LoopIn
import Derived.Maps.AppendAt
import Derived.Test.YtklfnghgpmjnmaaDoorRangeW
import Derived.Test.YtklfnghgpmjnmaaDoorSums
import Derived.Test.YtklfnghgpmjnmaaDoorNth
import Derived.Test.YtklfnghgpmjnmaaDoorTurnsM
namespace Go.Proofs.YtklfnghgpmjnmaaDoor
open Go.RowKit
attribute [local go_sem] Oper.semAt_some

theorem allRows_any (n : Int) (a : Option Addr) (la ca : Nat) (w : World) :
    Calls Tryd.prog 25 #[.agg #[.int .i64 n, .slice a la ca]] w fun e w' => e = .returned (.func (.func 32) #[] #[.pointer (some ⟨w.heap.size, 0, none⟩)]) ∧ w' = w.alloc (.cells #[.int .i64 n, .slice a la ca] 24) := by
  go_enter Tryd.func25, Tryd.ntmps25
  go_wp2
  go_ret
  exact ⟨rfl, rfl⟩
/-- What lay below a block lies as it lay, but one block. -/
structure Oth (c B : Nat) (W W' : World) : Prop where
  size : W.heap.size ≤ W'.heap.size
  same : ∀ (k : Nat) (o : Obj), k < B → k ≠ c → W.heap[k]? = some o → o.isCells = true → W'.heap[k]? = some o
theorem Oth.refl (c B : Nat) (W : World) : Oth c B W W := ⟨Nat.le_refl _, fun _ _ _ _ h _ => h⟩
theorem Oth.trans {c B : Nat} {X Y Z : World} (h : Oth c B X Y) (k : Oth c B Y Z) : Oth c B X Z := ⟨Nat.le_trans h.size k.size, fun i o hb hi ho hc => k.same i o hb hi (h.same i o hb hi ho hc) hc⟩
theorem Oth.loop (c B : Nat) (W : World) (l : Nat) (r r' : Loop) (h : W.heap[l]? = some (.loop r)) : Oth c B W (W.putObj l (.loop r')) := by
  refine ⟨by simp [World.putObj], fun k o _ _ hk ho => ?_⟩
  by_cases e : k = l
  · subst e; rw [h] at hk; cases hk; cases ho
  · exact (World.putObj_heap_other e).trans hk
theorem Oth.below {c B : Nat} {W0 W W' : World} (h : Oth c B W0 W) (hB : B ≤ W0.heap.size) (hb : Below W.heap.size W W') : Oth c B W0 W' :=
  ⟨Nat.le_trans h.size hb.size, fun k o hk hkc h0 ho => (hb.block k (by have := h.size; omega)).trans (h.same k o hk hkc h0 ho)⟩
theorem cells_of_cell {W : World} {a : Addr} {v : Value} (h : W.cell? a = some v) : ∃ o : Obj, W.heap[a.block]? = some o ∧ o.isCells = true := by
  unfold World.cell? at h
  cases ho : W.heap[a.block]? with
  | none => rw [ho] at h; cases h
  | some o => rw [ho] at h; cases o <;> first | exact ⟨_, rfl, rfl⟩ | cases h
theorem Oth.cell {c B : Nat} {W W' : World} (h : Oth c B W W') {p : Addr} {v : Value} (hv : W.cell? p = some v) (hp : p.block ≠ c) (hB : p.block < B) : W'.cell? p = some v := by
  obtain ⟨o, ho, hc⟩ := cells_of_cell hv
  rw [← hv]
  exact World.cell?_of_block (w := W) ((h.same _ o hB hp ho hc).trans ho.symm)
theorem Oth.row {c B : Nat} {W W' : World} (h : Oth c B W W') {a : Option Addr} {n : Nat} {f : Nat → Int} (hr : Row W a n f) (hB : B = W.heap.size) (hc : ∀ b off, 0 < n → a = some ⟨b, off, none⟩ → b ≠ c) : Row W' a n f := fun k hk => by
  obtain ⟨b, off, e, hv⟩ := hr k hk
  have hlt : b < W.heap.size := World.block_lt_of_cell? _ _ hv
  exact ⟨b, off, e, h.cell hv (hc b off (by omega) e) (by rw [hB]; exact hlt)⟩

/-- What a round is handed: a row, by where it lies and its number. -/
def encR (n : Nat) (x : Option Addr × Nat × Nat) : Value := .slice x.1 n x.2.1
def VR (g : Nat → Nat) (n Z : Nat) (x : Option Addr × Nat × Nat) (W : World) : Prop := x.2.2 < ways g n 0 ∧ W.ownsRow Z 3 1 (encR n x) n (rowVals (nP g n x.2.2) n)

theorem abides_below {β : Type} {B : Nat} {J : β → World → Prop} (h : AbidesFrom B J) {s : β} {W W' : World} (hs : J s W) (hb : Below W.heap.size W W') : J s W' :=
  h s W W' none hs ⟨hb.os, hb.tape, hb.output, hb.size, fun k hk _ => hb.block k hk⟩ (fun r e => by cases e)

set_option maxRecDepth 100000 in
set_option maxHeartbeats 4000000 in
theorem rows_seq (c n B len : Nat) (a : Option Addr) (cap : Nat) (f : Nat → Int) (w : World) (hl : len ≤ maxLen) (hc : Chk (len : Nat) len f 0)
    (b0 : w.cell? ⟨B, 0, none⟩ = some (.int .i64 (len : Nat))) (b1 : w.cell? ⟨B, 1, none⟩ = some (.slice a len cap)) (hr : Row w a len f) (nB : B ≠ c) (hca : ∀ b off, 0 < len → a = some ⟨b, off, none⟩ → b ≠ c) :
    SeqW Fence.wide n Tryd.prog 32 #[.pointer (some ⟨B, 0, none⟩)] (encR len) (VR (nat f) len w.heap.size) (Oth c w.heap.size) (fun xs => xs.map (fun x => x.2.2) = List.range (ways (nat f) len 0)) (ways (nat f) len 0) w := fun l J W hW hJ hY h0 => by
  have HCK : Hid (Chk (len : Nat) len f 0) := hc
  have HJ : Hid (AbidesFrom W.heap.size J) := hJ
  have HO : Hid (∀ X, Oth c w.heap.size w X → X.cell? ⟨B, 0, none⟩ = some (.int .i64 (len : Nat)) ∧ X.cell? ⟨B, 1, none⟩ = some (.slice a len cap) ∧ Row X a len f) := fun X h =>
    ⟨h.cell b0 nB (World.block_lt_of_cell? _ _ b0), h.cell b1 nB (World.block_lt_of_cell? _ _ b1), h.row hr rfl hca⟩
  have HOW : Hid (Oth c w.heap.size w W) := (Oth.refl _ _ _).below (Nat.le_refl _) hW
  have HY := (show Hid _ from hY)
  have HJ0 : Hid (J [] W) := h0
  obtain ⟨hn, h10, _, _⟩ := hc.good
  have hws := ways_small (u := nat f) h10 (pw_pos len)
  obtain ⟨N, HN⟩ : ∃ N, Hid (N = ways (nat f) len 0) := ⟨_, rfl⟩
  rw [← HN.out] at hws
  have x0 := (HO.out W HOW.out).1
  have x1 := (HO.out W HOW.out).2.1
  clear hc b0 b1 hr hca hJ hY h0 hW
  refine callsIn_of_wp Tryd.func32 rfl trivial ?_ rfl
  simp only [Tryd.ntmps32, List.size_toArray, List.length_cons, List.length_nil, Nat.reduceAdd, Nat.reduceSub, Array.replicate_succ, Array.replicate_zero, List.push_toArray, List.append_toArray, List.nil_append, List.cons_append]
  gi_wp2
  refine ⟨trivial, fun h => by simp [Fence.wide] at h, (callsIn_wide.2 (count_any (len : Nat) a len cap f W hl (HO.out W HOW.out).2.2)).mono ?_⟩
  rintro e w1 ⟨⟨c1, hc1, he⟩, hb1⟩
  obtain rfl := Chk.unique hc1 HCK.out
  rcases he with ⟨h0, _⟩ | ⟨_, rfl⟩
  · exact absurd rfl h0
  rw [← HN.out]
  have HO1 : Hid (Oth c w.heap.size w w1) := HOW.out.below (Nat.le_refl _) hb1
  have HJ1 : Hid (J [] w1) := abides_below HJ.out HJ0.out hb1
  clear hb1 hc1 x0 x1 HJ0 HOW
  gi_wp2
  gi_loopw [14] (fun t wx => ∃ (k : Nat) (xs : List (Option Addr × Nat × Nat)), k ≤ N ∧ t = .int .i64 (k : Nat) ∧ Hid (xs.map (fun x => x.2.2) = List.range k) ∧ Hid (J xs wx) ∧ Hid (Oth c w.heap.size w wx)) (fun t _ => N - (intOf t).toNat)
  case atStart => exact ⟨0, [], Nat.zero_le _, rfl, rfl, HJ1, HO1⟩
  case round =>
    obtain ⟨k, xs, hk, rfl, HXS, HJX, HOX⟩ := hrel
    by_cases hkN : k < N
    · have hkN' : (k : Int) < (N : Int) := by omega
      have x0 := (HO.out wr HOX.out).1
      have x1 := (HO.out wr HOX.out).2.1
      gi_wp2
      refine ⟨trivial, fun h => by simp [Fence.wide] at h, (callsIn_wide.2 (nth_any (len : Nat) a len cap f (k : Nat) wr hl (HO.out wr HOX.out).2.2)).mono ?_⟩
      rintro e w2 ⟨⟨c2, hc2, he⟩, hb2⟩
      obtain rfl := Chk.unique hc2 HCK.out
      rcases he with ⟨h0, _⟩ | ⟨_, hno, _⟩ | ⟨_, k', hkk, hkw, a', cap', rfl, hrow, hown⟩
      · exact absurd rfl h0
      · exact absurd ⟨by omega, by rw [← HN.out]; omega⟩ hno
      obtain rfl : k = k' := by omega
      have HO2 : Hid (Oth c w.heap.size w w2) := HOX.out.below (Nat.le_refl _) hb2
      have HJ2 : Hid (J xs w2) := abides_below HJ.out HJX.out hb2
      have HV : Hid (VR (nat f) len w.heap.size (a', cap', k) w2) := ⟨hkw, owns_mono hown HOX.out.size⟩
      have HLX : Hid (xs.length < ways (nat f) len 0) := by
        have := congrArg List.length HXS.out
        rw [List.length_map, List.length_range] at this
        rw [this]; exact hkw
      have HNX : Hid ((xs ++ [(a', cap', k)]).map (fun x => x.2.2) = List.range (k + 1)) := by
        rw [List.map_append, HXS.out, List.range_succ]; rfl
      obtain ⟨fn, tmps, assign, body, hy, hRd⟩ := HY.out xs (a', cap', k) w2 HJ2.out HV.out HLX.out
      have hy' : Sem.run Tryd.prog (Instr.yield l #[.slice a' len cap']) w2 = Result.ok (Next.round l fn tmps assign body) w2 := hy
      clear hy hb2 hc2 hrow hown hkk hkw x0 x1 HV HLX HXS HJX HOX
      gi_wp2
      refine ⟨fun h => by simp [Fence.wide] at h, ?_⟩
      refine hRd.mono ?_
      rintro e w3 ⟨rfl, hj3, ho3⟩
      have HJ3 : Hid (J (xs ++ [(a', cap', k)]) w3) := hj3
      have HO3 : Hid (Oth c w.heap.size w w3) := HO2.out.trans ho3
      clear hj3 ho3 hRd hy' HJ2 HO2
      gi_wp2
      go_roundw
      case rel => exact ⟨k + 1, xs ++ [(a', cap', k)], by omega, by go_num, HNX, HJ3, HO3⟩
      case measure => simp [intOf]; omega
    · obtain rfl : k = N := by omega
      have HF : Hid (∃ xs : List (Option Addr × Nat × Nat), xs.map (fun x => x.2.2) = List.range (ways (nat f) len 0) ∧ J xs wr) := ⟨xs, by rw [← HN.out]; exact HXS.out, HJX.out⟩
      gi_wp2
      go_end0
      exact ⟨⟨_, rfl⟩, HF.out⟩
end Go.Proofs.YtklfnghgpmjnmaaDoor
