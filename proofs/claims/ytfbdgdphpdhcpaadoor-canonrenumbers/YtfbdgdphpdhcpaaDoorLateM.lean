/-
  What the closure that goes on with a list's beginning does, by induction on what is left: all lists that begin so are yielded, in order. Conditions: at most ten points; a round keeps all cells but those of C.
  Regions that draw their order and end with stores: a condition S on the world is kept up to the last operations, which wait for all that is taken first. No condition.
  Operations that yield their value in every world may be taken first, whoever is late. No condition.
  Regions that draw their order and end with stores: an operation for which the late ones wait by way of another one may be taken first. No condition.
  Regions that draw their order: an operation may be taken first, if the late ones wait for it, be it by way of others. No condition.
-/
import Derived.RangeFuncBox
import Derived.RangeFuncLeaves
import Derived.Shelf.Abstract
import Derived.WalkKit
import Derived.OwnWalkIn
import Derived.TacticsInMore
import Derived.LoopNIn
import Derived.LoopIn
import Derived.Maps.AppendAt
import Derived.Laws.OwnMore
import Derived.Deep.RegionHeld3
import Derived.Test.YtfbdgdphpdhcpaaDoorRngX
import Derived.Test.YtfbdgdphpdhcpaaDoorCaM
import Derived.Test.YtfbdgdphpdhcpaaDoorRows
namespace Go.Proofs.YtfbdgdphpdhcpaaDoor
open Go.RowKit Go.Shelf
set_option maxRecDepth 100000
attribute [local go_sem] Oper.semAt_some

theorem wp_appfit {o : Oper} {a : Act} {K : Act → World → Prop} {Q : Exit → Act → World → Prop} (w : World) (s x : Operand)
    (ho : o.op = .call { callee := .builtin .append, args := #[s, x], argTypes := #[22, 22] }) (base g k cap : Nat) (xs : List Value) (hs : a.eval s = .slice (some ⟨g, 0, none⟩) k cap) (hown : w.ownsRow base 3 1 (.slice (some ⟨g, 0, none⟩) k cap) k xs)
    (ad : Addr) (m c : Nat) (news : List Value) (hx : a.eval x = .slice (some ad) m c) (hn : news.length = m * 1) (hc : ∀ j u, news[j]? = some u → w.cell? (ad.add j) = some u) (h1c : ∀ u ∈ news, u.oneCell' = true) (b1 : k + m ≤ cap)
    (h : ∀ w', w'.ownsRow base 3 1 (.slice (some ⟨g, 0, none⟩) (k + m) cap) (k + m) (xs ++ news) → w.grownBy w' (some g) → K (a.put o.dst (.slice (some ⟨g, 0, none⟩) (k + m) cap)) w') : o.wp Tryd.prog a w K Q := by
  obtain ⟨i0, hi, hz0, hz1, hz2⟩ := info_parts Tryd.info3
  obtain ⟨w', hrun, r1, r2⟩ := run_append_fits (P := Tryd.prog) w base 22 o.type 3 i0 1 Tryd.underlying22 hi hz1 g k cap xs hown ad m c news hn hc h1c b1
  unfold Oper.wp
  simp [execOp, ho, resolve, invoke, builtin, hs, hx, hrun, Result.andThen]
  exact h w' r1 r2
theorem owns_cut {W : World} {base g k cap : Nat} {p : List Nat} {x : Nat} (h : W.ownsRow base 3 1 (.slice (some ⟨g, 0, none⟩) (k + 1) cap) (k + 1) (natVals (p ++ [x]))) (hp : p.length = k) : W.ownsRow base 3 1 (.slice (some ⟨g, 0, none⟩) k cap) k (natVals p) := by
  refine ⟨by simp [natVals, hp], ?_⟩
  rcases h.2 with ⟨h0, _⟩ | ⟨g', cap', cur, h1, h2, h3, h4, h5, h6, h7⟩
  · cases h0
  · simp only [Value.slice.injEq, Option.some.injEq, Addr.mk.injEq] at h1
    obtain ⟨⟨rfl, _⟩, _, rfl⟩ := h1
    refine .inr ⟨_, _, cur, rfl, h2, h3, by omega, h5, h6, ?_⟩
    have e : cur.toList.take (k * 1) = (cur.toList.take ((k + 1) * 1)).take k := by rw [List.take_take]; congr 1; omega
    rw [e, h7, natVals_append, List.take_left' (by simp [natVals, hp])]
theorem cell_al {w : World} {p : Addr} {v : Value} {o : Obj} (h : w.cell? p = some v) : (w.alloc o).cell? p = some v :=
  (((Below.refl w.heap.size w).alloc (Nat.le_refl _) o).cell (World.block_lt_of_cell? _ _ h)).trans h
/-- An append into B behind an alloc is the iterator's own doing. -/
theorem itr_app {s0 B : Nat} {wr w6 : World} {ob : Obj} (hs : s0 ≤ wr.heap.size ∧ s0 ≤ B) (hg : ((wr.alloc ob).drew).grownBy w6 (some B)) : Itr s0 B wr w6 := by
  refine ⟨(((Below.refl s0 wr).alloc hs.1 ob).drew).grown hg (by simp; omega) (fun q e => by cases e; exact hs.2), ?_⟩
  refine ⟨by have := hg.size; simp at this; omega, fun k o hk h0 hc => ?_⟩
  have hlt := (Array.getElem?_eq_some_iff.1 h0).1
  have h1 : (wr.alloc ob).heap[k]? = some o := (Below.heap_alloc wr ob k hlt).trans h0
  exact (hg.block k (by simp; omega) (fun e => hk (by cases e; rfl))).trans h1
theorem wrap_pow2 (n : Nat) (h : n < 62) : IntKind.i64.wrap (2 ^ n) = ((pw n : Nat) : Int) := by
  have := pw_small n h
  rw [show ((2 : Int) ^ n) = ((pw n : Nat) : Int) by simp [pw]]
  generalize pw n = m at *
  exact wrap_i64_small _ (by omega) (by omega)
theorem and_not1 {s x : Nat} (hs : s < 1024) (hx : x < 10) : bits BinOp.andNot IntKind.i64 (s : Int) (IntKind.i64.wrap (2 ^ x)) = ((lack s (pw x) : Nat) : Int) := by
  rw [wrap_pow2 x (by omega)]
  exact i64_andNot s (pw x) (Nat.lt_trans hs (by decide)) (Nat.lt_trans (pw_small x (by omega)) (by decide))
theorem and_not2 {s x : Nat} (hs : s < 1024) (hx : x < 10) : bits BinOp.andNot IntKind.i64 (s : Int) (wrap64 (2 ^ x)) = ((lack s (pw x) : Nat) : Int) := by
  rw [wrap_pow x (by omega)]
  exact i64_andNot s (pw x) (Nat.lt_trans hs (by decide)) (Nat.lt_trans (pw_small x (by omega)) (by decide))
set_option maxHeartbeats 8000000 in
theorem goOn_in {n l Y Gn B N s0 : Nat} {C : Nat → Prop} {W0 : World} {Vx : List Nat → Prop} {J : List (Nat × List Nat) → World → Prop}
    (hn : n ≤ 10) (hT : Tab W0) (nT : ¬ (C 1 ∨ 1 = B)) (cY : W0.cell? ⟨Y, 0, none⟩ = some (.func (.yield l) #[] #[])) (nY : ¬ (C Y ∨ Y = B))
    (cG : W0.cell? ⟨Gn, 0, none⟩ = some (.func (.func 45) #[] #[.pointer (some ⟨Y, 0, none⟩), .pointer (some ⟨Gn, 0, none⟩)])) (nG : ¬ (C Gn ∨ Gn = B))
    (hC : ∀ k, C k → k < s0) (hs0 : s0 ≤ W0.heap.size) (hBW : W0.heap.size ≤ B) (hJ : ∀ s X X', J s X → Itr s0 B X X' → J s X')
    (hY : ∀ m pre x X, J pre X → X.ownsRow W0.heap.size 3 1 (.slice (some ⟨B, 0, none⟩) n n) n (natVals x) → Vx x → pre.length < N → YieldAt Fence.wide m Tryd.prog l #[.slice (some ⟨B, 0, none⟩) n n] X fun e X' =>
      e = .returned (.bool true) ∧ J (pre ++ [(B, x)]) X' ∧ OthS C X X') :
    ∀ (d m k : Nat) (p : List Nat) (pre : List (Nat × List Nat)) (s : Nat) (W : World), k + d = n → p.length = k → s < 1024 → pc s = d → OthS (fun k => C k ∨ k = B) W0 W → W.ownsRow W0.heap.size 3 1 (.slice (some ⟨B, 0, none⟩) k n) k (natVals p) → J pre W →
      pre.length + (per d p s).length ≤ N → (∀ x, x ∈ per d p s → Vx x) →
      CallsIn Fence.wide m Tryd.prog 45 #[.slice (some ⟨B, 0, none⟩) k n, .int .i64 (s : Nat), .pointer (some ⟨Y, 0, none⟩), .pointer (some ⟨Gn, 0, none⟩)] W fun e W' =>
        e = .returned (.bool true) ∧ J (pre ++ (per d p s).map (Prod.mk B)) W' ∧ OthS (fun k => C k ∨ k = B) W W' ∧ W'.ownsRow W0.heap.size 3 1 (.slice (some ⟨B, 0, none⟩) k n) k (natVals p) := by
  intro d
  induction d with
  | zero =>
    intro m k p pre s W hkd hpk hs hd hO hR hj hN hVx
    obtain rfl : k = n := by omega
    obtain rfl : s = 0 := (pc_zero hs).1 hd
    obtain ⟨fn, tmps, assign, body, hy, hRd⟩ := hY (m - 1) pre p W hj hR (hVx p (by simp [per])) (by simp [per] at hN; omega)
    have y0 := hO.cell cY nY
    refine callsIn_of_wp Tryd.func45 rfl trivial ?_ rfl
    simp only [Tryd.ntmps45, List.size_toArray, List.length_cons, List.length_nil, Nat.reduceAdd, Nat.reduceSub, Array.replicate_succ, Array.replicate_zero, List.push_toArray, List.append_toArray, List.nil_append, List.cons_append]
    gi_wp2
    refine ⟨fun h => by simp [Fence.wide] at h, ?_⟩
    refine hRd.mono ?_
    rintro e W' ⟨rfl, hj', ho'⟩
    have HF : Hid (J (pre ++ (per 0 p 0).map (Prod.mk B)) W' ∧ OthS (fun k => C k ∨ k = B) W W' ∧ W'.ownsRow W0.heap.size 3 1 (.slice (some ⟨B, 0, none⟩) k k) k (natVals p)) := ⟨by simpa [per] using hj', ho'.mono fun _ h => .inl h, ho'.owns hR (fun q hq _ hc => by have := hC q hc; omega)⟩
    clear hj' ho' hRd hy hO hR hj hY hJ
    gi_wp2
    go_ret
    exact ⟨rfl, HF.out⟩
  | succ d ih =>
    intro m k p pre s W hkd hpk hs hd hO hR hj hN hVx
    have HIH := (show Hid _ from ih)
    have HO0 : Hid (OthS (fun k => C k ∨ k = B) W0 W) := hO
    have HR0 : Hid (W.ownsRow W0.heap.size 3 1 (.slice (some ⟨B, 0, none⟩) k n) k (natVals p)) := hR
    have HJ0 : Hid (J pre W) := hj
    have HJA : Hid (∀ s X X', J s X → Itr s0 B X X' → J s X') := hJ
    have HVX : Hid (∀ x, x ∈ per (d + 1) p s → Vx x) := hVx
    have HCE : Hid (∀ X, OthS (fun k => C k ∨ k = B) W0 X → X.cell? ⟨Gn, 0, none⟩ = some (.func (.func 45) #[] #[.pointer (some ⟨Y, 0, none⟩), .pointer (some ⟨Gn, 0, none⟩)])) := fun X h => h.cell cG nG
    have HTA : Hid (Tab W) := fun j hj => hO.cell (hT j hj) nT
    have HN : Hid (pre.length + (perTo d p s (pts s 10)).length ≤ N) := hN
    have HCS : Hid (∀ k, C k → k < s0) := hC
    have hsz : W0.heap.size ≤ W.heap.size := hO.size
    have HBB : Hid (W0.heap.size ≤ B) := hBW
    have hBlt : B < W.heap.size := by
      rcases hR.2 with ⟨h0, _⟩ | ⟨g', cap', cur, h1, h2, h3, _⟩
      · cases h0
      · simp only [Value.slice.injEq, Option.some.injEq, Addr.mk.injEq] at h1
        obtain ⟨⟨rfl, _⟩, _⟩ := h1
        exact (Array.getElem?_eq_some_iff.1 h3).1
    have hs0' : (s == 0) = false := by
      have : s ≠ 0 := fun e => by rw [e, (pc_zero (by decide)).2 rfl] at hd; omega
      simpa using this
    have hsI : ((s : Int) == 0) = false := by simp at hs0' ⊢; exact hs0'
    clear ih hO hR hj hJ hVx hY cY cG hN hT hC hs0' hBW
    refine callsIn_wide.2 ?_
    go_enter Tryd.func45, Tryd.ntmps45
    go_wp2_with fail
    refine (members_new s _ hs HTA.out).mono ?_
    rintro e w1 ⟨⟨v, rfl, hv, hvn⟩, hb1⟩
    obtain ⟨L, HL⟩ : ∃ L, Hid (L = pts s 10) := ⟨_, rfl⟩
    rw [← HL.out] at hv HN
    obtain ⟨am, cm, rfl, hrm⟩ := hv
    have HRM : Hid (∀ w', OthS (fun k => C k ∨ k = B) w1 w' → Row w' am L.length (fun k => (nth L k : Nat))) := fun w' h q hq => by
      obtain ⟨b, off, e, hc⟩ := hrm q hq
      refine ⟨b, off, e, h.cell hc ?_⟩
      have h1 : W.heap.size ≤ b := hvn b (by rw [e]; rfl)
      rintro (h2 | h2)
      · have := HCS.out b h2; omega
      · simp only at h2; omega
    have HO1 : Hid (OthS (fun k => C k ∨ k = B) W w1) := OthS.below _ hb1
    have HR1' : Hid (w1.ownsRow W0.heap.size 3 1 (.slice (some ⟨B, 0, none⟩) k n) k (natVals p)) := owns_below HR0.out hb1
    have HJ1 : Hid (J pre w1) := HJA.out _ _ _ HJ0.out (Itr.of_below hb1 (by omega))
    have hLl : L.length ≤ 10 := by rw [HL.out]; exact pts_len s 10
    have HLB : Hid (∀ j, j < L.length → nth L j ∈ pts s 10) := fun j hj => by rw [← HL.out]; exact nth_mem' hj
    have hb1s := hb1.size
    clear hb1 hrm hvn HR0 HJ0
    go_wp2_with fail
    go_loopw [17] (fun i wx => ∃ j : Nat, j ≤ L.length ∧ i = .int .i64 j ∧ Hid (OthS (fun k => C k ∨ k = B) w1 wx) ∧ Hid (wx.ownsRow W0.heap.size 3 1 (.slice (some ⟨B, 0, none⟩) k n) k (natVals p)) ∧ Hid (J (pre ++ (perTo d p s (L.take j)).map (Prod.mk B)) wx)) (fun i _ => L.length - (intOf i).toNat)
    case atStart => exact ⟨0, Nat.zero_le _, rfl, OthS.refl _ _, HR1'.out, show J (pre ++ (perTo d p s (L.take 0)).map (Prod.mk B)) w1 by simpa [perTo] using HJ1.out⟩
    case round =>
      obtain ⟨j, hj, rfl, HOX, HR, HJ⟩ := hrel
      clear HR1' HJ1
      by_cases hjl : j < L.length
      · have hjl' : (j : Int) < (L.length : Int) := by omega
        obtain ⟨x, HX⟩ : ∃ x, Hid (nth L j = x) := ⟨_, rfl⟩
        have hxm : x ∈ pts s 10 := by rw [← HX.out]; exact HLB.out j hjl
        have hx10 : x < 10 := pts_lt s 10 x hxm
        have HLS : Hid (lack s (pw x) < 1024 ∧ pc (lack s (pw x)) + 1 = pc s) := lack_pc hs hx10 (pts_bit 10 x hxm)
        have HPC : Hid (pc (lack s (pw x)) = d) := by have := HLS.out.2; show _ = _; omega
        have HNX : Hid (perTo d p s (L.take (j + 1)) = perTo d p s (L.take j) ++ per d (p ++ [x]) (lack s (pw x))) := by show _ = _; rw [take_nth hjl, perTo_snoc, HX.out]
        have HLE : Hid ((pre ++ (perTo d p s (L.take j)).map (Prod.mk B)).length + (per d (p ++ [x]) (lack s (pw x))).length ≤ N) := by
          have h1 := perTo_le d p s L (j + 1)
          have h2 := HN.out
          rw [HNX.out, List.length_append] at h1
          show _ ≤ N
          simp; omega
        have HM : Hid (∀ y, y ∈ per d (p ++ [x]) (lack s (pw x)) → Vx y) := fun y hy => HVX.out y (per_sub hxm hy)
        have HLX : Hid ((p ++ [x]).length = k + 1) := by show _ = _; simp [hpk]
        have HO : Hid (OthS (fun k => C k ∨ k = B) W wr) := HO1.out.trans HOX.out
        have hgr : wr.drew.cell? ⟨Gn, 0, none⟩ = some (.func (.func 45) #[] #[.pointer (some ⟨Y, 0, none⟩), .pointer (some ⟨Gn, 0, none⟩)]) := (HCE.out wr (HO0.out.trans HO.out) : wr.cell? _ = _)
        have HIS : Hid (s0 ≤ wr.heap.size ∧ s0 ≤ B) := by have h1 := HO.out.size; have h2 := HBB.out; exact ⟨by omega, by omega⟩
        have hpx := pw_small x (by omega)
        have HAN : Hid (bits BinOp.andNot IntKind.i64 (s : Int) (IntKind.i64.wrap (2 ^ x)) = ((lack s (pw x) : Nat) : Int)) := and_not1 hs hx10
        have HAN2 : Hid (bits BinOp.andNot IntKind.i64 (s : Int) (wrap64 (2 ^ x)) = ((lack s (pw x) : Nat) : Int)) := and_not2 hs hx10
        obtain ⟨bm, om, rfl, hcm'⟩ := HRM.out _ HOX.out j hjl
        have hcm : wr.cell? ⟨bm, om + j, none⟩ = some (.int .i64 (x : Nat)) := by rw [hcm', ← HX.out]
        have hkn : k < n := by omega
        clear hcm' hxm
        go_wp2_with fail
        clear hcm
        have hg0 := hgr
        have HR1 : Hid (∀ o, ((wr.alloc o).drew).ownsRow W0.heap.size 3 1 (.slice (some ⟨B, 0, none⟩) k n) k (natVals p)) := fun o => (HR.out.alloc o : (wr.alloc o).ownsRow _ _ _ _ _ _)
        refine wp_region_held_drew (S := (fun w' => w'.cell? ⟨Gn, 0, none⟩ = some (.func (.func 45) #[] #[.pointer (some ⟨Y, 0, none⟩), .pointer (some ⟨Gn, 0, none⟩)]))) (by kernel_rfl) (hg0) (fun hHeld => ?_)
        refine wpAnyH_take (i := 0) (oi := { dst := some 21, op := Go.Op.load 67 (Go.Operand.tmp 3), type := 67, pos := "lists.go:20", after := #[], guard := none }) (v := ?_) rfl (by kernel_rfl) (by kernel_rfl) (by kernel_rfl) (fun _ _ _ h => h) (Or.inl ⟨by rfl, ?hy⟩) (by assumption) ?_
        case hy => (intro w9 hSw; (try dsimp only at hSw); go_simp; try with_reducible rfl)
        try simp only [Act.put, List.setIfInBounds_toArray, List.set_cons_zero, List.set_cons_succ]
        refine wpAnyH_take (i := 1) (oi := { dst := some 22, op := Go.Op.move (Go.Operand.tmp 0), type := 22, pos := "lists.go:20", after := #[], guard := none }) (v := ?_) rfl (by kernel_rfl) (by kernel_rfl) (by kernel_rfl) (fun _ _ _ h => h) (Or.inl ⟨by rfl, ?hy⟩) (by assumption) ?_
        case hy => (intro w9 hSw; (try dsimp only at hSw); go_simp; try with_reducible rfl)
        try simp only [Act.put, List.setIfInBounds_toArray, List.set_cons_zero, List.set_cons_succ]
        refine wpAnyH_take (i := 2) (oi := { dst := some 23, op := Go.Op.move (Go.Operand.tmp 8), type := 3, pos := "lists.go:20", after := #[], guard := none }) (v := ?_) rfl (by kernel_rfl) (by kernel_rfl) (by kernel_rfl) (fun _ _ _ h => h) (Or.inl ⟨by rfl, ?hy⟩) (by assumption) ?_
        case hy => (intro w9 hSw; (try dsimp only at hSw); go_simp; try with_reducible rfl)
        try simp only [Act.put, List.setIfInBounds_toArray, List.set_cons_zero, List.set_cons_succ]
        refine wpAnyH_take (i := 5) (oi := { dst := some 26, op := Go.Op.move (Go.Operand.tmp 1), type := 3, pos := "lists.go:20", after := #[], guard := none }) (v := ?_) rfl (by kernel_rfl) (by kernel_rfl) (by kernel_rfl) (fun _ _ _ h => h) (Or.inl ⟨by rfl, ?hy⟩) (by assumption) ?_
        case hy => (intro w9 hSw; (try dsimp only at hSw); go_simp; try with_reducible rfl)
        try simp only [Act.put, List.setIfInBounds_toArray, List.set_cons_zero, List.set_cons_succ]
        refine wpAnyH_take (i := 6) (oi := { dst := some 27, op := Go.Op.move (Go.Operand.tmp 8), type := 3, pos := "lists.go:20", after := #[], guard := none }) (v := ?_) rfl (by kernel_rfl) (by kernel_rfl) (by kernel_rfl) (fun _ _ _ h => h) (Or.inl ⟨by rfl, ?hy⟩) (by assumption) ?_
        case hy => (intro w9 hSw; (try dsimp only at hSw); go_simp; try with_reducible rfl)
        try simp only [Act.put, List.setIfInBounds_toArray, List.set_cons_zero, List.set_cons_succ]
        refine wpAnyH_take (i := 7) (oi := { dst := some 28, op := Go.Op.binOp Go.BinOp.shl 3 (Go.Operand.const (Go.Value.int Go.IntKind.i64 1)) (Go.Operand.tmp 27) 3, type := 3, pos := "lists.go:20", after := #[{ on := 6, ground := Go.Ground.data }], guard := none }) (v := ?_) rfl (by kernel_rfl) (by kernel_rfl) (by kernel_rfl) (fun _ _ _ h => h) (Or.inl ⟨by rfl, ?hy⟩) (by assumption) ?_
        case hy => (intro w9 hSw; (try dsimp only at hSw); go_simp; try with_reducible rfl)
        try simp only [Act.put, List.setIfInBounds_toArray, List.set_cons_zero, List.set_cons_succ]
        refine wpAnyH_take (i := 8) (oi := { dst := some 29, op := Go.Op.binOp Go.BinOp.andNot 3 (Go.Operand.tmp 26) (Go.Operand.tmp 28) 3, type := 3, pos := "lists.go:20", after := #[{ on := 5, ground := Go.Ground.data }, { on := 7, ground := Go.Ground.data }], guard := none }) (v := ?_) rfl (by kernel_rfl) (by kernel_rfl) (by kernel_rfl) (fun _ _ _ h => h) (Or.inl ⟨by rfl, ?hy⟩) (by assumption) ?_
        case hy => (intro w9 hSw; (try dsimp only at hSw); go_simp; try with_reducible rfl)
        try simp only [Act.put, List.setIfInBounds_toArray, List.set_cons_zero, List.set_cons_succ]
        refine wpAnyH_ready (rs := [3]) (by kernel_rfl) (by simp) ?_
        refine AllReadyH.cons (o := { dst := some 24, op := Go.Op.buildSlice 22 1 #[(0, Go.Operand.tmp 23)], type := 22, pos := "lists.go:20", after := #[{ on := 2, ground := Go.Ground.data }], guard := none }) rfl (fun K hK => ?_) AllReadyH.nil
        go_simp
        skip
        refine hK.out _ _ ?_ (fun hHeld => ?_)
        · exact cell_al hg0
        clear hK K
        try simp only [Act.put, List.setIfInBounds_toArray, List.set_cons_zero, List.set_cons_succ]
        refine wpAnyH_ready (rs := [4]) (by kernel_rfl) (by simp) ?_
        refine AllReadyH.cons (o := { dst := some 25, op := Go.Op.call { callee := Go.Callee.builtin Go.Builtin.append, args := #[Go.Operand.tmp 22, Go.Operand.tmp 24], argTypes := #[22, 22] }, type := 22, pos := "lists.go:20", after := #[{ on := 1, ground := Go.Ground.data }, { on := 3, ground := Go.Ground.data }], guard := none }) rfl (fun K hK => ?_) AllReadyH.nil
        rw [if_pos (by rfl)]
        refine wp_appfit _ _ _ rfl W0.heap.size B k n (natVals p) rfl (HR1.out _) ⟨wr.heap.size, 0, none⟩ 1 1 [.int .i64 (x : Nat)] rfl rfl ?c1 ?c2 (by omega) ?_
        case c1 =>
          intro j u hj
          match j, hj with
          | 0, hj => simp at hj; subst hj; simp [Addr.add]
        case c2 => intro u hu; simp at hu; subst hu; rfl
        intro w6 hown' hgrow
        have hb6 : Itr s0 B wr w6 := itr_app HIS.out hgrow
        have HO6 : Hid (OthS (fun k => C k ∨ k = B) W w6) := HO.out.trans (hb6.2.mono fun _ h => .inr h)
        have HX6 : Hid (OthS (fun k => C k ∨ k = B) w1 w6) := HOX.out.trans (hb6.2.mono fun _ h => .inr h)
        have HJ6 : Hid (J (pre ++ (perTo d p s (L.take j)).map (Prod.mk B)) w6) := HJA.out _ _ _ HJ.out hb6
        have HR6 : Hid (w6.ownsRow W0.heap.size 3 1 (.slice (some ⟨B, 0, none⟩) (k + 1) n) (k + 1) (natVals (p ++ [x]))) := by rw [natVals_append]; exact hown'
        have HW6 : Hid (OthS (fun k => C k ∨ k = B) W0 w6) := HO0.out.trans HO6.out
        have hg6 := HCE.out _ HW6.out
        clear hown' hgrow hb6
        refine hK.out _ _ ?_ (fun hHeld => ?_)
        · exact hg6
        clear hK K
        try simp only [Act.put, List.setIfInBounds_toArray, List.set_cons_zero, List.set_cons_succ]
        refine wpAnyH_ready (rs := [9]) (by kernel_rfl) (by simp) ?_
        refine AllReadyH.cons (o := { dst := some 30, op := Go.Op.call { callee := Go.Callee.value (Go.Operand.tmp 21), args := #[Go.Operand.tmp 25, Go.Operand.tmp 29], argTypes := #[22, 3] }, type := 4, pos := "lists.go:20", after := #[{ on := 0, ground := Go.Ground.data }, { on := 4, ground := Go.Ground.data }, { on := 8, ground := Go.Ground.data }, { on := 4, ground := Go.Ground.chain }], guard := none }) rfl (fun K hK => ?_) AllReadyH.nil
        go_simp
        first | rw [HAN.out] | rw [HAN2.out]
        refine (callsIn_wide.1 (HIH.out 1 (k + 1) (p ++ [x]) (pre ++ (perTo d p s (L.take j)).map (Prod.mk B)) (lack s (pw x)) _ (by omega) HLX.out HLS.out.1 HPC.out HW6.out HR6.out HJ6.out HLE.out HM.out)).mono ?_
        rintro e w8 ⟨rfl, hj8, ho8, hr8⟩
        have HO8 : Hid (OthS (fun k => C k ∨ k = B) W w8) := HO6.out.trans ho8
        have HX8 : Hid (OthS (fun k => C k ∨ k = B) w1 w8) := HX6.out.trans ho8
        have HR8 : Hid (w8.ownsRow W0.heap.size 3 1 (.slice (some ⟨B, 0, none⟩) k n) k (natVals p)) := owns_cut hr8 hpk
        have HJ8 : Hid (J (pre ++ (perTo d p s (L.take (j + 1))).map (Prod.mk B)) w8) := by
          show J _ w8
          rw [HNX.out, List.map_append, ← List.append_assoc]; exact hj8
        have hg8 := HCE.out _ (HO0.out.trans HO8.out)
        clear hj8 ho8 hr8 HO6 HR6 HJ6 HW6 HX6
        refine hK.out _ _ ?_ (fun hHeld => ?_)
        · exact hg8
        clear hK K
        try simp only [Act.put, List.setIfInBounds_toArray, List.set_cons_zero, List.set_cons_succ]
        refine wpAnyH_take (i := 10) (oi := { dst := some 31, op := Go.Op.unOp Go.UnOp.not 4 (Go.Operand.tmp 30), type := 4, pos := "lists.go:20", after := #[{ on := 9, ground := Go.Ground.data }], guard := none }) (v := ?_) rfl (by kernel_rfl) (by kernel_rfl) (by kernel_rfl) (fun _ _ _ h => h) (Or.inl ⟨by rfl, ?hy⟩) (by assumption) ?_
        case hy => (intro w9 hSw; (try dsimp only at hSw); go_simp; try with_reducible rfl)
        try simp only [Act.put, List.setIfInBounds_toArray, List.set_cons_zero, List.set_cons_succ]
        refine wpAnyH_done (by kernel_rfl) ?_ _
        try simp only [Act.put, List.setIfInBounds_toArray, List.set_cons_zero, List.set_cons_succ]
        go_wp2_with fail
        go_roundw
        case rel => exact ⟨j + 1, by omega, by go_num, HX8.out, HR8.out, HJ8.out⟩
        case measure => simp [intOf]; omega
      · obtain rfl : j = L.length := by omega
        have HF : Hid (J (pre ++ (per (d + 1) p s).map (Prod.mk B)) wr ∧ OthS (fun k => C k ∨ k = B) W wr ∧ wr.ownsRow W0.heap.size 3 1 (.slice (some ⟨B, 0, none⟩) k n) k (natVals p)) := ⟨by
          have h := HJ.out
          rw [List.take_length, HL.out, perTo_all] at h; exact h, HO1.out.trans HOX.out, HR.out⟩
        clear HJ HOX HR HIH
        go_wp2_with fail
        go_ret
        exact ⟨rfl, HF.out⟩
end Go.Proofs.YtfbdgdphpdhcpaaDoor
namespace Go.Proofs.YtfbdgdphpdhcpaaDoor
open Go

section
variable {P : Program} {ops : Array Oper} {Q : Exit → Act → World → Prop} {S : World → Prop} {late : Nat → Bool}

/-- In whatever order the rest comes: behind each operation that is not one of the late ones S holds. -/
def Lates (P : Program) (ops : Array Oper) (Q : Exit → Act → World → Prop) (S : World → Prop) (late : Nat → Bool) : Nat → Array Bool → Act → World → Prop
  | 0, done, a, w => Region.ready .any ops done = [] ∧ Q .normal a w
  | k + 1, done, a, w => (Region.ready .any ops done = [] → Q .normal a w) ∧
      ∀ i, i ∈ Region.ready .any ops done → wpOp P ops Q i (fun a' w' => (late i = false → S w') ∧ Lates P ops Q S late k (done.setIfInBounds i true) a' w') a w
theorem Lates.any : ∀ (k : Nat) (done : Array Bool) (a : Act) (w : World), Lates P ops Q S late k done a w → wpAny P .any ops Q k done a w
  | 0, _, _, _, h => h
  | k + 1, _, _, _, h => ⟨h.1, fun i hi => wpOp_mono (fun a' w' h' => Lates.any k _ a' w' h'.2) (h.2 i hi)⟩
/-- Do the late ones wait for i? -/
def waits (ops : Array Oper) (late : Nat → Bool) (i : Nat) : Bool :=
  (List.range ops.size).all fun j => !(late j) || (match ops[j]? with
    | some o => o.after.any fun e => Region.binds .any e && e.on == i
    | none => true)
theorem waits_at {i j : Nat} {oj : Oper} (h : waits ops late i = true) (hl : late j = true) (hj : ops[j]? = some oj) : ∃ e, e ∈ oj.after ∧ Region.binds .any e = true ∧ e.on = i := by
  have hlt : j < ops.size := by
    rcases Nat.lt_or_ge j ops.size with h | h
    · exact h
    · rw [Array.getElem?_eq_none h] at hj; cases hj
  have := List.all_eq_true.1 h j (List.mem_range.2 hlt)
  rw [hl, hj] at this
  simp only [Bool.not_true, Bool.false_or] at this
  obtain ⟨k, hk, he⟩ := Array.any_eq_true.1 this
  simp only [Bool.and_eq_true, beq_iff_eq] at he
  exact ⟨_, Array.getElem_mem _, he.1, he.2⟩
/-- Number i may be taken first, if the late ones wait for it. -/
theorem Lates.first {i : Nat} {oi : Oper} {v : Value} (hi : ops[i]? = some oi) (hsel : ∀ (j : Nat) (o : Oper) cs b, ops[j]? = some o → o.op ≠ .select cs b)
    (hQ : ∀ c a w, Q (.panic c) (a.put oi.dst v) w → Q (.panic c) a w) (hlate : late i = false) (hw : waits ops late i = true) :
    ∀ (k : Nat) (done : Array Bool) (a : Act) (w : World),
      (∀ j oj, ops[j]? = some oj → j ≠ i → done.getD j true = false → (∀ e ∈ oj.after, Region.binds .any e = true → e.on ≠ i) → oi.apart ops oj = true) →
      i ∈ Region.ready .any ops done → YieldsIf P ops S oi v a → S w → Lates P ops Q S late k (done.setIfInBounds i true) (a.put oi.dst v) w → Lates P ops Q S late (k + 1) done a w
  | 0, done, a, w, _, hr, hy, hS, H => by
    refine ⟨fun h => ?_, fun j hj => ?_⟩
    · rw [h] at hr; cases hr
    · by_cases e : j = i
      · rw [e]; exact hy.wpOp hi hS ⟨fun _ => hS, H⟩
      · have := ready_mono hj e
        rw [H.1] at this; cases this
  | k + 1, done, a, w, hf, hr, hy, hS, H => by
    refine ⟨fun h => ?_, fun j hj => ?_⟩
    · rw [h] at hr; cases hr
    by_cases e : j = i
    · rw [e]; exact hy.wpOp hi hS ⟨fun _ => hS, H⟩
    obtain ⟨hj0, oj, hoj, hall⟩ := mem_ready.1 hj
    have hno : ∀ e ∈ oj.after, Region.binds .any e = true → e.on ≠ i := by
      intro e he hb he'
      have h1 := hall e he hb
      have h0 := (mem_ready.1 hr).1
      rw [he'] at h1
      rcases Nat.lt_or_ge i done.size with h' | h'
      · simp [h'] at h0 h1; rw [h0] at h1; cases h1
      · simp [Array.getElem?_eq_none h'] at h1
    have hjl : late j = false := by
      cases hl : late j
      · rfl
      · obtain ⟨e, he, hb, he'⟩ := waits_at hw hl hoj
        exact absurd he' (hno e he hb)
    have h1 := wpOp_putIf hoj (hf j oj hoj e hj0 hno) (fun cs b => hsel i oi cs b hi) (fun cs b => hsel j oj cs b hoj) hQ hy (H.2 j (ready_mono hj e))
    refine wpOp_mono (fun a' w' h3 => ⟨h3.2.1, Lates.first hi hsel hQ hlate hw k (done.setIfInBounds j true) a' w' ?_ (ready_mono hr (Ne.symm e)) h3.1 (h3.2.1 hjl) ?_⟩) h1
    · intro l ol hl hli hun hnl
      refine hf l ol hl hli ?_ hnl
      by_cases q : j = l
      · rw [← q]; exact hj0
      · rw [getD_set_ne true q] at hun; exact hun
    · rw [Array.setIfInBounds_comm _ _ e]; exact h3.2.2
theorem lates_take {i : Nat} {oi : Oper} {v : Value} {k : Nat} {done : Array Bool} {a : Act} {w : World} (hi : ops[i]? = some oi)
    (hs : Region.noSelect ops = true) (hf : Region.free .any ops done i = true) (hr : (Region.ready .any ops done).contains i = true) (hl : (late i = false) ∧ waits ops late i = true)
    (hQ : ∀ c a w, Q (.panic c) (a.put oi.dst v) w → Q (.panic c) a w) (hy : YieldsIf P ops S oi v a) (hS : S w)
    (h : Lates P ops Q S late k (done.setIfInBounds i true) (a.put oi.dst v) w) : Lates P ops Q S late (k + 1) done a w :=
  Lates.first hi (Region.noSelect_spec hs) hQ hl.1 hl.2 k done a w (Region.free_spec hi hf) (by simpa using hr) hy hS h
/-- Each of some comes next. -/
def AllLate (P : Program) (ops : Array Oper) (Q : Exit → Act → World → Prop) (S : World → Prop) (late : Nat → Bool) (k : Nat) (done : Array Bool) (a : Act) (w : World) (rs : List Nat) : Prop :=
  ∀ i ∈ rs, wpOp P ops Q i (fun a' w' => (late i = false → S w') ∧ Lates P ops Q S late k (done.setIfInBounds i true) a' w') a w
theorem AllLate.nil {k : Nat} {done : Array Bool} {a : Act} {w : World} : AllLate P ops Q S late k done a w [] := fun _ h => by cases h
theorem AllLate.cons {k : Nat} {done : Array Bool} {a : Act} {w : World} {i : Nat} {o : Oper} {rs : List Nat} (ho : ops[i]? = some o)
    (h : ∀ K' : Act → World → Prop, Shut (∀ a w, (late i = false → S w) → Lates P ops Q S late k (done.setIfInBounds i true) a w → K' a w) → if Region.wanted o (yielded ops a.tmps) = true then Oper.wp P o a w K' Q else K' (a.put o.dst undef) w)
    (hs : AllLate P ops Q S late k done a w rs) : AllLate P ops Q S late k done a w (i :: rs) := fun j hj => by
  rcases List.mem_cons.1 hj with rfl | hj
  · exact wpOp_step ho (fun K' hK => h K' (fun a w hS hW => hK a w ⟨hS, hW⟩))
  · exact hs j hj
theorem lates_ready {rs : List Nat} {k : Nat} {done : Array Bool} {a : Act} {w : World} (hr : Region.ready .any ops done = rs) (hne : rs ≠ [])
    (h : AllLate P ops Q S late k done a w rs) : Lates P ops Q S late (k + 1) done a w := ⟨fun h0 => absurd (hr ▸ h0) hne, hr ▸ h⟩
theorem lates_done {done : Array Bool} {a : Act} {w : World} (hr : Region.ready .any ops done = []) (h : Q .normal a w) : ∀ k, Lates P ops Q S late k done a w
  | 0 => ⟨hr, h⟩
  | _ + 1 => ⟨fun _ => h, by rw [hr]; simp⟩
theorem wp_lates {id : Nat} {a : Act} {w : World} (hm : P.follows .mixedOrders = true) (h : Lates P ops Q S late ops.size (Array.replicate ops.size false) a w.drew) : (Code.region id ops true).wp P Q a w :=
  wp_region_any hm (Lates.any _ _ _ _ h)
end
end Go.Proofs.YtfbdgdphpdhcpaaDoor
namespace Go.Proofs.YtfbdgdphpdhcpaaDoor
open Go

section
variable {P : Program} {ops : Array Oper} {Q : Exit → Act → World → Prop} {S : World → Prop} {late : Nat → Bool}
/-- Number i may be taken first, whoever is late, if it yields its value in every world. -/
theorem Lates.free {i : Nat} {oi : Oper} {v : Value} (hi : ops[i]? = some oi) (hsel : ∀ (j : Nat) (o : Oper) cs b, ops[j]? = some o → o.op ≠ .select cs b)
    (hQ : ∀ c a w, Q (.panic c) (a.put oi.dst v) w → Q (.panic c) a w) :
    ∀ (k : Nat) (done : Array Bool) (a : Act) (w : World),
      (∀ j oj, ops[j]? = some oj → j ≠ i → done.getD j true = false → (∀ e ∈ oj.after, Region.binds .any e = true → e.on ≠ i) → oi.apart ops oj = true) →
      i ∈ Region.ready .any ops done → YieldsIf P ops (fun _ => True) oi v a → late i = true → Lates P ops Q S late k (done.setIfInBounds i true) (a.put oi.dst v) w → Lates P ops Q S late (k + 1) done a w
  | 0, done, a, w, _, hr, hy, hS, H => by
    refine ⟨fun h => ?_, fun j hj => ?_⟩
    · rw [h] at hr; cases hr
    · by_cases e : j = i
      · rw [e]; exact hy.wpOp hi trivial ⟨fun h => (by rw [hS] at h; cases h), H⟩
      · have := ready_mono hj e
        rw [H.1] at this; cases this
  | k + 1, done, a, w, hf, hr, hy, hS, H => by
    refine ⟨fun h => ?_, fun j hj => ?_⟩
    · rw [h] at hr; cases hr
    by_cases e : j = i
    · rw [e]; exact hy.wpOp hi trivial ⟨fun h => (by rw [hS] at h; cases h), H⟩
    obtain ⟨hj0, oj, hoj, hall⟩ := mem_ready.1 hj
    have hno : ∀ e ∈ oj.after, Region.binds .any e = true → e.on ≠ i := by
      intro e he hb he'
      have h1 := hall e he hb
      have h0 := (mem_ready.1 hr).1
      rw [he'] at h1
      rcases Nat.lt_or_ge i done.size with h' | h'
      · simp [h'] at h0 h1; rw [h0] at h1; cases h1
      · simp [Array.getElem?_eq_none h'] at h1
    have h1 := wpOp_putIf hoj (hf j oj hoj e hj0 hno) (fun cs b => hsel i oi cs b hi) (fun cs b => hsel j oj cs b hoj) hQ hy (H.2 j (ready_mono hj e))
    refine wpOp_mono (fun a' w' h3 => ⟨h3.2.1, Lates.free hi hsel hQ k (done.setIfInBounds j true) a' w' ?_ (ready_mono hr (Ne.symm e)) h3.1 hS ?_⟩) h1
    · intro l ol hl hli hun hnl
      refine hf l ol hl hli ?_ hnl
      by_cases q : j = l
      · rw [← q]; exact hj0
      · rw [getD_set_ne true q] at hun; exact hun
    · rw [Array.setIfInBounds_comm _ _ e]; exact h3.2.2
/-- Do the late ones that are not done yet wait for i? -/
def waitsD (ops : Array Oper) (late : Nat → Bool) (done : Array Bool) (i : Nat) : Bool :=
  (List.range ops.size).all fun j => !(late j) || (done.getD j true || (match ops[j]? with
    | some o => o.after.any fun e => Region.binds .any e && e.on == i
    | none => true))
end
end Go.Proofs.YtfbdgdphpdhcpaaDoor
namespace Go.Proofs.YtfbdgdphpdhcpaaDoor
open Go

section
variable {P : Program} {ops : Array Oper} {Q : Exit → Act → World → Prop} {S : World → Prop} {late : Nat → Bool}
/-- Does one wait for i? -/
def waitsOn (om : Oper) (i : Nat) : Bool := om.after.any fun e => Region.binds .any e && e.on == i
end
end Go.Proofs.YtfbdgdphpdhcpaaDoor
namespace Go.Proofs.YtfbdgdphpdhcpaaDoor
open Go

section
variable {P : Program} {ops : Array Oper} {Q : Exit → Act → World → Prop} {S : World → Prop} {late : Nat → Bool}
/-- Do the late ones, and those of M, wait for i or one of M? -/
def waitsM (ops : Array Oper) (late : Nat → Bool) (i : Nat) (M : List Nat) : Bool :=
  (List.range ops.size).all fun j => !(late j || M.contains j) || (match ops[j]? with
    | some o => o.after.any fun e => Region.binds .any e && (e.on == i || M.contains e.on)
    | none => true)
theorem waitsM_at {i j : Nat} {M : List Nat} {oj : Oper} (h : waitsM ops late i M = true) (hl : late j = true ∨ j ∈ M) (hj : ops[j]? = some oj) : ∃ e, e ∈ oj.after ∧ Region.binds .any e = true ∧ (e.on = i ∨ e.on ∈ M) := by
  have hlt : j < ops.size := by
    rcases Nat.lt_or_ge j ops.size with h | h
    · exact h
    · rw [Array.getElem?_eq_none h] at hj; cases hj
  have h1 := List.all_eq_true.1 h j (List.mem_range.2 hlt)
  have h2 : (late j || M.contains j) = true := by
    rcases hl with hl | hl
    · rw [hl]; rfl
    · rw [List.contains_iff_mem.2 hl, Bool.or_true]
  rw [h2, hj] at h1
  simp only [Bool.not_true, Bool.false_or] at h1
  obtain ⟨k, hk, he⟩ := Array.any_eq_true.1 h1
  rw [Bool.and_eq_true, Bool.or_eq_true, beq_iff_eq] at he
  refine ⟨_, Array.getElem_mem _, he.1, ?_⟩
  rcases he.2 with he | he
  · exact .inl he
  · exact .inr (List.contains_iff_mem.1 he)
theorem Lates.firstM {i : Nat} {M : List Nat} {oi : Oper} {v : Value} (hi : ops[i]? = some oi) (hsel : ∀ (j : Nat) (o : Oper) cs b, ops[j]? = some o → o.op ≠ .select cs b)
    (hQ : ∀ c a w, Q (.panic c) (a.put oi.dst v) w → Q (.panic c) a w) (hw : waitsM ops late i M = true) :
    ∀ (k : Nat) (done : Array Bool) (a : Act) (w : World),
      (∀ j oj, ops[j]? = some oj → j ≠ i → done.getD j true = false → (∀ e ∈ oj.after, Region.binds .any e = true → e.on ≠ i) → oi.apart ops oj = true) →
      i ∈ Region.ready .any ops done → (∀ m, m ∈ M → done.getD m true = false) → YieldsIf P ops S oi v a → S w → Lates P ops Q S late k (done.setIfInBounds i true) (a.put oi.dst v) w → Lates P ops Q S late (k + 1) done a w
  | 0, done, a, w, _, hr, _, hy, hS, H => by
    refine ⟨fun h => ?_, fun j hj => ?_⟩
    · rw [h] at hr; cases hr
    · by_cases e : j = i
      · rw [e]; exact hy.wpOp hi hS ⟨fun _ => hS, H⟩
      · have := ready_mono hj e
        rw [H.1] at this; cases this
  | k + 1, done, a, w, hf, hr, hdm, hy, hS, H => by
    refine ⟨fun h => ?_, fun j hj => ?_⟩
    · rw [h] at hr; cases hr
    by_cases e : j = i
    · rw [e]; exact hy.wpOp hi hS ⟨fun _ => hS, H⟩
    obtain ⟨hj0, oj, hoj, hall⟩ := mem_ready.1 hj
    have hno2 : ∀ n, done.getD n true = false → ∀ e ∈ oj.after, Region.binds .any e = true → e.on ≠ n := by
      intro n h0 e he hb he'
      have h1 := hall e he hb
      rw [he'] at h1
      rcases Nat.lt_or_ge n done.size with h' | h'
      · simp [h'] at h0 h1; rw [h0] at h1; cases h1
      · simp [Array.getElem?_eq_none h'] at h1
    have hno := hno2 i (mem_ready.1 hr).1
    have hnot : ¬ (late j = true ∨ j ∈ M) := fun h => by
      obtain ⟨e, he, hb, he'⟩ := waitsM_at hw h hoj
      rcases he' with he' | he'
      · exact hno e he hb he'
      · exact hno2 _ (hdm _ he') e he hb rfl
    have hjl : late j = false := by
      cases hl : late j
      · rfl
      · exact absurd (.inl hl) hnot
    have h1 := wpOp_putIf hoj (hf j oj hoj e hj0 hno) (fun cs b => hsel i oi cs b hi) (fun cs b => hsel j oj cs b hoj) hQ hy (H.2 j (ready_mono hj e))
    refine wpOp_mono (fun a' w' h3 => ⟨h3.2.1, Lates.firstM hi hsel hQ hw k (done.setIfInBounds j true) a' w' ?_ (ready_mono hr (Ne.symm e)) ?_ h3.1 (h3.2.1 hjl) ?_⟩) h1
    · intro l ol hl hli hun hnl
      refine hf l ol hl hli ?_ hnl
      by_cases q : j = l
      · rw [← q]; exact hj0
      · rw [getD_set_ne true q] at hun; exact hun
    · intro m hm
      rw [getD_set_ne true (fun q => hnot (.inr (by rw [q]; exact hm)))]; exact hdm m hm
    · rw [Array.setIfInBounds_comm _ _ e]; exact h3.2.2
theorem lates_takeM {i : Nat} (M : List Nat) {oi : Oper} {v : Value} {k : Nat} {done : Array Bool} {a : Act} {w : World} (hi : ops[i]? = some oi) (hw : waitsM ops late i M = true) (hdm : (M.all fun m => done.getD m true == false) = true)
    (hs : Region.noSelect ops = true) (hf : Region.free .any ops done i = true) (hr : (Region.ready .any ops done).contains i = true)
    (hQ : ∀ c a w, Q (.panic c) (a.put oi.dst v) w → Q (.panic c) a w) (hy : YieldsIf P ops S oi v a) (hS : S w)
    (h : Lates P ops Q S late k (done.setIfInBounds i true) (a.put oi.dst v) w) : Lates P ops Q S late (k + 1) done a w :=
  Lates.firstM hi (Region.noSelect_spec hs) hQ hw k done a w (Region.free_spec hi hf) (by simpa using hr) (fun m hm => by simpa using List.all_eq_true.1 hdm m hm) hy hS h
end
end Go.Proofs.YtfbdgdphpdhcpaaDoor
