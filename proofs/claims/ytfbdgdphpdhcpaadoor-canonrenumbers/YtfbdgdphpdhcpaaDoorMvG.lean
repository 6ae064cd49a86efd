/-
  The lists once more, where a round may write rows of lists. Conditions: as in CaS.
-/
import Derived.Test.YtfbdgdphpdhcpaaDoorMvA
namespace Go.Proofs.YtfbdgdphpdhcpaaDoor
open Go.RowKit Go.Shelf
set_option maxRecDepth 100000

/-- All rows of cells but those of C lie as they lay, and, from Z on, but rows of lists. -/
structure OthU (Z : Nat) (C : Nat → Prop) (W W' : World) : Prop where
  size : W.heap.size ≤ W'.heap.size
  same : ∀ (k : Nat) c t fr, ¬ C k → (k < Z ∨ t ≠ 22) → W.heap[k]? = some (.cells c t fr) → W'.heap[k]? = some (.cells c t fr)
/-- A row of cells that is no row of lists. -/
def Typd (W : World) (k : Nat) : Prop := ∃ c t fr, t ≠ 22 ∧ W.heap[k]? = some (.cells c t fr)
theorem OthU.refl (Z : Nat) (C : Nat → Prop) (W : World) : OthU Z C W W := ⟨Nat.le_refl _, fun _ _ _ _ _ _ h => h⟩
theorem OthU.trans {Z : Nat} {C : Nat → Prop} {X Y W : World} (h : OthU Z C X Y) (k : OthU Z C Y W) : OthU Z C X W := ⟨Nat.le_trans h.size k.size, fun i c t fr hi ht ho => k.same i c t fr hi ht (h.same i c t fr hi ht ho)⟩
theorem OthU.mono {Z : Nat} {C D : Nat → Prop} {X Y : World} (h : OthU Z C X Y) (hd : ∀ k, C k → D k) : OthU Z D X Y := ⟨h.size, fun i c t fr hi => h.same i c t fr fun hc => hi (hd i hc)⟩
theorem OthS.u {C : Nat → Prop} {W W' : World} (h : OthS C W W') (Z : Nat) : OthU Z C W W' := ⟨h.size, fun k _ _ _ hk _ ho => h.same k _ hk ho rfl⟩
theorem OthU.loop (Z : Nat) (C : Nat → Prop) (W : World) (l : Nat) (r r' : Loop) (h : W.heap[l]? = some (.loop r)) : OthU Z C W (W.putObj l (.loop r')) := (OthS.loop C W l r r' h).u Z
theorem OthU.below (Z : Nat) (C : Nat → Prop) {W W' : World} (hb : Below W.heap.size W W') : OthU Z C W W' := (OthS.below C hb).u Z
theorem OthU.cell {Z : Nat} {C : Nat → Prop} {W W' : World} (h : OthU Z C W W') {p : Addr} {v : Value} (hv : W.cell? p = some v) (hp : ¬ C p.block) (ht : p.block < Z ∨ Typd W p.block) : W'.cell? p = some v := by
  obtain ⟨o, ho, hc⟩ := cellsX_of_cell hv
  have e : W'.heap[p.block]? = W.heap[p.block]? := by
    cases o with
    | cells c t fr =>
      rw [ho]
      refine h.same _ _ _ _ hp ?_ ho
      rcases ht with ht | ⟨c', t', fr', h1, h2⟩
      · exact .inl ht
      · rw [ho] at h2; cases h2; exact .inr h1
    | _ => cases hc
  rw [← hv]
  exact World.cell?_of_block (w := W) e
theorem OthU.owns {Z : Nat} {C : Nat → Prop} {W W' : World} (h : OthU Z C W W') {base : Nat} {e : TypeId} {size : Nat} {v : Value} {n : Nat} {xs : List Value} (ho : W.ownsRow base e size v n xs) (he : e ≠ 22) (hc : ∀ k, base ≤ k → v.ownBlock = some k → ¬ C k) : W'.ownsRow base e size v n xs := by
  refine ⟨ho.1, ?_⟩
  rcases ho.2 with h0 | ⟨g, cap, cur, h1, h2, h3, h4⟩
  · exact .inl h0
  · exact .inr ⟨g, cap, cur, h1, h2, h.same g _ _ _ (hc g h2 (by rw [h1]; rfl)) (.inr he) h3, h4⟩
set_option maxHeartbeats 1000000 in
theorem members_typ (s : Nat) (w : World) (hs : s < 1024) (hT : Tab w) :
    Calls Tryd.prog 46 #[.int .i64 s] w fun e w' => (∃ v, e = .returned v ∧ w'.ownsRow w.heap.size 3 1 v (pts s 10).length (natVals (pts s 10))) ∧ Below w.heap.size w w' := by
  obtain ⟨i0, hi, hz0, hz1, hz2⟩ := info_parts Tryd.info3
  have HT : Hid (Tab w) := hT
  have hpc := pc_le2 s
  clear hT
  go_enter Tryd.func46, Tryd.ntmps46
  go_wp2_with (first | (go_at_call 59; refine (size_any s _ hs).mono ?_; rintro e w' ⟨rfl, rfl⟩) | (at_make; refine wpList_make_own _ rfl _ _ 22 rfl w.heap.size 3 i0 (.int .i64 0) 1 Tryd.underlying22 hi hz0 hz1 .i64 .i64 _ (pc s) rfl rfl rfl (by rw [hz2]; omega) (by unfold maxLen; omega) (Nat.le_refl _) ?_; intro w2 hown2 hgrow2))
  have HB2 : Hid (Below w.heap.size w w2) := (Below.refl _ _).grown hgrow2 (Nat.le_refl _) (by simp)
  have HO2 : Hid (w2.ownsRow w.heap.size 3 1 (.slice (some ⟨w.heap.size, 0, none⟩) 0 (pc s)) ([] : List Nat).length (natVals [])) := hown2
  have hpl := pts_len s 10
  clear hown2 hgrow2
  obtain ⟨P, HPP⟩ : ∃ P, Hid (P = pts s 10) := ⟨_, rfl⟩
  rw [← HPP.out] at hpl
  go_loopw [0, 3] (fun c v wx => ∃ (d : Nat) (L : List Nat), d < 1024 ∧ c = .int .i64 d ∧ Hid (P = L ++ pts d 10) ∧ wx.ownsRow w.heap.size 3 1 v L.length (natVals L) ∧ Hid (Below w.heap.size w wx)) (fun c _ _ => (intOf c).toNat)
  case atStart => exact ⟨s, [], hs, rfl, HPP.out, HO2.out, HB2.out⟩
  case round =>
    clear HO2 HB2
    obtain ⟨d, L, hd, rfl, HP, hown, hB⟩ := hrel
    by_cases h0 : d = 0
    · subst h0
      have HPL : Hid (P = L) := by have := HP.out; rw [pts_zero, List.append_nil] at this; exact this
      have HF : Hid (wr.ownsRow w.heap.size 3 1 u3 (pts s 10).length (natVals (pts s 10))) := by rw [← HPP.out, HPL.out]; exact hown
      clear hown
      go_wp2_with fail
      go_ret
      exact ⟨⟨_, rfl, HF.out⟩, hB.out⟩
    · have hne : ((d : Int) != 0) = true := by simp; omega
      have HPN : Hid (P = (L ++ [lo d]) ++ pts (d &&& (d - 1)) 10) := by
        have := HP.out
        rw [pts_lo hd h0] at this
        exact this.trans (by simp)
      have hLL : L.length < 10 := by
        have h1 : P.length = L.length + 1 + (pts (d &&& (d - 1)) 10).length := by
          have := congrArg List.length HPN.out
          rw [List.length_append, List.length_append] at this
          exact this
        omega
      have hlt := lo_lt hd h0
      have hT1 : Tab wr := HT.out.step hB.out
      have hsz := hB.out.size
      have hand : bits BinOp.and IntKind.i64 (d : Int) ((d : Int) - 1) = ((d &&& (d - 1) : Nat) : Int) := by
        rw [show ((d : Int) - 1) = ((d - 1 : Nat) : Int) by omega]; exact i64_and d (d - 1) (Nat.lt_trans hd (by decide)) (Nat.lt_of_le_of_lt (Nat.sub_le _ _) (Nat.lt_trans hd (by decide)))
      have hlo : lo d < 10 := (lo_is hd h0).2.2
      go_wp2_with (first | (go_at_call 60; refine (first_any d _ hd h0 hT1).mono ?_; rintro e w' ⟨rfl, rfl⟩) | (at_builtin; refine wpList_append_own _ rfl _ _ 22 rfl w.heap.size 3 i0 (.int .i64 0) 1 8 Tryd.underlying22 hi hz0 hz1 hz2 rfl (by decide) _ _ _ rfl (hown.alloc _) ⟨wr.heap.size, 0, none⟩ 1 1 [.int .i64 (lo d : Nat)] rfl rfl ?c1 ?c2 ?c3 ?c4 ?c5 ?_))
      case c1 =>
        intro j u hj
        match j, hj with
        | 0, hj => simp at hj; subst hj; simp [Addr.add]
      case c2 => intro u hu; simp at hu; subst hu; rfl
      case c3 => unfold maxLen; omega
      case c4 => omega
      case c5 => simp; omega
      intro v' w1 hown' hgrow _
      have HB5 : Hid (Below w.heap.size w w1) := below_append3 hB.out hown hgrow
      have HO5 : Hid (w1.ownsRow w.heap.size 3 1 v' (L ++ [lo d]).length (natVals (L ++ [lo d]))) := by
        rw [natVals_append, List.length_append]; exact hown'
      have hdl : d &&& (d - 1) < 1024 := by omega
      clear hown' hgrow hown hB hT1
      generalize d &&& (d - 1) = d' at *
      go_wp2_with fail
      go_roundw
      case rel => exact ⟨d', L ++ [lo d], hdl, rfl, HPN.out, HO5.out, HB5.out⟩
      case measure => simp [intOf]; omega

set_option maxHeartbeats 8000000 in
theorem goOn_u {n l Y Gn B N s0 Z : Nat} {C : Nat → Prop} {W0 : World} {Vx : List Nat → Prop} {J : List (Nat × List Nat) → World → Prop}
    (hn : n ≤ 10) (h1Z : 1 < Z) (tY : Typd W0 Y) (tG : Typd W0 Gn) (hT : Tab W0) (nT : ¬ (C 1 ∨ 1 = B)) (cY : W0.cell? ⟨Y, 0, none⟩ = some (.func (.yield l) #[] #[])) (nY : ¬ (C Y ∨ Y = B))
    (cG : W0.cell? ⟨Gn, 0, none⟩ = some (.func (.func 45) #[] #[.pointer (some ⟨Y, 0, none⟩), .pointer (some ⟨Gn, 0, none⟩)])) (nG : ¬ (C Gn ∨ Gn = B))
    (hC : ∀ k, C k → k < s0) (hs0 : s0 ≤ W0.heap.size) (hBW : W0.heap.size ≤ B) (hJ : ∀ s X X', J s X → Itr s0 B X X' → J s X')
    (hY : ∀ m pre x X, J pre X → X.ownsRow W0.heap.size 3 1 (.slice (some ⟨B, 0, none⟩) n n) n (natVals x) → Vx x → pre.length < N → YieldAt Fence.wide m Tryd.prog l #[.slice (some ⟨B, 0, none⟩) n n] X fun e X' =>
      e = .returned (.bool true) ∧ J (pre ++ [(B, x)]) X' ∧ OthU Z C X X') :
    ∀ (d m k : Nat) (p : List Nat) (pre : List (Nat × List Nat)) (s : Nat) (W : World), k + d = n → p.length = k → s < 1024 → pc s = d → OthU Z (fun k => C k ∨ k = B) W0 W → W.ownsRow W0.heap.size 3 1 (.slice (some ⟨B, 0, none⟩) k n) k (natVals p) → J pre W →
      pre.length + (per d p s).length ≤ N → (∀ x, x ∈ per d p s → Vx x) →
      CallsIn Fence.wide m Tryd.prog 45 #[.slice (some ⟨B, 0, none⟩) k n, .int .i64 (s : Nat), .pointer (some ⟨Y, 0, none⟩), .pointer (some ⟨Gn, 0, none⟩)] W fun e W' =>
        e = .returned (.bool true) ∧ J (pre ++ (per d p s).map (Prod.mk B)) W' ∧ OthU Z (fun k => C k ∨ k = B) W W' ∧ W'.ownsRow W0.heap.size 3 1 (.slice (some ⟨B, 0, none⟩) k n) k (natVals p) := by
  intro d
  induction d with
  | zero =>
    intro m k p pre s W hkd hpk hs hd hO hR hj hN hVx
    obtain rfl : k = n := by omega
    obtain rfl : s = 0 := (pc_zero hs).1 hd
    obtain ⟨fn, tmps, assign, body, hy, hRd⟩ := hY (m - 1) pre p W hj hR (hVx p (by simp [per])) (by simp [per] at hN; omega)
    have y0 := hO.cell cY nY (.inr tY)
    refine callsIn_of_wp Tryd.func45 rfl trivial ?_ rfl
    simp only [Tryd.ntmps45, List.size_toArray, List.length_cons, List.length_nil, Nat.reduceAdd, Nat.reduceSub, Array.replicate_succ, Array.replicate_zero, List.push_toArray, List.append_toArray, List.nil_append, List.cons_append]
    gi_wp2
    refine ⟨fun h => by simp [Fence.wide] at h, ?_⟩
    refine hRd.mono ?_
    rintro e W' ⟨rfl, hj', ho'⟩
    have HF : Hid (J (pre ++ (per 0 p 0).map (Prod.mk B)) W' ∧ OthU Z (fun k => C k ∨ k = B) W W' ∧ W'.ownsRow W0.heap.size 3 1 (.slice (some ⟨B, 0, none⟩) k k) k (natVals p)) := ⟨by simpa [per] using hj', ho'.mono fun _ h => .inl h, ho'.owns hR (by decide) (fun q hq _ hc => by have := hC q hc; omega)⟩
    clear hj' ho' hRd hy hO hR hj hY hJ
    gi_wp2
    go_ret
    exact ⟨rfl, HF.out⟩
  | succ d ih =>
    intro m k p pre s W hkd hpk hs hd hO hR hj hN hVx
    have HIH := (show Hid _ from ih)
    have HO0 : Hid (OthU Z (fun k => C k ∨ k = B) W0 W) := hO
    have HR0 : Hid (W.ownsRow W0.heap.size 3 1 (.slice (some ⟨B, 0, none⟩) k n) k (natVals p)) := hR
    have HJ0 : Hid (J pre W) := hj
    have HJA : Hid (∀ s X X', J s X → Itr s0 B X X' → J s X') := hJ
    have HVX : Hid (∀ x, x ∈ per (d + 1) p s → Vx x) := hVx
    have HCE : Hid (∀ X, OthU Z (fun k => C k ∨ k = B) W0 X → X.cell? ⟨Gn, 0, none⟩ = some (.func (.func 45) #[] #[.pointer (some ⟨Y, 0, none⟩), .pointer (some ⟨Gn, 0, none⟩)])) := fun X h => h.cell cG nG (.inr tG)
    have HTA : Hid (Tab W) := fun j hj => hO.cell (hT j hj) nT (.inl h1Z)
    have HN : Hid (pre.length + (perTo d p s (pts s 10)).length ≤ N) := hN
    have HCS : Hid (∀ k, C k → k < s0) := hC
    have hsz : W0.heap.size ≤ W.heap.size := hO.size
    have HBB : Hid (W0.heap.size ≤ B) := hBW
    have hBlt : B < W.heap.size := by
      rcases hR.2 with ⟨h0, _⟩ | ⟨g', cap', cur, h1, h2, h3, _⟩
      · cases h0
      · simp only [Value.slice.injEq, Option.some.injEq, Addr.mk.injEq] at h1
        obtain ⟨⟨rfl, _⟩, _⟩ := h1
        exact (Array.getElem?_eq_some_iff.1 h3).1
    have hs0' : (s == 0) = false := by
      have : s ≠ 0 := fun e => by rw [e, (pc_zero (by decide)).2 rfl] at hd; omega
      simpa using this
    have hsI : ((s : Int) == 0) = false := by simp at hs0' ⊢; exact hs0'
    clear ih hO hR hj hJ hVx hY cY cG hN hT hC hs0' hBW tY tG
    refine callsIn_wide.2 ?_
    go_enter Tryd.func45, Tryd.ntmps45
    go_wp2_with fail
    refine (members_typ s _ hs HTA.out).mono ?_
    rintro e w1 ⟨⟨v, rfl, hv⟩, hb1⟩
    obtain ⟨L, HL⟩ : ∃ L, Hid (L = pts s 10) := ⟨_, rfl⟩
    rw [← HL.out] at hv HN
    obtain ⟨am, cm, rfl, hrm⟩ := owns_nats hv
    have HRM : Hid (∀ w', OthU Z (fun k => C k ∨ k = B) w1 w' → Row w' am L.length (fun k => (nth L k : Nat))) := fun w' h => by
      obtain ⟨a', c', e, hr⟩ := owns_nats (h.owns hv (by decide) (fun q hq _ hc => by
        rcases hc with h2 | h2
        · have := HCS.out q h2; omega
        · omega))
      cases e
      exact hr
    have HO1 : Hid (OthU Z (fun k => C k ∨ k = B) W w1) := OthU.below _ _ hb1
    have HR1' : Hid (w1.ownsRow W0.heap.size 3 1 (.slice (some ⟨B, 0, none⟩) k n) k (natVals p)) := owns_below HR0.out hb1
    have HJ1 : Hid (J pre w1) := HJA.out _ _ _ HJ0.out (Itr.of_below hb1 (by omega))
    have hLl : L.length ≤ 10 := by rw [HL.out]; exact pts_len s 10
    have HLB : Hid (∀ j, j < L.length → nth L j ∈ pts s 10) := fun j hj => by rw [← HL.out]; exact nth_mem' hj
    have hb1s := hb1.size
    clear hb1 hrm hv HR0 HJ0
    go_wp2_with fail
    go_loopw [17] (fun i wx => ∃ j : Nat, j ≤ L.length ∧ i = .int .i64 j ∧ Hid (OthU Z (fun k => C k ∨ k = B) w1 wx) ∧ Hid (wx.ownsRow W0.heap.size 3 1 (.slice (some ⟨B, 0, none⟩) k n) k (natVals p)) ∧ Hid (J (pre ++ (perTo d p s (L.take j)).map (Prod.mk B)) wx)) (fun i _ => L.length - (intOf i).toNat)
    case atStart => exact ⟨0, Nat.zero_le _, rfl, OthU.refl _ _ _, HR1'.out, show J (pre ++ (perTo d p s (L.take 0)).map (Prod.mk B)) w1 by simpa [perTo] using HJ1.out⟩
    case round =>
      obtain ⟨j, hj, rfl, HOX, HR, HJ⟩ := hrel
      clear HR1' HJ1
      by_cases hjl : j < L.length
      · have hjl' : (j : Int) < (L.length : Int) := by omega
        obtain ⟨x, HX⟩ : ∃ x, Hid (nth L j = x) := ⟨_, rfl⟩
        have hxm : x ∈ pts s 10 := by rw [← HX.out]; exact HLB.out j hjl
        have hx10 : x < 10 := pts_lt s 10 x hxm
        have HLS : Hid (lack s (pw x) < 1024 ∧ pc (lack s (pw x)) + 1 = pc s) := lack_pc hs hx10 (pts_bit 10 x hxm)
        have HPC : Hid (pc (lack s (pw x)) = d) := by have := HLS.out.2; show _ = _; omega
        have HNX : Hid (perTo d p s (L.take (j + 1)) = perTo d p s (L.take j) ++ per d (p ++ [x]) (lack s (pw x))) := by show _ = _; rw [take_nth hjl, perTo_snoc, HX.out]
        have HLE : Hid ((pre ++ (perTo d p s (L.take j)).map (Prod.mk B)).length + (per d (p ++ [x]) (lack s (pw x))).length ≤ N) := by
          have h1 := perTo_le d p s L (j + 1)
          have h2 := HN.out
          rw [HNX.out, List.length_append] at h1
          show _ ≤ N
          simp; omega
        have HM : Hid (∀ y, y ∈ per d (p ++ [x]) (lack s (pw x)) → Vx y) := fun y hy => HVX.out y (per_sub hxm hy)
        have HLX : Hid ((p ++ [x]).length = k + 1) := by show _ = _; simp [hpk]
        have HO : Hid (OthU Z (fun k => C k ∨ k = B) W wr) := HO1.out.trans HOX.out
        have hgr : wr.drew.cell? ⟨Gn, 0, none⟩ = some (.func (.func 45) #[] #[.pointer (some ⟨Y, 0, none⟩), .pointer (some ⟨Gn, 0, none⟩)]) := (HCE.out wr (HO0.out.trans HO.out) : wr.cell? _ = _)
        have HIS : Hid (s0 ≤ wr.heap.size ∧ s0 ≤ B) := by have h1 := HO.out.size; have h2 := HBB.out; exact ⟨by omega, by omega⟩
        have hpx := pw_small x (by omega)
        have HAN : Hid (bits BinOp.andNot IntKind.i64 (s : Int) (IntKind.i64.wrap (2 ^ x)) = ((lack s (pw x) : Nat) : Int)) := and_not1 hs hx10
        have HAN2 : Hid (bits BinOp.andNot IntKind.i64 (s : Int) (wrap64 (2 ^ x)) = ((lack s (pw x) : Nat) : Int)) := and_not2 hs hx10
        obtain ⟨bm, om, rfl, hcm'⟩ := HRM.out _ HOX.out j hjl
        have hcm : wr.cell? ⟨bm, om + j, none⟩ = some (.int .i64 (x : Nat)) := by rw [hcm', ← HX.out]
        have hkn : k < n := by omega
        clear hcm' hxm
        go_wp2_with fail
        clear hcm
        have hg0 := hgr
        have HR1 : Hid (∀ o, ((wr.alloc o).drew).ownsRow W0.heap.size 3 1 (.slice (some ⟨B, 0, none⟩) k n) k (natVals p)) := fun o => (HR.out.alloc o : (wr.alloc o).ownsRow _ _ _ _ _ _)
        refine wp_region_held_drew (S := (fun w' => w'.cell? ⟨Gn, 0, none⟩ = some (.func (.func 45) #[] #[.pointer (some ⟨Y, 0, none⟩), .pointer (some ⟨Gn, 0, none⟩)]))) (by kernel_rfl) (hg0) (fun hHeld => ?_)
        refine wpAnyH_take (i := 0) (oi := { dst := some 21, op := Go.Op.load 67 (Go.Operand.tmp 3), type := 67, pos := "lists.go:20", after := #[], guard := none }) (v := ?_) rfl (by kernel_rfl) (by kernel_rfl) (by kernel_rfl) (fun _ _ _ h => h) (Or.inl ⟨by rfl, ?hy⟩) (by assumption) ?_
        case hy => (intro w9 hSw; (try dsimp only at hSw); go_simp; try with_reducible rfl)
        try simp only [Act.put, List.setIfInBounds_toArray, List.set_cons_zero, List.set_cons_succ]
        refine wpAnyH_take (i := 1) (oi := { dst := some 22, op := Go.Op.move (Go.Operand.tmp 0), type := 22, pos := "lists.go:20", after := #[], guard := none }) (v := ?_) rfl (by kernel_rfl) (by kernel_rfl) (by kernel_rfl) (fun _ _ _ h => h) (Or.inl ⟨by rfl, ?hy⟩) (by assumption) ?_
        case hy => (intro w9 hSw; (try dsimp only at hSw); go_simp; try with_reducible rfl)
        try simp only [Act.put, List.setIfInBounds_toArray, List.set_cons_zero, List.set_cons_succ]
        refine wpAnyH_take (i := 2) (oi := { dst := some 23, op := Go.Op.move (Go.Operand.tmp 8), type := 3, pos := "lists.go:20", after := #[], guard := none }) (v := ?_) rfl (by kernel_rfl) (by kernel_rfl) (by kernel_rfl) (fun _ _ _ h => h) (Or.inl ⟨by rfl, ?hy⟩) (by assumption) ?_
        case hy => (intro w9 hSw; (try dsimp only at hSw); go_simp; try with_reducible rfl)
        try simp only [Act.put, List.setIfInBounds_toArray, List.set_cons_zero, List.set_cons_succ]
        refine wpAnyH_take (i := 5) (oi := { dst := some 26, op := Go.Op.move (Go.Operand.tmp 1), type := 3, pos := "lists.go:20", after := #[], guard := none }) (v := ?_) rfl (by kernel_rfl) (by kernel_rfl) (by kernel_rfl) (fun _ _ _ h => h) (Or.inl ⟨by rfl, ?hy⟩) (by assumption) ?_
        case hy => (intro w9 hSw; (try dsimp only at hSw); go_simp; try with_reducible rfl)
        try simp only [Act.put, List.setIfInBounds_toArray, List.set_cons_zero, List.set_cons_succ]
        refine wpAnyH_take (i := 6) (oi := { dst := some 27, op := Go.Op.move (Go.Operand.tmp 8), type := 3, pos := "lists.go:20", after := #[], guard := none }) (v := ?_) rfl (by kernel_rfl) (by kernel_rfl) (by kernel_rfl) (fun _ _ _ h => h) (Or.inl ⟨by rfl, ?hy⟩) (by assumption) ?_
        case hy => (intro w9 hSw; (try dsimp only at hSw); go_simp; try with_reducible rfl)
        try simp only [Act.put, List.setIfInBounds_toArray, List.set_cons_zero, List.set_cons_succ]
        refine wpAnyH_take (i := 7) (oi := { dst := some 28, op := Go.Op.binOp Go.BinOp.shl 3 (Go.Operand.const (Go.Value.int Go.IntKind.i64 1)) (Go.Operand.tmp 27) 3, type := 3, pos := "lists.go:20", after := #[{ on := 6, ground := Go.Ground.data }], guard := none }) (v := ?_) rfl (by kernel_rfl) (by kernel_rfl) (by kernel_rfl) (fun _ _ _ h => h) (Or.inl ⟨by rfl, ?hy⟩) (by assumption) ?_
        case hy => (intro w9 hSw; (try dsimp only at hSw); go_simp; try with_reducible rfl)
        try simp only [Act.put, List.setIfInBounds_toArray, List.set_cons_zero, List.set_cons_succ]
        refine wpAnyH_take (i := 8) (oi := { dst := some 29, op := Go.Op.binOp Go.BinOp.andNot 3 (Go.Operand.tmp 26) (Go.Operand.tmp 28) 3, type := 3, pos := "lists.go:20", after := #[{ on := 5, ground := Go.Ground.data }, { on := 7, ground := Go.Ground.data }], guard := none }) (v := ?_) rfl (by kernel_rfl) (by kernel_rfl) (by kernel_rfl) (fun _ _ _ h => h) (Or.inl ⟨by rfl, ?hy⟩) (by assumption) ?_
        case hy => (intro w9 hSw; (try dsimp only at hSw); go_simp; try with_reducible rfl)
        try simp only [Act.put, List.setIfInBounds_toArray, List.set_cons_zero, List.set_cons_succ]
        refine wpAnyH_ready (rs := [3]) (by kernel_rfl) (by simp) ?_
        refine AllReadyH.cons (o := { dst := some 24, op := Go.Op.buildSlice 22 1 #[(0, Go.Operand.tmp 23)], type := 22, pos := "lists.go:20", after := #[{ on := 2, ground := Go.Ground.data }], guard := none }) rfl (fun K hK => ?_) AllReadyH.nil
        go_simp
        skip
        refine hK.out _ _ ?_ (fun hHeld => ?_)
        · exact cell_al hg0
        clear hK K
        try simp only [Act.put, List.setIfInBounds_toArray, List.set_cons_zero, List.set_cons_succ]
        refine wpAnyH_ready (rs := [4]) (by kernel_rfl) (by simp) ?_
        refine AllReadyH.cons (o := { dst := some 25, op := Go.Op.call { callee := Go.Callee.builtin Go.Builtin.append, args := #[Go.Operand.tmp 22, Go.Operand.tmp 24], argTypes := #[22, 22] }, type := 22, pos := "lists.go:20", after := #[{ on := 1, ground := Go.Ground.data }, { on := 3, ground := Go.Ground.data }], guard := none }) rfl (fun K hK => ?_) AllReadyH.nil
        rw [if_pos (by rfl)]
        refine wp_appfit _ _ _ rfl W0.heap.size B k n (natVals p) rfl (HR1.out _) ⟨wr.heap.size, 0, none⟩ 1 1 [.int .i64 (x : Nat)] rfl rfl ?c1 ?c2 (by omega) ?_
        case c1 =>
          intro j u hj
          match j, hj with
          | 0, hj => simp at hj; subst hj; simp [Addr.add]
        case c2 => intro u hu; simp at hu; subst hu; rfl
        intro w6 hown' hgrow
        have hb6 : Itr s0 B wr w6 := itr_app HIS.out hgrow
        have HO6 : Hid (OthU Z (fun k => C k ∨ k = B) W w6) := HO.out.trans ((hb6.2.mono fun _ h => .inr h).u Z)
        have HX6 : Hid (OthU Z (fun k => C k ∨ k = B) w1 w6) := HOX.out.trans ((hb6.2.mono fun _ h => .inr h).u Z)
        have HJ6 : Hid (J (pre ++ (perTo d p s (L.take j)).map (Prod.mk B)) w6) := HJA.out _ _ _ HJ.out hb6
        have HR6 : Hid (w6.ownsRow W0.heap.size 3 1 (.slice (some ⟨B, 0, none⟩) (k + 1) n) (k + 1) (natVals (p ++ [x]))) := by rw [natVals_append]; exact hown'
        have HW6 : Hid (OthU Z (fun k => C k ∨ k = B) W0 w6) := HO0.out.trans HO6.out
        have hg6 := HCE.out _ HW6.out
        clear hown' hgrow hb6
        refine hK.out _ _ ?_ (fun hHeld => ?_)
        · exact hg6
        clear hK K
        try simp only [Act.put, List.setIfInBounds_toArray, List.set_cons_zero, List.set_cons_succ]
        refine wpAnyH_ready (rs := [9]) (by kernel_rfl) (by simp) ?_
        refine AllReadyH.cons (o := { dst := some 30, op := Go.Op.call { callee := Go.Callee.value (Go.Operand.tmp 21), args := #[Go.Operand.tmp 25, Go.Operand.tmp 29], argTypes := #[22, 3] }, type := 4, pos := "lists.go:20", after := #[{ on := 0, ground := Go.Ground.data }, { on := 4, ground := Go.Ground.data }, { on := 8, ground := Go.Ground.data }, { on := 4, ground := Go.Ground.chain }], guard := none }) rfl (fun K hK => ?_) AllReadyH.nil
        go_simp
        first | rw [HAN.out] | rw [HAN2.out]
        refine (callsIn_wide.1 (HIH.out 1 (k + 1) (p ++ [x]) (pre ++ (perTo d p s (L.take j)).map (Prod.mk B)) (lack s (pw x)) _ (by omega) HLX.out HLS.out.1 HPC.out HW6.out HR6.out HJ6.out HLE.out HM.out)).mono ?_
        rintro e w8 ⟨rfl, hj8, ho8, hr8⟩
        have HO8 : Hid (OthU Z (fun k => C k ∨ k = B) W w8) := HO6.out.trans ho8
        have HX8 : Hid (OthU Z (fun k => C k ∨ k = B) w1 w8) := HX6.out.trans ho8
        have HR8 : Hid (w8.ownsRow W0.heap.size 3 1 (.slice (some ⟨B, 0, none⟩) k n) k (natVals p)) := owns_cut hr8 hpk
        have HJ8 : Hid (J (pre ++ (perTo d p s (L.take (j + 1))).map (Prod.mk B)) w8) := by
          show J _ w8
          rw [HNX.out, List.map_append, ← List.append_assoc]; exact hj8
        have hg8 := HCE.out _ (HO0.out.trans HO8.out)
        clear hj8 ho8 hr8 HO6 HR6 HJ6 HW6 HX6
        refine hK.out _ _ ?_ (fun hHeld => ?_)
        · exact hg8
        clear hK K
        try simp only [Act.put, List.setIfInBounds_toArray, List.set_cons_zero, List.set_cons_succ]
        refine wpAnyH_take (i := 10) (oi := { dst := some 31, op := Go.Op.unOp Go.UnOp.not 4 (Go.Operand.tmp 30), type := 4, pos := "lists.go:20", after := #[{ on := 9, ground := Go.Ground.data }], guard := none }) (v := ?_) rfl (by kernel_rfl) (by kernel_rfl) (by kernel_rfl) (fun _ _ _ h => h) (Or.inl ⟨by rfl, ?hy⟩) (by assumption) ?_
        case hy => (intro w9 hSw; (try dsimp only at hSw); go_simp; try with_reducible rfl)
        try simp only [Act.put, List.setIfInBounds_toArray, List.set_cons_zero, List.set_cons_succ]
        refine wpAnyH_done (by kernel_rfl) ?_ _
        try simp only [Act.put, List.setIfInBounds_toArray, List.set_cons_zero, List.set_cons_succ]
        go_wp2_with fail
        go_roundw
        case rel => exact ⟨j + 1, by omega, by go_num, HX8.out, HR8.out, HJ8.out⟩
        case measure => simp [intOf]; omega
      · obtain rfl : j = L.length := by omega
        have HF : Hid (J (pre ++ (per (d + 1) p s).map (Prod.mk B)) wr ∧ OthU Z (fun k => C k ∨ k = B) W wr ∧ wr.ownsRow W0.heap.size 3 1 (.slice (some ⟨B, 0, none⟩) k n) k (natVals p)) := ⟨by
          have h := HJ.out
          rw [List.take_length, HL.out, perTo_all] at h; exact h, HO1.out.trans HOX.out, HR.out⟩
        clear HJ HOX HR HIH
        go_wp2_with fail
        go_ret
        exact ⟨rfl, HF.out⟩
set_option maxHeartbeats 4000000 in
theorem lists_u (m n A : Nat) (C : Nat → Prop) (w : World) (hn : n ≤ 10) (hT : Tab w) (nT : ¬ C 1) (hC : ∀ k, C k → k < w.heap.size) (a0 : w.cell? ⟨A, 0, none⟩ = some (.int .i64 (n : Nat))) :
    SeqX Fence.wide m Tryd.prog 44 #[.pointer (some ⟨A, 0, none⟩)] (encL n) (VL n w.heap.size) (OthU w.heap.size C) (fun xs => xs.map Prod.snd = per n [] (pw n - 1)) (per n [] (pw n - 1)).length w := fun l J W hW hJ hY h0 => by
  refine callsIn_wide.2 ?_
  show Calls Tryd.prog 44 #[.func (.yield l) #[] #[], .pointer (some ⟨A, 0, none⟩)] W _
  obtain ⟨X, HXE⟩ : ∃ X, Hid (X = W.alloc (.cells #[.func (.yield l) #[] #[]] 66)) := ⟨_, rfl⟩
  have hX : Below W.heap.size W X := by rw [HXE.out]; exact (Below.refl _ _).alloc (Nat.le_refl _) _
  have hXs : X.heap.size = W.heap.size + 1 := by rw [HXE.out]; simp
  have cY : X.cell? ⟨W.heap.size, 0, none⟩ = some (.func (.yield l) #[] #[]) := by rw [HXE.out]; simp
  obtain ⟨W0, HWE⟩ : ∃ W0, Hid (W0 = X.alloc (.cells #[.func (.func 45) #[] #[.pointer (some ⟨W.heap.size, 0, none⟩), .pointer (some ⟨W.heap.size + 1, 0, none⟩)]] 67)) := ⟨_, rfl⟩
  have hb2 : Below X.heap.size X W0 := by rw [HWE.out]; exact (Below.refl _ _).alloc (Nat.le_refl _) _
  have hWW : Below W.heap.size W W0 := Below.then hX hb2
  have hww : Below w.heap.size w W0 := Below.then hW hWW
  have h0s : W0.heap.size = W.heap.size + 2 := by rw [HWE.out]; simp [hXs]
  have cG : W0.cell? ⟨W.heap.size + 1, 0, none⟩ = some (.func (.func 45) #[] #[.pointer (some ⟨W.heap.size, 0, none⟩), .pointer (some ⟨W.heap.size + 1, 0, none⟩)]) := by rw [HWE.out, ← hXs]; simp
  have HTY : Hid (Typd W0 W.heap.size) := by
    refine ⟨_, _, _, ?_, (hb2.block _ (by omega)).trans (by rw [HXE.out]; exact heap_alloc_new W _)⟩
    decide
  have HTG : Hid (Typd W0 (W.heap.size + 1)) := by
    refine ⟨_, _, _, ?_, by rw [HWE.out, ← hXs]; exact heap_alloc_new X _⟩
    decide
  have hWs := hW.size
  have ht1 : 1 < w.heap.size := World.block_lt_of_cell? _ _ (hT 0 (by decide))
  obtain ⟨M, HM⟩ : ∃ M, Hid (M = pw n - 1) := ⟨_, rfl⟩
  have hM : M + 1 = pw n := by rw [HM.out]; have := pw_pos n; omega
  have hP := pc_all hn
  rw [← HM.out] at hP
  have HGO : Hid (∀ B w5, Below W0.heap.size W0 w5 → w5.ownsRow W0.heap.size 3 1 (.slice (some ⟨B, 0, none⟩) 0 n) 0 [] → Calls Tryd.prog 45 #[.slice (some ⟨B, 0, none⟩) 0 n, .int .i64 (M : Nat), .pointer (some ⟨W.heap.size, 0, none⟩), .pointer (some ⟨W.heap.size + 1, 0, none⟩)] w5 fun e W' =>
      (∃ v, e = .returned (.bool v)) ∧ ∃ B xs, (xs : List (Nat × List Nat)).map Prod.snd = per n [] (pw n - 1) ∧ J B xs W') := fun B w5 h5 hown => by
    have hB : W0.heap.size ≤ B := by
      rcases hown.2 with ⟨h0, _⟩ | ⟨g', cap', cur, h1, h2, _⟩
      · cases h0
      · simp only [Value.slice.injEq, Option.some.injEq, Addr.mk.injEq] at h1
        obtain ⟨⟨rfl, _⟩, _⟩ := h1
        exact h2
    have hG := goOn_u (Z := w.heap.size) (n := n) (l := l) (Y := W.heap.size) (Gn := W.heap.size + 1) (B := B) (N := (per n [] (pw n - 1)).length) (s0 := W.heap.size) (C := C) (W0 := W0) (Vx := fun x => x ∈ per n [] (pw n - 1)) (J := J B) hn ht1 HTY.out HTG.out
      (hT.step hww) (by rintro (h | h); exact nT h; omega) (cellS hb2 cY) (by rintro (h | h); have := hC _ h; omega; omega) cG (by rintro (h | h); have := hC _ h; omega; omega)
      (fun k hk => by have := hC k hk; omega) hWW.size hB (hJ B)
      (fun m' pre x X' hj hown hx hlen => yield_any m' (hY B pre (B, x) X' hj ⟨rfl, by omega, by
        refine ⟨hown.1, ?_⟩
        rcases hown.2 with q0 | ⟨g, cap, cur, q1, q2, q3⟩
        · exact .inl q0
        · exact .inr ⟨g, cap, cur, q1, by omega, q3⟩, hx⟩ hlen)) n 0 0 [] [] M w5 (by omega) rfl hP.1 hP.2 (OthU.below _ _ h5) (by simpa [natVals] using hown) (hJ B _ _ _ (h0 B (by omega)) (Itr.of_below (Below.then hWW h5) (Nat.le_refl _))) (by rw [HM.out]; simp) (fun x hx => by rw [HM.out] at hx; exact hx)
    refine (callsIn_wide.1 hG).mono ?_
    rintro e W' ⟨rfl, hj, _, _⟩
    refine ⟨⟨_, rfl⟩, B, (per n [] M).map (Prod.mk B), ?_, by simpa using hj⟩
    rw [List.map_map, HM.out]; exact List.map_id' _
  have d0 : ∀ w', Below W0.heap.size W0 w' → w'.cell? ⟨A, 0, none⟩ = some (.int .i64 (n : Nat)) := fun w' h => cellS h (cellS hww a0)
  have d1 : ∀ w', Below W0.heap.size W0 w' → w'.cell? ⟨W.heap.size + 1, 0, none⟩ = some (.func (.func 45) #[] #[.pointer (some ⟨W.heap.size, 0, none⟩), .pointer (some ⟨W.heap.size + 1, 0, none⟩)]) := fun w' h => cellS h cG
  clear hY hJ cY cG hb2 hww hWW hX hW h0 hT nT hC a0 h0s hP
  go_enter Tryd.func44, Tryd.ntmps44
  go_wp2_with fail
  rw [← HXE.out, ← HWE.out]
  clear HXE HWE hXs
  refine wp_lates (S := (fun w' => Below W0.heap.size W0 w')) (late := (fun i => i == 5)) (by kernel_rfl) ?_
  have HS : Hid (Below W0.heap.size W0 W0.drew) := (Below.refl _ _).drew
  refine lates_takeM [] (i := 0) (oi := { dst := some 5, op := Go.Op.load 67 (Go.Operand.tmp 3), type := 67, pos := "lists.go:26", after := #[], guard := none }) (v := ?_) rfl (by kernel_rfl) (by kernel_rfl) (by kernel_rfl) (by kernel_rfl) (by kernel_rfl) (fun _ _ _ h => h) (Or.inl ⟨by rfl, ?hy⟩) HS.out ?_
  case hy => (intro w9 hSw; (have e0 := d0 _ hSw); (have e1 := d1 _ hSw); go_simp; try with_reducible rfl)
  try simp only [Act.put, List.setIfInBounds_toArray, List.set_cons_zero, List.set_cons_succ]
  refine lates_takeM [2] (i := 1) (oi := { dst := some 6, op := Go.Op.load 3 (Go.Operand.tmp 1), type := 3, pos := "lists.go:26", after := #[], guard := none }) (v := ?_) rfl (by kernel_rfl) (by kernel_rfl) (by kernel_rfl) (by kernel_rfl) (by kernel_rfl) (fun _ _ _ h => h) (Or.inl ⟨by rfl, ?hy⟩) HS.out ?_
  case hy => (intro w9 hSw; (have e0 := d0 _ hSw); (have e1 := d1 _ hSw); go_simp; try with_reducible rfl)
  try simp only [Act.put, List.setIfInBounds_toArray, List.set_cons_zero, List.set_cons_succ]
  refine lates_takeM [4] (i := 3) (oi := { dst := some 8, op := Go.Op.load 3 (Go.Operand.tmp 1), type := 3, pos := "lists.go:26", after := #[], guard := none }) (v := ?_) rfl (by kernel_rfl) (by kernel_rfl) (by kernel_rfl) (by kernel_rfl) (by kernel_rfl) (fun _ _ _ h => h) (Or.inl ⟨by rfl, ?hy⟩) HS.out ?_
  case hy => (intro w9 hSw; (have e0 := d0 _ hSw); (have e1 := d1 _ hSw); go_simp; try with_reducible rfl)
  try simp only [Act.put, List.setIfInBounds_toArray, List.set_cons_zero, List.set_cons_succ]
  refine lates_ready (rs := [2, 4]) (by kernel_rfl) (by simp) ?_
  refine AllLate.cons (o := { dst := some 7, op := Go.Op.makeSlice 22 (Go.Operand.const (Go.Value.int Go.IntKind.i64 0)) (Go.Operand.tmp 6), type := 22, pos := "lists.go:26", after := #[{ on := 1, ground := Go.Ground.data }], guard := none }) rfl (fun K hK => ?_) ?_
  · rw [if_pos (by rfl)]
    refine wp_make0 W0.heap.size _ _ _ rfl n rfl rfl (by omega) HS.out.size ?_
    intro w5 hown5 hb5
    have HS5 : Hid (Below W0.heap.size W0 w5) := Below.then HS.out hb5
    refine hK.out _ _ (fun _ => ?_) ?_
    · exact HS5.out
    have HS := HS5
    clear hK K
    try simp only [Act.put, List.setIfInBounds_toArray, List.set_cons_zero, List.set_cons_succ]
    refine lates_ready (rs := [4]) (by kernel_rfl) (by simp) ?_
    refine AllLate.cons (o := { dst := some 9, op := Go.Op.call { callee := Go.Callee.value (Go.Operand.func 47), args := #[Go.Operand.tmp 8], argTypes := #[3] }, type := 3, pos := "lists.go:26", after := #[{ on := 3, ground := Go.Ground.data }], guard := none }) rfl (fun K hK => ?_) ?_
    · go_simp
      refine (all_as n _ hn M hM).mono ?_
      rintro e w' ⟨rfl, rfl⟩
      refine hK.out _ _ (fun _ => ?_) ?_
      · exact HS.out
      skip
      clear hK K
      try simp only [Act.put, List.setIfInBounds_toArray, List.set_cons_zero, List.set_cons_succ]
      refine lates_ready (rs := [5]) (by kernel_rfl) (by simp) ?_
      refine AllLate.cons (o := { dst := some 10, op := Go.Op.call { callee := Go.Callee.value (Go.Operand.tmp 5), args := #[Go.Operand.tmp 7, Go.Operand.tmp 9], argTypes := #[22, 3] }, type := 4, pos := "lists.go:26", after := #[{ on := 0, ground := Go.Ground.data }, { on := 2, ground := Go.Ground.data }, { on := 4, ground := Go.Ground.data }, { on := 4, ground := Go.Ground.chain }], guard := none }) rfl (fun K hK => ?_) ?_
      · go_simp
        refine (HGO.out _ w5 HS.out hown5).mono ?_
        rintro e w6 ⟨⟨v, rfl⟩, h6⟩
        refine hK.out _ _ (fun h => by cases h) ?_
        clear hK K
        try simp only [Act.put, List.setIfInBounds_toArray, List.set_cons_zero, List.set_cons_succ]
        refine lates_done (by kernel_rfl) ?_ _
        try simp only [Act.put, List.setIfInBounds_toArray, List.set_cons_zero, List.set_cons_succ]
        go_end0
        exact ⟨⟨_, rfl⟩, h6⟩
      exact AllLate.nil
    exact AllLate.nil
  refine AllLate.cons (o := { dst := some 9, op := Go.Op.call { callee := Go.Callee.value (Go.Operand.func 47), args := #[Go.Operand.tmp 8], argTypes := #[3] }, type := 3, pos := "lists.go:26", after := #[{ on := 3, ground := Go.Ground.data }], guard := none }) rfl (fun K hK => ?_) ?_
  · go_simp
    refine (all_as n _ hn M hM).mono ?_
    rintro e w' ⟨rfl, rfl⟩
    refine hK.out _ _ (fun _ => ?_) ?_
    · exact HS.out
    skip
    clear hK K
    try simp only [Act.put, List.setIfInBounds_toArray, List.set_cons_zero, List.set_cons_succ]
    refine lates_ready (rs := [2]) (by kernel_rfl) (by simp) ?_
    refine AllLate.cons (o := { dst := some 7, op := Go.Op.makeSlice 22 (Go.Operand.const (Go.Value.int Go.IntKind.i64 0)) (Go.Operand.tmp 6), type := 22, pos := "lists.go:26", after := #[{ on := 1, ground := Go.Ground.data }], guard := none }) rfl (fun K hK => ?_) ?_
    · rw [if_pos (by rfl)]
      refine wp_make0 W0.heap.size _ _ _ rfl n rfl rfl (by omega) HS.out.size ?_
      intro w5 hown5 hb5
      have HS5 : Hid (Below W0.heap.size W0 w5) := Below.then HS.out hb5
      refine hK.out _ _ (fun _ => ?_) ?_
      · exact HS5.out
      have HS := HS5
      clear hK K
      try simp only [Act.put, List.setIfInBounds_toArray, List.set_cons_zero, List.set_cons_succ]
      refine lates_ready (rs := [5]) (by kernel_rfl) (by simp) ?_
      refine AllLate.cons (o := { dst := some 10, op := Go.Op.call { callee := Go.Callee.value (Go.Operand.tmp 5), args := #[Go.Operand.tmp 7, Go.Operand.tmp 9], argTypes := #[22, 3] }, type := 4, pos := "lists.go:26", after := #[{ on := 0, ground := Go.Ground.data }, { on := 2, ground := Go.Ground.data }, { on := 4, ground := Go.Ground.data }, { on := 4, ground := Go.Ground.chain }], guard := none }) rfl (fun K hK => ?_) ?_
      · go_simp
        refine (HGO.out _ w5 HS.out hown5).mono ?_
        rintro e w6 ⟨⟨v, rfl⟩, h6⟩
        refine hK.out _ _ (fun h => by cases h) ?_
        clear hK K
        try simp only [Act.put, List.setIfInBounds_toArray, List.set_cons_zero, List.set_cons_succ]
        refine lates_done (by kernel_rfl) ?_ _
        try simp only [Act.put, List.setIfInBounds_toArray, List.set_cons_zero, List.set_cons_succ]
        go_end0
        exact ⟨⟨_, rfl⟩, h6⟩
      exact AllLate.nil
    exact AllLate.nil
  exact AllLate.nil
end Go.Proofs.YtfbdgdphpdhcpaaDoor
