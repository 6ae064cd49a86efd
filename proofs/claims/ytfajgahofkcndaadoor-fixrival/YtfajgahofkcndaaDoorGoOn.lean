/-
  What the closure that goes on with a map's beginning does, by induction on what is left: all monotone maps that begin so are yielded, in order. Conditions: at most ten points; a round keeps all cells but one block's.
-/
import Derived.RangeFuncBox
import Derived.RangeFuncLeaves
import Derived.Shelf.Abstract
import Derived.WalkKit
import Derived.OwnWalkIn
import Derived.TacticsInMore
import Derived.LoopNIn
import Derived.LoopIn
import Derived.Maps.AppendAt
import Derived.Test.YtfajgahofkcndaaDoorRangeB
import Derived.Test.YtfajgahofkcndaaDoorMon
namespace Go.Proofs.YtfajgahofkcndaaDoor
open Go.RowKit Go.Shelf
attribute [local go_sem] Oper.semAt_some

/-- All cells but block c's lie as they lay. -/
structure Oth (c : Nat) (W W' : World) : Prop where
  size : W.heap.size ≤ W'.heap.size
  same : ∀ (k : Nat) (o : Obj), k ≠ c → W.heap[k]? = some o → o.isCells = true → W'.heap[k]? = some o
theorem Oth.refl (c : Nat) (W : World) : Oth c W W := ⟨Nat.le_refl _, fun _ _ _ h _ => h⟩
theorem Oth.trans {c : Nat} {X Y Z : World} (h : Oth c X Y) (k : Oth c Y Z) : Oth c X Z := ⟨Nat.le_trans h.size k.size, fun i o hi ho hc => k.same i o hi (h.same i o hi ho hc) hc⟩
theorem Oth.loop (c : Nat) (W : World) (l : Nat) (r r' : Loop) (h : W.heap[l]? = some (.loop r)) : Oth c W (W.putObj l (.loop r')) := by
  refine ⟨by simp [World.putObj], fun k o _ hk ho => ?_⟩
  by_cases e : k = l
  · subst e; rw [h] at hk; cases hk; cases ho
  · exact (World.putObj_heap_other e).trans hk
theorem Oth.below {c : Nat} {W0 W W' : World} (h : Oth c W0 W) (hb : Below W0.heap.size W W') : Oth c W0 W' :=
  ⟨Nat.le_trans h.size hb.size, fun k o hk h0 ho => (hb.block k (Array.getElem?_eq_some_iff.1 h0).1).trans (h.same k o hk h0 ho)⟩
theorem cells_of_cell {W : World} {a : Addr} {v : Value} (h : W.cell? a = some v) : ∃ o : Obj, W.heap[a.block]? = some o ∧ o.isCells = true := by
  unfold World.cell? at h
  cases ho : W.heap[a.block]? with
  | none => simp [ho] at h
  | some o => exact ⟨o, rfl, by cases o <;> simp_all [Obj.isCells]⟩
theorem Oth.cell {c : Nat} {W W' : World} (h : Oth c W W') {p : Addr} {v : Value} (hv : W.cell? p = some v) (hp : p.block ≠ c) : W'.cell? p = some v := by
  obtain ⟨o, ho, hc⟩ := cells_of_cell hv
  rw [← hv]
  exact World.cell?_of_block (w := W) ((h.same _ o hp ho hc).trans ho.symm)
theorem Oth.owns {c : Nat} {W W' : World} (h : Oth c W W') {base : Nat} {e : TypeId} {size : Nat} {v : Value} {n : Nat} {xs : List Value} (ho : W.ownsRow base e size v n xs) (hc : c < base) : W'.ownsRow base e size v n xs := by
  refine ⟨ho.1, ?_⟩
  rcases ho.2 with h0 | ⟨g, cap, cur, h1, h2, h3, h4⟩
  · exact .inl h0
  · exact .inr ⟨g, cap, cur, h1, h2, h.same g _ (by omega) h3 rfl, h4⟩
theorem owns_cut {W : World} {base g k cap : Nat} {p : List Nat} {x : Nat} (h : W.ownsRow base 3 1 (.slice (some ⟨g, 0, none⟩) (k + 1) cap) (k + 1) (natVals (p ++ [x]))) (hp : p.length = k) : W.ownsRow base 3 1 (.slice (some ⟨g, 0, none⟩) k cap) k (natVals p) := by
  refine ⟨by simp [natVals, hp], ?_⟩
  rcases h.2 with ⟨h0, _⟩ | ⟨g', cap', cur, h1, h2, h3, h4, h5, h6, h7⟩
  · cases h0
  · simp only [Value.slice.injEq, Option.some.injEq, Addr.mk.injEq] at h1
    obtain ⟨⟨rfl, _⟩, _, rfl⟩ := h1
    refine .inr ⟨_, _, cur, rfl, h2, h3, by omega, h5, h6, ?_⟩
    have e : cur.toList.take (k * 1) = (cur.toList.take ((k + 1) * 1)).take k := by rw [List.take_take]; congr 1; omega
    rw [e, h7, natVals_append, List.take_left' (by simp [natVals, hp])]

/-- Is a list monotone? -/
def monB (P Q : Nat → Nat → Bool) (p : List Nat) : Bool := (List.range p.length).all fun y => (List.range p.length).all fun x => !P x y || Q (nth p x) (nth p y)
theorem monB_iff {P Q : Nat → Nat → Bool} {p : List Nat} : monB P Q p = true ↔ MonP P Q (nth p) p.length := by
  unfold monB MonP
  simp only [List.all_eq_true, List.mem_range, Bool.or_eq_true, Bool.not_eq_true']
  constructor
  · intro h y hy x hx hp
    rcases h y hy x hx with h | h
    · rw [hp] at h; cases h
    · exact h
  · intro h y hy x hx
    rcases hp : P x y with _ | _
    · exact .inl rfl
    · exact .inr (h y hy x hx hp)
/-- All monotone lists that begin so, with d numbers more. -/
def cmp (P Q : Nat → Nat → Bool) (nb : Nat) : Nat → List Nat → List (List Nat)
  | 0, p => [p]
  | d + 1, p => (List.range nb).flatMap fun x => if monB P Q (p ++ [x]) = true then cmp P Q nb d (p ++ [x]) else []
def cmpTo (P Q : Nat → Nat → Bool) (nb d : Nat) (p : List Nat) (k : Nat) : List (List Nat) := (List.range k).flatMap fun x => if monB P Q (p ++ [x]) = true then cmp P Q nb d (p ++ [x]) else []
theorem cmpTo_yes {P Q : Nat → Nat → Bool} {nb d : Nat} {p : List Nat} {k : Nat} (h : monB P Q (p ++ [k]) = true) : cmpTo P Q nb d p (k + 1) = cmpTo P Q nb d p k ++ cmp P Q nb d (p ++ [k]) := by
  simp [cmpTo, List.range_succ, List.flatMap_append, h]
theorem cmpTo_no {P Q : Nat → Nat → Bool} {nb d : Nat} {p : List Nat} {k : Nat} (h : monB P Q (p ++ [k]) = false) : cmpTo P Q nb d p (k + 1) = cmpTo P Q nb d p k := by
  simp [cmpTo, List.range_succ, List.flatMap_append, h]
theorem cmpTo_le (P Q : Nat → Nat → Bool) (nb d : Nat) (p : List Nat) {k j : Nat} (h : k ≤ j) : (cmpTo P Q nb d p k).length ≤ (cmpTo P Q nb d p j).length := by
  induction j with
  | zero => obtain rfl : k = 0 := by omega
            exact Nat.le_refl _
  | succ j ih =>
    by_cases e : k = j + 1
    · subst e; exact Nat.le_refl _
    · have := ih (by omega)
      rcases hm : monB P Q (p ++ [j]) with _ | _
      · rw [cmpTo_no hm]; exact this
      · rw [cmpTo_yes hm, List.length_append]; omega
theorem cmpTo_mem {P Q : Nat → Nat → Bool} {nb d : Nat} {p : List Nat} {k : Nat} (hk : k < nb) (h : monB P Q (p ++ [k]) = true) {x : List Nat} (hx : x ∈ cmp P Q nb d (p ++ [k])) : x ∈ cmp P Q nb (d + 1) p := by
  rw [cmp, List.mem_flatMap]
  exact ⟨k, List.mem_range.2 hk, by rw [if_pos h]; exact hx⟩
theorem nth_snoc_old {p : List Nat} {x i : Nat} (h : i < p.length) : nth (p ++ [x]) i = nth p i := by
  simp [nth, List.getElem?_append_left h]
theorem nth_snoc_new (p : List Nat) (x : Nat) : nth (p ++ [x]) p.length = x := by simp [nth]

set_option maxRecDepth 100000 in
set_option maxHeartbeats 4000000 in
theorem goOn_in {c na nb l G1 G2 A Y Bb Fr To Gn B N s0 : Nat} {caps1 caps2 : Array Value} {P Q : Nat → Nat → Bool} {W0 : World} {Vx : List Nat → Prop} {J Jx : List (Nat × List Nat) → World → Prop}
    (hna : na ≤ 10) (hnb : nb ≤ 10) (e1 : Ent G1) (e2 : Ent G2) (hc1 : ∀ W, Oth c W0 W → Clo2 na G1 caps1 P W) (hc2 : ∀ W, Oth c W0 W → Clo2 nb G2 caps2 Q W)
    (cA : W0.cell? ⟨A, 0, none⟩ = some (.int .i64 (na : Nat))) (nA : A ≠ c) (cY : W0.cell? ⟨Y, 0, none⟩ = some (.func (.yield l) #[] #[])) (nY : Y ≠ c) (cB : W0.cell? ⟨Bb, 0, none⟩ = some (.int .i64 (nb : Nat))) (nB : Bb ≠ c)
    (cF : W0.cell? ⟨Fr, 0, none⟩ = some (.func (.func G1) #[] caps1)) (nF : Fr ≠ c) (cT : W0.cell? ⟨To, 0, none⟩ = some (.func (.func G2) #[] caps2)) (nT : To ≠ c)
    (cG : W0.cell? ⟨Gn, 0, none⟩ = some (.func (.func 33) #[] #[.pointer (some ⟨A, 0, none⟩), .pointer (some ⟨Y, 0, none⟩), .pointer (some ⟨Bb, 0, none⟩), .pointer (some ⟨Fr, 0, none⟩), .pointer (some ⟨To, 0, none⟩), .pointer (some ⟨Gn, 0, none⟩)])) (nG : Gn ≠ c)
    (hcs : c < s0) (hs0 : s0 ≤ W0.heap.size) (hJ : ∀ s X X', J s X → Below s0 X X' → J s X')
    (hY : ∀ m pre x X, J pre X → X.ownsRow W0.heap.size 3 1 (.slice (some ⟨B, 0, none⟩) na na) na (natVals x) → Vx x → pre.length < N → YieldAt Fence.wide m Tryd.prog l #[.slice (some ⟨B, 0, none⟩) na na] X fun e X' =>
      (e = .returned (.bool true) ∧ J (pre ++ [(B, x)]) X' ∧ Oth c X X') ∨ (e = .returned (.bool false) ∧ Jx (pre ++ [(B, x)]) X')) :
    ∀ (d m k : Nat) (p : List Nat) (pre : List (Nat × List Nat)) (W : World), k + d = na → p.length = k → (∀ i, i < k → nth p i < nb) → Oth c W0 W → W.ownsRow W0.heap.size 3 1 (.slice (some ⟨B, 0, none⟩) k na) k (natVals p) → J pre W →
      pre.length + (cmp P Q nb d p).length ≤ N → (∀ x, x ∈ cmp P Q nb d p → Vx x) →
      CallsIn Fence.wide m Tryd.prog 33 #[.slice (some ⟨B, 0, none⟩) k na, .pointer (some ⟨A, 0, none⟩), .pointer (some ⟨Y, 0, none⟩), .pointer (some ⟨Bb, 0, none⟩), .pointer (some ⟨Fr, 0, none⟩), .pointer (some ⟨To, 0, none⟩), .pointer (some ⟨Gn, 0, none⟩)] W fun e W' =>
        (e = .returned (.bool true) ∧ J (pre ++ (cmp P Q nb d p).map (Prod.mk B)) W' ∧ Oth c W0 W' ∧ W'.ownsRow W0.heap.size 3 1 (.slice (some ⟨B, 0, none⟩) k na) k (natVals p)) ∨ (e = .returned (.bool false) ∧ ∃ q, Jx q W') := by
  intro d
  induction d with
  | zero =>
    intro m k p pre W hkd hpk hpn hO hR hj hN hVx
    obtain rfl : k = na := by omega
    obtain ⟨fn, tmps, assign, body, hy, hRd⟩ := hY (m - 1) pre p W hj hR (hVx p (by simp [cmp])) (by simp [cmp] at hN; omega)
    have a0 := hO.cell cA nA
    have y0 := hO.cell cY nY
    refine callsIn_of_wp Tryd.func33 rfl trivial ?_ rfl
    simp only [Tryd.ntmps33, List.size_toArray, List.length_cons, List.length_nil, Nat.reduceAdd, Nat.reduceSub, Array.replicate_succ, Array.replicate_zero, List.push_toArray, List.append_toArray, List.nil_append, List.cons_append]
    gi_wp2
    refine ⟨fun h => by simp [Fence.wide] at h, ?_⟩
    refine hRd.mono ?_
    rintro e W' (⟨rfl, hj', ho'⟩ | ⟨rfl, hx'⟩)
    · have HF : Hid (J (pre ++ (cmp P Q nb 0 p).map (Prod.mk B)) W' ∧ Oth c W0 W' ∧ W'.ownsRow W0.heap.size 3 1 (.slice (some ⟨B, 0, none⟩) k k) k (natVals p)) := ⟨by simpa [cmp] using hj', hO.trans ho', ho'.owns hR (by omega)⟩
      clear hj' ho' hRd hy hO hR hj hc1 hc2 hY hJ
      gi_wp2
      go_ret
      exact .inl ⟨rfl, HF.out⟩
    · have HF : Hid (∃ q, Jx q W') := ⟨_, hx'⟩
      clear hx' hRd hy hO hR hj hc1 hc2 hY hJ
      gi_wp2
      go_ret
      exact .inr ⟨rfl, HF.out⟩
  | succ d ih =>
    intro m k p pre W hkd hpk hpn hO hR hj hN hVx
    obtain ⟨i0, hi, hz0, hz1, hz2⟩ := info_parts Tryd.info3
    have a0 := hO.cell cA nA
    have b0 := hO.cell cB nB
    have hklt : k < na := by omega
    have hkne : ((k : Int) == (na : Int)) = false := by simp; omega
    have HIH := (show Hid _ from ih)
    have HO : Hid (Oth c W0 W) := hO
    have HR : Hid (W.ownsRow W0.heap.size 3 1 (.slice (some ⟨B, 0, none⟩) k na) k (natVals p)) := hR
    have HJ0 : Hid (J pre W) := hj
    have HJA : Hid (∀ s X X', J s X → Below s0 X X' → J s X') := hJ
    have HC1 : Hid (∀ W, Oth c W0 W → Clo2 na G1 caps1 P W) := hc1
    have HC2 : Hid (∀ W, Oth c W0 W → Clo2 nb G2 caps2 Q W) := hc2
    have HVX : Hid (∀ x, x ∈ cmp P Q nb (d + 1) p → Vx x) := hVx
    have HCE : Hid (∀ X, Oth c W0 X → X.cell? ⟨Fr, 0, none⟩ = some (.func (.func G1) #[] caps1) ∧ X.cell? ⟨To, 0, none⟩ = some (.func (.func G2) #[] caps2) ∧ X.cell? ⟨Gn, 0, none⟩ = some (.func (.func 33) #[] #[.pointer (some ⟨A, 0, none⟩), .pointer (some ⟨Y, 0, none⟩), .pointer (some ⟨Bb, 0, none⟩), .pointer (some ⟨Fr, 0, none⟩), .pointer (some ⟨To, 0, none⟩), .pointer (some ⟨Gn, 0, none⟩)])) := fun X h => ⟨h.cell cF nF, h.cell cT nT, h.cell cG nG⟩
    have HPN : Hid (∀ i, i < k → nth p i < nb) := hpn
    have HN : Hid (pre.length + (cmpTo P Q nb d p nb).length ≤ N) := hN
    clear ih hO hR hj hJ hc1 hc2 hVx hpn hY cA cY cB cF cT cG hN
    refine callsIn_of_wp Tryd.func33 rfl trivial ?_ rfl
    simp only [Tryd.ntmps33, List.size_toArray, List.length_cons, List.length_nil, Nat.reduceAdd, Nat.reduceSub, Array.replicate_succ, Array.replicate_zero, List.push_toArray, List.append_toArray, List.nil_append, List.cons_append]
    gi_wp2
    clear a0 b0
    gi_loopw [21] (fun i wx => ∃ x : Nat, x ≤ nb ∧ i = .int .i64 x ∧ Hid (Oth c W0 wx) ∧ Hid (wx.ownsRow W0.heap.size 3 1 (.slice (some ⟨B, 0, none⟩) k na) k (natVals p)) ∧ Hid (J (pre ++ (cmpTo P Q nb d p x).map (Prod.mk B)) wx)) (fun i _ => nb - (intOf i).toNat)
    case atStart => exact ⟨0, Nat.zero_le _, rfl, HO, HR, show J (pre ++ (cmpTo P Q nb d p 0).map (Prod.mk B)) W by simpa [cmpTo] using HJ0.out⟩
    case round =>
      obtain ⟨x, hx, rfl, HO, HR, HJ⟩ := hrel
      by_cases hxl : x < nb
      · have hown := HR.out
        have hsz := HO.out.size
        gi_wp2_with (gi_at_builtin; refine wpListIn_append_fits _ rfl _ _ 22 rfl W0.heap.size 3 i0 1 Tryd.underlying22 hi hz1 B k na (natVals p) rfl (hown.alloc _) ⟨wr.heap.size, 0, none⟩ 1 1 [.int .i64 (x : Nat)] rfl rfl ?c1 ?c2 (by omega) ?_)
        case c1 =>
          intro j u hj
          match j, hj with
          | 0, hj => simp at hj; subst hj; simp [Addr.add]
        case c2 => intro u hu; simp at hu; subst hu; rfl
        intro w6 hown' hgrow
        have hBW : W0.heap.size ≤ B := owns_block hown B rfl
        have hb6 : Below W0.heap.size wr w6 := ((Below.refl W0.heap.size wr).alloc hsz _).grown hgrow (by simp; omega) (fun q e => by cases e; exact hBW)
        have HO6 : Hid (Oth c W0 w6) := HO.out.below hb6
        have HJ6 : Hid (J (pre ++ (cmpTo P Q nb d p x).map (Prod.mk B)) w6) := HJA.out _ _ _ HJ.out (hb6.mono hs0)
        have HR6 : Hid (w6.ownsRow W0.heap.size 3 1 (.slice (some ⟨B, 0, none⟩) (k + 1) na) (k + 1) (natVals (p ++ [x]))) := by rw [natVals_append]; exact hown'
        have HPX : Hid (∀ i, i < k + 1 → nth (p ++ [x]) i < nb) := fun i hi' => by
          by_cases e : i < p.length
          · rw [nth_snoc_old e]; exact HPN.out i (by omega)
          · obtain rfl : i = p.length := by omega
            rw [nth_snoc_new]; exact hxl
        have hlx : (p ++ [x]).length = k + 1 := by simp [hpk]
        have HLX : Hid ((p ++ [x]).length = k + 1) := hlx
        have HRW : Hid (Row w6 (some ⟨B, 0, none⟩) (k + 1) (fun i => (nth (p ++ [x]) i : Nat))) := fun i hi' => ⟨B, 0, rfl, by
          rw [Nat.zero_add, HR6.out.cellAt i (by omega)]; exact natVals_at _ _ (by omega)⟩
        obtain ⟨f0, t0, g0⟩ := HCE.out _ HO6.out
        clear hown' hgrow hown hsz HO HR HJ hb6 hlx
        gi_wp2
        refine ⟨trivial, fun h => by simp [Fence.wide] at h, (callsIn_wide.2 (isMonotone_any (k + 1) na nb G1 G2 caps1 caps2 P Q (some ⟨B, 0, none⟩) na (nth (p ++ [x])) w6 (by omega) (by omega) e1 e2 (HC1.out _ HO6.out) (HC2.out _ HO6.out) HPX.out HRW.out)).mono ?_⟩
        rintro e w7 ⟨⟨v, rfl, hv⟩, hb7⟩
        have hb70 : Below W0.heap.size w6 w7 := hb7.mono HO6.out.size
        have HO7 : Hid (Oth c W0 w7) := HO6.out.below hb70
        have HJ7 : Hid (J (pre ++ (cmpTo P Q nb d p x).map (Prod.mk B)) w7) := HJA.out _ _ _ HJ6.out (hb70.mono hs0)
        have HR7 : Hid (w7.ownsRow W0.heap.size 3 1 (.slice (some ⟨B, 0, none⟩) (k + 1) na) (k + 1) (natVals (p ++ [x]))) := owns_below HR6.out hb7
        have hv2 : v = monB P Q (p ++ [x]) := by
          rw [Bool.eq_iff_iff, hv, monB_iff, HLX.out]
        obtain ⟨f7, t7, g7⟩ := HCE.out _ HO7.out
        clear hb7 hb70 HO6 HJ6 HR6 HRW f0 t0 g0 hv
        rcases v with _ | _
        · have HNX : Hid (cmpTo P Q nb d p (x + 1) = cmpTo P Q nb d p x) := cmpTo_no hv2.symm
          clear hv2 f7 t7 g7
          gi_wp2
          refine ⟨fun _ h => (by cases h), ?_⟩
          gi_wp2
          go_roundw
          case rel => exact ⟨x + 1, by omega, by go_num, HO7.out, owns_cut HR7.out hpk, by rw [HNX.out]; exact HJ7.out⟩
          case measure => simp [intOf]; omega
        · have HNX : Hid (cmpTo P Q nb d p (x + 1) = cmpTo P Q nb d p x ++ cmp P Q nb d (p ++ [x])) := cmpTo_yes hv2.symm
          have HLE : Hid (pre.length + (cmpTo P Q nb d p (x + 1)).length ≤ N) := Nat.le_trans (Nat.add_le_add_left (cmpTo_le P Q nb d p (by omega)) _) HN.out
          have HM : Hid (∀ y, y ∈ cmp P Q nb d (p ++ [x]) → Vx y) := fun y hy => HVX.out y (cmpTo_mem hxl hv2.symm hy)
          clear hv2
          gi_wp2
          refine ⟨trivial, fun h => by simp [Fence.wide] at h, (HIH.out (m - 1) (k + 1) (p ++ [x]) (pre ++ (cmpTo P Q nb d p x).map (Prod.mk B)) w7 (by omega) HLX.out HPX.out HO7.out HR7.out HJ7.out (by have := HLE.out; rw [HNX.out, List.length_append] at this; simp; omega) HM.out).mono ?_⟩
          rintro e w8 (⟨rfl, hj8, ho8, hr8⟩ | ⟨rfl, hx8⟩)
          · have HO8 : Hid (Oth c W0 w8) := ho8
            have HR8 : Hid (w8.ownsRow W0.heap.size 3 1 (.slice (some ⟨B, 0, none⟩) k na) k (natVals p)) := owns_cut hr8 hpk
            have HJ8 : Hid (J (pre ++ (cmpTo P Q nb d p (x + 1)).map (Prod.mk B)) w8) := by
              rw [HNX.out, List.map_append, ← List.append_assoc]; exact hj8
            clear hj8 ho8 hr8 HO7 HR7 HJ7 f7 t7 g7
            gi_wp2
            go_roundw
            case rel => exact ⟨x + 1, by omega, by go_num, HO8.out, HR8.out, HJ8.out⟩
            case measure => simp [intOf]; omega
          · have HF : Hid (∃ q, Jx q w8) := hx8
            clear hx8 HO7 HR7 HJ7 f7 t7 g7
            gi_wp2
            go_ret
            exact .inr ⟨rfl, HF.out⟩
      · obtain rfl : x = nb := by omega
        have HF : Hid (J (pre ++ (cmp P Q x (d + 1) p).map (Prod.mk B)) wr ∧ Oth c W0 wr ∧ wr.ownsRow W0.heap.size 3 1 (.slice (some ⟨B, 0, none⟩) k na) k (natVals p)) := ⟨HJ.out, HO.out, HR.out⟩
        clear HJ HO HR HIH HC1 HC2
        gi_wp2
        go_ret
        exact .inl ⟨rfl, HF.out⟩
end Go.Proofs.YtfajgahofkcndaaDoor
