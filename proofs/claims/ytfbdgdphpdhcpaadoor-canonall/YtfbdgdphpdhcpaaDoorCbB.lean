/-
  What is left of a region, as a piece; the calls of canonBegun and of All, at an operation of a region. Conditions: as told.
  Each form is its own form, and the forms rise, reckoned. No condition.
  CanonAll's pieces, alone. Conditions: as told.
-/
import Derived.Test.YtfbdgdphpdhcpaaDoorGqH
import Derived.Test.YtfbdgdphpdhcpaaDoorRfB
namespace Go.Proofs.YtfbdgdphpdhcpaaDoor
open Go Go.Conc Go.RowKit Sm
set_option maxRecDepth 100000

theorem rest_of_wp {P : Program} {fn : FuncId} {ops : Array Oper} {l : List Nat} {tm : Array Value} {v : World} {Q : Act → World → Prop} (h : wpOps P ops (fun e a w => e = .normal ∧ a.defers = [] ∧ Q a w) l ⟨tm, []⟩ v) :
    ∃ a' v', a'.defers = [] ∧ Q a' v' ∧ Steps P (lone (pf fn ⟨tm, []⟩ [.inRegion ops l, mkI]) [dum] v) (lone (pf fn a' [mkI]) [dum] v') := by
  obtain ⟨e, a', w', ⟨rfl, hd, hq⟩, har⟩ := wp_ops _ _ _ h (pf fn ⟨tm, []⟩ []) [mkI] [dum]
  exact ⟨a', w', hd, hq, har⟩
section
variable {Fin : Value → World → Prop} {K : World} {r : Nat → Nat → Prop} {v : World} {ch : Nat → Option (List (List Nat))} {k : List Item} {fn : FuncId} {rc : List Frame}
/-- What is left of a region behind its first m operations, as a piece. -/
theorem mtail {ops : Array Oper} (m : Nat) {n : Nat} {l : List Oper} (hl : ops.toList.drop m = l) (hn' : l.length = n) (hin : ∃ f, Tryd.prog.funcs[fn]? = some f) (hB : itemB Tryd.prog afs cgs (.inRegion ops (List.range' m n)) = true) (hg : ∀ g ∈ cgs, r g g) {tm tm' : Array Value} (ht : XR (Rg Tryd.prog afs cgs r) tm tm') {Q : Act → World → Prop}
    (H : ∀ τ, wpList Tryd.prog ops (fun e a w => e = .normal ∧ a.defers = [] ∧ Q a w) l ⟨tm, []⟩ (tap τ v)) (hn : ∀ r' v1 tm1 tm1', (∀ b b', r b b' → r' b b') → XR (Rg Tryd.prog afs cgs r') tm1 tm1' → Q ⟨tm1, []⟩ v1 → Mc Fin K r' v1 ch none (G (fF fn tm1' k [] .normal) rc)) :
    Mc Fin K r v ch none (G (fF fn tm' (.inRegion ops (List.range' m n) :: k) [] .normal) rc) :=
  mrest hin hB hg ht (fun τ => rest_of_wp (by
    subst hn'
    rw [wpOps_eq_wpList l m (fun j => by rw [← hl, List.getElem?_drop, Array.getElem?_toList])]
    exact H τ)) hn
/-- The call of canonBegun. -/
theorem begun_call {ops : Array Oper} {i : Nat} {rest : List Nat} {o : Oper} {d : Nat} (a1 : ops[i]? = some o) (a2 : o.dst = some d) (a3 : o.op = .call { callee := .value (.func GB), args := #[], argTypes := #[] }) (a4 : o.guard = none)
    {tm tm' : Array Value} (hx : XR (Rg Tryd.prog afs cgs r) tm tm') (hg : ∀ g ∈ cgs, r g g) (hT : Tab v) (hlow : Tryd.prog.globals.size ≤ v.heap.size) (hp0 : PureB v 0) (hp1 : PureB v 1)
    (hk : ∀ r' v' tm1', (∀ b b', r b b' → r' b b') → HB v v' → (∀ g ∈ cgs, r' g g) → XR (Rg Tryd.prog afs cgs r') (tm.setIfInBounds d (.bool true)) tm1' → Tab v' → Tryd.prog.globals.size ≤ v'.heap.size → PureB v' 0 → PureB v' 1 →
      Mc Fin K r' v' (fun _ => none) none (G (fF fn tm1' (.inRegion ops rest :: k) [] .normal) rc)) :
    Mc Fin K r v (fun _ => none) none (G (fF fn tm' (.inRegion ops (i :: rest) :: k) [] .normal) rc) := by
  obtain ⟨CB, hCB⟩ : ∃ C, IsB C := ⟨_, rfl⟩
  have hbB : Tryd.f12.body = some CB := by rw [hCB]; rfl
  refine MV.call (by decide) a1 (by unfold Region.wanted; rw [a4]) a3 Tryd.func12 (by decide) hbB ?_
  have eargs0 : ((#[] : Array Operand).map (Act.eval ⟨tm', []⟩)) = #[] := by simp
  rw [eargs0]
  show Mc Fin K r v (fun _ => none) none (G (fF GB (#[] ++ Array.replicate 31 undef) [.code CB] [] .normal) (fF fn tm' (.inRegion ops (i :: rest) :: _) [] .normal :: rc))
  have ht0 : XR (Rg Tryd.prog afs cgs r) (#[] ++ Array.replicate 31 undef) (#[] ++ Array.replicate 31 undef) := by
    have := XR.rep (R := Rg Tryd.prog afs cgs r) 31
    simpa using this
  refine begun_run hCB ht0 hg (by simp) hT hlow hp0 hp1 fun r2 v2 tm2 tm2' hr2 hb2 g2 hx2 q0 hT2 hlow2 p02 p12 => ?_
  have q0' := vr_bool hx2 q0
  have hret := ret_one (F := Tryd.f12) (t := 0) rfl q0'
  refine MV.ret Tryd.func12 (fun w => (hret w).1) (fun w => (hret w).2) a1 ?_
  rw [a2]
  exact hk r2 v2 _ hr2 hb2 g2 ((hx.mono (rg_le hr2)).set d (VR.bool _ _)) hT2 hlow2 p02 p12
/-- The call of All. -/
theorem all_call {ops : Array Oper} {i : Nat} {rest : List Nat} {o : Oper} {d t : Nat} (a1 : ops[i]? = some o) (a2 : o.dst = some d) (a3 : o.op = .call { callee := .value (.func GA), args := #[.tmp t], argTypes := #[3] }) (a4 : o.guard = none)
    {m : Nat} (hm : m ≤ 5) {tm tm' : Array Value} (hx : XR (Rg Tryd.prog afs cgs r) tm tm') (ht : tm[t]? = some (.int .i64 (m : Nat))) (hg : ∀ g ∈ cgs, r g g) (hT : Tab v) (hlow : Tryd.prog.globals.size ≤ v.heap.size) (hp0 : PureB v 0) (hp1 : PureB v 1)
    (hk : ∀ r' v' tm1' gv cv, (∀ b b', r b b' → r' b b') → HB v v' → (∀ g ∈ cgs, r' g g) → LObj v' gv (lvq m) → XR (Rg Tryd.prog afs cgs r') (tm.setIfInBounds d (.tuple #[.slice (some ⟨gv, 0, none⟩) (lvq m).length cv, .int .i64 0])) tm1' → Tab v' → Tryd.prog.globals.size ≤ v'.heap.size → PureB v' 0 → PureB v' 1 →
      Mc Fin K r' v' (fun _ => none) none (G (fF fn tm1' (.inRegion ops rest :: k) [] .normal) rc)) :
    Mc Fin K r v (fun _ => none) none (G (fF fn tm' (.inRegion ops (i :: rest) :: k) [] .normal) rc) := by
  have ht' := hx.same ht
  obtain ⟨CA, hCA⟩ : ∃ C, IsA C := ⟨_, rfl⟩
  have hbA : Tryd.f22.body = some CA := by rw [hCA]; rfl
  refine MV.call (by decide) a1 (by unfold Region.wanted; rw [a4]) a3 Tryd.func22 (by decide) hbA ?_
  have eargs : (#[Operand.tmp t].map (Act.eval ⟨tm', []⟩)) = #[.int .i64 (m : Nat)] := by
    simp [eval_tmp ht']
  rw [eargs]
  have hsz : Tryd.f22.ntmps - (#[Value.int .i64 (m : Nat)]).size = 19 := by rw [Tryd.ntmps22]; rfl
  rw [hsz]
  have ht1 := xr_init1 (VR.int (Rg Tryd.prog afs cgs r) .i64 (m : Nat)) 19
  have hz : (#[Value.int .i64 (m : Nat)] ++ Array.replicate 19 undef).size = 20 := by simp
  have h0 : (#[Value.int .i64 (m : Nat)] ++ Array.replicate 19 undef)[0]? = some (.int .i64 (m : Nat)) := by rw [Array.getElem?_append_left (by simp)]; rfl
  refine all_run hCA (n := m) hm (L := lvq) rfl (fun i hi => lvq_stp i (by omega)) ht1 hg hz h0 hT hlow hp0 hp1 fun r7 v7 tm7 tm7' gv cv hr7 hb7 g7 hx7 sz7 q2 q3 hlo hT7 hlow7 p07 p17 => ?_
  obtain ⟨y', q2', hy'⟩ := hx7.at q2
  have q3' := hx7.same q3
  have hret := ret_two (F := Tryd.f22) (t := 2) (u := 3) rfl q2' q3'
  refine MV.ret Tryd.func22 (fun w => (hret w).1) (fun w => (hret w).2) a1 ?_
  rw [a2]
  exact hk r7 v7 _ gv cv hr7 hb7 g7 hlo ((hx.mono (rg_le hr7)).set d (VR.tuple (xr2 hy' (VR.int _ _ _)))) hT7 hlow7 p07 p17
theorem ga_r1x (tm : Array Value) (n : Int) (v : World) (hs : tm.size = 20) (h0 : tm[0]? = some (.int .i64 n)) (hn : n < 0 ∨ 5 < n) : (atc [1, 0, 0] (Tryd.f22.body.getD .skip)).wp Tryd.prog (fun e s w => e = .normal ∧ s.defers = [] ∧ HB v w ∧ s.tmps.size = 20 ∧ s.tmps[10]? = some (.bool true)) ⟨tm, []⟩ v := by
  have HS : Hid (tm.size = 20) := hs
  have s5 : 5 < tm.size := by omega
  have s6 : 6 < tm.size := by omega
  have s7 : 7 < tm.size := by omega
  have s8 : 8 < tm.size := by omega
  have s9 : 9 < tm.size := by omega
  have s10 : 10 < tm.size := by omega
  clear hs
  simp only [Tryd.f22, Option.getD_some, atc]
  rcases Int.lt_or_le n 0 with n0 | n0
  · go_wp2_with fail
    exact ⟨HB.refl _, HS.out⟩
  · have n0 : ¬ n < 0 := by omega
    have n5 : 5 < n := by omega
    clear hn
    go_wp2_with fail
    exact ⟨HB.refl _, HS.out⟩
theorem ga_r2 (tm : Array Value) (v : World) (hs : tm.size = 20) : (atc [0] (thenT (atc [1, 0] (Tryd.f22.body.getD .skip)))).wp Tryd.prog (fun e s w => e = .normal ∧ s.defers = [] ∧ HB v w ∧ s.tmps[2]? = some (.slice none 0 0) ∧ s.tmps[3]? = some (.int .i64 2)) ⟨tm, []⟩ v := by
  have s2 : 2 < tm.size := by omega
  have s3 : 3 < tm.size := by omega
  clear hs
  simp only [Tryd.f22, Option.getD_some, atc, thenT]
  go_wp2_with fail
  exact HB.refl _
theorem gax_shape {C : Code} (hC : IsA C) : thenT (atc [1, 0] C) = .seq (atc [0] (thenT (atc [1, 0] C))) .ret := by
  rw [hC]
  kernel_rfl
theorem gax_item {C : Code} (hC : IsA C) : itemB Tryd.prog afs cgs (.code (atc [0] (thenT (atc [1, 0] C)))) = true := by
  rw [hC]
  kernel_rfl
/-- The call of All, where there are no forms. -/
theorem all_none {ops : Array Oper} {i : Nat} {rest : List Nat} {o : Oper} {d t : Nat} (a1 : ops[i]? = some o) (a2 : o.dst = some d) (a3 : o.op = .call { callee := .value (.func GA), args := #[.tmp t], argTypes := #[3] }) (a4 : o.guard = none)
    {m : Int} (hm : m < 0 ∨ 5 < m) {tm tm' : Array Value} (hx : XR (Rg Tryd.prog afs cgs r) tm tm') (ht : tm[t]? = some (.int .i64 m)) (hg : ∀ g ∈ cgs, r g g)
    (hk : ∀ r' v' tm1', (∀ b b', r b b' → r' b b') → HB v v' → (∀ g ∈ cgs, r' g g) → XR (Rg Tryd.prog afs cgs r') (tm.setIfInBounds d (.tuple #[.slice none 0 0, .int .i64 2])) tm1' →
      Mc Fin K r' v' (fun _ => none) none (G (fF fn tm1' (.inRegion ops rest :: k) [] .normal) rc)) :
    Mc Fin K r v (fun _ => none) none (G (fF fn tm' (.inRegion ops (i :: rest) :: k) [] .normal) rc) := by
  have ht' := hx.same ht
  obtain ⟨C, hC⟩ : ∃ C, IsA C := ⟨_, rfl⟩
  have hbA : Tryd.f22.body = some C := by rw [hC]; rfl
  refine MV.call (by decide) a1 (by unfold Region.wanted; rw [a4]) a3 Tryd.func22 (by decide) hbA ?_
  have eargs : (#[Operand.tmp t].map (Act.eval ⟨tm', []⟩)) = #[.int .i64 m] := by
    simp [eval_tmp ht']
  rw [eargs]
  have hsz : Tryd.f22.ntmps - (#[Value.int .i64 m]).size = 19 := by rw [Tryd.ntmps22]; rfl
  rw [hsz]
  have ht1 := xr_init1 (VR.int (Rg Tryd.prog afs cgs r) .i64 m) 19
  have hz : (#[Value.int .i64 m] ++ Array.replicate 19 undef).size = 20 := by simp
  have h0 : (#[Value.int .i64 m] ++ Array.replicate 19 undef)[0]? = some (.int .i64 m) := by rw [Array.getElem?_append_left (by simp)]; rfl
  generalize (#[Value.int .i64 m] ++ Array.replicate 19 undef) = ta at ht1 hz h0 ⊢
  show Mc Fin K r v (fun _ => none) none (G (fF GA ta [.code C] [] .normal) (fF fn tm' (.inRegion ops (i :: rest) :: _) [] .normal :: rc))
  rw [ga_shape hC]
  refine mmv (mv_seq _ _) ?_
  refine mpiece ga_in (ga_ok hC (by simp)) hg ht1 (Q := fun s w => HB v w ∧ ∃ u, s.tmps = (ta.setIfInBounds 2 (.slice none 0 0)).setIfInBounds 3 u) (fun τ => ?_) fun r1 v1 tm1 tm1' hr1 hx1 hq => ?_
  · rw [hC]; exact ga_r0 ta (tap τ v)
  obtain ⟨hb1, u, e1⟩ := hq
  have e1 : tm1 = _ := e1
  have s1 : tm1.size = 20 := by rw [e1]; simp [hz]
  have b0 : tm1[0]? = some (.int .i64 m) := by rw [e1, set_ne (by decide), set_ne (by decide)]; exact h0
  have g1 : ∀ g ∈ cgs, r1 g g := fun g h => hr1 _ _ (hg g h)
  refine mmv (mv_seq _ _) ?_
  refine mmv (mv_seq _ _) ?_
  refine mpiece ga_in (ga_ok hC (by simp)) g1 hx1 (Q := fun s w => HB v1 w ∧ s.tmps.size = 20 ∧ s.tmps[10]? = some (.bool true)) (fun τ => ?_) fun r2 v2 tm2 tm2' hr2 hx2 hq => ?_
  · rw [hC]; exact ga_r1x tm1 m (tap τ v1) s1 b0 hm
  obtain ⟨hb2, s2, b10⟩ := hq
  have g2 : ∀ g ∈ cgs, r2 g g := fun g h => hr2 _ _ (g1 g h)
  refine mmv (mv_cond (b := true) (eval_tmp (D := []) (vr_bool hx2 b10))) ?_
  show Mc Fin K r2 v2 (fun _ => none) none (G (fF GA tm2' (.code (thenT (atc [1, 0] C)) :: _) [] .normal) _)
  rw [gax_shape hC]
  refine mmv (mv_seq _ _) ?_
  refine mpiece ga_in (gax_item hC) g2 hx2 (Q := fun s w => HB v2 w ∧ s.tmps[2]? = some (.slice none 0 0) ∧ s.tmps[3]? = some (.int .i64 2)) (fun τ => ?_) fun r3 v3 tm3 tm3' hr3 hx3 hq => ?_
  · rw [hC]; exact ga_r2 tm2 (tap τ v2) s2
  obtain ⟨hb3, q2, q3⟩ := hq
  obtain ⟨y', q2', hy'⟩ := hx3.at q2
  have q3' := hx3.same q3
  have hret := ret_two (F := Tryd.f22) (t := 2) (u := 3) rfl q2' q3'
  refine MV.ret Tryd.func22 (fun w => (hret w).1) (fun w => (hret w).2) a1 ?_
  rw [a2]
  have hr : ∀ b b', r b b' → r3 b b' := fun b b' q => hr3 _ _ (hr2 _ _ (hr1 _ _ q))
  exact hk r3 v3 _ hr ((hb1.trans hb2).trans hb3) (fun g h => hr3 _ _ (g2 g h)) ((hx.mono (rg_le hr)).set d (VR.tuple (xr2 hy' (VR.int _ _ _))))
end
end Go.Proofs.YtfbdgdphpdhcpaaDoor
namespace Go.Proofs.YtfbdgdphpdhcpaaDoor
open Go Go.Conc Go.RowKit Sm
set_option maxRecDepth 100000

/-- Is an order its own form? -/
def slfB (l : List (List Nat)) (o : List Nat) : Bool :=
  match bst (nth o) o.length l with
  | some y => (List.range o.length).all fun k => prt (nth o) y k == nth o k
  | none => false
def risB (n : Nat) : List (List Nat) → Bool
  | x :: y :: l => decide (cmpF (nth x) (nth y) n 0 < 0) && risB n (y :: l)
  | _ => true
def P5 : List (List Nat) := per 5 [] (pw 5 - 1)
theorem slf5 : L5.all (slfB P5) = true := by decide +kernel
theorem slf4 : ((List.range 5).all fun n => (lvq n).all (slfB (per n [] (pw n - 1)))) = true := by decide +kernel
theorem ris_all : ((List.range 6).all fun n => risB n (lvq n)) = true := by decide +kernel
theorem slf_all {n : Nat} (hn : n ≤ 5) {o : List Nat} (ho : o ∈ lvq n) : slfB (per n [] (pw n - 1)) o = true := by
  by_cases h : n < 5
  · exact List.all_eq_true.1 (List.all_eq_true.1 slf4 n (List.mem_range.2 h)) o ho
  · obtain rfl : n = 5 := by omega
    exact List.all_eq_true.1 slf5 o ho
theorem form_self {n : Nat} (hn : n ≤ 5) {o y : List Nat} (ho : o ∈ lvq n) (hl : o.length = n) (hy : bst (nth o) n (per n [] (pw n - 1)) = some y) (k : Nat) (hk : k < n) : prt (nth o) y k = nth o k := by
  have h := slf_all hn ho
  unfold slfB at h
  rw [hl, hy] at h
  have := List.all_eq_true.1 h k (List.mem_range.2 hk)
  exact beq_iff_eq.1 this
theorem ris_at (n : Nat) : ∀ (l : List (List Nat)), risB n l = true → ∀ k x y, l[k]? = some x → l[k + 1]? = some y → cmpF (nth x) (nth y) n 0 < 0
  | [], _, k, x, y, h1, _ => by simp at h1
  | [z], _, k, x, y, _, h2 => by simp at h2
  | x0 :: y0 :: l, h, k, x, y, h1, h2 => by
    unfold risB at h
    rw [Bool.and_eq_true] at h
    cases k with
    | zero =>
      simp at h1 h2
      subst h1; subst h2
      exact of_decide_eq_true h.1
    | succ k => exact ris_at n (y0 :: l) h.2 k x y (by simpa using h1) (by simpa using h2)
theorem lvq_ris {n : Nat} (hn : n ≤ 5) {k : Nat} {x y : List Nat} (h1 : (lvq n)[k]? = some x) (h2 : (lvq n)[k + 1]? = some y) : cmpF (nth x) (nth y) n 0 < 0 :=
  ris_at n _ (List.all_eq_true.1 ris_all n (List.mem_range.2 (by omega))) k x y h1 h2
end Go.Proofs.YtfbdgdphpdhcpaaDoor
namespace Go.Proofs.YtfbdgdphpdhcpaaDoor
open Go Go.Conc Go.RowKit Sm
set_option maxRecDepth 100000

/-- The number that choose picks. -/
def chs (c : Int) (n : Nat) : Nat := if c < 0 then ((-(c + 1)) % n).toNat else (c % n).toNat
theorem chs_lt (c : Int) {n : Nat} (hn : 0 < n) : chs c n < n := by
  have hz : ((n : Nat) : Int) ≠ 0 := by omega
  unfold chs
  split
  · have g1 := Int.emod_nonneg (-(c + 1)) hz
    have g2 := Int.emod_lt_of_pos (-(c + 1)) (show (0 : Int) < n by omega)
    omega
  · have g1 := Int.emod_nonneg c hz
    have g2 := Int.emod_lt_of_pos c (show (0 : Int) < n by omega)
    omega
theorem choose_is (c : Int) (n : Nat) (w : World) (hn : 0 < n) (hn2 : n ≤ 10000000000) (h1 : -9223372036854775808 ≤ c) (h2 : c ≤ 9223372036854775807) :
    Calls Tryd.prog 25 #[.int .i64 c, .int .i64 (n : Nat)] w fun e w' => e = .returned (.int .i64 (chs c n : Nat)) ∧ w = w' := by
  have hz : ((n : Nat) : Int) ≠ 0 := by omega
  by_cases hc : c < 0
  · have HQ : Hid (-(c + 1).tmod n = (chs c n : Nat)) := by
      have e : -(c + 1).tmod n = (-(c + 1)) % n := by rw [← Int.neg_tmod, Int.tmod_eq_emod_of_nonneg (by omega)]
      have g1 := Int.emod_nonneg (-(c + 1)) hz
      show _ = _
      unfold chs
      rw [if_pos hc, e]
      omega
    go_enter Tryd.func25, Tryd.ntmps25
    go_wp2_with fail
    go_ret
    exact ⟨ret_int HQ.out, rfl⟩
  · have HQ : Hid (c % n = (chs c n : Nat)) := by
      have g1 := Int.emod_nonneg c hz
      show _ = _
      unfold chs
      rw [if_neg hc]
      omega
    go_enter Tryd.func25, Tryd.ntmps25
    go_wp2_with fail
    go_ret
    exact ⟨ret_int HQ.out, rfl⟩
theorem oval_row {v : World} {o : List Nat} {x : Value} (hO : OVal v o x) : ∃ a cap, x = .agg #[.int .i64 (o.length : Nat), .slice a o.length cap] ∧ Row v a o.length (fun k => (nth o k : Nat)) := by
  rcases hO with ⟨rfl, rfl⟩ | ⟨bl, f, h1, h2, h3, rfl⟩
  · exact ⟨none, 0, rfl, fun k hk => absurd hk (Nat.not_lt_zero _)⟩
  · exact ⟨_, _, rfl, rowC_row h3⟩
/-- A form where it lies. -/
theorem lobj_at {v : World} {bf : Nat} {L : List (List Nat)} (h : LObj v bf L) {k : Nat} {o : List Nat} (hk : L[k]? = some o) : ∃ a c, v.cell? ⟨bf, k * 2, none⟩ = some (.int .i64 (o.length : Nat)) ∧ v.cell? ⟨bf, k * 2 + 1, none⟩ = some (.slice a o.length c) ∧ Row v a o.length (fun k => (nth o k : Nat)) := by
  obtain ⟨cf, fr, hcf, hlv⟩ := h
  obtain ⟨p, q, hO, hp, hq⟩ := hlv k o hk
  obtain ⟨a, cap, e, hr⟩ := oval_row hO
  simp only [Value.agg.injEq, Array.mk.injEq, List.cons.injEq, and_true] at e
  obtain ⟨rfl, rfl⟩ := e
  refine ⟨a, cap, ?_, ?_, hr⟩
  · unfold World.cell?
    rw [show v.heap[bf]? = _ from hcf, Nat.mul_comm]
    exact hp
  · unfold World.cell?
    rw [show v.heap[bf]? = _ from hcf, Nat.mul_comm]
    exact hq
abbrev GC : FuncId := 6
def IsC (C : Code) : Prop := C = Tryd.f6.body.getD .skip
abbrev cbody (C : Code) : Code := .seq (.seq (atc [1, 1, 1, 1, 0, 1, 2, 2, 0, 0] C) (.cond (.tmp 49) .skip (.exit 0))) (.seq (.block 1 (.seq (atc [1, 1, 1, 1, 0, 1, 2, 2, 1, 0, 2, 0] C) (.cond (.tmp 85) (thenT (atc [1, 1, 1, 1, 0, 1, 2, 2, 1, 0, 2] C)) .skip))) (atc [1, 1, 1, 1, 0, 1, 2, 2, 1, 1] C))
theorem gc_shape {C : Code} (hC : IsC C) : C = .seq (atc [0] C) (.seq (atc [1, 0] C) (.seq (.seq (atc [1, 1, 0, 0] C) (.cond (.tmp 24) (.seq (atc [0] (thenT (atc [1, 1, 0] C))) .ret) .skip)) (.seq (.seq (atc [1, 1, 1, 0, 0] C) (.cond (.tmp 45) (thenT (atc [1, 1, 1, 0] C)) .skip)) (.seq (.seq (atc [1, 1, 1, 1, 0, 0] C) (.block 0 (.loop (cbody C)))) (.seq (atc [1, 1, 1, 1, 1, 0] C) (.seq (atc [1, 1, 1, 1, 1, 1, 0] C) .ret)))))) := by
  rw [hC]
  kernel_rfl
abbrev gcl : List (List Nat) := [[0], [1, 1, 1, 0, 0], [1, 1, 1, 1, 0, 0], [1, 1, 1, 1, 0, 1, 2, 2, 0, 0], [1, 1, 1, 1, 0, 1, 2, 2, 1, 0, 2, 0], [1, 1, 1, 1, 0, 1, 2, 2, 1, 1], [1, 1, 1, 1, 1, 0], [1, 1, 1, 1, 1, 1, 0]]
theorem gc_item : (gcl.all fun l => itemB Tryd.prog afs cgs (.code (atc l (Tryd.f6.body.getD .skip)))) = true := by kernel_rfl
theorem gc_ok {C : Code} (hC : IsC C) {l : List Nat} (h : l ∈ gcl) : itemB Tryd.prog afs cgs (.code (atc l C)) = true := by
  rw [hC]
  exact List.all_eq_true.1 gc_item l h
theorem gc_in : ∃ f, Tryd.prog.funcs[GC]? = some f := ⟨_, Tryd.func6⟩
theorem gc1_shape {C : Code} (hC : IsC C) : atc [1, 0] C = .region 1 (opsOf (atc [1, 0] C)) false := by
  rw [hC]
  kernel_rfl
theorem gc1_ops {C : Code} (hC : IsC C) : (((opsOf (atc [1, 0] C)).map fun o => (o.dst, o.op, o.guard)).toList.take 2) = [(some 11, .move (.tmp 0), none), (some 12, .call { callee := .value (.func GA), args := #[.tmp 11], argTypes := #[3] }, none)] ∧ (opsOf (atc [1, 0] C)).size = 7 ∧ itemB Tryd.prog afs cgs (.inRegion (opsOf (atc [1, 0] C)) (List.range' 2 5)) = true := by
  rw [hC]
  exact ⟨by kernel_rfl, by kernel_rfl, by kernel_rfl⟩
theorem gc2_shape {C : Code} (hC : IsC C) : atc [1, 1, 0, 0] C = .region 2 (opsOf (atc [1, 1, 0, 0] C)) false := by
  rw [hC]
  kernel_rfl
theorem gc2_ops {C : Code} (hC : IsC C) : (((opsOf (atc [1, 1, 0, 0] C)).map fun o => (o.dst, o.op, o.guard)).toList.take 1) = [(some 15, .call { callee := .value (.func GB), args := #[], argTypes := #[] }, none)] ∧ (opsOf (atc [1, 1, 0, 0] C)).size = 10 ∧ itemB Tryd.prog afs cgs (.inRegion (opsOf (atc [1, 1, 0, 0] C)) (List.range' 1 9)) = true := by
  rw [hC]
  exact ⟨by kernel_rfl, by kernel_rfl, by kernel_rfl⟩
theorem gc3_shape {C : Code} (hC : IsC C) : atc [0] (thenT (atc [1, 1, 0] C)) = .region 3 (opsOf (atc [0] (thenT (atc [1, 1, 0] C)))) false := by
  rw [hC]
  kernel_rfl
theorem gc3_ops {C : Code} (hC : IsC C) : (((opsOf (atc [0] (thenT (atc [1, 1, 0] C)))).map fun o => (o.dst, o.op, o.guard)).toList.take 1) = [(some 25, .call { callee := .value (.func GB), args := #[], argTypes := #[] }, none)] ∧ (opsOf (atc [0] (thenT (atc [1, 1, 0] C)))).size = 11 ∧ itemB Tryd.prog afs cgs (.inRegion (opsOf (atc [0] (thenT (atc [1, 1, 0] C)))) (List.range' 1 10)) = true := by
  rw [hC]
  exact ⟨by kernel_rfl, by kernel_rfl, by kernel_rfl⟩
theorem c_r0 (tm : Array Value) (v : World) (hs : tm.size = 106)  : (atc [0] (Tryd.f6.body.getD .skip)).wp Tryd.prog (fun e s w => e = .normal ∧ s.defers = [] ∧ HB v w ∧ s.tmps = tm.setIfInBounds 4 (.bool false)) ⟨tm, []⟩ v := by
  have HS : Hid (tm.size = 106) := hs
  clear hs
  simp only [Tryd.f6, Option.getD_some, atc]
  go_wp2_with fail
  exact HB.refl _
theorem c_t1 (tm : Array Value) (v : World) (hs : tm.size = 106) (x : Value) (e0 : Int) (h12 : tm[12]? = some (.tuple #[x, .int .i64 e0])) : wpList Tryd.prog (opsOf (atc [1, 0] (Tryd.f6.body.getD .skip))) (fun e s w => e = .normal ∧ s.defers = [] ∧ HB v w ∧ s.tmps.size = 106 ∧ s.tmps[5]? = some x ∧ s.tmps[6]? = some (.int .i64 e0) ∧ ∀ j, j < 5 → s.tmps[j]? = tm[j]?) ((opsOf (atc [1, 0] (Tryd.f6.body.getD .skip))).toList.drop 2) ⟨tm, []⟩ v := by
  have HS : Hid (tm.size = 106) := hs
  have s5 : 5 < tm.size := by omega
  have s6 : 6 < tm.size := by omega
  have s10 : 10 < tm.size := by omega
  have s13 : 13 < tm.size := by omega
  have s14 : 14 < tm.size := by omega
  clear hs
  simp only [Tryd.f6, Option.getD_some, atc, opsOf, List.drop_succ_cons, List.drop_zero]
  go_wp2_with fail
  refine ⟨HB.refl _, HS.out, fun j hj => ?_⟩
  repeat rw [Array.getElem?_setIfInBounds_ne (by omega)]
theorem c_t2 (tm : Array Value) (v : World) (hs : tm.size = 106) (n : Nat) (h15 : tm[15]? = some (.bool true)) (h0 : tm[0]? = some (.int .i64 (n : Nat))) (hn : n ≤ 5) : wpList Tryd.prog (opsOf (atc [1, 1, 0, 0] (Tryd.f6.body.getD .skip))) (fun e s w => e = .normal ∧ s.defers = [] ∧ HB v w ∧ s.tmps.size = 106 ∧ s.tmps[24]? = some (.bool false) ∧ ∀ j, j < 15 → s.tmps[j]? = tm[j]?) ((opsOf (atc [1, 1, 0, 0] (Tryd.f6.body.getD .skip))).toList.drop 1) ⟨tm, []⟩ v := by
  have HS : Hid (tm.size = 106) := hs
  have s16 : 16 < tm.size := by omega
  have s17 : 17 < tm.size := by omega
  have s18 : 18 < tm.size := by omega
  have s19 : 19 < tm.size := by omega
  have s20 : 20 < tm.size := by omega
  have s21 : 21 < tm.size := by omega
  have s22 : 22 < tm.size := by omega
  have s23 : 23 < tm.size := by omega
  have s24 : 24 < tm.size := by omega
  have n0 : ¬ (n : Int) < 0 := by omega
  have n5 : ¬ (5 : Int) < (n : Int) := by omega
  clear hs
  simp only [Tryd.f6, Option.getD_some, atc, opsOf, List.drop_succ_cons, List.drop_zero]
  go_wp2_with fail
  refine ⟨HB.refl _, HS.out, fun j hj => ?_⟩
  repeat rw [Array.getElem?_setIfInBounds_ne (by omega)]
theorem c_t2x (tm : Array Value) (v : World) (hs : tm.size = 106) (n : Int) (h15 : tm[15]? = some (.bool true)) (h0 : tm[0]? = some (.int .i64 n)) (hn : n < 0 ∨ 5 < n) : wpList Tryd.prog (opsOf (atc [1, 1, 0, 0] (Tryd.f6.body.getD .skip))) (fun e s w => e = .normal ∧ s.defers = [] ∧ HB v w ∧ s.tmps.size = 106 ∧ s.tmps[24]? = some (.bool true) ∧ ∀ j, j < 15 → s.tmps[j]? = tm[j]?) ((opsOf (atc [1, 1, 0, 0] (Tryd.f6.body.getD .skip))).toList.drop 1) ⟨tm, []⟩ v := by
  have HS : Hid (tm.size = 106) := hs
  have s16 : 16 < tm.size := by omega
  have s17 : 17 < tm.size := by omega
  have s18 : 18 < tm.size := by omega
  have s19 : 19 < tm.size := by omega
  have s20 : 20 < tm.size := by omega
  have s21 : 21 < tm.size := by omega
  have s22 : 22 < tm.size := by omega
  have s23 : 23 < tm.size := by omega
  have s24 : 24 < tm.size := by omega
  clear hs
  simp only [Tryd.f6, Option.getD_some, atc, opsOf, List.drop_succ_cons, List.drop_zero]
  rcases Int.lt_or_le n 0 with n0 | n0
  · go_wp2_with fail
    refine ⟨HB.refl _, HS.out, fun j hj => ?_⟩
    repeat rw [Array.getElem?_setIfInBounds_ne (by omega)]
  · have n0 : ¬ n < 0 := by omega
    have n5 : 5 < n := by omega
    clear hn
    go_wp2_with fail
    refine ⟨HB.refl _, HS.out, fun j hj => ?_⟩
    repeat rw [Array.getElem?_setIfInBounds_ne (by omega)]
theorem c_t3 (tm : Array Value) (v : World) (hs : tm.size = 106) (h25 : tm[25]? = some (.bool true)) (h5 : tm[5]? = some (.slice none 0 0)) (h6 : tm[6]? = some (.int .i64 2)) : wpList Tryd.prog (opsOf (atc [0] (thenT (atc [1, 1, 0] (Tryd.f6.body.getD .skip))))) (fun e s w => e = .normal ∧ s.defers = [] ∧ HB v w ∧ s.tmps[4]? = some (.bool true)) ((opsOf (atc [0] (thenT (atc [1, 1, 0] (Tryd.f6.body.getD .skip))))).toList.drop 1) ⟨tm, []⟩ v := by
  have HS : Hid (tm.size = 106) := hs
  have s4 : 4 < tm.size := by omega
  have s26 : 26 < tm.size := by omega
  have s27 : 27 < tm.size := by omega
  have s28 : 28 < tm.size := by omega
  have s29 : 29 < tm.size := by omega
  have s30 : 30 < tm.size := by omega
  have s31 : 31 < tm.size := by omega
  have s32 : 32 < tm.size := by omega
  have s33 : 33 < tm.size := by omega
  have s34 : 34 < tm.size := by omega
  clear hs
  simp only [Tryd.f6, Option.getD_some, atc, thenT, opsOf, List.drop_succ_cons, List.drop_zero]
  go_wp2_with fail
  exact HB.refl _
theorem c_r4 (tm : Array Value) (v : World) (hs : tm.size = 106) (n : Nat) (a : Option Addr) (m c : Nat) (h0 : tm[0]? = some (.int .i64 (n : Nat))) (h5 : tm[5]? = some (.slice a m c)) (h6 : tm[6]? = some (.int .i64 0)) (hn : n ≤ 5) (hm : [1, 1, 2, 5, 16, 63][n]? = some m) : (atc [1, 1, 1, 0, 0] (Tryd.f6.body.getD .skip)).wp Tryd.prog (fun e s w => e = .normal ∧ s.defers = [] ∧ HB v w ∧ s.tmps.size = 106 ∧ s.tmps[45]? = some (.bool false) ∧ ∀ j, j < 9 → s.tmps[j]? = tm[j]?) ⟨tm, []⟩ v := by
  have HS : Hid (tm.size = 106) := hs
  have s35 : 35 < tm.size := by omega
  have s36 : 36 < tm.size := by omega
  have s37 : 37 < tm.size := by omega
  have s38 : 38 < tm.size := by omega
  have s39 : 39 < tm.size := by omega
  have s40 : 40 < tm.size := by omega
  have s41 : 41 < tm.size := by omega
  have s42 : 42 < tm.size := by omega
  have s43 : 43 < tm.size := by omega
  have s44 : 44 < tm.size := by omega
  have s45 : 45 < tm.size := by omega
  clear hs
  simp only [Tryd.f6, Option.getD_some, atc]
  have HB1 : Hid (∀ o, HB v (v.alloc o)) := fun o => HB.of (B := v.heap.size) ((Below.refl _ v).alloc (Nat.le_refl _) _) (Nat.le_refl _)
  have hcase : (n = 0 ∧ m = 1) ∨ (n = 1 ∧ m = 1) ∨ (n = 2 ∧ m = 2) ∨ (n = 3 ∧ m = 5) ∨ (n = 4 ∧ m = 16) ∨ (n = 5 ∧ m = 63) := by
    match n, hn with
    | 0, _ => simp at hm; omega
    | 1, _ => simp at hm; omega
    | 2, _ => simp at hm; omega
    | 3, _ => simp at hm; omega
    | 4, _ => simp at hm; omega
    | 5, _ => simp at hm; omega
  clear hm hn
  rcases hcase with ⟨rfl, rfl⟩ | ⟨rfl, rfl⟩ | ⟨rfl, rfl⟩ | ⟨rfl, rfl⟩ | ⟨rfl, rfl⟩ | ⟨rfl, rfl⟩
  all_goals (
    go_wp2_with fail
    refine ⟨HB1.out _, HS.out, fun j hj => ?_⟩
    repeat rw [Array.getElem?_setIfInBounds_ne (by omega)])
theorem c_r6 (tm : Array Value) (v : World) (hs : tm.size = 106)  : (atc [1, 1, 1, 1, 0, 0] (Tryd.f6.body.getD .skip)).wp Tryd.prog (fun e s w => e = .normal ∧ s.defers = [] ∧ HB v w ∧ s.tmps = tm.setIfInBounds 7 (.int .i64 0)) ⟨tm, []⟩ v := by
  have HS : Hid (tm.size = 106) := hs
  clear hs
  simp only [Tryd.f6, Option.getD_some, atc]
  go_wp2_with fail
  exact HB.refl _
theorem c_r7 (tm : Array Value) (v : World) (hs : tm.size = 106) (a : Option Addr) (i m c : Nat) (h7 : tm[7]? = some (.int .i64 (i : Nat))) (h5 : tm[5]? = some (.slice a m c)) : (atc [1, 1, 1, 1, 0, 1, 2, 2, 0, 0] (Tryd.f6.body.getD .skip)).wp Tryd.prog (fun e s w => e = .normal ∧ s.defers = [] ∧ HB v w ∧ s.tmps.size = 106 ∧ s.tmps[49]? = some (.bool (decide ((i : Int) < (m : Int)))) ∧ ∀ j, j < 9 → s.tmps[j]? = tm[j]?) ⟨tm, []⟩ v := by
  have HS : Hid (tm.size = 106) := hs
  have s46 : 46 < tm.size := by omega
  have s47 : 47 < tm.size := by omega
  have s48 : 48 < tm.size := by omega
  have s49 : 49 < tm.size := by omega
  clear hs
  simp only [Tryd.f6, Option.getD_some, atc]
  go_wp2_with fail
  refine ⟨HB.refl _, HS.out, fun j hj => ?_⟩
  repeat rw [Array.getElem?_setIfInBounds_ne (by omega)]
theorem c_r8 (tm : Array Value) (v : World) (hs : tm.size = 106) (i : Nat) (h7 : tm[7]? = some (.int .i64 (i : Nat))) (hi : i < 1000) : (atc [1, 1, 1, 1, 0, 1, 2, 2, 1, 1] (Tryd.f6.body.getD .skip)).wp Tryd.prog (fun e s w => e = .normal ∧ s.defers = [] ∧ HB v w ∧ s.tmps.size = 106 ∧ s.tmps[7]? = some (.int .i64 ((i + 1 : Nat) : Int)) ∧ ∀ j, j < 9 → j ≠ 7 → s.tmps[j]? = tm[j]?) ⟨tm, []⟩ v := by
  have HS : Hid (tm.size = 106) := hs
  have s50 : 50 < tm.size := by omega
  have s51 : 51 < tm.size := by omega
  clear hs
  simp only [Tryd.f6, Option.getD_some, atc]
  go_wp2_with fail
  refine ⟨HB.refl _, HS.out, set_at (by have := HS.out; simp; omega) _, fun j hj h7 => ?_⟩
  repeat rw [Array.getElem?_setIfInBounds_ne (by omega)]
end Go.Proofs.YtfbdgdphpdhcpaaDoor
