/-
  The call of All, at an operation of a region. Conditions: as told.
-/
import Derived.Test.YtfbdgdphpdhcpaaDoorGqH
import Derived.Test.YtfbdgdphpdhcpaaDoorGqF
namespace Go.Proofs.YtfbdgdphpdhcpaaDoor
open Go Go.Conc Go.RowKit Sm
set_option maxRecDepth 100000

section
variable {Fin : Value → World → Prop} {K : World} {r : Nat → Nat → Prop} {v : World} {ch : Nat → Option (List (List Nat))} {k : List Item} {fn : FuncId} {rc : List Frame}
/-- The call of All. -/
theorem all_call {ops : Array Oper} {i : Nat} {rest : List Nat} {o : Oper} {d t : Nat} (a1 : ops[i]? = some o) (a2 : o.dst = some d) (a3 : o.op = .call { callee := .value (.func GA), args := #[.tmp t], argTypes := #[3] }) (a4 : o.guard = none)
    {m : Nat} (hm : m ≤ 5) {tm tm' : Array Value} (hx : XR (Rg Tryd.prog afs cgs r) tm tm') (ht : tm[t]? = some (.int .i64 (m : Nat))) (hg : ∀ g ∈ cgs, r g g) (hT : Tab v) (hlow : Tryd.prog.globals.size ≤ v.heap.size) (hp0 : PureB v 0) (hp1 : PureB v 1)
    (hk : ∀ r' v' tm1' gv cv, (∀ b b', r b b' → r' b b') → HB v v' → (∀ g ∈ cgs, r' g g) → LObj v' gv (lvq m) → XR (Rg Tryd.prog afs cgs r') (tm.setIfInBounds d (.tuple #[.slice (some ⟨gv, 0, none⟩) (lvq m).length cv, .int .i64 0])) tm1' → Tab v' → Tryd.prog.globals.size ≤ v'.heap.size → PureB v' 0 → PureB v' 1 →
      Mc Fin K r' v' (fun _ => none) none (G (fF fn tm1' (.inRegion ops rest :: k) [] .normal) rc)) :
    Mc Fin K r v (fun _ => none) none (G (fF fn tm' (.inRegion ops (i :: rest) :: k) [] .normal) rc) := by
  have ht' := hx.same ht
  obtain ⟨CA, hCA⟩ : ∃ C, IsA C := ⟨_, rfl⟩
  have hbA : Tryd.f22.body = some CA := by rw [hCA]; rfl
  refine MV.call (by decide) a1 (by unfold Region.wanted; rw [a4]) a3 Tryd.func22 (by decide) hbA ?_
  have eargs : (#[Operand.tmp t].map (Act.eval ⟨tm', []⟩)) = #[.int .i64 (m : Nat)] := by
    simp [eval_tmp ht']
  rw [eargs]
  have hsz : Tryd.f22.ntmps - (#[Value.int .i64 (m : Nat)]).size = 19 := by rw [Tryd.ntmps22]; rfl
  rw [hsz]
  have ht1 := xr_init1 (VR.int (Rg Tryd.prog afs cgs r) .i64 (m : Nat)) 19
  have hz : (#[Value.int .i64 (m : Nat)] ++ Array.replicate 19 undef).size = 20 := by simp
  have h0 : (#[Value.int .i64 (m : Nat)] ++ Array.replicate 19 undef)[0]? = some (.int .i64 (m : Nat)) := by rw [Array.getElem?_append_left (by simp)]; rfl
  refine all_run hCA (n := m) hm (L := lvq) rfl (fun i hi => lvq_stp i (by omega)) ht1 hg hz h0 hT hlow hp0 hp1 fun r7 v7 tm7 tm7' gv cv hr7 hb7 g7 hx7 sz7 q2 q3 hlo hT7 hlow7 p07 p17 => ?_
  obtain ⟨y', q2', hy'⟩ := hx7.at q2
  have q3' := hx7.same q3
  have hret := ret_two (F := Tryd.f22) (t := 2) (u := 3) rfl q2' q3'
  refine MV.ret Tryd.func22 (fun w => (hret w).1) (fun w => (hret w).2) a1 ?_
  rw [a2]
  exact hk r7 v7 _ gv cv hr7 hb7 g7 hlo ((hx.mono (rg_le hr7)).set d (VR.tuple (xr2 hy' (VR.int _ _ _)))) hT7 hlow7 p07 p17
end
end Go.Proofs.YtfbdgdphpdhcpaaDoor
