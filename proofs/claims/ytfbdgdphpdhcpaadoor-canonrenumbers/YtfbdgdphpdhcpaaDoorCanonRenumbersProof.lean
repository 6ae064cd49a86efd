/-
  Proved: whatever order and list hasselaw.CanonRenumbers is handed, on every schedule it returns true, without a race, and what else was started has ended or only leaves; the order and the list read afterwards as they read before; the library's two tables of math/bits lie in their variables as the program's text lays them (the card ties that). No other condition.
-/
import Derived.Test.YtfbdgdphpdhcpaaDoorGqF
import Derived.Test.YtfbdgdphpdhcpaaDoorRnD
import Derived.Test.YtfbdgdphpdhcpaaDoorTie
import Derived.Test.YtfbdgdphpdhcpaaDoorCards
import Derived.Lay
import Derived.SizedLaws
import Derived.SevenTiedAt
import Derived.Stop.Joined
import Derived.ProofKit
import Derived.OpenShut
import Derived.ChangeOld
import Derived.Below
import Derived.Lib.SmallJoins
import Derived.Conc.Holds
import Derived.Conc.LeavingOf
namespace Go.Proofs.YtfbdgdphpdhcpaaDoor
open Go.ChangeShapes Go.WideShapes Go.ChangeAt Go.RowKit Go.Joins

set_option maxRecDepth 100000 in
/-- A list that came in lies in cells, or nowhere. -/
theorem list_cells {W : World} {r : Reach} {base : Nat} {a : Option Addr} {len cap : Nat} (h : Value.okWide Tryd.prog W r base 22 (.slice a len cap)) : InC W a := by
  unfold Value.okWide at h
  rw [Tryd.underlying22] at h
  exact slice_cells h
set_option maxRecDepth 100000 in
theorem canonRenumbers_lifted (os : Os) (started : os.Started) (H : Type) (enc : TypeId × Value → H) :
    ReturnsInLeavingWide {} Tryd.checked os 8 .any (fun w args => (Rows.canonRenumbersSpec.pre enc Tryd.prog Tryd.f8 Rows.canonRenumbersRow.domain false w args ∧ laidMetH Tryd.prog laid2 w) ∧ sizedMet enc Tryd.prog Tryd.f8 (OpenSpec.ofChange Rows.canonRenumbersSpec) false w args)
      (Rows.canonRenumbersSpec.post enc Tryd.prog Tryd.f8 false true false false) := by
  refine returnsInLeavingWide_of_good (C := Tryd.checked) own started
    (ChangeSpec.witness_shaped (enc := enc) (C := Tryd.checked) (os := os) (X := fun w _ => laidMetH Tryd.prog laid2 w) false (World.laidAll Tryd.prog os laid2) #[.agg #[.int .i64 0, .slice none 0 0], .slice none 0 0] 8 (World.laidAll_os _ _ _)
      (World.shaped_of_ZipB (by kernel_rfl) (by kernel_rfl)) (by kernel_rfl) (by kernel_rfl) (by kernel_rfl)
      (by rw [MakeChecks.laidMetH_plain _ _ _ (by kernel_rfl)]; exact laidMet_laidAll _ (by kernel_rfl) (by kernel_rfl))) ?_
  intro w tape i _ _ _ hok hpre _
  obtain ⟨_, _, _, fn', hfn', _, _, _, _, hval0⟩ := hok
  obtain rfl : fn' = Tryd.f8 := Option.some.inj (hfn'.symm.trans Tryd.func8)
  obtain ⟨⟨⟨ds, gs, before, hw, _⟩, hx⟩, _⟩ := hpre
  have hW := DataW.Whole.of_heap (w' := w.forCall tape i) (by rfl) hw
  have hL : laidMetH Tryd.prog laid2 (w.forCall tape i) := hx.of_heap (by rfl)
  have hval : ∀ (j : Nat) t v, Tryd.f8.params[j]? = some t → i.args[j]? = some v → Value.okWide Tryd.prog (w.forCall tape i) .any w.heap.size t v := hval0
  clear hw hx hval0
  generalize (w.forCall tape i) = W at hW hL hval ⊢
  generalize i.args = args at hW hval ⊢
  have hW' := hW
  obtain ⟨p, q, hA0, hV, rfl, _, _⟩ := hW
  have hA : DataW.TrodAll enc Tryd.prog W 0 (fun _ => true) true Tryd.f8.params.toList args.toList ds p := hA0
  rw [Tryd.params8] at hA hval
  obtain ⟨v0, vs0, d0, ds0, p0, q0, hargs, rfl, rfl, h0, r0⟩ := trodAll_cons hA
  obtain ⟨v1, vs1, d1, ds1, p1, q1, hargs1, rfl, rfl, h1, r1⟩ := trodAll_cons r0
  obtain ⟨rfl, rfl, rfl⟩ := trodAll_nil r1
  obtain rfl : args = #[v0, v1] := by cases args; simp_all
  obtain ⟨rfl, rfl⟩ := trodVars_none hV
  have k0 := h0
  have k1 := h1
  have lt0 : ∀ x ∈ p0, x.block < W.heap.size := by obtain ⟨m, hm⟩ := k0; exact DataW.trod_lt m _ _ _ hm
  have lt1 : ∀ x ∈ p1, x.block < W.heap.size := by obtain ⟨m, hm⟩ := k1; exact DataW.trod_lt m _ _ _ hm
  have ok0 := hval 0 24 v0 rfl rfl
  obtain ⟨u0, w0, y00, y10, m0, rfl, _, _, hy00, hy10⟩ := open_agg2 Tryd.underlying24 (by kernel_rfl) cells24 (hval 0 24 v0 rfl rfl) h0
  obtain ⟨n0, e00, _, _⟩ := DataW.trod_int Tryd.underlying3 hy00
  simp at e00
  subst e00
  obtain ⟨a0, len0, cap0, f0, rfl, hl0, hr0⟩ := row_of_trod hy10
  have ok1 := hval 1 22 v1 rfl rfl
  obtain ⟨a1, len1, cap1, rfl⟩ := okWide_slice Tryd.underlying22 ok1
  obtain ⟨ml1, hml1⟩ := h1
  obtain ⟨ap1, lenp1, capp1, f1, e31, hl1, hr1⟩ := row_of_trod (v := .slice a1 len1 cap1) hml1
  simp only [Value.slice.injEq] at e31
  obtain ⟨rfl, rfl, rfl⟩ := e31
  clear hA0
  have hnum := nums_of_laid hL
  obtain ⟨N, last, o, w', t', z1, z2, z3, z4⟩ := renumbers_win W (tab_of_laid hL) hnum.1 hnum.2 hl0 hr0 (order_cells ok0) hl1 hr1 (list_cells ok1)
  refine ⟨N, last, o, w', t', z1, z2, z3, z4.mono fun v hv => ?_⟩
  obtain ⟨rfl, hk⟩ := hv
  have bel : Below W.heap.size W { w' with tape := W.tape } := ⟨hk.2.2.1, rfl, hk.2.2.2, hk.1, hk.2.1⟩
  have hp : Rows.canonRenumbersSpec.post enc Tryd.prog Tryd.f8 false true false false W #[.agg #[.int .i64 n0, .slice a0 len0 cap0], .slice a1 len1 cap1] (.bool true) { w' with tape := W.tape } :=
    ⟨_, _, _, [], _, [], hW', trodAll_mk1 (shut_bool Tryd.underlying4 _), (trodAll_cons_mk (Below.trod laidOut (by kernel_rfl) (of_decide_eq_true (by kernel_rfl)) k0 bel lt0) (trodAll_cons_mk (Below.trod laidOut (by kernel_rfl) (of_decide_eq_true (by kernel_rfl)) k1 bel lt1) trodAll_mk0)), rfl, bel.frame _, fun h => by cases h⟩
  have hq := ChangeSpec.post_blind hp
  exact hq

theorem canonRenumbers_holds : Rows.CanonRenumbersSaid :=
  OpenClaim.holds_of_wide_leaving 8 Tryd.f8 rfl rfl rfl rfl rfl rfl rfl ⟨rfl, rfl, rfl, rfl, rfl⟩ rfl rfl rfl rfl rfl (by kernel_rfl) Tryd.func8 (by kernel_rfl)
    (of_decide_eq_true (by kernel_rfl)) (by unfold Func.isWrapper; rw [if_neg (of_decide_eq_false (by kernel_rfl))]; exact ⟨rfl, rfl⟩)
    (fun os started H enc _ => canonRenumbers_lifted os started H enc)

theorem canonRenumbers_sixth (r : OpenClaim) : Claim7.isSixth { stood := { row := r, standIns := [], harness := (true, "5758023b219c7002c9f5e7ae006e031041314cea34d745f8b49092d82b11926d"), looks := false }, kinds := [] } = false := by simp [Claim7.isSixth]
theorem canonRenumbers_card_holds : Rows.CanonRenumbersCardSaid := by
  refine ⟨Claim7.tied_new_at .later [.data, .data] true (Claim7.new_of_sixth canonRenumbers_holds (true, "5758023b219c7002c9f5e7ae006e031041314cea34d745f8b49092d82b11926d") false rfl ⟨rfl, rfl⟩ (by kernel_rfl) (canonRenumbers_sixth _) (fun f fn hf hfn => ?_)) (by kernel_rfl), fun D hD => (List.not_mem_nil (show D ∈ [] from hD)).elim, canonRenumbers_row_tie, fun h => absurd (show false = true from h) (by decide), (by kernel_rfl : true = Rows.canonRenumbersRow.goesBy Tryd.pinned.checked.prog)⟩
  obtain rfl : f = 8 := Option.some.inj ((show Tryd.prog.funcNamed "hasse/hasselaw.CanonRenumbers" = some 8 by kernel_rfl).symm.trans hf) |>.symm
  obtain rfl : fn = Tryd.f8 := (Option.some.inj (Tryd.func8.symm.trans hfn)).symm
  exact ⟨by kernel_rfl, fun j t ht => by
    rw [Tryd.params8] at ht
    have hm : t ∈ [24, 22] := by simpa using Array.mem_of_getElem? ht
    have hall : ([24, 22].all fun u => !Tryd.prog.wantsStandIn u) = true := by kernel_rfl
    exact (show Tryd.prog.wantsStandIn t = false by simpa using List.all_eq_true.1 hall t hm)⟩
end Go.Proofs.YtfbdgdphpdhcpaaDoor
