/-
  Proved: whatever two orders hasselaw.CanonAlike is handed, on every schedule it returns true, without a race, and what else was started has ended or only leaves; the orders read afterwards as they read before; the library's two tables of math/bits lie in their variables as the program's text lays them (the card ties that). No other condition.
-/
import Derived.Test.YtfbdgdphpdhcpaaDoorFrameC
import Derived.Test.YtfbdgdphpdhcpaaDoorAlB
import Derived.Test.YtfbdgdphpdhcpaaDoorTie
import Derived.Test.YtfbdgdphpdhcpaaDoorCards
import Derived.Lay
import Derived.SizedLaws
import Derived.SevenTiedAt
import Derived.Stop.Joined
import Derived.ProofKit
import Derived.OpenShut
import Derived.ChangeOld
import Derived.Below
import Derived.Lib.SmallJoins
import Derived.Conc.Holds
import Derived.Conc.LeavingOf
namespace Go.Proofs.YtfbdgdphpdhcpaaDoor
open Go.ChangeShapes Go.WideShapes Go.ChangeAt Go.RowKit Go.Joins

set_option maxRecDepth 100000 in
theorem canonAlike_lifted (os : Os) (started : os.Started) (H : Type) (enc : TypeId × Value → H) :
    ReturnsInLeavingWide {} Tryd.checked os 4 .any (fun w args => (Rows.canonAlikeSpec.pre enc Tryd.prog Tryd.f4 Rows.canonAlikeRow.domain false w args ∧ laidMetH Tryd.prog laid2 w) ∧ sizedMet enc Tryd.prog Tryd.f4 (OpenSpec.ofChange Rows.canonAlikeSpec) false w args)
      (Rows.canonAlikeSpec.post enc Tryd.prog Tryd.f4 false true false false) := by
  refine returnsInLeavingWide_of_good (C := Tryd.checked) own started
    (ChangeSpec.witness_shaped (enc := enc) (C := Tryd.checked) (os := os) (X := fun w _ => laidMetH Tryd.prog laid2 w) false (World.laidAll Tryd.prog os laid2) #[.agg #[.int .i64 0, .slice none 0 0], .agg #[.int .i64 0, .slice none 0 0]] 8 (World.laidAll_os _ _ _)
      (World.shaped_of_ZipB (by kernel_rfl) (by kernel_rfl)) (by kernel_rfl) (by kernel_rfl) (by kernel_rfl)
      (by rw [MakeChecks.laidMetH_plain _ _ _ (by kernel_rfl)]; exact laidMet_laidAll _ (by kernel_rfl) (by kernel_rfl))) ?_
  intro w tape i _ _ _ hok hpre _
  obtain ⟨_, _, _, fn', hfn', _, _, _, _, hval0⟩ := hok
  obtain rfl : fn' = Tryd.f4 := Option.some.inj (hfn'.symm.trans Tryd.func4)
  obtain ⟨⟨⟨ds, gs, before, hw, _⟩, hx⟩, _⟩ := hpre
  have hW := DataW.Whole.of_heap (w' := w.forCall tape i) (by rfl) hw
  have hL : laidMetH Tryd.prog laid2 (w.forCall tape i) := hx.of_heap (by rfl)
  have hval : ∀ (j : Nat) t v, Tryd.f4.params[j]? = some t → i.args[j]? = some v → Value.okWide Tryd.prog (w.forCall tape i) .any w.heap.size t v := hval0
  clear hw hx hval0
  generalize (w.forCall tape i) = W at hW hL hval ⊢
  generalize i.args = args at hW hval ⊢
  have hW' := hW
  obtain ⟨p, q, hA0, hV, rfl, _, _⟩ := hW
  have hA : DataW.TrodAll enc Tryd.prog W 0 (fun _ => true) true Tryd.f4.params.toList args.toList ds p := hA0
  rw [Tryd.params4] at hA hval
  obtain ⟨v0, vs0, d0, ds0, p0, q0, hargs, rfl, rfl, h0, r0⟩ := trodAll_cons hA
  obtain ⟨v1, vs1, d1, ds1, p1, q1, hargs1, rfl, rfl, h1, r1⟩ := trodAll_cons r0
  obtain ⟨rfl, rfl, rfl⟩ := trodAll_nil r1
  obtain rfl : args = #[v0, v1] := by cases args; simp_all
  obtain ⟨rfl, rfl⟩ := trodVars_none hV
  have k0 := h0
  have k1 := h1
  have lt0 : ∀ x ∈ p0, x.block < W.heap.size := by obtain ⟨m, hm⟩ := k0; exact DataW.trod_lt m _ _ _ hm
  have lt1 : ∀ x ∈ p1, x.block < W.heap.size := by obtain ⟨m, hm⟩ := k1; exact DataW.trod_lt m _ _ _ hm
  have ok0 := hval 0 24 v0 rfl rfl
  obtain ⟨u0, w0, y00, y10, m0, rfl, _, _, hy00, hy10⟩ := open_agg2 Tryd.underlying24 (by kernel_rfl) cells24 (hval 0 24 v0 rfl rfl) h0
  obtain ⟨n0, e00, _, _⟩ := DataW.trod_int Tryd.underlying3 hy00
  simp at e00
  subst e00
  obtain ⟨a0, len0, cap0, f0, rfl, hl0, hr0⟩ := row_of_trod hy10
  have ok1 := hval 1 24 v1 rfl rfl
  obtain ⟨u1, w1, y01, y11, m1, rfl, _, _, hy01, hy11⟩ := open_agg2 Tryd.underlying24 (by kernel_rfl) cells24 (hval 1 24 v1 rfl rfl) h1
  obtain ⟨n1, e01, _, _⟩ := DataW.trod_int Tryd.underlying3 hy01
  simp at e01
  subst e01
  obtain ⟨a1, len1, cap1, f1, rfl, hl1, hr1⟩ := row_of_trod hy11
  clear hA0
  have hnum := nums_of_laid hL
  obtain ⟨N, last, o, w', t', z1, z2, z3, z4⟩ := alike_win W (tab_of_laid hL) hnum.1 hnum.2 hl0 hr0 (order_cells ok0) hl1 hr1 (order_cells ok1)
  refine ⟨N, last, o, w', t', z1, z2, z3, z4.mono fun v hv => ?_⟩
  obtain ⟨rfl, hk⟩ := hv
  have bel : Below W.heap.size W { w' with tape := W.tape } := ⟨hk.2.2.1, rfl, hk.2.2.2, hk.1, hk.2.1⟩
  have hp : Rows.canonAlikeSpec.post enc Tryd.prog Tryd.f4 false true false false W #[.agg #[.int .i64 n0, .slice a0 len0 cap0], .agg #[.int .i64 n1, .slice a1 len1 cap1]] (.bool true) { w' with tape := W.tape } :=
    ⟨_, _, _, [], _, [], hW', trodAll_mk1 (shut_bool Tryd.underlying4 _), (trodAll_cons_mk (Below.trod laidOut (by kernel_rfl) (of_decide_eq_true (by kernel_rfl)) k0 bel lt0) (trodAll_cons_mk (Below.trod laidOut (by kernel_rfl) (of_decide_eq_true (by kernel_rfl)) k1 bel lt1) trodAll_mk0)), rfl, bel.frame _, fun h => by cases h⟩
  have hq := ChangeSpec.post_blind hp
  exact hq

theorem canonAlike_holds : Rows.CanonAlikeSaid :=
  OpenClaim.holds_of_wide_leaving 4 Tryd.f4 rfl rfl rfl rfl rfl rfl rfl ⟨rfl, rfl, rfl, rfl, rfl⟩ rfl rfl rfl rfl rfl (by kernel_rfl) Tryd.func4 (by kernel_rfl)
    (of_decide_eq_true (by kernel_rfl)) (by unfold Func.isWrapper; rw [if_neg (of_decide_eq_false (by kernel_rfl))]; exact ⟨rfl, rfl⟩)
    (fun os started H enc _ => canonAlike_lifted os started H enc)

theorem canonAlike_sixth (r : OpenClaim) : Claim7.isSixth { stood := { row := r, standIns := [], harness := (true, "5758023b219c7002c9f5e7ae006e031041314cea34d745f8b49092d82b11926d"), looks := false }, kinds := [] } = false := by simp [Claim7.isSixth]
theorem canonAlike_card_holds : Rows.CanonAlikeCardSaid := by
  refine ⟨Claim7.tied_new_at .later [.data, .data] true (Claim7.new_of_sixth canonAlike_holds (true, "5758023b219c7002c9f5e7ae006e031041314cea34d745f8b49092d82b11926d") false rfl ⟨rfl, rfl⟩ (by kernel_rfl) (canonAlike_sixth _) (fun f fn hf hfn => ?_)) (by kernel_rfl), fun D hD => (List.not_mem_nil (show D ∈ [] from hD)).elim, canonAlike_row_tie, fun h => absurd (show false = true from h) (by decide), (by kernel_rfl : true = Rows.canonAlikeRow.goesBy Tryd.pinned.checked.prog)⟩
  obtain rfl : f = 4 := Option.some.inj ((show Tryd.prog.funcNamed "hasse/hasselaw.CanonAlike" = some 4 by kernel_rfl).symm.trans hf) |>.symm
  obtain rfl : fn = Tryd.f4 := (Option.some.inj (Tryd.func4.symm.trans hfn)).symm
  exact ⟨by kernel_rfl, fun j t ht => by
    rw [Tryd.params4] at ht
    have hm : t ∈ [24, 24] := by simpa using Array.mem_of_getElem? ht
    have hall : ([24, 24].all fun u => !Tryd.prog.wantsStandIn u) = true := by kernel_rfl
    exact (show Tryd.prog.wantsStandIn t = false by simpa using List.all_eq_true.1 hall t hm)⟩
end Go.Proofs.YtfbdgdphpdhcpaaDoor
