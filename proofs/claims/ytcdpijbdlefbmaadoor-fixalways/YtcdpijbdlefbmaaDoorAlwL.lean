/-
  What fix.Always answers: whether each monotone map leaves a point; hasselaw.FixAlways returns true for every order. Conditions: slices read as slices of numbers; the law: the library's table lies in its variable.
-/
import Derived.Test.YtcdpijbdlefbmaaDoorCntL
namespace Go.Proofs.YtcdpijbdlefbmaaDoor
open Go.RowKit Go.Shelf
attribute [local go_sem] Oper.semAt_some

theorem fxs_zero (f : Nat → Nat) : ∀ q, fxs f q = 0 ↔ ∀ i, i < q → f i ≠ i
  | 0 => ⟨fun _ i hi => absurd hi (Nat.not_lt_zero _), fun _ => rfl⟩
  | q + 1 => by
    have ih := fxs_zero f q
    by_cases e : f q = q
    · rw [fxs_yes e]
      have : 0 < pw q := Nat.two_pow_pos q
      exact ⟨fun h => by omega, fun h => absurd e (h q (by omega))⟩
    · rw [fxs_no e, ih]
      exact ⟨fun h i hi => by
        by_cases k : i = q
        · subst k; exact e
        · exact h i (by omega), fun h i hi => h i (by omega)⟩
theorem fxs_nofB (p : List Nat) : nofB p = decide (fxs (nth p) p.length = 0) := by
  rw [Bool.eq_iff_iff, nofB_iff, decide_eq_true_iff, fxs_zero]
/-- A cell that may be written. -/
def RV (w : World) (b : Nat) (v : Value) : Prop := w.cell? ⟨b, 0, none⟩ = some v ∧ w.frozen? ⟨b, 0, none⟩ = false
theorem RV.step {w w' : World} {b : Nat} {v : Value} {N : Nat} (h : RV w b v) (hb : Below N w w') (hN : b < N) : RV w' b v :=
  ⟨(hb.cell (p := ⟨b, 0, none⟩) hN).trans h.1, (hb.frozen (p := ⟨b, 0, none⟩) hN).trans h.2⟩
theorem RV.new (w : World) (v : Value) (t : TypeId) : RV (w.alloc (.cells #[v] t)) w.heap.size v := ⟨by simp, World.frozen?_alloc_at _ _ _ _ rfl⟩
theorem RV.lt {w : World} {b : Nat} {v : Value} (h : RV w b v) : b < w.heap.size := World.block_lt_of_cell? _ _ h.1
theorem results_cell2 {fn : Func} {p u : Tmp} (h : fn.results = #[.cell p 4, .cell u 25]) (tmps : Array Value) (w : World) (b b' : Nat) (v v' : Value) (hp : tmps.getD p undef = .pointer (some ⟨b, 0, none⟩)) (hu : tmps.getD u undef = .pointer (some ⟨b', 0, none⟩))
    (hb : w.cell? ⟨b, 0, none⟩ = some v) (hb' : w.cell? ⟨b', 0, none⟩ = some v') : (results fn tmps).run Tryd.prog w = .ok (.tuple #[v, v']) w := by
  have hp' : tmps[p]?.getD undef = .pointer (some ⟨b, 0, none⟩) := by simpa using hp
  have hu' : tmps[u]?.getD undef = .pointer (some ⟨b', 0, none⟩) := by simpa using hu
  simp [results, h, hp', hu', asAddr, loadVar, go_sem, hb, hb']
theorem setTwo (w : World) (b b' : Nat) (hbb : b ≠ b') (u u' v v' : Value) (h : w.cell? ⟨b, 0, none⟩ = some u) (h' : w.cell? ⟨b', 0, none⟩ = some u') :
    ((w.setCell ⟨b, 0, none⟩ v).setCell ⟨b', 0, none⟩ v').cell? ⟨b, 0, none⟩ = some v ∧ ((w.setCell ⟨b, 0, none⟩ v).setCell ⟨b', 0, none⟩ v').cell? ⟨b', 0, none⟩ = some v' := by
  have ne : (⟨b, 0, none⟩ : Addr) ≠ ⟨b', 0, none⟩ := fun e => by injection e with e1; exact hbb e1
  constructor
  · first
    | rw [World.cell?_setCell_other _ _ _ _ ne]; exact World.cell?_setCell_same _ _ _ h
    | rw [World.cell?_setCell_other _ _ _ _ ne.symm]; exact World.cell?_setCell_same _ _ _ h
  · refine World.cell?_setCell_same _ _ _ (show _ = some u' from ?_)
    first
    | rw [World.cell?_setCell_other _ _ _ _ ne]; exact h'
    | rw [World.cell?_setCell_other _ _ _ _ ne.symm]; exact h'
def ACk (A : OA) (c0 c : Int) : Prop := (c0 ≠ 0 ∧ c = c0) ∨ (c0 = 0 ∧ ((c = 2 ∧ ¬ A.q ≤ 5) ∨ (c = 0 ∧ A.q ≤ 5)))
def AlwPost (A : OA) (e : Ending) : Prop := ∃ c0 c v, A.Ck c0 ∧ ACk A c0 c ∧ e = .returned (.tuple #[.bool v, .int .i64 c]) ∧ ((c ≠ 0 ∧ v = false) ∨ (c = 0 ∧ (v = true ↔ nofM A A = 0)))

set_option maxRecDepth 100000 in
set_option maxHeartbeats 4000000 in
theorem fixAlw_any (A : OA) (w : World) (hA : A.In w) :
    Calls Tryd.prog 10 #[A.v] w fun e w' => AlwPost A e ∧ Below w.heap.size w w' := by
  obtain ⟨W, HW⟩ : ∃ W, Hid (W = ((w.alloc (.cells #[.int .i64 A.n, .slice A.a A.la A.ca] 24)).alloc (.cells #[.bool false] 4)).alloc (.cells #[.int .i64 0] 25)) := ⟨_, rfl⟩
  have hbW : Below w.heap.size w W := by rw [HW.out]; exact (((Below.refl _ _).alloc (Nat.le_refl _) _).alloc (by simp) _).alloc (by simp; omega) _
  have xa : OB W w.heap.size A.n A.a A.la A.ca := by
    rw [HW.out]
    exact ((OB.new w _ _ _ _).step ((Below.refl _ _).alloc (Nat.le_refl _) _)).step ((Below.refl _ _).alloc (Nat.le_refl _) _)
  have r1 : RV W (w.heap.size + 1) (.bool false) := by
    have := RV.new (w.alloc (.cells #[.int .i64 A.n, .slice A.a A.la A.ca] 24)) (.bool false) 4
    rw [World.size_alloc] at this
    rw [HW.out]
    exact this.step ((Below.refl _ _).alloc (Nat.le_refl _) _) this.lt
  have r2 : RV W (w.heap.size + 2) (.int .i64 0) := by
    have := RV.new ((w.alloc (.cells #[.int .i64 A.n, .slice A.a A.la A.ca] 24)).alloc (.cells #[.bool false] 4)) (.int .i64 0) 25
    rw [World.size_alloc, World.size_alloc] at this
    rw [HW.out]
    exact this
  have hs2 : W.heap.size = w.heap.size + 3 := by rw [HW.out]; simp
  have hIn : A.In W := hA.step hbW
  have HIN0 : Hid (A.a = A.a ∧ Row w A.a A.la A.F) := ⟨rfl, hA.2⟩
  have HBW : Hid (Below w.heap.size w W) := hbW
  obtain ⟨X, hX⟩ : ∃ X, X = A := ⟨_, rfl⟩
  have HE : Hid (X = A) := hX
  have HIN : Hid (X.In W) := by rw [hX]; exact hIn
  have HCK : Hid (∀ wx, X.In wx → Calls Tryd.prog 20 #[A.v] wx fun e w' => (∃ c, e = .returned (.int .i64 c) ∧ X.Ck c) ∧ Below wx.heap.size wx w') := fun wx h => by
    rw [hX] at h ⊢
    exact check_any A.n A.a A.la A.ca A.F wx h.1 h.2
  rw [← hX]
  rw [show X.v = A.v by rw [hX]]
  clear hX hA hIn hbW
  obtain ⟨n, a, la, ca, F⟩ := A
  simp only [OA.v] at *
  obtain ⟨l0, l1⟩ := xa
  refine (callsIn_wide (n := 4)).1 ?_
  refine callsIn_of_wp_marks Tryd.func10 rfl trivial ?_ rfl
  simp only [Tryd.ntmps10, List.size_toArray, List.length_cons, List.length_nil, Nat.reduceAdd, Nat.reduceSub, Array.replicate_succ, Array.replicate_zero, List.push_toArray, List.append_toArray, List.nil_append, List.cons_append]
  gi_wp2
  rw [← HW.out]
  gi_wp2
  refine ⟨trivial, (callsIn_wide.2 (HCK.out _ HIN.out)).mono ?_⟩
  rintro e w1 ⟨⟨c, rfl, hc⟩, hb1⟩
  have HB3 : Hid (Below w.heap.size w w1) := Below.then HBW.out hb1
  have HIN1 : Hid (X.In w1) := HIN.out.step hb1
  have m0 := cell_step hb1 l0
  have m1 := cell_step hb1 l1
  have u1 := r1.step hb1 r1.lt
  have u2 := r2.step hb1 r2.lt
  have hs1 := hb1.size
  have HC : Hid (X.Ck c) := hc
  have HSZ1 : Hid (W.heap.size = w.heap.size + 3 ∧ W.heap.size ≤ w1.heap.size) := ⟨hs2, hs1⟩
  have HU : Hid (RV w1 (w.heap.size + 1) (.bool false) ∧ RV w1 (w.heap.size + 2) (.int .i64 0)) := ⟨u1, u2⟩
  obtain ⟨u10, u11⟩ := u1
  obtain ⟨u20, u21⟩ := u2
  clear hb1 HBW HIN l0 l1 r1 r2 hc HCK HW hs1 hs2
  by_cases h0 : c = 0
  · subst h0
    obtain hEX := HE.out
    obtain ⟨en, h10, hrg, hord⟩ := Chk.good HC.out
    rw [hEX] at en h10 hrg
    simp only at en h10 hrg
    subst en
    have HQX : Hid (X.q = la) := by rw [hEX]; rfl
    have HGX : Hid (X.g = nat F) := by rw [hEX]; rfl
    have hin := HIN1.out
    rw [hEX] at hin
    have HRA : Hid (Row w1 a la (fun k => (nat F k : Nat))) := hrg.row hin.2
    have HRA0 : Hid (Row w a la (fun k => (nat F k : Nat))) := hrg.row HIN0.out.2
    have HGA : Hid (∀ k, k < la → nat F k < 1024) := hrg.small2 h10
    clear hord hrg hin hEX HE HIN1
    by_cases h5 : la ≤ 5
    · have g5 : ¬ ((5 : Int) < (la : Int)) := by omega
      gi_wp2
      refine ⟨trivial, (callsIn_wide.2 (allMonotone_any (la : Nat) (la : Nat) a a la ca la ca w1)).mono ?_⟩
      rintro e w3 ⟨rfl, hw3⟩
      have hb3 : Below w1.heap.size w1 w3 := by rw [hw3]; exact ((Below.refl _ _).alloc (Nat.le_refl _) _).alloc (by simp) _
      have hs3 : w3.heap.size = w1.heap.size + 2 := by rw [hw3]; simp
      have HB4 : Hid (Below w.heap.size w w3) := Below.then HB3.out hb3
      have s0 : OB w3 w1.heap.size (la : Nat) a la ca := by rw [hw3]; exact (OB.new w1 _ _ _ _).step ((Below.refl _ _).alloc (Nat.le_refl _) _)
      have s1 : OB w3 (w1.heap.size + 1) (la : Nat) a la ca := by
        rw [hw3]
        have := OB.new (w1.alloc (.cells #[.int .i64 (la : Nat), .slice a la ca] 24)) (la : Nat) a la ca
        rw [World.size_alloc] at this
        exact this
      obtain ⟨hsz, hsz'⟩ := HSZ1.out
      have v1 : RV w3 (w.heap.size + 1) (.bool false) := HU.out.1.step hb3 (by omega)
      have v2 : RV w3 (w.heap.size + 2) (.int .i64 0) := HU.out.2.step hb3 (by omega)
      have hra : Row w3 a la (fun k => (nat F k : Nat)) := HRA.out.below hb3
      have hca : ∀ b off, 0 < la → a = some ⟨b, off, none⟩ → b ≠ w.heap.size + 1 := fun b off hl e => by
        obtain ⟨b', off', e', hv⟩ := HRA0.out 0 hl
        rw [e] at e'; cases e'
        have := World.block_lt_of_cell? _ _ hv
        simp only at this
        omega
      have HSEQ := (show Hid _ from all_seq (w.heap.size + 1) (4 - 1) w1.heap.size (w1.heap.size + 1) la la a a ca ca (nat F) (nat F) w3 h10 h10 HGA.out HGA.out s0.1 s0.2 s1.1 s1.2 hra hra (by omega) (by omega) hca hca (by omega))
      have HOK : Hid (ACk X 0 0) := .inr ⟨rfl, .inr ⟨rfl, by have := HQX.out; omega⟩⟩
      have HCM : Hid (nofM X X = ((cmp (upB (nat F)) (upB (nat F)) la la []).filter nofB).length) := by
        show ((cmp (upB X.g) (upB X.g) X.q X.q []).filter nofB).length = _
        rw [HGX.out, HQX.out]
      have HSZ3 : Hid (w.heap.size + 3 ≤ w3.heap.size) := by show _ ≤ _; omega
      have HI0 : Hid (RV w3 (w.heap.size + 1) (.bool false) ∧ RV w3 (w.heap.size + 2) (.int .i64 0)) := ⟨v1, v2⟩
      clear m0 m1 hw3 s0 s1 hra hca HRA HRA0 HGA HGX g5 u10 u11 u20 u21 v1 v2 hs3 hsz hsz' HU HSZ1 hb3
      gi_wp2
      refine range_b (n := 4) rfl (by omega) (gf := 24) (lb := #[.pointer (some ⟨w1.heap.size, 0, none⟩), .pointer (some ⟨w1.heap.size + 1, 0, none⟩)]) rfl trivial (fun _ _ => rfl) HSEQ.out (fun h k => h.trans k) (Oth.loop (w.heap.size + 1)) (Below.refl _ _) VM.loop
        (fun pre W' => (∀ x, x ∈ pre → nofB x.2 = false) ∧ RV W' (w.heap.size + 1) (.bool false) ∧ RV W' (w.heap.size + 2) (.int .i64 0) ∧ Below w.heap.size w W')
        (fun cc _ W' => cc = .ret ∧ nofM X X ≠ 0 ∧ RV W' (w.heap.size + 1) (.bool false) ∧ RV W' (w.heap.size + 2) (.int .i64 0) ∧ Below w.heap.size w W') ?hI ?hIx ?h0 ?a1 ?hassign ?hbody ?hdone ?hstop
      case hI =>
        rintro s A B ⟨i1, i2, i3, i4⟩ hAB
        have := HSZ3.out
        exact ⟨i1, i2.step hAB (by omega), i3.step hAB (by omega), i4.trans (hAB.mono (by omega))⟩
      case hIx =>
        rintro cc s A B ⟨i0, i1, i2, i3, i4⟩ hAB
        have := HSZ3.out
        exact ⟨i0, i1, i2.step hAB (by omega), i3.step hAB (by omega), i4.trans (hAB.mono (by omega))⟩
      case h0 => exact ⟨fun _ h => (by cases h), HI0.out.1, HI0.out.2, HB4.out⟩
      case hassign =>
        intro l x W' K hK
        gi_wp2
        exact hK
      case hbody =>
        rintro l pre x W' ⟨i1, i2, i3, i4⟩ ⟨hns, hmem⟩ _
        have hlen : x.2.length = la := by have := cmp_len _ _ _ hmem; simp at this; exact this
        obtain ⟨xa, xc, hxe, hxr⟩ := hns
        have HPRE : Hid (∀ y, y ∈ pre → nofB y.2 = false) := i1
        have HB5 : Hid (Below w.heap.size w W') := i4
        have HI2 : Hid (RV W' (w.heap.size + 1) (.bool false)) := i2
        have HI3 : Hid (RV W' (w.heap.size + 2) (.int .i64 0)) := i3
        have HFX : Hid (Calls Tryd.prog 21 #[encM la x] W' fun e w' => e = .returned (.int .i64 (fxs (nth x.2) x.2.length : Nat)) ∧ W' = w') := by
          rw [hxe]
          exact fixed_any x.2.length xa xc (nth x.2) W' (by omega) hxr
        have HNF : Hid (nofB x.2 = decide (fxs (nth x.2) x.2.length = 0)) := fxs_nofB x.2
        have HMEM : Hid (nofB x.2 = true → nofM X X ≠ 0) := fun h => by
          rw [HCM.out]
          intro e
          have := List.length_eq_zero_iff.1 e
          have hm : x.2 ∈ (cmp (upB (nat F)) (upB (nat F)) la la []).filter nofB := List.mem_filter.2 ⟨hmem, h⟩
          rw [this] at hm
          cases hm
        clear hxe hxr hmem hlen i1 i2 i3 i4
        generalize fxs (nth x.2) x.2.length = Z at *
        gi_wp2
        refine ⟨trivial, (CallsIn.inRound l (callsIn_wide.2 HFX.out)).mono ?_⟩
        rintro e w5 ⟨rfl, hw5⟩
        have hw5' := hw5.symm
        subst hw5'
        clear hw5 HFX
        by_cases hz : Z = 0
        · have hzz : (((Z : Nat) : Int) == 0) = true := by simp; omega
          have HX : Hid (nofM X X ≠ 0) := HMEM.out (by rw [HNF.out, hz]; rfl)
          obtain ⟨u10, u11⟩ := HI2.out
          obtain ⟨u20, u21⟩ := HI3.out
          clear hz
          gi_wp2
          refine ⟨((KeepsOthers.setCell _ _ _).trans (KeepsOthers.setCell _ _ _)).from _, rfl, HX.out, ?_, ?_, ?_⟩
          · refine ⟨(setTwo w5 (w.heap.size + 1) (w.heap.size + 2) (by omega) _ _ (.bool false) (.int .i64 0) u10 u20).1, ?_⟩
            rw [World.frozen?_setCell, World.frozen?_setCell]; exact u11
          · refine ⟨(setTwo w5 (w.heap.size + 1) (w.heap.size + 2) (by omega) _ _ (.bool false) (.int .i64 0) u10 u20).2, ?_⟩
            rw [World.frozen?_setCell, World.frozen?_setCell]; exact u21
          · exact (HB5.out.setCell (p := ⟨w.heap.size + 1, 0, none⟩) (Nat.le_add_right _ _) _).setCell (p := ⟨w.heap.size + 2, 0, none⟩) (Nat.le_add_right _ _) _
        · have hzz : (((Z : Nat) : Int) == 0) = false := by simp; omega
          have HX : Hid (∀ y, y ∈ pre ++ [x] → nofB y.2 = false) := fun y hy => by
            rcases List.mem_append.1 hy with h | h
            · exact HPRE.out y h
            · cases List.mem_singleton.1 h
              rw [HNF.out]; exact decide_eq_false hz
          clear hz
          gi_wp2
          exact ⟨KeepsFrom.refl _ _, Oth.refl _ _, HX.out, HI2.out, HI3.out, HB5.out⟩
      case hdone =>
        rintro D xs W' hD hS ⟨i1, i2, i3, i4⟩ hK
        have hN0 : nofM X X = 0 := by
          rw [HCM.out, ← hS, List.length_eq_zero_iff, List.filter_eq_nil_iff]
          intro y hy
          obtain ⟨z, hz, rfl⟩ := List.mem_map.1 hy
          rw [i1 z hz]; decide
        have HN0 : Hid (nofM X X = 0) := hN0
        have HB5 : Hid (Below w.heap.size w W') := i4
        have HK : Hid (W'.heap[D]? = some (.deferred (some []))) := hK
        have HD : Hid (w3.heap.size ≤ D) := hD
        obtain ⟨u10, u11⟩ := i2
        obtain ⟨u20, u21⟩ := i3
        clear hN0 i1 i4 hS hK hD
        gi_wp2
        have hne12 : w.heap.size + 1 ≠ w.heap.size + 2 := by omega
        obtain ⟨q1, q2⟩ := setTwo W' (w.heap.size + 1) (w.heap.size + 2) hne12 _ _ (.bool true) (.int .i64 0) u10 u20
        have hk2 : ((W'.setCell ⟨w.heap.size + 1, 0, none⟩ (.bool true)).setCell ⟨w.heap.size + 2, 0, none⟩ (.int .i64 0)).heap[D]? = some (.deferred (some [])) := ((KeepsOthers.setCell _ _ _).trans (KeepsOthers.setCell _ _ _)).same _ _ HK.out rfl
        have hb2 : Below w.heap.size w ((W'.setCell ⟨w.heap.size + 1, 0, none⟩ (.bool true)).setCell ⟨w.heap.size + 2, 0, none⟩ (.int .i64 0)) := (HB5.out.setCell (p := ⟨w.heap.size + 1, 0, none⟩) (Nat.le_add_right _ _) _).setCell (p := ⟨w.heap.size + 2, 0, none⟩) (Nat.le_add_right _ _) _
        refine ⟨by simp, .inl ⟨_, _, rfl, run_takeDeferred hk2, ?_⟩⟩
        have hbK := belowK_b (w := w3) (Nat.le_refl _) _ D _ (.deferred none) HD.out hk2 rfl rfl
        have h3 := HSZ3.out
        refine ⟨_, results_cell2 rfl _ _ _ _ _ _ rfl rfl ((hbK.cell (p := ⟨w.heap.size + 1, 0, none⟩) (by show w.heap.size + 1 < _; omega)).trans q1) ((hbK.cell (p := ⟨w.heap.size + 2, 0, none⟩) (by show w.heap.size + 2 < _; omega)).trans q2), ⟨0, 0, true, HC.out, HOK.out, rfl, .inr ⟨rfl, fun _ => HN0.out, fun _ => rfl⟩⟩, hb2.trans (hbK.mono (by omega))⟩
      case hstop =>
        rintro D cc pre W' hD _ ⟨rfl, i1, i2, i3, i4⟩ hK
        have HN0 : Hid (nofM X X ≠ 0) := i1
        have HB5 : Hid (Below w.heap.size w W') := i4
        have HK : Hid (W'.heap[D]? = some (.deferred (some []))) := hK
        have HD : Hid (w3.heap.size ≤ D) := hD
        obtain ⟨u10, u11⟩ := i2
        obtain ⟨u20, u21⟩ := i3
        clear i1 i4 hK hD
        gi_wp2
        refine ⟨by simp, .inl ⟨_, _, rfl, run_takeDeferred HK.out, ?_⟩⟩
        have hbK := belowK_b (w := w3) (Nat.le_refl _) _ D _ (.deferred none) HD.out HK.out rfl rfl
        have h3 := HSZ3.out
        refine ⟨_, results_cell2 rfl _ _ _ _ _ _ rfl rfl ((hbK.cell (p := ⟨w.heap.size + 1, 0, none⟩) (by show w.heap.size + 1 < _; omega)).trans u10) ((hbK.cell (p := ⟨w.heap.size + 2, 0, none⟩) (by show w.heap.size + 2 < _; omega)).trans u20), ⟨0, 0, false, HC.out, HOK.out, rfl, .inr ⟨rfl, fun h => (by cases h), fun h => absurd h HN0.out⟩⟩, HB5.out.trans (hbK.mono (by omega))⟩
    · have g5 : (5 : Int) < (la : Int) := by omega
      have HO : Hid (ACk X 0 2) := .inr ⟨rfl, .inl ⟨rfl, fun h => by have := HQX.out; omega⟩⟩
      gi_wp2
      obtain ⟨q1, q2⟩ := setTwo w1 (w.heap.size + 1) (w.heap.size + 2) (by omega) _ _ (.bool false) (.int .i64 2) u10 u20
      refine ⟨_, results_cell2 rfl _ _ _ _ _ _ rfl rfl q1 q2, ⟨0, 2, false, HC.out, HO.out, rfl, .inl ⟨by decide, rfl⟩⟩, ?_⟩
      exact (HB3.out.setCell (p := ⟨w.heap.size + 1, 0, none⟩) (Nat.le_add_right _ _) _).setCell (p := ⟨w.heap.size + 2, 0, none⟩) (Nat.le_add_right _ _) _
  · have hne : (c != 0) = true := by simpa using h0
    have HO : Hid (ACk X c c) := .inl ⟨h0, rfl⟩
    gi_wp2
    obtain ⟨q1, q2⟩ := setTwo w1 (w.heap.size + 1) (w.heap.size + 2) (by omega) _ _ (.bool false) (.int .i64 c) u10 u20
    refine ⟨_, results_cell2 rfl _ _ _ _ _ _ rfl rfl q1 q2, ⟨c, c, false, HC.out, HO.out, rfl, .inl ⟨h0, rfl⟩⟩, ?_⟩
    exact (HB3.out.setCell (p := ⟨w.heap.size + 1, 0, none⟩) (Nat.le_add_right _ _) _).setCell (p := ⟨w.heap.size + 2, 0, none⟩) (Nat.le_add_right _ _) _
theorem truthIs_any (c : Int) (b b' : Bool) (w : World) (h : (c ≠ 0 ∧ b = false) ∨ (c = 0 ∧ b = b')) :
    Calls Tryd.prog 12 #[.bool b, .int .i64 c, .int .i64 c, .bool b'] w fun e w' => e = .returned (.bool true) ∧ w = w' := by
  rcases h with ⟨h0, rfl⟩ | ⟨rfl, rfl⟩
  · have hne : (c == 0) = false := by simpa using h0
    cases b'
    · go_enter Tryd.func12, Tryd.ntmps12
      go_wp2
      go_ret
      exact ⟨rfl, rfl⟩
    · go_enter Tryd.func12, Tryd.ntmps12
      go_wp2
      go_ret
      exact ⟨rfl, rfl⟩
  · cases b
    · go_enter Tryd.func12, Tryd.ntmps12
      go_wp2
      go_ret
      exact ⟨rfl, rfl⟩
    · go_enter Tryd.func12, Tryd.ntmps12
      go_wp2
      go_ret
      exact ⟨rfl, rfl⟩

/-- An order boxed. -/
structure G1 (A : OA) (s : Nat) (w : World) : Prop where
  ia : A.In w
  xa : OB w s A.n A.a A.la A.ca
theorem G1.step {A : OA} {s : Nat} {w w' : World} (h : G1 A s w) (hb : Below w.heap.size w w') : G1 A s w' := ⟨h.ia.step hb, h.xa.step hb⟩
set_option maxHeartbeats 8000000 in
theorem fixAlways_all (A : OA) (w : World) (hA : A.In w) (hT : Tab w) :
    Calls Tryd.prog 4 #[A.v] w fun e w' => e = .returned (.bool true) ∧ Below w.heap.size w w' := by
  obtain ⟨W, eW⟩ : ∃ W, Hid (W = w.alloc (.cells #[.int .i64 A.n, .slice A.a A.la A.ca] 24)) := ⟨_, rfl⟩
  have hbW : Below w.heap.size w W := by rw [eW.out]; exact (Below.refl _ _).alloc (Nat.le_refl _) _
  have HB1 : Hid (Below w.heap.size w W) := hbW
  have hG : G1 A w.heap.size W := ⟨hA.step hbW, by rw [eW.out]; exact OB.new _ _ _ _ _⟩
  obtain ⟨X, hX⟩ : ∃ X, X = A := ⟨_, rfl⟩
  have HG : Hid (G1 X w.heap.size W) := by rw [hX]; exact hG
  have HTT : Hid (Tab w) := hT
  have Cm : Hid (∀ wx, G1 X w.heap.size wx → Calls Tryd.prog 10 #[X.v] wx fun e w' => AlwPost X e ∧ Below wx.heap.size wx w') := fun wx h => fixAlw_any X wx h.ia
  have Ct : Hid (∀ wx, G1 X w.heap.size wx → Calls Tryd.prog 11 #[X.v] wx fun e w' => (∃ c, e = .returned (.int .i64 c) ∧ X.Ck c) ∧ Below wx.heap.size wx w') := fun wx h => checkOrder_any X.n X.a X.la X.ca X.F wx h.ia.1 h.ia.2
  have Cr : Hid (∀ wx, G1 X w.heap.size wx → X.Ck 0 → X.q ≤ 5 → Calls Tryd.prog 7 #[X.v, X.v, .slice none 0 0] wx fun e w' => e = .returned (.tuple #[.int .i64 (cntM X X : Nat), .int .i64 (nofM X X : Nat)]) ∧ Below wx.heap.size wx w') := fun wx h hc h5 => maps_at h.ia h.ia hc hc h5 h5
  have HX : Hid (∀ wx, G1 X w.heap.size wx → OB wx w.heap.size A.n A.a A.la A.ca) := fun wx h => by
    rw [hX] at h
    exact h.xa
  have HN : Hid (X.Ck 0 → A.n = (X.q : Nat)) := fun h => by
    rw [← hX]
    exact (OA.open h).1
  have HV : Hid (X.v = A.v) := by rw [hX]; exact rfl
  rw [HV.out] at Cm
  rw [HV.out] at Ct
  rw [HV.out] at Cr
  clear hX hA hG hT HV hbW
  obtain ⟨n0, a, la, ca, F⟩ := A
  simp only [OA.v] at *
  obtain ⟨l0, l1⟩ := HX.out _ HG.out
  go_enter Tryd.func4, Tryd.ntmps4
  go_wp2_with fail
  rw [← eW.out]
  go_wp2_with fail
  clear eW
  refine (Cm.out _ HG.out).mono ?_
  rintro e w1 ⟨⟨c0, c, v, hc0, hc, rfl, hv⟩, hb1⟩
  have HB2 : Hid (Below w.heap.size w w1) := Below.then HB1.out hb1
  have HG1 : Hid (G1 X w.heap.size w1) := HG.out.step hb1
  have HC0 : Hid (X.Ck c0) := hc0
  have HC : Hid (ACk X c0 c) := hc
  have HVV : Hid ((c ≠ 0 ∧ v = false) ∨ (c = 0 ∧ (v = true ↔ nofM X X = 0))) := hv
  clear hb1 HG HB1 l0 l1 hc hc0 hv Cm
  obtain ⟨l0, l1⟩ := HX.out _ HG1.out
  go_wp2_with fail
  refine (Ct.out _ HG1.out).mono ?_
  rintro e w2 ⟨⟨c', rfl, hc'⟩, hb2⟩
  obtain rfl : c' = c0 := Chk.unique hc' HC0.out
  have HB4 : Hid (Below w.heap.size w w2) := Below.then HB2.out hb2
  have HG3 : Hid (G1 X w.heap.size w2) := HG1.out.step hb2
  clear hb2 HG1 HB2 hc' Ct l0 l1
  have Cb : Hid (∀ wx, Below w.heap.size w wx → Calls Tryd.prog 8 #[] wx fun e w' => e = .returned (.bool true) ∧ Below wx.heap.size wx w') := fun wx h => fixBegun_any _ (HTT.out.step h)
  clear HTT
  have HFIN : Hid (∀ (c : Int) (v v' : Bool), ((c ≠ 0 ∧ v = false) ∨ (c = 0 ∧ v = v')) → ∀ wx, Calls Tryd.prog 12 #[.bool v, .int .i64 c, .int .i64 c, .bool v'] wx fun e w' => e = .returned (.bool true) ∧ wx = w') := fun c v v' h wx => truthIs_any c v v' wx h
  by_cases h0 : c' = 0
  · subst h0
    have en := HN.out HC0.out
    obtain ⟨q, HQ⟩ : ∃ q, Hid (q = X.q) := ⟨_, rfl⟩
    rw [← HQ.out] at en
    subst en
    obtain ⟨l0, l1⟩ := HX.out _ HG3.out
    clear HN
    by_cases hq : q ≤ 5
    · have g5 : ¬ ((5 : Int) < (q : Int)) := by omega
      have hc : c = 0 := by
        rcases HC.out with ⟨h, _⟩ | ⟨_, ⟨_, h⟩ | ⟨h, _⟩⟩
        · exact absurd rfl h
        · exact absurd (by rw [← HQ.out]; exact hq) h
        · exact h
      subst hc
      have HVW : Hid (v = true ↔ nofM X X = 0) := by
        rcases HVV.out with ⟨h, _⟩ | ⟨_, h⟩
        · exact absurd rfl h
        · exact h
      have HCR := (show Hid _ from Cr.out _ HG3.out HC0.out (by rw [← HQ.out]; exact hq))
      clear HC HVV Cr
      generalize cntM X X = M at *
      generalize nofM X X = M' at *
      go_wp2_with fail
      refine Calls.mono HCR.out ?_
      rintro e w3 ⟨rfl, hb3⟩
      have HB5 : Hid (Below w.heap.size w w3) := Below.then HB4.out hb3
      clear hb3 HCR l0 l1 g5
      go_wp2_with fail
      refine (Cb.out _ HB5.out).mono ?_
      rintro e w4 ⟨rfl, hb4⟩
      have HB6 : Hid (Below w.heap.size w w4) := Below.then HB5.out hb4
      clear hb4 HB5
      have hvv : v = ((M' : Int) == 0) := by
        rw [Bool.eq_iff_iff, HVW.out]; simp
      subst hvv
      clear HVW
      go_wp2_with fail
      refine (HFIN.out _ _ _ (.inr ⟨rfl, rfl⟩) _).mono ?_
      rintro e w5 ⟨rfl, rfl⟩
      go_wp2_with fail
      go_ret
      exact ⟨rfl, HB6.out⟩
    · have g5 : (5 : Int) < (q : Int) := by omega
      have hc : c = 2 := by
        rcases HC.out with ⟨h, _⟩ | ⟨_, ⟨h, _⟩ | ⟨_, h⟩⟩
        · exact absurd rfl h
        · exact h
        · exact absurd (by rw [← HQ.out] at h; exact h) hq
      subst hc
      have hvv : v = false := by
        rcases HVV.out with ⟨_, h⟩ | ⟨h, _⟩
        · exact h
        · exact absurd h (by decide)
      subst hvv
      clear HC HVV Cr
      go_wp2_with fail
      refine (Cb.out _ HB4.out).mono ?_
      rintro e w4 ⟨rfl, hb4⟩
      have HB6 : Hid (Below w.heap.size w w4) := Below.then HB4.out hb4
      clear hb4 l0 l1
      go_wp2_with fail
      refine (HFIN.out _ _ _ (.inl ⟨by decide, rfl⟩) _).mono ?_
      rintro e w5 ⟨rfl, rfl⟩
      go_wp2_with fail
      go_ret
      exact ⟨rfl, HB6.out⟩
  · have hne : (c' == 0) = false := by simpa using h0
    have hc : c = c' := by
      rcases HC.out with ⟨_, h⟩ | ⟨h, _⟩
      · exact h
      · exact absurd h h0
    subst hc
    have hvv : v = false := by
      rcases HVV.out with ⟨_, h⟩ | ⟨h, _⟩
      · exact h
      · exact absurd h h0
    subst hvv
    clear HC HVV Cr
    go_wp2_with fail
    refine (Cb.out _ HB4.out).mono ?_
    rintro e w4 ⟨rfl, hb4⟩
    have HB6 : Hid (Below w.heap.size w w4) := Below.then HB4.out hb4
    clear hb4
    go_wp2_with fail
    refine (HFIN.out _ _ _ (.inl ⟨h0, rfl⟩) _).mono ?_
    rintro e w5 ⟨rfl, rfl⟩
    go_wp2_with fail
    go_ret
    exact ⟨rfl, HB6.out⟩
theorem fixAlways_any (n0 : Int) (a0 : Option Addr) (la0 ca0 : Nat) (f0 : Nat → Int) (w : World)
    (hl0 : la0 ≤ maxLen) (hr0 : Row w a0 la0 f0) (hT : Tab w) :
    Calls Tryd.prog 4 #[.agg #[.int .i64 n0, .slice a0 la0 ca0]] w fun e w' => e = .returned (.bool true) ∧ Below w.heap.size w w' :=
  fixAlways_all ⟨n0, a0, la0, ca0, f0⟩ w ⟨hl0, hr0⟩ hT
end Go.Proofs.YtcdpijbdlefbmaaDoor
