/-
  What fix.Always answers: whether each monotone map leaves a point. No condition but that slices read as slices of numbers.
-/
import Derived.Test.YtfajgahofkcndaaDoorFixedL
import Derived.Test.YtfajgahofkcndaaDoorRivM
namespace Go.Proofs.YtfajgahofkcndaaDoor
open Go.RowKit Go.Shelf
attribute [local go_sem] Oper.semAt_some

/-- It leaves none. -/
def nofB (p : List Nat) : Bool := (List.range p.length).all fun i => !(nth p i == i)
theorem nofB_iff {p : List Nat} : nofB p = true ↔ ∀ i, i < p.length → nth p i ≠ i := by
  unfold nofB
  simp [List.all_eq_true, List.mem_range]
/-- How many of the monotone maps leave no point. -/
def nofM (A B : OA) : Nat := ((cmp (upB A.g) (upB B.g) B.q A.q []).filter nofB).length
theorem fxs_zero (f : Nat → Nat) : ∀ q, fxs f q = 0 ↔ ∀ i, i < q → f i ≠ i
  | 0 => ⟨fun _ i hi => absurd hi (Nat.not_lt_zero _), fun _ => rfl⟩
  | q + 1 => by
    have ih := fxs_zero f q
    by_cases e : f q = q
    · rw [fxs_yes e]
      have : 0 < pw q := Nat.two_pow_pos q
      exact ⟨fun h => by omega, fun h => absurd e (h q (by omega))⟩
    · rw [fxs_no e, ih]
      exact ⟨fun h i hi => by
        by_cases k : i = q
        · subst k; exact e
        · exact h i (by omega), fun h i hi => h i (by omega)⟩
theorem fxs_nofB (p : List Nat) : nofB p = decide (fxs (nth p) p.length = 0) := by
  rw [Bool.eq_iff_iff, nofB_iff, decide_eq_true_iff, fxs_zero]
/-- A cell that may be written. -/
def RV (w : World) (b : Nat) (v : Value) : Prop := w.cell? ⟨b, 0, none⟩ = some v ∧ w.frozen? ⟨b, 0, none⟩ = false
theorem RV.step {w w' : World} {b : Nat} {v : Value} {N : Nat} (h : RV w b v) (hb : Below N w w') (hN : b < N) : RV w' b v :=
  ⟨(hb.cell (p := ⟨b, 0, none⟩) hN).trans h.1, (hb.frozen (p := ⟨b, 0, none⟩) hN).trans h.2⟩
theorem RV.new (w : World) (v : Value) (t : TypeId) : RV (w.alloc (.cells #[v] t)) w.heap.size v := ⟨by simp, World.frozen?_alloc_at _ _ _ _ rfl⟩
theorem RV.lt {w : World} {b : Nat} {v : Value} (h : RV w b v) : b < w.heap.size := World.block_lt_of_cell? _ _ h.1
theorem results_cell2 {fn : Func} {p u : Tmp} (h : fn.results = #[.cell p 4, .cell u 26]) (tmps : Array Value) (w : World) (b b' : Nat) (v v' : Value) (hp : tmps.getD p undef = .pointer (some ⟨b, 0, none⟩)) (hu : tmps.getD u undef = .pointer (some ⟨b', 0, none⟩))
    (hb : w.cell? ⟨b, 0, none⟩ = some v) (hb' : w.cell? ⟨b', 0, none⟩ = some v') : (results fn tmps).run Tryd.prog w = .ok (.tuple #[v, v']) w := by
  have hp' : tmps[p]?.getD undef = .pointer (some ⟨b, 0, none⟩) := by simpa using hp
  have hu' : tmps[u]?.getD undef = .pointer (some ⟨b', 0, none⟩) := by simpa using hu
  simp [results, h, hp', hu', asAddr, loadVar, go_sem, hb, hb']
theorem setTwo (w : World) (b b' : Nat) (hbb : b ≠ b') (u u' v v' : Value) (h : w.cell? ⟨b, 0, none⟩ = some u) (h' : w.cell? ⟨b', 0, none⟩ = some u') :
    ((w.setCell ⟨b, 0, none⟩ v).setCell ⟨b', 0, none⟩ v').cell? ⟨b, 0, none⟩ = some v ∧ ((w.setCell ⟨b, 0, none⟩ v).setCell ⟨b', 0, none⟩ v').cell? ⟨b', 0, none⟩ = some v' := by
  have ne : (⟨b, 0, none⟩ : Addr) ≠ ⟨b', 0, none⟩ := fun e => by injection e with e1; exact hbb e1
  constructor
  · first
    | rw [World.cell?_setCell_other _ _ _ _ ne]; exact World.cell?_setCell_same _ _ _ h
    | rw [World.cell?_setCell_other _ _ _ _ ne.symm]; exact World.cell?_setCell_same _ _ _ h
  · refine World.cell?_setCell_same _ _ _ (show _ = some u' from ?_)
    first
    | rw [World.cell?_setCell_other _ _ _ _ ne]; exact h'
    | rw [World.cell?_setCell_other _ _ _ _ ne.symm]; exact h'
def ACk (A : OA) (c0 c : Int) : Prop := (c0 ≠ 0 ∧ c = c0) ∨ (c0 = 0 ∧ ((c = 2 ∧ ¬ A.q ≤ 5) ∨ (c = 0 ∧ A.q ≤ 5)))
def AlwPost (A : OA) (e : Ending) : Prop := ∃ c0 c v, A.Ck c0 ∧ ACk A c0 c ∧ e = .returned (.tuple #[.bool v, .int .i64 c]) ∧ ((c ≠ 0 ∧ v = false) ∨ (c = 0 ∧ (v = true ↔ nofM A A = 0)))

set_option maxRecDepth 100000 in
set_option maxHeartbeats 4000000 in
theorem fixAlw_any (A : OA) (w : World) (hA : A.In w) :
    Calls Tryd.prog 8 #[A.v] w fun e w' => AlwPost A e ∧ Below w.heap.size w w' := by
  obtain ⟨W, HW⟩ : ∃ W, Hid (W = ((w.alloc (.cells #[.int .i64 A.n, .slice A.a A.la A.ca] 24)).alloc (.cells #[.bool false] 4)).alloc (.cells #[.int .i64 0] 26)) := ⟨_, rfl⟩
  have hbW : Below w.heap.size w W := by rw [HW.out]; exact (((Below.refl _ _).alloc (Nat.le_refl _) _).alloc (by simp) _).alloc (by simp; omega) _
  have xa : OB W w.heap.size A.n A.a A.la A.ca := by
    rw [HW.out]
    exact ((OB.new w _ _ _ _).step ((Below.refl _ _).alloc (Nat.le_refl _) _)).step ((Below.refl _ _).alloc (Nat.le_refl _) _)
  have r1 : RV W (w.heap.size + 1) (.bool false) := by
    have := RV.new (w.alloc (.cells #[.int .i64 A.n, .slice A.a A.la A.ca] 24)) (.bool false) 4
    rw [World.size_alloc] at this
    rw [HW.out]
    exact this.step ((Below.refl _ _).alloc (Nat.le_refl _) _) this.lt
  have r2 : RV W (w.heap.size + 2) (.int .i64 0) := by
    have := RV.new ((w.alloc (.cells #[.int .i64 A.n, .slice A.a A.la A.ca] 24)).alloc (.cells #[.bool false] 4)) (.int .i64 0) 26
    rw [World.size_alloc, World.size_alloc] at this
    rw [HW.out]
    exact this
  have hs2 : W.heap.size = w.heap.size + 3 := by rw [HW.out]; simp
  have hIn : A.In W := hA.step hbW
  have HIN0 : Hid (A.a = A.a ∧ Row w A.a A.la A.F) := ⟨rfl, hA.2⟩
  have HBW : Hid (Below w.heap.size w W) := hbW
  obtain ⟨X, hX⟩ : ∃ X, X = A := ⟨_, rfl⟩
  have HE : Hid (X = A) := hX
  have HIN : Hid (X.In W) := by rw [hX]; exact hIn
  have HCK : Hid (∀ wx, X.In wx → Calls Tryd.prog 19 #[A.v] wx fun e w' => (∃ c, e = .returned (.int .i64 c) ∧ X.Ck c) ∧ Below wx.heap.size wx w') := fun wx h => by
    rw [hX] at h ⊢
    exact check_any A.n A.a A.la A.ca A.F wx h.1 h.2
  rw [← hX]
  rw [show X.v = A.v by rw [hX]]
  clear hX hA hIn hbW
  obtain ⟨n, a, la, ca, F⟩ := A
  simp only [OA.v] at *
  obtain ⟨l0, l1⟩ := xa
  refine (callsIn_wide (n := 4)).1 ?_
  refine callsIn_of_wp_marks Tryd.func8 rfl trivial ?_ rfl
  simp only [Tryd.ntmps8, List.size_toArray, List.length_cons, List.length_nil, Nat.reduceAdd, Nat.reduceSub, Array.replicate_succ, Array.replicate_zero, List.push_toArray, List.append_toArray, List.nil_append, List.cons_append]
  gi_wp2
  rw [← HW.out]
  gi_wp2
  refine ⟨trivial, (callsIn_wide.2 (HCK.out _ HIN.out)).mono ?_⟩
  rintro e w1 ⟨⟨c, rfl, hc⟩, hb1⟩
  have HB3 : Hid (Below w.heap.size w w1) := Below.then HBW.out hb1
  have HIN1 : Hid (X.In w1) := HIN.out.step hb1
  have m0 := cell_step hb1 l0
  have m1 := cell_step hb1 l1
  have u1 := r1.step hb1 r1.lt
  have u2 := r2.step hb1 r2.lt
  have hs1 := hb1.size
  have HC : Hid (X.Ck c) := hc
  have HSZ1 : Hid (W.heap.size = w.heap.size + 3 ∧ W.heap.size ≤ w1.heap.size) := ⟨hs2, hs1⟩
  have HU : Hid (RV w1 (w.heap.size + 1) (.bool false) ∧ RV w1 (w.heap.size + 2) (.int .i64 0)) := ⟨u1, u2⟩
  obtain ⟨u10, u11⟩ := u1
  obtain ⟨u20, u21⟩ := u2
  clear hb1 HBW HIN l0 l1 r1 r2 hc HCK HW hs1 hs2
  by_cases h0 : c = 0
  · subst h0
    obtain hEX := HE.out
    obtain ⟨en, h10, hrg, hord⟩ := Chk.good HC.out
    rw [hEX] at en h10 hrg
    simp only at en h10 hrg
    subst en
    have HQX : Hid (X.q = la) := by rw [hEX]; rfl
    have HGX : Hid (X.g = nat F) := by rw [hEX]; rfl
    have hin := HIN1.out
    rw [hEX] at hin
    have HRA : Hid (Row w1 a la (fun k => (nat F k : Nat))) := hrg.row hin.2
    have HRA0 : Hid (Row w a la (fun k => (nat F k : Nat))) := hrg.row HIN0.out.2
    have HGA : Hid (∀ k, k < la → nat F k < 1024) := hrg.small2 h10
    clear hord hrg hin hEX HE HIN1
    by_cases h5 : la ≤ 5
    · have g5 : ¬ ((5 : Int) < (la : Int)) := by omega
      gi_wp2
      refine ⟨trivial, (callsIn_wide.2 (allMonotone_any (la : Nat) (la : Nat) a a la ca la ca w1)).mono ?_⟩
      rintro e w3 ⟨rfl, hw3⟩
      have hb3 : Below w1.heap.size w1 w3 := by rw [hw3]; exact ((Below.refl _ _).alloc (Nat.le_refl _) _).alloc (by simp) _
      have hs3 : w3.heap.size = w1.heap.size + 2 := by rw [hw3]; simp
      have HB4 : Hid (Below w.heap.size w w3) := Below.then HB3.out hb3
      have s0 : OB w3 w1.heap.size (la : Nat) a la ca := by rw [hw3]; exact (OB.new w1 _ _ _ _).step ((Below.refl _ _).alloc (Nat.le_refl _) _)
      have s1 : OB w3 (w1.heap.size + 1) (la : Nat) a la ca := by
        rw [hw3]
        have := OB.new (w1.alloc (.cells #[.int .i64 (la : Nat), .slice a la ca] 24)) (la : Nat) a la ca
        rw [World.size_alloc] at this
        exact this
      obtain ⟨hsz, hsz'⟩ := HSZ1.out
      have v1 : RV w3 (w.heap.size + 1) (.bool false) := HU.out.1.step hb3 (by omega)
      have v2 : RV w3 (w.heap.size + 2) (.int .i64 0) := HU.out.2.step hb3 (by omega)
      have hra : Row w3 a la (fun k => (nat F k : Nat)) := HRA.out.below hb3
      have hca : ∀ b off, 0 < la → a = some ⟨b, off, none⟩ → b ≠ w.heap.size + 1 := fun b off hl e => by
        obtain ⟨b', off', e', hv⟩ := HRA0.out 0 hl
        rw [e] at e'; cases e'
        have := World.block_lt_of_cell? _ _ hv
        simp only at this
        omega
      have HSEQ := (show Hid _ from all_seq (w.heap.size + 1) (4 - 1) w1.heap.size (w1.heap.size + 1) la la a a ca ca (nat F) (nat F) w3 h10 h10 HGA.out HGA.out s0.1 s0.2 s1.1 s1.2 hra hra (by omega) (by omega) hca hca (by omega))
      have HOK : Hid (ACk X 0 0) := .inr ⟨rfl, .inr ⟨rfl, by have := HQX.out; omega⟩⟩
      have HCM : Hid (nofM X X = ((cmp (upB (nat F)) (upB (nat F)) la la []).filter nofB).length) := by
        show ((cmp (upB X.g) (upB X.g) X.q X.q []).filter nofB).length = _
        rw [HGX.out, HQX.out]
      have HSZ3 : Hid (w.heap.size + 3 ≤ w3.heap.size) := by show _ ≤ _; omega
      have HI0 : Hid (RV w3 (w.heap.size + 1) (.bool false) ∧ RV w3 (w.heap.size + 2) (.int .i64 0)) := ⟨v1, v2⟩
      clear m0 m1 hw3 s0 s1 hra hca HRA HRA0 HGA HGX g5 u10 u11 u20 u21 v1 v2 hs3 hsz hsz' HU HSZ1 hb3
      gi_wp2
      refine range_b (n := 4) rfl (by omega) (gf := 32) (lb := #[.pointer (some ⟨w1.heap.size, 0, none⟩), .pointer (some ⟨w1.heap.size + 1, 0, none⟩)]) rfl trivial (fun _ _ => rfl) HSEQ.out (fun h k => h.trans k) (Oth.loop (w.heap.size + 1)) (Below.refl _ _) VM.loop
        (fun pre W' => (∀ x, x ∈ pre → nofB x.2 = false) ∧ RV W' (w.heap.size + 1) (.bool false) ∧ RV W' (w.heap.size + 2) (.int .i64 0) ∧ Below w.heap.size w W')
        (fun cc _ W' => cc = .ret ∧ nofM X X ≠ 0 ∧ RV W' (w.heap.size + 1) (.bool false) ∧ RV W' (w.heap.size + 2) (.int .i64 0) ∧ Below w.heap.size w W') ?hI ?hIx ?h0 ?a1 ?hassign ?hbody ?hdone ?hstop
      case hI =>
        rintro s A B ⟨i1, i2, i3, i4⟩ hAB
        have := HSZ3.out
        exact ⟨i1, i2.step hAB (by omega), i3.step hAB (by omega), i4.trans (hAB.mono (by omega))⟩
      case hIx =>
        rintro cc s A B ⟨i0, i1, i2, i3, i4⟩ hAB
        have := HSZ3.out
        exact ⟨i0, i1, i2.step hAB (by omega), i3.step hAB (by omega), i4.trans (hAB.mono (by omega))⟩
      case h0 => exact ⟨fun _ h => (by cases h), HI0.out.1, HI0.out.2, HB4.out⟩
      case hassign =>
        intro l x W' K hK
        gi_wp2
        exact hK
      case hbody =>
        rintro l pre x W' ⟨i1, i2, i3, i4⟩ ⟨hns, hmem⟩ _
        have hlen : x.2.length = la := by have := cmp_len _ _ _ hmem; simp at this; exact this
        obtain ⟨xa, xc, hxe, hxr⟩ := hns
        have HPRE : Hid (∀ y, y ∈ pre → nofB y.2 = false) := i1
        have HB5 : Hid (Below w.heap.size w W') := i4
        have HI2 : Hid (RV W' (w.heap.size + 1) (.bool false)) := i2
        have HI3 : Hid (RV W' (w.heap.size + 2) (.int .i64 0)) := i3
        have HFX : Hid (Calls Tryd.prog 18 #[encM la x] W' fun e w' => e = .returned (.int .i64 (fxs (nth x.2) x.2.length : Nat)) ∧ W' = w') := by
          rw [hxe]
          exact fixed_any x.2.length xa xc (nth x.2) W' (by omega) hxr
        have HNF : Hid (nofB x.2 = decide (fxs (nth x.2) x.2.length = 0)) := fxs_nofB x.2
        have HMEM : Hid (nofB x.2 = true → nofM X X ≠ 0) := fun h => by
          rw [HCM.out]
          intro e
          have := List.length_eq_zero_iff.1 e
          have hm : x.2 ∈ (cmp (upB (nat F)) (upB (nat F)) la la []).filter nofB := List.mem_filter.2 ⟨hmem, h⟩
          rw [this] at hm
          cases hm
        clear hxe hxr hmem hlen i1 i2 i3 i4
        generalize fxs (nth x.2) x.2.length = Z at *
        gi_wp2
        refine ⟨trivial, (CallsIn.inRound l (callsIn_wide.2 HFX.out)).mono ?_⟩
        rintro e w5 ⟨rfl, hw5⟩
        have hw5' := hw5.symm
        subst hw5'
        clear hw5 HFX
        by_cases hz : Z = 0
        · have hzz : (((Z : Nat) : Int) == 0) = true := by simp; omega
          have HX : Hid (nofM X X ≠ 0) := HMEM.out (by rw [HNF.out, hz]; rfl)
          obtain ⟨u10, u11⟩ := HI2.out
          obtain ⟨u20, u21⟩ := HI3.out
          clear hz
          gi_wp2
          refine ⟨((KeepsOthers.setCell _ _ _).trans (KeepsOthers.setCell _ _ _)).from _, rfl, HX.out, ?_, ?_, ?_⟩
          · refine ⟨(setTwo w5 (w.heap.size + 1) (w.heap.size + 2) (by omega) _ _ (.bool false) (.int .i64 0) u10 u20).1, ?_⟩
            rw [World.frozen?_setCell, World.frozen?_setCell]; exact u11
          · refine ⟨(setTwo w5 (w.heap.size + 1) (w.heap.size + 2) (by omega) _ _ (.bool false) (.int .i64 0) u10 u20).2, ?_⟩
            rw [World.frozen?_setCell, World.frozen?_setCell]; exact u21
          · exact (HB5.out.setCell (p := ⟨w.heap.size + 1, 0, none⟩) (Nat.le_add_right _ _) _).setCell (p := ⟨w.heap.size + 2, 0, none⟩) (Nat.le_add_right _ _) _
        · have hzz : (((Z : Nat) : Int) == 0) = false := by simp; omega
          have HX : Hid (∀ y, y ∈ pre ++ [x] → nofB y.2 = false) := fun y hy => by
            rcases List.mem_append.1 hy with h | h
            · exact HPRE.out y h
            · cases List.mem_singleton.1 h
              rw [HNF.out]; exact decide_eq_false hz
          clear hz
          gi_wp2
          exact ⟨KeepsFrom.refl _ _, Oth.refl _ _, HX.out, HI2.out, HI3.out, HB5.out⟩
      case hdone =>
        rintro D xs W' hD hS ⟨i1, i2, i3, i4⟩ hK
        have hN0 : nofM X X = 0 := by
          rw [HCM.out, ← hS, List.length_eq_zero_iff, List.filter_eq_nil_iff]
          intro y hy
          obtain ⟨z, hz, rfl⟩ := List.mem_map.1 hy
          rw [i1 z hz]; decide
        have HN0 : Hid (nofM X X = 0) := hN0
        have HB5 : Hid (Below w.heap.size w W') := i4
        have HK : Hid (W'.heap[D]? = some (.deferred (some []))) := hK
        have HD : Hid (w3.heap.size ≤ D) := hD
        obtain ⟨u10, u11⟩ := i2
        obtain ⟨u20, u21⟩ := i3
        clear hN0 i1 i4 hS hK hD
        gi_wp2
        have hne12 : w.heap.size + 1 ≠ w.heap.size + 2 := by omega
        obtain ⟨q1, q2⟩ := setTwo W' (w.heap.size + 1) (w.heap.size + 2) hne12 _ _ (.bool true) (.int .i64 0) u10 u20
        have hk2 : ((W'.setCell ⟨w.heap.size + 1, 0, none⟩ (.bool true)).setCell ⟨w.heap.size + 2, 0, none⟩ (.int .i64 0)).heap[D]? = some (.deferred (some [])) := ((KeepsOthers.setCell _ _ _).trans (KeepsOthers.setCell _ _ _)).same _ _ HK.out rfl
        have hb2 : Below w.heap.size w ((W'.setCell ⟨w.heap.size + 1, 0, none⟩ (.bool true)).setCell ⟨w.heap.size + 2, 0, none⟩ (.int .i64 0)) := (HB5.out.setCell (p := ⟨w.heap.size + 1, 0, none⟩) (Nat.le_add_right _ _) _).setCell (p := ⟨w.heap.size + 2, 0, none⟩) (Nat.le_add_right _ _) _
        refine ⟨by simp, .inl ⟨_, _, rfl, run_takeDeferred hk2, ?_⟩⟩
        have hbK := belowK_b (w := w3) (Nat.le_refl _) _ D _ (.deferred none) HD.out hk2 rfl rfl
        have h3 := HSZ3.out
        refine ⟨_, results_cell2 rfl _ _ _ _ _ _ rfl rfl ((hbK.cell (p := ⟨w.heap.size + 1, 0, none⟩) (by show w.heap.size + 1 < _; omega)).trans q1) ((hbK.cell (p := ⟨w.heap.size + 2, 0, none⟩) (by show w.heap.size + 2 < _; omega)).trans q2), ⟨0, 0, true, HC.out, HOK.out, rfl, .inr ⟨rfl, fun _ => HN0.out, fun _ => rfl⟩⟩, hb2.trans (hbK.mono (by omega))⟩
      case hstop =>
        rintro D cc pre W' hD _ ⟨rfl, i1, i2, i3, i4⟩ hK
        have HN0 : Hid (nofM X X ≠ 0) := i1
        have HB5 : Hid (Below w.heap.size w W') := i4
        have HK : Hid (W'.heap[D]? = some (.deferred (some []))) := hK
        have HD : Hid (w3.heap.size ≤ D) := hD
        obtain ⟨u10, u11⟩ := i2
        obtain ⟨u20, u21⟩ := i3
        clear i1 i4 hK hD
        gi_wp2
        refine ⟨by simp, .inl ⟨_, _, rfl, run_takeDeferred HK.out, ?_⟩⟩
        have hbK := belowK_b (w := w3) (Nat.le_refl _) _ D _ (.deferred none) HD.out HK.out rfl rfl
        have h3 := HSZ3.out
        refine ⟨_, results_cell2 rfl _ _ _ _ _ _ rfl rfl ((hbK.cell (p := ⟨w.heap.size + 1, 0, none⟩) (by show w.heap.size + 1 < _; omega)).trans u10) ((hbK.cell (p := ⟨w.heap.size + 2, 0, none⟩) (by show w.heap.size + 2 < _; omega)).trans u20), ⟨0, 0, false, HC.out, HOK.out, rfl, .inr ⟨rfl, fun h => (by cases h), fun h => absurd h HN0.out⟩⟩, HB5.out.trans (hbK.mono (by omega))⟩
    · have g5 : (5 : Int) < (la : Int) := by omega
      have HO : Hid (ACk X 0 2) := .inr ⟨rfl, .inl ⟨rfl, fun h => by have := HQX.out; omega⟩⟩
      gi_wp2
      obtain ⟨q1, q2⟩ := setTwo w1 (w.heap.size + 1) (w.heap.size + 2) (by omega) _ _ (.bool false) (.int .i64 2) u10 u20
      refine ⟨_, results_cell2 rfl _ _ _ _ _ _ rfl rfl q1 q2, ⟨0, 2, false, HC.out, HO.out, rfl, .inl ⟨by decide, rfl⟩⟩, ?_⟩
      exact (HB3.out.setCell (p := ⟨w.heap.size + 1, 0, none⟩) (Nat.le_add_right _ _) _).setCell (p := ⟨w.heap.size + 2, 0, none⟩) (Nat.le_add_right _ _) _
  · have hne : (c != 0) = true := by simpa using h0
    have HO : Hid (ACk X c c) := .inl ⟨h0, rfl⟩
    gi_wp2
    obtain ⟨q1, q2⟩ := setTwo w1 (w.heap.size + 1) (w.heap.size + 2) (by omega) _ _ (.bool false) (.int .i64 c) u10 u20
    refine ⟨_, results_cell2 rfl _ _ _ _ _ _ rfl rfl q1 q2, ⟨c, c, false, HC.out, HO.out, rfl, .inl ⟨h0, rfl⟩⟩, ?_⟩
    exact (HB3.out.setCell (p := ⟨w.heap.size + 1, 0, none⟩) (Nat.le_add_right _ _) _).setCell (p := ⟨w.heap.size + 2, 0, none⟩) (Nat.le_add_right _ _) _
end Go.Proofs.YtfajgahofkcndaaDoor
