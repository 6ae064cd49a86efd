/-
  What fix.checkBoth and fix.Count answer. No condition but that slices read as slices of numbers.
-/
import Derived.RangeFuncBound
import Derived.RangeFuncCalls
import Derived.Shelf.RegionOpen
import Derived.Test.YtfajgahofkcndaaDoorAllM
namespace Go.Proofs.YtfajgahofkcndaaDoor
open Go.RowKit Go.Shelf
attribute [local go_sem] Oper.semAt_some

/-- An order as it comes in. -/
structure OA where
  n : Int
  a : Option Addr
  la : Nat
  ca : Nat
  F : Nat → Int
def OA.v (o : OA) : Value := .agg #[.int .i64 o.n, .slice o.a o.la o.ca]
def OA.In (o : OA) (w : World) : Prop := o.la ≤ maxLen ∧ Row w o.a o.la o.F
theorem OA.In.step {o : OA} {w w' : World} (h : o.In w) (hb : Below w.heap.size w w') : o.In w' := ⟨h.1, h.2.below hb⟩
def OA.Ck (o : OA) (c : Int) : Prop := Chk o.n o.la o.F c
def OA.q (o : OA) : Nat := o.n.toNat
def OA.g (o : OA) : Nat → Nat := nat o.F
def OB (w : World) (B : Nat) (n : Int) (a : Option Addr) (la ca : Nat) : Prop := w.cell? ⟨B, 0, none⟩ = some (.int .i64 n) ∧ w.cell? ⟨B, 1, none⟩ = some (.slice a la ca)
theorem OB.step {w w' : World} {B : Nat} {n : Int} {a : Option Addr} {la ca : Nat} (h : OB w B n a la ca) (hb : Below w.heap.size w w') : OB w' B n a la ca := ⟨cell_step hb h.1, cell_step hb h.2⟩
theorem OB.new (w : World) (n : Int) (a : Option Addr) (la ca : Nat) : OB (w.alloc (.cells #[.int .i64 n, .slice a la ca] 24)) w.heap.size n a la ca := ⟨by simp, by simp⟩
/-- Two orders boxed. -/
def two (w : World) (A B : OA) : World := (w.alloc (.cells #[.int .i64 A.n, .slice A.a A.la A.ca] 24)).alloc (.cells #[.int .i64 B.n, .slice B.a B.la B.ca] 24)
theorem two_below (w : World) (A B : OA) : Below w.heap.size w (two w A B) := ((Below.refl _ _).alloc (Nat.le_refl _) _).alloc (by simp) _
theorem two_a (w : World) (A B : OA) : OB (two w A B) w.heap.size A.n A.a A.la A.ca := (OB.new w _ _ _ _).step ((Below.refl _ _).alloc (Nat.le_refl _) _)
theorem two_b (w : World) (A B : OA) : OB (two w A B) (w.heap.size + 1) B.n B.a B.la B.ca := by
  have := OB.new (w.alloc (.cells #[.int .i64 A.n, .slice A.a A.la A.ca] 24)) B.n B.a B.la B.ca
  rw [World.size_alloc] at this
  exact this
theorem two_size (w : World) (A B : OA) : (two w A B).heap.size = w.heap.size + 2 := by simp [two]
/-- What is wrong with two orders. -/
def Ck2 (A B : OA) (c : Int) : Prop := (c ≠ 0 ∧ A.Ck c) ∨ (A.Ck 0 ∧ B.Ck c)
theorem Ck2.one {A B : OA} {c d : Int} (h : Ck2 A B c) (h' : Ck2 A B d) : c = d := by
  rcases h with ⟨h0, h⟩ | ⟨h, h1⟩ <;> rcases h' with ⟨h0', h'⟩ | ⟨h', h1'⟩
  · exact Chk.unique h h'
  · exact absurd (Chk.unique h h') h0
  · exact absurd (Chk.unique h' h) h0'
  · exact Chk.unique h1 h1'

set_option maxHeartbeats 1000000 in
theorem checkBoth_any (A B : OA) (w : World) (hA : A.In w) (hB : B.In w) :
    Calls Tryd.prog 21 #[A.v, B.v] w fun e w' => (∃ c, e = .returned (.int .i64 c) ∧ Ck2 A B c) ∧ Below w.heap.size w w' := by
  have HB1 : Hid (Below w.heap.size w (two w A B)) := two_below w A B
  have HA1 : Hid (A.In (two w A B)) := hA.step (two_below w A B)
  have HB2 : Hid (B.In (two w A B)) := hB.step (two_below w A B)
  have xa := two_a w A B
  have xb := two_b w A B
  have eW : Hid (two w A B = (w.alloc (.cells #[.int .i64 A.n, .slice A.a A.la A.ca] 24)).alloc (.cells #[.int .i64 B.n, .slice B.a B.la B.ca] 24)) := rfl
  generalize two w A B = W at *
  obtain ⟨n, a, la, ca, F⟩ := A
  obtain ⟨n', a', la', ca', F'⟩ := B
  simp only [OA.v] at *
  obtain ⟨l0, l1⟩ := xa
  clear hA hB
  go_enter Tryd.func21, Tryd.ntmps21
  go_wp2_with fail
  rw [← eW.out]
  go_wp2_with fail
  refine (check_any n a la ca F _ HA1.out.1 HA1.out.2).mono ?_
  rintro e w1 ⟨⟨c, rfl, hc⟩, hb1⟩
  have HB3 : Hid (Below w.heap.size w w1) := Below.then HB1.out hb1
  have HB4 : Hid (OA.In ⟨n', a', la', ca', F'⟩ w1) := HB2.out.step hb1
  obtain ⟨k0, k1⟩ := xb.step hb1
  clear hb1 HB1 HB2 l0 l1 xb
  by_cases h0 : c = 0
  · subst h0
    have HC : Hid (Chk n la F 0) := hc
    clear hc
    go_wp2_with fail
    refine (check_any n' a' la' ca' F' _ HB4.out.1 HB4.out.2).mono ?_
    rintro e w2 ⟨⟨c, rfl, hc⟩, hb2⟩
    have HB5 : Hid (Below w.heap.size w w2) := Below.then HB3.out hb2
    have HM : Hid (Chk n' la' F' c) := hc
    clear hb2 hc
    go_wp2_with fail
    go_ret
    exact ⟨⟨c, rfl, .inr ⟨HC.out, HM.out⟩⟩, HB5.out⟩
  · have hne : (c != 0) = true := by simpa using h0
    have HM : Hid (Chk n la F c) := hc
    clear hc
    go_wp2_with fail
    go_ret
    exact ⟨⟨c, rfl, .inl ⟨h0, HM.out⟩⟩, HB3.out⟩

/-- Not too many maps. -/
theorem cmpTo_len (P Q : Nat → Nat → Bool) (nb d : Nat) (p : List Nat) (M : Nat) (h : ∀ x, (cmp P Q nb d (p ++ [x])).length ≤ M) : ∀ k, (cmpTo P Q nb d p k).length ≤ k * M
  | 0 => by simp [cmpTo]
  | k + 1 => by
    have ih := cmpTo_len P Q nb d p M h k
    have hk := h k
    rw [Nat.succ_mul]
    rcases hm : monB P Q (p ++ [k]) with _ | _
    · rw [cmpTo_no hm]; omega
    · rw [cmpTo_yes hm, List.length_append]; omega
theorem cmp_many (P Q : Nat → Nat → Bool) (nb : Nat) : ∀ d p, (cmp P Q nb d p).length ≤ nb ^ d
  | 0, _ => by simp [cmp]
  | d + 1, p => by
    have := cmpTo_len P Q nb d p (nb ^ d) (fun x => cmp_many P Q nb d (p ++ [x])) nb
    rw [Nat.pow_succ, Nat.mul_comm]
    exact this
theorem cmp_few (P Q : Nat → Nat → Bool) {na nb : Nat} (ha : na ≤ 5) (hb : nb ≤ 5) : (cmp P Q nb na []).length ≤ 3125 := by
  refine Nat.le_trans (cmp_many P Q nb na []) (Nat.le_trans (Nat.pow_le_pow_left hb na) ?_)
  exact Nat.le_trans (Nat.pow_le_pow_right (by decide) ha) (by decide)

theorem Oth.setCell (c : Nat) (W : World) (k : Nat) (u : Value) : Oth c W (W.setCell ⟨c, k, none⟩ u) :=
  ⟨by simp [World.setCell], fun i o hi ho _ => (Below.heap_setCell W ⟨c, k, none⟩ u i hi).trans ho⟩
/-- How many monotone maps there are. -/
def cntM (A B : OA) : Nat := (cmp (upB A.g) (upB B.g) B.q A.q []).length
/-- What the errno of Count must be. -/
def CCk (A B : OA) (c0 c : Int) : Prop := (c0 ≠ 0 ∧ c = c0) ∨ (c0 = 0 ∧ ((c = 2 ∧ ¬ (A.q ≤ 5 ∧ B.q ≤ 5)) ∨ (c = 0 ∧ A.q ≤ 5 ∧ B.q ≤ 5)))
def CntPost (A B : OA) (e : Ending) : Prop := ∃ c0 c v, Ck2 A B c0 ∧ CCk A B c0 c ∧ e = .returned (.tuple #[.int .i64 v, .int .i64 c]) ∧ ((c ≠ 0 ∧ v = 0) ∨ (c = 0 ∧ v = (cntM A B : Nat)))

set_option maxRecDepth 100000 in
set_option maxHeartbeats 4000000 in
theorem count_any (A B : OA) (w : World) (hA : A.In w) (hB : B.In w) :
    Calls Tryd.prog 9 #[A.v, B.v] w fun e w' => CntPost A B e ∧ Below w.heap.size w w' := by
  have HB1 : Hid (Below w.heap.size w (two w A B)) := two_below w A B
  have HA1 : Hid (A.In (two w A B)) := hA.step (two_below w A B)
  have HB2 : Hid (B.In (two w A B)) := hB.step (two_below w A B)
  have xa := two_a w A B
  have xb := two_b w A B
  have eW : Hid (two w A B = (w.alloc (.cells #[.int .i64 A.n, .slice A.a A.la A.ca] 24)).alloc (.cells #[.int .i64 B.n, .slice B.a B.la B.ca] 24)) := rfl
  have hs2 : (two w A B).heap.size = w.heap.size + 2 := two_size w A B
  generalize two w A B = W at *
  obtain ⟨X, hX⟩ : ∃ X, X = A := ⟨_, rfl⟩
  obtain ⟨Y, hY⟩ : ∃ Y, Y = B := ⟨_, rfl⟩
  have HE : Hid (X = A ∧ Y = B) := ⟨hX, hY⟩
  have HIN : Hid (X.In W ∧ Y.In W) := by rw [hX, hY]; exact ⟨HA1.out, HB2.out⟩
  rw [← hX, ← hY]
  have HV : Hid (X.v = A.v ∧ Y.v = B.v) := by rw [hX, hY]; exact ⟨rfl, rfl⟩
  have HCK : Hid (∀ wx, X.In wx → Y.In wx → Calls Tryd.prog 21 #[X.v, Y.v] wx fun e w' => (∃ c, e = .returned (.int .i64 c) ∧ Ck2 X Y c) ∧ Below wx.heap.size wx w') := fun wx h1 h2 => checkBoth_any X Y wx h1 h2
  rw [HV.out.1, HV.out.2] at HCK
  rw [HV.out.1, HV.out.2]
  clear hX hY hA hB HA1 HB2 HV
  obtain ⟨n, a, la, ca, F⟩ := A
  obtain ⟨n', a', la', ca', F'⟩ := B
  simp only [OA.v] at *
  obtain ⟨l0, l1⟩ := xa
  obtain ⟨k0, k1⟩ := xb
  refine (callsIn_wide (n := 3)).1 ?_
  refine callsIn_of_wp_marks Tryd.func9 rfl trivial ?_ rfl
  simp only [Tryd.ntmps9, List.size_toArray, List.length_cons, List.length_nil, Nat.reduceAdd, Nat.reduceSub, Array.replicate_succ, Array.replicate_zero, List.push_toArray, List.append_toArray, List.nil_append, List.cons_append]
  gi_wp2
  rw [← eW.out]
  refine ⟨trivial, (callsIn_wide.2 (HCK.out _ HIN.out.1 HIN.out.2)).mono ?_⟩
  rintro e w1 ⟨⟨c, rfl, hc⟩, hb1⟩
  have HB3 : Hid (Below w.heap.size w w1) := Below.then HB1.out hb1
  have HIN1 : Hid (X.In w1 ∧ Y.In w1) := ⟨HIN.out.1.step hb1, HIN.out.2.step hb1⟩
  have m0 := cell_step hb1 l0
  have m1 := cell_step hb1 l1
  have p0 := cell_step hb1 k0
  have p1 := cell_step hb1 k1
  have hs1 := hb1.size
  have HC : Hid (Ck2 X Y c) := hc
  clear hb1 HB1 HIN l0 l1 k0 k1 hc HCK eW
  by_cases h0 : c = 0
  · subst h0
    have hXY : X.Ck 0 ∧ Y.Ck 0 := by
      rcases HC.out with ⟨h, _⟩ | h
      · exact absurd rfl h
      · exact h
    obtain ⟨hEX, hEY⟩ := HE.out
    obtain ⟨en, h10, hrg, hord⟩ := Chk.good hXY.1
    obtain ⟨en', h10', hrg', hord'⟩ := Chk.good hXY.2
    rw [hEX] at en h10 hrg
    rw [hEY] at en' h10' hrg'
    simp only at en h10 hrg en' h10' hrg'
    subst en
    subst en'
    have HQX : Hid (X.q = la ∧ Y.q = la') := by rw [hEX, hEY]; exact ⟨rfl, rfl⟩
    have HGX : Hid (X.g = nat F ∧ Y.g = nat F') := by rw [hEX, hEY]; exact ⟨rfl, rfl⟩
    have hin := HIN1.out
    rw [hEX, hEY] at hin
    have HRA : Hid (Row w1 a la (fun k => (nat F k : Nat))) := hrg.row hin.1.2
    have HRB : Hid (Row w1 a' la' (fun k => (nat F' k : Nat))) := hrg'.row hin.2.2
    have HGA : Hid (∀ k, k < la → nat F k < 1024) := hrg.small2 h10
    have HGB : Hid (∀ k, k < la' → nat F' k < 1024) := hrg'.small2 h10'
    clear hXY hord hord' hrg hrg' hin hEX hEY HE HIN1
    by_cases h5 : la ≤ 5
    · have g5 : ¬ ((5 : Int) < (la : Int)) := by omega
      by_cases h5' : la' ≤ 5
      · have g5' : ¬ ((5 : Int) < (la' : Int)) := by omega
        have hbc : Below w1.heap.size w1 (w1.alloc (.cells #[.int .i64 0] 3)) := (Below.refl _ _).alloc (Nat.le_refl _) _
        have r0 := cell_step hbc m0
        have r1 := cell_step hbc m1
        have r2 := cell_step hbc p0
        have r3 := cell_step hbc p1
        obtain ⟨w2, HW2⟩ : ∃ w2, Hid (w2 = w1.alloc (.cells #[.int .i64 0] 3)) := ⟨_, rfl⟩
        have hb2 : Below w1.heap.size w1 w2 := by rw [HW2.out]; exact hbc
        have hs2' : w2.heap.size = w1.heap.size + 1 := by rw [HW2.out]; simp
        have cc : w2.cell? ⟨w1.heap.size, 0, none⟩ = some (.int .i64 0) := by rw [HW2.out]; simp
        have cf : w2.frozen? ⟨w1.heap.size, 0, none⟩ = false := by rw [HW2.out]; exact World.frozen?_alloc_at _ _ _ _ rfl
        gi_wp2
        rw [← HW2.out]
        refine ⟨trivial, (callsIn_wide.2 (allMonotone_any (la : Nat) (la' : Nat) a a' la ca la' ca' w2)).mono ?_⟩
        rintro e w3 ⟨rfl, hw3⟩
        have hb3 : Below w2.heap.size w2 w3 := by rw [hw3]; exact ((Below.refl _ _).alloc (Nat.le_refl _) _).alloc (by simp) _
        have hb13 : Below w1.heap.size w1 w3 := Below.then hb2 hb3
        have hs3 : w3.heap.size = w2.heap.size + 2 := by rw [hw3]; simp
        have HB4 : Hid (Below w.heap.size w w3) := Below.then HB3.out hb13
        have s0 : OB w3 w2.heap.size (la : Nat) a la ca := by rw [hw3]; exact (OB.new w2 _ _ _ _).step ((Below.refl _ _).alloc (Nat.le_refl _) _)
        have s1 : OB w3 (w2.heap.size + 1) (la' : Nat) a' la' ca' := by
          rw [hw3]
          have := OB.new (w2.alloc (.cells #[.int .i64 (la : Nat), .slice a la ca] 24)) (la' : Nat) a' la' ca'
          rw [World.size_alloc] at this
          exact this
        have cc3 := cell_step hb3 cc
        have cf3 : w3.frozen? ⟨w1.heap.size, 0, none⟩ = false := (hb3.frozen (p := ⟨w1.heap.size, 0, none⟩) (by show w1.heap.size < w2.heap.size; omega)).trans cf
        have hra : Row w3 a la (fun k => (nat F k : Nat)) := HRA.out.below hb13
        have hrb : Row w3 a' la' (fun k => (nat F' k : Nat)) := HRB.out.below hb13
        have hca : ∀ b off, 0 < la → a = some ⟨b, off, none⟩ → b ≠ w1.heap.size := fun b off hl e => by
          obtain ⟨b', off', e', hv⟩ := HRA.out 0 hl
          rw [e] at e'; cases e'
          have := World.block_lt_of_cell? _ _ hv
          simp only at this
          omega
        have hcb : ∀ b off, 0 < la' → a' = some ⟨b, off, none⟩ → b ≠ w1.heap.size := fun b off hl e => by
          obtain ⟨b', off', e', hv⟩ := HRB.out 0 hl
          rw [e] at e'; cases e'
          have := World.block_lt_of_cell? _ _ hv
          simp only at this
          omega
        have HSEQ := (show Hid _ from all_seq w1.heap.size (3 - 1) w2.heap.size (w2.heap.size + 1) la la' a a' ca ca' (nat F) (nat F') w3 h10 h10' HGA.out HGB.out s0.1 s0.2 s1.1 s1.2 hra hrb (by omega) (by omega) hca hcb (by omega))
        have HFEW : Hid ((cmp (upB (nat F)) (upB (nat F')) la' la []).length ≤ 3125) := cmp_few _ _ h5 h5'
        have HOK : Hid (CCk X Y 0 0) := .inr ⟨rfl, .inr ⟨rfl, by have := HQX.out; omega⟩⟩
        have HCM : Hid (cntM X Y = (cmp (upB (nat F)) (upB (nat F')) la' la []).length) := by
          show (cmp (upB X.g) (upB Y.g) Y.q X.q []).length = _
          rw [HGX.out.1, HGX.out.2, HQX.out.1, HQX.out.2]
        clear m0 m1 p0 p1 r0 r1 r2 r3 hbc HW2 cc cf hw3 s0 s1 hra hrb hca hcb HRA HRB HGA HGB HGX g5 g5'
        have HSZ : Hid (w2.heap.size = w1.heap.size + 1 ∧ w3.heap.size = w2.heap.size + 2) := ⟨hs2', hs3⟩
        clear hs2' hs3
        gi_wp2
        obtain ⟨hs2', hs3⟩ := HSZ.out
        refine range_bs (n := 3) rfl (by omega) (gf := 32) (lb := #[.pointer (some ⟨w2.heap.size, 0, none⟩), .pointer (some ⟨w2.heap.size + 1, 0, none⟩)]) rfl trivial (fun _ _ => rfl) HSEQ.out (fun h k => h.trans k) (Oth.loop w1.heap.size) (Below.refl _ _) VM.loop
          (fun pre W' => W'.cell? ⟨w1.heap.size, 0, none⟩ = some (.int .i64 (pre.length : Nat)) ∧ W'.frozen? ⟨w1.heap.size, 0, none⟩ = false ∧ Below w1.heap.size w1 W') (fun _ _ _ => False) ?hI (fun _ _ _ _ h _ => h) ?h0 ?hbody ?hdone (fun _ _ _ _ _ _ h _ => h.elim)
        case hI =>
          rintro s A B ⟨i1, i2, i3⟩ hAB
          exact ⟨(hAB.cell (p := ⟨w1.heap.size, 0, none⟩) (by show w1.heap.size < w3.heap.size; omega)).trans i1, (hAB.frozen (p := ⟨w1.heap.size, 0, none⟩) (by show w1.heap.size < w3.heap.size; omega)).trans i2, i3.trans (hAB.mono (by omega))⟩
        case h0 => exact ⟨cc3, cf3, hb13⟩
        case hbody =>
          rintro l pre x W' ⟨i1, i2, i3⟩ _ hlen
          have hfew := HFEW.out
          have hp1 : (pre ++ [x]).length = pre.length + 1 := by simp
          have HP : Hid ((pre ++ [x]).length = pre.length + 1) := hp1
          have HI3 : Hid (Below w1.heap.size w1 W') := i3
          obtain ⟨k, HK⟩ : ∃ k, Hid (k = pre.length) := ⟨_, rfl⟩
          rw [← HK.out] at i1
          have hk : k ≤ 3125 := by rw [HK.out]; omega
          clear hp1 i3 hlen hfew
          gi_wp2
          refine ⟨(KeepsOthers.setCell _ _ _).from _, Oth.setCell _ _ _ _, ?_, ?_, HI3.out.setCell (p := ⟨w1.heap.size, 0, none⟩) (Nat.le_refl _) _⟩
          · rw [World.cell?_setCell_same _ _ _ i1, HP.out, ← HK.out]; rfl
          · rw [World.frozen?_setCell]; exact i2
        case hdone =>
          rintro D xs W' hD hS ⟨i1, i2, i3⟩ hK
          have hlx : xs.length = cntM X Y := by
            rw [HCM.out, ← hS, List.length_map]
          rw [hlx] at i1
          have HI3 : Hid (Below w1.heap.size w1 W') := i3
          clear hlx hS i3
          gi_wp2
          refine ⟨by simp, .inl ⟨_, _, rfl, run_takeDeferred hK, ?_⟩⟩
          refine ⟨_, results_tmp2 rfl _ _ _, ⟨0, 0, _, HC.out, HOK.out, rfl, .inr ⟨rfl, rfl⟩⟩, ?_⟩
          exact (HB3.out.trans (HI3.out.mono (by have := HB3.out.size; omega))).trans (belowK_b (w := w) (Nat.le_refl _) W' D _ _ (by have := HB4.out.size; omega) hK rfl rfl)
      · have g5' : (5 : Int) < (la' : Int) := by omega
        have HO : Hid (CCk X Y 0 2) := .inr ⟨rfl, .inl ⟨rfl, fun h => by have := HQX.out; omega⟩⟩
        gi_wp2
        exact ⟨_, results_tmp2 rfl _ _ _, ⟨0, 2, 0, HC.out, HO.out, rfl, .inl ⟨by decide, rfl⟩⟩, HB3.out⟩
    · have g5 : (5 : Int) < (la : Int) := by omega
      have HO : Hid (CCk X Y 0 2) := .inr ⟨rfl, .inl ⟨rfl, fun h => by have := HQX.out; omega⟩⟩
      gi_wp2
      exact ⟨_, results_tmp2 rfl _ _ _, ⟨0, 2, 0, HC.out, HO.out, rfl, .inl ⟨by decide, rfl⟩⟩, HB3.out⟩
  · have hne : (c != 0) = true := by simpa using h0
    have HO : Hid (CCk X Y c c) := .inl ⟨h0, rfl⟩
    gi_wp2
    exact ⟨_, results_tmp2 rfl _ _ _, ⟨c, c, 0, HC.out, HO.out, rfl, .inl ⟨h0, rfl⟩⟩, HB3.out⟩
end Go.Proofs.YtfajgahofkcndaaDoor
