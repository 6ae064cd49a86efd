/-
  hasselaw.HeytingValues returns true of every lattice, formula and list. Conditions: slices read as slices of rows and of numbers, a value as a formula.
-/
import Derived.Test.YtibnadbobijjpaaValV
import Derived.Test.YtibnadbobijjpaaValR
import Derived.Test.YtibnadbobijjpaaHBeg
namespace Go.Proofs.Ytibnadbobijjpaa
set_option maxRecDepth 100000
open Go.RowKit

theorem numberIs_any (n e w0 want : Int) (w : World) (h : e = w0) (hv : (w0 ≠ 0 ∧ n = 0) ∨ (w0 = 0 ∧ n = want)) :
    Calls Try.prog 10 #[.int .i64 n, .int .i64 e, .int .i64 w0, .int .i64 want] w fun e w' => e = .returned (.bool true) ∧ w = w' := by
  subst h
  rcases hv with ⟨h0, rfl⟩ | ⟨rfl, rfl⟩
  · have hne : (e != 0) = true := by simpa using h0
    go_enter Try.func10, Try.ntmps10
    go_wp2
    go_ret
    exact ⟨rfl, rfl⟩
  · go_enter Try.func10, Try.ntmps10
    go_wp2
    go_ret
    exact ⟨rfl, rfl⟩
theorem valueOf_any {w : World} {n b off ca b' off' cb : Nat} {R R' : Nat → Nat × Nat × Nat} {m j : Nat → Nat → Nat} (h1 : 1 ≤ n) (h40 : n ≤ 40) (hl : Lat n m j) (hd : All3 n (disB m j)) (htm : Tb w b off n R m) (htj : Tb w b' off' n R' j) {f : Nat → Nat} {c co cc : Nat}
    (hr : ∀ i, i < 3 → w.cell? ⟨c, co + i, none⟩ = some (.int .i64 (f i : Nat))) (hfq : ∀ i, i < 3 → f i < n) (T : FT) : ∀ v w', cf T = 0 → FRep w T v → Below w.heap.size w w' →
    Calls Try.prog 8 #[.agg #[.int .i64 (n : Nat), .slice (some ⟨b, off, none⟩) n ca, .slice (some ⟨b', off', none⟩) n cb], v, .slice (some ⟨c, co, none⟩) 3 cc] w' fun e w'' => e = .returned (.int .i64 (val n m j f T : Nat)) ∧ Below w'.heap.size w' w'' := by
  induction T using FT.ind with
  | leaf => exact fun _ _ _ h => h.elim
  | mk k x l kid ih =>
    intro v w' hc hf hb
    obtain ⟨a, cap, rfl, hn, hk⟩ := hf
    rcases cf_zero hc with ⟨rfl, rfl⟩ | ⟨rfl, rfl, hx1, hx2⟩ | ⟨hk3, rfl, a0, a1⟩
    · rw [val_one]; exact rvalue_false h1 h40 hl (htm.step hb) x a 0 cap _
    · obtain ⟨X, rfl⟩ : ∃ X : Nat, x = (X : Nat) := ⟨x.toNat, by omega⟩
      rw [val_var]
      exact rvalue_var X (by omega) a 0 cap c co cc (f X) (cell_step hb (hr X (by omega)))
    · obtain ⟨kb, ko, rfl, k0, x0, s0, l0, c0, ⟨g1, g2, g3⟩, g4⟩ := hk 0 (by omega)
      obtain ⟨kb', ko', e, k1, x1, s1, l1, c1, ⟨p1, p2, p3⟩, p4⟩ := hk 1 (by omega)
      cases e
      rw [val_two hk3]
      simp only [Nat.zero_mul, Nat.add_zero, Nat.one_mul] at g1 g2 g3 p1 p2 p3
      rw [Nat.add_assoc] at p2 p3
      exact rvalue_two h1 h40 hl hd (htm.step hb) (htj.step hb) k x hk3 (val_lt hl h1 hfq _ a0) (val_lt hl h1 hfq _ a1) ⟨⟨cell_step hb g1, cell_step hb g2⟩, cell_step hb g3⟩ ⟨⟨cell_step hb p1, cell_step hb p2⟩, cell_step hb p3⟩ (fun w'' hw => ih 0 _ w'' a0 g4 (Below.then hb hw)) (fun w'' hw => ih 1 _ w'' a1 p4 (Below.then hb hw))
/-- ValueOf, of what is checked. -/
theorem valueOf_la {L : LA} {T : FT} {g : MA} {v : Value} {w : World} (hL : L.In w) (hf : FRep w T v) (hg : g.In w) (hC : HCk L 0) (hT : chkF T = 0) (hM : MCk 3 L.n g.la g.F 0) :
    Calls Try.prog 8 #[.agg #[.int .i64 L.n, .slice L.a L.la L.ca, .slice L.b L.lb L.cb], v, .slice g.a g.la g.ca] w fun e w' => e = .returned (.int .i64 (val L.q L.m L.j g.f T : Nat)) ∧ Below w.heap.size w w' := by
  rcases hC with ⟨h, _⟩ | ⟨hc, ⟨h, _⟩ | ⟨_, hd⟩⟩
  · exact absurd rfl h
  · exact absurd h (by decide)
  have hl := LA.Ck.lat hc
  obtain ⟨q, b1, o1, b2, o2, eq, e1, hla, e2, hlb, _, _, _, ht1, ht2⟩ := LCk.open hc hL.2.2.1 hL.2.2.2
  have hq : q = L.q := by unfold LA.q; omega
  subst hq
  have hm : (g.la : Int) = 3 ∧ ∀ i, i < g.la → 0 ≤ g.F i ∧ g.F i < L.n := by
    rcases hM with ⟨h, _⟩ | ⟨h1, ⟨h, _⟩ | ⟨_, h2⟩⟩
    · omega
    · omega
    · exact ⟨h1, h2⟩
  have hga : g.la = 3 := by omega
  have hrow := hg.2
  rw [hga] at hrow
  obtain ⟨c, co, ea, _⟩ := hrow 0 (by omega)
  have hat : ∀ i, i < 3 → w.cell? ⟨c, co + i, none⟩ = some (.int .i64 (g.f i : Nat)) := fun i hi => by
    obtain ⟨c', co', e', h'⟩ := hrow i hi
    rw [ea] at e'
    cases e'
    rw [h']
    have := hm.2 i (by omega)
    show some (Value.int .i64 (g.F i)) = some (.int .i64 (((g.F i).toNat : Nat) : Int))
    rw [show (((g.F i).toNat : Nat) : Int) = g.F i by omega]
  rw [e1, e2, ← hla, ← hlb, eq, ea, hga]
  exact valueOf_any hl.1 hl.2.1 hl.2.2.1 hd ht1 ht2 hat (fun i hi => by have := hm.2 i (by omega); show (g.F i).toNat < L.q; omega) T v w (chk_cf hT) hf (Below.refl _ _)
set_option maxHeartbeats 4000000 in
theorem heytingValues_la (L : LA) (T : FT) (g : MA) (v : Value) (w : World) (hL : L.In w) (hf : FRep w T v) (hg : g.In w) :
    Calls Try.prog 3 #[.agg #[.int .i64 L.n, .slice L.a L.la L.ca, .slice L.b L.lb L.cb], v, .slice g.a g.la g.ca] w fun e w' => e = .returned (.bool true) ∧ Below w.heap.size w w' := by
  obtain ⟨k, x, a, l, cap, rfl⟩ := hf.form
  obtain ⟨W, hW⟩ : ∃ W, W = (w.alloc (.cells #[.int .i64 L.n, .slice L.a L.la L.ca, .slice L.b L.lb L.cb] 24)).alloc (.cells #[.int .i64 k, .int .i64 x, .slice a l cap] 27) := ⟨_, rfl⟩
  have B1 : Below w.heap.size w W := by rw [hW]; exact ((Below.refl _ _).alloc (Nat.le_refl _) _).alloc (by simp) _
  have HLF : Hid (LF W w.heap.size L k x a l cap) := by rw [hW]; exact ⟨⟨by simp, by simp, by simp⟩, by simp, by simp, by simp⟩
  have HI : Hid (∀ w', Below w.heap.size w w' → L.In w') := fun w' h => hL.step h
  have HFR : Hid (∀ w', Below w.heap.size w w' → FRep w' T (.agg #[.int .i64 k, .int .i64 x, .slice a l cap])) := fun w' h => FRep.step h _ _ hf
  have HG : Hid (∀ w', Below w.heap.size w w' → g.In w') := fun w' h => hg.step h
  have HB1 : Hid (Below w.heap.size w W) := B1
  have HW : Hid (W = (w.alloc (.cells #[.int .i64 L.n, .slice L.a L.la L.ca, .slice L.b L.lb L.cb] 24)).alloc (.cells #[.int .i64 k, .int .i64 x, .slice a l cap] 27)) := hW
  obtain ⟨⟨l0, l1, l2⟩, f0, f1, f2⟩ := HLF.out
  clear B1 hL hf hg hW
  go_enter Try.func3, Try.ntmps3
  go_wp2_with fail
  rw [← HW.out]
  clear HW
  refine (valueX_any L T g _ W (HI.out _ HB1.out) (HFR.out _ HB1.out) (HG.out _ HB1.out)).mono ?_
  rintro e w1 ⟨⟨y, c, hp, rfl⟩, hb1⟩
  have HC : Hid (VCk L T g c) := hp.1
  have HV : Hid ((c ≠ 0 ∧ y = 0) ∨ (c = 0 ∧ y = (val L.q L.m L.j g.f T : Nat))) := hp.2
  have HB2 : Hid (Below w.heap.size w w1) := Below.then HB1.out hb1
  have HL1 : Hid (LF w1 w.heap.size L k x a l cap) := HLF.out.step hb1
  clear hp hb1 HB1 HLF l0 l1 l2 f0 f1 f2
  obtain ⟨⟨l0, l1, l2⟩, f0, f1, f2⟩ := HL1.out
  go_wp2_with fail
  refine (checkHeyting_any L _ (HI.out _ HB2.out)).mono ?_
  rintro e w2 ⟨⟨c1, rfl, hc1⟩, hb2⟩
  have HB3 : Hid (Below w.heap.size w w2) := Below.then HB2.out hb2
  have HL2 : Hid (LF w2 w.heap.size L k x a l cap) := HL1.out.step hb2
  have HC1 : Hid (HCk L c1) := hc1
  clear hb2 hc1 HB2 HL1 l0 l1 l2 f0 f1 f2
  obtain ⟨⟨l0, l1, l2⟩, f0, f1, f2⟩ := HL2.out
  by_cases h0 : c1 = 0
  · subst h0
    go_wp2_with fail
    refine (checkFormula_any T _ _ (HFR.out _ HB3.out)).mono ?_
    rintro e w3 ⟨rfl, hb3⟩
    have HB4 : Hid (Below w.heap.size w w3) := Below.then HB3.out hb3
    have HL3 : Hid (LF w3 w.heap.size L k x a l cap) := HL2.out.step hb3
    clear hb3 HB3 HL2 l0 l1 l2 f0 f1 f2
    obtain ⟨⟨l0, l1, l2⟩, f0, f1, f2⟩ := HL3.out
    by_cases hck : chkF T = 0
    · have HCK : Hid (chkF T = 0) := hck
      rw [hck]
      clear hck
      go_wp2_with fail
      refine (mapped_any g L.n _ (HG.out _ HB4.out)).mono ?_
      rintro e w4 ⟨⟨c3, rfl, hc3⟩, hw4⟩
      subst w4
      have HM : Hid (MCk 3 L.n g.la g.F c3) := hc3
      obtain rfl := HC.out.one (.inr ⟨HC1.out, .inr ⟨HCK.out, HM.out⟩⟩)
      clear hc3
      by_cases h3 : c = 0
      · subst h3
        obtain rfl : y = (val L.q L.m L.j g.f T : Nat) := by
          rcases HV.out with ⟨h, _⟩ | ⟨_, h⟩
          · exact absurd rfl h
          · exact h
        have HVO : Hid _ := valueOf_la (HI.out _ HB4.out) (HFR.out _ HB4.out) (HG.out _ HB4.out) HC1.out HCK.out HM.out
        clear HV
        go_wp2_with fail
        refine (Calls.mono HVO.out) ?_
        rintro e w5 ⟨rfl, hb5⟩
        have HB5 : Hid (Below w.heap.size w w5) := Below.then HB4.out hb5
        clear hb5 HVO
        go_wp2_with fail
        refine (heytingBegun_any _).mono ?_
        rintro e w8 ⟨rfl, hb8⟩
        have HB8 : Hid (Below w.heap.size w w8) := Below.then HB5.out hb8
        clear hb8
        go_wp2_with fail
        refine (numberIs_any _ 0 0 _ _ rfl (.inr ⟨rfl, rfl⟩)).mono ?_
        rintro e w9 ⟨rfl, hw9⟩
        subst w9
        go_wp2_with fail
        go_ret
        exact ⟨rfl, HB8.out⟩
      · have hne : (c == 0) = false := by simpa using h3
        obtain rfl : y = 0 := by
          rcases HV.out with ⟨_, h⟩ | ⟨h, _⟩
          · exact h
          · exact absurd h h3
        clear HV
        go_wp2_with fail
        refine (heytingBegun_any _).mono ?_
        rintro e w8 ⟨rfl, hb8⟩
        have HB8 : Hid (Below w.heap.size w w8) := Below.then HB4.out hb8
        clear hb8
        go_wp2_with fail
        refine (numberIs_any 0 c c 0 _ rfl (.inl ⟨h3, rfl⟩)).mono ?_
        rintro e w9 ⟨rfl, hw9⟩
        subst w9
        go_wp2_with fail
        go_ret
        exact ⟨rfl, HB8.out⟩
    · have HCK : Hid (chkF T ≠ 0) := hck
      obtain rfl := HC.out.one (.inr ⟨HC1.out, .inl ⟨HCK.out, rfl⟩⟩)
      have hne : (chkF T == 0) = false := by simpa using hck
      obtain rfl : y = 0 := by
        rcases HV.out with ⟨_, h⟩ | ⟨h, _⟩
        · exact h
        · exact absurd h hck
      clear HV hck
      go_wp2_with fail
      refine (heytingBegun_any _).mono ?_
      rintro e w8 ⟨rfl, hb8⟩
      have HB8 : Hid (Below w.heap.size w w8) := Below.then HB4.out hb8
      clear hb8
      go_wp2_with fail
      refine (numberIs_any 0 (chkF T) (chkF T) 0 _ rfl (.inl ⟨HCK.out, rfl⟩)).mono ?_
      rintro e w9 ⟨rfl, hw9⟩
      subst w9
      go_wp2_with fail
      go_ret
      exact ⟨rfl, HB8.out⟩
  · have hne : (c1 == 0) = false := by simpa using h0
    obtain rfl := HC.out.one (.inl ⟨h0, HC1.out⟩)
    obtain rfl : y = 0 := by
      rcases HV.out with ⟨_, h⟩ | ⟨h, _⟩
      · exact h
      · exact absurd h h0
    clear HV
    go_wp2_with fail
    refine (heytingBegun_any _).mono ?_
    rintro e w8 ⟨rfl, hb8⟩
    have HB8 : Hid (Below w.heap.size w w8) := Below.then HB3.out hb8
    clear hb8
    go_wp2_with fail
    refine (numberIs_any 0 c c 0 _ rfl (.inl ⟨h0, rfl⟩)).mono ?_
    rintro e w9 ⟨rfl, hw9⟩
    subst w9
    go_wp2_with fail
    go_ret
    exact ⟨rfl, HB8.out⟩
end Go.Proofs.Ytibnadbobijjpaa
