/-
  hasselaw.HeytingValid returns true of every lattice and formula. Conditions: slices read as slices of rows, a value as a formula.
-/
import Derived.Test.YtddpeldchffidaaSurP
import Derived.Test.YtddpeldchffidaaTruth
namespace Go.Proofs.Ytddpeldchffidaa
set_option maxRecDepth 100000
open Go.RowKit

theorem truthIs_any (c : Int) (b b' : Bool) (w : World) (h : (c ≠ 0 ∧ b = false) ∨ (c = 0 ∧ b = b')) :
    Calls Try.prog 8 #[.bool b, .int .i64 c, .int .i64 c, .bool b'] w fun e w' => e = .returned (.bool true) ∧ w = w' := by
  rcases h with ⟨h0, rfl⟩ | ⟨rfl, rfl⟩
  · have hne : (c == 0) = false := by simpa using h0
    cases b'
    · go_enter Try.func8, Try.ntmps8
      go_wp2
      go_ret
      exact ⟨rfl, rfl⟩
    · go_enter Try.func8, Try.ntmps8
      go_wp2
      go_ret
      exact ⟨rfl, rfl⟩
  · cases b
    · go_enter Try.func8, Try.ntmps8
      go_wp2
      go_ret
      exact ⟨rfl, rfl⟩
    · go_enter Try.func8, Try.ntmps8
      go_wp2
      go_ret
      exact ⟨rfl, rfl⟩
theorem VdCk.one {L : LA} {T : FT} {c d : Int} (h : VdCk L T c) (h' : VdCk L T d) : c = d := by
  rcases h with ⟨h1, h2⟩ | ⟨h1, h2⟩ <;> rcases h' with ⟨k1, k2⟩ | ⟨k1, k2⟩
  · exact h2.one k2
  · exact absurd (h2.one k1) h1
  · exact absurd (k2.one h1) k1
  · rcases h2 with ⟨a, b⟩ | ⟨a, b⟩ <;> rcases k2 with ⟨a', b'⟩ | ⟨a', b'⟩ <;> omega
/-- Sure, of what is checked. -/
theorem sure_la {L : LA} {T : FT} {k x : Int} {a : Option Addr} {l cap : Nat} {w : World} (hL : L.In w) (hf : FRep w T (.agg #[.int .i64 k, .int .i64 x, .slice a l cap])) (hC : HCk L 0) (hT : chkF T = 0) (h16 : L.n ≤ 16) :
    Calls Try.prog 9 #[.agg #[.int .i64 L.n, .slice L.a L.la L.ca, .slice L.b L.lb L.cb], .agg #[.int .i64 k, .int .i64 x, .slice a l cap]] w fun e w' => (∃ r, e = .returned (.bool r) ∧ (r = true ↔ Always3 L T)) ∧ Below w.heap.size w w' := by
  rcases hC with ⟨h, _⟩ | ⟨hc, ⟨h, _⟩ | ⟨_, hd⟩⟩
  · exact absurd rfl h
  · exact absurd h (by decide)
  have hl := LA.Ck.lat hc
  obtain ⟨q, b1, o1, b2, o2, eq, e1, hla, e2, hlb, _, _, _, ht1, ht2⟩ := LCk.open hc hL.2.2.1 hL.2.2.2
  have hq : q = L.q := by unfold LA.q; omega
  subst hq
  rw [e1, e2, ← hla, ← hlb, eq]
  refine (sure_any hl.1 (by omega) hl.2.2.1 hd ht1 ht2 (chk_cf hT) hf).mono ?_
  rintro e w' ⟨⟨r, rfl, hr⟩, hb⟩
  refine ⟨⟨r, rfl, hr.trans ?_⟩, hb⟩
  have hi := sure_iff (q := L.q) (m := L.m) (j := L.j) (T := T) (n := L.q) (t := lsB L.m L.q) (chk_cf hT)
  rw [lsB_is hl.2.2.1 hl.1] at hi
  unfold Always3
  rw [← hi]
  unfold Sure3
  rw [show lsB L.m L.q = en L.j L.q from lsB_is hl.2.2.1 hl.1]
set_option maxHeartbeats 4000000 in
theorem heytingValid_la (L : LA) (T : FT) (v : Value) (w : World) (hL : L.In w) (hf : FRep w T v) :
    Calls Try.prog 3 #[.agg #[.int .i64 L.n, .slice L.a L.la L.ca, .slice L.b L.lb L.cb], v] w fun e w' => e = .returned (.bool true) ∧ Below w.heap.size w w' := by
  obtain ⟨k, x, a, l, cap, rfl⟩ := hf.form
  obtain ⟨W, hW⟩ : ∃ W, W = (w.alloc (.cells #[.int .i64 L.n, .slice L.a L.la L.ca, .slice L.b L.lb L.cb] 24)).alloc (.cells #[.int .i64 k, .int .i64 x, .slice a l cap] 27) := ⟨_, rfl⟩
  have B1 : Below w.heap.size w W := by rw [hW]; exact ((Below.refl _ _).alloc (Nat.le_refl _) _).alloc (by simp) _
  have HLF : Hid (LF W w.heap.size L k x a l cap) := by rw [hW]; exact ⟨⟨by simp, by simp, by simp⟩, by simp, by simp, by simp⟩
  have HI : Hid (∀ w', Below w.heap.size w w' → L.In w') := fun w' h => hL.step h
  have HFR : Hid (∀ w', Below w.heap.size w w' → FRep w' T (.agg #[.int .i64 k, .int .i64 x, .slice a l cap])) := fun w' h => FRep.step h _ _ hf
  have HB1 : Hid (Below w.heap.size w W) := B1
  have HW : Hid (W = (w.alloc (.cells #[.int .i64 L.n, .slice L.a L.la L.ca, .slice L.b L.lb L.cb] 24)).alloc (.cells #[.int .i64 k, .int .i64 x, .slice a l cap] 27)) := hW
  obtain ⟨⟨l0, l1, l2⟩, f0, f1, f2⟩ := HLF.out
  clear B1 hL hf hW
  go_enter Try.func3, Try.ntmps3
  go_wp2_with fail
  rw [← HW.out]
  clear HW
  refine (validX_any L T _ W (HI.out _ HB1.out) (HFR.out _ HB1.out)).mono ?_
  rintro e w1 ⟨⟨ok, c, hp, rfl⟩, hb1⟩
  have HC : Hid (VdCk L T c) := hp.1
  have HV : Hid ((c ≠ 0 ∧ ok = false) ∨ (c = 0 ∧ (ok = true ↔ Always3 L T))) := hp.2
  have HB2 : Hid (Below w.heap.size w w1) := Below.then HB1.out hb1
  have HL1 : Hid (LF w1 w.heap.size L k x a l cap) := HLF.out.step hb1
  clear hp hb1 HB1 HLF l0 l1 l2 f0 f1 f2
  obtain ⟨⟨l0, l1, l2⟩, f0, f1, f2⟩ := HL1.out
  go_wp2_with fail
  refine (checkHeyting_any L _ (HI.out _ HB2.out)).mono ?_
  rintro e w2 ⟨⟨c1, rfl, hc1⟩, hb2⟩
  have HB3 : Hid (Below w.heap.size w w2) := Below.then HB2.out hb2
  have HL2 : Hid (LF w2 w.heap.size L k x a l cap) := HL1.out.step hb2
  have HC1 : Hid (HCk L c1) := hc1
  clear hb2 hc1 HB2 HL1 l0 l1 l2 f0 f1 f2
  obtain ⟨⟨l0, l1, l2⟩, f0, f1, f2⟩ := HL2.out
  by_cases h0 : c1 = 0
  · subst h0
    go_wp2_with fail
    refine (checkFormula_any T _ _ (HFR.out _ HB3.out)).mono ?_
    rintro e w3 ⟨rfl, hb3⟩
    have HB4 : Hid (Below w.heap.size w w3) := Below.then HB3.out hb3
    have HL3 : Hid (LF w3 w.heap.size L k x a l cap) := HL2.out.step hb3
    clear hb3 HB3 HL2 l0 l1 l2 f0 f1 f2
    obtain ⟨⟨l0, l1, l2⟩, f0, f1, f2⟩ := HL3.out
    by_cases hck : chkF T = 0
    · have HCK : Hid (chkF T = 0) := hck
      rw [hck]
      clear hck
      by_cases h16 : 16 < L.n
      · obtain rfl : c = 2 := HC.out.one (.inr ⟨HC1.out, .inr ⟨HCK.out, .inl ⟨rfl, h16⟩⟩⟩)
        obtain rfl : ok = false := by
          rcases HV.out with ⟨_, h⟩ | ⟨h, _⟩
          · exact h
          · exact absurd h (by decide)
        clear HV HC
        go_wp2_with fail
        refine (heytingBegun_any _).mono ?_
        rintro e w8 ⟨rfl, hb8⟩
        have HB8 : Hid (Below w.heap.size w w8) := Below.then HB4.out hb8
        clear hb8
        go_wp2_with fail
        refine (truthIs_any 2 false false _ (.inl ⟨by omega, rfl⟩)).mono ?_
        rintro e w9 ⟨rfl, hw9⟩
        subst w9
        go_wp2_with fail
        go_ret
        exact ⟨rfl, HB8.out⟩
      · have HLE : Hid (L.n ≤ 16) := (show L.n ≤ 16 by omega)
        obtain rfl : c = 0 := HC.out.one (.inr ⟨HC1.out, .inr ⟨HCK.out, .inr ⟨rfl, HLE.out⟩⟩⟩)
        have HOK : Hid (ok = true ↔ Always3 L T) := by
          rcases HV.out with ⟨h, _⟩ | ⟨_, h⟩
          · exact absurd rfl h
          · exact h
        clear HV HC
        go_wp2_with fail
        refine (heytingBegun_any _).mono ?_
        rintro e w8 ⟨rfl, hb8⟩
        have HB8 : Hid (Below w.heap.size w w8) := Below.then HB4.out hb8
        have HL8 : Hid (LF w8 w.heap.size L k x a l cap) := HL3.out.step hb8
        clear hb8 HB4 HL3 l0 l1 l2 f0 f1 f2
        obtain ⟨⟨l0, l1, l2⟩, f0, f1, f2⟩ := HL8.out
        have HSU : Hid _ := sure_la (HI.out _ HB8.out) (HFR.out _ HB8.out) HC1.out HCK.out HLE.out
        go_wp2_with fail
        refine (Calls.mono HSU.out) ?_
        rintro e w9 ⟨⟨r, rfl, hr⟩, hb9⟩
        have HB9 : Hid (Below w.heap.size w w9) := Below.then HB8.out hb9
        obtain rfl : ok = r := Bool.eq_iff_iff.2 (HOK.out.trans hr.symm)
        clear hb9 hr HSU HB8 HL8 l0 l1 l2 f0 f1 f2
        go_wp2_with fail
        refine (truthIs_any 0 ok ok _ (.inr ⟨rfl, rfl⟩)).mono ?_
        rintro e w10 ⟨rfl, hw10⟩
        subst w10
        go_wp2_with fail
        go_ret
        exact ⟨rfl, HB9.out⟩
    · have HNE : Hid (chkF T ≠ 0) := hck
      obtain rfl : c = chkF T := HC.out.one (.inr ⟨HC1.out, .inl ⟨hck, rfl⟩⟩)
      obtain rfl : ok = false := by
        rcases HV.out with ⟨_, h⟩ | ⟨h, _⟩
        · exact h
        · exact absurd h hck
      have hne : (chkF T == 0) = false := by simpa using hck
      clear HV HC hck
      go_wp2_with fail
      refine (heytingBegun_any _).mono ?_
      rintro e w8 ⟨rfl, hb8⟩
      have HB8 : Hid (Below w.heap.size w w8) := Below.then HB4.out hb8
      clear hb8
      go_wp2_with fail
      refine (truthIs_any (chkF T) false false _ (.inl ⟨HNE.out, rfl⟩)).mono ?_
      rintro e w9 ⟨rfl, hw9⟩
      subst w9
      go_wp2_with fail
      go_ret
      exact ⟨rfl, HB8.out⟩
  · have HNE : Hid (c1 ≠ 0) := h0
    obtain rfl : c = c1 := HC.out.one (.inl ⟨h0, HC1.out⟩)
    obtain rfl : ok = false := by
      rcases HV.out with ⟨_, h⟩ | ⟨h, _⟩
      · exact h
      · exact absurd h h0
    have hne : (c == 0) = false := by simpa using h0
    clear HV HC h0
    go_wp2_with fail
    refine (heytingBegun_any _).mono ?_
    rintro e w8 ⟨rfl, hb8⟩
    have HB8 : Hid (Below w.heap.size w w8) := Below.then HB3.out hb8
    clear hb8
    go_wp2_with fail
    refine (truthIs_any c false false _ (.inl ⟨HNE.out, rfl⟩)).mono ?_
    rintro e w9 ⟨rfl, hw9⟩
    subst w9
    go_wp2_with fail
    go_ret
    exact ⟨rfl, HB8.out⟩
end Go.Proofs.Ytddpeldchffidaa
