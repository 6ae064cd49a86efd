/-
  What heyting.Value answers. Conditions: slices read as slices of rows and of numbers, a value as a formula.
-/
import Derived.Test.YtibnadbobijjpaaValP
import Derived.Test.YtibnadbobijjpaaRegP
import Derived.Test.YtibnadbobijjpaaFmK
namespace Go.Proofs.Ytibnadbobijjpaa
set_option maxRecDepth 100000
open Go.RowKit

theorem val_two {q : Nat} {m j : Nat → Nat → Nat} {f : Nat → Nat} {k x : Int} {l : Nat} {kid : Nat → FT} (hk : k = 3 ∨ k = 4 ∨ k = 5) : val q m j f (.mk k x l kid) = if k = 3 then m (val q m j f (kid 0)) (val q m j f (kid 1)) else if k = 4 then j (val q m j f (kid 0)) (val q m j f (kid 1)) else imp q m j (val q m j f (kid 0)) (val q m j f (kid 1)) := by
  rcases hk with rfl | rfl | rfl <;> simp [val]
theorem val_one {q : Nat} {m j : Nat → Nat → Nat} {f : Nat → Nat} {x : Int} {l : Nat} {kid : Nat → FT} : val q m j f (.mk 1 x l kid) = en m q := by simp [val]
theorem val_var {q : Nat} {m j : Nat → Nat → Nat} {f : Nat → Nat} {x : Nat} {l : Nat} {kid : Nat → FT} : val q m j f (.mk 2 (x : Nat) l kid) = f x := by simp [val]
theorem value_alg {w0 : World} {A n b off ca b' off' cb : Nat} {R R' : Nat → Nat × Nat × Nat} {m j : Nat → Nat → Nat} (B : Base w0 n b off b' off' R R' m j) (hA : A = w0.heap.size) {f : Nat → Nat} {c co cc : Nat}
    (hr : ∀ i, i < 3 → w0.cell? ⟨c, co + i, none⟩ = some (.int .i64 (f i : Nat))) (hfq : ∀ i, i < 3 → f i < n) (T : FT) : ∀ v w, cf T = 0 → FRep w0 T v → St w0 A n b off ca b' off' cb (imp n m j) w →
    Calls Try.prog 14 #[.iface 39 (.pointer (some ⟨A, 0, none⟩)), v, .slice (some ⟨c, co, none⟩) 3 cc] w fun e w' => e = .returned (.int .i64 (val n m j f T : Nat)) ∧ St w0 A n b off ca b' off' cb (imp n m j) w' ∧ But A w w' := by
  induction T using FT.ind with
  | leaf => exact fun _ _ _ h => h.elim
  | mk k x l kid ih =>
    intro v w hc hf hs
    obtain ⟨a, cap, rfl, hn, hk⟩ := hf
    rcases cf_zero hc with ⟨rfl, rfl⟩ | ⟨rfl, rfl, hx1, hx2⟩ | ⟨hk3, rfl, a0, a1⟩
    · rw [val_one]; exact value_false B hA hs x a 0 cap _
    · obtain ⟨X, rfl⟩ : ∃ X : Nat, x = (X : Nat) := ⟨x.toNat, by omega⟩
      rw [val_var]
      have h1 := hr X (by omega)
      have hlt : c < A := by rw [hA]; exact World.block_lt_of_cell? _ _ h1
      exact value_variable hs X (by omega) a 0 cap c co cc (f X) ((hs.bel.cell (p := ⟨c, co + X, none⟩) hlt).trans h1)
    · obtain ⟨kb, ko, rfl, k0, x0, s0, l0, c0, ⟨g1, g2, g3⟩, g4⟩ := hk 0 (by omega)
      obtain ⟨kb', ko', e, k1, x1, s1, l1, c1, ⟨p1, p2, p3⟩, p4⟩ := hk 1 (by omega)
      cases e
      have hlt : kb < A := by rw [hA]; exact World.block_lt_of_cell? _ _ g1
      rw [val_two hk3]
      simp only [Nat.zero_mul, Nat.add_zero, Nat.one_mul] at g1 g2 g3 p1 p2 p3
      exact value_two B hA hs k x hk3 (val_lt B.lat B.h1 hfq _ a0) (val_lt B.lat B.h1 hfq _ a1) hlt ⟨⟨g1, g2⟩, g3⟩ ⟨⟨p1, by simpa [Nat.add_assoc] using p2⟩, by simpa [Nat.add_assoc] using p3⟩ (fun w hw => ih 0 _ w a0 g4 hw) (fun w hw => ih 1 _ w a1 p4 hw)
/-- What the error must be. -/
def VCk (L : LA) (T : FT) (g : MA) (c : Int) : Prop := (c ≠ 0 ∧ HCk L c) ∨ (HCk L 0 ∧ ((c ≠ 0 ∧ c = chkF T) ∨ (chkF T = 0 ∧ MCk 3 L.n g.la g.F c)))
theorem VCk.one {L : LA} {T : FT} {g : MA} {c d : Int} (h : VCk L T g c) (h' : VCk L T g d) : c = d := by
  rcases h with ⟨h1, h2⟩ | ⟨h1, h2⟩ <;> rcases h' with ⟨k1, k2⟩ | ⟨k1, k2⟩
  · exact h2.one k2
  · exact absurd (h2.one k1) h1
  · exact absurd (k2.one h1) k1
  · rcases h2 with ⟨a, b⟩ | ⟨a, b⟩ <;> rcases k2 with ⟨a', b'⟩ | ⟨a', b'⟩
    · omega
    · omega
    · omega
    · exact b.one b'
def VPost (L : LA) (T : FT) (g : MA) (v c : Int) : Prop := VCk L T g c ∧ ((c ≠ 0 ∧ v = 0) ∨ (c = 0 ∧ v = (val L.q L.m L.j g.f T : Nat)))
theorem chk_cf {T : FT} (h : chkF T = 0) : cf T = 0 := by
  unfold chkF at h
  split at h
  · omega
  · exact h
/-- The two variables of a call. -/
def LF (w : World) (B : Nat) (L : LA) (k x : Int) (a : Option Addr) (l cap : Nat) : Prop := LB w B L.n L.a L.la L.ca L.b L.lb L.cb ∧ w.cell? ⟨B + 1, 0, none⟩ = some (.int .i64 k) ∧ w.cell? ⟨B + 1, 1, none⟩ = some (.int .i64 x) ∧ w.cell? ⟨B + 1, 2, none⟩ = some (.slice a l cap)
theorem LF.step {w w' : World} {B : Nat} {L : LA} {k x : Int} {a : Option Addr} {l cap : Nat} (h : LF w B L k x a l cap) (hb : Below w.heap.size w w') : LF w' B L k x a l cap := ⟨h.1.step hb, cell_step hb h.2.1, cell_step hb h.2.2.1, cell_step hb h.2.2.2⟩
set_option maxHeartbeats 2000000 in
theorem valueX_any (L : LA) (T : FT) (g : MA) (v : Value) (w : World) (hL : L.In w) (hf : FRep w T v) (hg : g.In w) :
    Calls Try.prog 4 #[.agg #[.int .i64 L.n, .slice L.a L.la L.ca, .slice L.b L.lb L.cb], v, .slice g.a g.la g.ca] w fun e w' => (∃ y c, VPost L T g y c ∧ e = .returned (.tuple #[.int .i64 y, .int .i64 c])) ∧ Below w.heap.size w w' := by
  obtain ⟨k, x, a, l, cap, rfl⟩ := hf.form
  obtain ⟨W, hW⟩ : ∃ W, W = (w.alloc (.cells #[.int .i64 L.n, .slice L.a L.la L.ca, .slice L.b L.lb L.cb] 24)).alloc (.cells #[.int .i64 k, .int .i64 x, .slice a l cap] 27) := ⟨_, rfl⟩
  have B1 : Below w.heap.size w W := by rw [hW]; exact ((Below.refl _ _).alloc (Nat.le_refl _) _).alloc (by simp) _
  have HLF : Hid (LF W w.heap.size L k x a l cap) := by rw [hW]; exact ⟨⟨by simp, by simp, by simp⟩, by simp, by simp, by simp⟩
  have HI : Hid (L.In W) := hL.step B1
  have HFR : Hid (∀ w', Below w.heap.size w w' → FRep w' T (.agg #[.int .i64 k, .int .i64 x, .slice a l cap])) := fun w' h => FRep.step h _ _ hf
  have HG : Hid (∀ w', Below w.heap.size w w' → g.In w') := fun w' h => hg.step h
  have HB1 : Hid (Below w.heap.size w W) := B1
  have HW : Hid (W = (w.alloc (.cells #[.int .i64 L.n, .slice L.a L.la L.ca, .slice L.b L.lb L.cb] 24)).alloc (.cells #[.int .i64 k, .int .i64 x, .slice a l cap] 27)) := hW
  obtain ⟨⟨l0, l1, l2⟩, f0, f1, f2⟩ := HLF.out
  clear B1 hL hf hg hW
  go_enter Try.func4, Try.ntmps4
  go_wp2_with fail
  rw [← HW.out]
  clear HW
  refine (algebraOf_any L W HI.out).mono ?_
  rintro e w1 ⟨c, hc, ⟨h0, rfl, hb1⟩ | ⟨rfl, w0, A, b, off, b', off', rfl, hN⟩⟩
  · have HB2 : Hid (Below w.heap.size w w1) := Below.then HB1.out hb1
    have HC : Hid (HCk L c) := hc
    have hne : (c != 0) = true := by simpa using h0
    clear hb1 HB1 hc HI HLF l0 l1 l2 f0 f1 f2
    go_wp2_with fail
    go_ret2
    exact ⟨⟨0, c, ⟨.inl ⟨h0, HC.out⟩, .inl ⟨h0, rfl⟩⟩, rfl⟩, HB2.out⟩
  · have HC : Hid (HCk L 0) := hc
    have HB2 : Hid (Below w.heap.size w w1) := Below.then HB1.out hN.below0
    have HN : Hid (NewA L W w0 w1 A b off b' off') := hN
    have HL1 : Hid (LF w1 w.heap.size L k x a l cap) := HLF.out.step hN.below0
    clear hN hc HLF l0 l1 l2 f0 f1 f2 HI
    obtain ⟨⟨l0, l1, l2⟩, f0, f1, f2⟩ := HL1.out
    go_wp2_with fail
    refine (hCheck_any T _ _ (HFR.out _ HB2.out)).mono ?_
    rintro e w2 ⟨rfl, hb2⟩
    have HB3 : Hid (Below w.heap.size w w2) := Below.then HB2.out hb2
    have HST : Hid (St w0 A L.q b off L.ca b' off' L.cb (imp L.q L.m L.j) w2) := .inl (HN.out.alg.step hb2)
    have HL2 : Hid (LF w2 w.heap.size L k x a l cap) := HL1.out.step hb2
    clear hb2 HB2 HL1 l0 l1 l2 f0 f1 f2
    obtain ⟨⟨l0, l1, l2⟩, f0, f1, f2⟩ := HL2.out
    by_cases hck : chkF T = 0
    · have HCK : Hid (chkF T = 0) := hck
      rw [hck]
      clear hck
      go_wp2_with fail
      refine (checkMap_any g 3 L.n _ (HG.out _ HB3.out)).mono ?_
      rintro e w3 ⟨⟨c3, rfl, hc3⟩, rfl⟩
      have HM : Hid (MCk 3 L.n g.la g.F c3) := hc3
      by_cases h3 : c3 = 0
      · subst h3
        have HVA : Hid (Calls Try.prog 14 #[.iface 39 (.pointer (some ⟨A, 0, none⟩)), .agg #[.int .i64 k, .int .i64 x, .slice a l cap], .slice g.a g.la g.ca] w2 fun e w' => e = .returned (.int .i64 (val L.q L.m L.j g.f T : Nat)) ∧ St w0 A L.q b off L.ca b' off' L.cb (imp L.q L.m L.j) w' ∧ But A w2 w') := by
          have hm : (g.la : Int) = 3 ∧ ∀ i, i < g.la → 0 ≤ g.F i ∧ g.F i < L.n := by
            rcases hc3 with ⟨h, _⟩ | ⟨h1, ⟨h, _⟩ | ⟨_, h2⟩⟩
            · omega
            · omega
            · exact ⟨h1, h2⟩
          have hla : g.la = 3 := by omega
          have hb0 : Below w.heap.size w w0 := Below.then HB1.out HN.out.bel
          have hrow := (HG.out w0 hb0).2
          rw [hla] at hrow
          obtain ⟨c, co, ea, _⟩ := hrow 0 (by omega)
          have hnq := HN.out.nq
          have hat : ∀ i, i < 3 → w0.cell? ⟨c, co + i, none⟩ = some (.int .i64 (g.f i : Nat)) := fun i hi => by
            obtain ⟨c', co', e', h'⟩ := hrow i hi
            rw [ea] at e'
            cases e'
            rw [h']
            have := hm.2 i (by omega)
            show some (Value.int .i64 (g.F i)) = some (.int .i64 (((g.F i).toNat : Nat) : Int))
            rw [show (((g.F i).toNat : Nat) : Int) = g.F i by omega]
          rw [ea, hla]
          exact value_alg HN.out.base HN.out.ha hat (fun i hi => by have := hm.2 i (by omega); show (g.F i).toNat < L.q; omega) T _ w2 (chk_cf HCK.out) (HFR.out w0 hb0) HST.out
        have HAW : Hid (w.heap.size ≤ A ∧ A ≤ w2.heap.size) := by
          have e1 := HN.out.ha
          have e2 := HB1.out.size
          have e3 := HN.out.bel.size
          have e4 : A < w2.heap.size := World.block_lt_of_cell? _ _ HST.out.lb.1
          exact ⟨by omega, by omega⟩
        clear hc3
        go_wp2_with fail
        refine (Calls.mono HVA.out) ?_
        rintro e w4 ⟨rfl, _, hbut⟩
        have HB4 : Hid (Below w.heap.size w w4) := HB3.out.trans ((hbut.below HAW.out.2).mono HAW.out.1)
        clear hbut HVA
        go_wp2_with fail
        go_ret2
        exact ⟨⟨_, 0, ⟨.inr ⟨HC.out, .inr ⟨HCK.out, HM.out⟩⟩, .inr ⟨rfl, rfl⟩⟩, rfl⟩, HB4.out⟩
      · have hne : (c3 != 0) = true := by simpa using h3
        clear hc3
        go_wp2_with fail
        go_ret2
        exact ⟨⟨0, c3, ⟨.inr ⟨HC.out, .inr ⟨HCK.out, HM.out⟩⟩, .inl ⟨h3, rfl⟩⟩, rfl⟩, HB3.out⟩
    · have HCK : Hid (chkF T ≠ 0) := hck
      have hne : (chkF T != 0) = true := by simpa using hck
      clear hck
      go_wp2_with fail
      go_ret2
      exact ⟨⟨0, chkF T, ⟨.inr ⟨HC.out, .inl ⟨HCK.out, rfl⟩⟩, .inl ⟨HCK.out, rfl⟩⟩, rfl⟩, HB3.out⟩
end Go.Proofs.Ytibnadbobijjpaa
