/-
  What series.takes, checkForm and points answer. Conditions: the value reads as a term.
-/
import Derived.Test.YtjhpegjcknaioaaDoorSameN
import Derived.Test.YtjhpegjcknaioaaDoorFFour
import Derived.Test.YtjhpegjcknaioaaDoorLkM
namespace Go.Proofs.YtjhpegjcknaioaaDoor
set_option maxRecDepth 100000
open Go.RowKit

/-- The tally. -/
def Tly (w : World) (Y : Nat) (a b : Nat) : Prop := (w.cell? ⟨Y, 0, none⟩ = some (.int .i64 (a : Nat)) ∧ w.cell? ⟨Y, 1, none⟩ = some (.int .i64 (b : Nat))) ∧ w.frozen? ⟨Y, 0, none⟩ = false ∧ w.frozen? ⟨Y, 1, none⟩ = false
theorem Tly.step {w w' : World} {Y a b : Nat} (h : Tly w Y a b) (hb : Below w.heap.size w w') : Tly w' Y a b := by
  have hB : Y < w.heap.size := World.block_lt_of_cell? _ _ h.1.1
  have f : ∀ o, w'.frozen? ⟨Y, o, none⟩ = w.frozen? ⟨Y, o, none⟩ := fun o => hb.frozen (p := ⟨Y, o, none⟩) hB
  exact ⟨⟨cellS hb h.1.1, cellS hb h.1.2⟩, (f 0).trans h.2.1, (f 1).trans h.2.2⟩
theorem Tly.set0 {w : World} {Y a b : Nat} (h : Tly w Y a b) (a' : Nat) : Tly (w.setCell ⟨Y, 0, none⟩ (.int .i64 (a' : Nat))) Y a' b := by
  refine ⟨⟨World.cell?_setCell_same _ _ _ h.1.1, ?_⟩, by rw [World.frozen?_setCell]; exact h.2.1, by rw [World.frozen?_setCell]; exact h.2.2⟩
  rw [World.cell?_setCell_other _ _ _ _ (by simp)]; exact h.1.2
theorem Tly.set1 {w : World} {Y a b : Nat} (h : Tly w Y a b) (b' : Nat) : Tly (w.setCell ⟨Y, 1, none⟩ (.int .i64 (b' : Nat))) Y a b' := by
  refine ⟨⟨?_, World.cell?_setCell_same _ _ _ h.1.2⟩, by rw [World.frozen?_setCell]; exact h.2.1, by rw [World.frozen?_setCell]; exact h.2.2⟩
  rw [World.cell?_setCell_other _ _ _ _ (by simp)]; exact h.1.1
def TkPost (Y : Nat) (T : TT) (a b : Nat) (W0 : World) (e : Ending) (w' : World) : Prop :=
  ∃ ok, e = .returned (.bool ok) ∧ Below W0.heap.size W0 w' ∧ ((ok = true ∧ a + sz T ≤ 40 ∧ b + np T ≤ 10 ∧ Tly w' Y (a + sz T) (b + np T)) ∨ (ok = false ∧ ¬ (a + sz T ≤ 40 ∧ b + np T ≤ 10)))
set_option maxHeartbeats 4000000 in
theorem takes_any (Y : Nat) (W0 : World) (hY : W0.heap.size ≤ Y) (T : TT) : ∀ (a b : Nat) (v : Value) (w : World), a ≤ 40 → b ≤ 10 → TRep 0 W0 T v → Below W0.heap.size W0 w → Tly w Y a b →
    Calls Tryd.prog 63 #[.pointer (some ⟨Y, 0, none⟩), v] w fun e w' => TkPost Y T a b W0 e w' := by
  induction T using TT.ind with
  | leaf => exact fun _ _ _ _ _ _ h => h.elim
  | mk k x n kid ih =>
    intro a b v w ha hb hf hB hT
    obtain ⟨ad, cap, rfl, hn, hk⟩ := hf
    have HIH : Hid (∀ i, ∀ (a b : Nat) (v : Value) (w : World), a ≤ 40 → b ≤ 10 → TRep 0 W0 (kid i) v → Below W0.heap.size W0 w → Tly w Y a b → Calls Tryd.prog 63 #[.pointer (some ⟨Y, 0, none⟩), v] w fun e w' => TkPost Y (kid i) a b W0 e w') := ih
    have HK : Hid (∀ i, i < n → ∃ b off, ad = some ⟨b, off, none⟩ ∧ ∃ (k' x' : Int) (a' : Option Addr) (n' c' : Nat), (∀ w', Below W0.heap.size W0 w' →
        (w'.cell? ⟨b, off + i * 3, none⟩ = some (.int .i64 k') ∧ w'.cell? ⟨b, off + i * 3 + 1, none⟩ = some (.int .i64 x') ∧ w'.cell? ⟨b, off + i * 3 + 2, none⟩ = some (.slice a' n' c'))) ∧ TRep 0 W0 (kid i) (.agg #[.int .i64 k', .int .i64 x', .slice a' n' c'])) := fun i hi => by
      obtain ⟨b, off, e, _, k', x', a', n', c', ⟨h1, h2, h3⟩, h4⟩ := hk i hi
      exact ⟨b, off, e, k', x', a', n', c', fun w' hb => ⟨cell_stp hb h1, cell_stp hb h2, cell_stp hb h3⟩, h4⟩
    have hn' : n ≤ 9223372036854775807 := by unfold maxLen at hn; omega
    have HBA : Hid (∀ (w' : World) (o : Obj), Below W0.heap.size W0 w' → Below W0.heap.size W0 (w'.alloc o)) := fun w' o h => h.alloc h.size o
    have HBS : Hid (∀ (w' : World) (i : Nat) (z : Value), Below W0.heap.size W0 w' → Below W0.heap.size W0 (w'.setCell ⟨Y, i, none⟩ z)) := fun w' i z h => h.setCell (p := ⟨Y, i, none⟩) hY z
    have HSZ : Hid (∀ i, i ≤ n → szK kid i ≤ sz (.mk k x n kid)) := fun i hi => by rw [sz_eq]; have := szK_mono kid i (n - i); rw [show i + (n - i) = n by omega] at this; exact this
    have HNP : Hid (∀ i, i ≤ n → npK k kid i ≤ np (.mk k x n kid)) := fun i hi => by rw [np_eq]; have := npK_mono k kid i (n - i); rw [show i + (n - i) = n by omega] at this; exact this
    have HEQ : Hid (sz (.mk k x n kid) = szK kid n ∧ np (.mk k x n kid) = npK k kid n) := ⟨rfl, rfl⟩
    clear ih hk hn
    by_cases hk1 : k = 1
    · subst hk1
      obtain ⟨ZT, NT, HZT⟩ : ∃ ZT NT, Hid (sz (.mk 1 x n kid) = ZT ∧ np (.mk 1 x n kid) = NT) := ⟨_, _, rfl, rfl⟩
      rw [HZT.out.1] at HSZ HEQ
      rw [HZT.out.2] at HNP HEQ
      have HTW : Hid (Tly (w.alloc (.cells #[.int .i64 1, .int .i64 x, .slice ad n cap] 27)) Y a b) := hT.step ((Below.refl _ _).alloc (Nat.le_refl _) _)
      have HTX : Hid (Tly (((w.alloc (.cells #[.int .i64 1, .int .i64 x, .slice ad n cap] 27)).setCell ⟨Y, 0, none⟩ (.int .i64 ((a : Int) + 1))).setCell ⟨Y, 1, none⟩ (.int .i64 ((b : Int) + 1))) Y (a + 1) (b + 1)) := ((HTW.out.set0 (a + 1)).set1 (b + 1))
      have HBX : Hid (Below W0.heap.size W0 (((w.alloc (.cells #[.int .i64 1, .int .i64 x, .slice ad n cap] 27)).setCell ⟨Y, 0, none⟩ (.int .i64 ((a : Int) + 1))).setCell ⟨Y, 1, none⟩ (.int .i64 ((b : Int) + 1)))) := HBS.out _ _ _ (HBS.out _ _ _ (HBA.out _ _ hB))
      have HN0 : Hid (npK 1 kid 0 = 1) := rfl
      have HYW : Hid (Y < w.heap.size) := World.block_lt_of_cell? _ _ hT.1.1
      have hYne : ¬ Y = w.heap.size := by have := HYW.out; omega
      obtain ⟨⟨y0, y1⟩, f0, f1⟩ := HTW.out
      have x0 : ∀ z, ((w.alloc (.cells #[.int .i64 1, .int .i64 x, .slice ad n cap] 27)).setCell ⟨Y, 0, none⟩ z).cell? ⟨w.heap.size, 0, none⟩ = some (.int .i64 1) := fun z => by
        rw [World.cell?_setCell_other _ _ _ _ (fun e => by injection e with e1; exact hYne e1)]; simp
      have HCX : Hid ((((w.alloc (.cells #[.int .i64 1, .int .i64 x, .slice ad n cap] 27)).setCell ⟨Y, 0, none⟩ (.int .i64 ((a : Int) + 1))).setCell ⟨Y, 1, none⟩ (.int .i64 ((b : Int) + 1))).cell? ⟨w.heap.size, 2, none⟩ = some (.slice ad n cap)) := by
        rw [Hid, World.cell?_setCell_other _ _ _ _ (fun e => by injection e with e1; exact hYne e1), World.cell?_setCell_other _ _ _ _ (fun e => by injection e with e1; exact hYne e1)]; simp
      have z2 := HCX.out
      obtain ⟨⟨t0, t1⟩, g0, g1⟩ := HTX.out
      obtain ⟨⟨s0, s1⟩, h0, h1⟩ := HTW.out.set0 (a + 1)
      clear hT HTW
      by_cases hm : a + 1 ≤ 40 ∧ b + 1 ≤ 10
      · have hm1 : ¬ (40 : Int) < (a : Int) + 1 := by omega
        have hm1' : (a : Int) + 1 ≤ 40 := by omega
        have hm2 : ¬ (10 : Int) < (b : Int) + 1 := by omega
        go_enter Tryd.func63, Tryd.ntmps63
        go_wp2_with fail
        generalize (((w.alloc (.cells #[.int .i64 1, .int .i64 x, .slice ad n cap] 27)).setCell ⟨Y, 0, none⟩ (.int .i64 ((a : Int) + 1))).setCell ⟨Y, 1, none⟩ (.int .i64 ((b : Int) + 1))) = X at *
        clear t0 t1 g0 g1 z2 x0 y0 y1 f0 f1 hm1 hm1' hm2 HCX s0 s1 h0 h1
        go_loopw [39] (fun t wx => ∃ i : Nat, i ≤ n ∧ t = .int .i64 i ∧ (a + szK kid i ≤ 40 ∧ b + npK 1 kid i ≤ 10) ∧ Hid (Tly wx Y (a + szK kid i) (b + npK 1 kid i)) ∧ Hid (Below W0.heap.size W0 wx)) (fun t _ => n - (intOf t).toNat)
        case atStart => exact ⟨0, Nat.zero_le _, rfl, ⟨by show a + 1 ≤ 40; omega, by show b + 1 ≤ 10; omega⟩, HTX.out, HBX.out⟩
        case round =>
          clear HTX HBX
          obtain ⟨i, hi, rfl, hbd, HT, HB⟩ := hrel
          by_cases hlt : i < n
          · have hlI : (i : Int) < (n : Int) := by omega
            obtain ⟨bb, off, HA, k', x', a', n', c', HC, hR⟩ := HK.out i hlt
            obtain ⟨q1, q2, q3⟩ := HC _ HB.out
            have HR : Hid (TRep 0 W0 (kid i) (.agg #[.int .i64 k', .int .i64 x', .slice a' n' c'])) := hR
            subst HA
            have HB2 : Hid (Below W0.heap.size W0 (wr.alloc (.cells #[.int .i64 k', .int .i64 x', .slice a' n' c'] 27))) := HBA.out _ _ HB.out
            have HT2 : Hid (Tly (wr.alloc (.cells #[.int .i64 k', .int .i64 x', .slice a' n' c'] 27)) Y (a + szK kid i) (b + npK 1 kid i)) := HT.out.step ((Below.refl _ _).alloc (Nat.le_refl _) _)
            have HSU : Hid (szK kid (i + 1) = szK kid i + sz (kid i) ∧ npK 1 kid (i + 1) = npK 1 kid i + np (kid i)) := ⟨szK_succ kid i, npK_succ 1 kid i⟩
            have HSL : Hid (szK kid (i + 1) ≤ ZT ∧ npK 1 kid (i + 1) ≤ NT) := ⟨HSZ.out (i + 1) (by omega), HNP.out (i + 1) (by omega)⟩
            clear HC hR
            go_wp2_with fail
            refine (HIH.out i _ _ _ _ hbd.1 hbd.2 HR.out HB2.out HT2.out).mono ?_
            rintro e w7 ⟨ok, rfl, hb7, hres⟩
            have HB7 : Hid (Below W0.heap.size W0 w7) := hb7
            clear hb7 HB HR HB2 HT2 HT q1 q2 q3
            rcases hres with ⟨rfl, h1, h2, h3⟩ | ⟨rfl, h1⟩
            · have HT7 : Hid (Tly w7 Y (a + szK kid (i + 1)) (b + npK 1 kid (i + 1))) := by rw [HSU.out.1, HSU.out.2, ← Nat.add_assoc, ← Nat.add_assoc]; exact h3
              have HBD : Hid (a + szK kid (i + 1) ≤ 40 ∧ b + npK 1 kid (i + 1) ≤ 10) := by rw [HSU.out.1, HSU.out.2]; exact ⟨by omega, by omega⟩
              clear h1 h2 h3 hbd
              go_wp2_with fail
              go_roundw
              case rel => exact ⟨i + 1, by omega, by go_num, HBD.out, HT7.out, HB7.out⟩
              case measure => simp [intOf]; omega
            · have HN : Hid (¬ (a + ZT ≤ 40 ∧ b + NT ≤ 10)) := fun q => by
                have e1 := HSU.out
                have e2 := HSL.out
                omega
              clear h1 hbd
              go_wp2_with fail
              go_ret
              exact ⟨_, rfl, HB7.out, .inr ⟨rfl, by rw [HZT.out.1, HZT.out.2]; exact HN.out⟩⟩
          · obtain rfl : i = n := by omega
            have HF : Hid (a + ZT ≤ 40 ∧ b + NT ≤ 10 ∧ Tly wr Y (a + ZT) (b + NT)) := by rw [HEQ.out.1, HEQ.out.2]; exact ⟨hbd.1, hbd.2, HT.out⟩
            clear hbd
            go_wp2_with fail
            go_ret
            exact ⟨_, rfl, HB.out, .inl ⟨rfl, by rw [HZT.out.1, HZT.out.2]; exact HF.out⟩⟩
      · have HN : Hid (¬ (a + ZT ≤ 40 ∧ b + NT ≤ 10)) := fun q => by
          have e1 := HSZ.out 0 (by omega)
          have e2 := HNP.out 0 (by omega)
          have e3 : szK kid 0 = 1 := rfl
          have e4 := HN0.out
          omega
        by_cases hm1 : a + 1 ≤ 40
        · have hm1i : ¬ (40 : Int) < (a : Int) + 1 := by omega
          have hm2 : (10 : Int) < (b : Int) + 1 := by omega
          go_enter Tryd.func63, Tryd.ntmps63
          go_wp2_with fail
          go_ret
          exact ⟨_, rfl, HBX.out, .inr ⟨rfl, by rw [HZT.out.1, HZT.out.2]; exact HN.out⟩⟩
        · have hm1i : (40 : Int) < (a : Int) + 1 := by omega
          go_enter Tryd.func63, Tryd.ntmps63
          go_wp2_with fail
          go_ret
          exact ⟨_, rfl, HBX.out, .inr ⟨rfl, by rw [HZT.out.1, HZT.out.2]; exact HN.out⟩⟩
    · have hkB : (k == 1) = false := by simpa using hk1
      obtain ⟨ZT, NT, HZT⟩ : ∃ ZT NT, Hid (sz (.mk k x n kid) = ZT ∧ np (.mk k x n kid) = NT) := ⟨_, _, rfl, rfl⟩
      rw [HZT.out.1] at HSZ HEQ
      rw [HZT.out.2] at HNP HEQ
      have HTW : Hid (Tly (w.alloc (.cells #[.int .i64 k, .int .i64 x, .slice ad n cap] 27)) Y a b) := hT.step ((Below.refl _ _).alloc (Nat.le_refl _) _)
      have HTX : Hid (Tly ((w.alloc (.cells #[.int .i64 k, .int .i64 x, .slice ad n cap] 27)).setCell ⟨Y, 0, none⟩ (.int .i64 ((a : Int) + 1))) Y (a + 1) (b)) := (HTW.out.set0 (a + 1))
      have HBX : Hid (Below W0.heap.size W0 ((w.alloc (.cells #[.int .i64 k, .int .i64 x, .slice ad n cap] 27)).setCell ⟨Y, 0, none⟩ (.int .i64 ((a : Int) + 1)))) := HBS.out _ _ _ (HBA.out _ _ hB)
      have HN0 : Hid (npK k kid 0 = 0) := if_neg hk1
      have HYW : Hid (Y < w.heap.size) := World.block_lt_of_cell? _ _ hT.1.1
      have hYne : ¬ Y = w.heap.size := by have := HYW.out; omega
      obtain ⟨⟨y0, y1⟩, f0, f1⟩ := HTW.out
      have x0 : ∀ z, ((w.alloc (.cells #[.int .i64 k, .int .i64 x, .slice ad n cap] 27)).setCell ⟨Y, 0, none⟩ z).cell? ⟨w.heap.size, 0, none⟩ = some (.int .i64 k) := fun z => by
        rw [World.cell?_setCell_other _ _ _ _ (fun e => by injection e with e1; exact hYne e1)]; simp
      have HCX : Hid (((w.alloc (.cells #[.int .i64 k, .int .i64 x, .slice ad n cap] 27)).setCell ⟨Y, 0, none⟩ (.int .i64 ((a : Int) + 1))).cell? ⟨w.heap.size, 2, none⟩ = some (.slice ad n cap)) := by
        rw [Hid, World.cell?_setCell_other _ _ _ _ (fun e => by injection e with e1; exact hYne e1)]; simp
      have z2 := HCX.out
      obtain ⟨⟨t0, t1⟩, g0, g1⟩ := HTX.out

      clear hT HTW
      by_cases hm : a + 1 ≤ 40 ∧ b ≤ 10
      · have hm1 : ¬ (40 : Int) < (a : Int) + 1 := by omega
        have hm1' : (a : Int) + 1 ≤ 40 := by omega
        have hm2 : ¬ (10 : Int) < (b : Int) := by omega
        go_enter Tryd.func63, Tryd.ntmps63
        go_wp2_with fail
        generalize ((w.alloc (.cells #[.int .i64 k, .int .i64 x, .slice ad n cap] 27)).setCell ⟨Y, 0, none⟩ (.int .i64 ((a : Int) + 1))) = X at *
        clear t0 t1 g0 g1 z2 x0 y0 y1 f0 f1 hm1 hm1' hm2 HCX
        go_loopw [39] (fun t wx => ∃ i : Nat, i ≤ n ∧ t = .int .i64 i ∧ (a + szK kid i ≤ 40 ∧ b + npK k kid i ≤ 10) ∧ Hid (Tly wx Y (a + szK kid i) (b + npK k kid i)) ∧ Hid (Below W0.heap.size W0 wx)) (fun t _ => n - (intOf t).toNat)
        case atStart => exact ⟨0, Nat.zero_le _, rfl, ⟨by show a + 1 ≤ 40; omega, by show b + npK k kid 0 ≤ 10; rw [HN0.out]; omega⟩, by rw [HN0.out]; exact HTX.out, HBX.out⟩
        case round =>
          clear HTX HBX
          obtain ⟨i, hi, rfl, hbd, HT, HB⟩ := hrel
          by_cases hlt : i < n
          · have hlI : (i : Int) < (n : Int) := by omega
            obtain ⟨bb, off, HA, k', x', a', n', c', HC, hR⟩ := HK.out i hlt
            obtain ⟨q1, q2, q3⟩ := HC _ HB.out
            have HR : Hid (TRep 0 W0 (kid i) (.agg #[.int .i64 k', .int .i64 x', .slice a' n' c'])) := hR
            subst HA
            have HB2 : Hid (Below W0.heap.size W0 (wr.alloc (.cells #[.int .i64 k', .int .i64 x', .slice a' n' c'] 27))) := HBA.out _ _ HB.out
            have HT2 : Hid (Tly (wr.alloc (.cells #[.int .i64 k', .int .i64 x', .slice a' n' c'] 27)) Y (a + szK kid i) (b + npK k kid i)) := HT.out.step ((Below.refl _ _).alloc (Nat.le_refl _) _)
            have HSU : Hid (szK kid (i + 1) = szK kid i + sz (kid i) ∧ npK k kid (i + 1) = npK k kid i + np (kid i)) := ⟨szK_succ kid i, npK_succ k kid i⟩
            have HSL : Hid (szK kid (i + 1) ≤ ZT ∧ npK k kid (i + 1) ≤ NT) := ⟨HSZ.out (i + 1) (by omega), HNP.out (i + 1) (by omega)⟩
            clear HC hR
            go_wp2_with fail
            refine (HIH.out i _ _ _ _ hbd.1 hbd.2 HR.out HB2.out HT2.out).mono ?_
            rintro e w7 ⟨ok, rfl, hb7, hres⟩
            have HB7 : Hid (Below W0.heap.size W0 w7) := hb7
            clear hb7 HB HR HB2 HT2 HT q1 q2 q3
            rcases hres with ⟨rfl, h1, h2, h3⟩ | ⟨rfl, h1⟩
            · have HT7 : Hid (Tly w7 Y (a + szK kid (i + 1)) (b + npK k kid (i + 1))) := by rw [HSU.out.1, HSU.out.2, ← Nat.add_assoc, ← Nat.add_assoc]; exact h3
              have HBD : Hid (a + szK kid (i + 1) ≤ 40 ∧ b + npK k kid (i + 1) ≤ 10) := by rw [HSU.out.1, HSU.out.2]; exact ⟨by omega, by omega⟩
              clear h1 h2 h3 hbd
              go_wp2_with fail
              go_roundw
              case rel => exact ⟨i + 1, by omega, by go_num, HBD.out, HT7.out, HB7.out⟩
              case measure => simp [intOf]; omega
            · have HN : Hid (¬ (a + ZT ≤ 40 ∧ b + NT ≤ 10)) := fun q => by
                have e1 := HSU.out
                have e2 := HSL.out
                omega
              clear h1 hbd
              go_wp2_with fail
              go_ret
              exact ⟨_, rfl, HB7.out, .inr ⟨rfl, by rw [HZT.out.1, HZT.out.2]; exact HN.out⟩⟩
          · obtain rfl : i = n := by omega
            have HF : Hid (a + ZT ≤ 40 ∧ b + NT ≤ 10 ∧ Tly wr Y (a + ZT) (b + NT)) := by rw [HEQ.out.1, HEQ.out.2]; exact ⟨hbd.1, hbd.2, HT.out⟩
            clear hbd
            go_wp2_with fail
            go_ret
            exact ⟨_, rfl, HB.out, .inl ⟨rfl, by rw [HZT.out.1, HZT.out.2]; exact HF.out⟩⟩
      · have HN : Hid (¬ (a + ZT ≤ 40 ∧ b + NT ≤ 10)) := fun q => by
          have e1 := HSZ.out 0 (by omega)
          have e2 := HNP.out 0 (by omega)
          have e3 : szK kid 0 = 1 := rfl
          have e4 := HN0.out
          omega
        by_cases hm1 : a + 1 ≤ 40
        · omega
        · have hm1i : (40 : Int) < (a : Int) + 1 := by omega
          go_enter Tryd.func63, Tryd.ntmps63
          go_wp2_with fail
          go_ret
          exact ⟨_, rfl, HBX.out, .inr ⟨rfl, by rw [HZT.out.1, HZT.out.2]; exact HN.out⟩⟩
end Go.Proofs.YtjhpegjcknaioaaDoor
