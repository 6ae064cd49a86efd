/-
  What series.lay and series.Build answer. Conditions: a right term; the table of the least bits.
-/
import Derived.Test.YtjhpegjcknaioaaDoorTlM
namespace Go.Proofs.YtjhpegjcknaioaaDoor
set_option maxRecDepth 100000
open Go.RowKit

/-- All that is there stays, but for one block. -/
def But (b : Nat) (w w' : World) : Prop := w.heap.size ≤ w'.heap.size ∧ ∀ (p : Addr) (v : Value), w.cell? p = some v → p.block ≠ b → w'.cell? p = some v
theorem But.refl (b : Nat) (w : World) : But b w w := ⟨Nat.le_refl _, fun _ _ h _ => h⟩
theorem But.trans {b : Nat} {w w' w'' : World} (h : But b w w') (k : But b w' w'') : But b w w'' := ⟨Nat.le_trans h.1 k.1, fun p v q e => k.2 p v (h.2 p v q e) e⟩
theorem But.of {b : Nat} {w w' : World} (h : Below w.heap.size w w') : But b w w' := ⟨h.size, fun _ _ q _ => cellS h q⟩
theorem But.set (b : Nat) (w : World) (u : Nat) (z : Value) : But b w (w.setCell ⟨b, u, none⟩ z) := ⟨by simp, fun p v q e => by
  rw [World.cell?_setCell_other _ _ _ _ (fun k => e (by rw [← k]))]; exact q⟩
/-- The first members of a list have got something. -/
def rowM (f : Nat → Nat) (l : List Nat) (A j p : Nat) : Nat := if p ∈ l.take j then f p ||| A else f p
theorem rowM_zero (f : Nat → Nat) (l : List Nat) (A : Nat) : rowM f l A 0 = f := by funext p; simp [rowM]
theorem rowM_succ {f : Nat → Nat} {l : List Nat} {A j : Nat} (hj : j < l.length) (hd : l.Nodup) : rowM f l A (j + 1) = upd (rowM f l A j) (nth l j) (rowM f l A j (nth l j) ||| A) := by
  have e : nth l j = l[j] := by unfold nth; rw [List.getD_eq_getElem?_getD, List.getElem?_eq_getElem hj]; rfl
  have hn : nth l j ∉ l.take j := fun k => by
    rw [e, List.mem_take_iff_getElem] at k
    obtain ⟨i, hi, k⟩ := k
    exact List.pairwise_iff_getElem.1 hd i j (by omega) hj (by omega) k
  funext p
  unfold rowM upd
  rw [List.take_succ_eq_append_getElem hj, ← e]
  by_cases h : p = nth l j
  · subst h
    rw [if_pos (by simp), if_pos rfl, if_neg hn]
  · rw [if_neg h]
    simp [h]
theorem rowM_all (f : Nat → Nat) (l : List Nat) (A : Nat) : rowM f l A l.length = fun p => if p ∈ l then f p ||| A else f p := by funext p; simp [rowM]
theorem pts_nodup (S : Nat) : ∀ k, (pts S k).Nodup
  | 0 => List.nodup_nil
  | k + 1 => by
    have ih := pts_nodup S k
    cases e : S.testBit k
    · rw [pts_no e]; exact ih
    · rw [pts_yes e, List.nodup_append]
      refine ⟨ih, by simp, fun a ha b hb => ?_⟩
      have := pts_lt S k a ha
      simp at hb; omega
set_option maxHeartbeats 4000000 in
theorem lay_any (L : Nat → Nat → Bool) (b m : Nat) (W0 : World) (hb0 : W0.heap.size ≤ b) (hm : m ≤ 10) (hT0 : Tab W0) (hir : ∀ p, p < m → L p p = false) (T : TT) : ∀ (v : Value) (w : World) (f : Nat → Nat), Ok L T → st T < pw m → TRep 0 W0 T v → Below W0.heap.size W0 w → (Own w b m f ∧ b < w.heap.size) → (∀ p, p < m → f p < 1024) →
    Calls Tryd.prog 44 #[v, .slice (some ⟨b, 0, none⟩) m m] w fun e w' => e = .returned (.int .i64 (st T : Nat)) ∧ Below W0.heap.size W0 w' ∧ Own w' b m (fun p => f p ||| dnP L (st T) p) ∧ But b w w' := by
  induction T using TT.ind with
  | leaf => exact fun _ _ _ h => h.elim
  | mk k x n kid ih =>
    intro v w f hok hst hf hB hO hfl
    obtain ⟨a, cap, rfl, hn, hk⟩ := hf
    have hn' : n ≤ 9223372036854775807 := by unfold maxLen at hn; omega
    have hpl := pw_le m hm
    have HIH : Hid (∀ i (v : Value) (w : World) (f : Nat → Nat), Ok L (kid i) → st (kid i) < pw m → TRep 0 W0 (kid i) v → Below W0.heap.size W0 w → (Own w b m f ∧ b < w.heap.size) → (∀ p, p < m → f p < 1024) →
      Calls Tryd.prog 44 #[v, .slice (some ⟨b, 0, none⟩) m m] w fun e w' => e = .returned (.int .i64 (st (kid i) : Nat)) ∧ Below W0.heap.size W0 w' ∧ Own w' b m (fun p => f p ||| dnP L (st (kid i)) p) ∧ But b w w') := ih
    have HK : Hid (∀ i, i < n → ∃ b off, a = some ⟨b, off, none⟩ ∧ ∃ (k' x' : Int) (a' : Option Addr) (n' c' : Nat), (∀ w', Below W0.heap.size W0 w' →
        (w'.cell? ⟨b, off + i * 3, none⟩ = some (.int .i64 k') ∧ w'.cell? ⟨b, off + i * 3 + 1, none⟩ = some (.int .i64 x') ∧ w'.cell? ⟨b, off + i * 3 + 2, none⟩ = some (.slice a' n' c'))) ∧ TRep 0 W0 (kid i) (.agg #[.int .i64 k', .int .i64 x', .slice a' n' c'])) := fun i hi => by
      obtain ⟨b, off, e, _, k', x', a', n', c', ⟨h1, h2, h3⟩, h4⟩ := hk i hi
      exact ⟨b, off, e, k', x', a', n', c', fun w' hb => ⟨cell_stp hb h1, cell_stp hb h2, cell_stp hb h3⟩, h4⟩
    have HOK : Hid (Ok L (.mk k x n kid)) := hok
    have HST : Hid (st (.mk k x n kid) < pw m) := hst
    have HF : Hid (∀ p, p < m → f p < 1024) := hfl
    obtain ⟨W, HWE⟩ : ∃ W, Hid (W = w.alloc (.cells #[.int .i64 k, .int .i64 x, .slice a n cap] 27)) := ⟨_, rfl⟩
    have HBW : Hid (Below w.heap.size w W) := by rw [HWE.out]; exact (Below.refl _ _).alloc (Nat.le_refl _) _
    have HB1 : Hid (Below W0.heap.size W0 W) := by rw [HWE.out]; exact hB.alloc hB.size _
    have HO1 : Hid (Own W b m f) := hO.1.step HBW.out
    have HWb : Hid (b < w.heap.size) := hO.2
    have HX : Hid (∀ w', But b W w' → (w'.cell? ⟨w.heap.size, 0, none⟩ = some (.int .i64 k) ∧ w'.cell? ⟨w.heap.size, 1, none⟩ = some (.int .i64 x)) ∧ w'.cell? ⟨w.heap.size, 2, none⟩ = some (.slice a n cap)) := fun w' h => by
      have hne : ∀ o, ((⟨w.heap.size, o, none⟩ : Addr)).block ≠ b := fun o => by have := HWb.out; show w.heap.size ≠ b; omega
      exact ⟨⟨h.2 _ _ (by rw [HWE.out]; simp) (hne _), h.2 _ _ (by rw [HWE.out]; simp) (hne _)⟩, h.2 _ _ (by rw [HWE.out]; simp) (hne _)⟩
    obtain ⟨⟨x0, x1⟩, x2⟩ := HX.out W (But.refl _ _)
    clear hk ih hn hok hst hB hO hfl
    by_cases hk1 : k = 1
    · subst hk1
      have HE : Hid (st (.mk 1 x n kid) = pw x.toNat) := by rw [Hid, st_eq, if_pos rfl]
      have hx : 0 ≤ x ∧ x < 10 := by
        rcases HOK.out with ⟨_, _, h⟩ | ⟨h, _⟩
        · exact h
        · omega
      obtain ⟨q, rfl⟩ : ∃ q : Nat, x = (q : Int) := ⟨x.toNat, by omega⟩
      have hq : q < 10 := by omega
      have hwq := pwW hq
      have HE2 : Hid (st (.mk 1 (q : Int) n kid) = pw q) := by rw [Hid, HE.out]; simp
      have HD : Hid (∀ p, f p ||| dnP L (pw q) p = f p) := fun p => by
        have e : dnP L (pw q) p = 0 := by
          apply Nat.eq_of_testBit_eq
          intro a
          have hl : pw q < 1024 := Nat.pow_lt_pow_right (by decide) hq
          rw [Nat.zero_testBit]
          cases e : (dnP L (pw q) p).testBit a
          · rfl
          · have := (dnP_bit hl p a).1 e
            exfalso
            rw [pw_bit, pw_bit, decide_eq_true_eq, decide_eq_true_eq] at this
            obtain ⟨e1, e2, e3⟩ := this
            subst e1; subst e2
            have hpm : q < m := bit_of_lt HST.out (by rw [HE2.out, pw_bit]; simp)
            rw [hir q hpm] at e3; cases e3
        rw [e, Nat.or_zero]
      have HO2 : Hid (Own W b m (fun p => f p ||| dnP L (pw q) p)) := HO1.out.congr (fun p _ => (HD.out p).symm)
      have HBT : Hid (But b w W) := But.of HBW.out
      rw [HE2.out]
      go_enter Tryd.func44, Tryd.ntmps44
      go_wp2_with fail
      rw [← HWE.out]
      go_ret
      exact ⟨rfl, HB1.out, HO2.out, HBT.out⟩
    · have hkB : (k == 1) = false := by simpa using hk1
      have HE : Hid (st (.mk k x n kid) = stK kid n) := by rw [Hid, st_eq, if_neg hk1]
      obtain ⟨hk23, hn2, hx0, h4⟩ := HOK.out.kids hk1
      clear hx0 hk23 hn2
      have HKO : Hid (∀ i, i < n → Ok L (kid i) ∧ st (kid i) < pw m) := fun i hi => ⟨h4 i hi, stK_lt hk1 HST.out i hi⟩
      have HSL : Hid (∀ i, i ≤ n → stK kid i < pw m) := fun i hi => sub_lt HST.out fun z hz => by
        rw [HE.out]
        obtain ⟨j, hj, h⟩ := (stK_bit kid z i).1 hz
        exact (stK_bit kid z n).2 ⟨j, by omega, h⟩
      have HLL : Hid (∀ i p, p < m → layK L kid f i p < 1024) := fun i p hp => Nat.or_lt_two_pow (n := 10) (HF.out p hp) (dnP_lt _ _ _)
      have HL0 : Hid (∀ p, f p = layK L kid f 0 p) := fun p => by
        have e : stK kid 0 = 0 := rfl
        unfold layK
        rw [e]; simp [dnP]
      have HLS : Hid (∀ i, i < n → ∀ p, (layK L kid f i p ||| dnP L (st (kid i)) p) ||| (if k = 3 ∧ (st (kid i)).testBit p = true then stK kid i else 0) = layK L kid f (i + 1) p) := fun i hi p => lay_step HOK.out hk1 hi f p
      have HO2 : Hid (Own W b m (layK L kid f 0)) := HO1.out.congr (fun p _ => HL0.out p)
      have HBT : Hid (But b w W) := But.of HBW.out
      have HTA : Hid (∀ w', Below W0.heap.size W0 w' → Tab w') := fun w' h => hT0.step h
      rw [HE.out]
      clear h4 HST HF HL0 HO1
      go_enter Tryd.func44, Tryd.ntmps44
      go_wp2_with fail
      rw [← HWE.out]
      clear x0 x1 x2
      go_loopw [5, 20] (fun s t wx => ∃ i : Nat, i ≤ n ∧ t = .int .i64 i ∧ s = .int .i64 (stK kid i : Nat) ∧ Hid (Own wx b m (layK L kid f i)) ∧ Hid (Below W0.heap.size W0 wx) ∧ Hid (But b W wx)) (fun _ t _ => n - (intOf t).toNat)
      case atStart => exact ⟨0, Nat.zero_le _, rfl, rfl, HO2.out, HB1.out, But.refl _ _⟩
      case round =>
        obtain ⟨i, hi, rfl, rfl, HO, HB, HU⟩ := hrel
        by_cases hlt : i < n
        · have hlI : (i : Int) < (n : Int) := by omega
          obtain ⟨bb, off, HA, k', x', a', n', c', HC, hR⟩ := HK.out i hlt
          obtain ⟨q1, q2, q3⟩ := HC _ HB.out
          have HR : Hid (TRep 0 W0 (kid i) (.agg #[.int .i64 k', .int .i64 x', .slice a' n' c'])) := hR
          subst HA
          have HBA : Hid (Below wr.heap.size wr (wr.alloc (.cells #[.int .i64 k', .int .i64 x', .slice a' n' c'] 27))) := (Below.refl _ _).alloc (Nat.le_refl _) _
          have HB2 : Hid (Below W0.heap.size W0 (wr.alloc (.cells #[.int .i64 k', .int .i64 x', .slice a' n' c'] 27))) := Below.then HB.out HBA.out
          have HO3 : Hid (Own (wr.alloc (.cells #[.int .i64 k', .int .i64 x', .slice a' n' c'] 27)) b m (layK L kid f i) ∧ b < (wr.alloc (.cells #[.int .i64 k', .int .i64 x', .slice a' n' c'] 27)).heap.size) := ⟨HO.out.step HBA.out, by have h1 := HU.out.1; have h2 := HBW.out.size; have h3 := HWb.out; have h4 := HBA.out.size; omega⟩
          have HU2 : Hid (But b W (wr.alloc (.cells #[.int .i64 k', .int .i64 x', .slice a' n' c'] 27))) := HU.out.trans (But.of HBA.out)
          obtain ⟨hko, hks⟩ := HKO.out i hlt
          have hsi := HSL.out i (by omega)
          have hor := i64_or (stK kid i) (st (kid i)) (by omega) (by omega)
          have HSU : Hid (stK kid (i + 1) = stK kid i ||| st (kid i)) := rfl
          have HKo : Hid (Ok L (kid i)) := hko
          clear HC hR hko
          go_wp2_with fail
          refine (HIH.out i _ _ _ HKo.out hks HR.out HB2.out HO3.out (HLL.out i)).mono ?_
          rintro e w7 ⟨rfl, hb7, ho7, hu7⟩
          have HB7 : Hid (Below W0.heap.size W0 w7) := hb7
          have HO7 : Hid (Own w7 b m (fun p => layK L kid f i p ||| dnP L (st (kid i)) p)) := ho7
          have HU7 : Hid (But b W w7) := HU2.out.trans hu7
          have z0 := (HX.out _ HU7.out).1.1
          have HLT : Hid (∀ p, p < m → layK L kid f i p ||| dnP L (st (kid i)) p < 1024) := fun p hp => Nat.or_lt_two_pow (n := 10) (HLL.out i p hp) (dnP_lt _ _ _)
          have HLE : Hid (∀ p, (layK L kid f i p ||| dnP L (st (kid i)) p) ||| (if k = 3 ∧ (st (kid i)).testBit p = true then stK kid i else 0) = layK L kid f (i + 1) p) := HLS.out i hlt
          clear hb7 ho7 hu7 HO HB HU HR HBA HB2 HO3 HU2 q1 q2 q3
          by_cases hk3 : k = 3
          · subst hk3
            have HTM : Hid (Tab w7) := HTA.out _ HB7.out
            have HPM : Hid (∀ p, p ∈ pts (st (kid i)) 10 ↔ (st (kid i)).testBit p = true) := fun p => (pts_mem 10).trans ⟨fun h => h.2, fun h => ⟨bit_of_lt (n := 10) (show st (kid i) < 1024 by omega) h, h⟩⟩
            have HPL : Hid (∀ p, p ∈ pts (st (kid i)) 10 → p < m) := fun p hp => bit_of_lt hks ((HPM.out p).1 hp)
            have HPD : Hid ((pts (st (kid i)) 10).Nodup) := pts_nodup _ _
            have HP10 : Hid ((pts (st (kid i)) 10).length ≤ 10) := pts_len _ 10
            have HRE : Hid (∀ p, (if p ∈ pts (st (kid i)) 10 then (layK L kid f i p ||| dnP L (st (kid i)) p) ||| stK kid i else layK L kid f i p ||| dnP L (st (kid i)) p) = layK L kid f (i + 1) p) := fun p => by
              rw [← HLE.out p]
              by_cases h : p ∈ pts (st (kid i)) 10
              · rw [if_pos h, if_pos ⟨rfl, (HPM.out p).1 h⟩]
              · rw [if_neg h, if_neg (fun k => h ((HPM.out p).2 k.2)), Nat.or_zero]
            clear HLE HPM
            go_wp2_with fail
            refine (members_new (st (kid i)) _ (by omega) HTM.out).mono ?_
            rintro e w8 ⟨⟨v8, rfl, ⟨bl, cl, rfl, hrow⟩, hnew⟩, hb8⟩
            have HBl : Hid (∀ b' off, bl = some ⟨b', off, none⟩ → b' ≠ b) := fun b' off e => by
              subst e
              have h1 := hnew b' rfl
              have h2 := HU7.out.1
              have h3 := HBW.out.size
              have h4 := HWb.out
              omega
            generalize hl : pts (st (kid i)) 10 = l at *
            generalize hrw : (fun p => layK L kid f i p ||| dnP L (st (kid i)) p) = row at *
            have HRE2 : Hid (∀ p, (if p ∈ l then row p ||| stK kid i else row p) = layK L kid f (i + 1) p) := fun p => by rw [← hrw]; exact HRE.out p
            have HRL : Hid (∀ p, p < m → row p < 1024) := fun p hp => by rw [← hrw]; exact HLT.out p hp
            have HM8 : Hid (Row w8 bl l.length (fun j => (nth l j : Nat))) := hrow
            have HO8 : Hid (Own w8 b m row) := HO7.out.step hb8
            have HB8 : Hid (Below W0.heap.size W0 w8) := Below.then HB7.out hb8
            have HU8 : Hid (But b W w8) := HU7.out.trans (But.of hb8)
            have hl10 := HP10.out
            clear hrow hnew hb8 HTM HRE HLT HO7 HB7 HU7 z0 hl hrw
            generalize hA : stK kid i = A at *
            go_wp2_with fail
            go_loopw [33] (fun t wx => ∃ j : Nat, j ≤ l.length ∧ t = .int .i64 j ∧ Hid (Row wx bl l.length (fun j => (nth l j : Nat))) ∧ Hid (Own wx b m (rowM row l A j)) ∧ Hid (Below W0.heap.size W0 wx) ∧ Hid (But b W wx)) (fun t _ => l.length - (intOf t).toNat)
            case atStart => exact ⟨0, Nat.zero_le _, rfl, HM8.out, by rw [rowM_zero]; exact HO8.out, HB8.out, HU8.out⟩
            case round =>
              clear HM8 HO8 HB8 HU8
              obtain ⟨j, hj, rfl, HM, HO, HB, HU⟩ := hrel
              by_cases hjl : j < l.length
              · have hjI : (j : Int) < (l.length : Int) := by omega
                obtain ⟨b2, off2, rfl, c2'⟩ := HM.out j hjl
                have c2 : wr.cell? ⟨b2, off2 + j, none⟩ = some (.int .i64 ((nth l j : Nat) : Int)) := c2'
                clear c2'
                have hqm := HPL.out _ (nth_mem hjl)
                have HSR : Hid (rowM row l A (j + 1) = upd (rowM row l A j) (nth l j) (rowM row l A j (nth l j) ||| A)) := rowM_succ hjl HPD.out
                have hRl : rowM row l A j (nth l j) < 1024 := by
                  unfold rowM
                  split
                  · exact Nat.or_lt_two_pow (n := 10) (HRL.out _ hqm) (show A < 1024 by omega)
                  · exact HRL.out _ hqm
                have hor2 := i64_or (rowM row l A j (nth l j)) A (by omega) (by omega)
                have cv := (HO.out _ hqm).1
                have cf := (HO.out _ hqm).2
                have hqI : ((nth l j : Nat) : Int) < (m : Int) := by omega
                have HO9 : Hid (Own (wr.setCell ⟨b, nth l j, none⟩ (.int .i64 ((rowM row l A j (nth l j) ||| A : Nat) : Int))) b m (rowM row l A (j + 1))) := by rw [HSR.out]; exact HO.out.set _ _ hqm
                have HB9 : Hid (Below W0.heap.size W0 (wr.setCell ⟨b, nth l j, none⟩ (.int .i64 ((rowM row l A j (nth l j) ||| A : Nat) : Int)))) := HB.out.setCell (p := ⟨b, nth l j, none⟩) hb0 _
                have HU9 : Hid (But b W (wr.setCell ⟨b, nth l j, none⟩ (.int .i64 ((rowM row l A j (nth l j) ||| A : Nat) : Int)))) := HU.out.trans (But.set b _ _ _)
                have HM9 : Hid (Row (wr.setCell ⟨b, nth l j, none⟩ (.int .i64 ((rowM row l A j (nth l j) ||| A : Nat) : Int))) (some ⟨b2, off2, none⟩) l.length (fun j => (nth l j : Nat))) := HM.out.setOther HBl.out
                generalize nth l j = q at *
                generalize rowM row l A j q = Q at *
                clear HM HO HB HU
                go_wp2_with fail
                go_roundw
                case rel => exact ⟨j + 1, by omega, by go_num, HM9.out, HO9.out, HB9.out, HU9.out⟩
                case measure => simp [intOf]; omega
              · obtain rfl : j = l.length := by omega
                have HO10 : Hid (Own wr b m (layK L kid f (i + 1))) := HO.out.congr (fun p _ => by rw [rowM_all]; exact HRE2.out p)
                clear HO
                go_wp2_with fail
                go_roundw
                case rel => exact ⟨i + 1, by omega, by go_num, by rw [HSU.out], HO10.out, HB.out, HU.out⟩
                case measure => simp [intOf]; omega
          · have hkB3 : (k == 3) = false := by simpa using hk3
            have HO8 : Hid (Own w7 b m (layK L kid f (i + 1))) := HO7.out.congr (fun p _ => by rw [← HLE.out p, if_neg (fun h => hk3 h.1), Nat.or_zero])
            clear HO7 HLE HLT
            go_wp2_with fail
            go_roundw
            case rel => exact ⟨i + 1, by omega, by go_num, by rw [HSU.out], HO8.out, HB7.out, HU7.out⟩
            case measure => simp [intOf]; omega
        · obtain rfl : i = n := by omega
          have HOF : Hid (Own wr b m (fun p => f p ||| dnP L (stK kid i) p)) := HO.out
          clear HO
          go_wp2_with fail
          go_ret
          exact ⟨rfl, HB.out, HOF.out, HBT.out.trans HU.out⟩
end Go.Proofs.YtjhpegjcknaioaaDoor
