/-
  What the reference's termLess and BuildTerm answer of right terms. Conditions: as each theorem says.
-/
import Derived.Test.YtjhpegjcknaioaaDoorRfU
import Derived.Laws.EntriesVeiled
namespace Go.Proofs.YtjhpegjcknaioaaDoor
set_option maxRecDepth 100000
open Go.RowKit

def xi (q i : Nat) : Int := if q < i then (q : Int) else -1
theorem xi_same (q : Nat) : xi q (q + 1) = (q : Int) := if_pos (by omega)
theorem xi_other {q i : Nat} (h : i ≠ q) : xi q (i + 1) = xi q i := by
  unfold xi
  by_cases k : q < i
  · rw [if_pos (by omega), if_pos k]
  · rw [if_neg (by omega), if_neg k]
theorem xi_end {q n : Nat} (h : q < n) : xi q n = (q : Int) := if_pos h
theorem nthI_iff {l : List Int} {x : Int} : (∃ i, i < l.length ∧ nthI l i = x) ↔ x ∈ l := by
  rw [List.mem_iff_getElem]
  constructor
  · rintro ⟨i, hi, e⟩
    refine ⟨i, hi, ?_⟩
    unfold nthI at e
    rw [List.getD_eq_getElem?_getD, List.getElem?_eq_getElem hi] at e
    exact e
  · rintro ⟨i, hi, e⟩
    exact ⟨i, hi, by unfold nthI; rw [List.getD_eq_getElem?_getD, List.getElem?_eq_getElem hi]; exact e⟩
set_option maxHeartbeats 4000000 in
theorem termLess_any (L : Nat → Nat → Bool) (hir : ∀ p, p < 10 → L p p = false) (T : TT) : ∀ (pa pb : Nat) (v : Value) (w : World), Ok L T → sz T ≤ 40 → (st T).testBit pa = true → (st T).testBit pb = true → TRep 0 w T v → Calls Tryd.prog 38 #[v, .int .i64 (pa : Nat), .int .i64 (pb : Nat)] w fun e w' => e = .returned (.bool (L pa pb)) ∧ Below w.heap.size w w' := by
  induction T using TT.ind with
  | leaf => exact fun _ _ _ _ h => h.elim
  | mk k x n kid ih =>
    intro pa pb v w hok h40 hpa hpb hf
    obtain ⟨a, cap, rfl, hn, hk⟩ := hf
    have hn' : n ≤ 9223372036854775807 := by unfold maxLen at hn; omega
    have HIH : Hid (∀ i (pa pb : Nat) (v : Value) (w : World), Ok L (kid i) → sz (kid i) ≤ 40 → (st (kid i)).testBit pa = true → (st (kid i)).testBit pb = true → TRep 0 w (kid i) v → Calls Tryd.prog 38 #[v, .int .i64 (pa : Nat), .int .i64 (pb : Nat)] w fun e w' => e = .returned (.bool (L pa pb)) ∧ Below w.heap.size w w') := ih
    obtain ⟨W, hW⟩ : ∃ W, W = w.alloc (.cells #[.int .i64 k, .int .i64 x, .slice a n cap] 27) := ⟨_, rfl⟩
    have HB1 : Hid (Below w.heap.size w W) := by rw [hW]; exact (Below.refl _ _).alloc (Nat.le_refl _) _
    have HX : Hid (∀ w', Below W.heap.size W w' → (w'.cell? ⟨w.heap.size, 0, none⟩ = some (.int .i64 k) ∧ w'.cell? ⟨w.heap.size, 1, none⟩ = some (.int .i64 x)) ∧ w'.cell? ⟨w.heap.size, 2, none⟩ = some (.slice a n cap)) := fun w' h =>
      ⟨⟨cell_stp h (by rw [hW]; simp), cell_stp h (by rw [hW]; simp)⟩, cell_stp h (by rw [hW]; simp)⟩
    have HWE : Hid (W = w.alloc (.cells #[.int .i64 k, .int .i64 x, .slice a n cap] 27)) := hW
    have HK : Hid (∀ i, i < n → ∃ b off, a = some ⟨b, off, none⟩ ∧ ∃ (k' x' : Int) (a' : Option Addr) (n' c' : Nat), ∀ w', Below W.heap.size W w' →
        (w'.cell? ⟨b, off + i * 3, none⟩ = some (.int .i64 k') ∧ w'.cell? ⟨b, off + i * 3 + 1, none⟩ = some (.int .i64 x') ∧ w'.cell? ⟨b, off + i * 3 + 2, none⟩ = some (.slice a' n' c')) ∧ TRep 0 w' (kid i) (.agg #[.int .i64 k', .int .i64 x', .slice a' n' c'])) := fun i hi => by
      obtain ⟨b, off, e, _, k', x', a', n', c', ⟨h1, h2, h3⟩, h4⟩ := hk i hi
      exact ⟨b, off, e, k', x', a', n', c', fun w' hb0 => by
        have hb := Below.then HB1.out hb0
        exact ⟨⟨cell_stp hb h1, cell_stp hb h2, cell_stp hb h3⟩, TRep.step hb _ _ h4⟩⟩
    have x0 : W.cell? ⟨w.heap.size, 0, none⟩ = some (.int .i64 k) := (HX.out W (Below.refl _ _)).1.1
    have x1 : W.cell? ⟨w.heap.size, 1, none⟩ = some (.int .i64 x) := (HX.out W (Below.refl _ _)).1.2
    have x2 : W.cell? ⟨w.heap.size, 2, none⟩ = some (.slice a n cap) := (HX.out W (Below.refl _ _)).2
    clear hk ih hn hW
    by_cases hk1 : k = 1
    · subst hk1
      obtain ⟨rfl, hx0, hx10, hab⟩ : n = 0 ∧ 0 ≤ x ∧ x < 10 ∧ (pa = pb ∧ pa < 10) := by
        rcases hok with ⟨_, h2, h3, h4⟩ | ⟨h1, _⟩
        · rw [st_eq, if_pos rfl, pw_bit, decide_eq_true_eq] at hpa hpb
          exact ⟨h2, h3, h4, by omega, by omega⟩
        · omega
      have HF : Hid (L pa pb = false) := by rw [Hid, ← hab.1]; exact hir _ hab.2
      rw [HF.out]
      clear hab hok hpa hpb h40
      go_enter Tryd.func38, Tryd.ntmps38
      go_wp2_with fail
      rw [← HWE.out]
      clear HWE x0 x1 x2
      go_loopw [7, 8, 9] (fun p q i wx => i = .int .i64 0 ∧ p = .int .i64 (-1) ∧ q = .int .i64 (-1) ∧ Hid (Below W.heap.size W wx)) (fun _ _ _ _ => 0)
      case atStart => exact ⟨rfl, rfl, rfl, Below.refl _ _⟩
      case round =>
        obtain ⟨rfl, rfl, rfl, HW⟩ := hrel
        have y2 := (HX.out _ HW.out).2
        go_wp2_with fail
        go_ret
        exact ⟨rfl, Below.then HB1.out HW.out⟩
    · obtain ⟨hk23, hn2, hx00, h4⟩ := hok.kids hk1
      rw [st_eq, if_neg hk1, stK_bit] at hpa hpb
      obtain ⟨qa, hqa, hba⟩ := hpa
      obtain ⟨qb, hqb, hbb⟩ := hpb
      have hK4 : ∀ i, i < n → sz (kid i) ≤ 40 := fun i hi => by
        have h1 := szK_mono kid (i + 1) (n - (i + 1))
        rw [show i + 1 + (n - (i + 1)) = n by omega] at h1
        have h2 := szK_succ kid i
        have h5 : szK kid n ≤ 40 := h40
        omega
      have HKG : Hid (∀ i, i < n → Ok L (kid i) ∧ sz (kid i) ≤ 40) := fun i hi => ⟨h4 i hi, hK4 i hi⟩
      have Hpa : Hid (∀ i, i < n → ((∃ j, j < (pl (kid i)).length ∧ nthI (pl (kid i)) j = (pa : Int)) ↔ i = qa)) := fun i hi => by
        rw [nthI_iff, (h4 i hi).mem]
        constructor
        · rintro ⟨_, h⟩
          refine Classical.byContradiction fun hne => hok.apart hk1 (a := pa) hne hi hqa ?_ hba
          simpa using h
        · rintro rfl; exact ⟨by omega, by simpa using hba⟩
      have Hpb : Hid (∀ i, i < n → ((∃ j, j < (pl (kid i)).length ∧ nthI (pl (kid i)) j = (pb : Int)) ↔ i = qb)) := fun i hi => by
        rw [nthI_iff, (h4 i hi).mem]
        constructor
        · rintro ⟨_, h⟩
          refine Classical.byContradiction fun hne => hok.apart hk1 (a := pb) hne hi hqb ?_ hbb
          simpa using h
        · rintro rfl; exact ⟨by omega, by simpa using hbb⟩
      have HBA : Hid ((st (kid qa)).testBit pa = true) := hba
      have HBB : Hid ((st (kid qb)).testBit pb = true) := hbb
      have HRL : Hid (qa ≠ qb → L pa pb = ((k == 3) && decide (qa < qb))) := fun hne => by
        rcases hok with ⟨h, _⟩ | ⟨_, _, _, _, h5⟩
        · exact absurd h hk1
        · rcases Nat.lt_or_ge qa qb with q | q
          · obtain ⟨_, e2, e3, _⟩ := h5 qa qb q hqb pa pb hba hbb
            rcases hk23 with e | e
            · rw [e2 e]; subst e; rfl
            · rw [e3 e]; subst e; simp [q]
          · obtain ⟨_, _, _, e4⟩ := h5 qb qa (by omega) hqa pb pa hbb hba
            rw [e4]; simp; intro _; omega
      clear hx00 hk23 hn2 h4 hK4 hba hbb hok h40
      go_enter Tryd.func38, Tryd.ntmps38
      go_wp2_with fail
      rw [← HWE.out]
      clear HWE x0 x1 x2
      go_loopw [7, 8, 9] (fun p q i wx => ∃ t : Nat, t ≤ n ∧ i = .int .i64 (t : Nat) ∧ p = .int .i64 (xi qa t) ∧ q = .int .i64 (xi qb t) ∧ Hid (Below W.heap.size W wx)) (fun _ _ i _ => n - (intOf i).toNat)
      case atStart => exact ⟨0, Nat.zero_le _, rfl, rfl, rfl, Below.refl _ _⟩
      case round =>
        obtain ⟨t, ht, rfl, rfl, rfl, HW⟩ := hrel
        have y2 := (HX.out _ HW.out).2
        by_cases htn : t < n
        · have htI : (t : Int) < (n : Int) := by omega
          obtain ⟨b, off, HA, k', x', a', n', c', HC⟩ := HK.out t htn
          obtain ⟨⟨q1, q2, q3⟩, _⟩ := HC _ HW.out
          subst HA
          have HR : Hid (TRep 0 wr (kid t) (.agg #[.int .i64 k', .int .i64 x', .slice a' n' c'])) := (HC _ HW.out).2
          obtain ⟨hg, hz⟩ := HKG.out t htn
          have HG2 : Hid (Gd (kid t) ∧ sz (kid t) ≤ 40) := ⟨hg.gd, hz⟩
          have HPO : Hid (0 < (pl (kid t)).length) := hg.gd.pos
          have HML : Hid ((pl (kid t)).length ≤ maxLen) := by have := pl_len (kid t); show _ ≤ _; unfold maxLen; omega
          clear HC hg hz
          go_wp2_with fail
          refine (termPoints_any (kid t) _ _ HG2.out HR.out).mono ?_
          rintro e w7 ⟨⟨v7, rfl, hown7⟩, hb7⟩
          have HW7 : Hid (Below W.heap.size W w7) := Below.then HW.out hb7
          obtain ⟨a7, c7, rfl, hr7, _⟩ := owns_ints hown7 HPO.out
          have HRK : Hid (Row w7 a7 (pl (kid t)).length (nthI (pl (kid t)))) := hr7
          clear hown7 hb7 hr7 HW HR q1 q2 q3 y2 HG2 HPO
          go_wp2_with fail
          refine (placeI_any _ _ _ _ pa _ HML.out HRK.out).mono ?_
          rintro e w8 ⟨⟨r, rfl, hr⟩, rfl⟩
          by_cases hqa : t = qa
          · have hr0 : (0 : Int) ≤ r := by
              rcases hr with ⟨_, h⟩ | ⟨h, _⟩
              · obtain ⟨i, hi, e⟩ := (Hpa.out t htn).2 hqa
                exact absurd e (h i hi)
              · exact h
            have HXqa : Hid (xi qa (t + 1) = (t : Int)) := by rw [Hid, hqa]; exact xi_same _
            clear hr hqa
            go_wp2_with fail
            refine (placeI_any _ _ _ _ pb _ HML.out HRK.out).mono ?_
            rintro e w8 ⟨⟨r, rfl, hr⟩, rfl⟩
            by_cases hqb : t = qb
            · have hr0 : (0 : Int) ≤ r := by
                rcases hr with ⟨_, h⟩ | ⟨h, _⟩
                · obtain ⟨i, hi, e⟩ := (Hpb.out t htn).2 hqb
                  exact absurd e (h i hi)
                · exact h
              have HXqb : Hid (xi qb (t + 1) = (t : Int)) := by rw [Hid, hqb]; exact xi_same _
              clear hr hqb
              go_wp2_with fail
              go_roundw
              case rel => exact ⟨t + 1, by omega, by go_num, by rw [HXqa.out], by rw [HXqb.out], HW7.out⟩
              case measure => simp [intOf]; omega
            · have hr0 : ¬ (0 : Int) ≤ r := by
                rcases hr with ⟨h, _⟩ | ⟨_, h⟩
                · omega
                · exact absurd ((Hpb.out t htn).1 h) hqb
              have HXqb : Hid (xi qb (t + 1) = xi qb t) := xi_other hqb
              clear hr hqb
              go_wp2_with fail
              go_roundw
              case rel => exact ⟨t + 1, by omega, by go_num, by rw [HXqa.out], by rw [HXqb.out], HW7.out⟩
              case measure => simp [intOf]; omega
          · have hr0 : ¬ (0 : Int) ≤ r := by
              rcases hr with ⟨h, _⟩ | ⟨_, h⟩
              · omega
              · exact absurd ((Hpa.out t htn).1 h) hqa
            have HXqa : Hid (xi qa (t + 1) = xi qa t) := xi_other hqa
            clear hr hqa
            go_wp2_with fail
            refine (placeI_any _ _ _ _ pb _ HML.out HRK.out).mono ?_
            rintro e w8 ⟨⟨r, rfl, hr⟩, rfl⟩
            by_cases hqb : t = qb
            · have hr0 : (0 : Int) ≤ r := by
                rcases hr with ⟨_, h⟩ | ⟨h, _⟩
                · obtain ⟨i, hi, e⟩ := (Hpb.out t htn).2 hqb
                  exact absurd e (h i hi)
                · exact h
              have HXqb : Hid (xi qb (t + 1) = (t : Int)) := by rw [Hid, hqb]; exact xi_same _
              clear hr hqb
              go_wp2_with fail
              go_roundw
              case rel => exact ⟨t + 1, by omega, by go_num, by rw [HXqa.out], by rw [HXqb.out], HW7.out⟩
              case measure => simp [intOf]; omega
            · have hr0 : ¬ (0 : Int) ≤ r := by
                rcases hr with ⟨h, _⟩ | ⟨_, h⟩
                · omega
                · exact absurd ((Hpb.out t htn).1 h) hqb
              have HXqb : Hid (xi qb (t + 1) = xi qb t) := xi_other hqb
              clear hr hqb
              go_wp2_with fail
              go_roundw
              case rel => exact ⟨t + 1, by omega, by go_num, by rw [HXqa.out], by rw [HXqb.out], HW7.out⟩
              case measure => simp [intOf]; omega
        · obtain rfl : t = n := by omega
          rw [xi_end hqa, xi_end hqb]
          by_cases hqq : qa = qb
          · subst hqq
            have hlI : (qa : Int) < (t : Int) := by omega
            obtain ⟨b, off, HA, k', x', a', n', c', HC⟩ := HK.out qa hqa
            obtain ⟨⟨q1, q2, q3⟩, _⟩ := HC _ HW.out
            subst HA
            have HR : Hid (TRep 0 wr (kid qa) (.agg #[.int .i64 k', .int .i64 x', .slice a' n' c'])) := (HC _ HW.out).2
            obtain ⟨hg, hz⟩ := HKG.out qa hqa
            have HG : Hid (Ok L (kid qa)) := hg
            clear HC hg
            go_wp2_with fail
            refine (HIH.out qa pa pb _ _ HG.out hz HBA.out HBB.out HR.out).mono ?_
            rintro e w7 ⟨rfl, hb7⟩
            have HB7 : Hid (Below W.heap.size W w7) := Below.then HW.out hb7
            clear hb7
            go_wp2_with fail
            go_ret
            exact ⟨rfl, Below.then HB1.out HB7.out⟩
          · have hqB : ((qa : Int) == (qb : Int)) = false := by simp; omega
            have y0 := (HX.out _ HW.out).1.1
            have HE : Hid (L pa pb = ((k == 3) && decide (qa < qb))) := HRL.out hqq
            clear HRL
            by_cases hk3 : k = 3
            · subst hk3
              go_wp2_with fail
              go_ret
              exact ⟨by rw [HE.out]; simp, Below.then HB1.out HW.out⟩
            · have hkB : (k == 3) = false := by simpa using hk3
              go_wp2_with fail
              go_ret
              exact ⟨by rw [HE.out]; simp [hkB], Below.then HB1.out HW.out⟩
theorem ent_bt1 : Ent 37 := fun _ _ => rfl
theorem bt1_any (L : Nat → Nat → Bool) (hir : ∀ p, p < 10 → L p p = false) (T : TT) (B pa pb : Nat) (k x : Int) (a : Option Addr) (l c : Nat) (w : World) (hok : Ok L T) (h40 : sz T ≤ 40) (ha : (st T).testBit pa = true) (hb : (st T).testBit pb = true) (hT : TRep 0 w T (.agg #[.int .i64 k, .int .i64 x, .slice a l c]))
    (h0 : w.cell? ⟨B, 0, none⟩ = some (.int .i64 k)) (h1 : w.cell? ⟨B, 1, none⟩ = some (.int .i64 x)) (h2 : w.cell? ⟨B, 2, none⟩ = some (.slice a l c)) :
    Calls Tryd.prog 37 #[.int .i64 (pa : Nat), .int .i64 (pb : Nat), .pointer (some ⟨B, 0, none⟩)] w fun e w' => e = .returned (.bool (L pa pb)) ∧ Below w.heap.size w w' := by
  have HCL : Hid (Calls Tryd.prog 38 #[.agg #[.int .i64 k, .int .i64 x, .slice a l c], .int .i64 (pa : Nat), .int .i64 (pb : Nat)] w fun e w' => e = .returned (.bool (L pa pb)) ∧ Below w.heap.size w w') := termLess_any L hir T pa pb _ w hok h40 ha hb hT
  clear hok ha hb hT
  go_enter Tryd.func37, Tryd.ntmps37
  go_wp2_with fail
  refine HCL.out.mono ?_
  rintro e w1 ⟨rfl, hb1⟩
  have HB : Hid (Below w.heap.size w w1) := hb1
  clear hb1
  go_wp2_with fail
  go_ret
  exact ⟨rfl, HB.out⟩
set_option maxHeartbeats 2000000 in
theorem buildTerm_ok (L : Nat → Nat → Bool) (hir : ∀ p, p < 10 → L p p = false) (n : Nat) (T : TT) (v : Value) (w : World) (hT : TRep 0 w T v) (hok : Ok L T) (hn : n ≤ 10) (hs : st T = pw n - 1) :
    Calls Tryd.prog 16 #[v] w fun e w' => (∃ ar cp, e = .returned (.agg #[.int .i64 (n : Int), .slice ar n cp]) ∧ Row w' ar n (fun y => (setBy (fun x => L x y) n : Nat))) ∧ Below w.heap.size w w' := by
  obtain ⟨hgt, hnp⟩ := hok.good hn hs
  have HLN : Hid ((pl T).length = n) := by rw [Hid, pl_np hgt.2.1]; exact hnp
  have HGD : Hid (Gd T ∧ sz T ≤ 40) := ⟨hgt.2.1, hgt.1.1⟩
  have HPO : Hid (0 < (pl T).length) := hgt.2.1.pos
  obtain ⟨k, x, a, m, c, rfl⟩ : ∃ k x a n c, v = .agg #[.int .i64 k, .int .i64 x, .slice a n c] := by
    induction T using TT.ind with
    | leaf => exact hT.elim
    | mk k x n kid _ => obtain ⟨a, cap, rfl, _⟩ := hT; exact ⟨k, x, a, n, cap, rfl⟩
  obtain ⟨W, HWE⟩ : ∃ W, Hid (W = (w.alloc (.cells #[.int .i64 k, .int .i64 x, .slice a m c] 27)).alloc (.cells #[.int .i64 0, .slice none 0 0] 24)) := ⟨_, rfl⟩
  have HB1 : Hid (Below w.heap.size w W) := by rw [HWE.out]; exact ((Below.refl _ _).alloc (Nat.le_refl _) _).alloc (by simp) _
  have HX : Hid (∀ w', Below W.heap.size W w' → (w'.cell? ⟨w.heap.size, 0, none⟩ = some (.int .i64 k) ∧ w'.cell? ⟨w.heap.size, 1, none⟩ = some (.int .i64 x)) ∧ w'.cell? ⟨w.heap.size, 2, none⟩ = some (.slice a m c)) := fun w' h =>
    ⟨⟨cell_stp h (by rw [HWE.out]; simp), cell_stp h (by rw [HWE.out]; simp)⟩, cell_stp h (by rw [HWE.out]; simp)⟩
  have HZ : Hid (∀ w', Below W.heap.size W w' → ZBox w' (w.heap.size + 1)) := fun w' h => by
    refine ZBox.step ?_ h
    rw [HWE.out]
    have := ZBox.new (w.alloc (.cells #[.int .i64 k, .int .i64 x, .slice a m c] 27))
    simpa using this
  have HTW : Hid (TRep 0 W T (.agg #[.int .i64 k, .int .i64 x, .slice a m c])) := TRep.step HB1.out _ _ hT
  have HSW : Hid (W.heap.size = w.heap.size + 1 + 1) := by rw [Hid, HWE.out]; simp
  have HOK : Hid (Ok L T) := hok
  have HBT : Hid (∀ p, p < n → (st T).testBit p = true) := fun p hp => by rw [hs, full_bit]; simpa using hp
  clear hT hok hs hgt hnp
  go_enter Tryd.func16, Tryd.ntmps16
  go_wp2_with fail
  rw [← HWE.out]
  refine (termPoints_any T _ _ HGD.out HTW.out).mono ?_
  rintro e w3 ⟨⟨v3, rfl, hown3⟩, hb3⟩
  have HB3 : Hid (Below W.heap.size W w3) := hb3
  obtain ⟨a3, c3, rfl, _, _⟩ := owns_ints hown3 HPO.out
  rw [HLN.out]
  clear hown3 hb3
  have HCL : Hid (∀ (x y : Nat) (wx : World), x < n → y < n → Below w3.heap.size w3 wx → Calls Tryd.prog 37 (#[.int .i64 (x : Nat), .int .i64 (y : Nat)] ++ #[.pointer (some ⟨w.heap.size, 0, none⟩)]) wx fun e w' => e = .returned (.bool (L x y)) ∧ Below wx.heap.size wx w') := fun p q wx hp hq hbx => by
    have hbw := Below.then HB3.out hbx
    obtain ⟨⟨z0, z1⟩, z2⟩ := HX.out _ hbw
    exact bt1_any L hir T w.heap.size p q k x a m c wx HOK.out HGD.out.2 (HBT.out p hp) (HBT.out q hq) (TRep.step hbw _ _ HTW.out) z0 z1 z2
  go_wp2_with fail
  refine (orderOf_clo n 37 #[.pointer (some ⟨w.heap.size, 0, none⟩)] L _ hn ent_bt1 HCL.out).mono ?_
  rintro e w4 ⟨⟨ar, cp, rfl, hrow, hfr⟩, hb4⟩
  have HB4 : Hid (Below W.heap.size W w4) := Below.then HB3.out hb4
  obtain ⟨r0, r1, r2, r3⟩ := HZ.out _ HB4.out
  have HRW : Hid (Row w4 ar n (fun y => (setBy (fun x => L x y) n : Nat))) := hrow
  have HFR : Hid (Fresh (w.heap.size + 1 + 1) ar n) := hfr.mono (by have := HB3.out.size; rw [HSW.out] at this; exact this)
  clear hrow hfr hb4
  go_wp2_with fail
  exact bodyPost_ret (v := .agg #[.int .i64 (n : Int), .slice ar n cp]) (by simp [results, Tryd.results16, go_sem, r0, r1]) rfl ⟨⟨_, _, rfl, row_set2 HRW.out HFR.out⟩, set2B (Below.then HB1.out HB4.out) (by omega)⟩
end Go.Proofs.YtjhpegjcknaioaaDoor
