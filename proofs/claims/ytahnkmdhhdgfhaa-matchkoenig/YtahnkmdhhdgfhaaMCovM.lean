/-
  Who is come to by turns: what is left of the left and who is come to on the right are a cover of as many points as pairs go; no cover has fewer. Plain facts: no Go text here. Conditions: at most ten points on either side.
-/
import Derived.Test.YtahnkmdhhdgfhaaMKoenM
namespace Go.Proofs.Ytahnkmdhhdgfhaa
open Go.RowKit

/-- Is i come to? -/
def ctB (G : Nat → Int) (right i : Nat) : Bool := G i == -1 || right.testBit (G i).toNat
/-- Those who were come to, and those of the first k who are now. -/
def mo (G : Nat → Int) (left right k : Nat) : Nat := left ||| setBy (ctB G right) k
theorem mo_zero (G : Nat → Int) (left right : Nat) : mo G left right 0 = left := by simp [mo, setBy]
theorem mo_no {G : Nat → Int} {left right k : Nat} (h : ctB G right k = false) : mo G left right (k + 1) = mo G left right k := by unfold mo; rw [setBy_no h]
theorem mo_yes {G : Nat → Int} {left right k : Nat} (h : ctB G right k = true) : mo G left right (k + 1) = mo G left right k ||| pw k := by
  unfold mo; rw [setBy_yes h, ← or_pw_add (setBy_lt _ k), Nat.or_assoc]
theorem mo_lt {G : Nat → Int} {left right l k : Nat} (hl : left < pw l) (hk : k ≤ l) : mo G left right k < pw l :=
  Nat.or_lt_two_pow hl (Nat.lt_of_lt_of_le (setBy_lt _ k) (Nat.pow_le_pow_right (by decide) hk))
theorem mo_bit (G : Nat → Int) (left right k i : Nat) : (mo G left right k).testBit i = (left.testBit i || (decide (i < k) && ctB G right i)) := by
  unfold mo; rw [Nat.testBit_or, setBy_bit]
theorem orTo_mono {t : Nat → Nat} {s s' : Nat} (h : Sub s s') (k : Nat) : Sub (orTo t s k) (orTo t s' k) := fun x hx => by
  rw [orTo_bit] at hx ⊢
  induction k with
  | zero => cases hx
  | succ k ih =>
    rw [anyTo, Bool.or_eq_true, Bool.and_eq_true] at hx ⊢
    rcases hx with hx | ⟨h1, h2⟩
    · exact .inl (ih hx)
    · exact .inr ⟨h k h1, h2⟩
theorem orTo_ex {t : Nat → Nat} {s x : Nat} : ∀ k, (orTo t s k).testBit x = true → ∃ i, i < k ∧ s.testBit i = true ∧ (t i).testBit x = true
  | 0, h => by simp [orTo] at h
  | k + 1, h => by
    rw [orTo_bit, anyTo, ← orTo_bit, Bool.or_eq_true, Bool.and_eq_true] at h
    rcases h with h | ⟨h1, h2⟩
    · obtain ⟨i, hi, h1, h2⟩ := orTo_ex k h
      exact ⟨i, by omega, h1, h2⟩
    · exact ⟨k, by omega, h1, h2⟩
/-- Goes i with nobody, or with one of the set? -/
def CT (G : Nat → Int) (r right i : Nat) : Prop := G i = -1 ∨ ∃ j : Nat, j < r ∧ G i = j ∧ right.testBit j = true
theorem ct_iff {t : Nat → Nat} {l r : Nat} {G : Nat → Int} (h : MOK t l r G) {right i : Nat} (hi : i < l) : ctB G right i = true ↔ CT G r right i := by
  unfold ctB CT
  rw [Bool.or_eq_true, beq_iff_eq]
  constructor
  · rintro (h1 | h1)
    · exact .inl h1
    · rcases h i hi with h2 | ⟨j, hj, e, _⟩
      · exact .inl h2
      · refine .inr ⟨j, hj, e, ?_⟩
        rw [e] at h1; simpa using h1
  · rintro (h1 | ⟨j, _, e, hb⟩)
    · exact .inl h1
    · right; rw [e]; simpa using hb
/-- What holds from turn to turn. -/
structure CTI (t : Nat → Nat) (l r : Nat) (H G : Nat → Int) (C left right : Nat) : Prop where
  lt : left < pw l
  eq : right = orTo t left l
  sub : Sub right C
  ct : ∀ i, i < l → left.testBit i = true → CT G r right i
theorem CTI.start {t : Nat → Nat} {l r : Nat} {H G : Nat → Int} {C : Nat} : CTI t l r H G C 0 0 := by
  have e : ∀ k, orTo t 0 k = 0 := fun k => by
    induction k with
    | zero => rfl
    | succ k ih => rw [orTo_no (by simp), ih]
  exact ⟨pw_pos l, (e l).symm, fun j hj => by simp at hj, fun i _ h => by simp at h⟩
theorem CTI.next {t : Nat → Nat} {l r : Nat} {H G : Nat → Int} {C left right : Nat} (hI : BestI t l r l H) (hG : GI l r H G) (hm : MOK t l r G) (hc : Clo t l r H C) (hs : ∀ u, u < l → HeldOff r 0 H u ∨ Sub (t u) C) (h : CTI t l r H G C left right) :
    CTI t l r H G C (mo G left right l) (orTo t (mo G left right l) l) := by
  have _ := hI
  have hsub : Sub left (mo G left right l) := fun j hj => by rw [mo_bit, hj]; rfl
  have hmon : Sub right (orTo t (mo G left right l) l) := by rw [h.eq]; exact orTo_mono (by rw [← h.eq]; exact hsub) l
  have hct : ∀ i, i < l → (mo G left right l).testBit i = true → CT G r right i := fun i hi hb => by
    rw [mo_bit, Bool.or_eq_true, Bool.and_eq_true] at hb
    rcases hb with hb | ⟨_, hb⟩
    · exact h.ct i hi hb
    · exact (ct_iff hm hi).1 hb
  refine ⟨mo_lt h.lt (Nat.le_refl _), rfl, fun x hx => ?_, fun i hi hb => ?_⟩
  · obtain ⟨i, hi, hb, hx2⟩ := orTo_ex l hx
    rcases hct i hi hb with h1 | ⟨j, hj, e, hb2⟩
    · rcases hs i hi with ⟨k, hk, _, hk2⟩ | h2
      · rcases hG i hi with ⟨_, h3⟩ | ⟨j, _, e, _⟩
        · exact absurd hk2 (h3 k hk)
        · rw [h1] at e; omega
      · exact h2 x hx2
    · rcases hG i hi with ⟨h3, _⟩ | ⟨j', _, e', hH⟩
      · rw [e] at h3; omega
      · have ej : j' = j := by rw [e] at e'; omega
        rw [ej] at hH
        obtain ⟨u, _, hu, hsu⟩ := hc j hj (h.sub j hb2)
        have : u = i := by rw [hH] at hu; omega
        rw [this] at hsu
        exact hsu x hx2
  · rcases hct i hi hb with h1 | ⟨j, hj, e, hb2⟩
    · exact .inl h1
    · exact .inr ⟨j, hj, e, hmon j hb2⟩
theorem mo_ge (G : Nat → Int) (left right k : Nat) : left ≤ mo G left right k := sub_le fun j hj => by rw [mo_bit, hj]; rfl
/-- A cover of just as many points as pairs go. -/
structure CoverP (t : Nat → Nat) (l r : Nat) (n a b : Nat) : Prop where
  la : a < pw l
  lb : b < pw r
  all : ∀ i, i < l → a.testBit i = true ∨ Sub (t i) b
  num : pc a + pc b = n
theorem CTI.cover {t : Nat → Nat} {l r : Nat} {H G : Nat → Int} {C left right : Nat} (hl : l ≤ 10) (hr : r ≤ 10) (ht : Sm r l t) (hI : BestI t l r l H) (hG : GI l r H G) (hm : MOK t l r G) (hc : Clo t l r H C) (h : CTI t l r H G C left right) (hend : mo G left right l = left) :
    CoverP t l r (cntM G l) (lack (pw l - 1) left) right := by
  have hpl := pw_le l hl
  have hlt := h.lt
  have hrt : right < pw r := by rw [h.eq]; exact orTo_lt ht l (Nat.le_refl _)
  have hab : ∀ i, i < l → (lack (pw l - 1) left).testBit i = !left.testBit i := fun i hi => by
    rw [lack_bit _ _ _ (by omega) (by omega)]
    have : (pw l - 1).testBit i = true := by simp [pw, Nat.testBit_two_pow_sub_one, hi]
    rw [this, Bool.true_and]
  have hleft : ∀ i, i < l → (left.testBit i = true ↔ CT G r right i) := fun i hi => by
    refine ⟨h.ct i hi, fun hct => ?_⟩
    rw [← hend, mo_bit, (ct_iff hm hi).2 hct]; simp [hi]
  refine ⟨Nat.lt_of_le_of_lt (lack_le _ _) (by have := pw_pos l; omega), hrt, fun i hi => ?_, ?_⟩
  · cases hb : left.testBit i
    · left; rw [hab i hi, hb]; rfl
    · right; intro x hx; rw [h.eq]; exact with_bit hi hb hx
  · have ha : pc (lack (pw l - 1) left) = cnt2 (fun i => !left.testBit i) l := by
      rw [pc_cnt hl (Nat.lt_of_le_of_lt (lack_le _ _) (by have := pw_pos l; omega))]
      exact cnt2_congr l fun i hi => hab i hi
    have hb := pc_cnt hr hrt
    have e1 : cnt2 (fun i => left.testBit i) l = cnt2 (fun i => left.testBit i && goB G i) l + cnt2 (fun i => left.testBit i && !goB G i) l := cnt2_split _ _ l
    have e2 : cnt2 (fun i => left.testBit i && !goB G i) l = cnt2 (fun i => !goB G i) l := cnt2_congr l fun i hi => by
      cases hg : goB G i
      · have : G i = -1 := by simpa [goB] using hg
        rw [(hleft i hi).2 (.inl this)]; rfl
      · simp
    have e3 : cnt2 (fun i => left.testBit i && goB G i) l ≤ cnt2 (fun j => right.testBit j) r := by
      refine cnt2_inj (fun i => (G i).toNat) l _ r _ (fun i hi hp => ?_) (fun i j hi hj hpi hpj e => ?_)
      · simp only [Bool.and_eq_true] at hp
        rcases (hleft i hi).1 hp.1 with h1 | ⟨j, hj, e, hb2⟩
        · exact absurd h1 (by simpa [goB] using hp.2)
        · have : (G i).toNat = j := by rw [e]; simp
          rw [this]; exact ⟨hj, hb2⟩
      · simp only [Bool.and_eq_true] at hpi hpj
        exact hm.inj hi hj hpi.2 hpj.2 e
    have e4 : cnt2 (fun j => right.testBit j) r ≤ cnt2 (fun i => left.testBit i && goB G i) l := by
      refine cnt2_inj (fun j => (H j).toNat) r _ l _ (fun j hj hb2 => ?_) (fun j k hj hk hbj hbk e => ?_)
      · obtain ⟨u, hu, hH, _⟩ := hc j hj (h.sub j hb2)
        have e : (H j).toNat = u := by rw [hH]; simp
        rw [e]
        refine ⟨hu, ?_⟩
        rcases hG u hu with ⟨_, h3⟩ | ⟨j', hj', e', hH'⟩
        · exact absurd hH (h3 j hj)
        · have ej : j' = j := hI.inj j' j hj' hj (by simp) (by simp) (hH'.trans hH.symm) (by rw [hH']; omega)
          rw [ej] at e'
          have hg : goB G u = true := by
            have : ¬ ((j : Int) = -1) := by omega
            simp [goB, e', this]
          rw [hg, (hleft u hu).2 (.inr ⟨j, hj, e', hb2⟩)]; rfl
      · obtain ⟨u, _, hu, _⟩ := hc j hj (h.sub j hbj)
        obtain ⟨v, _, hv, _⟩ := hc k hk (h.sub k hbk)
        rw [hu, hv] at e
        have : u = v := by simpa using e
        exact hI.inj j k hj hk (by simp) (by simp) (by rw [hu, hv, this]) (by rw [hu]; omega)
    have e5 := cnt2_not (fun i => left.testBit i) l
    have e6 := cnt2_not (goB G) l
    have e7 := cnt2_le (goB G) l
    unfold cntM
    omega
/-- No cover has fewer points than a matching has pairs. -/
theorem weak {t : Nat → Nat} {l r : Nat} {f : Nat → Int} {A B : Nat} (hl : l ≤ 10) (hr : r ≤ 10) (h : MOK t l r f) (hA : A < pw l) (hB : B < pw r) (hc : ∀ i, i < l → A.testBit i = true ∨ Sub (t i) B) : cntM f l ≤ pc A + pc B := by
  rw [pc_cnt hl hA, pc_cnt hr hB]
  unfold cntM
  rw [cnt2_split (goB f) (fun i => A.testBit i) l]
  have a : cnt2 (fun k => goB f k && A.testBit k) l ≤ cnt2 (fun i => A.testBit i) l := cnt2_imp l fun k _ hp => by
    simp only [Bool.and_eq_true] at hp; exact hp.2
  have b : cnt2 (fun k => goB f k && !A.testBit k) l ≤ cnt2 (fun j => B.testBit j) r := by
    refine cnt2_inj (fun u => (f u).toNat) l _ r _ (fun u hu hp => ?_) (fun u v hu hv hpu hpv e => ?_)
    · simp only [Bool.and_eq_true, Bool.not_eq_true'] at hp
      have nu : f u ≠ -1 := by simpa [goB] using hp.1
      rcases h u hu with h1 | ⟨j, hj, hfj, htj, _⟩
      · exact absurd h1 nu
      · have e : (f u).toNat = j := by rw [hfj]; simp
        rw [e]
        refine ⟨hj, ?_⟩
        rcases hc u hu with h2 | h2
        · rw [hp.2] at h2; cases h2
        · exact h2 j htj
    · simp only [Bool.and_eq_true] at hpu hpv
      exact h.inj hu hv hpu.1 hpv.1 e
  omega
end Go.Proofs.Ytahnkmdhhdgfhaa
