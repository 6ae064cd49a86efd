/-
  What is known more costs no more; turned over it costs as much; covers and a pair more make what is known with a weighing more. Plain facts: no Go text here. Conditions: at most five points.
-/
import Derived.Test.YtipgojoiakbaiaaWoM
import Derived.Test.YtipgojoiakbaiaaReducesM
namespace Go.Proofs.Ytipgojoiakbaiaa
open Go.RowKit

/-- All that is known of g is known of h. -/
def SubK (g h : Nat → Nat) : Prop := ∀ p x, (g p).testBit x = true → (h p).testBit x = true
theorem SubK.wth {g h : Nat → Nat} (hs : SubK g h) (a b : Nat) : SubK (wth g a b) (wth h a b) := fun p x hx => by
  refine (wth_bit h a b p x).2 ?_
  rcases (wth_bit g a b p x).1 hx with h1 | ⟨h1, h2⟩
  · exact .inl (hs p x h1)
  · refine .inr ⟨?_, ?_⟩
    · rcases h1 with h1 | h1
      · exact .inl h1
      · exact .inr (hs p b h1)
    · rcases h2 with h2 | h2
      · exact .inl (hs a x h2)
      · exact .inr h2
theorem SubK.in_wth {n : Nat} {g h : Nat → Nat} (hs : SubK g h) (hh : WOk n h) {a b : Nat} (hab : (h b).testBit a = true) : SubK (Proofs.Ytipgojoiakbaiaa.wth g a b) h := fun p x hx => by
  rcases (wth_bit g a b p x).1 hx with h1 | ⟨h1, h2⟩
  · exact hs p x h1
  · have h3 : (h p).testBit a = true := by
      rcases h1 with rfl | h1
      · exact hab
      · exact hh.tr p b a (hs p b h1) hab
    rcases h2 with h2 | rfl
    · exact hh.tr p a x h3 (hs a x h2)
    · exact h3
theorem cst_mono {n : Nat} : ∀ (m : Nat) (g h : Nat → Nat), WOk n g → WOk n h → SubK g h → ops n g ≤ m → cst n h ≤ cst n g
  | m, g, h, hg, hh, hs, hm => by
    by_cases hc : cst n h = 0
    · omega
    · by_cases hgc : cst n g = 0
      · exfalso
        have hl := (cst_zero hg).1 hgc
        refine hc ((cst_zero hh).2 fun a b hab hb => ?_)
        rw [Bool.eq_false_iff]
        intro ho
        obtain ⟨o1, o2⟩ := opn_iff.1 ho
        rcases hl.or (show a < n by omega) hb (by omega) with h1 | h1
        · rw [hs a b h1] at o1; cases o1
        · rw [hs b a h1] at o2; cases o2
      · obtain ⟨h1, h2, h3, h4, _⟩ := nx_some hg hgc
        have h3' : opn g (nx n g).b (nx n g).a = true := by rw [opn_comm]; exact h3
        have k1 := ops_less (n := n) (by omega) h2 (by omega) h3
        have k2 := ops_less (n := n) h2 (by omega) (by omega) h3'
        have w1 := hg.wth (by omega) h2 (by omega) h3
        have w2 := hg.wth h2 (by omega) (by omega) h3'
        generalize (nx n g).a = a at *
        generalize (nx n g).b = b at *
        match m with
        | 0 => omega
        | m + 1 =>
          rw [h4]
          unfold beg
          cases ho : opn h a b
          · have : (h a).testBit b = true ∨ (h b).testBit a = true := by
              cases e1 : (h a).testBit b
              · cases e2 : (h b).testBit a
                · rw [opn_iff.2 ⟨e1, e2⟩] at ho; cases ho
                · exact .inr rfl
              · exact .inl rfl
            rcases this with e | e
            · have := cst_mono m _ h w2 hh (hs.in_wth hh e) (by omega)
              omega
            · have := cst_mono m _ h w1 hh (hs.in_wth hh e) (by omega)
              omega
          · have ho' : opn h b a = true := by rw [opn_comm]; exact ho
            have r1 := cst_mono m _ _ w1 (hh.wth (by omega) h2 (by omega) ho) (hs.wth a b) (by omega)
            have r2 := cst_mono m _ _ w2 (hh.wth h2 (by omega) (by omega) ho') (hs.wth b a) (by omega)
            have := cst_le hh h1 h2 ho
            unfold beg at this
            omega
/-- Turned over. -/
def Dl (g h : Nat → Nat) : Prop := ∀ p x, (g p).testBit x = true ↔ (h x).testBit p = true
theorem Dl.symm {g h : Nat → Nat} (d : Dl g h) : Dl h g := fun p x => (d x p).symm
theorem Dl.opn {g h : Nat → Nat} (d : Dl g h) (a b : Nat) : opn g a b = opn h a b := by
  rw [Bool.eq_iff_iff, opn_iff, opn_iff]
  have e1 : ((g a).testBit b = false) ↔ ((h b).testBit a = false) := by
    have := d a b
    cases h1 : (g a).testBit b <;> cases h2 : (h b).testBit a <;> simp [h1, h2] at this ⊢
  have e2 : ((g b).testBit a = false) ↔ ((h a).testBit b = false) := by
    have := d b a
    cases h1 : (g b).testBit a <;> cases h2 : (h a).testBit b <;> simp [h1, h2] at this ⊢
  rw [e1, e2]
  exact ⟨fun ⟨x, y⟩ => ⟨y, x⟩, fun ⟨x, y⟩ => ⟨y, x⟩⟩
theorem Dl.wth {g h : Nat → Nat} (d : Dl g h) (a b : Nat) : Dl (wth g a b) (wth h b a) := fun p x => by
  rw [wth_bit, wth_bit]
  constructor
  · rintro (h1 | ⟨h1, h2⟩)
    · exact .inl ((d p x).1 h1)
    · refine .inr ⟨?_, ?_⟩
      · rcases h2 with h2 | rfl
        · exact .inr ((d a x).1 h2)
        · exact .inl rfl
      · rcases h1 with rfl | h1
        · exact .inr rfl
        · exact .inl ((d p b).1 h1)
  · rintro (h1 | ⟨h1, h2⟩)
    · exact .inl ((d p x).2 h1)
    · refine .inr ⟨?_, ?_⟩
      · rcases h2 with h2 | rfl
        · exact .inr ((d p b).2 h2)
        · exact .inl rfl
      · rcases h1 with rfl | h1
        · exact .inr rfl
        · exact .inl ((d a x).2 h1)
theorem cst_dual_le {n : Nat} : ∀ (m : Nat) (g h : Nat → Nat), WOk n g → WOk n h → Dl g h → ops n g ≤ m → cst n h ≤ cst n g
  | m, g, h, hg, hh, d, hm => by
    by_cases hgc : cst n g = 0
    · have hl := (cst_zero hg).1 hgc
      rw [(cst_zero hh).2 fun a b hab hb => by rw [← d.opn]; exact hl a b hab hb]; exact Nat.zero_le _
    · obtain ⟨h1, h2, h3, h4, _⟩ := nx_some hg hgc
      have h3' : opn g (nx n g).b (nx n g).a = true := by rw [opn_comm]; exact h3
      have k1 := ops_less (n := n) (by omega) h2 (by omega) h3
      have k2 := ops_less (n := n) h2 (by omega) (by omega) h3'
      have w1 := hg.wth (by omega) h2 (by omega) h3
      have w2 := hg.wth h2 (by omega) (by omega) h3'
      generalize (nx n g).a = a at *
      generalize (nx n g).b = b at *
      match m with
      | 0 => omega
      | m + 1 =>
        have ho : opn h a b = true := by rw [← d.opn]; exact h3
        have ho' : opn h b a = true := by rw [← d.opn]; exact h3'
        have r1 := cst_dual_le m _ _ w1 (hh.wth h2 (by omega) (by omega) ho') (d.wth a b) (by omega)
        have r2 := cst_dual_le m _ _ w2 (hh.wth (by omega) h2 (by omega) ho) (d.wth b a) (by omega)
        have := cst_le hh h1 h2 ho
        rw [h4]
        unfold beg at this ⊢
        omega
theorem cst_dual {n : Nat} {g h : Nat → Nat} (hg : WOk n g) (hh : WOk n h) (d : Dl g h) : cst n h = cst n g :=
  Nat.le_antisymm (cst_dual_le _ g h hg hh d (Nat.le_refl _)) (cst_dual_le _ h g hh hg d.symm (Nat.le_refl _))

/-- With a weighing more, where it is not known that it goes the other way. -/
theorem wth_ok {n : Nat} {g : Nat → Nat} (h : WOk n g) {a b : Nat} (ha : a < n) (hb : b < n) (hab : a ≠ b) (o1 : (g a).testBit b = false) : WOk n (wth g a b) ∧ SubK g (wth g a b) := by
  refine ⟨?_, fun p x hx => wth_up hx⟩
  cases o2 : (g b).testBit a
  · exact h.wth ha hb hab (opn_iff.2 ⟨o1, o2⟩)
  · have e : wth g a b = g := by
      funext p
      refine eq_of_bits (n := 5) ?_ (h.small p) fun i _ => ?_
      · unfold wth
        split
        · exact Nat.or_lt_two_pow (n := 5) (h.small p) (Nat.or_lt_two_pow (n := 5) (h.small a) (Nat.pow_lt_pow_right (by decide) (by have := h.n5; omega)))
        · exact h.small p
      · rw [Bool.eq_iff_iff]
        exact ⟨fun k => (SubK.in_wth (fun _ _ k => k) h o2) p i k, fun k => wth_up k⟩
    rw [e]; exact h
/-- The covers and a pair more. -/
def plus (g : Nat → Nat) (n a b : Nat) : List (Nat × Nat) := covs g n ++ [(a, b)]
theorem plus_in {g : Nat → Nat} {n a b : Nat} (ha : a < n) (hb : b < n) : ∀ q ∈ plus g n a b, q.1 < n ∧ q.2 < n := fun q hq => by
  rcases List.mem_append.1 hq with h | h
  · exact ⟨(mem_covs.1 h).1, (mem_covs.1 h).2.1⟩
  · simp at h; subst h; exact ⟨ha, hb⟩
theorem plus_way {g : Nat → Nat} {n a b : Nat} (h : WOk n g) (ha : a < n) (hb : b < n) {x y : Nat} (hy : y < n) (hw : (wth g a b y).testBit x = true) : Way (fun x y => (mk (pairAt (plus g n a b)) (plus g n a b).length y).testBit x = true) n x y := by
  have h10 : n ≤ 10 := by have := h.n5; omega
  have hR : ∀ x y, x < n → y < n → Cov g n x y → (fun x y => (mk (pairAt (plus g n a b)) (plus g n a b).length y).testBit x = true) x y := fun x y hx hy hc => (mk_mem (plus_in ha hb) x y).2 (List.mem_append_left _ (mem_covs.2 ⟨hx, hy, hc⟩))
  have hG : ∀ x y, x < n → y < n → (g y).testBit x = true → Way (fun x y => (mk (pairAt (plus g n a b)) (plus g n a b).length y).testBit x = true) n x y := fun x y hx hy hxy => way_of h10 h.sm h.ord hR (g y) x y hx hy hxy (Nat.sub_le _ _)
  have hab : Way (fun x y => (mk (pairAt (plus g n a b)) (plus g n a b).length y).testBit x = true) n a b := Way.lift ((mk_mem (plus_in ha hb) a b).2 (List.mem_append_right _ (by simp))) n
  rcases (wth_bit g a b y x).1 hw with h1 | ⟨h1, h2⟩
  · exact hG x y (h.lt h1).1 hy h1
  · have k1 : Way (fun x y => (mk (pairAt (plus g n a b)) (plus g n a b).length y).testBit x = true) n a y := by
      rcases h1 with rfl | h1
      · exact hab
      · exact Way.trans n a b y hb hab (hG b y hb hy h1)
    rcases h2 with h2 | rfl
    · exact Way.trans n x a y ha (hG x a (h.lt h2).1 ha h2) k1
    · exact k1
theorem plus_back {g : Nat → Nat} {n a b : Nat} (h : WOk n g) (ha : a < n) (hb : b < n) (hab : a ≠ b) (o1 : (g a).testBit b = false) {x y : Nat} (hw : Way (fun x y => (mk (pairAt (plus g n a b)) (plus g n a b).length y).testBit x = true) n x y) : (wth g a b y).testBit x = true := by
  have hk := (wth_ok h ha hb hab o1).1
  refine Way.least (S := fun x y => (wth g a b y).testBit x = true) (n := n) (fun x y hxy => ?_) (fun x y z _ h1 h2 => hk.tr z y x h2 h1) n (Nat.le_refl _) x y hw
  rcases List.mem_append.1 ((mk_mem (plus_in ha hb) x y).1 hxy) with h1 | h1
  · exact wth_up (mem_covs.1 h1).2.2.1
  · simp at h1; rw [h1.1, h1.2]; exact wth_new g a b
theorem plus_same {g : Nat → Nat} {n a b : Nat} (h : WOk n g) (ha : a < n) (hb : b < n) (hab : a ≠ b) (o1 : (g a).testBit b = false) {y : Nat} (hy : y < n) : reachOut (mk (pairAt (plus g n a b)) (plus g n a b).length) n n y = wth g a b y := by
  have h10 : n ≤ 10 := by have := h.n5; omega
  have hsm := reachOut_sm (mk_sm (n := n) (plus g n a b).length (pin_of (plus_in (g := g) ha hb))) n (Nat.le_refl _)
  refine eq_of_bits (hsm y hy) ((wth_ok h ha hb hab o1).1.smn y) fun i _ => ?_
  rw [Bool.eq_iff_iff, reach_way _ n n (Nat.le_refl _) i y hy]
  exact ⟨plus_back h ha hb hab o1, plus_way h ha hb hy⟩
/-- What Make says of the covers and a pair more. -/
theorem plus_mk {g : Nat → Nat} {n a b : Nat} (h : WOk n g) (ha : a < n) (hb : b < n) {c : Int} (hc : Mk (n : Int) (plus g n a b).length (pairAt (plus g n a b)) c) : (c = 4 ∧ (a = b ∨ (g a).testBit b = true)) ∨ (c = 0 ∧ a ≠ b ∧ (g a).testBit b = false) := by
  have h10 : n ≤ 10 := by have := h.n5; omega
  have hin := pin_of (plus_in (g := g) ha hb)
  have hsm := mk_sm (n := n) (plus g n a b).length hin
  have key : Ord n (reachOut (mk (pairAt (plus g n a b)) (plus g n a b).length) n n) ↔ (a ≠ b ∧ (g a).testBit b = false) := by
    constructor
    · intro ho
      have hr := (reach_ord h10 hsm).1 ho
      constructor
      · rintro rfl
        exact hr a ha (plus_way h ha ha ha (wth_new g a a))
      · rw [Bool.eq_false_iff]
        intro hba
        refine hr a ha (plus_way h ha hb ha ((wth_bit g a b a a).2 (.inr ⟨.inr hba, .inr rfl⟩)))
    · rintro ⟨hab, o1⟩
      have hk := (wth_ok h ha hb hab o1).1
      intro u hu
      have e := plus_same h ha hb hab o1 hu
      refine ⟨by rw [e]; exact hk.irr u, fun p hp hpu => ?_⟩
      rw [plus_same h ha hb hab o1 hp, e]
      rw [e] at hpu
      exact (hk.ord u hu).2 p hp hpu
  rcases hc with ⟨_, h1⟩ | ⟨m, h1, _, ⟨_, h2⟩ | ⟨_, ⟨rfl, h3⟩ | ⟨rfl, h3⟩⟩⟩
  · exact absurd ⟨by omega, by omega⟩ h1
  · obtain rfl : n = m := by omega
    exact absurd hin h2
  · obtain rfl : n = m := by omega
    refine .inl ⟨rfl, ?_⟩
    by_cases e : a = b
    · exact .inl e
    · refine .inr ?_
      cases e2 : (g a).testBit b
      · exact absurd (key.2 ⟨e, e2⟩) h3
      · rfl
  · obtain rfl : n = m := by omega
    exact .inr ⟨rfl, key.1 h3⟩
end Go.Proofs.Ytipgojoiakbaiaa
