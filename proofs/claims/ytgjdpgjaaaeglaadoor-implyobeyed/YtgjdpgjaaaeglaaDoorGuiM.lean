/-
  The base of Duquenne and Guigues: what it says, that none of it can be left out, that no rules that say as much are fewer. Plain facts: no Go text here. Conditions: as each theorem says.
-/
import Derived.Test.YtgjdpgjaaaeglaaDoorRefBas
namespace Go.Proofs.YtgjdpgjaaaeglaaDoor

section
variable {R : List (Nat × Nat)} {n : Nat}
theorem bas_in {C : Nat → Nat} : ∀ {k : Nat} {s : Nat}, (s, C s) ∈ bas C k ↔ s < k ∧ C s ≠ s ∧ (bas C s).all (obe s) = true
  | 0, s => by simp [bas]
  | k + 1, s => by
    by_cases e : C k ≠ k ∧ (bas C k).all (obe k) = true
    · rw [bas_yes e.1 e.2, List.mem_append, List.mem_singleton, bas_in]
      constructor
      · rintro (⟨h1, h2⟩ | h)
        · exact ⟨by omega, h2⟩
        · have : s = k := congrArg Prod.fst h
          subst this; exact ⟨by omega, e⟩
      · rintro ⟨h1, h2⟩
        by_cases e2 : s = k
        · subst e2; exact .inr rfl
        · exact .inl ⟨by omega, h2⟩
    · rw [bas, if_neg e, bas_in]
      constructor
      · rintro ⟨h1, h2⟩; exact ⟨by omega, h2⟩
      · rintro ⟨h1, h2⟩
        by_cases e2 : s = k
        · subst e2; exact absurd h2 e
        · exact ⟨by omega, h2⟩
theorem bas_pair {C : Nat → Nat} {k : Nat} {r : Nat × Nat} (h : r ∈ bas C k) : r = (r.1, C r.1) := by
  have := (bas_mem h).2
  exact Prod.ext rfl this
theorem bas_sub {C : Nat → Nat} {k m : Nat} (h : k ≤ m) {r : Nat × Nat} (hr : r ∈ bas C k) : r ∈ bas C m := by
  have e := bas_pair hr
  rw [e] at hr ⊢
  obtain ⟨h1, h2⟩ := bas_in.1 hr
  exact bas_in.2 ⟨by omega, h2⟩
/-- The base's rules are of n marks. -/
theorem bas_rin : RIn n (bas (clo R n) (pw n)) := fun r hr => by
  have := bas_mem hr
  exact ⟨this.1, by rw [this.2]; exact clo_lt⟩
theorem obe_of (h10 : n ≤ 10) {s : Nat} (hs : s < pw n) {r : Nat × Nat} (hr : r ∈ bas (clo R n) (pw n)) : obe s r = true ↔ Obe s r := by
  have h := bas_rin _ hr
  exact obe_iff (set_1024 h10 hs) (set_1024 h10 h.1) (set_1024 h10 h.2)
theorem closed_iff (h10 : n ≤ 10) (hR : RIn n R) {x : Nat} (hx : x < pw n) : clo R n x = x ↔ ObeA x R := by
  constructor
  · intro h
    have := (clo_is h10 hR hx).2.2.1
    rw [h] at this; exact this
  · exact clo_fix h10 hR hx
/-- Who obeys the base is closed, and the other way round. -/
theorem bas_closed (h10 : n ≤ 10) (hR : RIn n R) {x : Nat} (hx : x < pw n) : ObeA x (bas (clo R n) (pw n)) ↔ ObeA x R := by
  rw [← closed_iff h10 hR hx]
  constructor
  · intro h
    refine Classical.byContradiction fun hne => ?_
    have hall : (bas (clo R n) x).all (obe x) = true := List.all_eq_true.2 fun r hr => (obe_of h10 hx (bas_sub (by omega) hr)).2 (h r (bas_sub (by omega) hr))
    have hm : (x, clo R n x) ∈ bas (clo R n) (pw n) := bas_in.2 ⟨hx, hne, hall⟩
    have := h _ hm (Sb.refl x)
    exact hne (this.anti (clo_is h10 hR hx).2.1)
  · intro h r hr h1
    have hb := bas_mem hr
    rw [hb.2]
    have := clo_mono h10 hR hb.1 hx h1
    rw [h] at this; exact this
/-- What the base says the rules say. -/
theorem bas_follows (h10 : n ≤ 10) (hR : RIn n R) {r : Nat × Nat} (hr : r ∈ R) : Obe (clo (bas (clo R n) (pw n)) n r.1) r :=
  (follows_iff h10 bas_rin (hR r hr).1).2 fun _ hx ho => (bas_closed h10 hR hx).1 ho r hr
theorem follows_bas (h10 : n ≤ 10) (hR : RIn n R) {r : Nat × Nat} (hr : r ∈ bas (clo R n) (pw n)) : Obe (clo R n r.1) r :=
  (follows_iff h10 hR (bas_rin r hr).1).2 fun _ hx ho => (bas_closed h10 hR hx).2 ho r hr
/-- A set of the base obeys all other rules of it. -/
theorem bas_other (h10 : n ≤ 10) (_hR : RIn n R) {r q : Nat × Nat} (hr : r ∈ bas (clo R n) (pw n)) (hq : q ∈ bas (clo R n) (pw n)) (hne : q.1 ≠ r.1) : Obe r.1 q := by
  intro h1
  have hle := sb_le h1
  have e := bas_pair hr
  rw [e] at hr
  obtain ⟨h2, _, h4⟩ := bas_in.1 hr
  have e2 := bas_pair hq
  have hq3 : q ∈ bas (clo R n) r.1 := by
    rw [e2] at hq ⊢
    obtain ⟨_, g2⟩ := bas_in.1 hq
    exact bas_in.2 ⟨by omega, g2⟩
  exact (obe_of h10 h2 (bas_sub (by omega) hq3)).1 (List.all_eq_true.1 h4 q hq3) h1
theorem bas_not (h10 : n ≤ 10) (hR : RIn n R) {r : Nat × Nat} (hr : r ∈ bas (clo R n) (pw n)) : ¬ Obe r.1 r := by
  intro h
  have e := bas_pair hr
  have hr2 := hr
  rw [e] at hr2
  obtain ⟨h1, h2, _⟩ := bas_in.1 hr2
  have := h (Sb.refl _)
  rw [(bas_mem hr).2] at this
  exact h2 (this.anti (clo_is h10 hR h1).2.1)
/-- No rule of the base follows from others of it. -/
theorem bas_need (h10 : n ≤ 10) (hR : RIn n R) {r : Nat × Nat} {Q : List (Nat × Nat)} (hr : r ∈ bas (clo R n) (pw n)) (hQ : ∀ q, q ∈ Q → q ∈ bas (clo R n) (pw n) ∧ q.1 ≠ r.1) : ¬ Obe (clo Q n r.1) r := by
  intro h
  have hQR : RIn n Q := fun q hq => bas_rin q (hQ q hq).1
  have hall := (follows_iff h10 hQR (bas_rin r hr).1).1 h r.1 (bas_rin r hr).1 (fun q hq => bas_other h10 hR hr (hQ q hq).1 (hQ q hq).2)
  exact bas_not h10 hR hr hall
theorem bad_rule (h10 : n ≤ 10) (hR : RIn n R) {r : Nat × Nat} (hr : r ∈ bas (clo R n) (pw n)) : ∃ i, i < R.length ∧ Sb (R.getD i (0, 0)).1 r.1 ∧ ¬ Sb (R.getD i (0, 0)).2 r.1 := by
  have h1 := (bas_rin r hr).1
  have hn : ¬ ObeA r.1 R := fun h => bas_not h10 hR hr ((bas_closed h10 hR h1).2 h r hr)
  refine Classical.byContradiction fun hc => hn fun q hq hs => ?_
  obtain ⟨i, hi, e⟩ := List.getElem_of_mem hq
  have e2 : R.getD i (0, 0) = q := by rw [List.getD_eq_getElem?_getD, List.getElem?_eq_getElem hi, Option.getD_some, e]
  refine Classical.byContradiction fun hns => hc ⟨i, hi, ?_⟩
  rw [e2]; exact ⟨hs, hns⟩
/-- Two sets of the base do not fail the same rule. -/
theorem bad_once (h10 : n ≤ 10) (hR : RIn n R) {r q : Nat × Nat} (hr : r ∈ bas (clo R n) (pw n)) (hq : q ∈ bas (clo R n) (pw n)) {A : Nat × Nat} (hA : A ∈ R) (h1 : Sb A.1 r.1) (h2 : ¬ Sb A.2 r.1) (h3 : Sb A.1 q.1) (h4 : ¬ Sb A.2 q.1) : r.1 = q.1 := by
  refine Classical.byContradiction fun hne => ?_
  have hr1 := (bas_rin r hr).1
  have hq1 := (bas_rin q hq).1
  have hin : ∀ y, y < pw n → Sb A.1 y → Sb A.2 (clo R n y) := fun y hy hs =>
    (clo_is h10 hR hy).2.2.1 A hA (hs.trans (clo_is h10 hR hy).2.1)
  by_cases c1 : Sb r.1 q.1
  · have h5 := bas_other h10 hR hq hr hne c1
    rw [(bas_mem hr).2] at h5
    exact h4 ((hin _ hr1 h1).trans h5)
  · by_cases c2 : Sb q.1 r.1
    · have h5 := bas_other h10 hR hr hq (fun e => hne e.symm) c2
      rw [(bas_mem hq).2] at h5
      exact h2 ((hin _ hq1 h3).trans h5)
    · have hx : r.1 &&& q.1 < pw n := Nat.lt_of_le_of_lt Nat.and_le_left hr1
      have s1 : Sb (r.1 &&& q.1) r.1 := fun i hi => by rw [Nat.testBit_and, Bool.and_eq_true] at hi; exact hi.1
      have s2 : Sb (r.1 &&& q.1) q.1 := fun i hi => by rw [Nat.testBit_and, Bool.and_eq_true] at hi; exact hi.2
      have ho : ObeA (r.1 &&& q.1) (bas (clo R n) (pw n)) := fun t ht hts i hi => by
        have n1 : t.1 ≠ r.1 := fun e => c1 (by rw [← e]; exact hts.trans s2)
        have n2 : t.1 ≠ q.1 := fun e => c2 (by rw [← e]; exact hts.trans s1)
        rw [Nat.testBit_and, bas_other h10 hR hr ht n1 (hts.trans s1) i hi, bas_other h10 hR hq ht n2 (hts.trans s2) i hi]; rfl
      have hcl := (closed_iff h10 hR hx).2 ((bas_closed h10 hR hx).1 ho)
      have hA1 : Sb A.1 (r.1 &&& q.1) := fun i hi => by rw [Nat.testBit_and, h1 i hi, h3 i hi]; rfl
      have := hin _ hx hA1
      rw [hcl] at this
      exact h2 (this.trans s1)
/-- A list whose members fall to different places is no longer than the places. -/
theorem once_le (F : Nat × Nat → Nat) : ∀ (l : List (Nat × Nat)) (ps : List Nat), (∀ r, r ∈ l → F r ∈ ps) → l.Pairwise (fun r q => F r ≠ F q) → l.length ≤ ps.length
  | [], _, _, _ => Nat.zero_le _
  | x :: l, ps, h, hp => by
    rw [List.pairwise_cons] at hp
    have hx : F x ∈ ps := h x (List.mem_cons_self ..)
    have ih := once_le F l (ps.erase (F x)) (fun y hy => (List.mem_erase_of_ne (fun e => hp.1 y hy e.symm)).2 (h y (List.mem_cons_of_mem _ hy))) hp.2
    rw [List.length_erase_of_mem hx] at ih
    have := List.length_pos_of_mem hx
    rw [List.length_cons]; omega
theorem bas_rise {C : Nat → Nat} : ∀ k, (bas C k).Pairwise (fun r q => r.1 < q.1)
  | 0 => List.Pairwise.nil
  | k + 1 => by
    by_cases e : C k ≠ k ∧ (bas C k).all (obe k) = true
    · rw [bas_yes e.1 e.2, List.pairwise_append]
      refine ⟨bas_rise k, List.pairwise_singleton _ _, fun r hr q hq => ?_⟩
      rw [List.mem_singleton] at hq
      subst hq
      exact (bas_mem hr).1
    · rw [bas, if_neg e]; exact bas_rise k
theorem bas_few (h10 : n ≤ 10) (hR : RIn n R) : (bas (clo R n) (pw n)).length ≤ R.length := by
  have hch : ∀ r : Nat × Nat, ∃ i, r ∈ bas (clo R n) (pw n) → i < R.length ∧ Sb (R.getD i (0, 0)).1 r.1 ∧ ¬ Sb (R.getD i (0, 0)).2 r.1 := fun r => by
    by_cases h : r ∈ bas (clo R n) (pw n)
    · obtain ⟨i, hi⟩ := bad_rule h10 hR h
      exact ⟨i, fun _ => hi⟩
    · exact ⟨0, fun h' => absurd h' h⟩
  obtain ⟨F, hF⟩ := Classical.axiomOfChoice hch
  have := once_le F (bas (clo R n) (pw n)) (List.range R.length) (fun r hr => List.mem_range.2 (hF r hr).1) (by
    refine List.Pairwise.imp_of_mem (fun {r q} hr hq hlt e => ?_) (bas_rise (pw n))
    obtain ⟨a1, a2, a3⟩ := hF r hr
    obtain ⟨b1, b2, b3⟩ := hF q hq
    rw [← e] at b2 b3
    have := bad_once h10 hR hr hq (getD_mem (0, 0) a1) a2 a3 b2 b3
    omega)
  rw [List.length_range] at this; exact this
end
end Go.Proofs.YtgjdpgjaaaeglaaDoor
