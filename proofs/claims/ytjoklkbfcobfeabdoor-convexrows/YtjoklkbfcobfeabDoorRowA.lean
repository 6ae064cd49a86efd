/-
  That the ideals of an order, and its ends, are accessible. Plain facts: no Go text here. Conditions: as each theorem says.
-/
import Derived.Test.YtjoklkbfcobfeabDoorRowM
import Derived.Test.YtjoklkbfcobfeabDoorEndM
import Derived.Test.YtjoklkbfcobfeabDoorWdM
namespace Go.Proofs.YtjoklkbfcobfeabDoor
open Go.RowKit

theorem fil_mem {I : Nat → Bool} : ∀ {K x : Nat}, x ∈ fil I K ↔ x < K ∧ I x = true
  | 0, x => by simp [fil]
  | K + 1, x => by
    cases e : I K
    · rw [fil_no e, fil_mem]
      constructor
      · rintro ⟨h1, h2⟩; exact ⟨by omega, h2⟩
      · rintro ⟨h1, h2⟩
        refine ⟨?_, h2⟩
        by_cases e2 : x = K
        · subst e2; rw [e] at h2; cases h2
        · omega
    · rw [fil_yes e, List.mem_append, List.mem_singleton, fil_mem]
      constructor
      · rintro (⟨h1, h2⟩ | rfl)
        · exact ⟨by omega, h2⟩
        · exact ⟨by omega, e⟩
      · rintro ⟨h1, h2⟩
        by_cases e2 : x = K
        · exact .inr e2
        · exact .inl ⟨by omega, h2⟩
theorem fil_rise {I : Nat → Bool} : ∀ K i j, i < j → j < (fil I K).length → nth (fil I K) i < nth (fil I K) j
  | 0, i, j, _, h => by simp [fil] at h
  | K + 1, i, j, hij, h => by
    cases e : I K
    · rw [fil_no e] at h ⊢; exact fil_rise K i j hij h
    · rw [fil_yes e] at h ⊢
      rw [List.length_append, List.length_singleton] at h
      by_cases e2 : j = (fil I K).length
      · subst e2
        rw [nth_last, nth_append hij]
        exact (fil_mem.1 (nth_mem hij)).1
      · rw [nth_append (by omega), nth_append (by omega)]
        exact fil_rise K i j hij (by omega)
/-- The list as integers. -/
def li (L : List Nat) (k : Nat) : Int := ((nth L k : Nat) : Int)
theorem nat_li (L : List Nat) : nat (li L) = nth L := by
  funext k
  unfold nat li; omega
theorem fil_in (I : Nat → Bool) (n : Nat) : FIn n (fil I (pw n)).length (li (fil I (pw n))) := fun k hk => by
  have := (fil_mem.1 (nth_mem hk)).1
  unfold li; omega
theorem fil_ris (I : Nat → Bool) (n : Nat) : Ris (fil I (pw n)).length (li (fil I (pw n))) := fun k hk h0 => by
  have := fil_rise (pw n) (k - 1) k (by omega) hk
  unfold li; omega
theorem mem_nth {L : List Nat} {s : Nat} : mem (nth L) L.length s = true ↔ s ∈ L := by
  rw [mem_iff]
  constructor
  · rintro ⟨j, h1, rfl⟩; exact nth_mem h1
  · intro h
    obtain ⟨k, hk, e⟩ := List.getElem_of_mem h
    exact ⟨k, hk, by simp [nth, hk, e]⟩
theorem acc_fil {I : Nat → Bool} {n : Nat} (h10 : n ≤ 10) (h0 : I 0 = true) (hs : ∀ s, s < pw n → I s = true → s ≠ 0 → ∃ p, p < n ∧ s.testBit p = true ∧ I (s - pw p) = true) (hu : ∀ a b, a < pw n → b < pw n → I a = true → I b = true → I (a ||| b) = true) :
    acc (nat (li (fil I (pw n)))) (fil I (pw n)).length = true := by
  rw [nat_li]
  refine acc_iff.2 ⟨mem_nth.2 (fil_mem.2 ⟨pw_pos n, h0⟩), fun k hk => ?_, fun k j hk hj => ?_⟩
  · obtain ⟨h1, h2⟩ := fil_mem.1 (nth_mem hk)
    by_cases e : nth (fil I (pw n)) k = 0
    · exact .inl e
    · obtain ⟨p, hp, hb, hI⟩ := hs _ h1 h2 e
      exact .inr (stp_iff.2 ⟨p, by omega, hb, mem_nth.2 (fil_mem.2 ⟨by omega, hI⟩)⟩)
  · obtain ⟨h1, h2⟩ := fil_mem.1 (nth_mem hk)
    obtain ⟨h3, h4⟩ := fil_mem.1 (nth_mem hj)
    exact mem_nth.2 (fil_mem.2 ⟨Nat.or_lt_two_pow h1 h3, hu _ _ h1 h3 h2 h4⟩)
theorem tog_fil {I : Nat → Bool} {n : Nat} (hf : I (pw n - 1) = true) : tog (nat (li (fil I (pw n)))) 0 (fil I (pw n)).length = pw n - 1 := by
  have hpp := pw_pos n
  rw [nat_li]
  refine eq_of_bits (tog_lt _ (fun j hj => (fil_mem.1 (nth_mem hj)).1)) (by omega) fun i hi => ?_
  rw [full_bit]
  simp only [hi, decide_true]
  obtain ⟨j, h1, h2⟩ := mem_iff.1 (mem_nth.2 (fil_mem.2 ⟨show pw n - 1 < pw n by omega, hf⟩))
  exact tog_bit.2 ⟨j, h1, Nat.and_zero _, by rw [h2, full_bit]; simp [hi]⟩

section
variable {g : Nat → Nat} {n : Nat}
theorem idl_iff (h10 : n ≤ 10) (hg : ∀ k, k < n → g k < pw n) {s : Nat} (hs : s < pw n) : idlTo g s n = true ↔ Idl g n s := by
  rw [idlTo_iff]
  constructor
  · intro h
    exact ⟨hs, fun p hp hb i hi => (lack_small h10 hg hp hs).1 (h p hp hb) i hi⟩
  · intro h p hp hb
    exact (lack_small h10 hg hp hs).2 (h.2 p hp hb)
/-- Who is below has a lesser set. -/
theorem ord_less (h10 : n ≤ 10) (hg : ∀ k, k < n → g k < pw n) (hO : Ord n g) {p q : Nat} (hp : p < n) (hq : q < n) (h : (g q).testBit p = true) : g p < g q := by
  have h1 := (lack_small h10 hg hp (hg q hq)).1 ((hO q hq).2 p hp h)
  have hle : g p ≤ g q := by
    have e : g p ||| g q = g q := by
      apply Nat.eq_of_testBit_eq
      intro i
      rw [Nat.testBit_or]
      cases e : (g p).testBit i
      · simp
      · rw [h1 i e]; rfl
    rw [← e]; exact Nat.left_le_or
  rcases Nat.lt_or_ge (g p) (g q) with h2 | h2
  · exact h2
  · have e : g p = g q := by omega
    have h3 := (hO p hp).1
    rw [e, h] at h3; cases h3
/-- Of the points of a set one whose set is greatest. -/
theorem top_of (g : Nat → Nat) (s : Nat) : ∀ K, (∃ p, p < K ∧ s.testBit p = true) → ∃ p, p < K ∧ s.testBit p = true ∧ ∀ q, q < K → s.testBit q = true → g q ≤ g p
  | 0, ⟨p, h, _⟩ => absurd h (Nat.not_lt_zero _)
  | K + 1, ⟨p, h1, h2⟩ => by
    by_cases z : ∃ p, p < K ∧ s.testBit p = true
    · obtain ⟨m, k1, k2, k3⟩ := top_of g s K z
      by_cases e : s.testBit K = true ∧ g m < g K
      · refine ⟨K, by omega, e.1, fun q hq hb => ?_⟩
        by_cases e2 : q = K
        · subst e2; exact Nat.le_refl _
        · have := k3 q (by omega) hb; omega
      · refine ⟨m, by omega, k2, fun q hq hb => ?_⟩
        by_cases e2 : q = K
        · subst e2
          rcases Nat.lt_or_ge (g m) (g q) with h | h
          · exact absurd ⟨hb, h⟩ e
          · exact h
        · exact k3 q (by omega) hb
    · have e : p = K := by
        by_cases e : p = K
        · exact e
        · exact absurd ⟨p, by omega, h2⟩ z
      subst e
      refine ⟨p, h1, h2, fun q hq hb => ?_⟩
      by_cases e2 : q = p
      · subst e2; exact Nat.le_refl _
      · exact absurd ⟨q, by omega, hb⟩ z
theorem bot_of (g : Nat → Nat) (s : Nat) : ∀ K, (∃ p, p < K ∧ s.testBit p = true) → ∃ p, p < K ∧ s.testBit p = true ∧ ∀ q, q < K → s.testBit q = true → g p ≤ g q
  | 0, ⟨p, h, _⟩ => absurd h (Nat.not_lt_zero _)
  | K + 1, ⟨p, h1, h2⟩ => by
    by_cases z : ∃ p, p < K ∧ s.testBit p = true
    · obtain ⟨m, k1, k2, k3⟩ := bot_of g s K z
      by_cases e : s.testBit K = true ∧ g K < g m
      · refine ⟨K, by omega, e.1, fun q hq hb => ?_⟩
        by_cases e2 : q = K
        · subst e2; exact Nat.le_refl _
        · have := k3 q (by omega) hb; omega
      · refine ⟨m, by omega, k2, fun q hq hb => ?_⟩
        by_cases e2 : q = K
        · subst e2
          rcases Nat.lt_or_ge (g q) (g m) with h | h
          · exact absurd ⟨hb, h⟩ e
          · exact h
        · exact k3 q (by omega) hb
    · have e : p = K := by
        by_cases e : p = K
        · exact e
        · exact absurd ⟨p, by omega, h2⟩ z
      subst e
      refine ⟨p, h1, h2, fun q hq hb => ?_⟩
      by_cases e2 : q = p
      · subst e2; exact Nat.le_refl _
      · exact absurd ⟨q, by omega, hb⟩ z
theorem some_bit {s : Nat} (hs : s < pw n) (h0 : s ≠ 0) : ∃ p, p < n ∧ s.testBit p = true := by
  refine Classical.byContradiction fun h => h0 (eq_of_bits hs (pw_pos n) fun i hi => ?_)
  rw [Nat.zero_testBit]
  cases e : s.testBit i
  · rfl
  · exact absurd ⟨i, hi, e⟩ h
theorem Idl.less (h10 : n ≤ 10) (hg : ∀ k, k < n → g k < pw n) (hO : Ord n g) {s : Nat} (h : Idl g n s) (h0 : s ≠ 0) : ∃ p, p < n ∧ s.testBit p = true ∧ Idl g n (s - pw p) := by
  have hs1 : s < 1024 := Nat.lt_of_lt_of_le h.1 (pw_le n h10)
  obtain ⟨p, hp, hb, hmax⟩ := top_of g s n (some_bit h.1 h0)
  have hsub := sub_bit hs1 (show p < 10 by omega) hb
  refine ⟨p, hp, hb, by have := h.1; omega, fun q hq hqb i hi => ?_⟩
  rw [hsub] at hqb
  simp at hqb
  rw [hsub, h.2 q hq hqb.1 i hi]
  have : p ≠ i := fun e => by
    subst e
    have h1 := ord_less h10 hg hO hp hq hi
    have h2 := hmax q hq hqb.1
    omega
  simp [this]
theorem Idl.or {a b : Nat} (ha : Idl g n a) (hb : Idl g n b) : Idl g n (a ||| b) :=
  ⟨Nat.or_lt_two_pow ha.1 hb.1, fun p hp h i hi => by
    rw [Nat.testBit_or] at h ⊢
    rw [Bool.or_eq_true] at h ⊢
    rcases h with h | h
    · exact .inl (ha.2 p hp h i hi)
    · exact .inr (hb.2 p hp h i hi)⟩
theorem Idl.and {a b : Nat} (ha : Idl g n a) (hb : Idl g n b) : Idl g n (a &&& b) :=
  ⟨Nat.lt_of_le_of_lt Nat.and_le_left ha.1, fun p hp h i hi => by
    rw [Nat.testBit_and, Bool.and_eq_true] at h ⊢
    exact ⟨ha.2 p hp h.1 i hi, hb.2 p hp h.2 i hi⟩⟩
theorem Idl.zero : Idl g n 0 := ⟨pw_pos n, fun p _ h => by simp at h⟩
theorem Idl.full (hg : ∀ k, k < n → g k < pw n) : Idl g n (pw n - 1) := ⟨by have := pw_pos n; omega, fun p hp _ i hi => by rw [full_bit]; simp; exact bit_of_lt (hg p hp) hi⟩
/-- An end: an ideal and the rest of one. -/
def Edn (g : Nat → Nat) (n s : Nat) : Prop := ∃ I J, Idl g n I ∧ Idl g n J ∧ s = I ||| rst n J
theorem Edn.lt {s : Nat} (h : Edn g n s) : s < pw n := by
  obtain ⟨I, J, h1, h2, rfl⟩ := h
  exact Nat.or_lt_two_pow h1.1 rst_lt
theorem Edn.zero (hg : ∀ k, k < n → g k < pw n) : Edn g n 0 := ⟨0, pw n - 1, Idl.zero, Idl.full hg, by unfold rst; simp⟩
theorem Edn.or {a b : Nat} (ha : Edn g n a) (hb : Edn g n b) : Edn g n (a ||| b) := by
  obtain ⟨I, J, h1, h2, rfl⟩ := ha
  obtain ⟨I', J', h3, h4, rfl⟩ := hb
  refine ⟨I ||| I', J &&& J', h1.or h3, h2.and h4, ?_⟩
  apply Nat.eq_of_testBit_eq
  intro i
  simp only [Nat.testBit_or, rst_bit h2.1, rst_bit h4.1, rst_bit (h2.and h4).1, Nat.testBit_and]
  cases I.testBit i <;> cases I'.testBit i <;> cases J.testBit i <;> cases J'.testBit i <;> cases decide (i < n) <;> rfl
theorem Edn.less (h10 : n ≤ 10) (hg : ∀ k, k < n → g k < pw n) (hO : Ord n g) {J : Nat} (hJ : Idl g n J) : ∀ m I, I < m → Idl g n I → I ||| rst n J ≠ 0 → ∃ p, p < n ∧ (I ||| rst n J).testBit p = true ∧ Edn g n ((I ||| rst n J) - pw p)
  | 0, I, h, _, _ => absurd h (Nat.not_lt_zero _)
  | m + 1, I, h, hI, hne => by
    have hpn := pw_le n h10
    have hX : I ||| rst n J < pw n := Nat.or_lt_two_pow hI.1 rst_lt
    by_cases e : I = 0
    · subst e
      rw [Nat.zero_or] at hne hX ⊢
      obtain ⟨p, hp, hb, hmin⟩ := bot_of g (rst n J) n (some_bit hX hne)
      have hsub := sub_bit (show rst n J < 1024 by omega) (show p < 10 by omega) hb
      have hpJ : J.testBit p = false := by rw [rst_bit hJ.1] at hb; simp at hb; exact hb.2
      have hK : Idl g n (J + pw p) := ⟨add_lt hJ.1 hp hpJ, fun q hq hqb i hi => by
        rw [add_bit hpJ] at hqb ⊢
        by_cases e : p = q
        · subst e
          cases e2 : J.testBit i
          · exfalso
            have hin : i < n := bit_of_lt (hg p hp) hi
            have hi2 : (rst n J).testBit i = true := by rw [rst_bit hJ.1, e2]; simp [hin]
            have h1 := hmin i hin hi2
            have h2 := ord_less h10 hg hO hin hp hi
            omega
          · rfl
        · have : J.testBit q = true := by simpa [e] using hqb
          rw [hJ.2 q hq this i hi]; rfl⟩
      refine ⟨p, hp, hb, 0, J + pw p, Idl.zero, hK, ?_⟩
      rw [Nat.zero_or]
      apply Nat.eq_of_testBit_eq
      intro i
      rw [hsub, rst_bit hJ.1, rst_bit hK.1, add_bit hpJ]
      cases decide (i < n) <;> cases J.testBit i <;> cases decide (p = i) <;> rfl
    · obtain ⟨p, hp, hb, hI2⟩ := hI.less h10 hg hO e
      have hI1 : I < 1024 := Nat.lt_of_lt_of_le hI.1 hpn
      have hsub := sub_bit hI1 (show p < 10 by omega) hb
      have hlt := sub_lt' hI1 (show p < 10 by omega) hb
      cases hF : (rst n J).testBit p
      · have hXb : (I ||| rst n J).testBit p = true := by rw [Nat.testBit_or, hb]; rfl
        refine ⟨p, hp, hXb, I - pw p, J, hI2, hJ, ?_⟩
        have hXs := sub_bit (show I ||| rst n J < 1024 by omega) (show p < 10 by omega) hXb
        apply Nat.eq_of_testBit_eq
        intro i
        rw [hXs, Nat.testBit_or, Nat.testBit_or, hsub]
        by_cases e2 : p = i
        · subst e2; simp [hF]
        · simp [e2]
      · have e2 : I ||| rst n J = (I - pw p) ||| rst n J := by
          apply Nat.eq_of_testBit_eq
          intro i
          rw [Nat.testBit_or, Nat.testBit_or, hsub]
          by_cases e2 : p = i
          · subst e2; simp [hF]
          · simp [e2]
        rw [e2] at hne ⊢
        exact Edn.less h10 hg hO hJ m (I - pw p) (by omega) hI2 hne
theorem enB_iff (h10 : n ≤ 10) (hg : ∀ k, k < n → g k < pw n) {s : Nat} : enB n (idls g n) (idls g n).length 0 s = true ↔ Edn g n s := by
  have hI : ∀ x, x ∈ idls g n ↔ Idl g n x := fun x => by
    unfold idls
    rw [fil_mem]
    constructor
    · rintro ⟨h1, h2⟩; exact (idl_iff h10 hg h1).1 h2
    · intro h; exact ⟨h.1, (idl_iff h10 hg h.1).2 h⟩
  unfold enB
  rw [show anyB (fun t => enx n (idls g n) (idls g n).length t == s) 0 = false from rfl, Bool.or_false, anyB_iff]
  constructor
  · rintro ⟨i, hi, h⟩
    obtain ⟨t, ht, h2⟩ := anyB_iff.1 h
    refine ⟨nth (idls g n) i, nth (idls g n) t, (hI _).1 (nth_mem hi), (hI _).1 (nth_mem ht), ?_⟩
    have : enx n (idls g n) i t = s := by simpa using h2
    rw [← this]; rfl
  · rintro ⟨I, J, h1, h2, rfl⟩
    obtain ⟨i, hi, e1⟩ := mem_iff.1 (mem_nth.2 ((hI I).2 h1))
    obtain ⟨t, ht, e2⟩ := mem_iff.1 (mem_nth.2 ((hI J).2 h2))
    refine ⟨i, hi, anyB_iff.2 ⟨t, ht, ?_⟩⟩
    unfold enx
    rw [e1, e2]; simp
theorem idls_acc (h10 : n ≤ 10) (hg : ∀ k, k < n → g k < pw n) (hO : Ord n g) : acc (nat (li (idls g n))) (idls g n).length = true :=
  acc_fil h10 ((idl_iff h10 hg (pw_pos n)).2 Idl.zero)
    (fun s hs hI h0 => by
      obtain ⟨p, hp, hb, h⟩ := ((idl_iff h10 hg hs).1 hI).less h10 hg hO h0
      exact ⟨p, hp, hb, (idl_iff h10 hg h.1).2 h⟩)
    (fun a b ha hb h1 h2 => by
      have h := ((idl_iff h10 hg ha).1 h1).or ((idl_iff h10 hg hb).1 h2)
      exact (idl_iff h10 hg h.1).2 h)
theorem idls_tog (h10 : n ≤ 10) (hg : ∀ k, k < n → g k < pw n) : tog (nat (li (idls g n))) 0 (idls g n).length = pw n - 1 :=
  tog_fil ((idl_iff h10 hg (Idl.full hg).1).2 (Idl.full hg))
theorem ends_acc (h10 : n ≤ 10) (hg : ∀ k, k < n → g k < pw n) (hO : Ord n g) : acc (nat (li (ends g n))) (ends g n).length = true :=
  acc_fil h10 ((enB_iff h10 hg).2 (Edn.zero hg))
    (fun s hs hI h0 => by
      obtain ⟨I, J, h1, h2, rfl⟩ := (enB_iff h10 hg).1 hI
      obtain ⟨p, hp, hb, h⟩ := Edn.less h10 hg hO h2 (I + 1) I (Nat.lt_succ_self _) h1 h0
      exact ⟨p, hp, hb, (enB_iff h10 hg).2 h⟩)
    (fun a b ha hb h1 h2 => (enB_iff h10 hg).2 (((enB_iff h10 hg).1 h1).or ((enB_iff h10 hg).1 h2)))
theorem idls_words (h10 : n ≤ 10) (hg : ∀ k, k < n → g k < pw n) (hO : Ord n g) : wy (mem (nat (li (idls g n))) (idls g n).length) (pw n - 1) = ways g n 0 := by
  refine words_rows h10 hg hO fun s => ?_
  rw [nat_li, mem_nth]
  unfold idls
  rw [fil_mem]
  constructor
  · rintro ⟨h1, h2⟩; exact (idl_iff h10 hg h1).1 h2
  · intro h; exact ⟨h.1, (idl_iff h10 hg h.1).2 h⟩
end
end Go.Proofs.YtjoklkbfcobfeabDoor
