/-
  Points are up to one another just as their cuts are inside one another; Meets and Joins of points are those of their cuts. Conditions: an order of at most ten points.
-/
import Derived.Test.YtpdhfibollealaaDoorCutL
namespace Go.Proofs.YtpdhfibollealaaDoor

section
variable {g : Nat → Nat} {n : Nat}
theorem upt_tr (hn : n ≤ 10) (hg : ∀ k, k < n → g k < pw n) (ho : Ord n g) {a b c : Nat} (hb : b < n) (hc : c < n) (h1 : upt g a b = true) (h2 : upt g b c = true) : upt g a c = true := by
  unfold upt at *
  rw [Bool.or_eq_true, decide_eq_true_iff] at *
  rcases h1 with rfl | h1
  · exact h2
  · rcases h2 with rfl | h2
    · exact .inr h1
    · exact .inr ((lack_zero _ _ (big hn (hg b hb)) (big hn (hg c hc))).1 ((ho c hc).2 b hb h2) a h1)
theorem upt_refl (g : Nat → Nat) (a : Nat) : upt g a a = true := by simp [upt]
theorem upt_sub (hn : n ≤ 10) (hg : ∀ k, k < n → g k < pw n) (ho : Ord n g) {a b : Nat} (ha : a < n) (hb : b < n) : upt g a b = true ↔ Sub (upto g a) (upto g b) := by
  constructor
  · intro h i hi
    rw [upto_bit] at hi ⊢
    exact upt_tr hn hg ho ha hb hi h
  · intro h
    have := h a (by rw [upto_bit]; exact upt_refl g a)
    rw [upto_bit] at this; exact this
theorem keep_le (hn : n ≤ 10) (hg : ∀ k, k < n → g k < pw n) (ho : Ord n g) {a b : Nat} (ha : a < n) (hb : b < n) : (ctm g n (ctp g n a) (ctp g n b) == ctp g n a) = upt g a b := by
  rw [Bool.eq_iff_iff, beq_iff_eq, ct_le (ctp_is hg ha).1 (ctp_is hg hb).1, (ctp_is hg ha).2, (ctp_is hg hb).2, upt_sub hn hg ho ha hb]
theorem two_bit (a b i : Nat) : (pw a ||| pw b).testBit i = true ↔ a = i ∨ b = i := by
  rw [Nat.testBit_or, pw_bit, pw_bit, Bool.or_eq_true, decide_eq_true_iff, decide_eq_true_iff]
theorem low2 {a b i : Nat} (ha : a < n) (hb : b < n) : (bnd g n (pw a ||| pw b) false).testBit i = true ↔ i < n ∧ upt g i a = true ∧ upt g i b = true := by
  rw [← low_bound, low_bit]
  constructor
  · rintro ⟨h1, h2⟩
    exact ⟨h1, h2 a ha ((two_bit a b a).2 (.inl rfl)), h2 b hb ((two_bit a b b).2 (.inr rfl))⟩
  · rintro ⟨h1, h2, h3⟩
    refine ⟨h1, fun k _ hk => ?_⟩
    rcases (two_bit a b k).1 hk with rfl | rfl
    · exact h2
    · exact h3
theorem high2 {a b i : Nat} (ha : a < n) (hb : b < n) : (bnd g n (pw a ||| pw b) true).testBit i = true ↔ i < n ∧ upt g a i = true ∧ upt g b i = true := by
  rw [← low_dual, up_bit]
  constructor
  · rintro ⟨h1, h2⟩
    exact ⟨h1, h2 a ha ((two_bit a b a).2 (.inl rfl)), h2 b hb ((two_bit a b b).2 (.inr rfl))⟩
  · rintro ⟨h1, h2, h3⟩
    refine ⟨h1, fun k _ hk => ?_⟩
    rcases (two_bit a b k).1 hk with rfl | rfl
    · exact h2
    · exact h3
theorem keep_meet (hn : n ≤ 10) (hg : ∀ k, k < n → g k < pw n) (ho : Ord n g) {a b c : Nat} (ha : a < n) (hb : b < n) (hc : c < n) (h1 : (bnd g n (pw a ||| pw b) false).testBit c = true) (h2 : Sub (bnd g n (pw a ||| pw b) false) (upto g c)) : ctm g n (ctp g n a) (ctp g n b) = ctp g n c := by
  obtain ⟨q1, q2⟩ := ctm_is (ctp_is hg ha).1 (ctp_is hg hb).1
  refine at_one q1 (ctp_is hg hc).1 ?_
  rw [q2, (ctp_is hg ha).2, (ctp_is hg hb).2, (ctp_is hg hc).2]
  obtain ⟨_, ca, cb⟩ := (low2 ha hb).1 h1
  refine Sub.eq (fun i hi => ?_) (fun i hi => ?_)
  · rw [Nat.testBit_and, Bool.and_eq_true, upto_bit, upto_bit] at hi
    exact h2 i ((low2 ha hb).2 ⟨bit_of_lt (upto_lt_pw hg ha) (by rw [upto_bit]; exact hi.1), hi.1, hi.2⟩)
  · rw [upto_bit] at hi
    rw [Nat.testBit_and, Bool.and_eq_true, upto_bit, upto_bit]
    exact ⟨upt_tr hn hg ho hc ha hi ca, upt_tr hn hg ho hc hb hi cb⟩
theorem keep_join (hn : n ≤ 10) (hg : ∀ k, k < n → g k < pw n) (ho : Ord n g) {a b c : Nat} (ha : a < n) (hb : b < n) (hc : c < n) (h1 : (bnd g n (pw a ||| pw b) true).testBit c = true) (h2 : ∀ d, d < n → (bnd g n (pw a ||| pw b) true).testBit d = true → upt g c d = true) : ctj g n (ctp g n a) (ctp g n b) = ctp g n c := by
  obtain ⟨q1, q2⟩ := ctj_is (g := g) (n := n) (x := ctp g n a) (y := ctp g n b)
  refine at_one q1 (ctp_is hg hc).1 ?_
  rw [q2, (ctp_is hg ha).2, (ctp_is hg hb).2, (ctp_is hg hc).2]
  obtain ⟨_, ca, cb⟩ := (high2 ha hb).1 h1
  refine Sub.eq (fun i hi => ?_) (fun i hi => ?_)
  · unfold cutW at hi
    rw [low_bit] at hi
    rw [upto_bit]
    refine hi.2 c hc ?_
    rw [up_bit]
    refine ⟨hc, fun k hk hb' => ?_⟩
    rw [Nat.testBit_or, Bool.or_eq_true, upto_bit, upto_bit] at hb'
    rcases hb' with h | h
    · exact upt_tr hn hg ho ha hc h ca
    · exact upt_tr hn hg ho hb hc h cb
  · have hin : i < n := bit_of_lt (upto_lt_pw hg hc) hi
    rw [upto_bit] at hi
    unfold cutW
    rw [low_bit]
    refine ⟨hin, fun k hk hb' => ?_⟩
    rw [up_bit] at hb'
    have ka := hb'.2 a ha (by rw [Nat.testBit_or, upto_bit, upt_refl]; rfl)
    have kb := hb'.2 b hb (by rw [Nat.testBit_or, upto_bit g b b, upt_refl]; simp)
    exact upt_tr hn hg ho hc hk hi (h2 k hk ((high2 ha hb).2 ⟨hk, ka, kb⟩))
/-- Is c up to all above both, as far as k? -/
def jnT (g : Nat → Nat) (s c : Nat) : Nat → Bool
  | 0 => s.testBit c
  | k + 1 => jnT g s c k && (!(s.testBit k) || upt g c k)
theorem jnT_iff {s c : Nat} : ∀ k, jnT g s c k = true ↔ s.testBit c = true ∧ ∀ d, d < k → s.testBit d = true → upt g c d = true
  | 0 => ⟨fun h => ⟨h, fun d hd => absurd hd (Nat.not_lt_zero _)⟩, fun h => h.1⟩
  | k + 1 => by
    have ih := jnT_iff (s := s) (c := c) k
    simp only [jnT, Bool.and_eq_true, ih]
    constructor
    · rintro ⟨⟨h1, h2⟩, h3⟩
      refine ⟨h1, fun d hd hb => ?_⟩
      by_cases e : d = k
      · subst e; rw [hb] at h3; simpa using h3
      · exact h2 d (by omega) hb
    · rintro ⟨h1, h2⟩
      refine ⟨⟨h1, fun d hd => h2 d (by omega)⟩, ?_⟩
      cases e : s.testBit k
      · rfl
      · simpa using h2 k (by omega) e
theorem add_ok : ((List.range 1024).all fun x => (List.range 10).all fun c => x.testBit c || (x + 2 ^ c == (x ||| 2 ^ c))) = true := by decide +kernel
theorem below_add (hn : n ≤ 10) (hg : ∀ k, k < n → g k < pw n) (ho : Ord n g) {c : Nat} (hc : c < n) : g c + pw c = upto g c := by
  have h := (ho c hc).1
  have h2 := List.all_eq_true.1 (List.all_eq_true.1 add_ok (g c) (List.mem_range.2 (set_small (hg c hc) hn))) c (List.mem_range.2 (by omega))
  rw [h, Bool.false_or, beq_iff_eq] at h2
  exact h2
end
end Go.Proofs.YtpdhfibollealaaDoor
