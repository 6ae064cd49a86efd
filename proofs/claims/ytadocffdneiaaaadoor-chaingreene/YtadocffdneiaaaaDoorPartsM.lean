/-
  The first points of the chains, and how many they are: plain facts. No Go text here. Conditions: at most ten points.
-/
import Derived.Test.YtadocffdneiaaaaDoorFollowM
import Derived.Test.YtadocffdneiaaaaDoorPoints
namespace Go.Proofs.YtadocffdneiaaaaDoor
open Go.RowKit

/-- Does one of the first k go to a point? -/
def hitB (G : Nat → Int) (k p : Nat) : Bool := decide (∃ u, u < k ∧ G u = (p : Int))
theorem hitB_iff (G : Nat → Int) (k p : Nat) : hitB G k p = true ↔ ∃ u, u < k ∧ G u = (p : Int) := by unfold hitB; exact decide_eq_true_iff
/-- To whom none of the first k goes. -/
def fr (n : Nat) (G : Nat → Int) (k : Nat) : Nat := setBy (fun p => !hitB G k p) n
theorem fr_lt (n : Nat) (G : Nat → Int) (k : Nat) : fr n G k < pw n := setBy_lt _ n
theorem setBy_all : ∀ n, setBy (fun _ => true) n = pw n - 1
  | 0 => rfl
  | n + 1 => by
    have := pw_pos n
    rw [setBy_yes rfl, setBy_all n, pw_succ]; omega
theorem fr_zero (n : Nat) (G : Nat → Int) : fr n G 0 = pw n - 1 := by
  rw [← setBy_all, fr]
  refine setBy_congr n fun p _ => ?_
  cases h : hitB G 0 p
  · rfl
  · obtain ⟨u, hu, _⟩ := (hitB_iff G 0 p).1 h
    exact absurd hu (Nat.not_lt_zero _)
theorem hit_skip {G : Nat → Int} {k p : Nat} (h : G k = -1) : hitB G (k + 1) p = hitB G k p := by
  rw [Bool.eq_iff_iff, hitB_iff, hitB_iff]
  constructor
  · rintro ⟨u, hu, e⟩
    refine ⟨u, ?_, e⟩
    have : u ≠ k := fun e2 => by rw [e2, h] at e; omega
    omega
  · rintro ⟨u, hu, e⟩; exact ⟨u, by omega, e⟩
theorem fr_skip {n : Nat} {G : Nat → Int} {k : Nat} (h : G k = -1) : fr n G (k + 1) = fr n G k := by
  rw [fr, fr]; exact setBy_congr n fun p _ => by rw [hit_skip h]
theorem fr_put {n : Nat} {G : Nat → Int} {k q : Nat} (hn : n ≤ 10) (h : G k = (q : Nat)) (hq : q < n) : lack (fr n G k) (pw q) = fr n G (k + 1) := by
  have hp := pw_le n hn
  have hq2 := pw_small q (by omega)
  have h1 := fr_lt n G k
  refine eq_of_bits (n := n) (Nat.lt_of_le_of_lt (lack_le _ _) h1) (fr_lt n G (k + 1)) fun i hi => ?_
  rw [lack_bit _ _ _ (by omega) (by omega), fr, fr, setBy_bit, setBy_bit, pw_bit]
  simp only [hi, decide_true, Bool.true_and]
  have e : hitB G (k + 1) i = (hitB G k i || decide (q = i)) := by
    rw [Bool.eq_iff_iff, Bool.or_eq_true, hitB_iff, hitB_iff, decide_eq_true_iff]
    constructor
    · rintro ⟨u, hu, e⟩
      rcases Nat.lt_or_ge u k with h2 | h2
      · exact .inl ⟨u, h2, e⟩
      · have : u = k := by omega
        subst this
        exact .inr (by rw [h] at e; omega)
    · rintro (⟨u, hu, e⟩ | e)
      · exact ⟨u, by omega, e⟩
      · exact ⟨k, by omega, by rw [h, e]⟩
  rw [e]
  cases hitB G k i <;> cases decide (q = i) <;> rfl
theorem fr_bit {n : Nat} {G : Nat → Int} {p : Nat} (hp : p < n) : (fr n G n).testBit p = true ↔ Frst n G p := by
  rw [fr, setBy_bit]
  simp only [hp, decide_true, Bool.true_and]
  cases h : hitB G n p
  · refine ⟨fun _ u hu e => ?_, fun _ => rfl⟩
    have := (hitB_iff G n p).2 ⟨u, hu, e⟩
    rw [h] at this; cases this
  · refine ⟨fun h2 => by simp at h2, fun h2 => ?_⟩
    obtain ⟨u, hu, e⟩ := (hitB_iff G n p).1 h
    exact absurd e (h2 u hu)
/-- Who goes to a point. -/
def pre (G : Nat → Int) (p : Nat) : Nat → Nat
  | 0 => 0
  | k + 1 => if G k = (p : Int) then k else pre G p k
theorem pre_spec {G : Nat → Int} {p : Nat} : ∀ k, (∃ u, u < k ∧ G u = (p : Int)) → pre G p k < k ∧ G (pre G p k) = (p : Int)
  | 0, ⟨u, hu, _⟩ => absurd hu (Nat.not_lt_zero _)
  | k + 1, ⟨u, hu, e⟩ => by
    by_cases h : G k = (p : Int)
    · rw [pre, if_pos h]; exact ⟨by omega, h⟩
    · rw [pre, if_neg h]
      have hne : u ≠ k := fun e2 => h (by rw [← e2]; exact e)
      obtain ⟨h1, h2⟩ := pre_spec k ⟨u, by omega, e⟩
      exact ⟨by omega, h2⟩
theorem fr_count {g : Nat → Nat} {n : Nat} {G : Nat → Int} (hn : n ≤ 10) (hG : Nxt g n G) : pc (fr n G n) + cntM G n = n := by
  have e1 := pc_cnt hn (fr_lt n G n)
  have e2 : cnt2 (fun j => (fr n G n).testBit j) n = cnt2 (fun j => !hitB G n j) n := cnt2_congr n fun k hk => by rw [fr, setBy_bit]; simp [hk]
  have e3 := cnt2_not (fun j => hitB G n j) n
  have e4 : cnt2 (goB G) n ≤ cnt2 (fun j => hitB G n j) n := cnt2_inj (fun u => (G u).toNat) n (goB G) n (fun j => hitB G n j) (fun u hu h => by
    rcases hG.up u hu with h1 | ⟨j, hj, he, _⟩
    · simp [goB, h1] at h
    · rw [he, Int.toNat_natCast]; exact ⟨hj, (hitB_iff G n j).2 ⟨u, hu, he⟩⟩) (fun u v hu hv h1 h2 e => by
    have g1 : G u ≠ -1 := by simpa [goB] using h1
    have g2 : G v ≠ -1 := by simpa [goB] using h2
    refine hG.inj u v hu hv ?_ g1
    rcases hG.up u hu with h3 | ⟨j, hj, he, _⟩
    · exact absurd h3 g1
    · rcases hG.up v hv with h4 | ⟨j', hj', he', _⟩
      · exact absurd h4 g2
      · simp only [he, he', Int.toNat_natCast] at e
        rw [he, he', e])
  have e5 : cnt2 (fun j => hitB G n j) n ≤ cnt2 (goB G) n := cnt2_inj (fun p => pre G p n) n (fun j => hitB G n j) n (goB G) (fun p _ h => by
    obtain ⟨h1, h2⟩ := pre_spec n ((hitB_iff G n p).1 h)
    exact ⟨h1, by simp only [goB, h2]; simp⟩) (fun p q _ _ h1 h2 e => by
    obtain ⟨_, a2⟩ := pre_spec n ((hitB_iff G n p).1 h1)
    obtain ⟨_, b2⟩ := pre_spec n ((hitB_iff G n q).1 h2)
    rw [e, b2] at a2
    omega)
  unfold cntM
  omega
theorem pts_count (s : Nat) : ∀ k, (pts s k).length = pcn s k
  | 0 => rfl
  | k + 1 => by
    have ih := pts_count s k
    cases h : s.testBit k
    · rw [pts_no h, ih]; simp [pcn, h]
    · rw [pts_yes h, List.length_append, ih]; simp [pcn, h]
theorem pts_mem (s : Nat) : ∀ k i, i ∈ pts s k ↔ i < k ∧ s.testBit i = true
  | 0, i => by simp [pts]
  | k + 1, i => by
    have ih := pts_mem s k i
    cases h : s.testBit k
    · rw [pts_no h, ih]
      constructor
      · rintro ⟨h1, h2⟩; exact ⟨by omega, h2⟩
      · rintro ⟨h1, h2⟩
        have : i ≠ k := fun e => by rw [e, h] at h2; cases h2
        exact ⟨by omega, h2⟩
    · rw [pts_yes h, List.mem_append, ih]
      constructor
      · rintro (⟨h1, h2⟩ | h1)
        · exact ⟨by omega, h2⟩
        · have : i = k := by simpa using h1
          rw [this]; exact ⟨by omega, h⟩
      · rintro ⟨h1, h2⟩
        by_cases e : i = k
        · exact .inr (by simp [e])
        · exact .inl ⟨by omega, h2⟩
theorem pts_pair (s : Nat) : ∀ k, (pts s k).Pairwise (fun a b => a < b)
  | 0 => by simp [pts]
  | k + 1 => by
    have ih := pts_pair s k
    cases h : s.testBit k
    · rw [pts_no h]; exact ih
    · rw [pts_yes h]
      refine List.pairwise_append.2 ⟨ih, by simp, fun a ha b hb => ?_⟩
      have hb : b = k := by simpa using hb
      rw [hb]; exact ((pts_mem s k a).1 ha).1
end Go.Proofs.YtadocffdneiaaaaDoor
