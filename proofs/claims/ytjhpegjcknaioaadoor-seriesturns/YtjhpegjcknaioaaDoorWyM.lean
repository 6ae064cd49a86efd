/-
  In how many ways the points of a set go one behind the other, each behind those that it needs: side by side, and one above the other; and that a right term counts them. Plain facts: no Go text here. Conditions: as each theorem says.
-/
import Derived.Test.YtjhpegjcknaioaaDoorTlM
import Derived.Test.YtjhpegjcknaioaaDoorExtM
namespace Go.Proofs.YtjhpegjcknaioaaDoor

theorem sum_cg {φ ψ : Nat → Nat} : ∀ n, (∀ i, i < n → φ i = ψ i) → sumTo φ n = sumTo ψ n
  | 0, _ => rfl
  | n + 1, h => by rw [sumTo, sumTo, sum_cg n (fun i hi => h i (by omega)), h n (by omega)]
theorem sum_ad {φ ψ : Nat → Nat} : ∀ n, sumTo (fun i => φ i + ψ i) n = sumTo φ n + sumTo ψ n
  | 0 => rfl
  | n + 1 => by rw [sumTo, sumTo, sumTo, sum_ad n]; omega
theorem sum_zr : ∀ n, sumTo (fun _ => 0) n = 0
  | 0 => rfl
  | n + 1 => by rw [sumTo, sum_zr n]
theorem sum_ml {φ : Nat → Nat} (c : Nat) : ∀ n, sumTo (fun i => c * φ i) n = c * sumTo φ n
  | 0 => rfl
  | n + 1 => by rw [sumTo, sumTo, sum_ml c n, Nat.mul_add]
/-- May i come next, behind s, among S? -/
def av (L : Nat → Nat → Bool) (S s i : Nat) : Bool := (S.testBit i && !s.testBit i) && (List.range 10).all fun j => !(S.testBit j && L j i) || s.testBit j
theorem av_iff {L : Nat → Nat → Bool} {S s i : Nat} (hS : S < 1024) : av L S s i = true ↔ S.testBit i = true ∧ s.testBit i = false ∧ ∀ j, S.testBit j = true → L j i = true → s.testBit j = true := by
  unfold av
  simp only [Bool.and_eq_true, Bool.not_eq_true', List.all_eq_true, List.mem_range, Bool.or_eq_true, and_assoc]
  constructor
  · rintro ⟨h1, h2, h3⟩
    refine ⟨h1, h2, fun j hj hl => ?_⟩
    rcases h3 j (bit_of_lt (n := 10) hS hj) with h | h
    · simp [hj, hl] at h
    · exact h
  · rintro ⟨h1, h2, h3⟩
    refine ⟨h1, h2, fun j _ => ?_⟩
    cases e : (S.testBit j && L j i)
    · exact .inl rfl
    · rw [Bool.and_eq_true] at e
      exact .inr (h3 j e.1 e.2)
def wy (L : Nat → Nat → Bool) (S : Nat) : Nat → Nat → Nat
  | 0, _ => 1
  | f + 1, s => sumTo (fun i => if av L S s i = true then wy L S f (s ||| pw i) else 0) 10
theorem wy_succ (L : Nat → Nat → Bool) (S f s : Nat) : wy L S (f + 1) s = sumTo (fun i => if av L S s i = true then wy L S f (s ||| pw i) else 0) 10 := rfl
theorem pc_add {s i : Nat} (h : s.testBit i = false) (hi : i < 10) : pc (s ||| pw i) = pc s + 1 := by
  rw [pc_or, pc_pw i hi]
  intro x h1 h2
  rw [pw_bit, decide_eq_true_eq] at h2
  subst h2; rw [h] at h1; cases h1
theorem same_of {a A : Nat} (hA : A < 1024) (hs : ∀ x, a.testBit x = true → A.testBit x = true) (h : pc A = pc a) : ∀ x, A.testBit x = true → a.testBit x = true := fun x hx => by
  cases e : a.testBit x
  · have := pc_strict (s := a) (t := A) (x := x) hs hA hx e
    omega
  · rfl
theorem or_in {a i A : Nat} (hs : ∀ x, a.testBit x = true → A.testBit x = true) (hi : A.testBit i = true) : ∀ x, (a ||| pw i).testBit x = true → A.testBit x = true := fun x hx => by
  rw [Nat.testBit_or, Bool.or_eq_true, pw_bit, decide_eq_true_eq] at hx
  rcases hx with h | h
  · exact hs x h
  · subst h; exact hi
/-- So many ways to mix p and q. -/
def cq (p q : Nat) : Nat := bi (p + q) q
def cqOk (p q : Nat) : Bool := (cq 0 q == 1 && cq p 0 == 1) && (p == 0 || (q == 0 || cq p q == cq (p - 1) q + cq p (q - 1)))
theorem cq_all : ∀ p : Nat, p < 11 → ∀ q : Nat, q < 11 → p + q ≤ 10 → cqOk p q = true := by decide +kernel
theorem cq_tab (p : Nat) (hp : p < 11) (q : Nat) (hq : q < 11) (h : p + q ≤ 10) : cq 0 q = 1 ∧ cq p 0 = 1 ∧ (0 < p → 0 < q → cq p q = cq (p - 1) q + cq p (q - 1)) := by
  have k := cq_all p hp q hq h
  unfold cqOk at k
  simp only [Bool.and_eq_true, Bool.or_eq_true, beq_iff_eq] at k
  refine ⟨k.1.1, k.1.2, fun h1 h2 => ?_⟩
  rcases k.2 with e | e | e
  · omega
  · omega
  · exact e
theorem wy_beside {L : Nat → Nat → Bool} {A B : Nat} (hA : A < 1024) (hB : B < 1024) (dis : ∀ x, A.testBit x = true → B.testBit x = true → False) (cr : ∀ a b, A.testBit a = true → B.testBit b = true → L a b = false ∧ L b a = false) :
    ∀ m p q a b, p + q = m → m ≤ 10 → (∀ x, a.testBit x = true → A.testBit x = true) → (∀ x, b.testBit x = true → B.testBit x = true) → pc A = pc a + p → pc B = pc b + q → wy L (A ||| B) (p + q) (a ||| b) = cq p q * (wy L A p a * wy L B q b)
  | 0, p, q, a, b, hm, _, _, _, _, _ => by
    obtain rfl : p = 0 := by omega
    obtain rfl : q = 0 := by omega
    show 1 = cq 0 0 * (1 * 1)
    decide
  | m + 1, p, q, a, b, hm, h10, ha, hb, pa, pb => by
    have hS : A ||| B < 1024 := Nat.or_lt_two_pow (n := 10) hA hB
    have sb : ∀ x, (A ||| B).testBit x = true ↔ A.testBit x = true ∨ B.testBit x = true := fun x => by rw [Nat.testBit_or, Bool.or_eq_true]
    have ob : ∀ x, (a ||| b).testBit x = true ↔ a.testBit x = true ∨ b.testBit x = true := fun x => by rw [Nat.testBit_or, Bool.or_eq_true]
    have avA : ∀ i, A.testBit i = true → (av L (A ||| B) (a ||| b) i = true ↔ av L A a i = true) := fun i hi => by
      rw [av_iff hS, av_iff hA]
      constructor
      · rintro ⟨_, h2, h3⟩
        refine ⟨hi, ?_, fun j hj hl => ?_⟩
        · cases e : a.testBit i
          · rfl
          · rw [(ob i).2 (.inl e)] at h2; cases h2
        · rcases (ob j).1 (h3 j ((sb j).2 (.inl hj)) hl) with h | h
          · exact h
          · exact (dis j hj (hb j h)).elim
      · rintro ⟨_, h2, h3⟩
        refine ⟨(sb i).2 (.inl hi), ?_, fun j hj hl => ?_⟩
        · cases e : (a ||| b).testBit i
          · rfl
          · rcases (ob i).1 e with h | h
            · rw [h2] at h; cases h
            · exact (dis i hi (hb i h)).elim
        · rcases (sb j).1 hj with h | h
          · exact (ob j).2 (.inl (h3 j h hl))
          · rw [(cr i j hi h).2] at hl; cases hl
    have avB : ∀ i, B.testBit i = true → (av L (A ||| B) (a ||| b) i = true ↔ av L B b i = true) := fun i hi => by
      rw [av_iff hS, av_iff hB]
      constructor
      · rintro ⟨_, h2, h3⟩
        refine ⟨hi, ?_, fun j hj hl => ?_⟩
        · cases e : b.testBit i
          · rfl
          · rw [(ob i).2 (.inr e)] at h2; cases h2
        · rcases (ob j).1 (h3 j ((sb j).2 (.inr hj)) hl) with h | h
          · exact (dis j (ha j h) hj).elim
          · exact h
      · rintro ⟨_, h2, h3⟩
        refine ⟨(sb i).2 (.inr hi), ?_, fun j hj hl => ?_⟩
        · cases e : (a ||| b).testBit i
          · rfl
          · rcases (ob i).1 e with h | h
            · exact (dis i (ha i h) hi).elim
            · rw [h2] at h; cases h
        · rcases (sb j).1 hj with h | h
          · rw [(cr j i h hi).1] at hl; cases hl
          · exact (ob j).2 (.inr (h3 j h hl))
    have e1 : p + q = m + 1 := hm
    rw [e1, wy_succ]
    have split : ∀ i, i < 10 → (if av L (A ||| B) (a ||| b) i = true then wy L (A ||| B) m ((a ||| b) ||| pw i) else 0) = (if av L A a i = true then wy L (A ||| B) m ((a ||| pw i) ||| b) else 0) + (if av L B b i = true then wy L (A ||| B) m (a ||| (b ||| pw i)) else 0) := fun i _ => by
      have r1 : (a ||| b) ||| pw i = (a ||| pw i) ||| b := by rw [Nat.or_assoc, Nat.or_comm b, ← Nat.or_assoc]
      have r2 : (a ||| b) ||| pw i = a ||| (b ||| pw i) := Nat.or_assoc _ _ _
      by_cases iA : A.testBit i = true
      · have nB : ¬ av L B b i = true := fun k => dis i iA ((av_iff hB).1 k).1
        rw [if_neg nB, Nat.add_zero]
        by_cases k : av L A a i = true
        · rw [if_pos k, if_pos ((avA i iA).2 k), r1]
        · rw [if_neg k, if_neg (fun k' => k ((avA i iA).1 k'))]
      · have nA : ¬ av L A a i = true := fun k => iA ((av_iff hA).1 k).1
        rw [if_neg nA, Nat.zero_add]
        by_cases iB : B.testBit i = true
        · by_cases k : av L B b i = true
          · rw [if_pos k, if_pos ((avB i iB).2 k), r2]
          · rw [if_neg k, if_neg (fun k' => k ((avB i iB).1 k'))]
        · rw [if_neg (fun k => iB ((av_iff hB).1 k).1), if_neg (fun k => by rcases (sb i).1 ((av_iff hS).1 k).1 with h | h; exact iA h; exact iB h)]
    rw [sum_cg 10 split, sum_ad]
    have SA : sumTo (fun i => if av L A a i = true then wy L (A ||| B) m ((a ||| pw i) ||| b) else 0) 10 = if p = 0 then 0 else cq (p - 1) q * (wy L A p a * wy L B q b) := by
      cases p with
      | zero =>
        rw [if_pos rfl, sum_cg 10 (ψ := fun _ => 0) (fun i _ => ?_), sum_zr]
        refine if_neg fun k => ?_
        have := (av_iff hA).1 k
        rw [same_of hA ha (by omega) i this.1] at this
        cases this.2.1
      | succ p =>
        rw [if_neg (by omega), sum_cg 10 (ψ := fun i => (cq p q * wy L B q b) * (if av L A a i = true then wy L A p (a ||| pw i) else 0)) (fun i hi => ?_), sum_ml, ← wy_succ]
        · show _ = cq (p + 1 - 1) q * _
          rw [Nat.add_sub_cancel, Nat.mul_assoc, Nat.mul_comm (wy L B q b)]
        · by_cases k : av L A a i = true
          · rw [if_pos k, if_pos k]
            have kk := (av_iff hA).1 k
            have ih := wy_beside hA hB dis cr m p q (a ||| pw i) b (by omega) (by omega) (or_in ha kk.1) hb (by rw [pc_add kk.2.1 hi]; omega) pb
            rw [show p + q = m by omega] at ih
            rw [ih, Nat.mul_assoc, Nat.mul_comm (wy L B q b)]
          · rw [if_neg k, if_neg k, Nat.mul_zero]
    have SB : sumTo (fun i => if av L B b i = true then wy L (A ||| B) m (a ||| (b ||| pw i)) else 0) 10 = if q = 0 then 0 else cq p (q - 1) * (wy L A p a * wy L B q b) := by
      cases q with
      | zero =>
        rw [if_pos rfl, sum_cg 10 (ψ := fun _ => 0) (fun i _ => ?_), sum_zr]
        refine if_neg fun k => ?_
        have := (av_iff hB).1 k
        rw [same_of hB hb (by omega) i this.1] at this
        cases this.2.1
      | succ q =>
        rw [if_neg (by omega), sum_cg 10 (ψ := fun i => (cq p q * wy L A p a) * (if av L B b i = true then wy L B q (b ||| pw i) else 0)) (fun i hi => ?_), sum_ml, ← wy_succ]
        · show _ = cq p (q + 1 - 1) * _
          rw [Nat.add_sub_cancel, Nat.mul_assoc]
        · by_cases k : av L B b i = true
          · rw [if_pos k, if_pos k]
            have kk := (av_iff hB).1 k
            have ih := wy_beside hA hB dis cr m p q a (b ||| pw i) (by omega) (by omega) ha (or_in hb kk.1) pa (by rw [pc_add kk.2.1 hi]; omega)
            rw [show p + q = m by omega] at ih
            rw [ih, Nat.mul_assoc]
          · rw [if_neg k, if_neg k, Nat.mul_zero]
    rw [SA, SB]
    obtain ⟨t1, t2, t3⟩ := cq_tab p (by omega) q (by omega) (by omega)
    by_cases p0 : p = 0
    · subst p0
      obtain ⟨u1, _, _⟩ := cq_tab 0 (by omega) (q - 1) (by omega) (by omega)
      rw [if_pos rfl, if_neg (by omega), t1, u1, Nat.zero_add]
    · by_cases q0 : q = 0
      · subst q0
        obtain ⟨_, u2, _⟩ := cq_tab (p - 1) (by omega) 0 (by omega) (by omega)
        rw [if_pos rfl, if_neg p0, t2, u2, Nat.add_zero]
      · rw [if_neg p0, if_neg q0, t3 (by omega) (by omega), Nat.add_mul]
theorem wy_upper {L : Nat → Nat → Bool} {A B : Nat} (hA : A < 1024) (hB : B < 1024) (dis : ∀ x, A.testBit x = true → B.testBit x = true → False) :
    ∀ q b, (∀ x, b.testBit x = true → B.testBit x = true) → wy L (A ||| B) q (A ||| b) = wy L B q b
  | 0, _, _ => rfl
  | q + 1, b, hb => by
    have hS : A ||| B < 1024 := Nat.or_lt_two_pow (n := 10) hA hB
    rw [wy_succ, wy_succ]
    refine sum_cg 10 fun i _ => ?_
    have key : av L (A ||| B) (A ||| b) i = true ↔ av L B b i = true := by
      rw [av_iff hS, av_iff hB]
      simp only [Nat.testBit_or, Bool.or_eq_true]
      constructor
      · rintro ⟨h1, h2, h3⟩
        have nA : A.testBit i = false := by cases e : A.testBit i; rfl; simp [e] at h2
        have nb : b.testBit i = false := by cases e : b.testBit i; rfl; simp [e] at h2
        refine ⟨h1.resolve_left (by simp [nA]), nb, fun j hj hl => ?_⟩
        rcases h3 j (.inr hj) hl with h | h
        · exact (dis j h hj).elim
        · exact h
      · rintro ⟨h1, h2, h3⟩
        have nA : A.testBit i = false := by
          cases e : A.testBit i
          · rfl
          · exact (dis i e h1).elim
        refine ⟨.inr h1, by simp [nA, h2], fun j hj hl => ?_⟩
        rcases hj with h | h
        · exact .inl h
        · exact .inr (h3 j h hl)
    by_cases k : av L B b i = true
    · rw [if_pos k, if_pos (key.2 k), Nat.or_assoc]
      exact wy_upper hA hB dis q (b ||| pw i) (or_in hb ((av_iff hB).1 k).1)
    · rw [if_neg k, if_neg (fun k' => k (key.1 k'))]
theorem wy_over {L : Nat → Nat → Bool} {A B q : Nat} (hA : A < 1024) (hB : B < 1024) (dis : ∀ x, A.testBit x = true → B.testBit x = true → False) (cr : ∀ a b, A.testBit a = true → B.testBit b = true → L a b = true ∧ L b a = false) :
    ∀ p a, (∀ x, a.testBit x = true → A.testBit x = true) → pc A = pc a + p → wy L (A ||| B) (p + q) a = wy L A p a * wy L B q 0
  | 0, a, ha, pa => by
    have e : a = A := by
      apply Nat.eq_of_testBit_eq
      intro x
      rw [Bool.eq_iff_iff]
      exact ⟨ha x, same_of hA ha (by omega) x⟩
    subst e
    rw [Nat.zero_add]
    have := wy_upper (L := L) hA hB dis q 0 (fun x h => by simp at h)
    rw [Nat.or_zero] at this
    rw [this]
    show _ = 1 * _
    rw [Nat.one_mul]
  | p + 1, a, ha, pa => by
    have hS : A ||| B < 1024 := Nat.or_lt_two_pow (n := 10) hA hB
    rw [show p + 1 + q = (p + q) + 1 by omega, wy_succ, wy_succ, Nat.mul_comm, ← sum_ml]
    refine sum_cg 10 fun i hi => ?_
    have key : av L (A ||| B) a i = true ↔ av L A a i = true := by
      rw [av_iff hS, av_iff hA]
      simp only [Nat.testBit_or, Bool.or_eq_true]
      constructor
      · rintro ⟨h1, h2, h3⟩
        have iA : A.testBit i = true := by
          rcases h1 with h | h
          · exact h
          · exfalso
            have e : pc A = pc a := by
              have hh : a = A := by
                apply Nat.eq_of_testBit_eq
                intro x
                rw [Bool.eq_iff_iff]
                exact ⟨ha x, fun k => h3 x (.inl k) (cr x i k h).1⟩
              rw [hh]
            omega
        exact ⟨iA, h2, fun j hj hl => h3 j (.inl hj) hl⟩
      · rintro ⟨h1, h2, h3⟩
        refine ⟨.inl h1, h2, fun j hj hl => ?_⟩
        rcases hj with h | h
        · exact h3 j h hl
        · rw [(cr i j h1 h).2] at hl; cases hl
    by_cases k : av L A a i = true
    · rw [if_pos k, if_pos (key.2 k)]
      have kk := (av_iff hA).1 k
      rw [wy_over hA hB dis cr p (a ||| pw i) (or_in ha kk.1) (by rw [pc_add kk.2.1 hi]; omega), Nat.mul_comm]
    · rw [if_neg k, if_neg (fun k' => k (key.1 k')), Nat.mul_zero]
theorem wy_point {L : Nat → Nat → Bool} {x : Nat} (hx : x < 10) (hi : L x x = false) : wy L (pw x) 1 0 = 1 := by
  have hl : pw x < 1024 := Nat.pow_lt_pow_right (by decide) hx
  have e : ∀ i, i < 10 → (if av L (pw x) 0 i = true then wy L (pw x) 0 (0 ||| pw i) else 0) = if i = x then 1 else 0 := fun i _ => by
    by_cases h : i = x
    · subst h
      have k : av L (pw i) 0 i = true := (av_iff hl).2 ⟨by rw [pw_bit]; simp, by simp, fun j hj hL => by
        rw [pw_bit, decide_eq_true_eq] at hj
        subst hj; rw [hi] at hL; cases hL⟩
      rw [if_pos k, if_pos rfl]; rfl
    · rw [if_neg h, if_neg fun k => h ?_]
      have := ((av_iff hl).1 k).1
      rw [pw_bit, decide_eq_true_eq] at this
      exact this.symm
  rw [wy_succ, sum_cg 10 e]
  have tab : ∀ x : Nat, x < 10 → sumTo (fun i => if i = x then 1 else 0) 10 = 1 := by decide +kernel
  exact tab x hx
/-- A right term counts the ways of its set. -/
theorem cr_wy {L : Nat → Nat → Bool} : ∀ {T : TT}, Ok L T → (∀ p, (st T).testBit p = true → L p p = false) → np T ≤ 10 → wy L (st T) (np T) 0 = cr T := by
  intro T
  induction T using TT.ind with
  | leaf => exact fun h _ _ => h.elim
  | mk k x n kid IHK =>
    intro h hir h10
    by_cases hk : k = 1
    · subst hk
      rcases h with ⟨_, h2, h3, h4⟩ | ⟨h1, _⟩
      · subst h2
        rw [st_eq, if_pos rfl] at hir ⊢
        show wy L (pw x.toNat) 1 0 = 1
        exact wy_point (by omega) (hir _ (by rw [pw_bit]; simp))
      · omega
    · obtain ⟨hk23, _, _, h4⟩ := h.kids hk
      rw [np_eq] at h10
      rw [st_eq, if_neg hk] at hir
      rw [st_eq, np_eq, cr_eq, if_neg hk, if_neg hk]
      have cnt : ∀ i, i ≤ n → npK k kid i = pc (stK kid i) := fun i => by
        induction i with
        | zero => intro _; show (if k = 1 then 1 else 0) = pc 0; rw [if_neg hk]; decide
        | succ i ih =>
          intro hi
          rw [npK_succ, stK_succ, pc_or, ih (by omega), (h4 i (by omega)).cnt]
          intro a h1 h2
          obtain ⟨j, hj, hb⟩ := (stK_bit kid a i).1 h1
          exact h.apart hk (by omega) (by omega) (by omega) hb h2
      have hK : ∀ i, i ≤ n → wy L (stK kid i) (npK k kid i) 0 = crK k kid i := fun i => by
        induction i with
        | zero => intro _; show wy L (stK kid 0) (if k = 1 then 1 else 0) 0 = 1; rw [if_neg hk]; rfl
        | succ i ih =>
          intro hi
          have ltK : stK kid i < 1024 := by
            have := cnt i (by omega)
            refine Nat.lt_pow_two_of_testBit (n := 10) _ fun j hj => ?_
            cases e : (stK kid i).testBit j
            · rfl
            · obtain ⟨l, hl, hb⟩ := (stK_bit kid j i).1 e
              have := bit_of_lt (n := 10) (h4 l (by omega)).lt hb
              omega
          have lt1 := (h4 i (by omega)).lt
          have dis : ∀ y, (stK kid i).testBit y = true → (st (kid i)).testBit y = true → False := fun y h1 h2 => by
            obtain ⟨j, hj, hb⟩ := (stK_bit kid y i).1 h1
            exact h.apart hk (by omega) (by omega) (by omega) hb h2
          have cross : ∀ a b, (stK kid i).testBit a = true → (st (kid i)).testBit b = true → (k = 2 → L a b = false) ∧ (k = 3 → L a b = true) ∧ L b a = false := fun a b ha hb => by
            obtain ⟨j, hj, hja⟩ := (stK_bit kid a i).1 ha
            rcases h with ⟨e, _⟩ | ⟨_, _, _, _, h5⟩
            · exact absurd e hk
            · exact (h5 j i hj hi a b hja hb).2
          have hm := npK_mono k kid (i + 1) (n - (i + 1))
          rw [show i + 1 + (n - (i + 1)) = n by omega, npK_succ] at hm
          have hkid := IHK _ (h4 i (by omega)) (fun p hp => hir p ((stK_bit kid p n).2 ⟨i, by omega, hp⟩)) (by omega)
          have c1 := cnt i (by omega)
          have c2 := (h4 i (by omega)).cnt
          have z0 : pc 0 = 0 := by decide
          rw [stK_succ, npK_succ, crK_succ, ← ih (by omega), ← hkid]
          rcases hk23 with e | e
          · subst e
            rw [if_pos rfl]
            have := wy_beside (L := L) ltK lt1 dis (fun a b ha hb => ⟨(cross a b ha hb).1 rfl, (cross a b ha hb).2.2⟩) _ (npK 2 kid i) (np (kid i)) 0 0 rfl (by omega) (fun y hy => by simp at hy) (fun y hy => by simp at hy) (by omega) (by omega)
            rw [Nat.or_zero] at this
            rw [this, npK_succ]
            unfold cq
            rw [Nat.mul_comm]
          · subst e
            rw [if_neg (by decide), Nat.mul_one]
            exact wy_over (L := L) (q := np (kid i)) ltK lt1 dis (fun a b ha hb => ⟨(cross a b ha hb).2.1 rfl, (cross a b ha hb).2.2⟩) (npK 3 kid i) 0 (fun y hy => by simp at hy) (by omega)
      exact hK n (Nat.le_refl _)
end Go.Proofs.YtjhpegjcknaioaaDoor
