/-
  Lists of congruences, sorted: one list. There are just two congruences if the least ones of two elements are one. Plain facts on numbers.
-/
import Derived.Test.YtappekjkcgmheaaCgM
namespace Go.Proofs.Ytappekjkcgmheaa
open Go.RowKit

theorem php : ∀ {k n : Nat} {f : Nat → Nat}, (∀ a, a < n → f a < k) → (∀ a b, a < b → b < n → f a ≠ f b) → n ≤ k
  | 0, n, f, h, _ => by
    rcases Nat.eq_zero_or_pos n with h0 | h0
    · omega
    · exact absurd (h 0 h0) (Nat.not_lt_zero _)
  | k + 1, n, f, h, hd => by
    by_cases hk : ∃ a, a < n ∧ f a = k
    · obtain ⟨a, ha, e⟩ := hk
      have ih := php (k := k) (n := n - 1) (f := fun b => if b < a then f b else f (b + 1)) (fun b hb => by
        by_cases hba : b < a
        · simp only [hba, if_true]
          have h1 := h b (by omega)
          have h2 := hd b a hba ha
          omega
        · simp only [hba, if_false]
          have h1 := h (b + 1) (by omega)
          have h2 := hd a (b + 1) (by omega) (by omega)
          omega) (fun b c hbc hc => by
        by_cases hba : b < a
        · by_cases hca : c < a
          · simp only [hba, hca, if_true]; exact hd b c hbc (by omega)
          · simp only [hba, hca, if_true, if_false]; exact hd b (c + 1) (by omega) (by omega)
        · have hca : ¬ c < a := by omega
          simp only [hba, hca, if_false]; exact hd (b + 1) (c + 1) (by omega) (by omega))
      omega
    · exact Nat.le_succ_of_le (php (k := k) (n := n) (f := f) (fun a ha => by
        have h1 := h a ha
        have h2 : f a ≠ k := fun e => hk ⟨a, ha, e⟩
        omega) hd)
/-- As many that are apart find room in what has all. -/
theorem few_of {q : Nat} {m j : Nat → Nat → Nat} {n k : Nat} {G H : Nat → Nat → Nat} (hc : ∀ a, a < n → Cg q m j (G a)) (hd : ∀ a b, a < b → b < n → ¬ ∀ i, i < q → G a i = G b i) (hall : ∀ d, Con q m j d → ∃ a, a < k ∧ ∀ i, i < q → H a i = nbr d i) : n ≤ k := by
  have key : ∀ a, ∃ b, a < n → b < k ∧ ∀ i, i < q → H b i = G a i := fun a => by
    by_cases ha : a < n
    · obtain ⟨c, h1, h2⟩ := hc a ha
      obtain ⟨b, hb, e⟩ := hall c h1
      exact ⟨b, fun _ => ⟨hb, fun i hi => by rw [e i hi, h2 i hi]⟩⟩
    · exact ⟨0, fun h => absurd h ha⟩
  obtain ⟨f, hf⟩ := Classical.axiomOfChoice key
  exact php (f := f) (fun a ha => (hf a ha).1) (fun a b hab hb e => hd a b hab hb (fun i hi => by rw [← (hf a (by omega)).2 i hi, ← (hf b hb).2 i hi, e]))
theorem srt_diff {q n : Nat} {G : Nat → Nat → Nat} (hs : ∀ a b, a < b → b < n → cmpF (G a) (G b) q 0 < 0) : ∀ a b, a < b → b < n → ¬ ∀ i, i < q → G a i = G b i := fun a b hab hb e =>
  cmp_irr (G b) q (cmp_congr e (fun _ _ => rfl) (hs a b hab hb))
/-- Sorted lists of all congruences are one list. -/
theorem srt_one {q : Nat} {m j : Nat → Nat → Nat} {n k : Nat} {G H : Nat → Nat → Nat} (hc : ∀ a, a < n → Cg q m j (G a)) (hs : ∀ a b, a < b → b < n → cmpF (G a) (G b) q 0 < 0) (hall : ∀ d, Con q m j d → ∃ a, a < n ∧ ∀ i, i < q → G a i = nbr d i)
    (hc' : ∀ a, a < k → Cg q m j (H a)) (hs' : ∀ a b, a < b → b < k → cmpF (H a) (H b) q 0 < 0) (hall' : ∀ d, Con q m j d → ∃ a, a < k ∧ ∀ i, i < q → H a i = nbr d i) : n = k ∧ ∀ a, a < n → ∀ i, i < q → G a i = H a i := by
  have e1 : n ≤ k := few_of hc (srt_diff hs) hall'
  have e2 : k ≤ n := few_of hc' (srt_diff hs') hall
  obtain rfl : n = k := by omega
  have in1 : ∀ a, a < n → ∃ b, b < n ∧ ∀ i, i < q → H b i = G a i := fun a ha => by
    obtain ⟨c, h1, h2⟩ := hc a ha
    obtain ⟨b, hb, e⟩ := hall' c h1
    exact ⟨b, hb, fun i hi => by rw [e i hi, h2 i hi]⟩
  have in2 : ∀ a, a < n → ∃ b, b < n ∧ ∀ i, i < q → G b i = H a i := fun a ha => by
    obtain ⟨c, h1, h2⟩ := hc' a ha
    obtain ⟨b, hb, e⟩ := hall c h1
    exact ⟨b, hb, fun i hi => by rw [e i hi, h2 i hi]⟩
  refine ⟨rfl, fun a => ?_⟩
  induction a using Nat.strongRecOn with
  | ind a ih =>
    intro ha i hi
    obtain ⟨b, hb, eb⟩ := in1 a ha
    obtain ⟨c, hc1, ec⟩ := in2 a ha
    have hba : ¬ b < a := fun h => srt_diff hs b a h ha (fun t ht => by rw [ih b h hb t ht, eb t ht])
    have hca : ¬ c < a := fun h => srt_diff hs' c a h ha (fun t ht => by rw [← ih c h hc1 t ht, ec t ht])
    by_cases e : b = a
    · subst e; exact (eb i hi).symm
    · have h1 : cmpF (H a) (G a) q 0 < 0 := cmp_congr (fun _ _ => rfl) eb (hs' a b (by omega) hb)
      by_cases e' : c = a
      · subst e'; exact ec i hi
      · have h2 : cmpF (G a) (H a) q 0 < 0 := cmp_congr (fun _ _ => rfl) ec (hs a c (by omega) hc1)
        exact absurd (cmp_trans h1 h2) (cmp_irr _ _)
/-- Just two congruences: the least ones of two elements are one. -/
theorem two_iff {q : Nat} {m j : Nat → Nat → Nat} {n k : Nat} {G H : Nat → Nat → Nat} (hc : ∀ a, a < n → Cg q m j (G a)) (hd : ∀ a b, a < b → b < n → ¬ ∀ i, i < q → G a i = G b i) (hall : ∀ d, Con q m j d → ∃ a, a < n ∧ ∀ i, i < q → G a i = nbr d i) (ho : OP q m j q 0 k H) : n = 2 ↔ k = 1 := by
  -- the least ones are congruences, apart, and none is the one of single elements
  have hcc : ∀ a, a < k + 1 → Cg q m j (ad1 H k (fun x => x) a) := fun a ha => by
    by_cases e : a = k
    · subst e; rw [ad1_new]; exact ⟨fun x => x, con_id q m j, fun i _ => by rw [nbr_id]⟩
    · rw [ad1_old (by omega)]
      obtain ⟨x, y, _, _, hk⟩ := ho.come a (by omega)
      exact hk.cg
  have hdd : ∀ a b, a < b → b < k + 1 → ¬ ∀ i, i < q → ad1 H k (fun x => x) a i = ad1 H k (fun x => x) b i := fun a b hab hb => by
    by_cases e : b = k
    · subst e
      rw [ad1_new, ad1_old hab]
      intro h
      obtain ⟨x, y, hyx, hxq, c, hlc, e2⟩ := ho.come a hab
      have h1 := h x hxq
      have h2 := h y (by omega)
      have h3 : nbr c x = nbr c y := nbr_ker.2 (hlc.2.1 (x, y) (by simp))
      rw [e2 x hxq] at h1
      rw [e2 y (by omega)] at h2
      omega
    · rw [ad1_old (show a < k by omega), ad1_old (show b < k by omega)]; exact ho.diff a b hab (by omega)
  have hle : k + 1 ≤ n := few_of hcc hdd hall
  constructor
  · rintro rfl
    have : ∃ a, a < 2 ∧ ¬ ∀ i, i < q → G a i = i := by
      by_cases h0 : ∀ i, i < q → G 0 i = i
      · refine ⟨1, by omega, fun h1 => hd 0 1 (by omega) (by omega) (fun i hi => by rw [h0 i hi, h1 i hi])⟩
      · exact ⟨0, by omega, h0⟩
    obtain ⟨a, ha, hne⟩ := this
    obtain ⟨c, hcon, ec⟩ := hc a ha
    have : ∃ x y, y < x ∧ x < q ∧ c x = c y := by
      apply Classical.byContradiction
      intro hn
      refine hne fun i hi => ?_
      rw [ec i hi]
      have k1 : Ker q c (fun x => x) := fun s t hs ht e => by
        rcases Nat.lt_trichotomy s t with h | h | h
        · exact absurd ⟨t, s, h, ht, e.symm⟩ hn
        · exact h
        · exact absurd ⟨s, t, h, hs, e⟩ hn
      have k2 : Ker q (fun x => x) c := fun s t _ _ e => by rw [show s = t from e]
      rw [nbr_same k1 k2 i hi, nbr_id]
    obtain ⟨x, y, hyx, hxq, _⟩ := this
    obtain ⟨b, hb, _⟩ := ho.all x y hyx hxq (.inl hxq)
    omega
  · rintro rfl
    obtain ⟨x0, y0, hyx0, hxq0, hk0⟩ := ho.come 0 (by omega)
    -- the one that is there has all together
    have hallp : ∀ x y, y < x → x < q → H 0 x = H 0 y := fun x y hyx hxq => by
      obtain ⟨a, ha, c, hlc, e⟩ := ho.all x y hyx hxq (.inl hxq)
      obtain rfl : a = 0 := by omega
      rw [e x hxq, e y (by omega)]
      exact nbr_ker.2 (hlc.2.1 (x, y) (by simp))
    have hle2 : n ≤ 2 := by
      rcases Nat.lt_or_ge 2 n with h3 | h3
      · exfalso
        -- each is the one of single elements, or that of all together
        have two : ∀ a, a < n → (∀ i, i < q → G a i = i) ∨ (∀ i, i < q → G a i = 0) := fun a ha => by
          obtain ⟨c, hcon, ec⟩ := hc a ha
          by_cases hx : ∃ x y, y < x ∧ x < q ∧ c x = c y
          · obtain ⟨x, y, hyx, hxq, e⟩ := hx
            right
            obtain ⟨b, hb, c1, hlc, e1⟩ := ho.all x y hyx hxq (.inl hxq)
            obtain rfl : b = 0 := by omega
            have kc : Ker q c1 c := hlc.2.2 c hcon (fun p hp => by obtain rfl := List.mem_singleton.1 hp; exact e)
            have all0 : ∀ s, s < q → c s = c 0 := fun s hs => by
              rcases Nat.eq_zero_or_pos s with h0 | h0
              · rw [h0]
              · have h1 := hallp s 0 h0 hs
                rw [e1 s hs, e1 0 (by omega)] at h1
                exact kc s 0 hs (by omega) (nbr_ker.1 h1)
            intro i hi
            rw [ec i hi]
            have h0 : nbr c i = nbr c 0 := nbr_ker.2 (all0 i hi)
            have h1 : nbr c 0 ≤ 0 := nbr_le' c 0
            omega
          · left
            intro i hi
            rw [ec i hi]
            have k1 : Ker q c (fun x => x) := fun s t hs ht e => by
              rcases Nat.lt_trichotomy s t with h | h | h
              · exact absurd ⟨t, s, h, ht, e.symm⟩ hx
              · exact h
              · exact absurd ⟨s, t, h, hs, e⟩ hx
            have k2 : Ker q (fun x => x) c := fun s t _ _ e => by rw [show s = t from e]
            rw [nbr_same k1 k2 i hi, nbr_id]
        have t0 := two 0 (by omega)
        have t1 := two 1 (by omega)
        have t2 := two 2 (by omega)
        have d01 := hd 0 1 (by omega) (by omega)
        have d02 := hd 0 2 (by omega) (by omega)
        have d12 := hd 1 2 (by omega) (by omega)
        rcases t0 with a0 | a0 <;> rcases t1 with a1 | a1 <;> rcases t2 with a2 | a2 <;>
          first
            | exact d01 (fun i hi => (a0 i hi).trans (a1 i hi).symm)
            | exact d02 (fun i hi => (a0 i hi).trans (a2 i hi).symm)
            | exact d12 (fun i hi => (a1 i hi).trans (a2 i hi).symm)
      · exact h3
    omega
end Go.Proofs.Ytappekjkcgmheaa
