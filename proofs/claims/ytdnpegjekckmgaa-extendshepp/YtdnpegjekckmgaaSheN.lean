/-
  Shepp's inequality: how many maps into a chain there are, and what is left of it when the chain grows. Plain facts: no Go text here. Conditions: at most ten points.
-/
import Derived.Test.YtdnpegjekckmgaaSheM
namespace Go.Proofs.Ytdnpegjekckmgaa
open Go.RowKit

def lsum (h : Nat → Nat) : List Nat → Nat
  | [] => 0
  | k :: l => h k + lsum h l
theorem lsum_congr {h h' : Nat → Nat} : ∀ {l : List Nat}, (∀ k, k ∈ l → h k = h' k) → lsum h l = lsum h' l
  | [], _ => rfl
  | k :: l, e => by rw [lsum, lsum, e k (List.mem_cons_self ..), lsum_congr fun x hx => e x (List.mem_cons_of_mem _ hx)]
theorem lsum_mulr (h : Nat → Nat) (c : Nat) : ∀ (l : List Nat), lsum (fun k => h k * c) l = lsum h l * c
  | [] => by simp [lsum]
  | k :: l => by rw [lsum, lsum, lsum_mulr h c l, Nat.add_mul]
theorem sumTo_lsum (h : Nat → Nat → Nat) (N : Nat) : ∀ (l : List Nat), sumTo (fun v => lsum (fun k => h k v) l) N = lsum (fun k => sumTo (h k) N) l
  | [] => by simp only [lsum]; rw [sumTo_const, Nat.mul_zero]
  | k :: l => by simp only [lsum]; rw [sumTo_add, sumTo_lsum h N l]
theorem lsum_le {h : Nat → Nat} {B : Nat} : ∀ {l : List Nat}, (∀ k, h k ≤ B) → lsum h l ≤ l.length * B
  | [], _ => by simp [lsum]
  | k :: l, e => by
    have h1 := lsum_le (l := l) e
    have h2 := e k
    rw [lsum, List.length_cons, Nat.succ_mul]; omega
theorem sumTo_at (c i : Nat) : ∀ n, i < n → sumTo (fun j => if j = i then c else 0) n = c
  | 0, h => absurd h (Nat.not_lt_zero _)
  | n + 1, h => by
    rw [sumTo]
    by_cases e : i = n
    · subst e
      have : sumTo (fun j => if j = i then c else 0) i = sumTo (fun _ => 0) i := sumTo_congr i fun k hk => if_neg (by omega)
      rw [this, sumTo_const, if_pos rfl]; omega
    · rw [sumTo_at c i n (by omega), if_neg (fun h => e h.symm), Nat.add_zero]
theorem sumTo_at_le (i : Nat) (n : Nat) : sumTo (fun j => if i = j then 1 else 0) n ≤ 1 := by
  rcases Nat.lt_or_ge i n with h | h
  · have : sumTo (fun j => if i = j then 1 else 0) n = sumTo (fun j => if j = i then 1 else 0) n := sumTo_congr n fun k _ => by
      by_cases e : i = k
      · rw [if_pos e, if_pos e.symm]
      · rw [if_neg e, if_neg (fun h => e h.symm)]
    rw [this, sumTo_at 1 i n h]; exact Nat.le_refl _
  · have : sumTo (fun j => if i = j then 1 else 0) n = sumTo (fun _ => 0) n := sumTo_congr n fun k hk => if_neg (by omega)
    rw [this, sumTo_const]; omega
theorem lsum_sumTo {h : Nat → Nat} {n : Nat} : ∀ {l : List Nat}, l.Nodup → (∀ i, i ∈ l → i < n) → lsum h l = sumTo (fun i => if i ∈ l then h i else 0) n
  | [], _, _ => by
    rw [sumTo_congr (ψ := fun _ => 0) n fun k _ => if_neg (List.not_mem_nil), sumTo_const]; rfl
  | i :: l, hd, hm => by
    obtain ⟨h1, h2⟩ := List.nodup_cons.1 hd
    rw [lsum, lsum_sumTo h2 fun k hk => hm k (List.mem_cons_of_mem _ hk)]
    rw [← sumTo_at (h i) i n (hm i (List.mem_cons_self ..)), ← sumTo_add]
    refine sumTo_congr n fun k _ => ?_
    by_cases e : k = i
    · subst e; rw [if_pos rfl, if_neg h1, if_pos (List.mem_cons_self ..)]; omega
    · rw [if_neg e]
      by_cases hk : k ∈ l
      · rw [if_pos hk, if_pos (List.mem_cons_of_mem _ hk)]; omega
      · rw [if_neg hk, if_neg (fun h => by exact (List.mem_cons.1 h).elim e hk)]

/-- All numbers of some points one more. -/
def shL (l : List Nat) (f : Nat → Nat) (j : Nat) : Nat := if j ∈ l then f j + 1 else f j
theorem shL_upd (l : List Nat) (i v : Nat) (f : Nat → Nat) : shL (i :: l) (upd f i v) = upd (shL l f) i (v + 1) := by
  funext j
  by_cases e : j = i
  · subst e; unfold shL; rw [if_pos (List.mem_cons_self ..), upd_same, upd_same]
  · rw [upd_other _ _ _ _ e]; unfold shL; rw [upd_other _ _ _ _ e]
    by_cases h : j ∈ l
    · rw [if_pos h, if_pos (List.mem_cons_of_mem _ h)]
    · rw [if_neg h, if_neg (fun h2 => by exact (List.mem_cons.1 h2).elim e h)]
theorem shL_zero (l : List Nat) (i : Nat) (f : Nat → Nat) : upd (shL (i :: l) f) i 0 = upd (shL l f) i 0 := by
  funext j
  by_cases e : j = i
  · subst e; rw [upd_same, upd_same]
  · rw [upd_other _ _ _ _ e, upd_other _ _ _ _ e]; unfold shL
    by_cases h : j ∈ l
    · rw [if_pos h, if_pos (List.mem_cons_of_mem _ h)]
    · rw [if_neg h, if_neg (fun h2 => by exact (List.mem_cons.1 h2).elim e h)]
theorem upd_two {f : Nat → Nat} {i k a b : Nat} (h : i ≠ k) : upd (upd f i a) k b = upd (upd f k b) i a := by
  funext j
  by_cases e : j = i
  · subst e; rw [upd_same, upd_other _ _ _ _ h, upd_same]
  · by_cases e2 : j = k
    · subst e2; rw [upd_same, upd_other _ _ _ _ e, upd_same]
    · rw [upd_other _ _ _ _ e2, upd_other _ _ _ _ e, upd_other _ _ _ _ e, upd_other _ _ _ _ e2]
theorem sumF_nz {N : Nat} : ∀ (l : List Nat) (φ : (Nat → Nat) → Nat), l.Nodup → (∀ f k, k ∈ l → f k = 0 → φ f = 0) → sumF (N + 1) l φ = sumF N l (fun f => φ (shL l f))
  | [], φ, _, _ => by
    simp only [sumF]; congr 1
  | i :: l, φ, hd, h => by
    obtain ⟨h1, h2⟩ := List.nodup_cons.1 hd
    simp only [sumF]
    rw [sumTo_first, sumF_zero (φ := fun f => φ (upd f i 0)) fun f => h _ i (List.mem_cons_self ..) (upd_same _ _ _), Nat.zero_add]
    refine sumTo_congr N fun v _ => ?_
    rw [sumF_nz l _ h2 fun f k hk hz => h _ k (List.mem_cons_of_mem _ hk) (by rw [upd_other _ _ _ _ (fun e : k = i => h1 (e ▸ hk))]; exact hz)]
    exact sumF_congr fun f => by rw [shL_upd]
theorem sumF_one {N : Nat} : ∀ (l : List Nat) (φ : (Nat → Nat) → Nat), l.Nodup → (∀ f k k', k ∈ l → k' ∈ l → k ≠ k' → f k = 0 → f k' = 0 → φ f = 0) →
    sumF (N + 1) l φ = sumF N l (fun f => φ (shL l f)) + lsum (fun k => sumF N (l.erase k) (fun f => φ (upd (shL l f) k 0))) l
  | [], φ, _, _ => by
    simp only [sumF, lsum]; rw [Nat.add_zero]; congr 1
  | i :: l, φ, hd, h => by
    obtain ⟨h1, h2⟩ := List.nodup_cons.1 hd
    have hne : ∀ k, k ∈ l → k ≠ i := fun k hk e => h1 (e ▸ hk)
    have e0 : sumF (N + 1) (i :: l) φ = sumF (N + 1) l (fun f => φ (upd f i 0)) + sumTo (fun v => sumF (N + 1) l (fun f => φ (upd f i (v + 1)))) N := by
      simp only [sumF]; rw [sumTo_first]
    rw [e0, sumF_nz l _ h2 fun f k hk hz => h _ i k (List.mem_cons_self ..) (List.mem_cons_of_mem _ hk) (hne k hk).symm (upd_same _ _ _) (by rw [upd_other _ _ _ _ (hne k hk)]; exact hz)]
    rw [sumTo_congr N fun v _ => sumF_one l (fun f => φ (upd f i (v + 1))) h2 fun f k k' hk hk' hkk hz hz' =>
      h _ k k' (List.mem_cons_of_mem _ hk) (List.mem_cons_of_mem _ hk') hkk (by rw [upd_other _ _ _ _ (hne k hk)]; exact hz) (by rw [upd_other _ _ _ _ (hne k' hk')]; exact hz')]
    rw [sumTo_add, sumTo_lsum, lsum]
    have e1 : sumF N ((i :: l).erase i) (fun f => φ (upd (shL (i :: l) f) i 0)) = sumF N l (fun f => φ (upd (shL l f) i 0)) := by
      rw [List.erase_cons_head]; exact sumF_congr fun f => by rw [shL_zero]
    have e2 : sumF N (i :: l) (fun f => φ (shL (i :: l) f)) = sumTo (fun v => sumF N l (fun f => φ (upd (shL l f) i (v + 1)))) N := by
      simp only [sumF]
      exact sumTo_congr N fun v _ => sumF_congr fun f => by rw [shL_upd]
    have e3 : lsum (fun k => sumF N ((i :: l).erase k) (fun f => φ (upd (shL (i :: l) f) k 0))) l = lsum (fun k => sumTo (fun v => sumF N (l.erase k) (fun f => φ (upd (upd (shL l f) k 0) i (v + 1)))) N) l := by
      refine lsum_congr fun k hk => ?_
      rw [List.erase_cons_tail (by simpa using (hne k hk).symm)]
      simp only [sumF]
      exact sumTo_congr N fun v _ => sumF_congr fun f => by rw [shL_upd, upd_two (hne k hk).symm]
    rw [e1, e2, e3]
    omega

/-- Does a map keep to what each point needs, of those that stand behind a set? -/
def mp (u : Nat → Nat) (n s : Nat) (l : List Nat) (f : Nat → Nat) : Bool := l.all fun i => (List.range n).all fun j => !(u i).testBit j || s.testBit j || decide (f j < f i)
theorem mp_iff {u : Nat → Nat} {n s : Nat} {l : List Nat} {f : Nat → Nat} : mp u n s l f = true ↔ ∀ i, i ∈ l → ∀ j, j < n → (u i).testBit j = true → s.testBit j = false → f j < f i := by
  unfold mp
  simp only [List.all_eq_true, List.mem_range, Bool.or_eq_true, Bool.not_eq_true', decide_eq_true_eq]
  constructor
  · intro h i hi j hj h1 h2
    rcases h i hi j hj with (h3 | h3) | h3
    · rw [h1] at h3; cases h3
    · rw [h2] at h3; cases h3
    · exact h3
  · intro h i hi j hj
    cases h1 : (u i).testBit j
    · exact .inl (.inl rfl)
    · cases h2 : s.testBit j
      · exact .inr (h i hi j hj h1 h2)
      · exact .inl (.inr rfl)
/-- Are its numbers all others? -/
def ij (l : List Nat) (f : Nat → Nat) : Bool := l.all fun i => l.all fun j => decide (i = j) || decide (f i ≠ f j)
theorem ij_iff {l : List Nat} {f : Nat → Nat} : ij l f = true ↔ ∀ i, i ∈ l → ∀ j, j ∈ l → i ≠ j → f i ≠ f j := by
  unfold ij
  simp only [List.all_eq_true, Bool.or_eq_true, decide_eq_true_eq]
  constructor
  · intro h i hi j hj hij
    rcases h i hi j hj with h1 | h1
    · exact absurd h1 hij
    · exact h1
  · intro h i hi j hj
    by_cases e : i = j
    · exact .inl e
    · exact .inr (h i hi j hj e)
/-- How many ways to take k of N. -/
def chs : Nat → Nat → Nat
  | _, 0 => 1
  | 0, _ + 1 => 0
  | N + 1, k + 1 => chs N k + chs N (k + 1)

/-- The points behind a set. -/
structure Rest (n s : Nat) (l : List Nat) : Prop where
  nd : l.Nodup
  mem : ∀ i, i ∈ l ↔ i < n ∧ s.testBit i = false
theorem Rest.add {n s k : Nat} {l : List Nat} (h : Rest n s l) (hk : k ∈ l) : Rest n (s + pw k) (l.erase k) := by
  have hb := ((h.mem k).1 hk).2
  refine ⟨h.nd.erase k, fun i => ?_⟩
  rw [h.nd.mem_erase_iff, h.mem i, add_bit hb]
  constructor
  · rintro ⟨h1, h2, h3⟩
    refine ⟨h2, ?_⟩
    rw [h3, decide_eq_false (fun e => h1 e.symm)]; rfl
  · rintro ⟨h2, h3⟩
    rw [Bool.or_eq_false_iff] at h3
    exact ⟨fun e => (of_decide_eq_false h3.2) e.symm, h2, h3.1⟩

theorem peel_shL {u : Nat → Nat} {n s : Nat} {l : List Nat} (h : Rest n s l) (f : Nat → Nat) : (mp u n s l (shL l f) && ij l (shL l f)) = (mp u n s l f && ij l f) := by
  have hs : ∀ j, j ∈ l → shL l f j = f j + 1 := fun j hj => if_pos hj
  have e1 : mp u n s l (shL l f) = mp u n s l f := by
    rw [Bool.eq_iff_iff, mp_iff, mp_iff]
    constructor
    · intro hm i hi j hj h1 h2
      have := hm i hi j hj h1 h2
      rw [hs i hi, hs j ((h.mem j).2 ⟨hj, h2⟩)] at this; omega
    · intro hm i hi j hj h1 h2
      have := hm i hi j hj h1 h2
      rw [hs i hi, hs j ((h.mem j).2 ⟨hj, h2⟩)]; omega
  have e2 : ij l (shL l f) = ij l f := by
    rw [Bool.eq_iff_iff, ij_iff, ij_iff]
    constructor
    · intro hm i hi j hj hne
      have := hm i hi j hj hne
      rw [hs i hi, hs j hj] at this; omega
    · intro hm i hi j hj hne
      have := hm i hi j hj hne
      rw [hs i hi, hs j hj]; omega
  rw [e1, e2]
theorem peel_zero {u : Nat → Nat} {n s k : Nat} {l : List Nat} (h : Rest n s l) (hn : n ≤ 10) (hu : Sm n n u) (hs : s < pw n) (hk : k ∈ l) (f : Nat → Nat) :
    (mp u n s l (upd (shL l f) k 0) && ij l (upd (shL l f) k 0)) = (may u s k && (mp u n (s + pw k) (l.erase k) f && ij (l.erase k) f)) := by
  have hr := h.add hk
  obtain ⟨hkn, hkb⟩ := (h.mem k).1 hk
  have hpn := pw_le n hn
  have hin : ∀ j, j ∈ l → j ≠ k → upd (shL l f) k 0 j = f j + 1 := fun j hj e => by
    rw [upd_other _ _ _ _ e]; exact if_pos hj
  have hmay : may u s k = true ↔ ∀ j, (u k).testBit j = true → s.testBit j = true := by
    unfold may
    rw [hkb, Bool.not_false, Bool.true_and, decide_eq_true_eq]
    have h1 := hu k hkn
    exact lack_zero _ _ (by omega) (by omega)
  have hme : ∀ i, i ∈ l.erase k ↔ i ≠ k ∧ i ∈ l := fun i => h.nd.mem_erase_iff
  have hsb : ∀ j, (s + pw k).testBit j = false ↔ s.testBit j = false ∧ j ≠ k := fun j => by
    rw [add_bit hkb, Bool.or_eq_false_iff, decide_eq_false_iff_not]
    exact ⟨fun ⟨a, b⟩ => ⟨a, fun e => b e.symm⟩, fun ⟨a, b⟩ => ⟨a, fun e => b e.symm⟩⟩
  rw [Bool.eq_iff_iff, Bool.and_eq_true, Bool.and_eq_true, Bool.and_eq_true, mp_iff, ij_iff, mp_iff, ij_iff, hmay]
  constructor
  · rintro ⟨h1, h2⟩
    refine ⟨fun j hj => ?_, fun i hi j hj hb hsj => ?_, fun i hi j hj hne => ?_⟩
    · cases hsj : s.testBit j
      · exfalso
        have hjn : j < n := bit_of_lt (hu k hkn) hj
        have := h1 k hk j hjn hj hsj
        rw [upd_same] at this; omega
      · rfl
    · obtain ⟨hi1, hi2⟩ := (hme i).1 hi
      obtain ⟨hs1, hs2⟩ := (hsb j).1 hsj
      have := h1 i hi2 j hj hb hs1
      rw [hin i hi2 hi1, hin j ((h.mem j).2 ⟨hj, hs1⟩) hs2] at this; omega
    · obtain ⟨hi1, hi2⟩ := (hme i).1 hi
      obtain ⟨hj1, hj2⟩ := (hme j).1 hj
      have := h2 i hi2 j hj2 hne
      rw [hin i hi2 hi1, hin j hj2 hj1] at this; omega
  · rintro ⟨h1, h2, h3⟩
    refine ⟨fun i hi j hj hb hsj => ?_, fun i hi j hj hne => ?_⟩
    · by_cases ei : i = k
      · subst ei; have := h1 j hb; rw [hsj] at this; cases this
      · rw [hin i hi ei]
        by_cases ej : j = k
        · subst ej; rw [upd_same]; omega
        · rw [hin j ((h.mem j).2 ⟨hj, hsj⟩) ej]
          have := h2 i ((hme i).2 ⟨ei, hi⟩) j hj hb ((hsb j).2 ⟨hsj, ej⟩); omega
    · by_cases ei : i = k
      · subst ei; rw [upd_same, hin j hj (fun e => hne e.symm)]; omega
      · rw [hin i hi ei]
        by_cases ej : j = k
        · subst ej; rw [upd_same]; omega
        · rw [hin j hj ej]
          have := h3 i ((hme i).2 ⟨ei, hi⟩) j ((hme j).2 ⟨ej, hj⟩) hne; omega
/-- How many maps with other numbers there are: each way with each choice of numbers. -/
theorem inj_count {u : Nat → Nat} {n : Nat} (hn : n ≤ 10) (hu : Sm n n u) : ∀ (N : Nat) (l : List Nat) (s : Nat), Rest n s l → s < pw n →
    sumF N l (fun f => (mp u n s l f && ij l f).toNat) = ways u n s * chs N l.length
  | N, [], s, hr, hs => by
    have hf : s = pw n - 1 := by
      refine (Nat.eq_of_testBit_eq fun i => ?_)
      rcases Nat.lt_or_ge i n with hi | hi
      · rw [all_bit hi]
        cases hb : s.testBit i
        · exact absurd ((hr.mem i).2 ⟨hi, hb⟩) List.not_mem_nil
        · rfl
      · have hp : pw n ≤ 2 ^ i := Nat.pow_le_pow_right (by decide) hi
        rw [Nat.testBit_lt_two_pow (by omega), Nat.testBit_lt_two_pow (by have := pw_pos n; omega)]
    have e : (mp u n s [] (fun _ => 0) && ij [] (fun _ => 0)) = true := rfl
    simp only [sumF, e]
    rw [hf, ways_all]
    cases N <;> rfl
  | 0, i :: l, s, hr, hs => by
    simp only [sumF, sumTo, List.length_cons, chs]; rw [Nat.mul_zero]
  | N + 1, i :: l, s, hr, hs => by
    obtain ⟨hin, hib⟩ := (hr.mem i).1 (List.mem_cons_self ..)
    have hlt : s + 1 < pw n := by
      rcases Nat.lt_or_ge (s + 1) (pw n) with h | h
      · exact h
      · have : s = pw n - 1 := by omega
        rw [this, all_bit hin] at hib; cases hib
    have ih := inj_count hn hu N
    generalize hL : i :: l = L at *
    have hlen : ∃ m, L.length = m + 1 := ⟨l.length, by rw [← hL]; rfl⟩
    obtain ⟨m, hm⟩ := hlen
    rw [sumF_one L _ hr.nd fun f k k' hk hk' hkk hz hz' => by
      have : ij L f = false := by
        rw [Bool.eq_false_iff]; intro hc
        exact ij_iff.1 hc k hk k' hk' hkk (by rw [hz, hz'])
      rw [this, Bool.and_false]; rfl]
    rw [sumF_congr fun f => congrArg Bool.toNat (peel_shL hr f), ih L s hr hs]
    have e1 : lsum (fun k => sumF N (L.erase k) (fun f => (mp u n s L (upd (shL L f) k 0) && ij L (upd (shL L f) k 0)).toNat)) L = lsum (fun k => goes u n s k * chs N m) L := by
      refine lsum_congr fun k hk => ?_
      rw [sumF_congr fun f => congrArg Bool.toNat (peel_zero hr hn hu hs hk f)]
      cases hmk : may u s k
      · rw [goes_no hmk, Nat.zero_mul]; exact sumF_zero fun f => rfl
      · rw [goes_yes hmk]
        have hlen : (L.erase k).length = m := by rw [List.length_erase_of_mem hk]; omega
        have := ih (L.erase k) (s + pw k) (hr.add hk) (add_lt hs ((hr.mem k).1 hk).1 (may_out hmk))
        rw [hlen] at this
        rw [← this]; exact sumF_congr fun f => by rw [Bool.true_and]
    rw [e1, lsum_mulr, lsum_sumTo hr.nd fun k hk => ((hr.mem k).1 hk).1]
    have e2 : sumTo (fun k => if k ∈ L then goes u n s k else 0) n = ways u n s := by
      rw [ways_eq hlt]
      refine sumTo_congr n fun k hk => ?_
      by_cases hkL : k ∈ L
      · rw [if_pos hkL]
      · rw [if_neg hkL]
        have hb : s.testBit k = true := by
          cases hb : s.testBit k
          · exact absurd ((hr.mem k).2 ⟨hk, hb⟩) hkL
          · rfl
        rw [goes_no (may_in hb)]
    rw [e2, hm, chs, Nat.mul_add]; omega

/-- Few maps have a number twice. -/
theorem nij_few {N : Nat} : ∀ (l : List Nat), l.Nodup → N * sumF N l (fun f => (!ij l f).toNat) ≤ l.length * l.length * N ^ l.length
  | [], _ => by
    have e : (!ij [] (fun _ => 0)) = false := rfl
    simp only [sumF, e]; exact Nat.zero_le _
  | i :: l, hd => by
    obtain ⟨h1, h2⟩ := List.nodup_cons.1 hd
    have ih := nij_few (N := N) l h2
    have step : ∀ f v, (!ij (i :: l) (upd f i v)).toNat ≤ (!ij l f).toNat + lsum (fun k => if f k = v then 1 else 0) l := by
      intro f v
      cases hc : ij (i :: l) (upd f i v)
      · cases hl : ij l f
        · exact Nat.le_add_right _ _
        · have hex : ∃ k, k ∈ l ∧ f k = v := by
            refine Classical.byContradiction fun hno => ?_
            have : ij (i :: l) (upd f i v) = true := ij_iff.2 fun a ha b hb hne => by
              have hvi : ∀ k, k ∈ l → f k ≠ v := fun k hk e => hno ⟨k, hk, e⟩
              have hki : ∀ k, k ∈ l → k ≠ i := fun k hk e => h1 (e ▸ hk)
              rcases List.mem_cons.1 ha with ha | ha
              · rcases List.mem_cons.1 hb with hb | hb
                · exact absurd (ha.trans hb.symm) hne
                · rw [ha, upd_same, upd_other _ _ _ _ (hki b hb)]; exact fun e => hvi b hb e.symm
              · rcases List.mem_cons.1 hb with hb | hb
                · rw [hb, upd_same, upd_other _ _ _ _ (hki a ha)]; exact hvi a ha
                · rw [upd_other _ _ _ _ (hki a ha), upd_other _ _ _ _ (hki b hb)]
                  exact ij_iff.1 hl a ha b hb hne
            rw [hc] at this; cases this
          obtain ⟨k, hk, hv⟩ := hex
          have : ∀ (l : List Nat), k ∈ l → 1 ≤ lsum (fun k => if f k = v then 1 else 0) l := by
            intro l
            induction l with
            | nil => intro h; exact absurd h List.not_mem_nil
            | cons a l ihl =>
              intro h
              rw [lsum]
              rcases List.mem_cons.1 h with rfl | h
              · rw [if_pos hv]; omega
              · have := ihl h; omega
          have := this l hk
          show 1 ≤ 0 + _
          omega
      · exact Nat.zero_le _
    have e1 : sumF N (i :: l) (fun f => (!ij (i :: l) f).toNat) ≤ N * sumF N l (fun f => (!ij l f).toNat) + N ^ l.length * l.length := by
      simp only [sumF]
      refine Nat.le_trans (sumTo_leq N fun v _ => sumF_leq fun f => step f v) ?_
      rw [sumTo_congr N fun v _ => sumF_add l _ _, sumTo_add, sumTo_const, ← sumF_sumTo]
      refine Nat.add_le_add_left ?_ _
      rw [← sumF_const]
      refine sumF_leq fun f => ?_
      rw [sumTo_lsum]
      refine Nat.le_trans (lsum_le (B := 1) fun k => sumTo_at_le _ _) (by omega)
    have e2 := Nat.mul_le_mul_left N e1
    rw [Nat.mul_add] at e2
    have e3 := Nat.mul_le_mul_left N ih
    rw [List.length_cons]
    generalize hm : l.length = m at *
    generalize sumF N l (fun f => (!ij l f).toNat) = X at *
    have e4 : N * (m * m * N ^ m) + N * (N ^ m * m) ≤ (m + 1) * (m + 1) * N ^ (m + 1) := by
      rw [Nat.pow_succ]
      have : N * (m * m * N ^ m) + N * (N ^ m * m) = (m * m + m) * (N ^ m * N) := by rw [Nat.add_mul]; congr 1 <;> ac_rfl
      rw [this]
      refine Nat.mul_le_mul_right _ ?_
      rw [Nat.add_mul, Nat.mul_add]; omega
    omega
end Go.Proofs.Ytdnpegjekckmgaa
