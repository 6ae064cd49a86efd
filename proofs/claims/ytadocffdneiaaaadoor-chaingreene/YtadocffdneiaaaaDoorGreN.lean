/-
  Greene's and Kleitman's theorem, second part: what chains and antichains bring together, and that they go step by step. Plain facts: no Go text here. Conditions: an order of at most ten points.
-/
import Derived.Test.YtadocffdneiaaaaDoorGreM
namespace Go.Proofs.YtadocffdneiaaaaDoor

/-- A set by what is so of its points. -/
def stB (P : Nat → Bool) : Nat → Nat
  | 0 => 0
  | k + 1 => if P k = true then stB P k ||| pw k else stB P k
theorem stB_bit (P : Nat → Bool) (i : Nat) : ∀ n, (stB P n).testBit i = true ↔ i < n ∧ P i = true
  | 0 => by simp [stB]
  | k + 1 => by
    unfold stB
    by_cases h : P k = true
    · rw [if_pos h, Nat.testBit_or, pw_bit, Bool.or_eq_true, decide_eq_true_eq, stB_bit P i k]
      constructor
      · rintro (⟨h1, h2⟩ | rfl)
        · exact ⟨by omega, h2⟩
        · exact ⟨by omega, h⟩
      · rintro ⟨h1, h2⟩
        by_cases e : k = i
        · exact .inr e
        · exact .inl ⟨by omega, h2⟩
    · rw [if_neg h, stB_bit P i k]
      constructor
      · rintro ⟨h1, h2⟩; exact ⟨by omega, h2⟩
      · rintro ⟨h1, h2⟩
        have : i ≠ k := fun e => h (e ▸ h2)
        exact ⟨by omega, h2⟩
theorem stB_lt (P : Nat → Bool) (n : Nat) : stB P n < pw n := by
  refine Nat.lt_pow_two_of_testBit _ fun i hi => ?_
  rw [Bool.eq_false_iff]
  intro h
  have := ((stB_bit P i n).1 h).1
  omega
theorem nm_pcn (s : Nat) : ∀ k, ((pcn s k : Nat) : Int) = nm (fun i => s.testBit i) k
  | 0 => rfl
  | k + 1 => by
    have ih := nm_pcn s k
    unfold nm at *
    rw [smI, ← ih, pcn]
    split <;> simp
theorem nm_pc {s n : Nat} (hn : n ≤ 10) (hs : s < pw n) : ((pc s : Nat) : Int) = nm (fun i => s.testBit i) n := by
  have h1 := pcn_top hs (10 - n)
  rw [show n + (10 - n) = 10 by omega] at h1
  rw [← nm_pcn]; unfold pc; rw [h1]
theorem pc_stB {P : Nat → Bool} {n : Nat} (hn : n ≤ 10) : ((pc (stB P n) : Nat) : Int) = nm P n := by
  rw [nm_pc hn (stB_lt P n)]
  refine nm_congr fun i hi => ?_
  rw [Bool.eq_iff_iff, stB_bit]
  exact ⟨And.right, fun h => ⟨hi, h⟩⟩

section
variable {g : Nat → Nat} {n : Nat}
/-- One point below another one. -/
def ltG (g : Nat → Nat) (p q : Nat) : Bool := (g q).testBit p
theorem ltG_str (hn : n ≤ 10) (hg : Sm n n g) (ho : Ord n g) : Str n (ltG g) := by
  refine ⟨fun p hp => (ho p hp).1, fun p q r hp hq hr h1 h2 => ?_⟩
  have hs1 := set_small (hg q hq) hn
  have hs2 := set_small (hg r hr) hn
  exact (lack_zero _ _ (by omega) (by omega)).1 ((ho r hr).2 q hq h2) p h1
theorem ant_iff {s : Nat} (hs : s < pw n) : freeB (kin g n) n s = true ↔ ∀ p q, s.testBit p = true → s.testBit q = true → ltG g p q = false := by
  rw [free_iff]
  constructor
  · intro h p q hp hq
    have hpn := bit_of_lt hs hp; have hqn := bit_of_lt hs hq
    have := h p hpn hp q hq
    rw [kin_bit g hqn, Bool.or_eq_false_iff] at this
    exact this.2
  · intro h p hpn hp i hi
    have hin := bit_of_lt hs hi
    rw [kin_bit g hin, Bool.or_eq_false_iff]
    exact ⟨h i p hi hp, h p i hp hi⟩
theorem chn_iff (hn : n ≤ 10) (hg : Sm n n g) {s : Nat} (hs : s < pw n) : freeB (strg g n) n s = true ↔ ∀ p q, s.testBit p = true → s.testBit q = true → p ≠ q → ltG g p q = true ∨ ltG g q p = true := by
  rw [free_iff]
  constructor
  · intro h p q hp hq hne
    have hpn := bit_of_lt hs hp; have hqn := bit_of_lt hs hq
    have := h p hpn hp q hq
    rw [strg_bit hn hg hpn hqn, decide_eq_false hne, Bool.not_false, Bool.and_true, Bool.not_eq_false', Bool.or_eq_true] at this
    exact this.symm
  · intro h p hpn hp i hi
    have hin := bit_of_lt hs hi
    rw [strg_bit hn hg hpn hin]
    by_cases e : p = i
    · simp [e]
    · rw [decide_eq_false e, Bool.not_false, Bool.and_true, Bool.not_eq_false', Bool.or_eq_true]
      exact (h p i hp hi e).symm
/-- The most that k chains have; the most that l antichains have. -/
abbrev cK (g : Nat → Nat) (n k : Nat) : Nat := Msh (kin g n) n k
abbrev aL (g : Nat → Nat) (n l : Nat) : Nat := Msh (strg g n) n l
theorem msh_ge {F : Nat → Nat} {k s : Nat} (hs : s < pw n) (h : frs F n s ≤ k) : pc s ≤ Msh F n k :=
  mxB_ge (P := fun s => decide (frs F n s ≤ k)) (v := pc) _ s hs (by simpa using h)
theorem msh_ex (F : Nat → Nat) (n k : Nat) : ∃ s, s < pw n ∧ frs F n s ≤ k ∧ pc s = Msh F n k := by
  obtain ⟨s, hs, hp, hv⟩ := mxB_ex (P := fun s => decide (frs F n s ≤ k)) (v := pc) (pw n) ⟨0, pw_pos n, by
    have := fr_le_pc (F := F) (m := n) (s := 0)
    rw [pc_zero] at this
    simp; omega⟩
  exact ⟨s, hs, by simpa using hp, hv⟩
theorem frs_le {F : Nat → Nat} {k s : Nat} (h : ∀ t, t < pw n → Sub t s → freeB F n t = true → pc t ≤ k) : frs F n s ≤ k := by
  obtain ⟨t, ht, hts, hf, e⟩ := fr_ex F n s
  rw [← e]; exact h t ht hts hf

/-- What chains that fit bring, and what the numbers bring. -/
theorem stt_ge (hn : n ≤ 10) (hg : Sm n n g) (ho : Ord n g) {k l : Nat} (h : Stt n (ltG g) k l) : n + k * l ≤ cK g n k + aL g n l := by
  obtain ⟨a, b, x, hD, hF⟩ := h
  have hS := ltG_str hn hg ho
  have hI : Inj n x := ⟨fun p hp => (hF.t p hp).le hp, hF.inj⟩
  -- how many nobody goes to
  have c1 : nm (noHit n x) n = k := by
    have e := hI.sum (fun _ => 1)
    rw [smI_const] at e
    have e2 : smI (fun p => if x p < n then (1 : Int) else 0) n + nm (fun p => decide (x p = n)) n = n := by
      unfold nm
      rw [← smI_add, smI_congr (h := fun _ => 1) n fun p hp => ?_, smI_const]
      · omega
      · have := hI.le p hp
        by_cases e : x p < n
        · rw [if_pos e, if_neg (by simp; omega)]; omega
        · rw [if_neg e, if_pos (by simp; omega)]; omega
    have e3 : nm (noHit n x) n = smI (fun q => if noHit n x q = true then (1 : Int) else 0) n := rfl
    have := hF.k
    omega
  -- the sum of b
  have c2 : smI b n = smI a n + nm (fun p => decide (x p = p)) n + k * l := by
    rw [hI.sum b]
    have e1 : smI (fun p => if x p < n then b (x p) else 0) n = smI a n + nm (fun p => decide (x p = p)) n := by
      unfold nm
      rw [← smI_add]
      refine smI_congr n fun p hp => ?_
      rcases hF.t p hp with ⟨h1, h2⟩ | ⟨h1, h2⟩ | ⟨h1, h2, h3⟩
      · rw [h1, if_neg (Nat.lt_irrefl _), h2, if_neg (by simp; omega)]; omega
      · rw [h1, if_pos hp, h2, if_pos (by simpa using h1)]
      · have hne : x p ≠ p := fun e => by rw [e, hS.irr p hp] at h2; cases h2
        rw [if_pos h1, h3, if_neg (by simpa using hne)]; omega
    have e2 : smI (fun q => if noHit n x q = true then b q else 0) n = nm (noHit n x) n * l := by
      unfold nm
      rw [← smI_mulr]
      refine smI_congr n fun q hq => ?_
      by_cases e : noHit n x q = true
      · rw [if_pos e, if_pos e, hF.z q hq (noHit_iff.1 e)]; omega
      · rw [if_neg e, if_neg e]; omega
    rw [e1, e2, c1]
  -- the covered points
  obtain ⟨S, hSd⟩ : ∃ S, S = stB (fun p => !decide (x p = p)) n := ⟨_, rfl⟩
  have hSn : S < pw n := by rw [hSd]; exact stB_lt _ _
  have hSb : ∀ p, S.testBit p = true ↔ p < n ∧ x p ≠ p := fun p => by rw [hSd, stB_bit]; simp
  have hSc : ((pc S : Nat) : Int) = n - nm (fun p => decide (x p = p)) n := by
    rw [hSd, pc_stB hn]
    have : nm (fun p => !decide (x p = p)) n + nm (fun p => decide (x p = p)) n = n := by
      unfold nm
      rw [← smI_add, smI_congr (h := fun _ => 1) n fun p hp => ?_, smI_const]
      · omega
      · show (if (!decide (x p = p)) = true then (1 : Int) else 0) + (if decide (x p = p) = true then 1 else 0) = 1
        cases decide (x p = p) <;> rfl
    omega
  have hSk : frs (kin g n) n S ≤ k := by
    refine frs_le fun T hT hTS hTf => ?_
    have hA := (ant_iff hT).1 hTf
    -- those below
    obtain ⟨D, hDd⟩ : ∃ D : Nat → Bool, ∀ p, D p = true ↔ x p ≠ p ∧ ∃ t, T.testBit t = true ∧ ltG g p t = true := by
      obtain ⟨D, hD⟩ := Classical.axiomOfChoice (r := fun p (v : Bool) => v = true ↔ x p ≠ p ∧ ∃ t, T.testBit t = true ∧ ltG g p t = true) fun p => by
        rcases Classical.em (x p ≠ p ∧ ∃ t, T.testBit t = true ∧ ltG g p t = true) with h | h
        · exact ⟨true, by simp [h]⟩
        · exact ⟨false, by simp [h]⟩
      exact ⟨D, hD⟩
    have hTn : ∀ t, T.testBit t = true → t < n := fun t ht => bit_of_lt hT ht
    have e := hI.sum (fun q => (if T.testBit q = true then (1 : Int) else 0) + (if D q = true then 1 else 0))
    rw [smI_add] at e
    have b1 : smI (fun p => if x p < n then (if T.testBit (x p) = true then (1 : Int) else 0) + (if D (x p) = true then 1 else 0) else 0) n ≤ nm D n := smI_le n fun p hp => by
      by_cases hx : x p < n
      · rw [if_pos hx]
        -- of T or below it: then p is below it
        have hdis : T.testBit (x p) = true → D (x p) = true → False := fun h1 h2 => by
          obtain ⟨_, t, ht, hlt⟩ := (hDd _).1 h2
          have := hA (x p) t h1 ht
          rw [hlt] at this; cases this
        have hE : (T.testBit (x p) = true ∨ D (x p) = true) → D p = true := by
          intro hE
          have hq : x (x p) ≠ x p := by
            rcases hE with h1 | h1
            · exact ((hSb _).1 (hTS _ h1)).2
            · exact ((hDd _).1 h1).1
          have hpp : x p ≠ p := fun e => hq (by rw [e]; exact e)
          have hlt : ltG g p (x p) = true := by
            rcases hF.t p hp with ⟨h1, _⟩ | ⟨h1, _⟩ | ⟨_, h2, _⟩
            · omega
            · exact absurd h1 hpp
            · exact h2
          refine (hDd p).2 ⟨hpp, ?_⟩
          rcases hE with h1 | h1
          · exact ⟨x p, h1, hlt⟩
          · obtain ⟨_, t, ht, hlt2⟩ := (hDd _).1 h1
            exact ⟨t, ht, hS.tr p (x p) t hp hx (hTn t ht) hlt hlt2⟩
        by_cases h1 : T.testBit (x p) = true
        · have h2 : ¬ D (x p) = true := fun h2 => hdis h1 h2
          rw [if_pos h1, if_neg h2, if_pos (hE (.inl h1))]; omega
        · by_cases h2 : D (x p) = true
          · rw [if_neg h1, if_pos h2, if_pos (hE (.inr h2))]; omega
          · rw [if_neg h1, if_neg h2]; split <;> omega
      · rw [if_neg hx]; split <;> decide
    have b2 : smI (fun q => if noHit n x q = true then (if T.testBit q = true then (1 : Int) else 0) + (if D q = true then 1 else 0) else 0) n ≤ nm (noHit n x) n := smI_le n fun q hq => by
      by_cases hh : noHit n x q = true
      · rw [if_pos hh, if_pos hh]
        by_cases h1 : T.testBit q = true
        · have h2 : ¬ D q = true := fun h2 => by
            obtain ⟨_, t, ht, hlt⟩ := (hDd _).1 h2
            have := hA q t h1 ht
            rw [hlt] at this; cases this
          rw [if_pos h1, if_neg h2]; omega
        · rw [if_neg h1]; split <;> omega
      · rw [if_neg hh, if_neg hh]; omega
    have e3 : nm (fun i => T.testBit i) n = smI (fun q => if T.testBit q = true then (1 : Int) else 0) n := rfl
    have e4 : nm D n = smI (fun q => if D q = true then (1 : Int) else 0) n := rfl
    have e5 := nm_pc hn hT
    omega
  -- those with the numbers
  obtain ⟨A, hAd⟩ : ∃ A, A = stB (fun p => decide (b p = a p + 1)) n := ⟨_, rfl⟩
  have hAn : A < pw n := by rw [hAd]; exact stB_lt _ _
  have hAb : ∀ p, A.testBit p = true ↔ p < n ∧ b p = a p + 1 := fun p => by rw [hAd, stB_bit]; simp
  have hAc : smI b n ≤ smI a n + pc A := by
    rw [hAd, pc_stB hn]
    unfold nm
    rw [← smI_add]
    refine smI_le n fun p hp => ?_
    have := hD.d3 p hp
    by_cases e : b p = a p + 1
    · rw [if_pos (by simpa using e)]; omega
    · rw [if_neg (by simpa using e)]; omega
  have hAl : frs (strg g n) n A ≤ l := by
    refine frs_le fun T hT hTA hTf => ?_
    have hC := (chn_iff hn hg hT).1 hTf
    have := nm_inj (P := fun i => T.testBit i) (v := b) (n := n) (l := l) (fun i hi ht => by
      obtain ⟨_, h2⟩ := (hAb i).1 (hTA i ht)
      have := hD.d1 i hi; have := hD.d2 i hi
      omega) (fun i j hi hj hti htj hv => by
      refine Classical.byContradiction fun hne => ?_
      obtain ⟨_, h2⟩ := (hAb i).1 (hTA i hti)
      obtain ⟨_, h3⟩ := (hAb j).1 (hTA j htj)
      rcases hC i j hti htj hne with h4 | h4
      · have := hD.d4 i j hi hj h4; omega
      · have := hD.d4 j i hj hi h4; omega)
    rw [← nm_pc hn hT] at this
    omega
  have f1 := msh_ge hSn hSk
  have f2 := msh_ge hAn hAl
  have f3 : ((n + k * l : Nat) : Int) = n + k * l := by simp
  have f4 : ((pc S : Nat) : Int) + pc A ≥ n + k * l := by omega
  show n + k * l ≤ Msh (kin g n) n k + Msh (strg g n) n l
  omega
/-- No set of few antichains and few chains has many points. -/
theorem few_both (hn : n ≤ 10) (hg : Sm n n g) (ho : Ord n g) {k : Nat} : ∀ l s, s < pw n → frs (kin g n) n s ≤ k → frs (strg g n) n s ≤ l → pc s ≤ k * l
  | 0, s, hs, _, h => by
    have : s = 0 := by
      refine Nat.eq_of_testBit_eq fun i => ?_
      rw [Nat.zero_testBit, Bool.eq_false_iff]
      intro hb
      have hi := bit_of_lt hs hb
      have hpw : pw i < pw n := Nat.pow_lt_pow_right (by decide) hi
      have e : ∀ j, (pw i).testBit j = true → i = j := fun j hj => by rw [pw_bit] at hj; simpa using hj
      have h1 := fr_ge (F := strg g n) (m := n) (s := s) (t := pw i) hpw (fun j hj => by rw [← e j hj]; exact hb)
        ((chn_iff hn hg hpw).2 fun p q hp hq hne => absurd ((e p hp).symm.trans (e q hq)) hne)
      rw [pc_pw (by omega)] at h1
      omega
    rw [this, pc_zero]; exact Nat.zero_le _
  | l + 1, s, hs, hk, hl => by
    have hS := ltG_str hn hg ho
    -- the greatest ones
    obtain ⟨D, hDd⟩ : ∃ D : Nat → Bool, ∀ p, D p = true ↔ s.testBit p = true ∧ ∃ t, s.testBit t = true ∧ ltG g p t = true := by
      obtain ⟨D, hD⟩ := Classical.axiomOfChoice (r := fun p (v : Bool) => v = true ↔ s.testBit p = true ∧ ∃ t, s.testBit t = true ∧ ltG g p t = true) fun p => by
        rcases Classical.em (s.testBit p = true ∧ ∃ t, s.testBit t = true ∧ ltG g p t = true) with h | h
        · exact ⟨true, by simp [h]⟩
        · exact ⟨false, by simp [h]⟩
      exact ⟨D, hD⟩
    have hMb : ∀ i, (stB (fun p => s.testBit p && !D p) n).testBit i = true ↔ s.testBit i = true ∧ ¬ D i = true := fun i => by
      rw [stB_bit, Bool.and_eq_true, Bool.not_eq_true', Bool.eq_false_iff]
      exact ⟨And.right, fun h => ⟨bit_of_lt hs h.1, h⟩⟩
    have hRb : ∀ i, (stB D n).testBit i = true ↔ D i = true := fun i => by
      rw [stB_bit]
      exact ⟨And.right, fun h => ⟨bit_of_lt hs ((hDd i).1 h).1, h⟩⟩
    have h1 : pc (stB (fun p => s.testBit p && !D p) n) ≤ k := Nat.le_trans (fr_ge (stB_lt _ _) (fun i hi => ((hMb i).1 hi).1) ((ant_iff (stB_lt _ _)).2 fun p q hp hq => by
      rw [Bool.eq_false_iff]; intro hlt
      exact ((hMb p).1 hp).2 ((hDd p).2 ⟨((hMb p).1 hp).1, q, ((hMb q).1 hq).1, hlt⟩))) hk
    have h2 : pc (stB D n) ≤ k * l := few_both hn hg ho l _ (stB_lt _ _) (Nat.le_trans (fr_mono fun i hi => ((hDd i).1 ((hRb i).1 hi)).1) hk) (frs_le fun T hT hTR hTf => by
      have hC := (chn_iff hn hg hT).1 hTf
      by_cases hT0 : T = 0
      · rw [hT0, pc_zero]; exact Nat.zero_le _
      -- a top one
      have htop : ∃ t, T.testBit t = true ∧ ∀ r, T.testBit r = true → ltG g t r = false := by
        have key : ∀ m t, T.testBit t = true → nm (fun r => T.testBit r && ltG g t r) n ≤ (m : Nat) → ∃ t, T.testBit t = true ∧ ∀ r, T.testBit r = true → ltG g t r = false := by
          intro m
          induction m with
          | zero =>
            intro t ht hm
            refine ⟨t, ht, fun r hr => ?_⟩
            rw [Bool.eq_false_iff]; intro hlt
            have hrn := bit_of_lt hT hr
            have := nm_le (P := fun j => decide (r = j)) (Q := fun r => T.testBit r && ltG g t r) (n := n) fun i hi h => by
              have : r = i := by simpa using h
              subst this; show (T.testBit r && ltG g t r) = true; rw [hr, hlt]; rfl
            have e : nm (fun j => decide (r = j)) n = 1 := by
              have := smI_at (fun _ => 1) r n
              rw [if_pos hrn] at this
              rw [show nm (fun j => decide (r = j)) n = smI (fun j => if r = j then (1 : Int) else 0) n from smI_congr n fun j _ => by simp only [decide_eq_true_eq]]; exact this
            have hm0 : nm (fun r => T.testBit r && ltG g t r) n ≤ 0 := by simpa using hm
            omega
          | succ m ih =>
            intro t ht hm
            rcases Classical.em (∃ r, T.testBit r = true ∧ ltG g t r = true) with ⟨r, hr, hlt⟩ | hno
            · refine ih r hr ?_
              have hrn := bit_of_lt hT hr; have htn := bit_of_lt hT ht
              have e1 : nm (fun j => T.testBit j && ltG g r j) n + 1 ≤ nm (fun j => T.testBit j && ltG g t j) n := by
                have e : smI (fun j => if r = j then (1 : Int) else 0) n = 1 := by rw [smI_at (fun _ => 1), if_pos hrn]
                rw [← e]
                unfold nm
                rw [← smI_add]
                refine smI_le n fun j hj => ?_
                show (if (T.testBit j && ltG g r j) = true then (1 : Int) else 0) + (if r = j then 1 else 0) ≤ (if (T.testBit j && ltG g t j) = true then (1 : Int) else 0)
                by_cases ej : r = j
                · subst ej
                  rw [if_pos rfl, hr, hS.irr r hrn, hlt]; decide
                · rw [if_neg ej]
                  by_cases h5 : (T.testBit j && ltG g r j) = true
                  · rw [Bool.and_eq_true] at h5
                    rw [h5.1, h5.2, hS.tr t r j htn hrn hj hlt h5.2]; decide
                  · rw [if_neg h5]; split <;> omega
              omega
            · exact ⟨t, ht, fun r hr => by rw [Bool.eq_false_iff]; exact fun h => hno ⟨r, hr, h⟩⟩
        have : ∃ t, T.testBit t = true := by
          refine Classical.byContradiction fun hno => hT0 (Nat.eq_of_testBit_eq fun i => ?_)
          rw [Nat.zero_testBit, Bool.eq_false_iff]; exact fun h => hno ⟨i, h⟩
        obtain ⟨t, ht⟩ := this
        exact key (nm (fun r => T.testBit r && ltG g t r) n).toNat t ht (by have := nm_nonneg (fun r => T.testBit r && ltG g t r) n; omega)
      obtain ⟨t, ht, hmx⟩ := htop
      obtain ⟨hst, r, hr, htr⟩ := (hDd t).1 ((hRb t).1 (hTR t ht))
      have hrn := bit_of_lt hs hr
      have htn := bit_of_lt hT ht
      have hrT : T.testBit r = false := by
        rw [Bool.eq_false_iff]; intro h; have := hmx r h; rw [htr] at this; cases this
      have hall : ∀ q, T.testBit q = true → ltG g q r = true := fun q hq => by
        by_cases e : q = t
        · rw [e]; exact htr
        · rcases hC q t hq ht e with h | h
          · exact hS.tr q t r (bit_of_lt hT hq) htn hrn h htr
          · have := hmx q hq; rw [h] at this; cases this
      have hor : ∀ i, (T ||| pw r).testBit i = true ↔ T.testBit i = true ∨ r = i := fun i => by
        rw [Nat.testBit_or, pw_bit, Bool.or_eq_true, decide_eq_true_eq]
      have hlt : T ||| pw r < pw n := Nat.or_lt_two_pow hT (Nat.pow_lt_pow_right (by decide) hrn)
      have := fr_ge (F := strg g n) (m := n) (s := s) (t := T ||| pw r) hlt (fun i hi => by
        rcases (hor i).1 hi with h | rfl
        · exact ((hDd i).1 ((hRb i).1 (hTR i h))).1
        · exact hr) ((chn_iff hn hg hlt).2 fun p q hp hq hne => by
          rcases (hor p).1 hp with h3 | rfl
          · rcases (hor q).1 hq with h4 | rfl
            · exact hC p q h3 h4 hne
            · exact .inl (hall p h3)
          · rcases (hor q).1 hq with h4 | rfl
            · exact .inr (hall q h4)
            · exact absurd rfl hne)
      rw [ins_is (set_small hT hn) (by omega) hrT] at this
      omega)
    have h3 : pc s ≤ pc (stB (fun p => s.testBit p && !D p) n) + pc (stB D n) := by
      have e1 := nm_pc hn hs
      have e2 := pc_stB (P := fun p => s.testBit p && !D p) hn
      have e3 := pc_stB (P := D) hn
      have e4 : nm (fun i => s.testBit i) n ≤ nm (fun p => s.testBit p && !D p) n + nm D n := by
        unfold nm
        rw [← smI_add]
        refine smI_le n fun p _ => ?_
        show (if s.testBit p = true then (1 : Int) else 0) ≤ (if (s.testBit p && !D p) = true then (1 : Int) else 0) + (if D p = true then (1 : Int) else 0)
        cases s.testBit p <;> cases D p <;> decide
      omega
    rw [Nat.mul_succ]; omega
theorem both_le (hn : n ≤ 10) (hg : Sm n n g) (ho : Ord n g) (k l : Nat) : cK g n k + aL g n l ≤ n + k * l := by
  obtain ⟨S, hS, hSk, e1⟩ := msh_ex (kin g n) n k
  obtain ⟨A, hA, hAl, e2⟩ := msh_ex (strg g n) n l
  have hR : S &&& A < pw n := Nat.and_lt_two_pow _ hA
  have hb : ∀ i, (S &&& A).testBit i = true ↔ S.testBit i = true ∧ A.testBit i = true := fun i => by rw [Nat.testBit_and, Bool.and_eq_true]
  have h1 := few_both hn hg ho l (S &&& A) hR (Nat.le_trans (fr_mono fun i hi => ((hb i).1 hi).1) hSk) (Nat.le_trans (fr_mono fun i hi => ((hb i).1 hi).2) hAl)
  have h2 : pc S + pc A ≤ n + pc (S &&& A) := by
    have e3 := nm_pc hn hS
    have e4 := nm_pc hn hA
    have e5 := nm_pc hn hR
    have e6 : nm (fun i => S.testBit i) n + nm (fun i => A.testBit i) n ≤ smI (fun _ => 1) n + nm (fun i => (S &&& A).testBit i) n := by
      unfold nm
      rw [← smI_add, ← smI_add]
      refine smI_le n fun p _ => ?_
      show (if S.testBit p = true then (1 : Int) else 0) + (if A.testBit p = true then (1 : Int) else 0) ≤ 1 + (if (S &&& A).testBit p = true then (1 : Int) else 0)
      rw [Nat.testBit_and]
      cases S.testBit p <;> cases A.testBit p <;> decide
    rw [smI_const] at e6
    omega
  show Msh (kin g n) n k + Msh (strg g n) n l ≤ n + k * l
  omega
theorem stt_eq (hn : n ≤ 10) (hg : Sm n n g) (ho : Ord n g) {k l : Nat} (h : Stt n (ltG g) k l) : cK g n k + aL g n l = n + k * l :=
  Nat.le_antisymm (both_le hn hg ho k l) (stt_ge hn hg ho h)
end
end Go.Proofs.YtadocffdneiaaaaDoor
