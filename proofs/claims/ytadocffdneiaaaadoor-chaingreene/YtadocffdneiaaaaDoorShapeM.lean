/-
  How many points the greatest free set in a set has, two ways; and how much each one more brings. Conditions: at most ten points; foes are foes of one another, none of itself.
-/
import Derived.Test.YtadocffdneiaaaaDoorKin
import Derived.Test.YtadocffdneiaaaaDoorRefChain
import Derived.Test.YtadocffdneiaaaaDoorPoints
namespace Go.Proofs.YtadocffdneiaaaaDoor

/-- The most of those of the first k of which it is so. -/
def mxB (P : Nat → Bool) (v : Nat → Nat) : Nat → Nat
  | 0 => 0
  | k + 1 => if P k = true ∧ mxB P v k < v k then v k else mxB P v k
theorem mxB_ge {P : Nat → Bool} {v : Nat → Nat} : ∀ k i, i < k → P i = true → v i ≤ mxB P v k
  | 0, _, hi, _ => absurd hi (Nat.not_lt_zero _)
  | k + 1, i, hi, hp => by
    have ih : i ≠ k → v i ≤ mxB P v k := fun h => mxB_ge k i (by omega) hp
    unfold mxB
    by_cases e : i = k
    · subst e
      by_cases c : mxB P v i < v i
      · rw [if_pos ⟨hp, c⟩]; exact Nat.le_refl _
      · rw [if_neg (fun h => c h.2)]; omega
    · have := ih e
      split <;> omega
theorem mxB_le {P : Nat → Bool} {v : Nat → Nat} {b : Nat} : ∀ k, (∀ i, i < k → P i = true → v i ≤ b) → mxB P v k ≤ b
  | 0, _ => Nat.zero_le _
  | k + 1, h => by
    have ih := mxB_le k (fun i hi hp => h i (by omega) hp)
    unfold mxB
    split
    · rename_i c; exact h k (by omega) c.1
    · exact ih
theorem mxB_ex {P : Nat → Bool} {v : Nat → Nat} : ∀ k, (∃ i, i < k ∧ P i = true) → ∃ i, i < k ∧ P i = true ∧ v i = mxB P v k
  | 0, ⟨_, hi, _⟩ => absurd hi (Nat.not_lt_zero _)
  | k + 1, ⟨i, hi, hp⟩ => by
    unfold mxB
    by_cases c : P k = true ∧ mxB P v k < v k
    · rw [if_pos c]; exact ⟨k, by omega, c.1, rfl⟩
    · rw [if_neg c]
      by_cases e : ∃ i, i < k ∧ P i = true
      · obtain ⟨j, hj, hjp, hjv⟩ := mxB_ex k e
        exact ⟨j, by omega, hjp, hjv⟩
      · have hik : i = k := Classical.byContradiction fun h => e ⟨i, by omega, hp⟩
        subst hik
        have h1 : mxB P v i = 0 := by
          have := mxB_le (P := P) (v := v) (b := 0) i (fun j hj hjp => absurd ⟨j, hj, hjp⟩ e)
          omega
        refine ⟨i, by omega, hp, ?_⟩
        have : ¬ mxB P v i < v i := fun h => c ⟨hp, h⟩
        omega
theorem mxB_congr {P Q : Nat → Bool} {v : Nat → Nat} : ∀ k, (∀ i, i < k → P i = Q i) → mxB P v k = mxB Q v k
  | 0, _ => rfl
  | k + 1, h => by
    unfold mxB
    rw [mxB_congr k (fun i hi => h i (by omega)), h k (by omega)]

def inB (t s : Nat) : Bool := (t &&& s) == t
theorem inB_iff {t s : Nat} : inB t s = true ↔ Sub t s := by
  unfold inB
  rw [beq_iff_eq]
  constructor
  · intro h i hi
    have h2 : (t &&& s).testBit i = true := by rw [h]; exact hi
    rw [Nat.testBit_and, Bool.and_eq_true] at h2
    exact h2.2
  · intro h
    refine Nat.eq_of_testBit_eq fun i => ?_
    rw [Nat.testBit_and]
    cases hi : t.testBit i
    · rfl
    · rw [h i hi]; rfl

theorem del_ok : ((List.range 1024).all fun x => (List.range 10).all fun c => !x.testBit c || (x - 2 ^ c == lack x (2 ^ c) && pc x == pc (lack x (2 ^ c)) + 1)) = true := by decide +kernel
theorem ins_ok : ((List.range 1024).all fun x => (List.range 10).all fun c => x.testBit c || pc (x ||| 2 ^ c) == pc x + 1) = true := by decide +kernel
theorem lo_ok : ((List.range 1024).all fun x => x == 0 || x.testBit (lo x)) = true := by decide +kernel
theorem lo_in {s : Nat} (hs : s < 1024) (h0 : s ≠ 0) : s.testBit (lo s) = true := by
  have := List.all_eq_true.1 lo_ok s (List.mem_range.2 hs)
  rw [Bool.or_eq_true, beq_iff_eq] at this
  exact this.resolve_left h0
theorem del_is {s c : Nat} (hs : s < 1024) (hc : c < 10) (h : s.testBit c = true) : s - pw c = lack s (pw c) ∧ pc s = pc (lack s (pw c)) + 1 := by
  have := List.all_eq_true.1 (List.all_eq_true.1 del_ok s (List.mem_range.2 hs)) c (List.mem_range.2 hc)
  rw [h, Bool.not_true, Bool.false_or, Bool.and_eq_true, beq_iff_eq, beq_iff_eq] at this
  exact this
theorem ins_is {s c : Nat} (hs : s < 1024) (hc : c < 10) (h : s.testBit c = false) : pc (s ||| pw c) = pc s + 1 := by
  have := List.all_eq_true.1 (List.all_eq_true.1 ins_ok s (List.mem_range.2 hs)) c (List.mem_range.2 hc)
  rw [h, Bool.false_or, beq_iff_eq] at this
  exact this
theorem pcn_mono {s t : Nat} (h : Sub s t) : ∀ k, pcn s k ≤ pcn t k
  | 0 => Nat.le_refl _
  | k + 1 => by
    have ih := pcn_mono h k
    unfold pcn
    cases hs : s.testBit k
    · split <;> split <;> first | omega | contradiction
    · rw [h k hs]; simp; exact ih
theorem pc_mono {s t : Nat} (h : Sub s t) : pc s ≤ pc t := pcn_mono h 10
theorem pc_zero : pc 0 = 0 := by decide
theorem pc_pw {c : Nat} (hc : c < 10) : pc (pw c) = 1 := by
  have := ins_is (s := 0) (c := c) (by decide) hc (by simp)
  rw [Nat.zero_or, pc_zero] at this
  exact this
theorem pcn_top {s m : Nat} (hs : s < pw m) : ∀ d, pcn s (m + d) = pcn s m := pcn_stop fun j hj => by
  cases h : s.testBit j
  · rfl
  · have := bit_of_lt hs h; omega
theorem pc_at {s m : Nat} (hm : m ≤ 10) (hs : s < pw m) : pc s ≤ m := by
  have h1 := pcn_top hs (10 - m)
  have h2 := pcn_le s m
  rw [show m + (10 - m) = 10 by omega] at h1
  unfold pc; omega
theorem full_bit (m i : Nat) : (pw m - 1).testBit i = decide (i < m) := Nat.testBit_two_pow_sub_one m i
theorem sub_full {s m : Nat} (hs : s < pw m) : Sub s (pw m - 1) := fun i hi => by
  rw [full_bit]; simpa using bit_of_lt hs hi
theorem lack_at {s t i : Nat} (hs : s < 1024) (ht : t < 1024) : (lack s t).testBit i = (s.testBit i && !t.testBit i) := lack_bit s t i (by omega) (by omega)

/-- Foes. -/
structure Foe (F : Nat → Nat) (m : Nat) : Prop where
  m10 : m ≤ 10
  lt : ∀ k, k < m → F k < pw m
  irr : ∀ p, p < m → (F p).testBit p = false
  sym : ∀ p q, p < m → q < m → (F p).testBit q = (F q).testBit p
/-- The most points of a free set in s. -/
def frs (F : Nat → Nat) (m s : Nat) : Nat := mxB (fun t => inB t s && freeB F m t) pc (pw m)
section
variable {F : Nat → Nat} {m : Nat}
theorem free_iff {s : Nat} : freeB F m s = true ↔ ∀ p, p < m → s.testBit p = true → ∀ i, s.testBit i = true → (F p).testBit i = false := by
  rw [freeB_iff]
  constructor
  · intro h p hp hb; exact (and_zero_iff _ _).1 (h p hp hb)
  · intro h p hp hb; exact (and_zero_iff _ _).2 (h p hp hb)
theorem free_sub {s t : Nat} (h : Sub t s) (hf : freeB F m s = true) : freeB F m t = true :=
  free_iff.2 fun p hp hb i hi => free_iff.1 hf p hp (h p hb) i (h i hi)
theorem free_zero : freeB F m 0 = true := free_iff.2 fun p _ hb => by simp at hb
theorem fr_ge {s t : Nat} (ht : t < pw m) (hs : Sub t s) (hf : freeB F m t = true) : pc t ≤ frs F m s :=
  mxB_ge (P := fun t => inB t s && freeB F m t) (v := pc) _ t ht (by show (inB t s && freeB F m t) = true; rw [inB_iff.2 hs, hf]; rfl)
theorem fr_ex (F : Nat → Nat) (m s : Nat) : ∃ t, t < pw m ∧ Sub t s ∧ freeB F m t = true ∧ pc t = frs F m s := by
  obtain ⟨t, ht, hp, hv⟩ := mxB_ex (P := fun t => inB t s && freeB F m t) (v := pc) (pw m) ⟨0, pw_pos m, by
    show (inB 0 s && freeB F m 0) = true
    rw [free_zero, inB_iff.2 (fun i hi => by simp at hi)]; rfl⟩
  have hp2 : (inB t s && freeB F m t) = true := hp
  rw [Bool.and_eq_true] at hp2
  exact ⟨t, ht, inB_iff.1 hp2.1, hp2.2, hv⟩
theorem fr_mono {s t : Nat} (h : Sub s t) : frs F m s ≤ frs F m t := by
  obtain ⟨u, hu, hs, hf, e⟩ := fr_ex F m s
  rw [← e]
  exact fr_ge hu (fun i hi => h i (hs i hi)) hf
theorem fr_le_pc {s : Nat} : frs F m s ≤ pc s := by
  obtain ⟨u, _, hs, _, e⟩ := fr_ex F m s
  rw [← e]; exact pc_mono hs
theorem sub_lack (hm : m ≤ 10) {s t : Nat} (hs : s < pw m) (ht : t < 1024) : Sub (lack s t) s := fun i hi => by
  rw [lack_at (set_small hs hm) ht, Bool.and_eq_true] at hi; exact hi.1
theorem small_pw {k : Nat} (hk : k < 10) : pw k < 1024 := Nat.lt_of_lt_of_le (Nat.pow_lt_pow_right (by decide) hk) (Nat.le_refl _)
/-- One without a point, or one with it, and then without its foes. -/
theorem Foe.step (h : Foe F m) {s k : Nat} (hs : s < pw m) (hk : s.testBit k = true) : frs F m s = max (frs F m (lack s (pw k))) (1 + frs F m (lack (lack s (pw k)) (F k))) := by
  have hm := h.m10
  have hkm : k < m := bit_of_lt hs hk
  have s1 : s < 1024 := set_small hs hm
  have s2 : pw k < 1024 := small_pw (by omega)
  have s3 : F k < 1024 := set_small (h.lt k hkm) hm
  have s4 : lack s (pw k) < 1024 := Nat.lt_of_le_of_lt (lack_le _ _) s1
  have b1 : ∀ i, (lack s (pw k)).testBit i = true ↔ s.testBit i = true ∧ k ≠ i := fun i => by
    rw [lack_at s1 s2, pw_bit, Bool.and_eq_true]; simp
  have b2 : ∀ i, (lack (lack s (pw k)) (F k)).testBit i = true ↔ (s.testBit i = true ∧ k ≠ i) ∧ (F k).testBit i = false := fun i => by
    rw [lack_at s4 s3, Bool.and_eq_true, b1]; simp
  apply Nat.le_antisymm
  · obtain ⟨t, ht, hts, hf, e⟩ := fr_ex F m s
    rw [← e]
    cases htk : t.testBit k
    · refine Nat.le_trans (fr_ge ht (fun i hi => (b1 i).2 ⟨hts i hi, fun e => ?_⟩) hf) (Nat.le_max_left _ _)
      subst e; rw [hi] at htk; cases htk
    · have t1 : t < 1024 := set_small ht hm
      have c1 : ∀ i, (lack t (pw k)).testBit i = true ↔ t.testBit i = true ∧ k ≠ i := fun i => by
        rw [lack_at t1 s2, pw_bit, Bool.and_eq_true]; simp
      have hd := (del_is t1 (by omega) htk).2
      have hle := fr_ge (F := F) (m := m) (s := lack (lack s (pw k)) (F k)) (t := lack t (pw k)) (Nat.lt_of_le_of_lt (lack_le _ _) ht) (fun i hi => by
        obtain ⟨h1, h2⟩ := (c1 i).1 hi
        exact (b2 i).2 ⟨⟨hts i h1, h2⟩, free_iff.1 hf k hkm htk i h1⟩) (free_sub (fun i hi => ((c1 i).1 hi).1) hf)
      refine Nat.le_trans ?_ (Nat.le_max_right _ _)
      omega
  · refine Nat.max_le.2 ⟨fr_mono fun i hi => ((b1 i).1 hi).1, ?_⟩
    obtain ⟨t, ht, hts, hf, e⟩ := fr_ex F m (lack (lack s (pw k)) (F k))
    have htk : t.testBit k = false := by
      cases htk : t.testBit k
      · rfl
      · exact absurd rfl ((b2 k).1 (hts k htk)).1.2
    have t1 : t < 1024 := set_small ht hm
    have hi := ins_is t1 (by omega) htk
    have c1 : ∀ i, (t ||| pw k).testBit i = true ↔ t.testBit i = true ∨ k = i := fun i => by
      rw [Nat.testBit_or, pw_bit, Bool.or_eq_true, decide_eq_true_iff]
    have hle := fr_ge (F := F) (m := m) (s := s) (t := t ||| pw k) (Nat.or_lt_two_pow ht (Nat.pow_lt_pow_right (by decide) hkm)) (fun i hi => by
      rcases (c1 i).1 hi with h1 | rfl
      · exact ((b2 i).1 (hts i h1)).1.1
      · exact hk) (free_iff.2 fun p hp hpb i hib => by
        rcases (c1 p).1 hpb with h1 | rfl
        · rcases (c1 i).1 hib with h2 | rfl
          · exact free_iff.1 hf p hp h1 i h2
          · rw [h.sym p k hp hkm]; exact ((b2 p).1 (hts p h1)).2
        · rcases (c1 i).1 hib with h2 | rfl
          · exact ((b2 i).1 (hts i h2)).2
          · exact h.irr k hkm)
    omega
/-- The reference's rounds. -/
def rb (F : Nat → Nat) (m s : Nat) : Nat → Nat
  | 0 => if freeB F m s = true then pc s else 0
  | i + 1 => if s.testBit i = true ∧ rb F m s i < frs F m (s - pw i) then frs F m (s - pw i) else rb F m s i
theorem Foe.rb_le (h : Foe F m) {s : Nat} (hs : s < pw m) : ∀ i, i ≤ m → rb F m s i ≤ frs F m s
  | 0, _ => by
    unfold rb
    split
    · rename_i c; exact fr_ge hs (fun _ h => h) c
    · exact Nat.zero_le _
  | i + 1, hi => by
    have ih := h.rb_le hs i (by omega)
    have hm := h.m10
    unfold rb
    split
    · rename_i c
      rw [(del_is (set_small hs hm) (by omega) c.1).1]
      exact fr_mono (sub_lack hm hs (small_pw (by omega)))
    · exact ih
theorem rb_ge {s : Nat} : ∀ i k, k < i → s.testBit k = true → frs F m (s - pw k) ≤ rb F m s i
  | 0, _, hk, _ => absurd hk (Nat.not_lt_zero _)
  | i + 1, k, hk, hb => by
    unfold rb
    by_cases e : k = i
    · subst e
      by_cases c : rb F m s k < frs F m (s - pw k)
      · rw [if_pos ⟨hb, c⟩]; exact Nat.le_refl _
      · rw [if_neg (fun h => c h.2)]; omega
    · have := rb_ge (s := s) i k (by omega) hb
      split <;> omega
theorem rb_free {s : Nat} (hf : freeB F m s = true) : ∀ i, pc s ≤ rb F m s i
  | 0 => by unfold rb; rw [if_pos hf]; exact Nat.le_refl _
  | i + 1 => by
    have := rb_free hf i
    unfold rb
    split <;> omega
theorem Foe.rb_is (h : Foe F m) {s : Nat} (hs : s < pw m) : rb F m s m = frs F m s := by
  have hm := h.m10
  refine Nat.le_antisymm (h.rb_le hs m (Nat.le_refl _)) ?_
  cases hf : freeB F m s
  · obtain ⟨t, ht, hts, hft, e⟩ := fr_ex F m s
    have : ∃ k, s.testBit k = true ∧ t.testBit k = false := by
      refine Classical.byContradiction fun hno => ?_
      have e2 : t = s := Nat.eq_of_testBit_eq fun i => by
        rw [Bool.eq_iff_iff]
        refine ⟨hts i, fun hi => ?_⟩
        cases hti : t.testBit i
        · exact absurd ⟨i, hi, hti⟩ hno
        · rfl
      rw [e2, hf] at hft; cases hft
    obtain ⟨k, hk, htk⟩ := this
    have hkm := bit_of_lt hs hk
    refine Nat.le_trans ?_ (rb_ge m k hkm hk)
    rw [← e, (del_is (set_small hs hm) (by omega) hk).1]
    refine fr_ge ht (fun i hi => ?_) hft
    rw [lack_at (set_small hs hm) (small_pw (by omega)), pw_bit, hts i hi]
    have : k ≠ i := fun e => by subst e; rw [hi] at htk; cases htk
    simp [this]
  · exact Nat.le_trans fr_le_pc (rb_free hf m)

/-- The most points of a set whose free sets have k at most. -/
def Msh (F : Nat → Nat) (m k : Nat) : Nat := mxB (fun s => decide (frs F m s ≤ k)) pc (pw m)
/-- .. have just k. -/
def Esh (F : Nat → Nat) (m k : Nat) : Nat := mxB (fun s => frs F m s == k) pc (pw m)
theorem Foe.fr_add (h : Foe F m) {s k : Nat} (hk : k < m) : frs F m (s ||| pw k) ≤ frs F m s + 1 := by
  have hm := h.m10
  obtain ⟨t, ht, hts, hf, e⟩ := fr_ex F m (s ||| pw k)
  rw [← e]
  have c1 : ∀ i, (s ||| pw k).testBit i = true ↔ s.testBit i = true ∨ k = i := fun i => by
    rw [Nat.testBit_or, pw_bit, Bool.or_eq_true, decide_eq_true_iff]
  have t1 := set_small ht hm
  cases htk : t.testBit k
  · have := fr_ge (F := F) (s := s) ht (fun i hi => by
      rcases (c1 i).1 (hts i hi) with h1 | rfl
      · exact h1
      · rw [hi] at htk; cases htk) hf
    omega
  · have hd := (del_is t1 (by omega) htk).2
    have b1 : ∀ i, (lack t (pw k)).testBit i = true ↔ t.testBit i = true ∧ k ≠ i := fun i => by
      rw [lack_at t1 (small_pw (by omega)), pw_bit, Bool.and_eq_true]; simp
    have := fr_ge (F := F) (s := s) (t := lack t (pw k)) (Nat.lt_of_le_of_lt (lack_le _ _) ht) (fun i hi => by
      obtain ⟨h1, h2⟩ := (b1 i).1 hi
      rcases (c1 i).1 (hts i h1) with h3 | h3
      · exact h3
      · exact absurd h3 h2) (free_sub (fun i hi => ((b1 i).1 hi).1) hf)
    omega
theorem not_full {s : Nat} (hs : s < pw m) (hne : s ≠ pw m - 1) : ∃ k, k < m ∧ s.testBit k = false := by
  refine Classical.byContradiction fun hno => hne (eq_of_bits hs (by have := pw_pos m; omega) fun i hi => ?_)
  rw [full_bit]
  cases hb : s.testBit i
  · exact absurd ⟨i, hi, hb⟩ hno
  · simp [hi]
theorem Foe.E_M (h : Foe F m) {k : Nat} (hk : k ≤ frs F m (pw m - 1)) : Esh F m k = Msh F m k := by
  have hm := h.m10
  apply Nat.le_antisymm
  · refine mxB_le _ fun s hs hp => mxB_ge (P := fun s => decide (frs F m s ≤ k)) (v := pc) _ s hs ?_
    have : frs F m s = k := by simpa using hp
    simp [this]
  · obtain ⟨s, hs, hp, hv⟩ := mxB_ex (P := fun s => decide (frs F m s ≤ k)) (v := pc) (pw m) ⟨0, pw_pos m, by
      have := fr_le_pc (F := F) (m := m) (s := 0)
      rw [pc_zero] at this
      simp; omega⟩
    have hp2 : frs F m s ≤ k := by simpa using hp
    have hv2 : pc s = Msh F m k := hv
    rw [← hv2]
    have e : frs F m s = k := by
      refine Classical.byContradiction fun hne => ?_
      obtain ⟨i, hi, hb⟩ := not_full hs (fun e => by rw [e] at hp2 hne; omega)
      have h1 := h.fr_add (s := s) hi
      have h2 := ins_is (set_small hs hm) (by omega) hb
      have h3 : pc (s ||| pw i) ≤ Msh F m k := mxB_ge (P := fun s => decide (frs F m s ≤ k)) (v := pc) _ _ (Nat.or_lt_two_pow hs (Nat.pow_lt_pow_right (by decide) hi)) (by simp; omega)
      omega
    exact mxB_ge (P := fun s => frs F m s == k) (v := pc) _ s hs (by simp [e])
theorem Msh_mono {j k : Nat} (h : j ≤ k) : Msh F m j ≤ Msh F m k :=
  mxB_le _ fun s hs hp => mxB_ge (P := fun s => decide (frs F m s ≤ k)) (v := pc) _ s hs (by
    have : frs F m s ≤ j := by simpa using hp
    simp; omega)
theorem Msh_le (hm : m ≤ 10) (k : Nat) : Msh F m k ≤ m := mxB_le _ fun _ hs _ => pc_at hm hs
theorem pc_full (hm : m ≤ 10) : pc (pw m - 1) = m := by
  have : ∀ m, m ≤ 10 → pc (pw m - 1) = m := by decide
  exact this m hm
theorem Msh_full (hm : m ≤ 10) {k : Nat} (h : frs F m (pw m - 1) ≤ k) : Msh F m k = m := by
  have hp := pw_pos m
  refine Nat.le_antisymm (Msh_le hm k) ?_
  have := mxB_ge (P := fun s => decide (frs F m s ≤ k)) (v := pc) (pw m) (pw m - 1) (by omega) (by simpa using h)
  rw [pc_full hm] at this
  exact this
theorem Msh_lt (hm : m ≤ 10) {k : Nat} (h : k < frs F m (pw m - 1)) : Msh F m k < m := by
  have hle := Msh_le (F := F) hm k
  refine Classical.byContradiction fun hge => ?_
  obtain ⟨s, hs, hp, hv⟩ := mxB_ex (P := fun s => decide (frs F m s ≤ k)) (v := pc) (pw m) ⟨0, pw_pos m, by
    have := fr_le_pc (F := F) (m := m) (s := 0)
    rw [pc_zero] at this
    simp; omega⟩
  have hp2 : frs F m s ≤ k := by simpa using hp
  have hv2 : pc s = Msh F m k := hv
  obtain ⟨i, hi, hb⟩ := not_full hs (fun e => by rw [e] at hp2; omega)
  have h2 := ins_is (set_small hs hm) (by omega) hb
  have h3 : pc (s ||| pw i) ≤ m := pc_at hm (Nat.or_lt_two_pow hs (Nat.pow_lt_pow_right (by decide) hi))
  omega
theorem Foe.Msh_zero (h : Foe F m) : Msh F m 0 = 0 := by
  have hm := h.m10
  have : Msh F m 0 ≤ 0 := mxB_le _ fun s hs hp => by
    have hp2 : frs F m s ≤ 0 := by simpa using hp
    have : s = 0 := by
      refine Nat.eq_of_testBit_eq fun i => ?_
      rw [Nat.zero_testBit]
      cases hb : s.testBit i
      · rfl
      · have hi := bit_of_lt hs hb
        have h1 := fr_ge (F := F) (m := m) (s := s) (t := pw i) (Nat.pow_lt_pow_right (by decide) hi) (fun j hj => by
          rw [pw_bit] at hj
          have : i = j := by simpa using hj
          rw [← this]; exact hb) (free_iff.2 fun p hp hpb j hj => by
            rw [pw_bit] at hpb hj
            have e1 : i = p := by simpa using hpb
            have e2 : i = j := by simpa using hj
            rw [← e1, ← e2]; exact h.irr i hi)
        rw [pc_pw (by omega)] at h1
        omega
    rw [this, pc_zero]; exact Nat.le_refl _
  omega
/-- How much each one more brings. -/
def shp (M : Nat → Nat) : Nat → List Nat
  | 0 => []
  | k + 1 => shp M k ++ [M (k + 1) - M k]
theorem shp_len (M : Nat → Nat) : ∀ k, (shp M k).length = k
  | 0 => rfl
  | k + 1 => by simp [shp, shp_len M k]
theorem shp_congr {M N : Nat → Nat} : ∀ k, (∀ i, i ≤ k → M i = N i) → shp M k = shp N k
  | 0, _ => rfl
  | k + 1, h => by
    unfold shp
    rw [shp_congr k (fun i hi => h i (by omega)), h k (by omega), h (k + 1) (Nat.le_refl _)]
theorem fr_top (hm : m ≤ 10) : frs F m (pw m - 1) ≤ m := by
  have := fr_le_pc (F := F) (m := m) (s := pw m - 1)
  rw [pc_full hm] at this; exact this
end
/-- Those that are no relatives. -/
def strg (g : Nat → Nat) (n p : Nat) : Nat := lack (pw n - 1) (kin g n p ||| pw p)
section
variable {g : Nat → Nat} {n : Nat}
theorem kin_foe (hn : n ≤ 10) (hg : Sm n n g) (ho : Ord n g) : Foe (kin g n) n :=
  ⟨hn, kin_lt hg, fun p hp => by rw [kin_bit g hp, (ho p hp).1]; rfl, fun p q hp hq => by rw [kin_bit g hq, kin_bit g hp, Bool.or_comm]⟩
theorem strg_bit (hn : n ≤ 10) (hg : Sm n n g) {p q : Nat} (hp : p < n) (hq : q < n) : (strg g n p).testBit q = (!((g p).testBit q || (g q).testBit p) && !decide (p = q)) := by
  have h1 := set_small (kin_lt hg p hp) hn
  have h2 := small_pw (k := p) (by omega)
  have h3 : pw n - 1 < 1024 := by have := pw_le n hn; have := pw_pos n; omega
  unfold strg
  rw [lack_at h3 (Nat.or_lt_two_pow (n := 10) h1 h2), full_bit, Nat.testBit_or, kin_bit g hq, pw_bit, Bool.not_or]
  simp [hq]
theorem strg_foe (hn : n ≤ 10) (hg : Sm n n g) : Foe (strg g n) n := by
  refine ⟨hn, fun k hk => ?_, fun p hp => ?_, fun p q hp hq => ?_⟩
  · have := pw_pos n
    have := lack_le (pw n - 1) (kin g n k ||| pw k)
    unfold strg; omega
  · rw [strg_bit hn hg hp hp]; simp
  · rw [strg_bit hn hg hp hq, strg_bit hn hg hq hp, Bool.or_comm]
    congr 2
    rw [decide_eq_decide]; exact ⟨Eq.symm, Eq.symm⟩
theorem free_chain (hn : n ≤ 10) (hg : Sm n n g) {s : Nat} (hs : s < pw n) : freeB (strg g n) n s = chB g n s := by
  rw [Bool.eq_iff_iff, free_iff, chB_iff]
  constructor
  · intro h i hi k hk h1 h2
    have := h i hi h1 k h2
    rw [strg_bit hn hg hi (by omega)] at this
    have hne : ¬ i = k := by omega
    simp [hne] at this
    cases hb : (g i).testBit k
    · exact .inl (by rw [hb] at this; simpa using this)
    · exact .inr rfl
  · intro h p hp hb i hi
    have hin := bit_of_lt hs hi
    rw [strg_bit hn hg hp hin]
    by_cases e : p = i
    · simp [e]
    · rcases cmp_of h hp hin e hb hi with h1 | h1 <;> simp [h1]
end
end Go.Proofs.YtadocffdneiaaaaDoor
