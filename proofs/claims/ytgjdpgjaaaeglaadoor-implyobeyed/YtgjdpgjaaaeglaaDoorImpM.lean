/-
  Rules, the sets that obey them, and the least one that has a set: plain facts. Conditions: as each theorem says.
-/
import Derived.Test.YtgjdpgjaaaeglaaDoorSets
namespace Go.Proofs.YtgjdpgjaaaeglaaDoor

/-- Is P so of the first k? -/
def allB (P : Nat → Bool) : Nat → Bool
  | 0 => true
  | k + 1 => allB P k && P k
theorem allB_iff (P : Nat → Bool) : ∀ k, allB P k = true ↔ ∀ i, i < k → P i = true
  | 0 => by simp [allB]
  | k + 1 => by
    have ih := allB_iff P k
    simp only [allB, Bool.and_eq_true, ih]
    constructor
    · rintro ⟨h1, h2⟩ i hi
      by_cases e : i = k
      · subst e; exact h2
      · exact h1 i (by omega)
    · intro h
      exact ⟨fun i hi => h i (by omega), h k (by omega)⟩
theorem full_bit (m i : Nat) : (pw m - 1).testBit i = decide (i < m) := by unfold pw; exact Nat.testBit_two_pow_sub_one m i
theorem full_lt (m : Nat) : pw m - 1 < pw m := by have := pw_pos m; omega
theorem set_1024 {n s : Nat} (h10 : n ≤ 10) (hs : s < pw n) : s < 1024 := Nat.lt_of_lt_of_le hs (pw_le n h10)
/-- All of a is in b. -/
def Sb (a b : Nat) : Prop := ∀ i, a.testBit i = true → b.testBit i = true
theorem Sb.refl (a : Nat) : Sb a a := fun _ h => h
theorem Sb.trans {a b c : Nat} (h : Sb a b) (h' : Sb b c) : Sb a c := fun i hi => h' i (h i hi)
theorem Sb.anti {a b : Nat} (h : Sb a b) (h' : Sb b a) : a = b := Nat.eq_of_testBit_eq fun i => by rw [Bool.eq_iff_iff]; exact ⟨h i, h' i⟩
theorem lack_sb {a b : Nat} (ha : a < 1024) (hb : b < 1024) : (lack a b == 0) = true ↔ Sb a b := by rw [beq_iff_eq]; exact lack_zero a b (by omega) (by omega)
theorem or_sb {a b c : Nat} : Sb (a ||| b) c ↔ Sb a c ∧ Sb b c := by
  constructor
  · intro h
    exact ⟨fun i hi => h i (by rw [Nat.testBit_or, hi]; rfl), fun i hi => h i (by rw [Nat.testBit_or, hi, Bool.or_true])⟩
  · rintro ⟨h1, h2⟩ i hi
    rw [Nat.testBit_or, Bool.or_eq_true] at hi
    rcases hi with h | h
    · exact h1 i h
    · exact h2 i h
theorem sb_le {a b : Nat} (h : Sb a b) : a ≤ b := by
  have : a &&& b = a := Nat.eq_of_testBit_eq fun i => by
    rw [Nat.testBit_and]
    cases e : a.testBit i
    · rfl
    · rw [h i e]; rfl
  rw [← this]; exact Nat.and_le_right

/-- Does s obey the rule? -/
def obe (s : Nat) (r : Nat × Nat) : Bool := !(lack r.1 s == 0) || (lack r.2 s == 0)
def Obe (s : Nat) (r : Nat × Nat) : Prop := Sb r.1 s → Sb r.2 s
theorem obe_iff {s : Nat} {r : Nat × Nat} (hs : s < 1024) (h1 : r.1 < 1024) (h2 : r.2 < 1024) : obe s r = true ↔ Obe s r := by
  unfold obe Obe
  rw [Bool.or_eq_true, Bool.not_eq_true', ← lack_sb h1 hs, ← lack_sb h2 hs]
  cases lack r.1 s == 0 <;> simp
/-- Rules of n marks. -/
def RIn (n : Nat) (R : List (Nat × Nat)) : Prop := ∀ r, r ∈ R → r.1 < pw n ∧ r.2 < pw n
def ObeA (s : Nat) (R : List (Nat × Nat)) : Prop := ∀ r, r ∈ R → Obe s r
/-- x is the least set that has all of s and obeys the rules. -/
def IsClo (R : List (Nat × Nat)) (n s x : Nat) : Prop := x < pw n ∧ Sb s x ∧ ObeA x R ∧ ∀ y, y < pw n → Sb s y → ObeA y R → Sb x y
theorem IsClo.unique {R : List (Nat × Nat)} {n s x y : Nat} (h : IsClo R n s x) (h' : IsClo R n s y) : x = y :=
  (h.2.2.2 y h'.1 h'.2.1 h'.2.2.1).anti (h'.2.2.2 x h.1 h.2.1 h.2.2.1)
theorem obe_full {R : List (Nat × Nat)} {n : Nat} (hR : RIn n R) : ObeA (pw n - 1) R := fun r hr _ i hi => by
  rw [full_bit]; exact decide_eq_true (bit_of_lt (hR r hr).2 hi)
/-- Whether a set obeys all rules can be told. -/
theorem obeA_dec (n : Nat) (R : List (Nat × Nat)) (h10 : n ≤ 10) (hR : RIn n R) (s : Nat) (hs : s < pw n) : (R.all (obe s)) = true ↔ ObeA s R := by
  rw [List.all_eq_true]
  exact ⟨fun h r hr => (obe_iff (set_1024 h10 hs) (set_1024 h10 (hR r hr).1) (set_1024 h10 (hR r hr).2)).1 (h r hr), fun h r hr => (obe_iff (set_1024 h10 hs) (set_1024 h10 (hR r hr).1) (set_1024 h10 (hR r hr).2)).2 (h r hr)⟩
/-- The least set, as a number. -/
def clo (R : List (Nat × Nat)) (n s : Nat) : Nat := setBy (fun i => allB (fun y => !(lack s y == 0) || !(R.all (obe y)) || y.testBit i) (pw n)) n
theorem clo_is {R : List (Nat × Nat)} {n s : Nat} (h10 : n ≤ 10) (hR : RIn n R) (hs : s < pw n) : IsClo R n s (clo R n s) := by
  have hbit : ∀ i, (clo R n s).testBit i = true ↔ i < n ∧ ∀ y, y < pw n → Sb s y → ObeA y R → y.testBit i = true := fun i => by
    unfold clo
    rw [setBy_bit, Bool.and_eq_true, decide_eq_true_eq, allB_iff]
    constructor
    · rintro ⟨h1, h2⟩
      refine ⟨h1, fun y hy hsy ho => ?_⟩
      have := h2 y hy
      rw [(lack_sb (set_1024 h10 hs) (set_1024 h10 hy)).2 hsy, (obeA_dec n R h10 hR y hy).2 ho] at this
      simpa using this
    · rintro ⟨h1, h2⟩
      refine ⟨h1, fun y hy => ?_⟩
      cases e1 : lack s y == 0
      · rfl
      · cases e2 : R.all (obe y)
        · rfl
        · rw [h2 y hy ((lack_sb (set_1024 h10 hs) (set_1024 h10 hy)).1 e1) ((obeA_dec n R h10 hR y hy).1 e2)]; rfl
  refine ⟨setBy_lt _ _, fun i hi => (hbit i).2 ⟨bit_of_lt hs hi, fun y _ hsy _ => hsy i hi⟩, fun r hr h1 i hi => ?_, fun y hy hsy ho i hi => ((hbit i).1 hi).2 y hy hsy ho⟩
  refine (hbit i).2 ⟨bit_of_lt (hR r hr).2 hi, fun y hy hsy ho => ho r hr (fun j hj => ?_) i hi⟩
  exact ((hbit j).1 (h1 j hj)).2 y hy hsy ho
theorem clo_lt {R : List (Nat × Nat)} {n s : Nat} : clo R n s < pw n := setBy_lt _ _
theorem clo_fix {R : List (Nat × Nat)} {n s : Nat} (h10 : n ≤ 10) (hR : RIn n R) (hs : s < pw n) (ho : ObeA s R) : clo R n s = s :=
  (clo_is h10 hR hs).unique ⟨hs, Sb.refl s, ho, fun _ _ h _ => h⟩
theorem clo_twice {R : List (Nat × Nat)} {n s : Nat} (h10 : n ≤ 10) (hR : RIn n R) (hs : s < pw n) : clo R n (clo R n s) = clo R n s :=
  clo_fix h10 hR clo_lt (clo_is h10 hR hs).2.2.1
theorem clo_mono {R : List (Nat × Nat)} {n s t : Nat} (h10 : n ≤ 10) (hR : RIn n R) (hs : s < pw n) (ht : t < pw n) (h : Sb s t) : Sb (clo R n s) (clo R n t) :=
  (clo_is h10 hR hs).2.2.2 _ clo_lt (h.trans (clo_is h10 hR ht).2.1) (clo_is h10 hR ht).2.2.1
/-- A rule follows just if what If closes to obeys it (Armstrong). -/
theorem follows_iff {R : List (Nat × Nat)} {n : Nat} {r : Nat × Nat} (h10 : n ≤ 10) (hR : RIn n R) (h1 : r.1 < pw n) : Obe (clo R n r.1) r ↔ ∀ x, x < pw n → ObeA x R → Obe x r := by
  have hc := clo_is h10 hR h1
  constructor
  · intro h x hx ho hsx
    exact (h hc.2.1).trans (hc.2.2.2 x hx hsx ho)
  · intro h
    exact h _ hc.1 hc.2.2.1

/-- How far a round of the rules came: between before and the least set; and if nothing changed, all so far are obeyed. -/
def Rnd (R : List (Nat × Nat)) (n s b x k : Nat) : Prop := b < pw n ∧ x < pw n ∧ Sb s b ∧ Sb b x ∧ Sb x (clo R n s) ∧ (x = b → ∀ i, i < k → Obe b (R.getD i (0, 0)))
theorem Rnd.start {R : List (Nat × Nat)} {n s x : Nat} (hx : x < pw n) (h1 : Sb s x) (h2 : Sb x (clo R n s)) : Rnd R n s x x 0 := ⟨hx, hx, h1, Sb.refl _, h2, fun _ _ h => absurd h (Nat.not_lt_zero _)⟩
theorem Rnd.keep {R : List (Nat × Nat)} {n s b x k : Nat} (h : Rnd R n s b x k) (ho : Obe x (R.getD k (0, 0))) : Rnd R n s b x (k + 1) := by
  obtain ⟨h1, h2, h3, h4, h5, h6⟩ := h
  refine ⟨h1, h2, h3, h4, h5, fun e i hi => ?_⟩
  by_cases ei : i = k
  · subst ei; rw [← e]; exact ho
  · exact h6 e i (by omega)
theorem getD_mem {α : Type} {l : List α} {i : Nat} (d : α) (h : i < l.length) : l.getD i d ∈ l := by
  rw [List.getD_eq_getElem?_getD, List.getElem?_eq_getElem h]
  exact List.getElem_mem h
theorem Rnd.add {R : List (Nat × Nat)} {n s b x k : Nat} (h10 : n ≤ 10) (hR : RIn n R) (hs : s < pw n) (hk : k < R.length) (h : Rnd R n s b x k) (ho : ¬ Obe x (R.getD k (0, 0))) : Rnd R n s b (x ||| (R.getD k (0, 0)).2) (k + 1) ∧ x < x ||| (R.getD k (0, 0)).2 := by
  obtain ⟨h1, h2, h3, h4, h5, h6⟩ := h
  have hm := getD_mem (0, 0) hk
  generalize R.getD k (0, 0) = r at *
  have hsub : Sb x (x ||| r.2) := fun i hi => by rw [Nat.testBit_or, hi]; rfl
  have hne : x ||| r.2 ≠ x := fun e => ho (fun _ i hi => by rw [← e, Nat.testBit_or, hi, Bool.or_true])
  have hlt : x < x ||| r.2 := Nat.lt_of_le_of_ne (sb_le hsub) (Ne.symm hne)
  have hc := clo_is h10 hR hs
  have hin : Sb r.2 (clo R n s) := hc.2.2.1 r hm (by
    have : Sb r.1 x := fun i hi => by
      cases e : x.testBit i
      · exact absurd (fun hh : Sb r.1 x => absurd (hh i hi) (by rw [e]; decide)) ho
      · rfl
    exact this.trans h5)
  refine ⟨⟨h1, Nat.or_lt_two_pow h2 (hR r hm).2, h3, h4.trans hsub, or_sb.2 ⟨h5, hin⟩, fun e => ?_⟩, hlt⟩
  exact absurd ((sb_le h4)) (by rw [← e] ; omega)
theorem Rnd.done {R : List (Nat × Nat)} {n s b : Nat} (h10 : n ≤ 10) (hR : RIn n R) (hs : s < pw n) (h : Rnd R n s b b R.length) : b = clo R n s := by
  obtain ⟨h1, _, h3, _, h5, h6⟩ := h
  refine h5.anti ((clo_is h10 hR hs).2.2.2 b h1 h3 (fun r hr => ?_))
  obtain ⟨i, hi, e⟩ := List.getElem_of_mem hr
  have := h6 rfl i hi
  rw [List.getD_eq_getElem?_getD, List.getElem?_eq_getElem hi, Option.getD_some, e] at this
  exact this
end Go.Proofs.YtgjdpgjaaaeglaaDoor
