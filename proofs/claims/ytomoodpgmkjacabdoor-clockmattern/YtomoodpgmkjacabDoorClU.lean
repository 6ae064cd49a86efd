/-
  Messages that are lost, as lists: in the events' order, and rising. Plain facts: no Go text here. Conditions: as each theorem says.
-/
import Derived.Test.YtomoodpgmkjacabDoorClM
import Derived.Test.YtomoodpgmkjacabDoorNats
import Derived.Test.YtomoodpgmkjacabDoorSort
namespace Go.Proofs.YtomoodpgmkjacabDoor
open Go.RowKit

def hasB (E : Nat → Int × Int × Int) (kd ms : Int) : Nat → Bool
  | 0 => false
  | k + 1 => hasB E kd ms k || ((E k).1 == kd && (E k).2.2 == ms)
theorem hasB_iff (E : Nat → Int × Int × Int) (kd ms : Int) : ∀ n, hasB E kd ms n = true ↔ hasE E n kd ms
  | 0 => ⟨fun h => (by cases h), fun ⟨_, h, _⟩ => absurd h (Nat.not_lt_zero _)⟩
  | n + 1 => by
    rw [hasB, Bool.or_eq_true, hasB_iff E kd ms n]
    constructor
    · rintro (⟨k, hk, h1, h2⟩ | h)
      · exact ⟨k, by omega, h1, h2⟩
      · simp at h; exact ⟨n, by omega, h.1, h.2⟩
    · rintro ⟨k, hk, h1, h2⟩
      by_cases e : k = n
      · subst e; exact .inr (by simp [h1, h2])
      · exact .inl ⟨k, by omega, h1, h2⟩
/-- The event at i is a send that nobody receives. -/
def lostB (E : Nat → Int × Int × Int) (n i : Nat) : Bool := (E i).1 == 2 && !hasB E 3 (E i).2.2 n
def msg (E : Nat → Int × Int × Int) (i : Nat) : Nat := (E i).2.2.toNat
def lostL (E : Nat → Int × Int × Int) (n : Nat) : Nat → List Nat
  | 0 => []
  | i + 1 => if lostB E n i = true then lostL E n i ++ [msg E i] else lostL E n i
theorem lostL_yes {E : Nat → Int × Int × Int} {n i : Nat} (h : lostB E n i = true) : lostL E n (i + 1) = lostL E n i ++ [msg E i] := by simp [lostL, h]
theorem lostL_no {E : Nat → Int × Int × Int} {n i : Nat} (h : lostB E n i = false) : lostL E n (i + 1) = lostL E n i := by simp [lostL, h]
theorem lostL_len (E : Nat → Int × Int × Int) (n : Nat) : ∀ i, (lostL E n i).length ≤ i
  | 0 => by simp [lostL]
  | i + 1 => by
    have := lostL_len E n i
    cases h : lostB E n i
    · rw [lostL_no h]; omega
    · rw [lostL_yes h]; simp; omega
theorem mem_lostL {E : Nat → Int × Int × Int} {n x : Nat} : ∀ i, x ∈ lostL E n i ↔ ∃ j, j < i ∧ lostB E n j = true ∧ msg E j = x
  | 0 => by simp [lostL]
  | i + 1 => by
    have ih := mem_lostL (E := E) (n := n) (x := x) i
    cases h : lostB E n i
    · rw [lostL_no h, ih]
      constructor
      · rintro ⟨j, h1, h2, h3⟩; exact ⟨j, by omega, h2, h3⟩
      · rintro ⟨j, h1, h2, h3⟩
        by_cases e : j = i
        · subst e; rw [h] at h2; cases h2
        · exact ⟨j, by omega, h2, h3⟩
    · rw [lostL_yes h, List.mem_append, ih]
      constructor
      · rintro (⟨j, h1, h2, h3⟩ | h3)
        · exact ⟨j, by omega, h2, h3⟩
        · exact ⟨i, by omega, h, (List.mem_singleton.1 h3).symm⟩
      · rintro ⟨j, h1, h2, h3⟩
        by_cases e : j = i
        · subst e; exact .inr (by simp [h3])
        · exact .inl ⟨j, by omega, h2, h3⟩
/-- How many at the head are less than x. -/
def low (x : Nat) : List Nat → Nat
  | [] => 0
  | y :: l => if y < x then low x l + 1 else 0
theorem low_le (x : Nat) : ∀ l, low x l ≤ l.length
  | [] => by simp [low]
  | y :: l => by
    have := low_le x l
    rw [low]; split
    · simp; omega
    · simp
def insL (x : Nat) (l : List Nat) : List Nat := l.take (low x l) ++ x :: l.drop (low x l)
theorem insL_len (x : Nat) (l : List Nat) : (insL x l).length = l.length + 1 := by
  have := low_le x l
  simp [insL]
  omega
theorem mem_insL {x y : Nat} {l : List Nat} : y ∈ insL x l ↔ y = x ∨ y ∈ l := by
  unfold insL
  rw [List.mem_append, List.mem_cons]
  have h : y ∈ l ↔ y ∈ l.take (low x l) ∨ y ∈ l.drop (low x l) := by
    rw [← List.mem_append, List.take_append_drop]
  rw [h]
  constructor
  · rintro (h | h | h)
    · exact .inr (.inl h)
    · exact .inl h
    · exact .inr (.inr h)
  · rintro (h | h | h)
    · exact .inr (.inl h)
    · exact .inl h
    · exact .inr (.inr h)
theorem insL_inc {x : Nat} : ∀ {l : List Nat}, l.Pairwise (· < ·) → x ∉ l → (insL x l).Pairwise (· < ·)
  | [], _, _ => by simp [insL, low]
  | y :: l, h, hx => by
    rw [List.pairwise_cons] at h
    by_cases hy : y < x
    · have e : insL x (y :: l) = y :: insL x l := by simp [insL, low, hy]
      rw [e, List.pairwise_cons]
      refine ⟨fun z hz => ?_, insL_inc h.2 (fun hm => hx (List.mem_cons_of_mem _ hm))⟩
      rcases mem_insL.1 hz with rfl | hz
      · exact hy
      · exact h.1 z hz
    · have e : insL x (y :: l) = x :: y :: l := by simp [insL, low, hy]
      rw [e, List.pairwise_cons, List.pairwise_cons]
      have hne : x ≠ y := fun e => hx (by rw [e]; exact List.mem_cons_self)
      refine ⟨fun z hz => ?_, h⟩
      rcases List.mem_cons.1 hz with rfl | hz
      · omega
      · have := h.1 z hz; omega
/-- The lost messages, rising. -/
def srt (E : Nat → Int × Int × Int) (n : Nat) : Nat → List Nat
  | 0 => []
  | i + 1 => if lostB E n i = true then insL (msg E i) (srt E n i) else srt E n i
theorem srt_yes {E : Nat → Int × Int × Int} {n i : Nat} (h : lostB E n i = true) : srt E n (i + 1) = insL (msg E i) (srt E n i) := by simp [srt, h]
theorem srt_no {E : Nat → Int × Int × Int} {n i : Nat} (h : lostB E n i = false) : srt E n (i + 1) = srt E n i := by simp [srt, h]
theorem srt_len (E : Nat → Int × Int × Int) (n : Nat) : ∀ i, (srt E n i).length = (lostL E n i).length
  | 0 => rfl
  | i + 1 => by
    have := srt_len E n i
    cases h : lostB E n i
    · rw [srt_no h, lostL_no h, this]
    · rw [srt_yes h, lostL_yes h, insL_len, this]; simp
theorem mem_srt {E : Nat → Int × Int × Int} {n x : Nat} : ∀ i, x ∈ srt E n i ↔ x ∈ lostL E n i
  | 0 => Iff.rfl
  | i + 1 => by
    have ih := mem_srt (E := E) (n := n) (x := x) i
    cases h : lostB E n i
    · rw [srt_no h, lostL_no h, ih]
    · rw [srt_yes h, lostL_yes h, mem_insL, ih, List.mem_append, List.mem_singleton]
      exact Or.comm
theorem srt_inc {W : Int} {E : Nat → Int × Int × Int} {n : Nat} : ∀ i, (∀ j, j < i → EvIs W E j 0) → (srt E n i).Pairwise (· < ·)
  | 0, _ => List.Pairwise.nil
  | i + 1, hg => by
    have ih := srt_inc (n := n) i (fun j hj => hg j (by omega))
    cases h : lostB E n i
    · rw [srt_no h]; exact ih
    · rw [srt_yes h]
      refine insL_inc ih fun hm => ?_
      obtain ⟨j, hj, h1, h2⟩ := (mem_lostL i).1 ((mem_srt i).1 hm)
      obtain ⟨g1, g2, g3, g4⟩ := (hg i (by omega)).good
      obtain ⟨f1, f2, _, _⟩ := (hg j (by omega)).good
      have e1 : (E i).1 = 2 := by unfold lostB at h; simp at h; exact h.1
      have e2 : (E j).1 = 2 := by unfold lostB at h1; simp at h1; exact h1.1
      rcases g3 with g3 | g3
      · omega
      · refine g3 ⟨j, hj, by rw [e1, e2], ?_⟩
        unfold msg at h2
        omega
theorem nth_inc {l : List Nat} (h : l.Pairwise (· < ·)) : ∀ p q, p < q → q < l.length → nth l p < nth l q := fun p q hp hq => by
  have := List.pairwise_iff_getElem.1 h p q (by omega) hq hp
  simpa [nth, hq, show p < l.length by omega] using this
/-- What rises, and has all members of what strictly rises, is it. -/
theorem ris_is {h S : Nat → Nat} {n : Nat} (hr : Ris h n) (hs : ∀ p q, p < q → q < n → S p < S q) (hm : ∀ k, k < n → Mem h n (S k)) : ∀ k, k < n → h k = S k := by
  obtain ⟨p, hp⟩ : ∃ p : Nat → Nat, ∀ k, k < n → p k < n ∧ h (p k) = S k := by
    have : ∀ k, ∃ q, k < n → q < n ∧ h q = S k := fun k => by
      by_cases hk : k < n
      · obtain ⟨q, h1, h2⟩ := hm k hk; exact ⟨q, fun _ => ⟨h1, h2⟩⟩
      · exact ⟨0, fun h => absurd h hk⟩
    exact Classical.axiomOfChoice this
  have mono : ∀ i j, i < j → j < n → p i < p j := fun i j hij hj => by
    refine Nat.lt_of_not_le fun hle => ?_
    have h1 := hp i (by omega)
    have h2 := hp j hj
    have h3 := hs i j hij hj
    rcases Nat.eq_or_lt_of_le hle with e | e
    · rw [e] at h2; omega
    · have := hr (p j) (p i) e h1.1; omega
  have ge : ∀ k, k < n → k ≤ p k := by
    intro k
    induction k with
    | zero => intro _; omega
    | succ k ih => intro hk; have := ih (by omega); have := mono k (k + 1) (by omega) hk; omega
  have le : ∀ d k, k + d + 1 = n → p k ≤ k := by
    intro d
    induction d with
    | zero => intro k hk; have := (hp k (by omega)).1; omega
    | succ d ih => intro k hk; have := ih (k + 1) (by omega); have := mono k (k + 1) (by omega) (by omega); omega
  intro k hk
  have h1 := ge k hk
  have h2 := le (n - k - 1) k (by omega)
  have e : p k = k := by omega
  have := (hp k hk).2
  rw [e] at this
  exact this
end Go.Proofs.YtomoodpgmkjacabDoor
