/-
  Antichains, the widest one, and what the points on the left lack: plain facts. No Go text here. Conditions: at most ten points.
-/
import Derived.Test.YtadocffdneiaaaaDoorMKoenM
namespace Go.Proofs.YtadocffdneiaaaaDoor
open Go.RowKit

/-- Is a set an antichain? -/
def Ant (g : Nat → Nat) (n S : Nat) : Prop := ∀ i, i < n → ∀ k, k < n → S.testBit i = true → S.testBit k = true → (g k).testBit i = false
def antB (g : Nat → Nat) (n S : Nat) : Bool := decide (∀ i, i < n → ∀ k, k < n → S.testBit i = true → S.testBit k = true → (g k).testBit i = false)
theorem antB_iff (g : Nat → Nat) (n S : Nat) : antB g n S = true ↔ Ant g n S := by unfold antB Ant; exact decide_eq_true_iff
/-- Of the sets below k the first that is a widest antichain. -/
def wid (g : Nat → Nat) (n : Nat) : Nat → Nat
  | 0 => 0
  | k + 1 => if pc (wid g n k) < pc k ∧ antB g n k = true then k else wid g n k
theorem wid_yes {g : Nat → Nat} {n k : Nat} (h1 : pc (wid g n k) < pc k) (h2 : antB g n k = true) : wid g n (k + 1) = k := by rw [wid, if_pos ⟨h1, h2⟩]
theorem wid_small {g : Nat → Nat} {n k : Nat} (h1 : pc k ≤ pc (wid g n k)) : wid g n (k + 1) = wid g n k := by rw [wid, if_neg (fun h => by omega)]
theorem wid_no {g : Nat → Nat} {n k : Nat} (h2 : antB g n k = false) : wid g n (k + 1) = wid g n k := by rw [wid, if_neg (fun h => by rw [h2] at h; cases h.2)]
theorem wid_lt (g : Nat → Nat) (n : Nat) {P : Nat} (hP : 0 < P) : ∀ k, k ≤ P → wid g n k < P
  | 0, _ => hP
  | k + 1, h => by
    have ih := wid_lt g n hP k (by omega)
    rw [wid]; split <;> omega
theorem ant_none (g : Nat → Nat) (n : Nat) : Ant g n 0 := fun i _ k _ h => by simp at h
theorem wid_ant (g : Nat → Nat) (n : Nat) : ∀ k, antB g n (wid g n k) = true
  | 0 => (antB_iff g n 0).2 (ant_none g n)
  | k + 1 => by
    have ih := wid_ant g n k
    rw [wid]
    split
    · rename_i h; exact h.2
    · exact ih
theorem wid_max (g : Nat → Nat) (n : Nat) : ∀ k S, S < k → antB g n S = true → pc S ≤ pc (wid g n k)
  | 0, S, h, _ => absurd h (Nat.not_lt_zero _)
  | k + 1, S, h, ha => by
    rcases Nat.lt_or_ge S k with h1 | h1
    · have ih := wid_max g n k S h1 ha
      rw [wid]
      split
      · rename_i h2; omega
      · exact ih
    · have hS : S = k := by omega
      subst hS
      rw [wid]
      split
      · exact Nat.le_refl _
      · rename_i h2
        rcases Nat.lt_or_ge (pc (wid g n S)) (pc S) with h3 | h3
        · exact absurd ⟨h3, ha⟩ h2
        · exact h3

theorem trn_bit (g : Nat → Nat) (n l x : Nat) : (trn g n l).testBit x = (decide (x < n) && (g x).testBit l) := by rw [trn, setBy_bit]
theorem trn_sm (g : Nat → Nat) (n : Nat) : Sm n n (trn g n) := fun k _ => by rw [trn]; exact setBy_lt _ n
theorem with_ex {t : Nat → Nat} {s x : Nat} : ∀ l, (orTo t s l).testBit x = true → ∃ u, u < l ∧ s.testBit u = true ∧ (t u).testBit x = true
  | 0, h => by simp [orTo] at h
  | l + 1, h => by
    cases hb : s.testBit l
    · rw [orTo_no hb] at h
      obtain ⟨u, h1, h2⟩ := with_ex l h
      exact ⟨u, by omega, h2⟩
    · rw [orTo_yes hb, Nat.testBit_or] at h
      cases h0 : (orTo t s l).testBit x
      · rw [h0] at h
        exact ⟨l, by omega, hb, by simpa using h⟩
      · obtain ⟨u, h1, h2⟩ := with_ex l h0
        exact ⟨u, by omega, h2⟩
theorem ord_trans {g : Nat → Nat} {n : Nat} (hn : n ≤ 10) (hg : Sm n n g) (ho : Ord n g) {a b c : Nat} (hb : b < n) (hc : c < n) (h1 : (g b).testBit a = true) (h2 : (g c).testBit b = true) : (g c).testBit a = true := by
  have hp := pw_le n hn
  have h3 := hg b hb
  have h4 := hg c hc
  exact (lack_zero _ _ (by omega) (by omega)).1 ((ho c hc).2 b hb h2) a h1
/-- What those on the left lack at most is as much as the widest antichain has. -/
theorem dil_le {g : Nat → Nat} {n : Nat} (hn : n ≤ 10) {s : Nat} (hs : s < pw n) : lk1 (trn g n) n s ≤ pc (wid g n (pw n)) := by
  have hp := pw_le n hn
  have hN : orTo (trn g n) s n < pw n := orTo_lt (trn_sm g n) n (Nat.le_refl _)
  have hm : lack s (orTo (trn g n) s n) < pw n := Nat.lt_of_le_of_lt (lack_le _ _) hs
  have hlb : ∀ i, (lack s (orTo (trn g n) s n)).testBit i = (s.testBit i && !(orTo (trn g n) s n).testBit i) := fun i => lack_bit _ _ i (by omega) (by omega)
  have hant : Ant g n (lack s (orTo (trn g n) s n)) := fun i hi k hk h1 h2 => by
    rw [hlb] at h1 h2
    cases hb : (g k).testBit i
    · rfl
    · have h3 : (orTo (trn g n) s n).testBit k = true := with_bit hi (by cases hs1 : s.testBit i <;> simp [hs1] at h1 ⊢) (by rw [trn_bit, hb]; simp [hk])
      rw [h3] at h2; simp at h2
  have h1 := wid_max g n (pw n) _ hm ((antB_iff g n _).2 hant)
  have e1 := pc_cnt hn hs
  have e2 := pc_cnt hn hN
  have e3 := pc_cnt hn hm
  have e4 := cnt2_split (fun j => s.testBit j) (fun j => (orTo (trn g n) s n).testBit j) n
  have e5 : cnt2 (fun j => s.testBit j && (orTo (trn g n) s n).testBit j) n ≤ cnt2 (fun j => (orTo (trn g n) s n).testBit j) n := cnt2_imp n fun k _ h => by
    cases h0 : (orTo (trn g n) s n).testBit k
    · simp [h0] at h
    · rfl
  have e6 : cnt2 (fun j => s.testBit j && !(orTo (trn g n) s n).testBit j) n = cnt2 (fun j => (lack s (orTo (trn g n) s n)).testBit j) n := cnt2_congr n fun k _ => (hlb k).symm
  unfold lk1
  omega
theorem dil_ge {g : Nat → Nat} {n : Nat} (hn : n ≤ 10) (hg : Sm n n g) (ho : Ord n g) {A : Nat} (hA : A < pw n) (ha : Ant g n A) : ∃ s, s < pw n ∧ pc A ≤ lk1 (trn g n) n s := by
  have hN : orTo (trn g n) A n < pw n := orTo_lt (trn_sm g n) n (Nat.le_refl _)
  have hs : A ||| orTo (trn g n) A n < pw n := Nat.or_lt_two_pow hA hN
  have hE : orTo (trn g n) (A ||| orTo (trn g n) A n) n = orTo (trn g n) A n := by
    refine eq_of_bits (n := n) (orTo_lt (trn_sm g n) n (Nat.le_refl _)) hN fun x hx => ?_
    rw [Bool.eq_iff_iff]
    constructor
    · intro h
      obtain ⟨u, hu, h1, h2⟩ := with_ex n h
      rw [Nat.testBit_or] at h1
      cases h3 : A.testBit u
      · rw [h3] at h1
        obtain ⟨v, hv, h4, h5⟩ := with_ex n (show (orTo (trn g n) A n).testBit u = true by simpa using h1)
        rw [trn_bit] at h2 h5
        have h2' : (g x).testBit u = true := by cases h0 : (g x).testBit u <;> simp [h0] at h2 ⊢
        have h5' : (g u).testBit v = true := by cases h0 : (g u).testBit v <;> simp [h0] at h5 ⊢
        exact with_bit hv h4 (by rw [trn_bit, ord_trans hn hg ho hu hx h5' h2']; simp [hx])
      · exact with_bit hu h3 h2
    · intro h
      obtain ⟨u, hu, h1, h2⟩ := with_ex n h
      exact with_bit hu (by rw [Nat.testBit_or, h1]; rfl) h2
  have hd : ∀ x, x < n → A.testBit x = true → (orTo (trn g n) A n).testBit x = false := fun x hx h => by
    cases h0 : (orTo (trn g n) A n).testBit x
    · rfl
    · obtain ⟨u, hu, h1, h2⟩ := with_ex n h0
      rw [trn_bit, ha u hu x hx h1 h] at h2
      simp at h2
  refine ⟨_, hs, ?_⟩
  have e1 := pc_cnt hn hs
  have e2 := pc_cnt hn hN
  have e3 := pc_cnt hn hA
  have e4 := cnt2_split (fun j => (A ||| orTo (trn g n) A n).testBit j) (fun j => A.testBit j) n
  have e5 : cnt2 (fun j => (A ||| orTo (trn g n) A n).testBit j && A.testBit j) n = cnt2 (fun j => A.testBit j) n := cnt2_congr n fun k _ => by
    rw [Nat.testBit_or]; cases A.testBit k <;> simp
  have e6 : cnt2 (fun j => (A ||| orTo (trn g n) A n).testBit j && !A.testBit j) n = cnt2 (fun j => (orTo (trn g n) A n).testBit j) n := cnt2_congr n fun k hk => by
    rw [Nat.testBit_or]
    cases h : A.testBit k
    · simp
    · rw [hd k hk h]; rfl
  unfold lk1
  rw [hE]
  omega
theorem dil {g : Nat → Nat} {n : Nat} (hn : n ≤ 10) (hg : Sm n n g) (ho : Ord n g) : dfc (trn g n) n = pc (wid g n (pw n)) := by
  have h1 : dfc (trn g n) n ≤ pc (wid g n (pw n)) := (maxTo_le_iff _ _ _).2 fun s hs => dil_le hn hs
  obtain ⟨s, hs, h2⟩ := dil_ge hn hg ho (wid_lt g n (pw_pos n) _ (Nat.le_refl _)) ((antB_iff g n _).1 (wid_ant g n _))
  have h3 : lk1 (trn g n) n s ≤ dfc (trn g n) n := le_maxTo hs
  omega
end Go.Proofs.YtadocffdneiaaaaDoor
