/-
  Events as numbers: which of them is wrong, and what leads to what. Plain facts: no Go text here. Conditions: as each theorem says.
-/
import Derived.Test.YtomoodpgmkjacabDoorClosure
import Derived.Test.YtomoodpgmkjacabDoorPairs
namespace Go.Proofs.YtomoodpgmkjacabDoor
open Go.RowKit

/-- A slice of len events: kind, worker, message. -/
def ERow (w : World) (a : Option Addr) (len : Nat) (E : Nat → Int × Int × Int) : Prop :=
  ∀ k, k < len → ∃ b off, a = some ⟨b, off, none⟩ ∧ w.cell? ⟨b, off + k * 3, none⟩ = some (.int .i64 (E k).1) ∧ w.cell? ⟨b, off + k * 3 + 1, none⟩ = some (.int .i64 (E k).2.1) ∧ w.cell? ⟨b, off + k * 3 + 2, none⟩ = some (.int .i64 (E k).2.2)
theorem ERow.below {w w' : World} {a : Option Addr} {len : Nat} {E : Nat → Int × Int × Int} (h : ERow w a len E) (hb : Below w.heap.size w w') : ERow w' a len E := by
  intro k hk
  obtain ⟨b, off, rfl, h1, h2, h3⟩ := h k hk
  exact ⟨b, off, rfl, (hb.cell (World.block_lt_of_cell? _ _ h1)).trans h1, (hb.cell (World.block_lt_of_cell? _ _ h2)).trans h2, (hb.cell (World.block_lt_of_cell? _ _ h3)).trans h3⟩
theorem ERow.cut {w : World} {a : Option Addr} {len : Nat} {E : Nat → Int × Int × Int} (h : ERow w a len E) {m : Nat} (hm : m ≤ len) : ERow w a m E := fun k hk => h k (by omega)

/-- One of the first n has this kind and this message. -/
def hasE (E : Nat → Int × Int × Int) (n : Nat) (kd ms : Int) : Prop := ∃ k, k < n ∧ (E k).1 = kd ∧ (E k).2.2 = ms
/-- What is wrong with the event at i. -/
def EvIs (W : Int) (E : Nat → Int × Int × Int) (i : Nat) (c : Int) : Prop :=
  (c = 7 ∧ ((E i).1 < 1 ∨ 3 < (E i).1)) ∨ ((1 ≤ (E i).1 ∧ (E i).1 ≤ 3) ∧
    ((c = 3 ∧ ((E i).2.1 < 0 ∨ W ≤ (E i).2.1 ∨ (E i).2.2 < 0 ∨ ((E i).1 = 1 ∧ (E i).2.2 ≠ 0))) ∨
     ((0 ≤ (E i).2.1 ∧ (E i).2.1 < W ∧ 0 ≤ (E i).2.2 ∧ ((E i).1 = 1 → (E i).2.2 = 0)) ∧
      ((c = 6 ∧ (E i).1 ≠ 1 ∧ hasE E i (E i).1 (E i).2.2) ∨ (((E i).1 = 1 ∨ ¬ hasE E i (E i).1 (E i).2.2) ∧
        ((c = 5 ∧ (E i).1 = 3 ∧ ¬ hasE E i 2 (E i).2.2) ∨ (c = 0 ∧ ((E i).1 = 3 → hasE E i 2 (E i).2.2))))))))
theorem EvIs.unique {W : Int} {E : Nat → Int × Int × Int} {i : Nat} {c d : Int} (h : EvIs W E i c) (h' : EvIs W E i d) : c = d := by
  rcases h with ⟨rfl, h1⟩ | ⟨h1, ⟨rfl, h2⟩ | ⟨h2, ⟨rfl, h3, h4⟩ | ⟨h3, ⟨rfl, h4, h5⟩ | ⟨rfl, h4⟩⟩⟩⟩ <;>
  rcases h' with ⟨rfl, g1⟩ | ⟨g1, ⟨rfl, g2⟩ | ⟨g2, ⟨rfl, g3, g4⟩ | ⟨g3, ⟨rfl, g4, g5⟩ | ⟨rfl, g4⟩⟩⟩⟩ <;>
  first | rfl | (exfalso; omega) | (exfalso; rcases g3 with g3 | g3 <;> first | omega | exact g3 h4) | (exfalso; rcases h3 with h3 | h3 <;> first | omega | exact h3 g4) | (exfalso; exact h5 (g4 h4)) | (exfalso; exact g5 (h4 g4))
/-- What Check must answer. -/
def CkE (W : Int) (len : Nat) (E : Nat → Int × Int × Int) (c : Int) : Prop :=
  (c = 2 ∧ (W < 1 ∨ 4 < W ∨ 10 < len)) ∨ ((1 ≤ W ∧ W ≤ 4 ∧ len ≤ 10) ∧
    ((c ≠ 0 ∧ ∃ i, i < len ∧ (∀ j, j < i → EvIs W E j 0) ∧ EvIs W E i c) ∨ (c = 0 ∧ ∀ j, j < len → EvIs W E j 0)))
theorem CkE.unique {W : Int} {len : Nat} {E : Nat → Int × Int × Int} {c d : Int} (h : CkE W len E c) (h' : CkE W len E d) : c = d := by
  rcases h with ⟨rfl, h1⟩ | ⟨h1, ⟨h0, i, hi, ha, hc⟩ | ⟨rfl, ha⟩⟩ <;> rcases h' with ⟨rfl, g1⟩ | ⟨g1, ⟨g0, j, hj, ga, gc⟩ | ⟨rfl, ga⟩⟩
  · rfl
  · omega
  · omega
  · omega
  · rcases Nat.lt_trichotomy i j with h | rfl | h
    · exact absurd ((ga i h).unique hc).symm h0
    · exact hc.unique gc
    · exact absurd ((ha j h).unique gc).symm g0
  · exact absurd ((ga i hi).unique hc).symm h0
  · omega
  · exact absurd ((ha j hj).unique gc).symm g0
  · rfl
theorem CkE.good {W : Int} {len : Nat} {E : Nat → Int × Int × Int} (h : CkE W len E 0) : (1 ≤ W ∧ W ≤ 4 ∧ len ≤ 10) ∧ ∀ j, j < len → EvIs W E j 0 := by
  rcases h with ⟨h0, _⟩ | ⟨h1, ⟨h0, _⟩ | ⟨_, ha⟩⟩
  · cases h0
  · exact absurd rfl h0
  · exact ⟨h1, ha⟩
theorem EvIs.good {W : Int} {E : Nat → Int × Int × Int} {i : Nat} (h : EvIs W E i 0) : (1 ≤ (E i).1 ∧ (E i).1 ≤ 3) ∧ (0 ≤ (E i).2.1 ∧ (E i).2.1 < W ∧ 0 ≤ (E i).2.2) ∧ ((E i).1 = 1 ∨ ¬ hasE E i (E i).1 (E i).2.2) ∧ ((E i).1 = 3 → hasE E i 2 (E i).2.2) := by
  rcases h with ⟨h, _⟩ | ⟨h1, ⟨h, _⟩ | ⟨h2, ⟨h, _⟩ | ⟨h3, ⟨h, _⟩ | ⟨_, h4⟩⟩⟩⟩
  · cases h
  · cases h
  · cases h
  · cases h
  · exact ⟨h1, ⟨h2.1, h2.2.1, h2.2.2.1⟩, h3, h4⟩
/-- An event leads to a later one at once. -/
def leadB (E : Nat → Int × Int × Int) (k i : Nat) : Bool := decide (((E k).1 = 2 ∧ (E i).1 = 3 ∧ (E k).2.2 = (E i).2.2) ∨ (E k).2.1 = (E i).2.1)
/-- The pairs of the first i events, and of the first k with the one at i. -/
def prsIn (E : Nat → Int × Int × Int) (i : Nat) : Nat → List (Nat × Nat)
  | 0 => []
  | k + 1 => if leadB E k i = true then prsIn E i k ++ [(k, i)] else prsIn E i k
def prs (E : Nat → Int × Int × Int) : Nat → List (Nat × Nat)
  | 0 => []
  | i + 1 => prs E i ++ prsIn E i i
theorem mem_prsIn {E : Nat → Int × Int × Int} {i : Nat} {q : Nat × Nat} : ∀ k, q ∈ prsIn E i k ↔ ∃ j, j < k ∧ leadB E j i = true ∧ q = (j, i)
  | 0 => by simp [prsIn]
  | k + 1 => by
    rw [prsIn]
    have ih := mem_prsIn (E := E) (i := i) (q := q) k
    split
    · rename_i h
      rw [List.mem_append, ih]
      constructor
      · rintro (⟨j, hj, h1, h2⟩ | h2)
        · exact ⟨j, by omega, h1, h2⟩
        · exact ⟨k, by omega, h, by simpa using h2⟩
      · rintro ⟨j, hj, h1, h2⟩
        by_cases e : j = k
        · subst e; exact .inr (by simpa using h2)
        · exact .inl ⟨j, by omega, h1, h2⟩
    · rename_i h
      rw [ih]
      constructor
      · rintro ⟨j, hj, h1, h2⟩; exact ⟨j, by omega, h1, h2⟩
      · rintro ⟨j, hj, h1, h2⟩
        by_cases e : j = k
        · subst e; exact absurd h1 h
        · exact ⟨j, by omega, h1, h2⟩
theorem mem_prs {E : Nat → Int × Int × Int} {q : Nat × Nat} : ∀ n, q ∈ prs E n ↔ ∃ i j, i < n ∧ j < i ∧ leadB E j i = true ∧ q = (j, i)
  | 0 => by simp [prs]
  | n + 1 => by
    rw [prs, List.mem_append, mem_prs n, mem_prsIn]
    constructor
    · rintro (⟨i, j, h1, h2, h3, h4⟩ | ⟨j, h1, h2, h3⟩)
      · exact ⟨i, j, by omega, h2, h3, h4⟩
      · exact ⟨n, j, by omega, h1, h2, h3⟩
    · rintro ⟨i, j, h1, h2, h3, h4⟩
      by_cases e : i = n
      · subst e; exact .inr ⟨j, h2, h3, h4⟩
      · exact .inl ⟨i, j, by omega, h2, h3, h4⟩
theorem pairAt_mem {l : List (Nat × Nat)} {k : Nat} (h : k < l.length) : ∃ q, q ∈ l ∧ pairAt l k = ((q.1 : Int), (q.2 : Int)) :=
  ⟨l[k], List.getElem_mem h, by unfold pairAt; rw [List.getD_eq_getElem?_getD, List.getElem?_eq_getElem h]; rfl⟩
theorem mem_pairAt {l : List (Nat × Nat)} {q : Nat × Nat} (h : q ∈ l) : ∃ k, k < l.length ∧ pairAt l k = ((q.1 : Int), (q.2 : Int)) := by
  obtain ⟨k, hk, e⟩ := List.getElem_of_mem h
  exact ⟨k, hk, by unfold pairAt; rw [List.getD_eq_getElem?_getD, List.getElem?_eq_getElem hk, e]; rfl⟩
theorem prsIn_len (E : Nat → Int × Int × Int) (i : Nat) : ∀ k, (prsIn E i k).length ≤ k
  | 0 => by simp [prsIn]
  | k + 1 => by
    have := prsIn_len E i k
    rw [prsIn]
    split
    · simp; omega
    · omega
theorem prs_len (E : Nat → Int × Int × Int) : ∀ n, (prs E n).length ≤ n * n
  | 0 => by simp [prs]
  | n + 1 => by
    have h1 := prs_len E n
    have h2 := prsIn_len E n n
    rw [prs, List.length_append, Nat.add_mul, Nat.mul_add]
    omega
/-- The order of the events: the sets below each. -/
def ahd (E : Nat → Int × Int × Int) (n : Nat) : Nat → Nat := reachOut (mk (pairAt (prs E n)) (prs E n).length) n n
theorem prs_pin (E : Nat → Int × Int × Int) (n : Nat) : ∀ k, k < (prs E n).length → PIn (n : Int) (pairAt (prs E n)) k := fun k hk => by
  obtain ⟨q, hq, e⟩ := pairAt_mem hk
  obtain ⟨i, j, h1, h2, _, rfl⟩ := (mem_prs n).1 hq
  unfold PIn
  rw [e]
  simp
  omega
theorem ahd_sm (E : Nat → Int × Int × Int) (n : Nat) : Sm n n (ahd E n) := reachOut_sm (mk_sm _ (prs_pin E n)) n (Nat.le_refl _)
/-- Who leads whom. -/
def Lead (E : Nat → Int × Int × Int) (n k i : Nat) : Prop := i < n ∧ k < i ∧ leadB E k i = true
theorem mk_lead (E : Nat → Int × Int × Int) (n k i : Nat) : (mk (pairAt (prs E n)) (prs E n).length i).testBit k = true ↔ Lead E n k i := by
  rw [mk_bit _ (prs_pin E n) k i]
  constructor
  · rintro ⟨j, hj, h1, h2⟩
    obtain ⟨q, hq, e⟩ := pairAt_mem hj
    obtain ⟨i', k', a1, a2, a3, rfl⟩ := (mem_prs n).1 hq
    rw [e] at h1 h2
    obtain rfl : k' = k := Int.ofNat.inj h1
    obtain rfl : i' = i := Int.ofNat.inj h2
    exact ⟨a1, a2, a3⟩
  · rintro ⟨h1, h2, h3⟩
    obtain ⟨j, hj, e⟩ := mem_pairAt ((mem_prs (E := E) n).2 ⟨i, k, h1, h2, h3, rfl⟩)
    exact ⟨j, hj, by rw [e], by rw [e]⟩
theorem ahd_way (E : Nat → Int × Int × Int) (n : Nat) {k i : Nat} (hi : i < n) : (ahd E n i).testBit k = true ↔ Way (Lead E n) n k i := by
  unfold ahd
  rw [reach_way _ n n (Nat.le_refl _) k i hi]
  have e : (fun a b => (mk (pairAt (prs E n)) (prs E n).length b).testBit a = true) = Lead E n := by
    funext a b
    exact propext (mk_lead E n a b)
  rw [e]
/-- What is below comes earlier. -/
theorem ahd_lt {E : Nat → Int × Int × Int} {n k i : Nat} (hi : i < n) (h : (ahd E n i).testBit k = true) : k < i :=
  Way.least (S := fun a b => a < b) (fun _ _ h => h.2.1) (fun _ _ _ _ h1 h2 => Nat.lt_trans h1 h2) n (Nat.le_refl _) _ _ ((ahd_way E n hi).1 h)
theorem ahd_lead {E : Nat → Int × Int × Int} {n k i : Nat} (h : Lead E n k i) : (ahd E n i).testBit k = true :=
  (ahd_way E n h.1).2 (Way.lift h n)
theorem ahd_trans {E : Nat → Int × Int × Int} {n a b c : Nat} (hc : c < n) (h1 : (ahd E n b).testBit a = true) (h2 : (ahd E n c).testBit b = true) : (ahd E n c).testBit a = true := by
  have hb := ahd_lt hc h2
  exact (ahd_way E n hc).2 (Way.trans n a b c (by omega) ((ahd_way E n (by omega)).1 h1) ((ahd_way E n hc).1 h2))
theorem ahd_ord {E : Nat → Int × Int × Int} {n : Nat} (hn : n ≤ 10) : Ord n (ahd E n) := by
  refine (reach_ord hn (mk_sm _ (prs_pin E n))).2 fun u hu h => ?_
  have : (ahd E n u).testBit u = true := (ahd_way E n hu).2 (by
    have e : (fun a b => (mk (pairAt (prs E n)) (prs E n).length b).testBit a = true) = Lead E n := by
      funext a b
      exact propext (mk_lead E n a b)
    rw [e] at h; exact h)
  have := ahd_lt hu this
  omega
theorem ahd_mk {E : Nat → Int × Int × Int} {n : Nat} (hn : n ≤ 10) : Mk (n : Int) (prs E n).length (pairAt (prs E n)) 0 :=
  .inr ⟨n, rfl, hn, .inr ⟨prs_pin E n, .inr ⟨rfl, ahd_ord hn⟩⟩⟩
theorem Mk.unique {n : Int} {len : Nat} {p : Nat → Int × Int} {c c' : Int} (h : Mk n len p c) (h' : Mk n len p c') : c = c' := by
  rcases h with ⟨rfl, h⟩ | ⟨m, rfl, hm, h⟩
  · rcases h' with ⟨rfl, _⟩ | ⟨m, rfl, hm, _⟩
    · rfl
    · exact absurd ⟨by omega, by omega⟩ h
  · rcases h' with ⟨rfl, h'⟩ | ⟨m', e, _, h'⟩
    · exact absurd ⟨by omega, by omega⟩ h'
    · obtain rfl : m = m' := by omega
      rcases h with ⟨rfl, h⟩ | ⟨hp, ⟨rfl, h⟩ | ⟨rfl, h⟩⟩ <;> rcases h' with ⟨rfl, h'⟩ | ⟨hp', ⟨rfl, h'⟩ | ⟨rfl, h'⟩⟩ <;> first | rfl | (exact absurd hp' h) | (exact absurd hp h') | (exact absurd h h') | (exact absurd h' h)
end Go.Proofs.YtomoodpgmkjacabDoor
