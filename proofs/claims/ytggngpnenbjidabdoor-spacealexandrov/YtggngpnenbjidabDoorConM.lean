/-
  What is smooth is monotone, and keeps pieces together. Plain facts: no Go text here. Conditions: as each theorem says.
-/
import Derived.Test.YtggngpnenbjidabDoorSmoP
namespace Go.Proofs.YtggngpnenbjidabDoor

theorem hld_bit {g : Nat → Nat} {n x k : Nat} : (hld g n x).testBit k = true ↔ (g x).testBit k = true ∨ (k < n ∧ (g k).testBit x = true) := by
  unfold hld
  rw [Nat.testBit_or, Bool.or_eq_true, trn_bit, Bool.and_eq_true, decide_eq_true_iff]
theorem full_lt (n : Nat) : pw n - 1 < pw n := by have := pw_pos n; omega
theorem ord_trans {g : Nat → Nat} {n : Nat} (hn : n ≤ 10) (hg : ∀ k, k < n → g k < pw n) (ho : Ord n g) {x y z : Nat} (hy : y < n) (hz : z < n) (h1 : (g y).testBit x = true) (h2 : (g z).testBit y = true) : (g z).testBit x = true := by
  have b1 := hg y hy
  have b2 := hg z hz
  have := pw_le n hn
  exact (lack_zero _ _ (by omega) (by omega)).1 ((ho z hz).2 y hy h2) x h1
/-- All that is x or above it. -/
def ups (g : Nat → Nat) (n x : Nat) : Nat := setBy (fun y => upt g x y) n
theorem ups_bit {g : Nat → Nat} {n x y : Nat} : (ups g n x).testBit y = true ↔ y < n ∧ upt g x y = true := by
  unfold ups; rw [setBy_bit, Bool.and_eq_true, decide_eq_true_iff]
theorem ups_opn {g : Nat → Nat} {n x : Nat} (hn : n ≤ 10) (hg : ∀ k, k < n → g k < pw n) (ho : Ord n g) : Opn g n (ups g n x) := by
  refine ⟨setBy_lt _ _, fun p q hp hq h1 h2 => ?_⟩
  obtain ⟨_, h3⟩ := ups_bit.1 h1
  refine ups_bit.2 ⟨hq, ?_⟩
  unfold upt at h3 ⊢
  rw [Bool.or_eq_true] at h3 ⊢
  rcases h3 with h3 | h3
  · have e := of_decide_eq_true h3
    subst e
    exact .inr h2
  · exact .inr (ord_trans hn hg ho hp hq h3 h2)
theorem frm_bit {f : Nat → Nat} {n s k : Nat} : (frm f n s).testBit k = true ↔ k < n ∧ s.testBit (f k) = true := by
  unfold frm; rw [setBy_bit, Bool.and_eq_true, decide_eq_true_iff]
/-- What is smooth is monotone. -/
theorem smooth_mono {g1 g2 f : Nat → Nat} {n1 n2 : Nat} (h1 : n1 ≤ 10) (h2 : n2 ≤ 10) (hg2 : ∀ k, k < n2 → g2 k < pw n2) (ho2 : Ord n2 g2) (hf : ∀ k, k < n1 → f k < n2)
    (hs : ∀ s, s ∈ opn g2 n2 → frm f n1 s ∈ opn g1 n1) {a b : Nat} (ha : a < n1) (hb : b < n1) (e : (g1 b).testBit a = true) : upt g2 (f a) (f b) = true := by
  have hu := hs _ ((opn_mem h2).2 (ups_opn (x := f a) h2 hg2 ho2))
  have ho := (opn_mem h1).1 hu
  have hin : (frm f n1 (ups g2 n2 (f a))).testBit a = true := frm_bit.2 ⟨ha, ups_bit.2 ⟨hf a ha, by simp [upt]⟩⟩
  have hin2 := ho.2 a b ha hb hin e
  exact (ups_bit.1 (frm_bit.1 hin2).2).2
theorem Cn.trans {h : Nat → Nat} {S a b c : Nat} (p : Cn h S a b) (q : Cn h S b c) : Cn h S a c := fun Q q0 q1 => q Q (p Q q0 q1) q1
theorem full_in {n y : Nat} : (pw n - 1).testBit y = true ↔ y < n := by rw [full_bit, decide_eq_true_iff]
theorem hld_sym {g : Nat → Nat} {n x y : Nat} (hx : x < n) (e : (hld g n x).testBit y = true) : (hld g n y).testBit x = true := by
  rcases hld_bit.1 e with h1 | ⟨_, h1⟩
  · exact hld_bit.2 (.inr ⟨hx, h1⟩)
  · exact hld_bit.2 (.inl h1)
theorem cn_sym {g : Nat → Nat} {n x y : Nat} (hx : x < n) (c : Cn (hld g n) (pw n - 1) x y) : Cn (hld g n) (pw n - 1) y x := by
  have h : y < n ∧ Cn (hld g n) (pw n - 1) y x := c (fun z => z < n ∧ Cn (hld g n) (pw n - 1) z x) ⟨hx, Cn.self _ _ _⟩ (by
    rintro u v ⟨hu, cu⟩ e hv
    have hvn := full_in.1 hv
    exact ⟨hvn, ((Cn.self _ _ v).next (hld_sym hu e) (full_in.2 hu)).trans cu⟩)
  exact h.2
theorem cn_lt {g : Nat → Nat} {n x y : Nat} (hx : x < n) (c : Cn (hld g n) (pw n - 1) x y) : y < n := c (fun z => z < n) hx fun _ _ _ _ hv => full_in.1 hv
/-- A map that is monotone keeps together what hangs together. -/
theorem cn_map {g1 g2 f : Nat → Nat} {n1 n2 x y : Nat} (hf : ∀ k, k < n1 → f k < n2) (hm : ∀ a b, a < n1 → b < n1 → (g1 b).testBit a = true → upt g2 (f a) (f b) = true) (hx : x < n1) (c : Cn (hld g1 n1) (pw n1 - 1) x y) : Cn (hld g2 n2) (pw n2 - 1) (f x) (f y) := by
  have h : y < n1 ∧ Cn (hld g2 n2) (pw n2 - 1) (f x) (f y) := c (fun z => z < n1 ∧ Cn (hld g2 n2) (pw n2 - 1) (f x) (f z)) ⟨hx, Cn.self _ _ _⟩ (by
    rintro u v ⟨hu, cu⟩ e hv
    have hvn := full_in.1 hv
    refine ⟨hvn, ?_⟩
    rcases hld_bit.1 e with h1 | ⟨_, h1⟩
    · have h2 := hm v u hvn hu h1
      unfold upt at h2
      rw [Bool.or_eq_true] at h2
      rcases h2 with h2 | h2
      · rw [of_decide_eq_true h2]; exact cu
      · exact cu.next (hld_bit.2 (.inl h2)) (full_in.2 (hf v hvn))
    · have h2 := hm u v hu hvn h1
      unfold upt at h2
      rw [Bool.or_eq_true] at h2
      rcases h2 with h2 | h2
      · rw [← of_decide_eq_true h2]; exact cu
      · exact cu.next (hld_bit.2 (.inr ⟨hf v hvn, h2⟩)) (full_in.2 (hf v hvn)))
  exact h.2
/-- What is known of the pieces. -/
def PFacts (g : Nat → Nat) (n : Nat) (L : List Nat) (S : Nat) : Prop :=
  (∀ m, m < L.length → ∀ x, (nth L m).testBit x = true → S.testBit x = true ∧ ∀ y, (nth L m).testBit y = true ↔ Cn (hld g n) (pw n - 1) x y) ∧
  ∀ m m', m < L.length → m' < L.length → ∀ x, (nth L m).testBit x = true → (nth L m').testBit x = true → m = m'
theorem nth_cons (x : Nat) (l : List Nat) (k : Nat) : nth (x :: l) (k + 1) = nth l k := by simp [nth]
theorem pcl_facts {g : Nat → Nat} {n : Nat} (hn : n ≤ 10) : ∀ (L : List Nat) (S : Nat), S < pw n → (∀ x y, S.testBit x = true → (hld g n x).testBit y = true → y < n → S.testBit y = true) → PcL (hld g n) L S 0 → PFacts g n L S
  | [], _, _, _, _ => ⟨fun m hm => absurd hm (Nat.not_lt_zero _), fun m m' hm => absurd hm (Nat.not_lt_zero _)⟩
  | P :: L, S, hS, hcl, ⟨h0, hp, hrest⟩ => by
    have hpl := pw_le n hn
    have hlb := lo_bit (by omega) h0
    have hln : lo S < n := bit_of_lt hS hlb
    have hP : P < pw n := hp.lt hS hln
    have hbit : ∀ x, P.testBit x = true ↔ Cn (hld g n) (pw n - 1) (lo S) x := fun x => by
      rw [hp.bit hn hS hln]
      constructor
      · exact fun c => c (fun z => Cn (hld g n) (pw n - 1) (lo S) z) (Cn.self _ _ _) fun y z hy e hz => hy.next e (full_in.2 (bit_of_lt hS hz))
      · intro c
        have h : S.testBit x = true ∧ Cn (hld g n) S (lo S) x := c (fun z => S.testBit z = true ∧ Cn (hld g n) S (lo S) z) ⟨hlb, Cn.self _ _ _⟩ (by
          rintro y z ⟨hy, cy⟩ e hz
          have hzS := hcl y z hy e (full_in.1 hz)
          exact ⟨hzS, cy.next e hzS⟩)
        exact h.2
    have hin : ∀ x, P.testBit x = true → S.testBit x = true := fun x hx => ((hp.bit hn hS hln x).1 hx) (fun z => S.testBit z = true) hlb fun _ _ _ _ hz => hz
    have hS' : lack S P < pw n := Nat.lt_of_le_of_lt (lack_le _ _) hS
    have hlk : ∀ x, (lack S P).testBit x = true ↔ S.testBit x = true ∧ P.testBit x = false := fun x => by
      rw [lack_bit _ _ _ (by omega) (by omega), Bool.and_eq_true, Bool.not_eq_true']
    have ih := pcl_facts hn L (lack S P) hS' (fun x y hx e hy => by
      obtain ⟨h1, h2⟩ := (hlk x).1 hx
      refine (hlk y).2 ⟨hcl x y h1 e hy, ?_⟩
      cases hb : P.testBit y
      · rfl
      · have hxn := bit_of_lt hS h1
        have := (hbit x).2 (((hbit y).1 hb).next (hld_sym hxn e) (full_in.2 hxn))
        rw [this] at h2; cases h2) hrest
    have hhead : ∀ x, P.testBit x = true → ∀ y, P.testBit y = true ↔ Cn (hld g n) (pw n - 1) x y := fun x hx y => by
      have cx := (hbit x).1 hx
      rw [hbit]
      exact ⟨fun c => (cn_sym hln cx).trans c, fun c => cx.trans c⟩
    refine ⟨fun m hm x hx => ?_, fun m m' hm hm' x hx hx' => ?_⟩
    · cases m with
      | zero => exact ⟨hin x hx, hhead x hx⟩
      | succ m =>
        rw [nth_cons] at hx ⊢
        obtain ⟨q1, q2⟩ := ih.1 m (by simpa using hm) x hx
        exact ⟨((hlk x).1 q1).1, q2⟩
    · cases m with
      | zero =>
        cases m' with
        | zero => rfl
        | succ m' =>
          rw [nth_cons] at hx'
          have q := ((hlk x).1 (ih.1 m' (by simpa using hm') x hx').1).2
          have hx0 : P.testBit x = true := hx
          rw [hx0] at q; cases q
      | succ m =>
        cases m' with
        | zero =>
          rw [nth_cons] at hx
          have q := ((hlk x).1 (ih.1 m (by simpa using hm) x hx).1).2
          have hx0 : P.testBit x = true := hx'
          rw [hx0] at q; cases q
        | succ m' =>
          rw [nth_cons] at hx hx'
          rw [ih.2 m m' (by simpa using hm) (by simpa using hm') x hx hx']
theorem pcl_all {g : Nat → Nat} {n : Nat} (hn : n ≤ 10) {L : List Nat} (h : PcL (hld g n) L (pw n - 1) 0) : PFacts g n L (pw n - 1) :=
  pcl_facts hn L _ (full_lt n) (fun _ _ _ _ hy => full_in.2 hy) h
end Go.Proofs.YtggngpnenbjidabDoor
