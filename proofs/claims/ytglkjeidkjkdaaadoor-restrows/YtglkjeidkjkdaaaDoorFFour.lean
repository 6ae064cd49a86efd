/-
  Plain facts on zigs: the two ways to ask for one tell the same. Conditions: an order of ten points at most.
  What seek.Three and seek.Four answer, handed a closure: the first numbers of which it is so. Conditions: at most ten numbers; the closure answers P in each world that leaves the first one as it was, and writes nothing there.
-/
import Derived.Test.YtglkjeidkjkdaaaDoorFourM
import Derived.Test.YtglkjeidkjkdaaaDoorVtlM
import Derived.Test.YtglkjeidkjkdaaaDoorSpA
namespace Go.Proofs.YtglkjeidkjkdaaaDoor

def all4 (a b c d : Nat) : Nat := pw a ||| pw b ||| pw c ||| pw d
theorem all4_bit (a b c d i : Nat) : (all4 a b c d).testBit i = true ↔ i = a ∨ i = b ∨ i = c ∨ i = d := by
  unfold all4
  simp only [Nat.testBit_or, pw_bit, Bool.or_eq_true, decide_eq_true_eq]
  constructor
  · rintro (((h | h) | h) | h) <;> simp [h]
  · rintro (h | h | h | h) <;> simp [h]
/-- Four points that cannot be split, as the program asks for them. -/
def pzig (g : Nat → Nat) (a b c d : Nat) : Bool := ((g a &&& all4 a b c d) == 0) && ((g b &&& all4 a b c d) == 0) && ((g c &&& all4 a b c d) == (pw a ||| pw b)) && ((g d &&& all4 a b c d) == pw b) && !(a == b)
/-- As the document says it. -/
def zigP (g : Nat → Nat) (a b c d : Nat) : Bool := (g c).testBit a && (g c).testBit b && (g d).testBit b && apB g a b && apB g a d && apB g c d
theorem and_bits {G A S : Nat} : (G &&& A) = S ↔ ∀ i, (G.testBit i = true ∧ A.testBit i = true) ↔ S.testBit i = true := by
  constructor
  · rintro rfl i; rw [Nat.testBit_and, Bool.and_eq_true]
  · intro h
    apply Nat.eq_of_testBit_eq
    intro i
    rw [Bool.eq_iff_iff, Nat.testBit_and, Bool.and_eq_true]
    exact h i
theorem pzig_iff (g : Nat → Nat) (a b c d : Nat) : pzig g a b c d = true ↔ (∀ i, (g a).testBit i = true → ¬ (i = a ∨ i = b ∨ i = c ∨ i = d)) ∧ (∀ i, (g b).testBit i = true → ¬ (i = a ∨ i = b ∨ i = c ∨ i = d)) ∧
    (∀ i, ((g c).testBit i = true ∧ (i = a ∨ i = b ∨ i = c ∨ i = d)) ↔ (i = a ∨ i = b)) ∧ (∀ i, ((g d).testBit i = true ∧ (i = a ∨ i = b ∨ i = c ∨ i = d)) ↔ i = b) ∧ a ≠ b := by
  unfold pzig
  simp only [Bool.and_eq_true, beq_iff_eq, Bool.not_eq_true', and_bits, all4_bit, Nat.testBit_or, pw_bit, Bool.or_eq_true, decide_eq_true_eq, Nat.zero_testBit, Bool.false_eq_true, iff_false, not_and, beq_eq_false_iff_ne, ne_eq, and_assoc]
  constructor
  · rintro ⟨h1, h2, h3, h4, h5⟩
    exact ⟨h1, h2, fun i => (h3 i).trans ⟨fun k => k.imp Eq.symm Eq.symm, fun k => k.imp Eq.symm Eq.symm⟩, fun i => (h4 i).trans eq_comm, h5⟩
  · rintro ⟨h1, h2, h3, h4, h5⟩
    exact ⟨h1, h2, fun i => (h3 i).trans ⟨fun k => k.imp Eq.symm Eq.symm, fun k => k.imp Eq.symm Eq.symm⟩, fun i => (h4 i).trans eq_comm, h5⟩
theorem zigP_iff (g : Nat → Nat) (a b c d : Nat) : zigP g a b c d = true ↔ ((g c).testBit a = true ∧ (g c).testBit b = true ∧ (g d).testBit b = true) ∧ ((g b).testBit a = false ∧ (g a).testBit b = false) ∧ ((g d).testBit a = false ∧ (g a).testBit d = false) ∧ ((g d).testBit c = false ∧ (g c).testBit d = false) := by
  simp only [zigP, apB, Bool.and_eq_true, Bool.not_eq_true', and_assoc]
theorem pzig_eq {n : Nat} {g : Nat → Nat} (ho : Ord n g) {a b c d : Nat} (hn : n ≤ 10) (hg : Sm n n g) (ha : a < n) (hb : b < n) (hc : c < n) (hd : d < n) : pzig g a b c d = (diff a b c d && zigP g a b c d) := by
  rw [Bool.eq_iff_iff, Bool.and_eq_true, pzig_iff, zigP_iff]
  constructor
  · rintro ⟨h1, h2, h3, h4, h5⟩
    have ac : (g c).testBit a = true := ((h3 a).2 (.inl rfl)).1
    have bc : (g c).testBit b = true := ((h3 b).2 (.inr rfl)).1
    have bd : (g d).testBit b = true := ((h4 b).2 rfl).1
    have na : ∀ i, (i = a ∨ i = b ∨ i = c ∨ i = d) → (g a).testBit i = false := fun i hi => by cases e : (g a).testBit i; rfl; exact absurd hi (h1 i e)
    have nb : ∀ i, (i = a ∨ i = b ∨ i = c ∨ i = d) → (g b).testBit i = false := fun i hi => by cases e : (g b).testBit i; rfl; exact absurd hi (h2 i e)
    have d_ne_a : d ≠ a := fun e => by subst e; rw [na b (by simp)] at bd; cases bd
    have d_ne_b : d ≠ b := fun e => by subst e; rw [nb d (by simp)] at bd; cases bd
    have c_ne_a : c ≠ a := fun e => by subst e; rw [na b (by simp)] at bc; cases bc
    have c_ne_b : c ≠ b := fun e => by subst e; rw [nb c (by simp)] at bc; cases bc
    have ad : (g d).testBit a = false := by cases e : (g d).testBit a; rfl; exact absurd ((h4 a).1 ⟨e, .inl rfl⟩) h5
    have cd : (g d).testBit c = false := by cases e : (g d).testBit c; rfl; exact absurd ((h4 c).1 ⟨e, by simp⟩) c_ne_b
    have dc : (g c).testBit d = false := by
      cases e : (g c).testBit d
      · rfl
      · rcases (h3 d).1 ⟨e, by simp⟩ with k | k
        · exact absurd k d_ne_a
        · exact absurd k d_ne_b
    have c_ne_d : c ≠ d := fun e => by subst e; rw [ac] at ad; cases ad
    exact ⟨diff_of h5 (Ne.symm c_ne_a) (Ne.symm d_ne_a) (Ne.symm c_ne_b) (Ne.symm d_ne_b) c_ne_d, ⟨ac, bc, bd⟩, ⟨nb a (by simp), na b (by simp)⟩, ⟨ad, na d (by simp)⟩, cd, dc⟩
  · rintro ⟨hdf, ⟨ac, bc, bd⟩, ⟨ab, ba⟩, ⟨ad, da⟩, cd, dc⟩
    simp only [diff, Bool.and_eq_true, Bool.not_eq_true', beq_eq_false_iff_ne] at hdf
    obtain ⟨⟨⟨⟨⟨n1, n2⟩, n3⟩, n4⟩, n5⟩, n6⟩ := hdf
    have aa := (ho a ha).1
    have bb := (ho b hb).1
    have cc := (ho c hc).1
    have dd := (ho d hd).1
    have asym : ∀ {x y}, x < n → y < n → (g y).testBit x = true → (g x).testBit y = false := fun {x y} hx hy h => by
      cases e : (g x).testBit y
      · rfl
      · have := ord_tr hn hg ho hy hx h e
        rw [(ho x hx).1] at this; cases this
    have ca := asym ha hc ac
    have cb := asym hb hc bc
    have db := asym hb hd bd
    refine ⟨?_, ?_, ?_, ?_, n1⟩
    · rintro i hi (rfl | rfl | rfl | rfl)
      · rw [aa] at hi; cases hi
      · rw [ba] at hi; cases hi
      · rw [ca] at hi; cases hi
      · rw [da] at hi; cases hi
    · rintro i hi (rfl | rfl | rfl | rfl)
      · rw [ab] at hi; cases hi
      · rw [bb] at hi; cases hi
      · rw [cb] at hi; cases hi
      · rw [db] at hi; cases hi
    · intro i
      constructor
      · rintro ⟨hi, (rfl | rfl | rfl | rfl)⟩
        · exact .inl rfl
        · exact .inr rfl
        · rw [cc] at hi; cases hi
        · rw [dc] at hi; cases hi
      · rintro (rfl | rfl)
        · exact ⟨ac, .inl rfl⟩
        · exact ⟨bc, .inr (.inl rfl)⟩
    · intro i
      constructor
      · rintro ⟨hi, (rfl | rfl | rfl | rfl)⟩
        · rw [ad] at hi; cases hi
        · rfl
        · rw [cd] at hi; cases hi
        · rw [dd] at hi; cases hi
      · rintro rfl
        exact ⟨bd, .inr (.inl rfl)⟩
end Go.Proofs.YtglkjeidkjkdaaaDoor
namespace Go.Proofs.YtglkjeidkjkdaaaDoor
set_option maxRecDepth 100000
open Go.RowKit

theorem row_made {w : World} {base b m : Nat} {xs : List Value} (hm : m ≤ 1000) (hb : base ≤ b) (hx : xs.length = m) (h : w.heap[b]? = some (.cells xs.toArray 3 (0, 0))) : w.ownsRow base 3 1 (.slice (some ⟨b, 0, none⟩) m m) m xs :=
  ⟨by omega, .inr ⟨b, m, xs.toArray, rfl, hb, h, Nat.le_refl _, by unfold maxLen; omega, by simp; omega, by simp [← hx]⟩⟩
/-- Not so of any three that come ahead of x, y, z. -/
def No3 (n : Nat) (P : Nat → Nat → Nat → Bool) (x y z : Nat) : Prop :=
  ∀ a b c, a < n → b < n → c < n → (a < x ∨ (a = x ∧ (b < y ∨ (b = y ∧ c < z)))) → P a b c = false
theorem No3.zero (n : Nat) (P : Nat → Nat → Nat → Bool) : No3 n P 0 0 0 := fun a b c _ _ _ h => by omega
theorem No3.next {n : Nat} {P : Nat → Nat → Nat → Bool} {x y z : Nat} (h : No3 n P x y z) (h1 : P x y z = false) : No3 n P x y (z + 1) := fun a b c ha hb hc k => by
  by_cases e : a = x ∧ b = y ∧ c = z
  · obtain ⟨rfl, rfl, rfl⟩ := e; exact h1
  · exact h a b c ha hb hc (by omega)
theorem No3.y {n : Nat} {P : Nat → Nat → Nat → Bool} {x y : Nat} (h : No3 n P x y n) : No3 n P x (y + 1) 0 := fun a b c ha hb hc k => h a b c ha hb hc (by omega)
theorem No3.x {n : Nat} {P : Nat → Nat → Nat → Bool} {x : Nat} (h : No3 n P x n 0) : No3 n P (x + 1) 0 0 := fun a b c ha hb hc k => h a b c ha hb hc (by omega)
/-- The first three of which it is so; or there are none. -/
def First3 (n : Nat) (P : Nat → Nat → Nat → Bool) (l : List Nat) (ok : Bool) : Prop :=
  (ok = true ∧ ∃ x y z, (x < n ∧ y < n ∧ z < n) ∧ P x y z = true ∧ No3 n P x y z ∧ l = [x, y, z]) ∨ (ok = false ∧ l = [] ∧ ∀ x y z, x < n → y < n → z < n → P x y z = false)
theorem First3.ok {n : Nat} {P : Nat → Nat → Nat → Bool} {l : List Nat} {ok : Bool} (h : First3 n P l ok) : ok = true ↔ ∃ x y z, x < n ∧ y < n ∧ z < n ∧ P x y z = true := by
  rcases h with ⟨rfl, x, y, z, ⟨hx, hy, hz⟩, hp, _, rfl⟩ | ⟨rfl, rfl, hu⟩
  · exact ⟨fun _ => ⟨x, y, z, hx, hy, hz, hp⟩, fun _ => rfl⟩
  · refine ⟨fun h => (by cases h), ?_⟩
    rintro ⟨x, y, z, hx, hy, hz, hp⟩
    have := hu x y z hx hy hz; rw [hp] at this; cases this
/-- A closure that answers P of three numbers below n, wherever what lay at first still lies. -/
def Clo (n F : Nat) (caps : Array Value) (P : Nat → Nat → Nat → Bool) (w : World) : Prop :=
  ∀ x y z : Nat, x < n → y < n → z < n → ∀ W : World, Below w.heap.size w W → Calls Tryd.prog F (#[.int .i64 (x : Nat), .int .i64 (y : Nat), .int .i64 (z : Nat)] ++ caps) W fun e w' => e = .returned (.bool (P x y z)) ∧ Below W.heap.size W w'


theorem row3 (w : World) (a b c : Nat) : NSl (w.alloc (.cells #[.int .i64 (a : Nat), .int .i64 (b : Nat), .int .i64 (c : Nat)] 3)) (.slice (some ⟨w.heap.size, 0, none⟩) 3 3) [a, b, c] := by
  refine ⟨_, 3, rfl, fun k hk => ⟨_, _, rfl, ?_⟩⟩
  simp only [List.length_cons, List.length_nil] at hk
  rcases (by omega : k = 0 ∨ k = 1 ∨ k = 2) with rfl | rfl | rfl <;> simp [nth]

theorem heap_one (w : World) (x : Value) : (w.alloc (.cells #[x] 3)).heap[w.heap.size]? = some (.cells [x].toArray 3 (0, 0)) := by
  have e1 : (w.alloc (.cells #[x] 3)).heap = w.heap.push (.cells #[x] 3) := rfl
  rw [e1, Array.getElem?_push, if_pos rfl]
theorem below_step {k X n d : Nat} (hd : d < n) (h : k < X * n + d) : k / n < X ∨ (k / n = X ∧ k % n < d) := by
  have h1 : k / n ≤ X := by
    have := Nat.div_le_div_right (c := n) (Nat.le_of_lt h)
    rwa [div_of hd] at this
  rcases Nat.lt_or_eq_of_le h1 with h2 | h2
  · exact .inl h2
  · refine .inr ⟨h2, ?_⟩
    have h3 := Nat.div_add_mod k n
    rw [h2, Nat.mul_comm] at h3
    omega
/-- Not so of any four that come ahead of a, b, c, d. -/
theorem upto_of {n : Nat} {P : Nat → Nat → Nat → Nat → Bool} {a b c d : Nat} (hn : 0 < n) (hb : b < n) (hc : c < n) (hd : d < n) (h1 : ∀ x, x < a → ∀ y z t, y < n → z < n → t < n → P x y z t = false) (h2 : No3 n (P a) b c d) : Upto n P (idx n a b c d) := fun k hk => by
  have m1 := Nat.mod_lt (k / n / n) hn
  have m2 := Nat.mod_lt (k / n) hn
  have m3 := Nat.mod_lt k hn
  unfold P4
  unfold idx at hk
  rcases below_step hd hk with k1 | ⟨e1, k1⟩
  · rcases below_step hc k1 with k2 | ⟨e2, k2⟩
    · rcases below_step hb k2 with k3 | ⟨e3, k3⟩
      · exact h1 _ k3 _ _ _ m1 m2 m3
      · rw [e3]; exact h2 _ _ _ m1 m2 m3 (.inl k3)
    · have e3 : k / n / n / n = a := by rw [e2]; exact div_of hb
      have e4 : k / n / n % n = b := by rw [e2]; exact mod_of hb
      rw [e3]; exact h2 _ _ _ m1 m2 m3 (.inr ⟨e4, .inl k2⟩)
  · have e2 : k / n / n = a * n + b := by rw [e1]; exact div_of hc
    have e3 : k / n % n = c := by rw [e1]; exact mod_of hc
    have e4 : k / n / n / n = a := by rw [e2]; exact div_of hb
    have e5 : k / n / n % n = b := by rw [e2]; exact mod_of hb
    rw [e4]; exact h2 _ _ _ m1 m2 m3 (.inr ⟨e5, .inr ⟨e3, k1⟩⟩)

/-- A closure that answers P of four numbers below n, wherever what lay at first still lies. -/
def Clo4 (n F : Nat) (caps : Array Value) (P : Nat → Nat → Nat → Nat → Bool) (w : World) : Prop :=
  ∀ a b c d : Nat, a < n → b < n → c < n → d < n → ∀ W : World, Below w.heap.size w W → Calls Tryd.prog F (#[.int .i64 (a : Nat), .int .i64 (b : Nat), .int .i64 (c : Nat), .int .i64 (d : Nat)] ++ caps) W fun e w' => e = .returned (.bool (P a b c d)) ∧ Below W.heap.size W w'
theorem cellS {w w' : World} {p : Addr} {v : Value} (hb : Below w.heap.size w w') (h : w.cell? p = some v) : w'.cell? p = some v := (hb.cell (World.block_lt_of_cell? _ _ h)).trans h
end Go.Proofs.YtglkjeidkjkdaaaDoor
