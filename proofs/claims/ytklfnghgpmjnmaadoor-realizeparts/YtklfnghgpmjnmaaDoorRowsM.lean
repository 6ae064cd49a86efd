/-
  What the reference's SameOrder and hasselaw.given answer. Conditions: slices read as slices of numbers.
  What realize.Of answers, whatever it is handed: the order of the rows. No condition but that slices read as slices of rows.
-/
import Derived.Test.YtklfnghgpmjnmaaDoorGood
import Derived.Test.YtklfnghgpmjnmaaDoorPermW
import Derived.Test.YtklfnghgpmjnmaaDoorRepeat
namespace Go.Proofs.YtklfnghgpmjnmaaDoor
open Go.RowKit

def SameOrders (n n' : Int) (la lb : Nat) (f g : Nat → Int) : Prop := n = n' ∧ SameRows la lb f g
/-- What a call answers that hands back an order and an errno. -/
def OrdErr (c : Int) (n : Int) (len : Nat) (F : Nat → Int) (x : Value) (w : World) : Prop :=
  (c ≠ 0 ∧ x = noOrder) ∨ (c = 0 ∧ ∃ a cap, x = .agg #[.int .i64 n, .slice a len cap] ∧ Row w a len F)
theorem OrdErr.step {c n : Int} {len : Nat} {F : Nat → Int} {x : Value} {w w' : World} (h : OrdErr c n len F x w) (hb : Below w.heap.size w w') : OrdErr c n len F x w' := by
  rcases h with h | ⟨h0, a, cap, hx, hr⟩
  · exact .inl h
  · exact .inr ⟨h0, a, cap, hx, hr.below hb⟩

end Go.Proofs.YtklfnghgpmjnmaaDoor
namespace Go.Proofs.YtklfnghgpmjnmaaDoor
open Go.RowKit

/-- A slice of m rows. -/
def RR (w : World) (a : Option Addr) (m : Nat) (S : Nat → Option Addr × Nat × Nat) (F : Nat → Nat → Int) : Prop :=
  ∀ k, k < m → ∃ b off, a = some ⟨b, off, none⟩ ∧ w.cell? ⟨b, off + k, none⟩ = some (.slice (S k).1 (S k).2.1 (S k).2.2) ∧ (S k).2.1 ≤ maxLen ∧ Row w (S k).1 (S k).2.1 (F k)
theorem RR.below {w w' : World} {a : Option Addr} {m : Nat} {S : Nat → Option Addr × Nat × Nat} {F : Nat → Nat → Int} (h : RR w a m S F) (hb : Below w.heap.size w w') : RR w' a m S F := fun k hk => by
  obtain ⟨b, off, e, hc, hl, hr⟩ := h k hk
  exact ⟨b, off, e, (hb.cell (World.block_lt_of_cell? _ _ hc)).trans hc, hl, hr.below hb⟩
/-- What is in all of the first r rows. -/
def acc (F : Nat → Nat → Int) (n : Nat) : Nat → Nat → Nat
  | 0 => fun _ => pw n - 1
  | r + 1 => fun y => acc F n r y &&& bf (F r) n n y
def accTo (F : Nat → Nat → Int) (n r y k : Nat) : Nat := if k < y then acc F n (r + 1) k else acc F n r k
theorem acc_lt (F : Nat → Nat → Int) (n : Nat) : ∀ r y, acc F n r y < pw n
  | 0, _ => by have := pw_pos n; show pw n - 1 < pw n; omega
  | r + 1, y => Nat.lt_of_le_of_lt Nat.and_le_left (acc_lt F n r y)
theorem accTo_zero (F : Nat → Nat → Int) (n r : Nat) : ∀ k, accTo F n r 0 k = acc F n r k := fun k => by unfold accTo; rw [if_neg (Nat.not_lt_zero _)]
theorem accTo_at (F : Nat → Nat → Int) (n r y : Nat) : accTo F n r y y = acc F n r y := by unfold accTo; rw [if_neg (Nat.lt_irrefl _)]
theorem accTo_next (F : Nat → Nat → Int) (n r y : Nat) : ∀ k, upd (accTo F n r y) y (acc F n r y &&& bf (F r) n n y) k = accTo F n r (y + 1) k := fun k => by
  by_cases e : k = y
  · subst e; rw [upd_same]; unfold accTo; rw [if_pos (Nat.lt_succ_self _)]; rfl
  · rw [upd_other _ _ _ _ e]
    unfold accTo
    by_cases q : k < y
    · rw [if_pos q, if_pos (by omega)]
    · rw [if_neg q, if_neg (by omega)]
theorem accTo_end (F : Nat → Nat → Int) (n r : Nat) : ∀ k, k < n → accTo F n r n k = acc F n (r + 1) k := fun k hk => by unfold accTo; rw [if_pos hk]
/-- What Of must answer. -/
def RCk (n : Int) (m : Nat) (S : Nat → Option Addr × Nat × Nat) (F : Nat → Nat → Int) (c : Int) : Prop :=
  (c = 2 ∧ ¬ (0 ≤ n ∧ n ≤ 10 ∧ 0 < m ∧ m ≤ 10)) ∨
  ∃ q : Nat, n = q ∧ q ≤ 10 ∧ 0 < m ∧ m ≤ 10 ∧ ((c = 1 ∧ ∃ k, k < m ∧ ¬ ((S k).2.1 = q ∧ Once (F k) q q)) ∨ (c = 0 ∧ ∀ k, k < m → (S k).2.1 = q ∧ Once (F k) q q))
theorem RCk.one {n : Int} {m : Nat} {S : Nat → Option Addr × Nat × Nat} {F : Nat → Nat → Int} {c d : Int} (h : RCk n m S F c) (h' : RCk n m S F d) : c = d := by
  rcases h with ⟨rfl, h⟩ | ⟨q, rfl, q1, q2, q3, h⟩
  · rcases h' with ⟨rfl, _⟩ | ⟨p, hp, p1, p2, p3, _⟩
    · rfl
    · exact absurd ⟨by omega, by omega, p2, p3⟩ h
  · rcases h' with ⟨rfl, h'⟩ | ⟨p, hp, p1, p2, p3, h'⟩
    · exact absurd ⟨by omega, by omega, q2, q3⟩ h'
    · obtain rfl : q = p := by omega
      rcases h with ⟨rfl, k, hk, h⟩ | ⟨rfl, h⟩ <;> rcases h' with ⟨rfl, k', hk', h'⟩ | ⟨rfl, h'⟩
      · rfl
      · exact absurd (h' k hk) h
      · exact absurd (h k' hk') h'
      · rfl
end Go.Proofs.YtklfnghgpmjnmaaDoor
