/-
  What the reference's SameOrder and hasselaw.given answer. Conditions: slices read as slices of numbers.
  What realize.Of answers, whatever it is handed: the order of the rows. No condition but that slices read as slices of rows.
-/
import Derived.Test.YtklfnghgpmjnmaaBegun
import Derived.Test.YtklfnghgpmjnmaaPermW
import Derived.Test.YtklfnghgpmjnmaaRepeat
namespace Go.Proofs.Ytklfnghgpmjnmaa
open Go.RowKit

def SameOrders (n n' : Int) (la lb : Nat) (f g : Nat → Int) : Prop := n = n' ∧ SameRows la lb f g
theorem sameOrder_any (n n' : Int) (a b : Option Addr) (la ca lb cb : Nat) (f g : Nat → Int) (w : World) (hl : la ≤ maxLen) (hl2 : lb ≤ maxLen) (ha : Row w a la f) (hb : Row w b lb g) :
    Calls Try.prog 20 #[.agg #[.int .i64 n, .slice a la ca], .agg #[.int .i64 n', .slice b lb cb]] w fun e w' => Ans e (SameOrders n n' la lb f g) ∧ Below w.heap.size w w' := by
  have HB2 : Hid (Below w.heap.size w ((w.alloc (.cells #[.int .i64 n, .slice a la ca] 25)).alloc (.cells #[.int .i64 n', .slice b lb cb] 25))) := ((Below.refl _ _).alloc (Nat.le_refl _) _).alloc (by simp) _
  have HA : Hid (Row w a la f) := ha
  have HB : Hid (Row w b lb g) := hb
  clear ha hb
  by_cases hn : n = n'
  · subst hn
    go_enter Try.func20, Try.ntmps20
    go_wp2_with fail
    refine (same_any a b la ca lb cb f g _ hl hl2 (HA.out.below HB2.out) (HB.out.below HB2.out)).mono ?_
    rintro e w1 ⟨⟨b, rfl, hb⟩, hB⟩
    have HBE : Hid (Below w.heap.size w w1) := Below.then HB2.out hB
    have HY : Hid (b = true ↔ SameRows la lb f g) := hb
    clear hB hb HB2
    go_wp2_with fail
    go_ret
    exact ⟨⟨_, rfl, HY.out.trans ⟨fun h => ⟨rfl, h⟩, fun h => h.2⟩⟩, HBE.out⟩
  · have hd : (n == n') = false := by simpa using hn
    have HN : Hid (¬ n = n') := hn
    clear hn
    go_enter Try.func20, Try.ntmps20
    go_wp2_with fail
    go_ret
    exact ⟨Ans.no (fun h => HN.out h.1), HB2.out⟩

/-- What a call answers that hands back an order and an errno. -/
def OrdErr (c : Int) (n : Int) (len : Nat) (F : Nat → Int) (x : Value) (w : World) : Prop :=
  (c ≠ 0 ∧ x = noOrder) ∨ (c = 0 ∧ ∃ a cap, x = .agg #[.int .i64 n, .slice a len cap] ∧ Row w a len F)
theorem OrdErr.step {c n : Int} {len : Nat} {F : Nat → Int} {x : Value} {w w' : World} (h : OrdErr c n len F x w) (hb : Below w.heap.size w w') : OrdErr c n len F x w' := by
  rcases h with h | ⟨h0, a, cap, hx, hr⟩
  · exact .inl h
  · exact .inr ⟨h0, a, cap, hx, hr.below hb⟩

theorem given_any (c n : Int) (len : Nat) (F : Nat → Int) (x y : Value) (w : World) (hl0 : c = 0 → len ≤ maxLen) (hx : OrdErr c n len F x w) (hy : OrdErr c n len F y w ∨ (c ≠ 0 ∧ ∃ n' a len' cap', y = .agg #[.int .i64 n', .slice a len' cap'])) :
    Calls Try.prog 11 #[x, .int .i64 c, .int .i64 c, y] w fun e w' => e = .returned (.bool true) ∧ Below w.heap.size w w' := by
  have HBE : Hid (∀ o1 o2 : Obj, Below w.heap.size w ((w.alloc o1).alloc o2)) := fun o1 o2 => ((Below.refl _ _).alloc (Nat.le_refl _) _).alloc (by simp) _
  by_cases hc : c = 0
  · have hl := hl0 hc
    clear hl0
    subst hc
    rcases hx with ⟨h, _⟩ | ⟨_, a, cap, rfl, hr⟩
    · exact absurd rfl h
    rcases hy with (⟨h, _⟩ | ⟨_, b, cap', rfl, hr'⟩) | ⟨h, _⟩
    · exact absurd rfl h
    · have HA : Hid (Row w a len F) := hr
      have HB : Hid (Row w b len F) := hr'
      clear hr hr'
      go_enter Try.func11, Try.ntmps11
      go_wp2_with fail
      refine (sameOrder_any n n a b len cap len cap' F F _ hl hl (HA.out.below (HBE.out _ _)) (HB.out.below (HBE.out _ _))).mono ?_
      rintro e w1 ⟨⟨q, rfl, hq⟩, hB⟩
      obtain rfl : q = true := hq.2 ⟨rfl, rfl, fun _ _ => rfl⟩
      have HB2 : Hid (Below w.heap.size w w1) := Below.then (HBE.out _ _) hB
      clear hq hB HBE
      go_wp2_with fail
      go_ret
      exact ⟨rfl, HB2.out⟩
    · exact absurd rfl h
  · have hne : (c != 0) = true := by simpa using hc
    clear hl0
    rcases hx with ⟨_, rfl⟩ | ⟨h, _⟩
    · obtain ⟨n', b, len', cap', rfl⟩ : ∃ n' b len' cap', y = .agg #[.int .i64 n', .slice b len' cap'] := by
        rcases hy with (⟨_, rfl⟩ | ⟨h, _⟩) | ⟨_, h⟩
        · exact ⟨0, none, 0, 0, rfl⟩
        · exact absurd h hc
        · exact h
      clear hy hc
      unfold noOrder
      go_enter Try.func11, Try.ntmps11
      go_wp2_with fail
      refine (sameOrder_any 0 0 none none 0 0 0 0 (fun _ => 0) (fun _ => 0) _ (by unfold maxLen; omega) (by unfold maxLen; omega) (fun k hk => absurd hk (Nat.not_lt_zero _)) (fun k hk => absurd hk (Nat.not_lt_zero _))).mono ?_
      rintro e w1 ⟨⟨q, rfl, hq⟩, hB⟩
      obtain rfl : q = true := hq.2 ⟨rfl, rfl, fun _ _ => rfl⟩
      have HB2 : Hid (Below w.heap.size w w1) := Below.then (HBE.out _ _) hB
      clear hq hB HBE
      go_wp2_with fail
      go_ret
      exact ⟨rfl, HB2.out⟩
    · exact absurd h hc
end Go.Proofs.Ytklfnghgpmjnmaa
namespace Go.Proofs.Ytklfnghgpmjnmaa
open Go.RowKit

/-- A slice of m rows. -/
def RR (w : World) (a : Option Addr) (m : Nat) (S : Nat → Option Addr × Nat × Nat) (F : Nat → Nat → Int) : Prop :=
  ∀ k, k < m → ∃ b off, a = some ⟨b, off, none⟩ ∧ w.cell? ⟨b, off + k, none⟩ = some (.slice (S k).1 (S k).2.1 (S k).2.2) ∧ (S k).2.1 ≤ maxLen ∧ Row w (S k).1 (S k).2.1 (F k)
theorem RR.below {w w' : World} {a : Option Addr} {m : Nat} {S : Nat → Option Addr × Nat × Nat} {F : Nat → Nat → Int} (h : RR w a m S F) (hb : Below w.heap.size w w') : RR w' a m S F := fun k hk => by
  obtain ⟨b, off, e, hc, hl, hr⟩ := h k hk
  exact ⟨b, off, e, (hb.cell (World.block_lt_of_cell? _ _ hc)).trans hc, hl, hr.below hb⟩
/-- What is in all of the first r rows. -/
def acc (F : Nat → Nat → Int) (n : Nat) : Nat → Nat → Nat
  | 0 => fun _ => pw n - 1
  | r + 1 => fun y => acc F n r y &&& bf (F r) n n y
def accTo (F : Nat → Nat → Int) (n r y k : Nat) : Nat := if k < y then acc F n (r + 1) k else acc F n r k
theorem acc_lt (F : Nat → Nat → Int) (n : Nat) : ∀ r y, acc F n r y < pw n
  | 0, _ => by have := pw_pos n; show pw n - 1 < pw n; omega
  | r + 1, y => Nat.lt_of_le_of_lt Nat.and_le_left (acc_lt F n r y)
theorem accTo_zero (F : Nat → Nat → Int) (n r : Nat) : ∀ k, accTo F n r 0 k = acc F n r k := fun k => by unfold accTo; rw [if_neg (Nat.not_lt_zero _)]
theorem accTo_at (F : Nat → Nat → Int) (n r y : Nat) : accTo F n r y y = acc F n r y := by unfold accTo; rw [if_neg (Nat.lt_irrefl _)]
theorem accTo_next (F : Nat → Nat → Int) (n r y : Nat) : ∀ k, upd (accTo F n r y) y (acc F n r y &&& bf (F r) n n y) k = accTo F n r (y + 1) k := fun k => by
  by_cases e : k = y
  · subst e; rw [upd_same]; unfold accTo; rw [if_pos (Nat.lt_succ_self _)]; rfl
  · rw [upd_other _ _ _ _ e]
    unfold accTo
    by_cases q : k < y
    · rw [if_pos q, if_pos (by omega)]
    · rw [if_neg q, if_neg (by omega)]
theorem accTo_end (F : Nat → Nat → Int) (n r : Nat) : ∀ k, k < n → accTo F n r n k = acc F n (r + 1) k := fun k hk => by unfold accTo; rw [if_pos hk]
/-- What Of must answer. -/
def RCk (n : Int) (m : Nat) (S : Nat → Option Addr × Nat × Nat) (F : Nat → Nat → Int) (c : Int) : Prop :=
  (c = 2 ∧ ¬ (0 ≤ n ∧ n ≤ 10 ∧ 0 < m ∧ m ≤ 10)) ∨
  ∃ q : Nat, n = q ∧ q ≤ 10 ∧ 0 < m ∧ m ≤ 10 ∧ ((c = 1 ∧ ∃ k, k < m ∧ ¬ ((S k).2.1 = q ∧ Once (F k) q q)) ∨ (c = 0 ∧ ∀ k, k < m → (S k).2.1 = q ∧ Once (F k) q q))
theorem RCk.one {n : Int} {m : Nat} {S : Nat → Option Addr × Nat × Nat} {F : Nat → Nat → Int} {c d : Int} (h : RCk n m S F c) (h' : RCk n m S F d) : c = d := by
  rcases h with ⟨rfl, h⟩ | ⟨q, rfl, q1, q2, q3, h⟩
  · rcases h' with ⟨rfl, _⟩ | ⟨p, hp, p1, p2, p3, _⟩
    · rfl
    · exact absurd ⟨by omega, by omega, p2, p3⟩ h
  · rcases h' with ⟨rfl, h'⟩ | ⟨p, hp, p1, p2, p3, h'⟩
    · exact absurd ⟨by omega, by omega, q2, q3⟩ h'
    · obtain rfl : q = p := by omega
      rcases h with ⟨rfl, k, hk, h⟩ | ⟨rfl, h⟩ <;> rcases h' with ⟨rfl, k', hk', h'⟩ | ⟨rfl, h'⟩
      · rfl
      · exact absurd (h' k hk) h
      · exact absurd (h k' hk') h'
      · rfl
end Go.Proofs.Ytklfnghgpmjnmaa
