/-
  What hasselaw.RealizeOf answers: true. No condition but that a slice reads as a slice of rows.
-/
import Derived.Test.YtklfnghgpmjnmaaRzB
import Derived.Test.YtklfnghgpmjnmaaRfRows
namespace Go.Proofs.Ytklfnghgpmjnmaa
open Go.RowKit

theorem OrdErr.form {c n : Int} {len : Nat} {F : Nat → Int} {x : Value} {w : World} (h : OrdErr c n len F x w) : ∃ n' a len' cap, x = .agg #[.int .i64 n', .slice a len' cap] := by
  rcases h with ⟨_, rfl⟩ | ⟨_, a, cap, rfl, _⟩
  · exact ⟨_, _, _, _, rfl⟩
  · exact ⟨_, _, _, _, rfl⟩
set_option maxHeartbeats 2000000 in
theorem realizeOf_any (n : Int) (a : Option Addr) (len cap : Nat) (S : Nat → Option Addr × Nat × Nat) (F : Nat → Nat → Int) (w : World) (hl : len ≤ maxLen) (hr : RR w a len S F) :
    Calls Try.prog 3 #[.int .i64 n, .slice a len cap] w fun e w' => e = .returned (.bool true) ∧ Below w.heap.size w w' := by
  have HR : Hid (RR w a len S F) := hr
  clear hr
  go_enter Try.func3, Try.ntmps3
  go_wp2_with fail
  refine (rOf_any n a len cap S F _ hl HR.out).mono ?_
  rintro e w1 ⟨⟨c, x, rfl, hc, hx⟩, hb1⟩
  obtain ⟨nx, ax, lx, cx, rfl⟩ := hx.form
  have HB1 : Hid (∀ o, Below w.heap.size w (w1.alloc o)) := fun o => hb1.alloc hb1.size _
  have HX1 : Hid (∀ o, OrdErr c n n.toNat (fun k => (acc F n.toNat len k : Nat)) (.agg #[.int .i64 nx, .slice ax lx cx]) (w1.alloc o)) := fun o => hx.step ((Below.refl _ _).alloc (Nat.le_refl _) _)
  have HR1 : Hid (∀ o, RR (w1.alloc o) a len S F) := fun o => HR.out.below (HB1.out o)
  have HC : Hid (RCk n len S F c) := hc
  clear hb1 hx hc
  go_wp2_with fail
  have K1 : Hid ((w1.alloc (.cells #[.int .i64 nx, .slice ax lx cx] 25)).cell? ⟨w1.heap.size, 0, none⟩ = some (.int .i64 nx) ∧ (w1.alloc (.cells #[.int .i64 nx, .slice ax lx cx] 25)).cell? ⟨w1.heap.size, 1, none⟩ = some (.slice ax lx cx)) := ⟨by simp, by simp⟩
  have HX2 := (show Hid _ from HX1.out (.cells #[.int .i64 nx, .slice ax lx cx] 25))
  have HB2 := (show Hid _ from HB1.out (.cells #[.int .i64 nx, .slice ax lx cx] 25))
  have HR2 := (show Hid _ from HR1.out (.cells #[.int .i64 nx, .slice ax lx cx] 25))
  clear HX1 HB1 HR1
  generalize w1.heap.size = B1 at *
  generalize w1.alloc (.cells #[.int .i64 nx, .slice ax lx cx] 25) = W1 at *
  refine (rowsOrder_any n a len cap S F _ hl HR2.out).mono ?_
  rintro e w2 ⟨⟨c', y, rfl, hc', hy⟩, hb2⟩
  obtain rfl := hc'.one HC.out
  obtain ⟨ny, ay, ly, cy, rfl⟩ := hy.form
  have e0 := (hb2.cell (World.block_lt_of_cell? _ _ K1.out.1)).trans K1.out.1
  have e1 := (hb2.cell (World.block_lt_of_cell? _ _ K1.out.2)).trans K1.out.2
  have HX3 : Hid (∀ w', Below w2.heap.size w2 w' → OrdErr c' n n.toNat (fun k => (acc F n.toNat len k : Nat)) (.agg #[.int .i64 nx, .slice ax lx cx]) w') := fun w' h => OrdErr.step (OrdErr.step HX2.out hb2) h
  have HY3 : Hid (∀ w', Below w2.heap.size w2 w' → OrdErr c' n n.toNat (fun k => (acc F n.toNat len k : Nat)) (.agg #[.int .i64 ny, .slice ay ly cy]) w') := fun w' h => OrdErr.step hy h
  have HB3 : Hid (Below w.heap.size w w2) := Below.then HB2.out hb2
  have hB1 := World.block_lt_of_cell? _ _ e0
  have HA : Hid (Below w2.heap.size w2 (w2.alloc (.cells #[.int .i64 ny, .slice ay ly cy] 25))) := (Below.refl _ _).alloc (Nat.le_refl _) _
  have f0 := (HA.out.cell hB1).trans e0
  have f1 := (HA.out.cell (World.block_lt_of_cell? _ _ e1)).trans e1
  clear hb2 hc' hy HX2 HB2 HR2 K1
  go_wp2_with fail
  have g0 : (w2.alloc (.cells #[.int .i64 ny, .slice ay ly cy] 25)).cell? ⟨w2.heap.size, 0, none⟩ = some (.int .i64 ny) := by simp
  have g1 : (w2.alloc (.cells #[.int .i64 ny, .slice ay ly cy] 25)).cell? ⟨w2.heap.size, 1, none⟩ = some (.slice ay ly cy) := by simp
  refine (realizeBegun_any _).mono ?_
  rintro e w3 ⟨rfl, hb3⟩
  have e0 := (hb3.cell (World.block_lt_of_cell? _ _ f0)).trans f0
  have e1 := (hb3.cell (World.block_lt_of_cell? _ _ f1)).trans f1
  have h0 := (hb3.cell (World.block_lt_of_cell? _ _ g0)).trans g0
  have h1 := (hb3.cell (World.block_lt_of_cell? _ _ g1)).trans g1
  have HX4 := (show Hid _ from HX3.out _ (Below.then HA.out hb3))
  have HY4 := (show Hid _ from HY3.out _ (Below.then HA.out hb3))
  have HB4 : Hid (Below w.heap.size w w3) := Below.then HB3.out (Below.then HA.out hb3)
  clear f0 f1 g0 g1 hb3 HX3 HY3 HB3 HA hB1
  go_wp2_with fail
  have HNL : Hid (c' = 0 → n.toNat ≤ maxLen) := fun e => by
    rcases HC.out with ⟨h1, h2⟩ | ⟨q, hq, h10, _⟩
    · rw [h1] at e; cases e
    · unfold maxLen; omega
  refine (given_any c' n _ (fun k => (acc F n.toNat len k : Nat)) _ _ _ HNL.out HX4.out (.inl HY4.out)).mono ?_
  rintro e w4 ⟨rfl, hb4⟩
  have HB5 : Hid (Below w.heap.size w w4) := Below.then HB4.out hb4
  clear hb4
  go_wp2_with fail
  go_ret
  exact ⟨rfl, HB5.out⟩
end Go.Proofs.Ytklfnghgpmjnmaa
