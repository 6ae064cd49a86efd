/-
  For every order and number that are handed in, hasselaw.SpaceTurns returns true, and writes nothing that was there. Condition: the table of the least bits.
-/
import Derived.Test.YtggngpnenbjidaaDoorTurL
namespace Go.Proofs.YtggngpnenbjidaaDoor
open Go.RowKit

set_option maxHeartbeats 4000000 in
theorem spaceTurns_any (n : Int) (a : Option Addr) (len cap : Nat) (f : Nat → Int) (s : Int) (w : World) (hl : len ≤ maxLen) (hr : Row w a len f) (hT : Tab w) :
    Calls Tryd.prog 6 #[.agg #[.int .i64 n, .slice a len cap], .int .i64 s] w fun e w' => e = .returned (.bool true) ∧ Below w.heap.size w w' := by
  have HB0 : Hid (Below w.heap.size w (w.alloc (.cells #[.int .i64 n, .slice a len cap] 24))) := bel_one w _
  have K0 : Hid (Held (w.alloc (.cells #[.int .i64 n, .slice a len cap] 24)) w.heap.size n a len cap f) := Held.box hr
  have HT : Hid (Tab w) := hT
  clear hr hT
  have k0 := K0.out.c0
  have k1 := K0.out.c1
  go_enter Tryd.func6, Tryd.ntmps6
  go_wp2_with fail
  refine (turns_any n a len cap f s _ hl K0.out.row (HT.out.step HB0.out)).mono ?_
  rintro e w1 ⟨⟨c, p, rfl, hc, hp⟩, hb1⟩
  have HB1 : Hid (Below w.heap.size w w1) := Below.then HB0.out hb1
  have K1 : Hid (Held w1 w.heap.size n a len cap f) := K0.out.step hb1
  have HC : Hid (SCk n len f s c) := hc
  have HP : Hid ((c ≠ 0 ∧ p = 0) ∨ (c = 0 ∧ TrnIs (nat f) len s.toNat p)) := hp
  clear hb1 hc hp HB0 K0 k0 k1
  have k0 := K1.out.c0
  have k1 := K1.out.c1
  go_wp2_with fail
  refine (setOf_any n a len cap f s _ hl K1.out.row).mono ?_
  rintro e w3 ⟨⟨c', rfl, hc⟩, hb3⟩
  obtain rfl := HC.out.unique hc
  have HB3 : Hid (Below w.heap.size w w3) := Below.then HB1.out hb3
  have K3 : Hid (Held w3 w.heap.size n a len cap f) := K1.out.step hb3
  clear hb3 hc HB1 K1 k0 k1
  have k0 := K3.out.c0
  have k1 := K3.out.c1
  by_cases h0 : c = 0
  · subst h0
    obtain ⟨hck, x, rfl, hx⟩ := HC.out.good
    obtain ⟨rfl, h10, hrng, _⟩ := hck.good
    obtain ⟨M, hM, hsm, rfl⟩ : TrnIs (nat f) len x p := by
      rcases HP.out with ⟨h, _⟩ | ⟨_, h⟩
      · exact absurd rfl h
      · exact h
    have HG : Hid (∀ k, k < len → nat f k < pw len) := hrng.small
    have HR : Hid (Row w3 a len (fun k => ((nat f k : Nat) : Int))) := hrng.row K3.out.row
    have HM : Hid (∀ l, Bfs (clo (nat f)) (rst len) (pw len) x l l.length → l.length = cntT M (pw len)) := fun l b => b.count hM hsm
    clear hck hrng HC HP hM hsm
    go_wp2_with fail
    refine (turnsOf_any a len cap (nat f) x _ h10 HG.out HR.out hx).mono ?_
    rintro e w4 ⟨⟨l, rfl, hb⟩, hb4⟩
    have HB4 : Hid (Below w.heap.size w w4) := Below.then HB3.out hb4
    have hll := HM.out l hb
    rw [hll]
    clear hb4 hb HR HG hll
    go_wp2_with fail
    refine (spaceBegun_any w4 (HT.out.step HB4.out)).mono ?_
    rintro e w7 ⟨rfl, hb7⟩
    have HB7 : Hid (Below w.heap.size w w7) := Below.then HB4.out hb7
    clear hb7
    go_wp2_with fail
    refine (numberIs_any ((cntT M (pw len) : Nat) : Int) 0 0 ((cntT M (pw len) : Nat) : Int) _ rfl (.inr ⟨rfl, rfl⟩)).mono ?_
    rintro e w8 ⟨rfl, rfl⟩
    go_wp2_with fail
    go_ret
    exact ⟨rfl, HB7.out⟩
  · have hne : (c == 0) = false := by simpa using h0
    obtain rfl : p = 0 := by
      rcases HP.out with ⟨_, h⟩ | ⟨h, _⟩
      · exact h
      · exact absurd h h0
    have H0 : Hid (c ≠ 0) := h0
    clear h0 HC HP
    go_wp2_with fail
    refine (spaceBegun_any w3 (HT.out.step HB3.out)).mono ?_
    rintro e w7 ⟨rfl, hb7⟩
    have HB7 : Hid (Below w.heap.size w w7) := Below.then HB3.out hb7
    clear hb7
    go_wp2_with fail
    refine (numberIs_any 0 c c _ _ rfl (.inl ⟨H0.out, rfl⟩)).mono ?_
    rintro e w8 ⟨rfl, rfl⟩
    go_wp2_with fail
    go_ret
    exact ⟨rfl, HB7.out⟩
end Go.Proofs.YtggngpnenbjidaaDoor
