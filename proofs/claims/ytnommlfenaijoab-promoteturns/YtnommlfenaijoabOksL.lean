/-
  For every order and list that are handed in, hasselaw.PromoteBack and PromoteTwice return true, and nothing that was there is written. No condition.
-/
import Derived.Test.YtnommlfenaijoabPBeg
namespace Go.Proofs.Ytnommlfenaijoab
set_option maxRecDepth 100000
open Go.RowKit

/-- A row of numbers, as numbers that may be negative. -/
def ofN (R : Nat → Nat) (k : Nat) : Int := ((R k : Nat) : Int)
theorem nat_ofN (R : Nat → Nat) : nat (ofN R) = R := by funext k; simp [nat, ofN]
theorem rkc_ok {n : Nat} {f : Nat → Int} {R : Nat → Nat} (hck : Chk n n f 0) (hR : Rw (nat f) n R) : RkC n n f n (ofN R) 0 := by
  obtain ⟨_, h10, hrng, _⟩ := hck.good
  exact .inr ⟨hck, .inr ⟨rfl, rfl, rw_to h10 hrng.small (fun j _ => by unfold ofN; omega) (by rw [nat_ofN]; exact hR)⟩⟩
theorem same_ok (a b : Option Addr) (n ca cb : Nat) (f g : Nat → Int) (w : World) (hl : n ≤ 10) (ha : Row w a n f) (hb : Row w b n g) (h : ∀ k, k < n → f k = g k) :
    Calls Try.prog 8 #[.slice a n ca, .slice b n cb] w fun e w' => e = .returned (.bool true) ∧ Below w.heap.size w w' := by
  refine (same_any a b n ca n cb f g w (by unfold maxLen; omega) (by unfold maxLen; omega) ha hb).mono ?_
  rintro e w' ⟨⟨v, rfl, hv⟩, hb'⟩
  exact ⟨by rw [hv.2 ⟨rfl, h⟩], hb'⟩
theorem promote_ok (n : Nat) (ao : Option Addr) (co : Nat) (f : Nat → Int) (ar : Option Addr) (cr : Nat) (R : Nat → Nat) (w : World) (hck : Chk n n f 0) (hR : Rw (nat f) n R) (ho : Row w ao n f) (hr : Row w ar n (fun k => ((R k : Nat) : Int))) :
    Calls Try.prog 5 #[.agg #[.int .i64 (n : Int), .slice ao n co], .slice ar n cr] w fun e w' => (∃ a cap, e = .returned (.tuple #[.slice a n cap, .int .i64 0]) ∧ Row w' a n (fun k => ((up (nat f) (n - 1) R k : Nat) : Int))) ∧ Below w.heap.size w w' := by
  have h10 := hck.good.2.1
  refine (promote_any n ao n co f ar n cr (ofN R) w (by unfold maxLen; omega) (by unfold maxLen; omega) ho hr).mono ?_
  rintro e w' ⟨⟨c, v, rfl, hc, hv⟩, hb⟩
  obtain rfl : c = 0 := hc.one (rkc_ok hck hR)
  rcases hv with ⟨h, _⟩ | ⟨_, a, cap, rfl, hr'⟩
  · exact absurd rfl h
  · rw [nat_ofN] at hr'
    exact ⟨⟨a, cap, rfl, hr'⟩, hb⟩
theorem demote_ok (n : Nat) (ao : Option Addr) (co : Nat) (f : Nat → Int) (ar : Option Addr) (cr : Nat) (R : Nat → Nat) (w : World) (hck : Chk n n f 0) (hR : Rw (nat f) n R) (ho : Row w ao n f) (hr : Row w ar n (fun k => ((R k : Nat) : Int))) :
    Calls Try.prog 7 #[.agg #[.int .i64 (n : Int), .slice ao n co], .slice ar n cr] w fun e w' => (∃ a cap, e = .returned (.tuple #[.slice a n cap, .int .i64 0]) ∧ Row w' a n (fun k => ((dn (nat f) (n - 1) R k : Nat) : Int))) ∧ Below w.heap.size w w' := by
  have h10 := hck.good.2.1
  refine (demote_any n ao n co f ar n cr (ofN R) w (by unfold maxLen; omega) (by unfold maxLen; omega) ho hr).mono ?_
  rintro e w' ⟨⟨c, v, rfl, hc, hv⟩, hb⟩
  obtain rfl : c = 0 := hc.one (rkc_ok hck hR)
  rcases hv with ⟨h, _⟩ | ⟨_, a, cap, rfl, hr'⟩
  · exact absurd rfl h
  · rw [nat_ofN] at hr'
    exact ⟨⟨a, cap, rfl, hr'⟩, hb⟩
theorem evacuate_ok (n : Nat) (ao : Option Addr) (co : Nat) (f : Nat → Int) (ar : Option Addr) (cr : Nat) (R : Nat → Nat) (w : World) (hck : Chk n n f 0) (hR : Rw (nat f) n R) (ho : Row w ao n f) (hr : Row w ar n (fun k => ((R k : Nat) : Int))) :
    Calls Try.prog 6 #[.agg #[.int .i64 (n : Int), .slice ao n co], .slice ar n cr] w fun e w' => (∃ a cap, e = .returned (.tuple #[.slice a n cap, .int .i64 0]) ∧ Row w' a n (fun k => ((ev (nat f) (n - 1) R k : Nat) : Int))) ∧ Below w.heap.size w w' := by
  have h10 := hck.good.2.1
  refine (evacuate_any n ao n co f ar n cr (ofN R) w (by unfold maxLen; omega) (by unfold maxLen; omega) ho hr).mono ?_
  rintro e w' ⟨⟨c, v, rfl, hc, hv⟩, hb⟩
  obtain rfl : c = 0 := hc.one (rkc_ok hck hR)
  rcases hv with ⟨h, _⟩ | ⟨_, a, cap, rfl, hr'⟩
  · exact absurd rfl h
  · rw [nat_ofN] at hr'
    exact ⟨⟨a, cap, rfl, hr'⟩, hb⟩
theorem rw_up {u : Nat → Nat} {n : Nat} {r : Nat → Nat} (h : Rw u n r) : Rw u n (up u (n - 1) r) := by
  by_cases hz : n = 0
  · subst hz; exact h
  · exact h.up (n - 1) (by omega)
theorem rw_dn {u : Nat → Nat} {n : Nat} {r : Nat → Nat} (h : Rw u n r) : Rw u n (dn u (n - 1) r) := by
  by_cases hz : n = 0
  · subst hz; exact h
  · exact h.dn (n - 1) (by omega)
theorem rw_ev {u : Nat → Nat} {n : Nat} {r : Nat → Nat} (h : Rw u n r) : Rw u n (ev u (n - 1) r) := by
  by_cases hz : n = 0
  · subst hz; exact h
  · exact h.ev (n - 1) (by omega)
theorem back_up {u : Nat → Nat} {n : Nat} {r : Nat → Nat} (h : Rw u n r) : ∀ k, k < n → dn u (n - 1) (up u (n - 1) r) k = r k := fun k hk => by rw [dn_up h (n - 1) (by omega)]
theorem back_dn {u : Nat → Nat} {n : Nat} {r : Nat → Nat} (h : Rw u n r) : ∀ k, k < n → up u (n - 1) (dn u (n - 1) r) k = r k := fun k hk => by rw [up_dn (n - 1) h (by omega)]
theorem back_ev {u : Nat → Nat} {n : Nat} {r : Nat → Nat} (h : Rw u n r) : ∀ k, k < n → ev u (n - 1) (ev u (n - 1) r) k = r k := fun k hk => by rw [ev_twice (n - 1) h (by omega)]

end Go.Proofs.Ytnommlfenaijoab
