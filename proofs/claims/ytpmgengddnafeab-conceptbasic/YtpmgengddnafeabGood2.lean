/-
  What the reference's Common answers, and concept.Marks and Things of a good context and set. Conditions: as each theorem says.
-/
import Derived.Test.YtpmgengddnafeabConB
import Derived.Test.YtpmgengddnafeabWilM
import Derived.Test.YtpmgengddnafeabTogether
namespace Go.Proofs.Ytpmgengddnafeab
open Go.RowKit

theorem common_any (a b : Nat) (w : World) (ha : a < 1024) (hb : b < 1024) :
    Calls Try.prog 15 #[.int .i64 a, .int .i64 b] w fun e w' => e = .returned (.int .i64 ((a &&& b : Nat) : Int)) ∧ w = w' := by
  have HE : Hid (a + b = (a ||| b) + (a &&& b)) := add_or_and 10 a b ha hb
  have hor : a ||| b < 1024 := Nat.or_lt_two_pow (n := 10) ha hb
  obtain ⟨Q, HQ⟩ : ∃ Q, Hid (Q = (a &&& b)) := ⟨_, rfl⟩
  rw [← HQ.out]
  go_enter Try.func15, Try.ntmps15
  go_wp2_with (go_at_call 34; refine (together_any a b _ ha hb).mono ?_; rintro e w' ⟨rfl, rfl⟩)
  go_ret
  exact ⟨ret_int (by have h1 := HE.out; have h2 := HQ.out; omega), rfl⟩

/-- Marks and Things at a good context and set. -/
theorem marks_good (a : Option Addr) (len r cap : Nat) (f : Nat → Int) (s : Nat) (w : World) (hl : len ≤ maxLen) (hr : Row w a len f) (hc : GChk len r len f 0) (h10 : len ≤ 10) (r10 : r ≤ 10) (hs : s < pw len) :
    Calls Try.prog 9 #[.agg #[.int .i64 (len : Int), .int .i64 (r : Int), .slice a len cap], .int .i64 (s : Nat)] w fun e w' => e = .returned (.tuple #[.int .i64 ((mks (nat f) len r s : Nat) : Int), .int .i64 0]) ∧ Below w.heap.size w w' := by
  refine (marks_any len r a len cap f s w hl hr).mono ?_
  rintro e w' ⟨h, hb⟩
  refine ⟨?_, hb⟩
  have h0 : SChk len r len len f s 0 := .inr ⟨hc, len, rfl, h10, .inr ⟨rfl, by omega, by omega⟩⟩
  rcases h with ⟨c, hne, hcc, _⟩ | ⟨r', s', x, _, e2, _, _, _, e3, _, _, ⟨_, rfl⟩, rfl⟩
  · exact absurd (SChk.unique hcc h0) hne
  · obtain rfl : r' = r := by omega
    obtain rfl : s' = s := by omega
    rfl
theorem things_good (a : Option Addr) (len r cap : Nat) (f : Nat → Int) (s : Nat) (w : World) (hl : len ≤ maxLen) (hr : Row w a len f) (hc : GChk len r len f 0) (r10 : r ≤ 10) (hs : s < pw r) :
    Calls Try.prog 8 #[.agg #[.int .i64 (len : Int), .int .i64 (r : Int), .slice a len cap], .int .i64 (s : Nat)] w fun e w' => e = .returned (.tuple #[.int .i64 ((ths (nat f) len s : Nat) : Int), .int .i64 0]) ∧ Below w.heap.size w w' := by
  refine (things_any len r a len cap f s w hl hr).mono ?_
  rintro e w' ⟨h, hb⟩
  refine ⟨?_, hb⟩
  have h0 : SChk len r r len f s 0 := .inr ⟨hc, r, rfl, r10, .inr ⟨rfl, by omega, by omega⟩⟩
  rcases h with ⟨c, hne, hcc, _⟩ | ⟨r', s', x, _, e2, _, _, _, e3, _, _, ⟨_, rfl⟩, rfl⟩
  · exact absurd (SChk.unique hcc h0) hne
  · obtain rfl : r' = r := by omega
    obtain rfl : s' = s := by omega
    rfl
end Go.Proofs.Ytpmgengddnafeab
