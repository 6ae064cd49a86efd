/-
  What lattice.inBoth and lattice.isBelow answer. Conditions: the closure answers so of either table, in each world that leaves the first one as it was; at most forty elements.
  What tables.End, ideal.joinBelow and ideal.Irreducible answer. Conditions: of Irreducible none but that slices read as slices of rows.
-/
import Derived.Test.YtfkkjebgccnlnaaLaws
import Derived.Test.YtfkkjebgccnlnaaHeyM
namespace Go.Proofs.Ytfkkjebgccnlnaa
set_option maxRecDepth 100000
open Go.RowKit

/-- A closure that answers p of a table. -/
def Clo1 (F : Nat) (caps : Array Value) (V : Value) (p : Bool) (w : World) : Prop :=
  ∀ W : World, Below w.heap.size w W → Calls Try.prog F (#[V] ++ caps) W fun e w' => e = .returned (.bool p) ∧ Below W.heap.size W w'
theorem Clo1.step {F : Nat} {caps : Array Value} {V : Value} {p : Bool} {w W : World} (h : Clo1 F caps V p w) (hb : Below w.heap.size w W) : Clo1 F caps V p W :=
  fun W' hW => h W' (Below.then hb hW)

end Go.Proofs.Ytfkkjebgccnlnaa
namespace Go.Proofs.Ytfkkjebgccnlnaa
set_option maxRecDepth 100000
open Go.RowKit

set_option maxHeartbeats 1000000 in
theorem end_any (n b off cap : Nat) (R : Nat → Nat × Nat × Nat) (m : Nat → Nat → Nat) (w : World) (h1 : 1 ≤ n) (h40 : n ≤ 40) (hi : Inn n m) (ht : Tb w b off n R m) :
    Calls Try.prog 13 #[.slice (some ⟨b, off, none⟩) n cap] w fun e w' => e = .returned (.int .i64 (en m n : Nat)) ∧ w' = w := by
  have HT : Hid (Tb w b off n R m) := ht
  have HI : Hid (∀ k, k ≤ n → en m k < n) := en_lt h1 hi
  clear ht hi
  go_enter Try.func13, Try.ntmps13
  go_wp2_with fail
  go_loopw [3, 7] (fun x i wx => ∃ k : Nat, k ≤ n ∧ i = .int .i64 k ∧ x = .int .i64 (en m k : Nat) ∧ wx = w) (fun _ i _ => n - (intOf i).toNat)
  case atStart => exact ⟨0, Nat.zero_le _, rfl, rfl, rfl⟩
  case round =>
    obtain ⟨k, hk, rfl, rfl, rfl⟩ := hrel
    by_cases hlt : k < n
    · have he := HI.out k hk
      have r1 := (HT.out _ he).1
      have e1 := (HT.out _ he).2 k hlt
      have i1 : ((en m k : Nat) : Int) < (n : Int) := by omega
      have i2 : (k : Int) < (n : Int) := by omega
      have HN : Hid (m (en m k) k = en m (k + 1)) := rfl
      go_wp2_with fail
      go_roundw
      case rel => exact ⟨k + 1, by omega, by go_num, by rw [← HN.out], by first | rfl | trivial⟩
      case measure => simp [intOf]; omega
    · obtain rfl : k = n := by omega
      go_wp2_with fail
      go_ret
      exact ⟨rfl, rfl⟩
def IrrPost (n : Int) (la : Nat) (SA : Nat → Option Addr × Nat × Nat) (FA : Nat → Nat → Int) (lb : Nat) (SB : Nat → Option Addr × Nat × Nat) (FB : Nat → Nat → Int) (e : Ending) (w' : World) : Prop :=
  ∃ (c : Int) (v : Value), LCk n la SA FA lb SB FB c ∧ e = .returned (.tuple #[v, .int .i64 c]) ∧ ((c ≠ 0 ∧ v = .slice none 0 0) ∨ (c = 0 ∧ NSl w' v (irrs (nat2 FA) (nat2 FB) n.toNat)))

end Go.Proofs.Ytfkkjebgccnlnaa
