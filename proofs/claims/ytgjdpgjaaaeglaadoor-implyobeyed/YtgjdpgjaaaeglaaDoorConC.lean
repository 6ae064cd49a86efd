/-
  What concept's closings, closedThings and firstBehind answer. Conditions: as each theorem says.
-/
import Derived.Deep.RegionHeld3
import Derived.Test.YtgjdpgjaaaeglaaDoorConP
namespace Go.Proofs.YtgjdpgjaaaeglaaDoor
open Go.RowKit

/-- A call of F enters F. -/
def EntFQ (F : Nat) : Prop := ∀ (args : Array Value) (w : World), Sem.run Tryd.prog (callFunc F args) w = .ok (.enter F args) w
/-- A closure that answers J of a set, wherever what lay at first still lies. -/
def Clo1 (F : Nat) (caps : Array Value) (J : Nat → Nat) (w : World) : Prop :=
  ∀ s : Nat, s < 1024 → ∀ W : World, Below w.heap.size w W → Calls Tryd.prog F (#[.int .i64 (s : Nat)] ++ caps) W fun e w' => e = .returned (.int .i64 (J s : Nat)) ∧ Below W.heap.size W w'
theorem Clo1.step {F : Nat} {caps : Array Value} {J : Nat → Nat} {w W : World} (h : Clo1 F caps J w) (hb : Below w.heap.size w W) : Clo1 F caps J W :=
  fun s hs W' hW => h s hs W' (Below.then hb hW)
theorem and_full_lt {s k : Nat} : s &&& (pw k - 1) < pw k := by
  have := pw_pos k
  exact Nat.lt_of_le_of_lt Nat.and_le_right (by omega)
theorem next_lt {s k : Nat} (hk : k < 10) : s &&& (pw k - 1) ||| pw k < 1024 := by
  have h1 : s &&& (pw k - 1) < 2 ^ 10 := Nat.lt_of_lt_of_le and_full_lt (pw_le k (by omega))
  have h2 : pw k < 2 ^ 10 := Nat.pow_lt_pow_right (by decide) hk
  exact Nat.or_lt_two_pow (n := 10) h1 h2
/-- What firstBehind answers. -/
def fbv (o : Option Nat) : Value := .tuple #[.int .i64 ((o.getD 0 : Nat) : Int), .bool o.isSome]

end Go.Proofs.YtgjdpgjaaaeglaaDoor
