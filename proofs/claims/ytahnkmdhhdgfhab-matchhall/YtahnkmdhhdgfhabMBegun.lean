/-
  That hasselaw.matchBegun answers true; what hasselaw.numberIs answers. No condition.
-/
import Derived.Test.YtahnkmdhhdgfhabMMat
namespace Go.Proofs.Ytahnkmdhhdgfhab
open Go.RowKit

def fThree (_ : Nat) : Int := 3
def fNone (_ : Nat) : Int := 0
theorem three_chk : GChk 2 2 2 fThree 0 := by
  refine .inr ⟨2, 2, rfl, rfl, by omega, by omega, .inr ⟨rfl, .inr ⟨rfl, ?_⟩⟩⟩
  unfold GRng fThree; decide +kernel
theorem none_chk : GChk 1 0 1 fNone 0 := by
  refine .inr ⟨1, 0, rfl, rfl, by omega, by omega, .inr ⟨rfl, .inr ⟨rfl, ?_⟩⟩⟩
  unfold GRng fNone; decide +kernel
theorem three_mat : mat (nat fThree) (2 : Int).toNat 2 0 0 = 2 := by
  have e : nat fThree = fun _ => 3 := by funext k; rfl
  rw [e]; decide +kernel
theorem none_lack : firstT (lks (nat fNone) 1) (pw 1) = some 1 := by
  have e : nat fNone = fun _ => 0 := by funext k; rfl
  rw [e]; decide +kernel

theorem matchBegun_any (w : World) : Calls Try.prog 4 #[] w fun e w' => e = .returned (.bool true) ∧ Below w.heap.size w w' := by
  go_enter Try.func4, Try.ntmps4
  go_wp2_with fail
  refine (count_any 2 2 _ 2 2 fThree _ (by unfold maxLen; omega) ?_).mono ?_
  · intro k hk
    refine ⟨w.heap.size, 0, rfl, ?_⟩
    match k, hk with
    | 0, _ => simp [fThree]
    | 1, _ => simp [fThree]
  rintro e w1 ⟨⟨c, hc, he⟩, hb1⟩
  obtain rfl := hc.unique three_chk
  rcases he with ⟨h0, _⟩ | ⟨_, rfl⟩
  · exact absurd rfl h0
  rw [three_mat]
  have HB1 : Hid (Below w.heap.size w w1) := Below.then ((Below.refl _ _).alloc (Nat.le_refl _) _) hb1
  clear hb1 hc
  go_wp2_with fail
  refine (lack_any 1 0 _ 1 1 fNone _ (by unfold maxLen; omega) ?_).mono ?_
  · intro k hk
    refine ⟨w1.heap.size, 0, rfl, ?_⟩
    match k, hk with
    | 0, _ => simp [fNone]
  rintro e w2 ⟨⟨c, hc, he⟩, hb2⟩
  obtain rfl := hc.unique none_chk
  rcases he with ⟨h0, _⟩ | ⟨_, rfl⟩
  · exact absurd rfl h0
  rw [none_lack]
  have HB2 : Hid (Below w.heap.size w w2) := Below.then (HB1.out.alloc HB1.out.size _) hb2
  clear hb2 hc HB1
  go_wp2_with fail
  go_ret
  exact ⟨rfl, HB2.out⟩

end Go.Proofs.Ytahnkmdhhdgfhab
