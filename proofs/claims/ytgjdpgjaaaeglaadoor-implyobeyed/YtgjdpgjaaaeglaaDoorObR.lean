/-
  What the reference's Obeys answers of a rule that may be wrong. Conditions: as each theorem says.
-/
import Derived.Test.YtgjdpgjaaaeglaaDoorObM
namespace Go.Proofs.YtgjdpgjaaaeglaaDoor
open Go.RowKit

theorem inside_neg (a : Int) (b : Nat) (w : World) (ha : a < 0) :
    Calls Tryd.prog 32 #[.int .i64 a, .int .i64 (b : Nat)] w fun e w' => e = .returned (.bool true) ∧ w = w' := by
  have hn : ¬ (0 < a) := by omega
  have hd : a ≤ 0 := by omega
  go_enter Tryd.func32, Tryd.ntmps32
  go_wp2
  go_loop [0, 1] (fun s t => s = .int .i64 a ∧ t = .int .i64 (b : Nat)) (fun s _ => (intOf s).toNat)
  case atStart => exact ⟨rfl, rfl⟩
  case round =>
    obtain ⟨rfl, rfl⟩ := hrel
    go_wp2
    go_ret
    exact ⟨rfl, rfl⟩
theorem inside_wide (a : Int) (b : Nat) (w : World) (ha : a < 9223372036854775808) (hb : b < 1024) :
    Calls Tryd.prog 32 #[.int .i64 a, .int .i64 (b : Nat)] w fun e w' => e = .returned (.bool (insB a b)) ∧ w = w' := by
  by_cases h : a < 0
  · rw [show insB a b = true by simp [insB, h]]
    exact inside_neg a b w h
  · obtain ⟨x, rfl⟩ : ∃ x : Nat, a = (x : Int) := ⟨a.toNat, by omega⟩
    rw [show insB (x : Int) b = (lack x b == 0) by simp [insB, h]]
    exact inside_any x b w (by omega) (by omega)
theorem obeysW_any (s : Nat) (X Y : Int) (w : World) (hs : s < 1024) (hx : X < 9223372036854775808) (hy : Y < 9223372036854775808) :
    Calls Tryd.prog 24 #[.int .i64 (s : Nat), .agg #[.int .i64 X, .int .i64 Y]] w fun e w' => e = .returned (.bool (obW s X Y)) ∧ Below w.heap.size w w' := by
  have HB : Hid (∀ o, Below w.heap.size w (w.alloc o)) := fun o => (Below.refl _ _).alloc (Nat.le_refl _) o
  rcases (Bool.eq_false_or_eq_true (insB X s)).symm with h | h
  · have HE : Hid (obW s X Y = true) := by simp [Hid, obW, h]
    go_enter Tryd.func24, Tryd.ntmps24
    go_wp2_with fail
    refine (inside_wide X s _ hx hs).mono ?_
    rintro e w' ⟨rfl, rfl⟩
    rw [h]
    go_wp2_with fail
    go_ret
    exact ⟨by rw [HE.out]; rfl, HB.out _⟩
  · have HE : Hid (obW s X Y = insB Y s) := by simp [Hid, obW, h]
    go_enter Tryd.func24, Tryd.ntmps24
    go_wp2_with fail
    refine (inside_wide X s _ hx hs).mono ?_
    rintro e w' ⟨rfl, rfl⟩
    rw [h]
    go_wp2_with fail
    refine (inside_wide Y s _ hy hs).mono ?_
    rintro e w' ⟨rfl, rfl⟩
    go_wp2_with fail
    go_ret
    exact ⟨by rw [HE.out]; rfl, HB.out _⟩
end Go.Proofs.YtgjdpgjaaaeglaaDoor
