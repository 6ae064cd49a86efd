/-
  What weigh.ofEachTwo answers, handed a closure: whether it is so of each two sets. Conditions: at most six points; the closure answers P in each world that leaves the first one as it was, and writes nothing there.
-/
import Derived.Test.YtoagfjikjdacoaaChkW
namespace Go.Proofs.Ytoagfjikjdacoaa
set_option maxRecDepth 100000
open Go.RowKit

/-- A closure that answers P of two numbers below m, wherever what lay at first still lies. -/
def Clo2 (m F : Nat) (caps : Array Value) (P : Nat → Nat → Bool) (w : World) : Prop :=
  ∀ x y : Nat, x < m → y < m → ∀ W : World, Below w.heap.size w W → Calls Try.prog F (#[.int .i64 (x : Nat), .int .i64 (y : Nat)] ++ caps) W fun e w' => e = .returned (.bool (P x y)) ∧ Below W.heap.size W w'
/-- The number is that of a function with a body. -/
def Ent (F : Nat) : Prop := ∀ (args : Array Value) (w : World), Sem.run Try.prog (callFunc F args) w = .ok (.enter F args) w
def All2 (m : Nat) (P : Nat → Nat → Bool) : Prop := ∀ x y, x < m → y < m → P x y = true
theorem cell_step {w w' : World} {ad : Addr} {v : Value} (hb : Below w.heap.size w w') (h : w.cell? ad = some v) : w'.cell? ad = some v := (hb.cell (World.block_lt_of_cell? _ _ h)).trans h

set_option maxHeartbeats 2000000 in
theorem ofEachTwo_any (n F : Nat) (caps : Array Value) (P : Nat → Nat → Bool) (w : World) (h6 : n ≤ 6) (hF : Ent F) (hcl : Clo2 (pw n) F caps P w) :
    Calls Try.prog 21 #[.int .i64 n, .func (.func F) #[] caps] w fun e w' => Ans e (All2 (pw n) P) ∧ Below w.heap.size w w' := by
  have HCL : Hid (Clo2 (pw n) F caps P w) := hcl
  clear hcl
  have hpw := wrap_pow n (by omega)
  have hps := pw6 h6
  generalize hm : pw n = m at *
  go_enter Try.func21, Try.ntmps21
  go_wp2_with fail
  rw [hpw]
  go_loopw [9] (fun i wx => ∃ a : Nat, a ≤ m ∧ i = .int .i64 a ∧ Hid (∀ x y, x < a → y < m → P x y = true) ∧ Hid (Below w.heap.size w wx)) (fun i _ => m - (intOf i).toNat)
  case atStart => exact ⟨0, Nat.zero_le _, rfl, fun x y h => absurd h (Nat.not_lt_zero _), Below.refl _ _⟩
  case round =>
    obtain ⟨a, ha, rfl, HU, HW⟩ := hrel
    by_cases hal : a < m
    · go_wp2_with fail
      rw [hpw]
      go_loopw [14] (fun i wx => ∃ b : Nat, b ≤ m ∧ i = .int .i64 b ∧ Hid (∀ y, y < b → P a y = true) ∧ Hid (Below w.heap.size w wx)) (fun i _ => m - (intOf i).toNat)
      case atStart => exact ⟨0, Nat.zero_le _, rfl, upto_zero, HW.out⟩
      case round =>
        clear HW
        obtain ⟨b, hb, rfl, HV, HW⟩ := hrel
        by_cases hbl : b < m
        · have HC := HCL.out a b hal hbl _ HW.out
          rcases (Bool.eq_false_or_eq_true (P a b)).symm with hp | hp
          · have HN : Hid (¬ All2 m P) := fun h => by rw [h a b hal hbl] at hp; cases hp
            rw [hp] at HC
            clear HU hp HV
            go_wp2_with fail
            rw [hF, Oper.upon_enter]
            refine HC.mono ?_
            rintro e w' ⟨rfl, hbw⟩
            have HW2 : Hid (Below w.heap.size w w') := Below.then HW.out hbw
            clear HC hbw HW
            go_wp2_with fail
            go_ret
            exact ⟨Ans.no HN.out, HW2.out⟩
          · have HN : Hid (∀ y, y < b + 1 → P a y = true) := upto_succ HV.out hp
            rw [hp] at HC
            clear hp HV
            go_wp2_with fail
            rw [hF, Oper.upon_enter]
            refine HC.mono ?_
            rintro e w' ⟨rfl, hbw⟩
            have HW2 : Hid (Below w.heap.size w w') := Below.then HW.out hbw
            clear HC hbw HW
            go_wp2_with fail
            go_roundw
            case rel => exact ⟨b + 1, by omega, by go_num, HN.out, HW2.out⟩
            case measure => simp [intOf]; omega
        · obtain rfl : b = m := by omega
          have HN : Hid (∀ x y, x < a + 1 → y < b → P x y = true) := fun x y hx hy => by
            by_cases e : x = a
            · subst e; exact HV.out y hy
            · exact HU.out x y (by omega) hy
          clear HU HV
          go_wp2_with fail
          go_roundw
          case rel => exact ⟨a + 1, by omega, by go_num, HN.out, HW.out⟩
          case measure => simp [intOf]; omega
    · obtain rfl : a = m := by omega
      have HN : Hid (All2 a P) := HU.out
      clear HU
      go_wp2_with fail
      go_ret
      exact ⟨Ans.yes HN.out, HW.out⟩
end Go.Proofs.Ytoagfjikjdacoaa
