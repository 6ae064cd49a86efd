/-
  What sync.Once.Do does with the algebra's layOut. Conditions: the Once is new and its lock is free, or it is done.
-/
import Derived.Test.YtfkkjebgccnlnaaOncP
namespace Go.Proofs.Ytfkkjebgccnlnaa
set_option maxRecDepth 100000
open Go.RowKit

set_option maxHeartbeats 1600000 in
theorem slow_any {A : Nat} {w : World} {P : World → Prop} (h3 : w.cell? ⟨A, 3, none⟩ = some (.int .u32 0)) (h4 : w.cell? ⟨A, 4, none⟩ = some (.int .i32 0)) (f4 : w.frozen? ⟨A, 4, none⟩ = false)
    (hP : ∀ w', P w' → (w'.cell? ⟨A, 3, none⟩ = some (.int .u32 0) ∧ w'.cell? ⟨A, 4, none⟩ = some (.int .i32 1)) ∧ w'.frozen? ⟨A, 3, none⟩ = false ∧ w'.frozen? ⟨A, 4, none⟩ = false)
    (HL : Calls Try.prog 27 #[.pointer (some ⟨A, 0, none⟩)] (w.setCell ⟨A, 4, none⟩ (.int .i32 1)) fun e w' => e = .returned (.tuple #[]) ∧ P w') :
    Calls Try.prog 38 #[.pointer (some ⟨A, 3, none⟩), .func (.func 27) #[.pointer (some ⟨A, 0, none⟩)] #[]] w fun e W => e = .returned (.tuple #[]) ∧ ∃ w', P w' ∧ W = (w'.drew.setCell ⟨A, 3, none⟩ (.int .u32 1)).setCell ⟨A, 4, none⟩ (.int .i32 0) := by
  have hl := run_call_load (P := Try.prog) Try.func46 (by kernel_rfl) (by kernel_rfl) (by kernel_rfl) .u32 (by kernel_rfl) (w := w.setCell ⟨A, 4, none⟩ (.int .i32 1)) (a := ⟨A, 3, none⟩) (x := 0) ((World.cell?_setCell_other _ ⟨A, 4, none⟩ ⟨A, 3, none⟩ _ (by simp)).trans h3)
  have hnot : ∀ (x : Bool) (w : World), (Op.unary .not (.bool x)).run Try.prog w = .ok (.bool (!x)) w := fun _ _ => rfl
  have HLL : Hid _ := HL
  have HPP : Hid _ := hP
  clear HL hP
  go_enter_defers Try.func38, Try.ntmps38
  go_wp2_with (go_at_call 47; refine (lock_free ⟨A, 4, none⟩ _ h4 f4).mono ?_; rintro e w' ⟨rfl, rfl⟩)
  go_wp2_with (first | (go_at_call 27; refine (Calls.mono HLL.out ?_); rintro e w' ⟨rfl, hw'⟩) | (go_at_call 37; go_in))
  try go_wp2
  obtain ⟨⟨c3, c4⟩, g3, g4⟩ := HPP.out _ hw'
  refine leaves_cons (f := 49) (args := #[.pointer (some ⟨A, 3, none⟩), .bool true]) (by simp) (by simp [go_sem]) ?_
  refine (store_deferred ⟨A, 3, none⟩ (.int .u32 0) .returning _ c3 g3).mono ?_
  rintro e u' w'' ⟨rfl, rfl, rfl⟩
  refine leaves_cons (f := 48) (args := #[.pointer (some ⟨A, 4, none⟩)]) (by simp [settle]) (by simp [go_sem]) ?_
  refine (unlock_deferred ⟨A, 4, none⟩ _ _ ?_ (by simp [g4])).mono ?_
  · refine (World.cell?_setCell_other _ ⟨A, 3, none⟩ ⟨A, 4, none⟩ _ (by simp)).trans ?_
    rw [World.cell?_drew]
    exact c4
  rintro e u' w'' ⟨rfl, rfl, rfl⟩
  simp [Leaves, settle, results, Try.results38]
  exact ⟨_, hw', rfl⟩
set_option maxHeartbeats 1600000 in
theorem do_first {A : Nat} {w : World} {P : World → Prop} (h3 : w.cell? ⟨A, 3, none⟩ = some (.int .u32 0)) (h4 : w.cell? ⟨A, 4, none⟩ = some (.int .i32 0)) (f4 : w.frozen? ⟨A, 4, none⟩ = false)
    (hP : ∀ w', P w' → (w'.cell? ⟨A, 3, none⟩ = some (.int .u32 0) ∧ w'.cell? ⟨A, 4, none⟩ = some (.int .i32 1)) ∧ w'.frozen? ⟨A, 3, none⟩ = false ∧ w'.frozen? ⟨A, 4, none⟩ = false)
    (HL : Calls Try.prog 27 #[.pointer (some ⟨A, 0, none⟩)] (w.setCell ⟨A, 4, none⟩ (.int .i32 1)) fun e w' => e = .returned (.tuple #[]) ∧ P w') :
    Calls Try.prog 26 #[.pointer (some ⟨A, 3, none⟩), .func (.func 27) #[.pointer (some ⟨A, 0, none⟩)] #[]] w fun e W => e = .returned (.tuple #[]) ∧ ∃ w', P w' ∧ W = (w'.drew.setCell ⟨A, 3, none⟩ (.int .u32 1)).setCell ⟨A, 4, none⟩ (.int .i32 0) := by
  have hl := run_call_load (P := Try.prog) Try.func46 (by kernel_rfl) (by kernel_rfl) (by kernel_rfl) .u32 (by kernel_rfl) h3
  have hnot : ∀ (x : Bool) (w : World), (Op.unary .not (.bool x)).run Try.prog w = .ok (.bool (!x)) w := fun _ _ => rfl
  have HSL : Hid _ := slow_any h3 h4 f4 hP HL
  clear hP HL
  go_enter Try.func26, Try.ntmps26
  go_wp2_with (first | (go_at_call 38; refine (Calls.mono HSL.out ?_); rintro e w' ⟨rfl, hw'⟩) | (go_at_call 37; go_in))
  go_end0
  exact ⟨rfl, hw'⟩
theorem do_done {A : Nat} {w : World} (fv : Value) (h3 : w.cell? ⟨A, 3, none⟩ = some (.int .u32 1)) :
    Calls Try.prog 26 #[.pointer (some ⟨A, 3, none⟩), fv] w fun e w' => e = .returned (.tuple #[]) ∧ w' = w := by
  have hl := run_call_load (P := Try.prog) Try.func46 (by kernel_rfl) (by kernel_rfl) (by kernel_rfl) .u32 (by kernel_rfl) h3
  have hnot : ∀ (x : Bool) (w : World), (Op.unary .not (.bool x)).run Try.prog w = .ok (.bool (!x)) w := fun _ _ => rfl
  go_enter Try.func26, Try.ntmps26
  go_wp2
  go_end0
  exact ⟨rfl, rfl⟩
end Go.Proofs.Ytfkkjebgccnlnaa
