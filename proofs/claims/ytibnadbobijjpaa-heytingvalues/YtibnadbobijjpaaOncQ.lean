/-
  What sync.Once does, in one goroutine: the function that it is handed is called once. Conditions: the Once is new, or done; its lock is free.
  What sync.Once.Do does with the algebra's layOut. Conditions: the Once is new and its lock is free, or it is done.
-/
import Derived.Test.YtibnadbobijjpaaRows
import Derived.WalkKit
import Derived.WalkSpells
import Derived.WalkLawsBesides
import Derived.Tactics
import Derived.Tactics2
import Derived.Defers
import Derived.Laws.Pointers
import Derived.Laws.LoneSync
import Derived.RegionTactic
import Derived.RegionCalls
import Derived.ChangeAlike
namespace Go.Proofs.Ytibnadbobijjpaa
open Go.RowKit

theorem race_off (w : World) : (callFunc 68 #[]).run Try.prog w = .ok (.value (.tuple #[])) w := run_call_mark0 Try.func68 (by kernel_rfl) (by kernel_rfl) (by kernel_rfl) .disable (by kernel_rfl) w
theorem race_on (w : World) : (callFunc 70 #[]).run Try.prog w = .ok (.value (.tuple #[])) w := run_call_mark0 Try.func70 (by kernel_rfl) (by kernel_rfl) (by kernel_rfl) .enable (by kernel_rfl) w
theorem race_get (a : Addr) (w : World) : (callFunc 71 #[.pointer (some a)]).run Try.prog w = .ok (.value (.tuple #[])) w := run_call_marked Try.func71 (by kernel_rfl) (by kernel_rfl) (by kernel_rfl) .acquire (by kernel_rfl) a w
theorem race_let (a : Addr) (w : World) : (callFunc 73 #[.pointer (some a)]).run Try.prog w = .ok (.value (.tuple #[])) w := run_call_marked Try.func73 (by kernel_rfl) (by kernel_rfl) (by kernel_rfl) .releaseMerge (by kernel_rfl) a w

theorem store_deferred (a : Addr) (x : Value) (u : FrameMode) (w : World) (hc : w.cell? a = some x) (hz : w.frozen? a = false) :
    CallsD Try.prog 62 #[.pointer (some a), .bool true] u w fun e u' w' => u' = u ∧ (e = .returned (.tuple #[]) ∧ w' = w.drew.setCell a (.int .u32 1)) := by
  have hc' : w.drew.cell? a = some x := by go_simp
  have hz' : w.drew.frozen? a = false := by go_simp
  have hst := run_call_store (P := Try.prog) Try.func66 (by kernel_rfl) (by kernel_rfl) (by kernel_rfl) (by kernel_rfl) (k := .u32) (y := 1) hc' hz'
  go_enter_d Try.func62, Try.ntmps62
  go_wp2
  go_region_calls
  all_goals (go_end0; exact ⟨rfl, rfl⟩)
set_option maxRecDepth 100000 in
set_option maxHeartbeats 1600000 in
theorem unlock_deferred (a : Addr) (u : FrameMode) (w : World) (hc : w.cell? a = some (.int .i32 1)) (hz : w.frozen? a = false) :
    CallsD Try.prog 61 #[.pointer (some a)] u w fun e u' w' => u' = u ∧ (e = .returned (.tuple #[]) ∧ w' = w.setCell a (.int .i32 0)) := by
  have hd := race_off
  have he := race_on
  have hr := race_let
  have hadd := run_call_add (P := Try.prog) Try.func74 (by kernel_rfl) (by kernel_rfl) (by kernel_rfl) .i32 (by kernel_rfl) (y := -1) (s := 0) hc hz (by simp [go_sem]; rfl)
  have hcv := run_convert_to_unsafe (P := Try.prog) (src := 105) (dst := 109) Try.underlying105 Try.underlying109 (by kernel_rfl) hc
  go_enter_d Try.func61, Try.ntmps61
  go_wp2
  go_end0
  go_wp2
  go_end0
  exact ⟨rfl, rfl⟩
set_option maxRecDepth 100000 in
set_option maxHeartbeats 1600000 in
theorem lock_free (a : Addr) (w : World) (hc : w.cell? a = some (.int .i32 0)) (hz : w.frozen? a = false) :
    Calls Try.prog 60 #[.pointer (some a)] w fun e w' => e = .returned (.tuple #[]) ∧ w' = w.setCell a (.int .i32 1) := by
  have hd := race_off
  have he := race_on
  have ha := race_get
  have hcas := run_call_cas_hit (P := Try.prog) Try.func69 (by kernel_rfl) (by kernel_rfl) (by kernel_rfl) .i32 (by kernel_rfl) (y := 1) hc hz
  have hc' : (w.setCell a (.int .i32 1)).cell? a = some (.int .i32 1) := World.cell?_setCell_same w a _ hc
  have hcv := run_convert_to_unsafe (P := Try.prog) (src := 105) (dst := 109) Try.underlying105 Try.underlying109 (by kernel_rfl) hc'
  go_enter Try.func60, Try.ntmps60
  go_wp2
  first | go_end0 | (simp only [Exit.inBlock, Exit.then]; refine bodyPost_ret (results_none rfl _ _ _) rfl ?_) | refine bodyPost_ret (results_none rfl _ _ _) rfl ?_
  go_wp2
  go_end0
  exact ⟨rfl, rfl⟩
end Go.Proofs.Ytibnadbobijjpaa
namespace Go.Proofs.Ytibnadbobijjpaa
set_option maxRecDepth 100000
open Go.RowKit

set_option maxHeartbeats 1600000 in
theorem slow_any {A : Nat} {w : World} {P : World → Prop} (h3 : w.cell? ⟨A, 3, none⟩ = some (.int .u32 0)) (h4 : w.cell? ⟨A, 4, none⟩ = some (.int .i32 0)) (f4 : w.frozen? ⟨A, 4, none⟩ = false)
    (hP : ∀ w', P w' → (w'.cell? ⟨A, 3, none⟩ = some (.int .u32 0) ∧ w'.cell? ⟨A, 4, none⟩ = some (.int .i32 1)) ∧ w'.frozen? ⟨A, 3, none⟩ = false ∧ w'.frozen? ⟨A, 4, none⟩ = false)
    (HL : Calls Try.prog 41 #[.pointer (some ⟨A, 0, none⟩)] (w.setCell ⟨A, 4, none⟩ (.int .i32 1)) fun e w' => e = .returned (.tuple #[]) ∧ P w') :
    Calls Try.prog 54 #[.pointer (some ⟨A, 3, none⟩), .func (.func 41) #[.pointer (some ⟨A, 0, none⟩)] #[]] w fun e W => e = .returned (.tuple #[]) ∧ ∃ w', P w' ∧ W = (w'.drew.setCell ⟨A, 3, none⟩ (.int .u32 1)).setCell ⟨A, 4, none⟩ (.int .i32 0) := by
  have hl := run_call_load (P := Try.prog) Try.func59 (by kernel_rfl) (by kernel_rfl) (by kernel_rfl) .u32 (by kernel_rfl) (w := w.setCell ⟨A, 4, none⟩ (.int .i32 1)) (a := ⟨A, 3, none⟩) (x := 0) ((World.cell?_setCell_other _ ⟨A, 4, none⟩ ⟨A, 3, none⟩ _ (by simp)).trans h3)
  have hnot : ∀ (x : Bool) (w : World), (Op.unary .not (.bool x)).run Try.prog w = .ok (.bool (!x)) w := fun _ _ => rfl
  have HLL : Hid _ := HL
  have HPP : Hid _ := hP
  clear HL hP
  go_enter_defers Try.func54, Try.ntmps54
  go_wp2_with (go_at_call 60; refine (lock_free ⟨A, 4, none⟩ _ h4 f4).mono ?_; rintro e w' ⟨rfl, rfl⟩)
  go_wp2_with (first | (go_at_call 41; refine (Calls.mono HLL.out ?_); rintro e w' ⟨rfl, hw'⟩) | (go_at_call 53; go_in))
  try go_wp2
  obtain ⟨⟨c3, c4⟩, g3, g4⟩ := HPP.out _ hw'
  refine leaves_cons (f := 62) (args := #[.pointer (some ⟨A, 3, none⟩), .bool true]) (by simp) (by simp [go_sem]) ?_
  refine (store_deferred ⟨A, 3, none⟩ (.int .u32 0) .returning _ c3 g3).mono ?_
  rintro e u' w'' ⟨rfl, rfl, rfl⟩
  refine leaves_cons (f := 61) (args := #[.pointer (some ⟨A, 4, none⟩)]) (by simp [settle]) (by simp [go_sem]) ?_
  refine (unlock_deferred ⟨A, 4, none⟩ _ _ ?_ (by simp [g4])).mono ?_
  · refine (World.cell?_setCell_other _ ⟨A, 3, none⟩ ⟨A, 4, none⟩ _ (by simp)).trans ?_
    rw [World.cell?_drew]
    exact c4
  rintro e u' w'' ⟨rfl, rfl, rfl⟩
  simp [Leaves, settle, results, Try.results54]
  exact ⟨_, hw', rfl⟩
set_option maxHeartbeats 1600000 in
theorem do_first {A : Nat} {w : World} {P : World → Prop} (h3 : w.cell? ⟨A, 3, none⟩ = some (.int .u32 0)) (h4 : w.cell? ⟨A, 4, none⟩ = some (.int .i32 0)) (f4 : w.frozen? ⟨A, 4, none⟩ = false)
    (hP : ∀ w', P w' → (w'.cell? ⟨A, 3, none⟩ = some (.int .u32 0) ∧ w'.cell? ⟨A, 4, none⟩ = some (.int .i32 1)) ∧ w'.frozen? ⟨A, 3, none⟩ = false ∧ w'.frozen? ⟨A, 4, none⟩ = false)
    (HL : Calls Try.prog 41 #[.pointer (some ⟨A, 0, none⟩)] (w.setCell ⟨A, 4, none⟩ (.int .i32 1)) fun e w' => e = .returned (.tuple #[]) ∧ P w') :
    Calls Try.prog 40 #[.pointer (some ⟨A, 3, none⟩), .func (.func 41) #[.pointer (some ⟨A, 0, none⟩)] #[]] w fun e W => e = .returned (.tuple #[]) ∧ ∃ w', P w' ∧ W = (w'.drew.setCell ⟨A, 3, none⟩ (.int .u32 1)).setCell ⟨A, 4, none⟩ (.int .i32 0) := by
  have hl := run_call_load (P := Try.prog) Try.func59 (by kernel_rfl) (by kernel_rfl) (by kernel_rfl) .u32 (by kernel_rfl) h3
  have hnot : ∀ (x : Bool) (w : World), (Op.unary .not (.bool x)).run Try.prog w = .ok (.bool (!x)) w := fun _ _ => rfl
  have HSL : Hid _ := slow_any h3 h4 f4 hP HL
  clear hP HL
  go_enter Try.func40, Try.ntmps40
  go_wp2_with (first | (go_at_call 54; refine (Calls.mono HSL.out ?_); rintro e w' ⟨rfl, hw'⟩) | (go_at_call 53; go_in))
  go_end0
  exact ⟨rfl, hw'⟩
theorem do_done {A : Nat} {w : World} (fv : Value) (h3 : w.cell? ⟨A, 3, none⟩ = some (.int .u32 1)) :
    Calls Try.prog 40 #[.pointer (some ⟨A, 3, none⟩), fv] w fun e w' => e = .returned (.tuple #[]) ∧ w' = w := by
  have hl := run_call_load (P := Try.prog) Try.func59 (by kernel_rfl) (by kernel_rfl) (by kernel_rfl) .u32 (by kernel_rfl) h3
  have hnot : ∀ (x : Bool) (w : World), (Op.unary .not (.bool x)).run Try.prog w = .ok (.bool (!x)) w := fun _ _ => rfl
  go_enter Try.func40, Try.ntmps40
  go_wp2
  go_end0
  exact ⟨rfl, rfl⟩
end Go.Proofs.Ytibnadbobijjpaa
