/-
  What sync.Once does, in one goroutine: the function that it is handed is called once. Conditions: the Once is new, or done; its lock is free.
  What sync.Once.Do does with the algebra's layOut. Conditions: the Once is new and its lock is free, or it is done.
-/
import Derived.Test.YtaioiopgijkemaaRows
import Derived.WalkKit
import Derived.WalkSpells
import Derived.WalkLawsBesides
import Derived.Tactics
import Derived.Tactics2
import Derived.Defers
import Derived.Laws.Pointers
import Derived.Laws.LoneSync
import Derived.RegionTactic
import Derived.RegionCalls
import Derived.ChangeAlike
namespace Go.Proofs.Ytaioiopgijkemaa
open Go.RowKit

theorem race_off (w : World) : (callFunc 56 #[]).run Try.prog w = .ok (.value (.tuple #[])) w := run_call_mark0 Try.func56 (by kernel_rfl) (by kernel_rfl) (by kernel_rfl) .disable (by kernel_rfl) w
theorem race_on (w : World) : (callFunc 58 #[]).run Try.prog w = .ok (.value (.tuple #[])) w := run_call_mark0 Try.func58 (by kernel_rfl) (by kernel_rfl) (by kernel_rfl) .enable (by kernel_rfl) w
theorem race_get (a : Addr) (w : World) : (callFunc 59 #[.pointer (some a)]).run Try.prog w = .ok (.value (.tuple #[])) w := run_call_marked Try.func59 (by kernel_rfl) (by kernel_rfl) (by kernel_rfl) .acquire (by kernel_rfl) a w
theorem race_let (a : Addr) (w : World) : (callFunc 61 #[.pointer (some a)]).run Try.prog w = .ok (.value (.tuple #[])) w := run_call_marked Try.func61 (by kernel_rfl) (by kernel_rfl) (by kernel_rfl) .releaseMerge (by kernel_rfl) a w

theorem store_deferred (a : Addr) (x : Value) (u : FrameMode) (w : World) (hc : w.cell? a = some x) (hz : w.frozen? a = false) :
    CallsD Try.prog 49 #[.pointer (some a), .bool true] u w fun e u' w' => u' = u ∧ (e = .returned (.tuple #[]) ∧ w' = w.drew.setCell a (.int .u32 1)) := by
  have hc' : w.drew.cell? a = some x := by go_simp
  have hz' : w.drew.frozen? a = false := by go_simp
  have hst := run_call_store (P := Try.prog) Try.func54 (by kernel_rfl) (by kernel_rfl) (by kernel_rfl) (by kernel_rfl) (k := .u32) (y := 1) hc' hz'
  go_enter_d Try.func49, Try.ntmps49
  go_wp2
  go_region_calls
  all_goals (go_end0; exact ⟨rfl, rfl⟩)
set_option maxRecDepth 100000 in
set_option maxHeartbeats 1600000 in
theorem unlock_deferred (a : Addr) (u : FrameMode) (w : World) (hc : w.cell? a = some (.int .i32 1)) (hz : w.frozen? a = false) :
    CallsD Try.prog 48 #[.pointer (some a)] u w fun e u' w' => u' = u ∧ (e = .returned (.tuple #[]) ∧ w' = w.setCell a (.int .i32 0)) := by
  have hd := race_off
  have he := race_on
  have hr := race_let
  have hadd := run_call_add (P := Try.prog) Try.func62 (by kernel_rfl) (by kernel_rfl) (by kernel_rfl) .i32 (by kernel_rfl) (y := -1) (s := 0) hc hz (by simp [go_sem]; rfl)
  have hcv := run_convert_to_unsafe (P := Try.prog) (src := 97) (dst := 101) Try.underlying97 Try.underlying101 (by kernel_rfl) hc
  go_enter_d Try.func48, Try.ntmps48
  go_wp2
  go_end0
  go_wp2
  go_end0
  exact ⟨rfl, rfl⟩
set_option maxRecDepth 100000 in
set_option maxHeartbeats 1600000 in
theorem lock_free (a : Addr) (w : World) (hc : w.cell? a = some (.int .i32 0)) (hz : w.frozen? a = false) :
    Calls Try.prog 47 #[.pointer (some a)] w fun e w' => e = .returned (.tuple #[]) ∧ w' = w.setCell a (.int .i32 1) := by
  have hd := race_off
  have he := race_on
  have ha := race_get
  have hcas := run_call_cas_hit (P := Try.prog) Try.func57 (by kernel_rfl) (by kernel_rfl) (by kernel_rfl) .i32 (by kernel_rfl) (y := 1) hc hz
  have hc' : (w.setCell a (.int .i32 1)).cell? a = some (.int .i32 1) := World.cell?_setCell_same w a _ hc
  have hcv := run_convert_to_unsafe (P := Try.prog) (src := 97) (dst := 101) Try.underlying97 Try.underlying101 (by kernel_rfl) hc'
  go_enter Try.func47, Try.ntmps47
  go_wp2
  first | go_end0 | (simp only [Exit.inBlock, Exit.then]; refine bodyPost_ret (results_none rfl _ _ _) rfl ?_) | refine bodyPost_ret (results_none rfl _ _ _) rfl ?_
  go_wp2
  go_end0
  exact ⟨rfl, rfl⟩
end Go.Proofs.Ytaioiopgijkemaa
namespace Go.Proofs.Ytaioiopgijkemaa
set_option maxRecDepth 100000
open Go.RowKit

set_option maxHeartbeats 1600000 in
theorem slow_any {A : Nat} {w : World} {P : World → Prop} (h3 : w.cell? ⟨A, 3, none⟩ = some (.int .u32 0)) (h4 : w.cell? ⟨A, 4, none⟩ = some (.int .i32 0)) (f4 : w.frozen? ⟨A, 4, none⟩ = false)
    (hP : ∀ w', P w' → (w'.cell? ⟨A, 3, none⟩ = some (.int .u32 0) ∧ w'.cell? ⟨A, 4, none⟩ = some (.int .i32 1)) ∧ w'.frozen? ⟨A, 3, none⟩ = false ∧ w'.frozen? ⟨A, 4, none⟩ = false)
    (HL : Calls Try.prog 25 #[.pointer (some ⟨A, 0, none⟩)] (w.setCell ⟨A, 4, none⟩ (.int .i32 1)) fun e w' => e = .returned (.tuple #[]) ∧ P w') :
    Calls Try.prog 36 #[.pointer (some ⟨A, 3, none⟩), .func (.func 25) #[.pointer (some ⟨A, 0, none⟩)] #[]] w fun e W => e = .returned (.tuple #[]) ∧ ∃ w', P w' ∧ W = (w'.drew.setCell ⟨A, 3, none⟩ (.int .u32 1)).setCell ⟨A, 4, none⟩ (.int .i32 0) := by
  have hl := run_call_load (P := Try.prog) Try.func46 (by kernel_rfl) (by kernel_rfl) (by kernel_rfl) .u32 (by kernel_rfl) (w := w.setCell ⟨A, 4, none⟩ (.int .i32 1)) (a := ⟨A, 3, none⟩) (x := 0) ((World.cell?_setCell_other _ ⟨A, 4, none⟩ ⟨A, 3, none⟩ _ (by simp)).trans h3)
  have hnot : ∀ (x : Bool) (w : World), (Op.unary .not (.bool x)).run Try.prog w = .ok (.bool (!x)) w := fun _ _ => rfl
  have HLL : Hid _ := HL
  have HPP : Hid _ := hP
  clear HL hP
  go_enter_defers Try.func36, Try.ntmps36
  go_wp2_with (go_at_call 47; refine (lock_free ⟨A, 4, none⟩ _ h4 f4).mono ?_; rintro e w' ⟨rfl, rfl⟩)
  go_wp2_with (first | (go_at_call 25; refine (Calls.mono HLL.out ?_); rintro e w' ⟨rfl, hw'⟩) | (go_at_call 35; go_in))
  try go_wp2
  obtain ⟨⟨c3, c4⟩, g3, g4⟩ := HPP.out _ hw'
  refine leaves_cons (f := 49) (args := #[.pointer (some ⟨A, 3, none⟩), .bool true]) (by simp) (by simp [go_sem]) ?_
  refine (store_deferred ⟨A, 3, none⟩ (.int .u32 0) .returning _ c3 g3).mono ?_
  rintro e u' w'' ⟨rfl, rfl, rfl⟩
  refine leaves_cons (f := 48) (args := #[.pointer (some ⟨A, 4, none⟩)]) (by simp [settle]) (by simp [go_sem]) ?_
  refine (unlock_deferred ⟨A, 4, none⟩ _ _ ?_ (by simp [g4])).mono ?_
  · refine (World.cell?_setCell_other _ ⟨A, 3, none⟩ ⟨A, 4, none⟩ _ (by simp)).trans ?_
    rw [World.cell?_drew]
    exact c4
  rintro e u' w'' ⟨rfl, rfl, rfl⟩
  simp [Leaves, settle, results, Try.results36]
  exact ⟨_, hw', rfl⟩
set_option maxHeartbeats 1600000 in
theorem do_first {A : Nat} {w : World} {P : World → Prop} (h3 : w.cell? ⟨A, 3, none⟩ = some (.int .u32 0)) (h4 : w.cell? ⟨A, 4, none⟩ = some (.int .i32 0)) (f4 : w.frozen? ⟨A, 4, none⟩ = false)
    (hP : ∀ w', P w' → (w'.cell? ⟨A, 3, none⟩ = some (.int .u32 0) ∧ w'.cell? ⟨A, 4, none⟩ = some (.int .i32 1)) ∧ w'.frozen? ⟨A, 3, none⟩ = false ∧ w'.frozen? ⟨A, 4, none⟩ = false)
    (HL : Calls Try.prog 25 #[.pointer (some ⟨A, 0, none⟩)] (w.setCell ⟨A, 4, none⟩ (.int .i32 1)) fun e w' => e = .returned (.tuple #[]) ∧ P w') :
    Calls Try.prog 24 #[.pointer (some ⟨A, 3, none⟩), .func (.func 25) #[.pointer (some ⟨A, 0, none⟩)] #[]] w fun e W => e = .returned (.tuple #[]) ∧ ∃ w', P w' ∧ W = (w'.drew.setCell ⟨A, 3, none⟩ (.int .u32 1)).setCell ⟨A, 4, none⟩ (.int .i32 0) := by
  have hl := run_call_load (P := Try.prog) Try.func46 (by kernel_rfl) (by kernel_rfl) (by kernel_rfl) .u32 (by kernel_rfl) h3
  have hnot : ∀ (x : Bool) (w : World), (Op.unary .not (.bool x)).run Try.prog w = .ok (.bool (!x)) w := fun _ _ => rfl
  have HSL : Hid _ := slow_any h3 h4 f4 hP HL
  clear hP HL
  go_enter Try.func24, Try.ntmps24
  go_wp2_with (first | (go_at_call 36; refine (Calls.mono HSL.out ?_); rintro e w' ⟨rfl, hw'⟩) | (go_at_call 35; go_in))
  go_end0
  exact ⟨rfl, hw'⟩
theorem do_done {A : Nat} {w : World} (fv : Value) (h3 : w.cell? ⟨A, 3, none⟩ = some (.int .u32 1)) :
    Calls Try.prog 24 #[.pointer (some ⟨A, 3, none⟩), fv] w fun e w' => e = .returned (.tuple #[]) ∧ w' = w := by
  have hl := run_call_load (P := Try.prog) Try.func46 (by kernel_rfl) (by kernel_rfl) (by kernel_rfl) .u32 (by kernel_rfl) h3
  have hnot : ∀ (x : Bool) (w : World), (Op.unary .not (.bool x)).run Try.prog w = .ok (.bool (!x)) w := fun _ _ => rfl
  go_enter Try.func24, Try.ntmps24
  go_wp2
  go_end0
  exact ⟨rfl, rfl⟩
end Go.Proofs.Ytaioiopgijkemaa
