/-
  What the reference's Digits answers. Condition: a number up to ten.
-/
import Derived.Test.YthlhngjfbdaikaaDoorPrtM
import Derived.Laws.BytesArg
namespace Go.Proofs.YthlhngjfbdaikaaDoor
open Go.RowKit

theorem conv_any (w : World) (n : Int) : Sem.run Tryd.prog (convert 36 9 (Value.slice (some ⟨w.heap.size, 0, none⟩) 1 1)) (w.alloc (.cells #[.int .u8 n] 5)) = .ok (.string (strOfNums [n])) (w.alloc (.cells #[.int .u8 n] 5)) :=
  run_convert_bytes_arg _ 36 5 Tryd.underlying36 Tryd.underlying5 w.heap.size 0 1 1 [n] rfl (fun i hi => by
    obtain rfl : i = 0 := by omega
    simp) 9 Tryd.underlying9
theorem digits_small (k : Nat) (w : World) (hk : k < 10) :
    Calls Tryd.prog 16 #[.int .i64 k] w fun e w' => e = .returned (.string ⟨(dg k).toArray⟩) ∧ Below w.heap.size w w' := by
  rw [dg_small hk]
  have hcv := conv_any w
  have HB : Hid (∀ o, Below w.heap.size w (w.alloc o)) := fun o => (Below.refl _ _).alloc (Nat.le_refl _) o
  rcases (by omega : k = 0 ∨ k = 1 ∨ k = 2 ∨ k = 3 ∨ k = 4 ∨ k = 5 ∨ k = 6 ∨ k = 7 ∨ k = 8 ∨ k = 9) with rfl | rfl | rfl | rfl | rfl | rfl | rfl | rfl | rfl | rfl
  all_goals
    go_enter Tryd.func16, Tryd.ntmps16
    go_wp2_with fail
    go_ret
    exact ⟨rfl, HB.out _⟩
theorem ba_app (a b : List UInt8) : (⟨a.toArray⟩ : ByteArray) ++ ⟨b.toArray⟩ = ⟨(a ++ b).toArray⟩ := by
  apply ByteArray.ext
  simp
theorem digits_any (k : Nat) (w : World) (hk : k ≤ 10) :
    Calls Tryd.prog 16 #[.int .i64 k] w fun e w' => e = .returned (.string ⟨(dg k).toArray⟩) ∧ Below w.heap.size w w' := by
  by_cases h : k < 10
  · exact digits_small k w h
  · obtain rfl : k = 10 := by omega
    rw [dg_ten]
    clear h hk
    go_enter Tryd.func16, Tryd.ntmps16
    go_wp2_with fail
    refine (digits_small 1 _ (by decide)).mono ?_
    rintro e w1 ⟨rfl, hb1⟩
    have HB1 : Hid (Below w.heap.size w w1) := hb1
    rw [dg_small (by decide)]
    clear hb1
    go_wp2_with fail
    refine (digits_small 0 _ (by decide)).mono ?_
    rintro e w2 ⟨rfl, hb2⟩
    have HB2 : Hid (Below w.heap.size w w2) := Below.then HB1.out hb2
    rw [dg_small (by decide)]
    clear hb2 HB1
    go_wp2_with fail
    go_ret
    refine ⟨?_, HB2.out⟩
    rfl
end Go.Proofs.YthlhngjfbdaikaaDoor
