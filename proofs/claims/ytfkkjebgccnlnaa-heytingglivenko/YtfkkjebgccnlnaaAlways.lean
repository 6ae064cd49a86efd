/-
  What lattice.always answers, handed a closure: whether it holds of each three. Conditions: at most forty elements; the closure answers P in each world that leaves the first one as it was.
-/
import Derived.Test.YtfkkjebgccnlnaaThree
namespace Go.Proofs.Ytfkkjebgccnlnaa
set_option maxRecDepth 100000
open Go.RowKit

theorem Clo.step {n F : Nat} {caps : Array Value} {P : Nat → Nat → Nat → Bool} {w W : World} (h : Clo n F caps P w) (hb : Below w.heap.size w W) : Clo n F caps P W :=
  fun x y z hx hy hz W' hW => h x y z hx hy hz W' (Below.then hb hW)

theorem ent_always1 : Ent 45 := fun _ _ => rfl

theorem always1_any (n F c : Nat) (caps : Array Value) (P : Nat → Nat → Nat → Bool) (w : World) (hF : Ent F) (hcl : Clo n F caps P w) (hc : w.cell? ⟨c, 0, none⟩ = some (.func (.func F) #[] caps)) :
    Clo n 45 #[.pointer (some ⟨c, 0, none⟩)] (fun x y z => !P x y z) w := fun x y z hx hy hz W hW => by
  have hcW : W.cell? ⟨c, 0, none⟩ = some (.func (.func F) #[] caps) := (hW.cell (World.block_lt_of_cell? _ _ hc)).trans hc
  have HC := hcl x y z hx hy hz W hW
  have HB : Hid (Below w.heap.size w W) := hW
  show Calls Try.prog 45 #[.int .i64 (x : Nat), .int .i64 (y : Nat), .int .i64 (z : Nat), .pointer (some ⟨c, 0, none⟩)] W _
  clear hcl hc hW
  go_enter Try.func45, Try.ntmps45
  go_wp2_with fail
  rw [hF, Oper.upon_enter]
  refine HC.mono ?_
  rintro e w' ⟨rfl, hbw⟩
  have HW2 : Hid (Below W.heap.size W w') := hbw
  clear HC hbw
  go_wp2_with fail
  go_ret
  exact ⟨rfl, HW2.out⟩

set_option maxHeartbeats 1000000 in
theorem always_any (n F : Nat) (caps : Array Value) (P : Nat → Nat → Nat → Bool) (w : World) (h40 : n ≤ 40) (hF : Ent F) (hcl : Clo n F caps P w) :
    Calls Try.prog 35 #[.int .i64 n, .func (.func F) #[] caps] w fun e w' => (∃ b, e = .returned (.bool b) ∧ (b = true ↔ All3 n P)) ∧ Below w.heap.size w w' := by
  have HB0 : Hid (Below w.heap.size w (w.alloc (.cells #[.func (.func F) #[] caps] 51))) := (Below.refl _ _).alloc (Nat.le_refl _) _
  have hc : (w.alloc (.cells #[.func (.func F) #[] caps] 51)).cell? ⟨w.heap.size, 0, none⟩ = some (.func (.func F) #[] caps) := by simp
  have HQ := (show Hid _ from always1_any n F w.heap.size caps P _ hF (hcl.step HB0.out) hc)
  clear hcl hc
  go_enter Try.func35, Try.ntmps35
  go_wp2_with fail
  refine (three_any n 45 _ _ _ h40 ent_always1 HQ.out).mono ?_
  rintro e w' ⟨⟨v, l, ok, rfl, hf, hn⟩, hbw⟩
  have HW2 : Hid (Below w.heap.size w w') := Below.then HB0.out hbw
  have HE : Hid ((!ok) = true ↔ All3 n P) := by
    rcases ok with _ | _
    · refine ⟨fun _ x y z hx hy hz => ?_, fun _ => rfl⟩
      rcases hf with ⟨h, _⟩ | ⟨_, _, h⟩
      · cases h
      · have := h x y z hx hy hz; simpa using this
    · refine ⟨fun h => (by cases h), fun h => ?_⟩
      obtain ⟨x, y, z, hx, hy, hz, hp⟩ := hf.ok.mp rfl
      have := h x y z hx hy hz
      rw [this] at hp; cases hp
  clear hf hn hbw HQ HB0
  go_wp2_with fail
  go_ret
  exact ⟨⟨_, rfl, HE.out⟩, HW2.out⟩
end Go.Proofs.Ytfkkjebgccnlnaa
