/-
  What seek.Three answers, handed a closure: the first three numbers of which it is so. Conditions: at most forty numbers; the closure answers P in each world that leaves the first one as it was, and writes nothing there.
  What lattice.always answers, handed a closure: whether it holds of each three. Conditions: at most forty elements; the closure answers P in each world that leaves the first one as it was.
-/
import Derived.Test.YtappekjkcgmheabTriM
namespace Go.Proofs.Ytappekjkcgmheab
open Go.RowKit

/-- A closure that answers P of three numbers below n, wherever what lay at first still lies. -/
def Clo (n F : Nat) (caps : Array Value) (P : Nat → Nat → Nat → Bool) (w : World) : Prop :=
  ∀ x y z : Nat, x < n → y < n → z < n → ∀ W : World, Below w.heap.size w W → Calls Try.prog F (#[.int .i64 (x : Nat), .int .i64 (y : Nat), .int .i64 (z : Nat)] ++ caps) W fun e w' => e = .returned (.bool (P x y z)) ∧ Below W.heap.size W w'

/-- The number is that of a function with a body. -/
def Ent (F : Nat) : Prop := ∀ (args : Array Value) (w : World), Sem.run Try.prog (callFunc F args) w = .ok (.enter F args) w

theorem row3 (w : World) (a b c : Nat) : NSl (w.alloc (.cells #[.int .i64 (a : Nat), .int .i64 (b : Nat), .int .i64 (c : Nat)] 3)) (.slice (some ⟨w.heap.size, 0, none⟩) 3 3) [a, b, c] := by
  refine ⟨_, 3, rfl, fun k hk => ⟨_, _, rfl, ?_⟩⟩
  simp only [List.length_cons, List.length_nil] at hk
  rcases (by omega : k = 0 ∨ k = 1 ∨ k = 2) with rfl | rfl | rfl <;> simp [nth]

set_option maxHeartbeats 2000000 in
theorem three_any (n F : Nat) (caps : Array Value) (P : Nat → Nat → Nat → Bool) (w : World) (h40 : n ≤ 40) (hF : Ent F) (hcl : Clo n F caps P w) :
    Calls Try.prog 23 #[.int .i64 n, .func (.func F) #[] caps] w fun e w' => (∃ v l ok, e = .returned (.tuple #[v, .bool ok]) ∧ First3 n P l ok ∧ NSl w' v l) ∧ Below w.heap.size w w' := by
  have HCL : Hid (Clo n F caps P w) := hcl
  clear hcl
  go_enter Try.func23, Try.ntmps23
  go_wp2_with fail
  go_loopw [10] (fun i wx => ∃ a : Nat, a ≤ n ∧ i = .int .i64 a ∧ Hid (No3 n P a 0 0) ∧ Hid (Below w.heap.size w wx)) (fun i _ => n - (intOf i).toNat)
  case atStart => exact ⟨0, Nat.zero_le _, rfl, No3.zero n P, Below.refl _ _⟩
  case round =>
    obtain ⟨a, ha, rfl, HU, HW⟩ := hrel
    by_cases hal : a < n
    · go_wp2_with fail
      go_loopw [14] (fun i wx => ∃ b : Nat, b ≤ n ∧ i = .int .i64 b ∧ Hid (No3 n P a b 0) ∧ Hid (Below w.heap.size w wx)) (fun i _ => n - (intOf i).toNat)
      case atStart => exact ⟨0, Nat.zero_le _, rfl, HU.out, HW.out⟩
      case round =>
        clear HU HW
        obtain ⟨b, hb, rfl, HU, HW⟩ := hrel
        by_cases hbl : b < n
        · go_wp2_with fail
          go_loopw [18] (fun i wx => ∃ c : Nat, c ≤ n ∧ i = .int .i64 c ∧ Hid (No3 n P a b c) ∧ Hid (Below w.heap.size w wx)) (fun i _ => n - (intOf i).toNat)
          case atStart => exact ⟨0, Nat.zero_le _, rfl, HU.out, HW.out⟩
          case round =>
            clear HU HW
            obtain ⟨c, hc, rfl, HU, HW⟩ := hrel
            by_cases hcl : c < n
            · have HC := HCL.out a b c hal hbl hcl _ HW.out
              rcases (Bool.eq_false_or_eq_true (P a b c)).symm with hp | hp
              · have HN : Hid (No3 n P a b (c + 1)) := HU.out.next hp
                rw [hp] at HC
                clear HU hp
                go_wp2_with fail
                rw [hF, Oper.upon_enter]
                refine HC.mono ?_
                rintro e w' ⟨rfl, hbw⟩
                have HW2 : Hid (Below w.heap.size w w') := Below.then HW.out hbw
                clear HC hbw HW
                go_wp2_with fail
                go_roundw
                case rel => exact ⟨c + 1, by omega, by go_num, HN.out, HW2.out⟩
                case measure => simp [intOf]; omega
              · have HF : Hid (First3 n P [a, b, c] true) := .inl ⟨rfl, a, b, c, ⟨hal, hbl, hcl⟩, hp, HU.out, rfl⟩
                rw [hp] at HC
                clear HU hp
                go_wp2_with fail
                rw [hF, Oper.upon_enter]
                refine HC.mono ?_
                rintro e w' ⟨rfl, hbw⟩
                have HW2 : Hid (Below w.heap.size w w') := Below.then HW.out hbw
                have hsz := HW2.out.size
                clear HC hbw HW
                have HN3 := (show Hid _ from row3 w' a b c)
                have HB3 : Hid (Below w.heap.size w (w'.alloc (.cells #[.int .i64 (a : Nat), .int .i64 (b : Nat), .int .i64 (c : Nat)] 3))) := HW2.out.alloc hsz _
                clear hsz
                go_wp2_with fail
                go_ret2
                exact ⟨⟨_, _, _, rfl, HF.out, HN3.out⟩, HB3.out⟩
            · obtain rfl : c = n := by omega
              have HN : Hid (No3 c P a (b + 1) 0) := HU.out.y
              clear HU
              go_wp2_with fail
              go_roundw
              case rel => exact ⟨b + 1, by omega, by go_num, HN.out, HW.out⟩
              case measure => simp [intOf]; omega
        · obtain rfl : b = n := by omega
          have HN : Hid (No3 b P (a + 1) 0 0) := HU.out.x
          clear HU
          go_wp2_with fail
          go_roundw
          case rel => exact ⟨a + 1, by omega, by go_num, HN.out, HW.out⟩
          case measure => simp [intOf]; omega
    · obtain rfl : a = n := by omega
      have HF : Hid (First3 a P [] false) := .inr ⟨rfl, rfl, fun x y z hx hy hz => HU.out x y z hx hy hz (.inl hx)⟩
      clear HU
      go_wp2_with fail
      go_ret2
      exact ⟨⟨_, _, _, rfl, HF.out, none, 0, rfl, fun k hk => absurd hk (Nat.not_lt_zero _)⟩, HW.out⟩
end Go.Proofs.Ytappekjkcgmheab
namespace Go.Proofs.Ytappekjkcgmheab
open Go.RowKit

theorem Clo.step {n F : Nat} {caps : Array Value} {P : Nat → Nat → Nat → Bool} {w W : World} (h : Clo n F caps P w) (hb : Below w.heap.size w W) : Clo n F caps P W :=
  fun x y z hx hy hz W' hW => h x y z hx hy hz W' (Below.then hb hW)

theorem ent_always1 : Ent 40 := fun _ _ => rfl

theorem always1_any (n F c : Nat) (caps : Array Value) (P : Nat → Nat → Nat → Bool) (w : World) (hF : Ent F) (hcl : Clo n F caps P w) (hc : w.cell? ⟨c, 0, none⟩ = some (.func (.func F) #[] caps)) :
    Clo n 40 #[.pointer (some ⟨c, 0, none⟩)] (fun x y z => !P x y z) w := fun x y z hx hy hz W hW => by
  have hcW : W.cell? ⟨c, 0, none⟩ = some (.func (.func F) #[] caps) := (hW.cell (World.block_lt_of_cell? _ _ hc)).trans hc
  have HC := hcl x y z hx hy hz W hW
  have HB : Hid (Below w.heap.size w W) := hW
  show Calls Try.prog 40 #[.int .i64 (x : Nat), .int .i64 (y : Nat), .int .i64 (z : Nat), .pointer (some ⟨c, 0, none⟩)] W _
  clear hcl hc hW
  go_enter Try.func40, Try.ntmps40
  go_wp2_with fail
  rw [hF, Oper.upon_enter]
  refine HC.mono ?_
  rintro e w' ⟨rfl, hbw⟩
  have HW2 : Hid (Below W.heap.size W w') := hbw
  clear HC hbw
  go_wp2_with fail
  go_ret
  exact ⟨rfl, HW2.out⟩

set_option maxHeartbeats 1000000 in
theorem always_any (n F : Nat) (caps : Array Value) (P : Nat → Nat → Nat → Bool) (w : World) (h40 : n ≤ 40) (hF : Ent F) (hcl : Clo n F caps P w) :
    Calls Try.prog 25 #[.int .i64 n, .func (.func F) #[] caps] w fun e w' => (∃ b, e = .returned (.bool b) ∧ (b = true ↔ All3 n P)) ∧ Below w.heap.size w w' := by
  have HB0 : Hid (Below w.heap.size w (w.alloc (.cells #[.func (.func F) #[] caps] 56))) := (Below.refl _ _).alloc (Nat.le_refl _) _
  have hc : (w.alloc (.cells #[.func (.func F) #[] caps] 56)).cell? ⟨w.heap.size, 0, none⟩ = some (.func (.func F) #[] caps) := by simp
  have HQ := (show Hid _ from always1_any n F w.heap.size caps P _ hF (hcl.step HB0.out) hc)
  clear hcl hc
  go_enter Try.func25, Try.ntmps25
  go_wp2_with fail
  refine (three_any n 40 _ _ _ h40 ent_always1 HQ.out).mono ?_
  rintro e w' ⟨⟨v, l, ok, rfl, hf, hn⟩, hbw⟩
  have HW2 : Hid (Below w.heap.size w w') := Below.then HB0.out hbw
  have HE : Hid ((!ok) = true ↔ All3 n P) := by
    rcases ok with _ | _
    · refine ⟨fun _ x y z hx hy hz => ?_, fun _ => rfl⟩
      rcases hf with ⟨h, _⟩ | ⟨_, _, h⟩
      · cases h
      · have := h x y z hx hy hz; simpa using this
    · refine ⟨fun h => (by cases h), fun h => ?_⟩
      obtain ⟨x, y, z, hx, hy, hz, hp⟩ := hf.ok.mp rfl
      have := h x y z hx hy hz
      rw [this] at hp; cases hp
  clear hf hn hbw HQ HB0
  go_wp2_with fail
  go_ret
  exact ⟨⟨_, rfl, HE.out⟩, HW2.out⟩
end Go.Proofs.Ytappekjkcgmheab
