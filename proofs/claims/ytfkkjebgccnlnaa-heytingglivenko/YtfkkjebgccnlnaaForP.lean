/-
  What heyting.Forces answers of an order of one point, and of a variable. Conditions: as each theorem says.
-/
import Derived.Test.YtfkkjebgccnlnaaOrdP
import Derived.Test.YtfkkjebgccnlnaaGal0
namespace Go.Proofs.Ytfkkjebgccnlnaa
set_option maxRecDepth 100000
open Go.RowKit

set_option maxHeartbeats 1000000 in
theorem leftOf_var (w : World) :
    Calls Try.prog 24 #[.int .i64 30, .agg #[.int .i64 2, .int .i64 0, .slice none 0 0]] w fun e w' => e = .returned (.int .i64 29) ∧ Below w.heap.size w w' := by
  have HB : Hid (Below w.heap.size w (w.alloc (.cells #[.int .i64 2, .int .i64 0, .slice none 0 0] 27))) := (Below.refl _ _).alloc (Nat.le_refl _) _
  go_enter Try.func24, Try.ntmps24
  go_wp2_with fail
  go_loopw [0, 12] (fun z i wx => z = .int .i64 29 ∧ i = .int .i64 0 ∧ Hid (Below w.heap.size w wx)) (fun _ _ _ => 0)
  case atStart => exact ⟨rfl, rfl, HB.out⟩
  case round =>
    clear HB
    obtain ⟨rfl, rfl, HW⟩ := hrel
    go_wp2_with fail
    go_ret
    exact ⟨rfl, HW.out⟩
set_option maxHeartbeats 1000000 in
theorem checkForm_var (w : World) :
    Calls Try.prog 25 #[.agg #[.int .i64 2, .int .i64 0, .slice none 0 0]] w fun e w' => e = .returned (.int .i64 0) ∧ Below w.heap.size w w' := by
  have HB : Hid (Below w.heap.size w (w.alloc (.cells #[.int .i64 2, .int .i64 0, .slice none 0 0] 27))) := (Below.refl _ _).alloc (Nat.le_refl _) _
  have hp : pnt 0 3 = true := rfl
  go_enter Try.func25, Try.ntmps25
  go_wp2_with (go_at_call 17; refine (isPoint_any _ _ _).mono ?_; rintro e w' ⟨rfl, hww⟩; subst hww)
  go_loopw [31] (fun i wx => i = .int .i64 0 ∧ Hid (Below w.heap.size w wx)) (fun _ _ => 0)
  case atStart => exact ⟨rfl, HB.out⟩
  case round =>
    clear HB
    obtain ⟨rfl, HW⟩ := hrel
    go_wp2_with fail
    go_ret
    exact ⟨rfl, HW.out⟩
set_option maxHeartbeats 1000000 in
theorem hCheck_var (w : World) :
    Calls Try.prog 12 #[.agg #[.int .i64 2, .int .i64 0, .slice none 0 0]] w fun e w' => e = .returned (.int .i64 0) ∧ Below w.heap.size w w' := by
  have HB : Hid (Below w.heap.size w (w.alloc (.cells #[.int .i64 2, .int .i64 0, .slice none 0 0] 27))) := (Below.refl _ _).alloc (Nat.le_refl _) _
  have c0 : (w.alloc (.cells #[.int .i64 2, .int .i64 0, .slice none 0 0] 27)).cell? ⟨w.heap.size, 0, none⟩ = some (.int .i64 2) := by simp
  have c1 : (w.alloc (.cells #[.int .i64 2, .int .i64 0, .slice none 0 0] 27)).cell? ⟨w.heap.size, 1, none⟩ = some (.int .i64 0) := by simp
  have c2 : (w.alloc (.cells #[.int .i64 2, .int .i64 0, .slice none 0 0] 27)).cell? ⟨w.heap.size, 2, none⟩ = some (.slice none 0 0) := by simp
  go_enter Try.func12, Try.ntmps12
  go_wp2_with fail
  refine (leftOf_var _).mono ?_
  rintro e w1 ⟨rfl, hb1⟩
  have d0 := cell_step hb1 c0
  have d1 := cell_step hb1 c1
  have d2 := cell_step hb1 c2
  have HB1 : Hid (Below w.heap.size w w1) := Below.then HB.out hb1
  clear hb1 HB c0 c1 c2
  go_wp2_with fail
  refine (checkForm_var _).mono ?_
  rintro e w2 ⟨rfl, hb2⟩
  have HB2 : Hid (Below w.heap.size w w2) := Below.then HB1.out hb2
  clear hb2 HB1 d0 d1 d2
  go_wp2_with fail
  go_ret
  exact ⟨rfl, HB2.out⟩
/-- What a slice of three sets holds. -/
def f100 (k : Nat) : Int := if k = 0 then 1 else 0
theorem f100_in : ∀ k : Nat, k < 3 → 0 ≤ f100 k ∧ f100 k < 2 := fun k _ => by unfold f100; split <;> decide
set_option maxHeartbeats 1000000 in
theorem goesUp_one (b s : Nat) (w : World) (hs : s < 9223372036854775808) (hc : w.cell? ⟨b, 0, none⟩ = some (.int .i64 0)) :
    Calls Try.prog 33 #[.agg #[.int .i64 1, .slice (some ⟨b, 0, none⟩) 1 1], .int .i64 (s : Nat)] w fun e w' => e = .returned (.bool true) ∧ Below w.heap.size w w' := by
  have B : Below w.heap.size w (w.alloc (.cells #[.int .i64 1, .slice (some ⟨b, 0, none⟩) 1 1] 42)) := (Below.refl _ _).alloc (Nat.le_refl _) _
  have HB : Hid (Below w.heap.size w (w.alloc (.cells #[.int .i64 1, .slice (some ⟨b, 0, none⟩) 1 1] 42))) := B
  have hand : bits .and .i64 0 (s : Int) = 0 := by
    have := i64_and 0 s (by omega) hs
    simpa using this
  have HC : Hid (∀ wx, Below w.heap.size w wx → wx.cell? ⟨b, 0, none⟩ = some (.int .i64 0)) := fun wx h => cell_step h hc
  clear B hc
  go_enter Try.func33, Try.ntmps33
  go_wp2_with fail
  go_loopw [10] (fun i wx => ∃ k : Nat, k ≤ 1 ∧ i = .int .i64 k ∧ Hid (Below w.heap.size w wx)) (fun i _ => 1 - (intOf i).toNat)
  case atStart => exact ⟨0, Nat.zero_le _, rfl, HB.out⟩
  case round =>
    clear HB
    obtain ⟨k, hk, rfl, HW⟩ := hrel
    rcases (by omega : k = 0 ∨ k = 1) with rfl | rfl
    · have c0 := HC.out _ HW.out
      go_wp2_with fail
      go_roundw
      case rel => exact ⟨1, by omega, by go_num, HW.out⟩
      case measure => simp [intOf]
    · go_wp2_with fail
      go_ret
      exact ⟨rfl, HW.out⟩
set_option maxHeartbeats 2000000 in
theorem checkSets_one (b c : Nat) (w : World) (hb : w.cell? ⟨b, 0, none⟩ = some (.int .i64 0)) (hc : Row w (some ⟨c, 0, none⟩) 3 f100) :
    Calls Try.prog 21 #[.agg #[.int .i64 1, .slice (some ⟨b, 0, none⟩) 1 1], .slice (some ⟨c, 0, none⟩) 3 3, .int .i64 0] w fun e w' => e = .returned (.int .i64 0) ∧ Below w.heap.size w w' := by
  have B : Below w.heap.size w (w.alloc (.cells #[.int .i64 1, .slice (some ⟨b, 0, none⟩) 1 1] 42)) := (Below.refl _ _).alloc (Nat.le_refl _) _
  have HB : Hid (Below w.heap.size w (w.alloc (.cells #[.int .i64 1, .slice (some ⟨b, 0, none⟩) 1 1] 42))) := B
  have HF : Hid (MA.In ⟨some ⟨c, 0, none⟩, 3, 3, f100⟩ (w.alloc (.cells #[.int .i64 1, .slice (some ⟨b, 0, none⟩) 1 1] 42))) := ⟨by unfold maxLen; simp only; omega, hc.below B⟩
  have HC : Hid (∀ wx, Below w.heap.size w wx → wx.cell? ⟨b, 0, none⟩ = some (.int .i64 0)) := fun wx h => cell_step h hb
  have HR : Hid (∀ wx, Below w.heap.size w wx → Row wx (some ⟨c, 0, none⟩) 3 f100) := fun wx h => hc.below h
  have HO : Hid (∀ wx, Below w.heap.size w wx ∧ (wx.cell? ⟨w.heap.size, 0, none⟩ = some (.int .i64 1) ∧ wx.cell? ⟨w.heap.size, 1, none⟩ = some (.slice (some ⟨b, 0, none⟩) 1 1)) → ∀ wy, Below wx.heap.size wx wy → Below w.heap.size w wy ∧ (wy.cell? ⟨w.heap.size, 0, none⟩ = some (.int .i64 1) ∧ wy.cell? ⟨w.heap.size, 1, none⟩ = some (.slice (some ⟨b, 0, none⟩) 1 1))) :=
    fun wx h wy hy => ⟨Below.then h.1 hy, cell_step hy h.2.1, cell_step hy h.2.2⟩
  have c0 : (w.alloc (.cells #[.int .i64 1, .slice (some ⟨b, 0, none⟩) 1 1] 42)).cell? ⟨w.heap.size, 0, none⟩ = some (.int .i64 1) := by simp
  have c1 : (w.alloc (.cells #[.int .i64 1, .slice (some ⟨b, 0, none⟩) 1 1] 42)).cell? ⟨w.heap.size, 1, none⟩ = some (.slice (some ⟨b, 0, none⟩) 1 1) := by simp
  have hp : pnt 0 1 = true := rfl
  clear B hb hc
  go_enter Try.func21, Try.ntmps21
  go_wp2_with fail
  refine (checkMap_any ⟨some ⟨c, 0, none⟩, 3, 3, f100⟩ _ _ _ HF.out).mono ?_
  rintro e w1 ⟨⟨r, rfl, hr⟩, rfl⟩
  obtain rfl : r = 0 := by
    rcases hr with ⟨_, h⟩ | ⟨_, ⟨_, h⟩ | ⟨h, _⟩⟩
    · exact absurd rfl h
    · exact absurd f100_in h
    · exact h
  clear hr HF
  go_wp2_with (go_at_call 17; refine (isPoint_any _ _ _).mono ?_; rintro e w' ⟨rfl, hww⟩; subst hww)
  go_loopw [25] (fun i wx => ∃ k : Nat, k ≤ 3 ∧ i = .int .i64 k ∧ Hid (Below w.heap.size w wx ∧ (wx.cell? ⟨w.heap.size, 0, none⟩ = some (.int .i64 1) ∧ wx.cell? ⟨w.heap.size, 1, none⟩ = some (.slice (some ⟨b, 0, none⟩) 1 1)))) (fun i _ => 3 - (intOf i).toNat)
  case atStart => exact ⟨0, Nat.zero_le _, rfl, HB.out, c0, c1⟩
  case round =>
    clear HB c0 c1
    obtain ⟨k, hk, rfl, HW⟩ := hrel
    by_cases hlt : k < 3
    · have d0 := HW.out.2.1
      have d1 := HW.out.2.2
      obtain ⟨s, hs, hcs⟩ : ∃ s : Nat, s < 2 ∧ wr.cell? ⟨c, k, none⟩ = some (.int .i64 (s : Nat)) := by
        obtain ⟨b2, o2, e2, h2⟩ := HR.out _ HW.out.1 k hlt
        cases e2
        rw [Nat.zero_add] at h2
        rw [h2]
        unfold f100
        split
        · exact ⟨1, by omega, rfl⟩
        · exact ⟨0, by omega, rfl⟩
      have HG : Hid _ := goesUp_one b s wr (by omega) (HC.out _ HW.out.1)
      go_wp2_with fail
      refine (Calls.mono HG.out) ?_
      rintro e w5 ⟨rfl, hb5⟩
      have HW5 : Hid _ := HO.out _ HW.out _ hb5
      clear hb5 HG HW d0 d1 hcs
      go_wp2_with fail
      go_roundw
      case rel => exact ⟨k + 1, by omega, by go_num, HW5.out⟩
      case measure => simp [intOf]; omega
    · obtain rfl : k = 3 := by omega
      go_wp2_with fail
      go_ret
      exact ⟨rfl, HW.out.1⟩
set_option maxHeartbeats 1000000 in
theorem value_var (c : Nat) (f : Value) (w : World) (hc : w.cell? ⟨c, 0, none⟩ = some (.int .i64 1)) :
    Calls Try.prog 16 #[f, .agg #[.int .i64 2, .int .i64 0, .slice none 0 0], .slice (some ⟨c, 0, none⟩) 3 3] w fun e w' => e = .returned (.int .i64 1) ∧ Below w.heap.size w w' := by
  have B : Below w.heap.size w (w.alloc (.cells #[.int .i64 2, .int .i64 0, .slice none 0 0] 27)) := (Below.refl _ _).alloc (Nat.le_refl _) _
  have HB : Hid (Below w.heap.size w (w.alloc (.cells #[.int .i64 2, .int .i64 0, .slice none 0 0] 27))) := B
  have d0 := cell_step B hc
  clear B hc
  go_enter Try.func16, Try.ntmps16
  go_wp2_with fail
  go_ret
  exact ⟨rfl, HB.out⟩
theorem chk_one {len : Nat} {f : Nat → Int} {c : Int} (h : Chk 1 len f c) (hl : len = 1) (hf : f 0 = 0) : c = 0 := by
  refine Chk.unique h (.inr ⟨1, rfl, by omega, .inr ⟨hl, .inr ⟨?_, .inr ⟨rfl, ?_⟩⟩⟩⟩)
  · intro k hk
    obtain rfl : k = 0 := by omega
    rw [hf]; exact ⟨Int.le_refl _, by decide⟩
  · intro u hu
    obtain rfl : u = 0 := by omega
    have e : nat f 0 = 0 := by unfold nat; rw [hf]; rfl
    refine ⟨by rw [e]; rfl, fun p _ h => ?_⟩
    rw [e] at h
    simp at h
end Go.Proofs.Ytfkkjebgccnlnaa
