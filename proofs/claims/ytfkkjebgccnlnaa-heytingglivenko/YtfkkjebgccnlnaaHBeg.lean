/-
  hasselaw.heytingBegun answers true. No condition.
-/
import Derived.Test.YtfkkjebgccnlnaaForP
import Derived.Test.YtfkkjebgccnlnaaRegP
namespace Go.Proofs.Ytfkkjebgccnlnaa
set_option maxRecDepth 100000
open Go.RowKit

/-- The two variables that Forces lays its order and its formula in. -/
def FB (w : World) (B b : Nat) : Prop := (w.cell? ⟨B, 0, none⟩ = some (.int .i64 1) ∧ w.cell? ⟨B, 1, none⟩ = some (.slice (some ⟨b, 0, none⟩) 1 1)) ∧ w.cell? ⟨B + 1, 0, none⟩ = some (.int .i64 2) ∧ w.cell? ⟨B + 1, 1, none⟩ = some (.int .i64 0) ∧ w.cell? ⟨B + 1, 2, none⟩ = some (.slice none 0 0)
theorem FB.step {w w' : World} {B b : Nat} (h : FB w B b) (hb : Below w.heap.size w w') : FB w' B b := ⟨⟨cell_step hb h.1.1, cell_step hb h.1.2⟩, cell_step hb h.2.1, cell_step hb h.2.2.1, cell_step hb h.2.2.2⟩
theorem row1 {w : World} {b : Nat} (h : w.cell? ⟨b, 0, none⟩ = some (.int .i64 0)) : Row w (some ⟨b, 0, none⟩) 1 (fun _ => 0) := fun k hk => by
  obtain rfl : k = 0 := by omega
  exact ⟨b, 0, rfl, h⟩
set_option maxHeartbeats 2000000 in
theorem forces_one (b c : Nat) (w : World) (hb : w.cell? ⟨b, 0, none⟩ = some (.int .i64 0)) (hc : Row w (some ⟨c, 0, none⟩) 3 f100) :
    Calls Try.prog 10 #[.agg #[.int .i64 1, .slice (some ⟨b, 0, none⟩) 1 1], .slice (some ⟨c, 0, none⟩) 3 3, .int .i64 0, .agg #[.int .i64 2, .int .i64 0, .slice none 0 0]] w fun e w' => e = .returned (.tuple #[.bool true, .int .i64 0]) ∧ Below w.heap.size w w' := by
  obtain ⟨W, hW⟩ : ∃ W, W = (w.alloc (.cells #[.int .i64 1, .slice (some ⟨b, 0, none⟩) 1 1] 42)).alloc (.cells #[.int .i64 2, .int .i64 0, .slice none 0 0] 27) := ⟨_, rfl⟩
  have B : Below w.heap.size w W := by rw [hW]; exact ((Below.refl _ _).alloc (Nat.le_refl _) _).alloc (by simp) _
  have HF : Hid (FB W w.heap.size b) := by rw [hW]; exact ⟨⟨by simp, by simp⟩, by simp, by simp, by simp⟩
  have HB : Hid (Below w.heap.size w W) := B
  have HW : Hid (W = (w.alloc (.cells #[.int .i64 1, .slice (some ⟨b, 0, none⟩) 1 1] 42)).alloc (.cells #[.int .i64 2, .int .i64 0, .slice none 0 0] 27)) := hW
  have HC : Hid (∀ wx, Below w.heap.size w wx → wx.cell? ⟨b, 0, none⟩ = some (.int .i64 0)) := fun wx h => cell_step h hb
  have HR : Hid (∀ wx, Below w.heap.size w wx → Row wx (some ⟨c, 0, none⟩) 3 f100) := fun wx h => hc.below h
  clear B hb hc hW
  go_enter Try.func10, Try.ntmps10
  go_wp2_with fail
  rw [← HW.out]
  clear HW
  refine (check_any 1 (some ⟨b, 0, none⟩) 1 1 (fun _ => 0) W (by unfold maxLen; omega) (row1 (HC.out _ HB.out))).mono ?_
  rintro e w1 ⟨⟨r, rfl, hr⟩, hb1⟩
  obtain rfl : r = 0 := chk_one hr rfl rfl
  have HB1 : Hid (Below w.heap.size w w1) := Below.then HB.out hb1
  have HF1 : Hid (FB w1 w.heap.size b) := HF.out.step hb1
  obtain ⟨⟨o0, o1⟩, p0, p1, p2⟩ := HF1.out
  clear hr hb1 HB HF
  go_wp2_with fail
  refine (hCheck_var _).mono ?_
  rintro e w2 ⟨rfl, hb2⟩
  have HB2 : Hid (Below w.heap.size w w2) := Below.then HB1.out hb2
  have HF2 : Hid (FB w2 w.heap.size b) := HF1.out.step hb2
  clear hb2 HB1 HF1 o0 o1 p0 p1 p2
  obtain ⟨⟨o0, o1⟩, p0, p1, p2⟩ := HF2.out
  go_wp2_with fail
  refine (checkSets_one b c _ (HC.out _ HB2.out) (HR.out _ HB2.out)).mono ?_
  rintro e w3 ⟨rfl, hb3⟩
  have HB3 : Hid (Below w.heap.size w w3) := Below.then HB2.out hb3
  have HF3 : Hid (FB w3 w.heap.size b) := HF2.out.step hb3
  clear hb3 HB2 HF2 o0 o1 p0 p1 p2
  obtain ⟨⟨o0, o1⟩, p0, p1, p2⟩ := HF3.out
  have HV : Hid (w3.cell? ⟨c, 0, none⟩ = some (.int .i64 1)) := by
    obtain ⟨b2, o2, e2, h2⟩ := HR.out _ HB3.out 0 (by omega)
    cases e2
    exact h2
  go_wp2_with fail
  refine (value_var c _ _ HV.out).mono ?_
  rintro e w4 ⟨rfl, hb4⟩
  have HB4 : Hid (Below w.heap.size w w4) := Below.then HB3.out hb4
  clear hb4 HB3 HF3 o0 o1 p0 p1 p2 HV
  go_wp2_with fail
  refine (has_any 1 0 _ (by omega) (by omega)).mono ?_
  rintro e w5 ⟨rfl, hw5⟩
  subst w5
  go_wp2_with fail
  go_ret2
  exact ⟨rfl, HB4.out⟩
theorem pair_la {x : Value} {w : World} (h : PairIs x w) : ∃ A : LA, A.v = x ∧ A.In w ∧ A.Ck 0 ∧ A.q = 2 ∧ A.n = 2 ∧ A.m = (fun x y => min x y) ∧ A.j = fun x y => max x y := by
  obtain ⟨b, b', R, R', rfl, h1, h2⟩ := h
  refine ⟨⟨2, some ⟨b, 0, none⟩, 2, 2, _, _, some ⟨b', 0, none⟩, 2, 2, _, _⟩, rfl, ⟨show 2 ≤ maxLen by unfold maxLen; omega, show 2 ≤ maxLen by unfold maxLen; omega, h1.rr (by unfold maxLen; omega), h2.rr (by unfold maxLen; omega)⟩, ?_, rfl, rfl, nat2_cast _, nat2_cast _⟩
  exact LCk.of (n := 2) (by omega) (by omega) (fun _ _ => rfl) (fun _ _ => rfl) lat2
theorem dis2 : All3 2 (disB (fun x y => min x y) (fun x y => max x y)) := by
  intro x y z hx hy hz
  rcases (by omega : x = 0 ∨ x = 1) with rfl | rfl <;> rcases (by omega : y = 0 ∨ y = 1) with rfl | rfl <;> rcases (by omega : z = 0 ∨ z = 1) with rfl | rfl <;> rfl
theorem pair_h {A : LA} (h0 : A.Ck 0) (hq : A.q = 2) (hm : A.m = fun x y => min x y) (hj : A.j = fun x y => max x y) : HCk A 0 := .inr ⟨h0, .inr ⟨rfl, by rw [hq, hm, hj]; exact dis2⟩⟩
theorem pair_i {A : LA} {x y v c : Int} (h0 : A.Ck 0) (hq : A.q = 2) (hn : A.n = 2) (hm : A.m = fun x y => min x y) (hj : A.j = fun x y => max x y) (hx : 0 ≤ x ∧ x < 2) (hy : 0 ≤ y ∧ y < 2) (h : IPost A x y v c) :
    c = 0 ∧ v = (imp 2 (fun x y => min x y) (fun x y => max x y) x.toNat y.toNat : Nat) := by
  have H := pair_h h0 hq hm hj
  have := h.one (.inr ⟨H, .inr ⟨rfl, ⟨by rw [hn]; exact hx, by rw [hn]; exact hy⟩, rfl⟩⟩)
  rw [hq, hm, hj] at this
  exact ⟨this.2, this.1⟩
theorem imp10 : imp 2 (fun x y => min x y) (fun x y => max x y) 1 0 = 0 := by decide
theorem imp00 : imp 2 (fun x y => min x y) (fun x y => max x y) 0 0 = 1 := by decide
theorem regs2 : (regs 2 (fun x y => min x y) (fun x y => max x y)).length = 2 := by decide
set_option maxHeartbeats 4000000 in
theorem heytingBegun_any (w : World) : Calls Try.prog 4 #[] w fun e w' => e = .returned (.bool true) ∧ Below w.heap.size w w' := by
  go_enter Try.func4, Try.ntmps4
  go_wp2_with fail
  refine (pair_any _).mono ?_
  rintro e w1 ⟨⟨x, rfl, hx⟩, hb1⟩
  obtain ⟨A, rfl, hA, cA, qA, nA, mA, jA⟩ := pair_la hx
  have HB1 : Hid (Below w.heap.size w w1) := hb1
  have HI : Hid _ := implies_any A 1 0 w1 hA
  have HP : Hid (∀ v c, IPost A 1 0 v c → c = 0 ∧ v = 0) := fun v c h => by
    have := pair_i cA qA nA mA jA (by decide) (by decide) h
    rw [show (1 : Int).toNat = 1 from rfl, show (0 : Int).toNat = 0 from rfl, imp10] at this
    exact this
  clear hx hA hb1 cA qA nA mA jA
  unfold LA.v
  go_wp2_with fail
  refine (Calls.mono HI.out) ?_
  rintro e w2 ⟨⟨v, c, hp, rfl⟩, hb2⟩
  obtain ⟨rfl, rfl⟩ := HP.out _ _ hp
  have HB2 : Hid (Below w.heap.size w w2) := Below.then HB1.out hb2
  clear hp hb2 HB1 HI HP
  go_wp2_with fail
  refine (pair_any _).mono ?_
  rintro e w3 ⟨⟨x, rfl, hx⟩, hb3⟩
  obtain ⟨A, rfl, hA, cA, qA, nA, mA, jA⟩ := pair_la hx
  have HB3 : Hid (Below w.heap.size w w3) := Below.then HB2.out hb3
  have HI : Hid _ := implies_any A 0 0 w3 hA
  have HP : Hid (∀ v c, IPost A 0 0 v c → c = 0 ∧ v = 1) := fun v c h => by
    have := pair_i cA qA nA mA jA (by decide) (by decide) h
    rw [show (0 : Int).toNat = 0 from rfl, imp00] at this
    exact this
  clear hx hA hb3 cA qA nA mA jA HB2
  unfold LA.v
  go_wp2_with fail
  refine (Calls.mono HI.out) ?_
  rintro e w4 ⟨⟨v, c, hp, rfl⟩, hb4⟩
  obtain ⟨rfl, rfl⟩ := HP.out _ _ hp
  have HB4 : Hid (Below w.heap.size w w4) := Below.then HB3.out hb4
  clear hp hb4 HB3 HI HP
  go_wp2_with fail
  refine (pair_any _).mono ?_
  rintro e w5 ⟨⟨x, rfl, hx⟩, hb5⟩
  obtain ⟨A, rfl, hA, cA, qA, nA, mA, jA⟩ := pair_la hx
  have HB5 : Hid (Below w.heap.size w w5) := Below.then HB4.out hb5
  have HI : Hid _ := regular_any A w5 hA
  have HP : Hid (∀ w v c, RPost A w v c → c = 0 ∧ ∃ a cap, v = .slice a 2 cap) := fun w v c h => by
    obtain rfl := h.1.one (pair_h cA qA mA jA)
    rcases h.2 with ⟨h, _⟩ | ⟨_, h⟩
    · exact absurd rfl h
    · rw [qA, mA, jA] at h
      obtain ⟨a, cap, e, _⟩ := h
      rw [regs2] at e
      exact ⟨rfl, a, cap, e⟩
  clear hx hA hb5 cA qA nA mA jA HB4
  unfold LA.v
  go_wp2_with fail
  refine (Calls.mono HI.out) ?_
  rintro e w6 ⟨⟨v, c, rfl, hp⟩, hb6⟩
  obtain ⟨rfl, a, cap, rfl⟩ := HP.out _ _ _ hp
  have HB6 : Hid (Below w.heap.size w w6) := Below.then HB5.out hb6
  clear hp hb6 HB5 HI HP
  obtain ⟨W, hW⟩ : ∃ W, W = (w6.alloc (.cells #[.int .i64 0] 3)).alloc (.cells #[.int .i64 1, .int .i64 0, .int .i64 0] 3) := ⟨_, rfl⟩
  have B7 : Below w6.heap.size w6 W := by rw [hW]; exact ((Below.refl _ _).alloc (Nat.le_refl _) _).alloc (by simp) _
  have HB7 : Hid (Below w.heap.size w W) := Below.then HB6.out B7
  have HFO : Hid _ := forces_one w6.heap.size (w6.heap.size + 1) W (by rw [hW]; simp) (fun k hk => ⟨_, _, rfl, by
    rw [hW]
    rcases (by omega : k = 0 ∨ k = 1 ∨ k = 2) with rfl | rfl | rfl <;> simp [f100]⟩)
  have HW : Hid (W = (w6.alloc (.cells #[.int .i64 0] 3)).alloc (.cells #[.int .i64 1, .int .i64 0, .int .i64 0] 3)) := hW
  clear B7 hW HB6
  go_wp2_with fail
  rw [← HW.out]
  refine (Calls.mono HFO.out) ?_
  rintro e w8 ⟨rfl, hb8⟩
  have HB8 : Hid (Below w.heap.size w w8) := Below.then HB7.out hb8
  clear hb8 HB7 HFO HW
  go_wp2_with fail
  go_ret
  exact ⟨rfl, HB8.out⟩
end Go.Proofs.Ytfkkjebgccnlnaa
