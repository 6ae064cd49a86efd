/-
  For every number of workers and every list of events hasselaw.ClockLamport returns true, and writes nothing that was there. Conditions: a slice that reads as a slice of events, and has room for them.
-/
import Derived.Test.YtomoodpgmkjacabClB
import Derived.Deep.RegionHeld3
import Derived.Deep.Cut
namespace Go.Proofs.Ytomoodpgmkjacab
set_option maxRecDepth 100000
open Go.RowKit

theorem less_as (n : Int) (a : Option Addr) (len cap : Nat) (g : Nat → Nat) (i j : Nat) (b : Bool) (w : World) (hb : (g j).testBit i = b) (hl : len ≤ 10) (hg : ∀ k, k < len → g k < 1024) (hr : Row w a len (fun k => (g k : Nat))) (hi : i < 63) (hj : j < len) :
    Calls Try.prog 8 #[.agg #[.int .i64 n, .slice a len cap], .int .i64 i, .int .i64 j] w fun e w' => e = .returned (.bool b) ∧ Below w.heap.size w w' := by
  rw [← hb]; exact less_any n a len cap g i j w hl hg hr hi hj
theorem tck_lt {E : Nat → Int × Int × Int} {n i k : Nat} (hn : n ≤ 10) (hk : k < n) (h : (ahd E n k).testBit i = true) : tck E n i < tck E n k := by
  have hi := ahd_lt hk h
  have := (ht_ge hn (ahd_sm E n) (ahd_ord hn) hk (ht (ahd E n) n i)).2 ⟨i, by omega, h, Nat.le_refl _⟩
  unfold tck
  omega
set_option maxHeartbeats 4000000 in
theorem clockLamport_any (Wk : Int) (a : Option Addr) (len cap : Nat) (E : Nat → Int × Int × Int) (w : World) (hl : len ≤ maxLen) (hc : len ≤ cap) (hr : ERow w a len E) :
    Calls Try.prog 3 #[.int .i64 Wk, .slice a len cap] w fun e w' => e = .returned (.bool true) ∧ Below w.heap.size w w' := by
  have HR : Hid (ERow w a len E) := hr
  have HL : Hid (len ≤ maxLen) := hl
  clear hr hl
  go_enter Try.func3, Try.ntmps3
  go_wp2_with fail
  refine (clockBegun_any _).mono ?_
  rintro e w0 ⟨rfl, hb0⟩
  have HB0 : Hid (Below w.heap.size w w0) := hb0
  clear hb0
  go_wp2_with fail
  refine (ahead_any Wk a len cap E _ HL.out hc (HR.out.below HB0.out)).mono ?_
  rintro e w1 ⟨⟨c, x, hck, rfl, hx⟩, hb1⟩
  have HB1 : Hid (Below w.heap.size w w1) := Below.then HB0.out hb1
  have HC : Hid (CkE Wk len E c) := hck
  clear hb1 hck HB0
  rcases hx with ⟨h0, rfl⟩ | ⟨rfl, b, hbs, rfl, hO⟩
  · have HB2 : Hid (∀ o, Below w.heap.size w (w1.alloc o)) := fun o => HB1.out.alloc HB1.out.size o
    unfold noOrder
    go_wp2_with fail
    refine (ticks_any Wk a len cap E _ HL.out hc (HR.out.below (HB2.out _))).mono ?_
    rintro e w2 ⟨⟨d, v, hd, rfl, hv⟩, hb2⟩
    obtain rfl : d = c := hd.unique HC.out
    have HB3 : Hid (Below w.heap.size w w2) := Below.then (HB2.out _) hb2
    have h0' : (d != 0) = true := by simpa using h0
    clear hb2 hd hv
    go_wp2_with fail
    go_ret
    exact ⟨rfl, HB3.out⟩
  · obtain ⟨⟨_, _, h10⟩, hev⟩ := HC.out.good
    clear hev
    have HSM : Hid (∀ k, k < len → ahd E len k < 1024) := fun k hk => Nat.lt_of_lt_of_le (ahd_sm E len k hk) (pw_le len h10)
    have bA := (Below.refl w1.heap.size w1).alloc (Nat.le_refl _) (.cells #[.int .i64 (len : Int), .slice (some ⟨b, 0, none⟩) len len] 26)
    obtain ⟨W, HW⟩ : ∃ W, Hid (w1.alloc (.cells #[.int .i64 (len : Int), .slice (some ⟨b, 0, none⟩) len len] 26) = W) := ⟨_, rfl⟩
    obtain ⟨X, HXE⟩ : ∃ X, Hid (w1.heap.size = X) := ⟨_, rfl⟩
    have HH : Hid (Held W X (len : Int) (some ⟨b, 0, none⟩) len len (fun k => (ahd E len k : Nat))) := by rw [← HW.out, ← HXE.out]; exact Held.box hO.row
    have HB2 : Hid (Below w.heap.size w W) := by rw [← HW.out]; exact Below.then HB1.out bA
    clear hO bA HB1
    go_upto_region 4 with fail
    rw [HW.out, HXE.out]
    clear HW HXE
    go_wp2_with fail
    refine (ticks_any Wk a len cap E _ HL.out hc (HR.out.below HB2.out)).mono ?_
    rintro e w2 ⟨⟨d, v, hd, rfl, hv⟩, hb2⟩
    obtain rfl : d = 0 := hd.unique HC.out
    have HB3 : Hid (Below w.heap.size w w2) := Below.then HB2.out hb2
    have HH2 : Hid (Held w2 X (len : Int) (some ⟨b, 0, none⟩) len len (fun k => (ahd E len k : Nat))) := HH.out.step hb2
    rcases hv with ⟨h, _⟩ | ⟨_, a2, cap2, hv2, hrow⟩
    · exact absurd rfl h
    rw [mapTo_len] at hv2 hrow
    subst hv2
    have HT2 : Hid (Row w2 a2 len (fun k => (tck E len k : Nat))) := fun k hk => by
      obtain ⟨b', o', e, h⟩ := hrow k hk
      exact ⟨b', o', e, by rw [h]; simp [nth, mapTo, hk]⟩
    clear hb2 hd hrow HH HB2
    go_wp2_with fail
    go_loopw [9] (fun t wx => ∃ i : Nat, i ≤ len ∧ t = .int .i64 i ∧ Hid (Below w2.heap.size w2 wx)) (fun t _ => len - (intOf t).toNat)
    case atStart => exact ⟨0, Nat.zero_le _, rfl, Below.refl _ _⟩
    case round =>
      obtain ⟨i, hi, rfl, hB⟩ := hrel
      by_cases hlt : i < len
      · have hlt' : (i : Int) < (len : Int) := by omega
        obtain ⟨bt, ot, rfl, hct⟩ := (HT2.out.below hB.out).at hlt
        have hci := hct i hlt
        have h1 : (0 : Int) < (tck E len i : Nat) := by unfold tck; omega
        clear hct
        go_wp2_with fail
        clear hci h1
        go_loopw [10] (fun t wx => ∃ k : Nat, k ≤ len ∧ t = .int .i64 k ∧ Hid (Below w2.heap.size w2 wx)) (fun t _ => len - (intOf t).toNat)
        case atStart => exact ⟨0, Nat.zero_le _, rfl, hB.out⟩
        case round =>
          obtain ⟨k, hk, rfl, hBy⟩ := hrel
          clear hB
          by_cases hkl : k < len
          · have hkl' : (k : Int) < (len : Int) := by omega
            have l0 : ∀ w', Below wr.heap.size wr w' → w'.cell? ⟨X, 0, none⟩ = some (.int .i64 (len : Int)) := fun w' h => (HH2.out.step (Below.then hBy.out h)).c0
            have l1 : ∀ w', Below wr.heap.size wr w' → w'.cell? ⟨X, 1, none⟩ = some (.slice (some ⟨b, 0, none⟩) len len) := fun w' h => (HH2.out.step (Below.then hBy.out h)).c1
            have HRW : Hid (∀ w', Below wr.heap.size wr w' → Row w' (some ⟨b, 0, none⟩) len (fun k => ((ahd E len k : Nat) : Int))) := fun w' h => (HH2.out.step (Below.then hBy.out h)).row
            have l2 : ∀ w', Below wr.heap.size wr w' → w'.cell? ⟨bt, ot + i, none⟩ = some (.int .i64 (tck E len i : Nat)) := fun w' h => by
              obtain ⟨_, _, e, hcc⟩ := (HT2.out.below (Below.then hBy.out h)) i hlt
              simp at e
              obtain ⟨rfl, rfl⟩ := e
              exact hcc
            have l3 : ∀ w', Below wr.heap.size wr w' → w'.cell? ⟨bt, ot + k, none⟩ = some (.int .i64 (tck E len k : Nat)) := fun w' h => by
              obtain ⟨_, _, e, hcc⟩ := (HT2.out.below (Below.then hBy.out h)) k hkl
              simp at e
              obtain ⟨rfl, rfl⟩ := e
              exact hcc
            rcases (Bool.eq_false_or_eq_true ((ahd E len k).testBit i)).symm with hv | hv
            · go_wp2_with fail
              refine wp_region_held_drew (S := (fun w' => Below wr.heap.size wr w')) (by kernel_rfl) ((Below.refl _ _).drew) (fun hHeld => ?_)
              refine wpAnyH_take (i := 0) (oi := { dst := some 56, op := Go.Op.load 26 (Go.Operand.tmp 5), type := 26, pos := "desk.go:126", after := #[], guard := none }) (v := ?_) rfl (by kernel_rfl) (by kernel_rfl) (by kernel_rfl) (fun _ _ _ h => h) (Or.inl ⟨by rfl, ?hy⟩) (by assumption) ?_
              case hy => (intro w9 hSw; (try dsimp only at hSw); go_simp; try with_reducible rfl)
              try simp only [Act.put, List.setIfInBounds_toArray, List.set_cons_zero, List.set_cons_succ]
              refine wpAnyH_take (i := 1) (oi := { dst := some 57, op := Go.Op.move (Go.Operand.tmp 9), type := 3, pos := "desk.go:126", after := #[], guard := none }) (v := ?_) rfl (by kernel_rfl) (by kernel_rfl) (by kernel_rfl) (fun _ _ _ h => h) (Or.inl ⟨by rfl, ?hy⟩) (by assumption) ?_
              case hy => (intro w9 hSw; (try dsimp only at hSw); go_simp; try with_reducible rfl)
              try simp only [Act.put, List.setIfInBounds_toArray, List.set_cons_zero, List.set_cons_succ]
              refine wpAnyH_take (i := 2) (oi := { dst := some 58, op := Go.Op.move (Go.Operand.tmp 10), type := 3, pos := "desk.go:126", after := #[], guard := none }) (v := ?_) rfl (by kernel_rfl) (by kernel_rfl) (by kernel_rfl) (fun _ _ _ h => h) (Or.inl ⟨by rfl, ?hy⟩) (by assumption) ?_
              case hy => (intro w9 hSw; (try dsimp only at hSw); go_simp; try with_reducible rfl)
              try simp only [Act.put, List.setIfInBounds_toArray, List.set_cons_zero, List.set_cons_succ]
              refine wpAnyH_ready (rs := [3]) (by kernel_rfl) (by simp) ?_
              refine AllReadyH.cons (o := { dst := some 59, op := Go.Op.call { callee := Go.Callee.value (Go.Operand.func 8), args := #[Go.Operand.tmp 56, Go.Operand.tmp 57, Go.Operand.tmp 58], argTypes := #[26, 3, 3] }, type := 4, pos := "desk.go:126", after := #[{ on := 0, ground := Go.Ground.data }, { on := 1, ground := Go.Ground.data }, { on := 2, ground := Go.Ground.data }], guard := none }) rfl (fun K hK => ?_) AllReadyH.nil
              go_simp
              refine (less_as (len : Int) (some ⟨b, 0, none⟩) len len (ahd E len) i k false _ hv h10 HSM.out (HRW.out _ (by assumption)) (by omega) hkl).mono ?_
              rintro e w5 ⟨rfl, hb5⟩
              refine hK.out _ _ ?_ (fun hHeld => ?_)
              · first | assumption | exact Below.then (by assumption) (by assumption)
              clear hK K
              try simp only [Act.put, List.setIfInBounds_toArray, List.set_cons_zero, List.set_cons_succ]
              refine wpAnyH_take (i := 4) (oi := { dst := some 60, op := Go.Op.move (Go.Operand.tmp 59), type := 4, pos := "desk.go:126", after := #[{ on := 3, ground := Go.Ground.data }, { on := 3, ground := Go.Ground.chain }], guard := none }) (v := ?_) rfl (by kernel_rfl) (by kernel_rfl) (by kernel_rfl) (fun _ _ _ h => h) (Or.inl ⟨by rfl, ?hy⟩) (by assumption) ?_
              case hy => (intro w9 hSw; (try dsimp only at hSw); go_simp; try with_reducible rfl)
              try simp only [Act.put, List.setIfInBounds_toArray, List.set_cons_zero, List.set_cons_succ]
              refine wpAnyH_take (i := 5) (oi := { dst := some 61, op := Go.Op.move (Go.Operand.tmp 7), type := 24, pos := "desk.go:126", after := #[{ on := 4, ground := Go.Ground.guard }], guard := some (4, true) }) (v := undef) rfl (by kernel_rfl) (by kernel_rfl) (by kernel_rfl) (fun _ _ _ h => h) (Or.inr ⟨by rfl, rfl⟩) (by assumption) ?_
              try simp only [Act.put, List.setIfInBounds_toArray, List.set_cons_zero, List.set_cons_succ]
              refine wpAnyH_take (i := 6) (oi := { dst := some 62, op := Go.Op.move (Go.Operand.tmp 9), type := 3, pos := "desk.go:126", after := #[{ on := 4, ground := Go.Ground.guard }], guard := some (4, true) }) (v := undef) rfl (by kernel_rfl) (by kernel_rfl) (by kernel_rfl) (fun _ _ _ h => h) (Or.inr ⟨by rfl, rfl⟩) (by assumption) ?_
              try simp only [Act.put, List.setIfInBounds_toArray, List.set_cons_zero, List.set_cons_succ]
              refine wpAnyH_take (i := 7) (oi := { dst := some 63, op := Go.Op.indexAddr 24 (Go.Operand.tmp 61) (Go.Operand.tmp 62), type := 0, pos := "desk.go:126", after := #[{ on := 5, ground := Go.Ground.data }, { on := 6, ground := Go.Ground.data }, { on := 4, ground := Go.Ground.guard }], guard := some (4, true) }) (v := undef) rfl (by kernel_rfl) (by kernel_rfl) (by kernel_rfl) (fun _ _ _ h => h) (Or.inr ⟨by rfl, rfl⟩) (by assumption) ?_
              try simp only [Act.put, List.setIfInBounds_toArray, List.set_cons_zero, List.set_cons_succ]
              refine wpAnyH_take (i := 8) (oi := { dst := some 64, op := Go.Op.load 3 (Go.Operand.tmp 63), type := 3, pos := "desk.go:126", after := #[{ on := 7, ground := Go.Ground.data }, { on := 4, ground := Go.Ground.guard }], guard := some (4, true) }) (v := undef) rfl (by kernel_rfl) (by kernel_rfl) (by kernel_rfl) (fun _ _ _ h => h) (Or.inr ⟨by rfl, rfl⟩) (by assumption) ?_
              try simp only [Act.put, List.setIfInBounds_toArray, List.set_cons_zero, List.set_cons_succ]
              refine wpAnyH_take (i := 9) (oi := { dst := some 65, op := Go.Op.move (Go.Operand.tmp 7), type := 24, pos := "desk.go:126", after := #[{ on := 4, ground := Go.Ground.guard }], guard := some (4, true) }) (v := undef) rfl (by kernel_rfl) (by kernel_rfl) (by kernel_rfl) (fun _ _ _ h => h) (Or.inr ⟨by rfl, rfl⟩) (by assumption) ?_
              try simp only [Act.put, List.setIfInBounds_toArray, List.set_cons_zero, List.set_cons_succ]
              refine wpAnyH_take (i := 10) (oi := { dst := some 66, op := Go.Op.move (Go.Operand.tmp 10), type := 3, pos := "desk.go:126", after := #[{ on := 4, ground := Go.Ground.guard }], guard := some (4, true) }) (v := undef) rfl (by kernel_rfl) (by kernel_rfl) (by kernel_rfl) (fun _ _ _ h => h) (Or.inr ⟨by rfl, rfl⟩) (by assumption) ?_
              try simp only [Act.put, List.setIfInBounds_toArray, List.set_cons_zero, List.set_cons_succ]
              refine wpAnyH_take (i := 11) (oi := { dst := some 67, op := Go.Op.indexAddr 24 (Go.Operand.tmp 65) (Go.Operand.tmp 66), type := 0, pos := "desk.go:126", after := #[{ on := 9, ground := Go.Ground.data }, { on := 10, ground := Go.Ground.data }, { on := 4, ground := Go.Ground.guard }], guard := some (4, true) }) (v := undef) rfl (by kernel_rfl) (by kernel_rfl) (by kernel_rfl) (fun _ _ _ h => h) (Or.inr ⟨by rfl, rfl⟩) (by assumption) ?_
              try simp only [Act.put, List.setIfInBounds_toArray, List.set_cons_zero, List.set_cons_succ]
              refine wpAnyH_take (i := 12) (oi := { dst := some 68, op := Go.Op.load 3 (Go.Operand.tmp 67), type := 3, pos := "desk.go:126", after := #[{ on := 11, ground := Go.Ground.data }, { on := 4, ground := Go.Ground.guard }], guard := some (4, true) }) (v := undef) rfl (by kernel_rfl) (by kernel_rfl) (by kernel_rfl) (fun _ _ _ h => h) (Or.inr ⟨by rfl, rfl⟩) (by assumption) ?_
              try simp only [Act.put, List.setIfInBounds_toArray, List.set_cons_zero, List.set_cons_succ]
              refine wpAnyH_take (i := 13) (oi := { dst := some 69, op := Go.Op.binOp Go.BinOp.geq 3 (Go.Operand.tmp 64) (Go.Operand.tmp 68) 3, type := 4, pos := "desk.go:126", after := #[{ on := 8, ground := Go.Ground.data }, { on := 12, ground := Go.Ground.data }, { on := 4, ground := Go.Ground.guard }], guard := some (4, true) }) (v := undef) rfl (by kernel_rfl) (by kernel_rfl) (by kernel_rfl) (fun _ _ _ h => h) (Or.inr ⟨by rfl, rfl⟩) (by assumption) ?_
              try simp only [Act.put, List.setIfInBounds_toArray, List.set_cons_zero, List.set_cons_succ]
              refine wpAnyH_take (i := 14) (oi := { dst := some 70, op := Go.Op.pick (Go.Operand.tmp 60) (Go.Operand.tmp 69) (Go.Operand.const (Go.Value.bool false)), type := 4, pos := "desk.go:126", after := #[{ on := 4, ground := Go.Ground.data }, { on := 13, ground := Go.Ground.data }], guard := none }) (v := ?_) rfl (by kernel_rfl) (by kernel_rfl) (by kernel_rfl) (fun _ _ _ h => h) (Or.inl ⟨by rfl, ?hy⟩) (by assumption) ?_
              case hy => (intro w9 hSw; (try dsimp only at hSw); go_simp; try with_reducible rfl)
              try simp only [Act.put, List.setIfInBounds_toArray, List.set_cons_zero, List.set_cons_succ]
              refine wpAnyH_done (by kernel_rfl) ?_ _
              try simp only [Act.put, List.setIfInBounds_toArray, List.set_cons_zero, List.set_cons_succ]
              have HB5 : Hid (Below w2.heap.size w2 w5) := Below.then hBy.out (by assumption)
              clear hBy hb5 l0 l1 l2 l3 HRW
              go_wp2_with fail
              go_roundw
              case rel => exact ⟨k + 1, by omega, by go_num, HB5.out⟩
              case measure => simp [intOf]; omega
            · have hgt : ¬ ((tck E len k : Nat) : Int) ≤ ((tck E len i : Nat) : Int) := by have := tck_lt h10 hkl hv; omega
              go_wp2_with fail
              refine wp_region_held_drew (S := (fun w' => Below wr.heap.size wr w')) (by kernel_rfl) ((Below.refl _ _).drew) (fun hHeld => ?_)
              refine wpAnyH_take (i := 0) (oi := { dst := some 56, op := Go.Op.load 26 (Go.Operand.tmp 5), type := 26, pos := "desk.go:126", after := #[], guard := none }) (v := ?_) rfl (by kernel_rfl) (by kernel_rfl) (by kernel_rfl) (fun _ _ _ h => h) (Or.inl ⟨by rfl, ?hy⟩) (by assumption) ?_
              case hy => (intro w9 hSw; (try dsimp only at hSw); go_simp; try with_reducible rfl)
              try simp only [Act.put, List.setIfInBounds_toArray, List.set_cons_zero, List.set_cons_succ]
              refine wpAnyH_take (i := 1) (oi := { dst := some 57, op := Go.Op.move (Go.Operand.tmp 9), type := 3, pos := "desk.go:126", after := #[], guard := none }) (v := ?_) rfl (by kernel_rfl) (by kernel_rfl) (by kernel_rfl) (fun _ _ _ h => h) (Or.inl ⟨by rfl, ?hy⟩) (by assumption) ?_
              case hy => (intro w9 hSw; (try dsimp only at hSw); go_simp; try with_reducible rfl)
              try simp only [Act.put, List.setIfInBounds_toArray, List.set_cons_zero, List.set_cons_succ]
              refine wpAnyH_take (i := 2) (oi := { dst := some 58, op := Go.Op.move (Go.Operand.tmp 10), type := 3, pos := "desk.go:126", after := #[], guard := none }) (v := ?_) rfl (by kernel_rfl) (by kernel_rfl) (by kernel_rfl) (fun _ _ _ h => h) (Or.inl ⟨by rfl, ?hy⟩) (by assumption) ?_
              case hy => (intro w9 hSw; (try dsimp only at hSw); go_simp; try with_reducible rfl)
              try simp only [Act.put, List.setIfInBounds_toArray, List.set_cons_zero, List.set_cons_succ]
              refine wpAnyH_ready (rs := [3]) (by kernel_rfl) (by simp) ?_
              refine AllReadyH.cons (o := { dst := some 59, op := Go.Op.call { callee := Go.Callee.value (Go.Operand.func 8), args := #[Go.Operand.tmp 56, Go.Operand.tmp 57, Go.Operand.tmp 58], argTypes := #[26, 3, 3] }, type := 4, pos := "desk.go:126", after := #[{ on := 0, ground := Go.Ground.data }, { on := 1, ground := Go.Ground.data }, { on := 2, ground := Go.Ground.data }], guard := none }) rfl (fun K hK => ?_) AllReadyH.nil
              go_simp
              refine (less_as (len : Int) (some ⟨b, 0, none⟩) len len (ahd E len) i k true _ hv h10 HSM.out (HRW.out _ (by assumption)) (by omega) hkl).mono ?_
              rintro e w5 ⟨rfl, hb5⟩
              refine hK.out _ _ ?_ (fun hHeld => ?_)
              · first | assumption | exact Below.then (by assumption) (by assumption)
              clear hK K
              try simp only [Act.put, List.setIfInBounds_toArray, List.set_cons_zero, List.set_cons_succ]
              refine wpAnyH_take (i := 4) (oi := { dst := some 60, op := Go.Op.move (Go.Operand.tmp 59), type := 4, pos := "desk.go:126", after := #[{ on := 3, ground := Go.Ground.data }, { on := 3, ground := Go.Ground.chain }], guard := none }) (v := ?_) rfl (by kernel_rfl) (by kernel_rfl) (by kernel_rfl) (fun _ _ _ h => h) (Or.inl ⟨by rfl, ?hy⟩) (by assumption) ?_
              case hy => (intro w9 hSw; (try dsimp only at hSw); go_simp; try with_reducible rfl)
              try simp only [Act.put, List.setIfInBounds_toArray, List.set_cons_zero, List.set_cons_succ]
              refine wpAnyH_take (i := 5) (oi := { dst := some 61, op := Go.Op.move (Go.Operand.tmp 7), type := 24, pos := "desk.go:126", after := #[{ on := 4, ground := Go.Ground.guard }], guard := some (4, true) }) (v := ?_) rfl (by kernel_rfl) (by kernel_rfl) (by kernel_rfl) (fun _ _ _ h => h) (Or.inl ⟨by rfl, ?hy⟩) (by assumption) ?_
              case hy => (intro w9 hSw; (try dsimp only at hSw); go_simp; try with_reducible rfl)
              try simp only [Act.put, List.setIfInBounds_toArray, List.set_cons_zero, List.set_cons_succ]
              refine wpAnyH_take (i := 6) (oi := { dst := some 62, op := Go.Op.move (Go.Operand.tmp 9), type := 3, pos := "desk.go:126", after := #[{ on := 4, ground := Go.Ground.guard }], guard := some (4, true) }) (v := ?_) rfl (by kernel_rfl) (by kernel_rfl) (by kernel_rfl) (fun _ _ _ h => h) (Or.inl ⟨by rfl, ?hy⟩) (by assumption) ?_
              case hy => (intro w9 hSw; (try dsimp only at hSw); go_simp; try with_reducible rfl)
              try simp only [Act.put, List.setIfInBounds_toArray, List.set_cons_zero, List.set_cons_succ]
              refine wpAnyH_take (i := 7) (oi := { dst := some 63, op := Go.Op.indexAddr 24 (Go.Operand.tmp 61) (Go.Operand.tmp 62), type := 0, pos := "desk.go:126", after := #[{ on := 5, ground := Go.Ground.data }, { on := 6, ground := Go.Ground.data }, { on := 4, ground := Go.Ground.guard }], guard := some (4, true) }) (v := ?_) rfl (by kernel_rfl) (by kernel_rfl) (by kernel_rfl) (fun _ _ _ h => h) (Or.inl ⟨by rfl, ?hy⟩) (by assumption) ?_
              case hy => (intro w9 hSw; (try dsimp only at hSw); go_simp; try with_reducible rfl)
              try simp only [Act.put, List.setIfInBounds_toArray, List.set_cons_zero, List.set_cons_succ]
              refine wpAnyH_take (i := 8) (oi := { dst := some 64, op := Go.Op.load 3 (Go.Operand.tmp 63), type := 3, pos := "desk.go:126", after := #[{ on := 7, ground := Go.Ground.data }, { on := 4, ground := Go.Ground.guard }], guard := some (4, true) }) (v := ?_) rfl (by kernel_rfl) (by kernel_rfl) (by kernel_rfl) (fun _ _ _ h => h) (Or.inl ⟨by rfl, ?hy⟩) (by assumption) ?_
              case hy => (intro w9 hSw; (try dsimp only at hSw); go_simp; try with_reducible rfl)
              try simp only [Act.put, List.setIfInBounds_toArray, List.set_cons_zero, List.set_cons_succ]
              refine wpAnyH_take (i := 9) (oi := { dst := some 65, op := Go.Op.move (Go.Operand.tmp 7), type := 24, pos := "desk.go:126", after := #[{ on := 4, ground := Go.Ground.guard }], guard := some (4, true) }) (v := ?_) rfl (by kernel_rfl) (by kernel_rfl) (by kernel_rfl) (fun _ _ _ h => h) (Or.inl ⟨by rfl, ?hy⟩) (by assumption) ?_
              case hy => (intro w9 hSw; (try dsimp only at hSw); go_simp; try with_reducible rfl)
              try simp only [Act.put, List.setIfInBounds_toArray, List.set_cons_zero, List.set_cons_succ]
              refine wpAnyH_take (i := 10) (oi := { dst := some 66, op := Go.Op.move (Go.Operand.tmp 10), type := 3, pos := "desk.go:126", after := #[{ on := 4, ground := Go.Ground.guard }], guard := some (4, true) }) (v := ?_) rfl (by kernel_rfl) (by kernel_rfl) (by kernel_rfl) (fun _ _ _ h => h) (Or.inl ⟨by rfl, ?hy⟩) (by assumption) ?_
              case hy => (intro w9 hSw; (try dsimp only at hSw); go_simp; try with_reducible rfl)
              try simp only [Act.put, List.setIfInBounds_toArray, List.set_cons_zero, List.set_cons_succ]
              refine wpAnyH_take (i := 11) (oi := { dst := some 67, op := Go.Op.indexAddr 24 (Go.Operand.tmp 65) (Go.Operand.tmp 66), type := 0, pos := "desk.go:126", after := #[{ on := 9, ground := Go.Ground.data }, { on := 10, ground := Go.Ground.data }, { on := 4, ground := Go.Ground.guard }], guard := some (4, true) }) (v := ?_) rfl (by kernel_rfl) (by kernel_rfl) (by kernel_rfl) (fun _ _ _ h => h) (Or.inl ⟨by rfl, ?hy⟩) (by assumption) ?_
              case hy => (intro w9 hSw; (try dsimp only at hSw); go_simp; try with_reducible rfl)
              try simp only [Act.put, List.setIfInBounds_toArray, List.set_cons_zero, List.set_cons_succ]
              refine wpAnyH_take (i := 12) (oi := { dst := some 68, op := Go.Op.load 3 (Go.Operand.tmp 67), type := 3, pos := "desk.go:126", after := #[{ on := 11, ground := Go.Ground.data }, { on := 4, ground := Go.Ground.guard }], guard := some (4, true) }) (v := ?_) rfl (by kernel_rfl) (by kernel_rfl) (by kernel_rfl) (fun _ _ _ h => h) (Or.inl ⟨by rfl, ?hy⟩) (by assumption) ?_
              case hy => (intro w9 hSw; (try dsimp only at hSw); go_simp; try with_reducible rfl)
              try simp only [Act.put, List.setIfInBounds_toArray, List.set_cons_zero, List.set_cons_succ]
              refine wpAnyH_take (i := 13) (oi := { dst := some 69, op := Go.Op.binOp Go.BinOp.geq 3 (Go.Operand.tmp 64) (Go.Operand.tmp 68) 3, type := 4, pos := "desk.go:126", after := #[{ on := 8, ground := Go.Ground.data }, { on := 12, ground := Go.Ground.data }, { on := 4, ground := Go.Ground.guard }], guard := some (4, true) }) (v := ?_) rfl (by kernel_rfl) (by kernel_rfl) (by kernel_rfl) (fun _ _ _ h => h) (Or.inl ⟨by rfl, ?hy⟩) (by assumption) ?_
              case hy => (intro w9 hSw; (try dsimp only at hSw); go_simp; try with_reducible rfl)
              try simp only [Act.put, List.setIfInBounds_toArray, List.set_cons_zero, List.set_cons_succ]
              refine wpAnyH_take (i := 14) (oi := { dst := some 70, op := Go.Op.pick (Go.Operand.tmp 60) (Go.Operand.tmp 69) (Go.Operand.const (Go.Value.bool false)), type := 4, pos := "desk.go:126", after := #[{ on := 4, ground := Go.Ground.data }, { on := 13, ground := Go.Ground.data }], guard := none }) (v := ?_) rfl (by kernel_rfl) (by kernel_rfl) (by kernel_rfl) (fun _ _ _ h => h) (Or.inl ⟨by rfl, ?hy⟩) (by assumption) ?_
              case hy => (intro w9 hSw; (try dsimp only at hSw); go_simp; try with_reducible rfl)
              try simp only [Act.put, List.setIfInBounds_toArray, List.set_cons_zero, List.set_cons_succ]
              refine wpAnyH_done (by kernel_rfl) ?_ _
              try simp only [Act.put, List.setIfInBounds_toArray, List.set_cons_zero, List.set_cons_succ]
              have HB5 : Hid (Below w2.heap.size w2 w5) := Below.then hBy.out (by assumption)
              clear hBy hb5 l0 l1 l2 l3 HRW
              go_wp2_with fail
              go_roundw
              case rel => exact ⟨k + 1, by omega, by go_num, HB5.out⟩
              case measure => simp [intOf]; omega
          · obtain rfl : k = len := by omega
            go_wp2_with fail
            go_roundw
            case rel => exact ⟨i + 1, by omega, by go_num, hBy.out⟩
            case measure => simp [intOf]; omega
      · obtain rfl : i = len := by omega
        have HBE : Hid (Below w.heap.size w wr) := Below.then HB3.out hB.out
        go_wp2_with fail
        go_ret
        exact ⟨rfl, HBE.out⟩
end Go.Proofs.Ytomoodpgmkjacab
