/-
  For every number of workers and every list of events hasselaw.ClockCounts returns true, and writes nothing that was there. Conditions: a slice that reads as a slice of events, and has room for them; the table of the least bits.
-/
import Derived.Test.YtomoodpgmkjacaaDoorCtR
import Derived.Test.YtomoodpgmkjacaaDoorClE
namespace Go.Proofs.YtomoodpgmkjacaaDoor
set_option maxRecDepth 100000
open Go.RowKit

set_option maxHeartbeats 2000000 in
theorem listsAre_ok (a b : Option Addr) (m ca cb : Nat) (S1 S2 : Nat → Option Addr × Nat × Nat) (F1 F2 : Nat → Nat → Int) (w : World) (hm : m ≤ maxLen) (h1 : RR w a m S1 F1) (h2 : RR w b m S2 F2) (hs : ∀ k, k < m → SameRows (S1 k).2.1 (S2 k).2.1 (F1 k) (F2 k)) :
    Calls Tryd.prog 8 #[.slice a m ca, .int .i64 0, .int .i64 0, .slice b m cb] w fun e w' => e = .returned (.bool true) ∧ Below w.heap.size w w' := by
  unfold maxLen at hm
  have H1 : Hid (RR w a m S1 F1) := h1
  have H2 : Hid (RR w b m S2 F2) := h2
  have HS : Hid (∀ k, k < m → SameRows (S1 k).2.1 (S2 k).2.1 (F1 k) (F2 k)) := hs
  clear h1 h2 hs
  go_enter Tryd.func8, Tryd.ntmps8
  go_wp2_with fail
  go_loopw [9] (fun t wx => ∃ k : Nat, k ≤ m ∧ t = .int .i64 k ∧ Hid (Below w.heap.size w wx)) (fun t _ => m - (intOf t).toNat)
  case atStart => exact ⟨0, Nat.zero_le _, rfl, Below.refl _ _⟩
  case round =>
    obtain ⟨k, hk, rfl, hB⟩ := hrel
    by_cases hlt : k < m
    · have hlt' : (k : Int) < (m : Int) := by omega
      obtain ⟨b1, o1, rfl, c1, l1, r1⟩ := (H1.out.below hB.out) k hlt
      obtain ⟨b2, o2, rfl, c2, l2, r2⟩ := (H2.out.below hB.out) k hlt
      have HLa : Hid ((S1 k).2.1 ≤ maxLen) := l1
      have HLb : Hid ((S2 k).2.1 ≤ maxLen) := l2
      have HRa : Hid (∀ w', Below wr.heap.size wr w' → Row w' (S1 k).1 (S1 k).2.1 (F1 k)) := fun w' h => r1.below h
      have HRb : Hid (∀ w', Below wr.heap.size wr w' → Row w' (S2 k).1 (S2 k).2.1 (F2 k)) := fun w' h => r2.below h
      have HSS : Hid (SameRows (S1 k).2.1 (S2 k).2.1 (F1 k) (F2 k)) := HS.out k hlt
      have e0 : ∀ w', Below wr.heap.size wr w' → w'.cell? ⟨b1, o1 + k, none⟩ = some (.slice (S1 k).1 (S1 k).2.1 (S1 k).2.2) := fun w' h => cell_step h c1
      have e1 : ∀ w', Below wr.heap.size wr w' → w'.cell? ⟨b2, o2 + k, none⟩ = some (.slice (S2 k).1 (S2 k).2.1 (S2 k).2.2) := fun w' h => cell_step h c2
      clear c1 c2 l1 l2 r1 r2
      go_wp2_with fail
      refine wp_region_held_drew (S := (fun w' => Below wr.heap.size wr w')) (by kernel_rfl) ((Below.refl _ _).drew) (fun hHeld => ?_)
      refine wpAnyH_take (i := 0) (oi := { dst := some 28, op := Go.Op.move (Go.Operand.tmp 0), type := 23, pos := "all.go:61", after := #[], guard := none }) (v := ?_) rfl (by kernel_rfl) (by kernel_rfl) (by kernel_rfl) (fun _ _ _ h => h) (Or.inl ⟨by rfl, ?hy⟩) (by assumption) ?_
      case hy => (intro w9 hSw; (try dsimp only at hSw); go_simp; try with_reducible rfl)
      try simp only [Act.put, List.setIfInBounds_toArray, List.set_cons_zero, List.set_cons_succ]
      refine wpAnyH_take (i := 1) (oi := { dst := some 29, op := Go.Op.move (Go.Operand.tmp 9), type := 3, pos := "all.go:61", after := #[], guard := none }) (v := ?_) rfl (by kernel_rfl) (by kernel_rfl) (by kernel_rfl) (fun _ _ _ h => h) (Or.inl ⟨by rfl, ?hy⟩) (by assumption) ?_
      case hy => (intro w9 hSw; (try dsimp only at hSw); go_simp; try with_reducible rfl)
      try simp only [Act.put, List.setIfInBounds_toArray, List.set_cons_zero, List.set_cons_succ]
      refine wpAnyH_take (i := 2) (oi := { dst := some 30, op := Go.Op.indexAddr 23 (Go.Operand.tmp 28) (Go.Operand.tmp 29), type := 0, pos := "all.go:61", after := #[{ on := 0, ground := Go.Ground.data }, { on := 1, ground := Go.Ground.data }], guard := none }) (v := ?_) rfl (by kernel_rfl) (by kernel_rfl) (by kernel_rfl) (fun _ _ _ h => h) (Or.inl ⟨by rfl, ?hy⟩) (by assumption) ?_
      case hy => (intro w9 hSw; (try dsimp only at hSw); go_simp; try with_reducible rfl)
      try simp only [Act.put, List.setIfInBounds_toArray, List.set_cons_zero, List.set_cons_succ]
      refine wpAnyH_take (i := 3) (oi := { dst := some 31, op := Go.Op.load 32 (Go.Operand.tmp 30), type := 32, pos := "all.go:61", after := #[{ on := 2, ground := Go.Ground.data }], guard := none }) (v := ?_) rfl (by kernel_rfl) (by kernel_rfl) (by kernel_rfl) (fun _ _ _ h => h) (Or.inl ⟨by rfl, ?hy⟩) (by assumption) ?_
      case hy => (intro w9 hSw; (try dsimp only at hSw); go_simp; try with_reducible rfl)
      try simp only [Act.put, List.setIfInBounds_toArray, List.set_cons_zero, List.set_cons_succ]
      refine wpAnyH_take (i := 4) (oi := { dst := some 32, op := Go.Op.move (Go.Operand.tmp 3), type := 23, pos := "all.go:61", after := #[], guard := none }) (v := ?_) rfl (by kernel_rfl) (by kernel_rfl) (by kernel_rfl) (fun _ _ _ h => h) (Or.inl ⟨by rfl, ?hy⟩) (by assumption) ?_
      case hy => (intro w9 hSw; (try dsimp only at hSw); go_simp; try with_reducible rfl)
      try simp only [Act.put, List.setIfInBounds_toArray, List.set_cons_zero, List.set_cons_succ]
      refine wpAnyH_take (i := 5) (oi := { dst := some 33, op := Go.Op.move (Go.Operand.tmp 9), type := 3, pos := "all.go:61", after := #[], guard := none }) (v := ?_) rfl (by kernel_rfl) (by kernel_rfl) (by kernel_rfl) (fun _ _ _ h => h) (Or.inl ⟨by rfl, ?hy⟩) (by assumption) ?_
      case hy => (intro w9 hSw; (try dsimp only at hSw); go_simp; try with_reducible rfl)
      try simp only [Act.put, List.setIfInBounds_toArray, List.set_cons_zero, List.set_cons_succ]
      refine wpAnyH_take (i := 6) (oi := { dst := some 34, op := Go.Op.indexAddr 23 (Go.Operand.tmp 32) (Go.Operand.tmp 33), type := 0, pos := "all.go:61", after := #[{ on := 4, ground := Go.Ground.data }, { on := 5, ground := Go.Ground.data }], guard := none }) (v := ?_) rfl (by kernel_rfl) (by kernel_rfl) (by kernel_rfl) (fun _ _ _ h => h) (Or.inl ⟨by rfl, ?hy⟩) (by assumption) ?_
      case hy => (intro w9 hSw; (try dsimp only at hSw); go_simp; try with_reducible rfl)
      try simp only [Act.put, List.setIfInBounds_toArray, List.set_cons_zero, List.set_cons_succ]
      refine wpAnyH_take (i := 7) (oi := { dst := some 35, op := Go.Op.load 32 (Go.Operand.tmp 34), type := 32, pos := "all.go:61", after := #[{ on := 6, ground := Go.Ground.data }], guard := none }) (v := ?_) rfl (by kernel_rfl) (by kernel_rfl) (by kernel_rfl) (fun _ _ _ h => h) (Or.inl ⟨by rfl, ?hy⟩) (by assumption) ?_
      case hy => (intro w9 hSw; (try dsimp only at hSw); go_simp; try with_reducible rfl)
      try simp only [Act.put, List.setIfInBounds_toArray, List.set_cons_zero, List.set_cons_succ]
      refine wpAnyH_ready (rs := [8]) (by kernel_rfl) (by simp) ?_
      refine AllReadyH.cons (o := { dst := some 36, op := Go.Op.call { callee := Go.Callee.value (Go.Operand.func 16), args := #[Go.Operand.tmp 31, Go.Operand.tmp 35], argTypes := #[32, 32] }, type := 4, pos := "all.go:61", after := #[{ on := 3, ground := Go.Ground.data }, { on := 7, ground := Go.Ground.data }], guard := none }) rfl (fun K hK => ?_) AllReadyH.nil
      go_simp
      refine (same_any (S1 k).1 (S2 k).1 (S1 k).2.1 (S1 k).2.2 (S2 k).2.1 (S2 k).2.2 _ _ _ HLa.out HLb.out (HRa.out _ (by assumption)) (HRb.out _ (by assumption))).mono ?_
      rintro e w5 ⟨⟨vb, rfl, hvb⟩, hb5⟩
      obtain rfl : vb = true := hvb.2 HSS.out
      refine hK.out _ _ ?_ (fun hHeld => ?_)
      · first | assumption | exact Below.then (by assumption) (by assumption)
      clear hK K
      try simp only [Act.put, List.setIfInBounds_toArray, List.set_cons_zero, List.set_cons_succ]
      refine wpAnyH_take (i := 9) (oi := { dst := some 37, op := Go.Op.unOp Go.UnOp.not 4 (Go.Operand.tmp 36), type := 4, pos := "all.go:61", after := #[{ on := 8, ground := Go.Ground.data }], guard := none }) (v := ?_) rfl (by kernel_rfl) (by kernel_rfl) (by kernel_rfl) (fun _ _ _ h => h) (Or.inl ⟨by rfl, ?hy⟩) (by assumption) ?_
      case hy => (intro w9 hSw; (try dsimp only at hSw); go_simp; try with_reducible rfl)
      try simp only [Act.put, List.setIfInBounds_toArray, List.set_cons_zero, List.set_cons_succ]
      refine wpAnyH_done (by kernel_rfl) ?_ _
      try simp only [Act.put, List.setIfInBounds_toArray, List.set_cons_zero, List.set_cons_succ]
      have HB5 : Hid (Below w.heap.size w w5) := Below.then hB.out (by assumption)
      clear hb5 hB e0 e1 HRa HRb hvb
      go_wp2_with fail
      go_roundw
      case rel => exact ⟨k + 1, by omega, by go_num, HB5.out⟩
      case measure => simp [intOf]; omega
    · obtain rfl : k = m := by omega
      go_wp2_with fail
      go_ret
      exact ⟨rfl, hB.out⟩
theorem listsAre_no (c : Int) (w : World) (h0 : c ≠ 0) :
    Calls Tryd.prog 8 #[.slice none 0 0, .int .i64 c, .int .i64 c, .slice none 0 0] w fun e w' => e = .returned (.bool true) ∧ Below w.heap.size w w' := by
  have hne : (c != 0) = true := by simpa using h0
  have HB0 : Hid (Below w.heap.size w w) := Below.refl _ _
  go_enter Tryd.func8, Tryd.ntmps8
  go_wp2_with fail
  go_loopw [9] (fun t wx => t = .int .i64 0 ∧ Hid (Below w.heap.size w wx)) (fun _ _ => 0)
  case atStart => exact ⟨rfl, HB0.out⟩
  case round =>
    obtain ⟨rfl, hB⟩ := hrel
    clear HB0
    go_wp2_with fail
    go_ret
    exact ⟨rfl, hB.out⟩
set_option maxHeartbeats 2000000 in
theorem clockCounts_any (Wk : Int) (a : Option Addr) (len cap : Nat) (E : Nat → Int × Int × Int) (w : World) (hl : len ≤ maxLen) (hc : len ≤ cap) (hr : ERow w a len E) (hT : Tab w) :
    Calls Tryd.prog 3 #[.int .i64 Wk, .slice a len cap] w fun e w' => e = .returned (.bool true) ∧ Below w.heap.size w w' := by
  have HR : Hid (ERow w a len E) := hr
  have HL : Hid (len ≤ maxLen) := hl
  have HT : Hid (Tab w) := hT
  clear hr hl hT
  go_enter Tryd.func3, Tryd.ntmps3
  go_wp2_with fail
  refine (counts_any Wk a len cap E _ HL.out hc HR.out HT.out).mono ?_
  rintro e w1 ⟨⟨c, v, hck, rfl, hv⟩, hb1⟩
  have HB1 : Hid (Below w.heap.size w w1) := hb1
  have HC : Hid (CkE Wk len E c) := hck
  clear hb1 hck
  go_wp2_with fail
  refine (checkEvents_any Wk a len cap E _ HL.out (HR.out.below HB1.out)).mono ?_
  rintro e w2 ⟨⟨d, rfl, hd⟩, hb2⟩
  have HB2 : Hid (Below w.heap.size w w2) := Below.then HB1.out hb2
  obtain rfl : d = c := hd.unique HC.out
  rcases hv with ⟨h0, rfl⟩ | ⟨rfl, Wn, B, r, rfl, rfl, hM⟩
  · have h0' : (d == 0) = false := by simpa using h0
    clear hb2 hd
    go_wp2_with fail
    refine (clockBegun_any _).mono ?_
    rintro e w5 ⟨rfl, hb5⟩
    have HB5 : Hid (Below w.heap.size w w5) := Below.then HB2.out hb5
    clear hb5
    go_wp2_with fail
    refine (listsAre_no d _ h0).mono ?_
    rintro e w6 ⟨rfl, hb6⟩
    have HB6 : Hid (Below w.heap.size w w6) := Below.then HB5.out hb6
    clear hb6
    go_wp2_with fail
    go_ret
    exact ⟨rfl, HB6.out⟩
  · obtain ⟨⟨hW1, hW4, h10⟩, hev⟩ := HC.out.good
    have HEV : Hid (∀ j, j < len → EvIs (Wn : Int) E j 0) := hev
    have HWM : Hid (Wn ≤ maxLen) := by show Wn ≤ maxLen; unfold maxLen; omega
    have HM : Hid (RR w2 (some ⟨B, 0, none⟩) len (fun j => (some ⟨r j, 0, none⟩, Wn, Wn)) (fun j u => (cts E len j u : Nat))) := (hM.rr HWM.out).below hb2
    clear hb2 hd hev hM
    go_wp2_with fail
    refine (countsOf_any Wn a len cap E _ h10 (by omega) HEV.out (HR.out.below HB2.out)).mono ?_
    rintro e w3 ⟨⟨v3, base3, r3, rfl, hcr⟩, hb3⟩
    have HB3 : Hid (Below w.heap.size w w3) := Below.then HB2.out hb3
    have HM3 : Hid (RR w3 (some ⟨B, 0, none⟩) len (fun j => (some ⟨r j, 0, none⟩, Wn, Wn)) (fun j u => (cts E len j u : Nat))) := HM.out.below hb3
    obtain ⟨a3, cap3, rfl, hrr⟩ := hcr.rr HWM.out
    have HN3 : Hid (RR w3 a3 len (fun j => (some ⟨r3 j, 0, none⟩, Wn, Wn)) (fun j u => (cts E len j u : Nat))) := hrr
    clear hb3 hcr hrr HM
    go_wp2_with fail
    refine (clockBegun_any _).mono ?_
    rintro e w5 ⟨rfl, hb5⟩
    have HB5 : Hid (Below w.heap.size w w5) := Below.then HB3.out hb5
    have HM5 : Hid (RR w5 (some ⟨B, 0, none⟩) len (fun j => (some ⟨r j, 0, none⟩, Wn, Wn)) (fun j u => (cts E len j u : Nat))) := HM3.out.below hb5
    have HN5 : Hid (RR w5 a3 len (fun j => (some ⟨r3 j, 0, none⟩, Wn, Wn)) (fun j u => (cts E len j u : Nat))) := HN3.out.below hb5
    clear hb5 HM3 HN3
    go_wp2_with fail
    refine (listsAre_ok _ _ len _ _ _ _ _ _ _ HL.out HM5.out HN5.out (fun k hk => ⟨rfl, fun _ _ => rfl⟩)).mono ?_
    rintro e w6 ⟨rfl, hb6⟩
    have HB6 : Hid (Below w.heap.size w w6) := Below.then HB5.out hb6
    clear hb6
    go_wp2_with fail
    go_ret
    exact ⟨rfl, HB6.out⟩
end Go.Proofs.YtomoodpgmkjacaaDoor
