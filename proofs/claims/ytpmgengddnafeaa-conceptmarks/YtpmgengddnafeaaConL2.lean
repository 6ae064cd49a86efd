/-
  For every context and two sets that are handed in, hasselaw.ConceptMarks returns true, and writes nothing that was there. No condition.
-/
import Derived.Deep.RegionHeld3
import Derived.Test.YtpmgengddnafeaaConB
namespace Go.Proofs.Ytpmgengddnafeaa
open Go.RowKit

/-- A number beside an errno, in short. -/
theorem NumIs.short {L R N : Int} {len : Nat} {f : Nat → Int} {S : Int} {F : Nat → Nat → Nat → Nat → Prop} {e : Ending} (h : NumIs L R N len f S F e) :
    ∃ x c : Int, e = .returned (.tuple #[.int .i64 x, .int .i64 c]) ∧ SChk L R N len f S c ∧ ((c ≠ 0 ∧ x = 0) ∨ (c = 0 ∧ ∃ r s y : Nat, L = (len : Int) ∧ R = (r : Int) ∧ len ≤ 10 ∧ r ≤ 10 ∧ GRng len r f ∧ S = (s : Int) ∧ s < 1024 ∧ F len r s y ∧ x = (y : Nat))) := by
  rcases h with ⟨c, h0, hs, rfl⟩ | ⟨r, s, x, h1, h2, h3, h4, h5, h6, h7, h8, h9, rfl⟩
  · exact ⟨0, c, rfl, hs, .inl ⟨h0, rfl⟩⟩
  · exact ⟨x, 0, rfl, h8, .inr ⟨rfl, r, s, x, h1, h2, h3, h4, h5, h6, h7, h9, rfl⟩⟩

set_option maxHeartbeats 4000000 in
theorem conceptMarks_any (L R : Int) (a : Option Addr) (len cap : Nat) (f : Nat → Int) (A B : Int) (w : World) (hl : len ≤ maxLen) (hr : Row w a len f) :
    Calls Try.prog 4 #[.agg #[.int .i64 L, .int .i64 R, .slice a len cap], .int .i64 A, .int .i64 B] w fun e w' => e = .returned (.bool true) ∧ Below w.heap.size w w' := by
  have K0 : GHeld (w.alloc (.cells #[.int .i64 L, .int .i64 R, .slice a len cap] 24)) w.heap.size L R a len cap f := GHeld.box hr
  have HB0 : Hid (Below w.heap.size w (w.alloc (.cells #[.int .i64 L, .int .i64 R, .slice a len cap] 24))) := (Below.refl _ _).alloc (Nat.le_refl _) _
  clear hr
  go_enter Try.func4, Try.ntmps4
  go_wp2_with fail
  refine (marks_any L R a len cap f A _ hl K0.row).mono ?_
  rintro e w1 ⟨he, hb⟩
  obtain ⟨x1, c1, rfl, hs1, hx1⟩ := he.short
  have H1 : Hid (SChk L R L len f A c1) := hs1
  have HX1 := (show Hid _ from hx1)
  have K1 := K0.step hb
  have k0 := K1.c0
  have k1 := K1.c1
  have k2 := K1.c2
  have HB1 : Hid (Below w.heap.size w w1) := Below.then HB0.out hb
  clear hb K0 HB0 he hs1 hx1
  go_wp2_with fail
  refine (things_any L R a len cap f B _ hl K1.row).mono ?_
  rintro e W ⟨he, hb⟩
  obtain ⟨x2, c2, rfl, hs2, hx2⟩ := he.short
  have H2 : Hid (SChk L R R len f B c2) := hs2
  have HX2 := (show Hid _ from hx2)
  have K2 := K1.step hb
  have HB2 : Hid (Below w.heap.size w W) := Below.then HB1.out hb
  clear hb K1 HB1 he hs2 hx2 k0 k1 k2
  have l0 : ∀ w', Below W.heap.size W w' → w'.cell? ⟨w.heap.size, 0, none⟩ = some (.int .i64 L) := fun w' h => (K2.step h).c0
  have l1 : ∀ w', Below W.heap.size W w' → w'.cell? ⟨w.heap.size, 1, none⟩ = some (.int .i64 R) := fun w' h => (K2.step h).c1
  have l2 : ∀ w', Below W.heap.size W w' → w'.cell? ⟨w.heap.size, 2, none⟩ = some (.slice a len cap) := fun w' h => (K2.step h).c2
  have HR : Hid (∀ w', Below W.heap.size W w' → Row w' a len f) := fun w' h => (K2.step h).row
  have KK : Below W.heap.size W W.drew := (Below.refl _ _).drew
  clear K2
  go_wp2_with fail
  refine wp_region_held_drew (S := (fun w' => Below W.heap.size W w')) (by kernel_rfl) (KK) (fun hHeld => ?_)
  refine wpAnyH_take (i := 0) (oi := { dst := some 27, op := Go.Op.load 24 (Go.Operand.tmp 3), type := 24, pos := "fix.go:359", after := #[], guard := none }) (v := ?_) rfl (by kernel_rfl) (by kernel_rfl) (by kernel_rfl) (fun _ _ _ h => h) (Or.inl ⟨by rfl, ?hy⟩) (by assumption) ?_
  case hy => (intro w9 hSw; (try dsimp only at hSw); go_simp; try with_reducible rfl)
  try simp only [Act.put, List.setIfInBounds_toArray, List.set_cons_zero, List.set_cons_succ]
  refine wpAnyH_take (i := 1) (oi := { dst := some 28, op := Go.Op.move (Go.Operand.tmp 1), type := 3, pos := "fix.go:359", after := #[], guard := none }) (v := ?_) rfl (by kernel_rfl) (by kernel_rfl) (by kernel_rfl) (fun _ _ _ h => h) (Or.inl ⟨by rfl, ?hy⟩) (by assumption) ?_
  case hy => (intro w9 hSw; (try dsimp only at hSw); go_simp; try with_reducible rfl)
  try simp only [Act.put, List.setIfInBounds_toArray, List.set_cons_zero, List.set_cons_succ]
  refine wpAnyH_take (i := 3) (oi := { dst := some 30, op := Go.Op.load 24 (Go.Operand.tmp 3), type := 24, pos := "fix.go:359", after := #[], guard := none }) (v := ?_) rfl (by kernel_rfl) (by kernel_rfl) (by kernel_rfl) (fun _ _ _ h => h) (Or.inl ⟨by rfl, ?hy⟩) (by assumption) ?_
  case hy => (intro w9 hSw; (try dsimp only at hSw); go_simp; try with_reducible rfl)
  try simp only [Act.put, List.setIfInBounds_toArray, List.set_cons_zero, List.set_cons_succ]
  refine wpAnyH_take (i := 4) (oi := { dst := some 31, op := Go.Op.move (Go.Operand.tmp 2), type := 3, pos := "fix.go:359", after := #[], guard := none }) (v := ?_) rfl (by kernel_rfl) (by kernel_rfl) (by kernel_rfl) (fun _ _ _ h => h) (Or.inl ⟨by rfl, ?hy⟩) (by assumption) ?_
  case hy => (intro w9 hSw; (try dsimp only at hSw); go_simp; try with_reducible rfl)
  try simp only [Act.put, List.setIfInBounds_toArray, List.set_cons_zero, List.set_cons_succ]
  refine wpAnyH_ready (rs := [2]) (by kernel_rfl) (by simp) ?_
  refine AllReadyH.cons (o := { dst := some 29, op := Go.Op.call { callee := Go.Callee.value (Go.Operand.func 14), args := #[Go.Operand.tmp 27, Go.Operand.tmp 28, Go.Operand.const (Go.Value.bool false)], argTypes := #[24, 3, 4] }, type := 26, pos := "fix.go:359", after := #[{ on := 0, ground := Go.Ground.data }, { on := 1, ground := Go.Ground.data }], guard := none }) rfl (fun K hK => ?_) AllReadyH.nil
  go_simp
  refine (inContext_any L R a len cap f A false _ hl (HR.out _ (by assumption))).mono ?_
  rintro e w3 ⟨⟨d1, rfl, hd1⟩, hb3⟩
  obtain rfl := SChk.unique hd1 H1.out
  refine hK.out _ _ ?_ (fun hHeld => ?_)
  · first | assumption | exact Below.then (by assumption) (by assumption)
  clear hK K
  try simp only [Act.put, List.setIfInBounds_toArray, List.set_cons_zero, List.set_cons_succ]
  refine wpAnyH_ready (rs := [5]) (by kernel_rfl) (by simp) ?_
  refine AllReadyH.cons (o := { dst := some 32, op := Go.Op.call { callee := Go.Callee.value (Go.Operand.func 14), args := #[Go.Operand.tmp 30, Go.Operand.tmp 31, Go.Operand.const (Go.Value.bool true)], argTypes := #[24, 3, 4] }, type := 26, pos := "fix.go:359", after := #[{ on := 3, ground := Go.Ground.data }, { on := 4, ground := Go.Ground.data }, { on := 2, ground := Go.Ground.chain }], guard := none }) rfl (fun K hK => ?_) AllReadyH.nil
  go_simp
  refine (inContext_any L R a len cap f B true _ hl (HR.out _ (by assumption))).mono ?_
  rintro e w4 ⟨⟨d2, rfl, hd2⟩, hb4⟩
  obtain rfl := SChk.unique hd2 H2.out
  refine hK.out _ _ ?_ (fun hHeld => ?_)
  · first | assumption | exact Below.then (by assumption) (by assumption)
  clear hK K
  try simp only [Act.put, List.setIfInBounds_toArray, List.set_cons_zero, List.set_cons_succ]
  refine wpAnyH_take (i := 6) (oi := { dst := some 11, op := Go.Op.assign (Go.Operand.tmp 29), type := 26, pos := "fix.go:359", after := #[{ on := 2, ground := Go.Ground.data }, { on := 5, ground := Go.Ground.chain }, { on := 0, ground := Go.Ground.phase }, { on := 1, ground := Go.Ground.phase }, { on := 2, ground := Go.Ground.phase }, { on := 3, ground := Go.Ground.textOnly Go.Departure.lateStores }, { on := 4, ground := Go.Ground.textOnly Go.Departure.lateStores }, { on := 5, ground := Go.Ground.textOnly Go.Departure.lateStoresUnsure }], guard := none }) (v := ?_) rfl (by kernel_rfl) (by kernel_rfl) (by kernel_rfl) (fun _ _ _ h => h) (Or.inl ⟨by rfl, ?hy⟩) (by assumption) ?_
  case hy => (intro w9 hSw; (try dsimp only at hSw); go_simp; try with_reducible rfl)
  try simp only [Act.put, List.setIfInBounds_toArray, List.set_cons_zero, List.set_cons_succ]
  refine wpAnyH_take (i := 7) (oi := { dst := some 12, op := Go.Op.assign (Go.Operand.tmp 32), type := 26, pos := "fix.go:359", after := #[{ on := 5, ground := Go.Ground.data }, { on := 6, ground := Go.Ground.chain }, { on := 0, ground := Go.Ground.phase }, { on := 1, ground := Go.Ground.phase }, { on := 2, ground := Go.Ground.phase }, { on := 3, ground := Go.Ground.phase }, { on := 4, ground := Go.Ground.phase }, { on := 5, ground := Go.Ground.phase }, { on := 6, ground := Go.Ground.phase }], guard := none }) (v := ?_) rfl (by kernel_rfl) (by kernel_rfl) (by kernel_rfl) (fun _ _ _ h => h) (Or.inl ⟨by rfl, ?hy⟩) (by assumption) ?_
  case hy => (intro w9 hSw; (try dsimp only at hSw); go_simp; try with_reducible rfl)
  try simp only [Act.put, List.setIfInBounds_toArray, List.set_cons_zero, List.set_cons_succ]
  refine wpAnyH_done (by kernel_rfl) ?_ _
  try simp only [Act.put, List.setIfInBounds_toArray, List.set_cons_zero, List.set_cons_succ]
  have hb8 : Below W.heap.size W w4 := by first | assumption | exact hHeld
  have HB4 : Hid (Below W.heap.size W w4) := hb8
  clear hb8 KK
  have k0 := l0 _ HB4.out
  have k1 := l1 _ HB4.out
  have k2 := l2 _ HB4.out
  rcases HX1.out with ⟨e1, rfl⟩ | ⟨rfl, r, s, y, rfl, rfl, h10, r10, hrng, rfl, hs, ⟨hsp, rfl⟩, rfl⟩
  · have ne1 : (d1 == 0) = false := by simpa using e1
    rcases HX2.out with ⟨e2, rfl⟩ | ⟨rfl, r2, s2, y2, E1, E2, h102, r102, hrng2, rfl, hs2, ⟨hsp2, rfl⟩, rfl⟩
    · have ne2 : (d2 == 0) = false := by simpa using e2
      clear k0 k1 k2 l0 l1 l2
      go_wp2_with fail
      refine (conceptBegun_any _).mono ?_
      rintro e w6 ⟨rfl, hb6⟩
      have HB6 : Hid (Below w.heap.size w w6) := Below.then (Below.then HB2.out HB4.out) hb6
      clear hb6
      go_wp2_with fail
      refine (numberIs_any _ _ _ _ _ rfl (.inl ⟨e1, rfl⟩)).mono ?_
      rintro e w' ⟨rfl, rfl⟩
      go_wp2_with fail
      refine (numberIs_any _ _ _ _ _ rfl (.inl ⟨e2, rfl⟩)).mono ?_
      rintro e w' ⟨rfl, rfl⟩
      go_wp2_with fail
      go_ret
      exact ⟨rfl, HB6.out⟩
    · subst E1 E2
      have HCALL : Hid (Calls Try.prog 16 #[.agg #[.int .i64 (len : Int), .int .i64 (r2 : Int), .slice a len cap], .int .i64 (s2 : Nat)] w4 _) := refThings_any a len r2 cap (nat f) s2 w4 h102 (hrng2.small2 r102) (hrng2.row (HR.out _ HB4.out)) hs2
      go_wp2_with fail
      refine HCALL.out.mono ?_
      rintro e w5 ⟨rfl, hb5⟩
      have HB5 : Hid (Below W.heap.size W w5) := Below.then HB4.out hb5
      clear hb5 k0 k1 k2 HCALL l0 l1 l2
      go_wp2_with fail
      refine (conceptBegun_any _).mono ?_
      rintro e w6 ⟨rfl, hb6⟩
      have HB6 : Hid (Below w.heap.size w w6) := Below.then (Below.then HB2.out HB5.out) hb6
      clear hb6
      go_wp2_with fail
      refine (numberIs_any _ _ _ _ _ rfl (.inl ⟨e1, rfl⟩)).mono ?_
      rintro e w' ⟨rfl, rfl⟩
      go_wp2_with fail
      refine (numberIs_any _ _ _ _ _ rfl (.inr ⟨rfl, rfl⟩)).mono ?_
      rintro e w' ⟨rfl, rfl⟩
      go_wp2_with fail
      go_ret
      exact ⟨rfl, HB6.out⟩
  · have HCALL : Hid (Calls Try.prog 15 #[.agg #[.int .i64 (len : Int), .int .i64 (r : Int), .slice a len cap], .int .i64 (s : Nat)] w4 _) := refMarks_any a len r cap (nat f) s w4 h10 r10 (hrng.small2 r10) (hrng.row (HR.out _ HB4.out)) hs
    go_wp2_with fail
    refine HCALL.out.mono ?_
    rintro e w9 ⟨rfl, hb9⟩
    have HB9 : Hid (Below W.heap.size W w9) := Below.then HB4.out hb9
    clear hb9 k0 k1 k2 HCALL
    have k0 := l0 _ HB9.out
    have k1 := l1 _ HB9.out
    have k2 := l2 _ HB9.out
    rcases HX2.out with ⟨e2, rfl⟩ | ⟨rfl, r2, s2, y2, E1, E2, h102, r102, hrng2, rfl, hs2, ⟨hsp2, rfl⟩, rfl⟩
    · have ne2 : (d2 == 0) = false := by simpa using e2
      clear k0 k1 k2 l0 l1 l2
      go_wp2_with fail
      refine (conceptBegun_any _).mono ?_
      rintro e w6 ⟨rfl, hb6⟩
      have HB6 : Hid (Below w.heap.size w w6) := Below.then (Below.then HB2.out HB9.out) hb6
      clear hb6
      go_wp2_with fail
      refine (numberIs_any _ _ _ _ _ rfl (.inr ⟨rfl, rfl⟩)).mono ?_
      rintro e w' ⟨rfl, rfl⟩
      go_wp2_with fail
      refine (numberIs_any _ _ _ _ _ rfl (.inl ⟨e2, rfl⟩)).mono ?_
      rintro e w' ⟨rfl, rfl⟩
      go_wp2_with fail
      go_ret
      exact ⟨rfl, HB6.out⟩
    · obtain rfl : r2 = r := by omega
      have HCALL : Hid (Calls Try.prog 16 #[.agg #[.int .i64 (len : Int), .int .i64 (r2 : Int), .slice a len cap], .int .i64 (s2 : Nat)] w9 _) := refThings_any a len r2 cap (nat f) s2 w9 h102 (hrng2.small2 r102) (hrng2.row (HR.out _ HB9.out)) hs2
      go_wp2_with fail
      refine HCALL.out.mono ?_
      rintro e w5 ⟨rfl, hb5⟩
      have HB5 : Hid (Below W.heap.size W w5) := Below.then HB9.out hb5
      clear hb5 k0 k1 k2 HCALL l0 l1 l2
      go_wp2_with fail
      refine (conceptBegun_any _).mono ?_
      rintro e w6 ⟨rfl, hb6⟩
      have HB6 : Hid (Below w.heap.size w w6) := Below.then (Below.then HB2.out HB5.out) hb6
      clear hb6
      go_wp2_with fail
      refine (numberIs_any _ _ _ _ _ rfl (.inr ⟨rfl, rfl⟩)).mono ?_
      rintro e w' ⟨rfl, rfl⟩
      go_wp2_with fail
      refine (numberIs_any _ _ _ _ _ rfl (.inr ⟨rfl, rfl⟩)).mono ?_
      rintro e w' ⟨rfl, rfl⟩
      go_wp2_with fail
      go_ret
      exact ⟨rfl, HB6.out⟩
end Go.Proofs.Ytpmgengddnafeaa
