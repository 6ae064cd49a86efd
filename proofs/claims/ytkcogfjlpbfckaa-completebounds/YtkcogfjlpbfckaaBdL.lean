/-
  hasselaw.CompleteBounds returns true for every order and number. No condition but that a slice reads as a slice of numbers.
-/
import Derived.Deep.RegionHeld3
import Derived.Test.YtkcogfjlpbfckaaCBegun
namespace Go.Proofs.Ytkcogfjlpbfckaa
open Go.RowKit

set_option maxHeartbeats 4000000 in
theorem completeBounds_any (n : Int) (a : Option Addr) (len cap : Nat) (f : Nat → Int) (s : Int) (w : World) (hl : len ≤ maxLen) (hr : Row w a len f) :
    Calls Try.prog 3 #[.agg #[.int .i64 n, .slice a len cap], .int .i64 s] w fun e w' => e = .returned (.bool true) ∧ Below w.heap.size w w' := by
  have K0 : Held (w.alloc (.cells #[.int .i64 n, .slice a len cap] 24)) w.heap.size n a len cap f := Held.box hr
  have HB0 : Hid (Below w.heap.size w (w.alloc (.cells #[.int .i64 n, .slice a len cap] 24))) := (Below.refl _ _).alloc (Nat.le_refl _) _
  clear hr
  go_enter Try.func3, Try.ntmps3
  go_wp2_with fail
  refine (upperX_any n a len cap f s _ hl K0.row).mono ?_
  rintro e w1 ⟨⟨c, hc, v, rfl, hv⟩, hb⟩
  have K1 := K0.step hb
  have HB1 : Hid (Below w.heap.size w w1) := Below.then HB0.out hb
  have k0 := K1.c0
  have k1 := K1.c1
  clear hb K0 HB0
  go_wp2_with fail
  refine (lowerX_any n a len cap f s _ hl K1.row).mono ?_
  rintro e w2 ⟨⟨c2, hc2, v2, rfl, hv2⟩, hb2⟩
  obtain rfl := hc2.unique hc
  have K2 := K1.step hb2
  have HB2 : Hid (Below w.heap.size w w2) := Below.then HB1.out hb2
  have m0 := K2.c0
  have m1 := K2.c1
  clear hb2 K1 HB1 hc2 k0 k1
  go_wp2_with fail
  refine (setOf_any n a len cap f s _ hl K2.row).mono ?_
  rintro e w3 ⟨⟨c3, rfl, hc3⟩, hb3⟩
  obtain rfl := hc3.unique hc
  have K3 := K2.step hb3
  have HB3 : Hid (Below w.heap.size w w3) := Below.then HB2.out hb3
  clear hb3 K2 HB2 hc3 m0 m1
  by_cases h0 : c3 = 0
  · subst h0
    have hgood : Chk n len f 0 ∧ sts s len = true := by
      rcases hc with ⟨h, _⟩ | ⟨h, ⟨h2, _⟩ | ⟨_, h2⟩⟩
      · exact absurd rfl h
      · cases h2
      · exact ⟨h, h2⟩
    obtain ⟨rfl, h10, hrng, _⟩ := hgood.1.good
    obtain ⟨t, rfl, ht⟩ := sts_nat hgood.2
    have ht2 : t < 1024 := Nat.lt_of_lt_of_le ht (pw_le len h10)
    have HV1 : Hid (v = ((bnd (nat f) len t true : Nat) : Int)) := by
      rcases hv with ⟨h, _⟩ | ⟨_, h⟩
      · exact absurd rfl h
      · rw [h, low_dual]; rfl
    have HV2 : Hid (v2 = ((bnd (nat f) len t false : Nat) : Int)) := by
      rcases hv2 with ⟨h, _⟩ | ⟨_, h⟩
      · exact absurd rfl h
      · rw [h, low_bound]; rfl
    have HG : Hid (∀ k, k < len → nat f k < 1024) := hrng.small2 h10
    have LR : Hid (∀ w', Below w3.heap.size w3 w' → Row w' a len (fun k => ((nat f k : Nat) : Int))) := fun w' h => hrng.row (K3.step h).row
    have l0 : ∀ w', Below w3.heap.size w3 w' → w'.cell? ⟨w.heap.size, 0, none⟩ = some (.int .i64 (len : Int)) := fun w' h => (K3.step h).c0
    have l1 : ∀ w', Below w3.heap.size w3 w' → w'.cell? ⟨w.heap.size, 1, none⟩ = some (.slice a len cap) := fun w' h => (K3.step h).c1
    have KK : Below w3.heap.size w3 w3.drew := (Below.refl _ _).drew
    clear hc hv hv2 hgood hrng ht K3
    go_wp2_with fail
    refine wp_region_held_drew (S := (fun w' => Below w3.heap.size w3 w')) (by kernel_rfl) (KK) (fun hHeld => ?_)
    refine wpAnyH_take (i := 0) (oi := { dst := some 29, op := Go.Op.load 24 (Go.Operand.tmp 2), type := 24, pos := "lattice.go:656", after := #[], guard := none }) (v := ?_) rfl (by kernel_rfl) (by kernel_rfl) (by kernel_rfl) (fun _ _ _ h => h) (Or.inl ⟨by rfl, ?hy⟩) (by assumption) ?_
    case hy => (intro w9 hSw; (try dsimp only at hSw); go_simp; try with_reducible rfl)
    try simp only [Act.put, List.setIfInBounds_toArray, List.set_cons_zero, List.set_cons_succ]
    refine wpAnyH_take (i := 1) (oi := { dst := some 30, op := Go.Op.move (Go.Operand.tmp 1), type := 3, pos := "lattice.go:656", after := #[], guard := none }) (v := ?_) rfl (by kernel_rfl) (by kernel_rfl) (by kernel_rfl) (fun _ _ _ h => h) (Or.inl ⟨by rfl, ?hy⟩) (by assumption) ?_
    case hy => (intro w9 hSw; (try dsimp only at hSw); go_simp; try with_reducible rfl)
    try simp only [Act.put, List.setIfInBounds_toArray, List.set_cons_zero, List.set_cons_succ]
    refine wpAnyH_take (i := 3) (oi := { dst := some 32, op := Go.Op.load 24 (Go.Operand.tmp 2), type := 24, pos := "lattice.go:656", after := #[], guard := none }) (v := ?_) rfl (by kernel_rfl) (by kernel_rfl) (by kernel_rfl) (fun _ _ _ h => h) (Or.inl ⟨by rfl, ?hy⟩) (by assumption) ?_
    case hy => (intro w9 hSw; (try dsimp only at hSw); go_simp; try with_reducible rfl)
    try simp only [Act.put, List.setIfInBounds_toArray, List.set_cons_zero, List.set_cons_succ]
    refine wpAnyH_take (i := 4) (oi := { dst := some 33, op := Go.Op.move (Go.Operand.tmp 1), type := 3, pos := "lattice.go:656", after := #[], guard := none }) (v := ?_) rfl (by kernel_rfl) (by kernel_rfl) (by kernel_rfl) (fun _ _ _ h => h) (Or.inl ⟨by rfl, ?hy⟩) (by assumption) ?_
    case hy => (intro w9 hSw; (try dsimp only at hSw); go_simp; try with_reducible rfl)
    try simp only [Act.put, List.setIfInBounds_toArray, List.set_cons_zero, List.set_cons_succ]
    refine wpAnyH_ready (rs := [2]) (by kernel_rfl) (by simp) ?_
    refine AllReadyH.cons (o := { dst := some 31, op := Go.Op.call { callee := Go.Callee.value (Go.Operand.func 11), args := #[Go.Operand.tmp 29, Go.Operand.tmp 30, Go.Operand.const (Go.Value.bool true)], argTypes := #[24, 3, 4] }, type := 3, pos := "lattice.go:656", after := #[{ on := 0, ground := Go.Ground.data }, { on := 1, ground := Go.Ground.data }], guard := none }) rfl (fun K hK => ?_) AllReadyH.nil
    go_simp
    refine (bound_any a len cap (nat f) t true _ h10 HG.out (LR.out _ (by assumption)) ht2).mono ?_
    rintro e w4 ⟨rfl, hb4⟩
    refine hK.out _ _ ?_ (fun hHeld => ?_)
    · first | assumption | exact Below.then (by assumption) (by assumption)
    clear hK K
    try simp only [Act.put, List.setIfInBounds_toArray, List.set_cons_zero, List.set_cons_succ]
    refine wpAnyH_ready (rs := [5]) (by kernel_rfl) (by simp) ?_
    refine AllReadyH.cons (o := { dst := some 34, op := Go.Op.call { callee := Go.Callee.value (Go.Operand.func 11), args := #[Go.Operand.tmp 32, Go.Operand.tmp 33, Go.Operand.const (Go.Value.bool false)], argTypes := #[24, 3, 4] }, type := 3, pos := "lattice.go:656", after := #[{ on := 3, ground := Go.Ground.data }, { on := 4, ground := Go.Ground.data }, { on := 2, ground := Go.Ground.chain }], guard := none }) rfl (fun K hK => ?_) AllReadyH.nil
    go_simp
    refine (bound_any a len cap (nat f) t false _ h10 HG.out (LR.out _ (by assumption)) ht2).mono ?_
    rintro e w5 ⟨rfl, hb5⟩
    refine hK.out _ _ ?_ (fun hHeld => ?_)
    · first | assumption | exact Below.then (by assumption) (by assumption)
    clear hK K
    try simp only [Act.put, List.setIfInBounds_toArray, List.set_cons_zero, List.set_cons_succ]
    refine wpAnyH_take (i := 6) (oi := { dst := some 10, op := Go.Op.assign (Go.Operand.tmp 31), type := 3, pos := "lattice.go:656", after := #[{ on := 2, ground := Go.Ground.data }, { on := 5, ground := Go.Ground.chain }, { on := 0, ground := Go.Ground.phase }, { on := 1, ground := Go.Ground.phase }, { on := 2, ground := Go.Ground.phase }, { on := 3, ground := Go.Ground.textOnly Go.Departure.lateStores }, { on := 4, ground := Go.Ground.textOnly Go.Departure.lateStores }, { on := 5, ground := Go.Ground.textOnly Go.Departure.lateStoresUnsure }], guard := none }) (v := ?_) rfl (by kernel_rfl) (by kernel_rfl) (by kernel_rfl) (fun _ _ _ h => h) (Or.inl ⟨by rfl, ?hy⟩) (by assumption) ?_
    case hy => (intro w9 hSw; (try dsimp only at hSw); go_simp; try with_reducible rfl)
    try simp only [Act.put, List.setIfInBounds_toArray, List.set_cons_zero, List.set_cons_succ]
    refine wpAnyH_take (i := 7) (oi := { dst := some 11, op := Go.Op.assign (Go.Operand.tmp 34), type := 3, pos := "lattice.go:656", after := #[{ on := 5, ground := Go.Ground.data }, { on := 6, ground := Go.Ground.chain }, { on := 0, ground := Go.Ground.phase }, { on := 1, ground := Go.Ground.phase }, { on := 2, ground := Go.Ground.phase }, { on := 3, ground := Go.Ground.phase }, { on := 4, ground := Go.Ground.phase }, { on := 5, ground := Go.Ground.phase }, { on := 6, ground := Go.Ground.phase }], guard := none }) (v := ?_) rfl (by kernel_rfl) (by kernel_rfl) (by kernel_rfl) (fun _ _ _ h => h) (Or.inl ⟨by rfl, ?hy⟩) (by assumption) ?_
    case hy => (intro w9 hSw; (try dsimp only at hSw); go_simp; try with_reducible rfl)
    try simp only [Act.put, List.setIfInBounds_toArray, List.set_cons_zero, List.set_cons_succ]
    refine wpAnyH_done (by kernel_rfl) ?_ _
    try simp only [Act.put, List.setIfInBounds_toArray, List.set_cons_zero, List.set_cons_succ]
    have hb8 : Below w3.heap.size w3 w5 := by first | assumption | exact hHeld
    have HB8 : Hid (Below w.heap.size w w5) := Below.then HB3.out hb8
    clear hb8 l0 l1 KK LR HB3
    go_wp2_with fail
    refine (completeBegun_any _).mono ?_
    rintro e w6 ⟨rfl, hb6⟩
    have HB6 : Hid (Below w.heap.size w w6) := Below.then HB8.out hb6
    clear hb6 HB8
    go_wp2_with fail
    refine (numberIs_any 0 v ((bnd (nat f) len t true : Nat) : Int) _ (.inr ⟨rfl, HV1.out⟩)).mono ?_
    rintro e w' ⟨rfl, rfl⟩
    go_wp2_with fail
    refine (numberIs_any 0 v2 ((bnd (nat f) len t false : Nat) : Int) _ (.inr ⟨rfl, HV2.out⟩)).mono ?_
    rintro e w' ⟨rfl, rfl⟩
    go_wp2_with fail
    go_ret
    exact ⟨rfl, HB6.out⟩
  · have hne : (c3 == 0) = false := by simpa using h0
    have HV1 : Hid (v = 0) := by
      rcases hv with ⟨_, h⟩ | ⟨h, _⟩
      · exact h
      · exact absurd h h0
    have HV2 : Hid (v2 = 0) := by
      rcases hv2 with ⟨_, h⟩ | ⟨h, _⟩
      · exact h
      · exact absurd h h0
    clear hc hv hv2 K3
    go_wp2_with fail
    refine (completeBegun_any _).mono ?_
    rintro e w6 ⟨rfl, hb6⟩
    have HB6 : Hid (Below w.heap.size w w6) := Below.then HB3.out hb6
    clear hb6 HB3
    go_wp2_with fail
    refine (numberIs_any c3 v 0 _ (.inl ⟨h0, HV1.out⟩)).mono ?_
    rintro e w' ⟨rfl, rfl⟩
    go_wp2_with fail
    refine (numberIs_any c3 v2 0 _ (.inl ⟨h0, HV2.out⟩)).mono ?_
    rintro e w' ⟨rfl, rfl⟩
    go_wp2_with fail
    go_ret
    exact ⟨rfl, HB6.out⟩
end Go.Proofs.Ytkcogfjlpbfckaa
