/-
  For every order and number that are handed in, hasselaw.SpaceCloses returns true, and writes nothing that was there. Condition: the table of the least bits.
-/
import Derived.Deep.RegionHeld3
import Derived.Test.YtggngpnenbjidaaDoorRefC
namespace Go.Proofs.YtggngpnenbjidaaDoor
open Go.RowKit

theorem add_or_and : ∀ (k a b : Nat), a < 2 ^ k → b < 2 ^ k → a + b = (a ||| b) + (a &&& b)
  | 0, a, b, ha, hb => by
    obtain rfl : a = 0 := by omega
    obtain rfl : b = 0 := by omega
    rfl
  | k + 1, a, b, ha, hb => by
    have ih := add_or_and k (a / 2) (b / 2) (by rw [Nat.pow_succ] at ha; omega) (by rw [Nat.pow_succ] at hb; omega)
    have e1 : (a ||| b) / 2 = a / 2 ||| b / 2 := Nat.or_div_two
    have e2 : (a &&& b) / 2 = a / 2 &&& b / 2 := Nat.and_div_two
    have m1 : (a ||| b) % 2 = 1 ↔ a % 2 = 1 ∨ b % 2 = 1 := Nat.or_mod_two_eq_one
    have m2 : (a &&& b) % 2 = 1 ↔ a % 2 = 1 ∧ b % 2 = 1 := Nat.and_mod_two_eq_one
    omega
theorem rst_sub {n s : Nat} (hn : n ≤ 10) (hs : s < pw n) : s + rst n s = pw n - 1 := by
  have h1 : s ||| rst n s = pw n - 1 := by
    apply Nat.eq_of_testBit_eq
    intro i
    rw [Nat.testBit_or, rst_bit hn hs, full_bit]
    cases e : s.testBit i
    · simp
    · have := bit_of_lt hs e
      simp [this]
  have h2 : s &&& rst n s = 0 := by
    apply Nat.eq_of_testBit_eq
    intro i
    rw [Nat.testBit_and, rst_bit hn hs]
    cases s.testBit i <;> simp
  have h3 := add_or_and n s (rst n s) hs rst_lt
  rw [h1, h2] at h3
  omega
/-- Two numbers that were answered, and what they should be. -/
theorem NumPost.is {n : Int} {len : Nat} {f : Nat → Int} {s : Int} {v : Nat → Nat} {c x c' : Int} (h : SCk n len f s c ∧ ((c ≠ 0 ∧ x = 0) ∨ (c = 0 ∧ x = ((v s.toNat : Nat) : Int)))) (h' : SCk n len f s c') : c = c' := h.1.unique h'

set_option maxHeartbeats 4000000 in
theorem spaceCloses_any (n : Int) (a : Option Addr) (len cap : Nat) (f : Nat → Int) (s : Int) (w : World) (hl : len ≤ maxLen) (hr : Row w a len f) (hT : Tab w) :
    Calls Tryd.prog 5 #[.agg #[.int .i64 n, .slice a len cap], .int .i64 s] w fun e w' => e = .returned (.bool true) ∧ Below w.heap.size w w' := by
  have HB0 : Hid (Below w.heap.size w (w.alloc (.cells #[.int .i64 n, .slice a len cap] 24))) := bel_one w _
  have K0 : Hid (Held (w.alloc (.cells #[.int .i64 n, .slice a len cap] 24)) w.heap.size n a len cap f) := Held.box hr
  have HT : Hid (Tab w) := hT
  clear hr hT
  have k0 := K0.out.c0
  have k1 := K0.out.c1
  go_enter Tryd.func5, Tryd.ntmps5
  go_wp2_with fail
  refine (closure_call n a len cap f s _ hl K0.out.row (HT.out.step HB0.out)).mono ?_
  rintro e w1 ⟨⟨c, p, rfl, hc, hp⟩, hb1⟩
  have HB1 : Hid (Below w.heap.size w w1) := Below.then HB0.out hb1
  have K1 : Hid (Held w1 w.heap.size n a len cap f) := K0.out.step hb1
  have HC : Hid (SCk n len f s c) := hc
  have HP : Hid ((c ≠ 0 ∧ p = 0) ∨ (c = 0 ∧ p = ((clo (nat f) s.toNat : Nat) : Int))) := hp
  clear hb1 hc hp HB0 K0 k0 k1
  have k0 := K1.out.c0
  have k1 := K1.out.c1
  go_wp2_with fail
  refine (inside_call n a len cap f s _ hl K1.out.row (HT.out.step HB1.out)).mono ?_
  rintro e w2 ⟨⟨c', q, rfl, hc, hq⟩, hb2⟩
  obtain rfl := HC.out.unique hc
  have HB2 : Hid (Below w.heap.size w w2) := Below.then HB1.out hb2
  have K2 : Hid (Held w2 w.heap.size n a len cap f) := K1.out.step hb2
  have HQ : Hid ((c ≠ 0 ∧ q = 0) ∨ (c = 0 ∧ q = ((rst len (clo (nat f) (rst len s.toNat)) : Nat) : Int))) := hq
  clear hb2 hc hq HB1 K1 k0 k1
  have k0 := K2.out.c0
  have k1 := K2.out.c1
  go_wp2_with fail
  refine (setOf_any n a len cap f s _ hl K2.out.row).mono ?_
  rintro e w3 ⟨⟨c', rfl, hc⟩, hb3⟩
  obtain rfl := HC.out.unique hc
  have HB3 : Hid (Below w.heap.size w w3) := Below.then HB2.out hb3
  have K3 : Hid (Held w3 w.heap.size n a len cap f) := K2.out.step hb3
  clear hb3 hc HB2 K2 k0 k1
  have k0 := K3.out.c0
  have k1 := K3.out.c1
  by_cases h0 : c = 0
  · subst h0
    obtain ⟨hck, x, rfl, hx⟩ := HC.out.good
    obtain ⟨rfl, h10, hrng, _⟩ := hck.good
    obtain rfl : p = ((clo (nat f) x : Nat) : Int) := by
      rcases HP.out with ⟨h, _⟩ | ⟨_, h⟩
      · exact absurd rfl h
      · exact h
    obtain rfl : q = ((rst len (clo (nat f) (rst len x)) : Nat) : Int) := by
      rcases HQ.out with ⟨h, _⟩ | ⟨_, h⟩
      · exact absurd rfl h
      · exact h
    have HG : Hid (∀ k, k < len → nat f k < pw len) := hrng.small
    have HR : Hid (∀ w', Below w3.heap.size w3 w' → Row w' a len (fun k => ((nat f k : Nat) : Int))) := fun w' h => hrng.row (K3.out.step h).row
    have hpl := pw_le len h10
    have hcl : clo (nat f) (rst len x) < pw len := clo_lt hrng.small rst_lt
    have e1 := rst_sub h10 hx
    have e2 := rst_sub h10 hcl
    have hpp := pw_pos len
    have hw1 : IntKind.i64.wrap (((pw len : Nat) : Int) - 1 - ((x : Nat) : Int)) = ((rst len x : Nat) : Int) := by
      rw [show ((pw len : Nat) : Int) - 1 - ((x : Nat) : Int) = ((rst len x : Nat) : Int) by omega]
      exact wrap_i64_small _ (by omega) (by omega)
    have hw2 : IntKind.i64.wrap (((pw len : Nat) : Int) - 1 - ((clo (nat f) (rst len x) : Nat) : Int)) = ((rst len (clo (nat f) (rst len x)) : Nat) : Int) := by
      rw [show ((pw len : Nat) : Int) - 1 - ((clo (nat f) (rst len x) : Nat) : Int) = ((rst len (clo (nat f) (rst len x)) : Nat) : Int) by omega]
      exact wrap_i64_small _ (by omega) (by omega)
    have l0 : ∀ w', Below w3.heap.size w3 w' → w'.cell? ⟨w.heap.size, 0, none⟩ = some (.int .i64 (len : Int)) := fun w' h => (K3.out.step h).c0
    have l1 : ∀ w', Below w3.heap.size w3 w' → w'.cell? ⟨w.heap.size, 1, none⟩ = some (.slice a len cap) := fun w' h => (K3.out.step h).c1
    have HS3 : Hid (Below w.heap.size w w3) := HB3.out
    clear hck hrng HC HP HQ
    generalize hW : w3 = W at *
    have KK : Below W.heap.size W W.drew := (Below.refl _ _).drew
    go_wp2_with (go_at_call 21; refine (bit_any len _ (by omega)).mono ?_; rintro e w' ⟨rfl, rfl⟩)
    refine wp_region_held_drew (S := (fun w' => Below W.heap.size W w')) (by kernel_rfl) (KK) (fun hHeld => ?_)
    refine wpAnyH_take (i := 0) (oi := { dst := some 34, op := Go.Op.load 24 (Go.Operand.tmp 2), type := 24, pos := "sperner.go:350", after := #[], guard := none }) (v := ?_) rfl (by kernel_rfl) (by kernel_rfl) (by kernel_rfl) (fun _ _ _ h => h) (Or.inl ⟨by rfl, ?hy⟩) (by assumption) ?_
    case hy => (intro w9 hSw; (try dsimp only at hSw); go_simp; try with_reducible rfl)
    try simp only [Act.put, List.setIfInBounds_toArray, List.set_cons_zero, List.set_cons_succ]
    refine wpAnyH_take (i := 1) (oi := { dst := some 35, op := Go.Op.move (Go.Operand.tmp 1), type := 3, pos := "sperner.go:350", after := #[], guard := none }) (v := ?_) rfl (by kernel_rfl) (by kernel_rfl) (by kernel_rfl) (fun _ _ _ h => h) (Or.inl ⟨by rfl, ?hy⟩) (by assumption) ?_
    case hy => (intro w9 hSw; (try dsimp only at hSw); go_simp; try with_reducible rfl)
    try simp only [Act.put, List.setIfInBounds_toArray, List.set_cons_zero, List.set_cons_succ]
    refine wpAnyH_take (i := 3) (oi := { dst := some 37, op := Go.Op.move (Go.Operand.tmp 12), type := 3, pos := "sperner.go:350", after := #[{ on := 10, ground := Go.Ground.gcOnly Go.Departure.lateStores }], guard := none }) (v := ?_) rfl (by kernel_rfl) (by kernel_rfl) (by kernel_rfl) (fun _ _ _ h => h) (Or.inl ⟨by rfl, ?hy⟩) (by assumption) ?_
    case hy => (intro w9 hSw; (try dsimp only at hSw); go_simp; try with_reducible rfl)
    try simp only [Act.put, List.setIfInBounds_toArray, List.set_cons_zero, List.set_cons_succ]
    refine wpAnyH_take (i := 4) (oi := { dst := some 38, op := Go.Op.load 24 (Go.Operand.tmp 2), type := 24, pos := "sperner.go:350", after := #[], guard := none }) (v := ?_) rfl (by kernel_rfl) (by kernel_rfl) (by kernel_rfl) (fun _ _ _ h => h) (Or.inl ⟨by rfl, ?hy⟩) (by assumption) ?_
    case hy => (intro w9 hSw; (try dsimp only at hSw); go_simp; try with_reducible rfl)
    try simp only [Act.put, List.setIfInBounds_toArray, List.set_cons_zero, List.set_cons_succ]
    refine wpAnyH_take (i := 5) (oi := { dst := some 39, op := Go.Op.move (Go.Operand.tmp 12), type := 3, pos := "sperner.go:350", after := #[], guard := none }) (v := ?_) rfl (by kernel_rfl) (by kernel_rfl) (by kernel_rfl) (fun _ _ _ h => h) (Or.inl ⟨by rfl, ?hy⟩) (by assumption) ?_
    case hy => (intro w9 hSw; (try dsimp only at hSw); go_simp; try with_reducible rfl)
    try simp only [Act.put, List.setIfInBounds_toArray, List.set_cons_zero, List.set_cons_succ]
    refine wpAnyH_take (i := 6) (oi := { dst := some 40, op := Go.Op.move (Go.Operand.tmp 1), type := 3, pos := "sperner.go:350", after := #[], guard := none }) (v := ?_) rfl (by kernel_rfl) (by kernel_rfl) (by kernel_rfl) (fun _ _ _ h => h) (Or.inl ⟨by rfl, ?hy⟩) (by assumption) ?_
    case hy => (intro w9 hSw; (try dsimp only at hSw); go_simp; try with_reducible rfl)
    try simp only [Act.put, List.setIfInBounds_toArray, List.set_cons_zero, List.set_cons_succ]
    refine wpAnyH_take (i := 7) (oi := { dst := some 41, op := Go.Op.binOp Go.BinOp.sub 3 (Go.Operand.tmp 39) (Go.Operand.tmp 40) 3, type := 3, pos := "sperner.go:350", after := #[{ on := 5, ground := Go.Ground.data }, { on := 6, ground := Go.Ground.data }], guard := none }) (v := .int .i64 ((rst len x : Nat) : Int)) rfl (by kernel_rfl) (by kernel_rfl) (by kernel_rfl) (fun _ _ _ h => h) (Or.inl ⟨by rfl, ?hy⟩) (by assumption) ?_
    case hy => (intro w9 hSw; (try dsimp only at hSw); go_simp <;> (first | with_reducible rfl | (simp; omega) | omega))
    try simp only [Act.put, List.setIfInBounds_toArray, List.set_cons_zero, List.set_cons_succ]
    refine wpAnyH_ready (rs := [2]) (by kernel_rfl) (by simp) ?_
    refine AllReadyH.cons (o := { dst := some 36, op := Go.Op.call { callee := Go.Callee.value (Go.Operand.func 22), args := #[Go.Operand.tmp 34, Go.Operand.tmp 35], argTypes := #[24, 3] }, type := 3, pos := "sperner.go:350", after := #[{ on := 0, ground := Go.Ground.data }, { on := 1, ground := Go.Ground.data }], guard := none }) rfl (fun K hK => ?_) AllReadyH.nil
    go_simp
    refine (closureOf_any a len cap (nat f) x _ h10 HG.out (HR.out _ (by assumption)) hx).mono ?_
    rintro e w5 ⟨rfl, hb5⟩
    refine hK.out _ _ ?_ (fun hHeld => ?_)
    · first | assumption | exact Below.then (by assumption) (by assumption)
    clear hK K
    try simp only [Act.put, List.setIfInBounds_toArray, List.set_cons_zero, List.set_cons_succ]
    refine wpAnyH_ready (rs := [8]) (by kernel_rfl) (by simp) ?_
    refine AllReadyH.cons (o := { dst := some 42, op := Go.Op.call { callee := Go.Callee.value (Go.Operand.func 22), args := #[Go.Operand.tmp 38, Go.Operand.tmp 41], argTypes := #[24, 3] }, type := 3, pos := "sperner.go:350", after := #[{ on := 4, ground := Go.Ground.data }, { on := 7, ground := Go.Ground.data }, { on := 2, ground := Go.Ground.chain }], guard := none }) rfl (fun K hK => ?_) AllReadyH.nil
    go_simp
    refine (closureOf_any a len cap (nat f) (rst len x) _ h10 HG.out (HR.out _ (by assumption)) rst_lt).mono ?_
    rintro e w6 ⟨rfl, hb6⟩
    refine hK.out _ _ ?_ (fun hHeld => ?_)
    · first | assumption | exact Below.then (by assumption) (by assumption)
    clear hK K
    try simp only [Act.put, List.setIfInBounds_toArray, List.set_cons_zero, List.set_cons_succ]
    refine wpAnyH_take (i := 9) (oi := { dst := some 43, op := Go.Op.binOp Go.BinOp.sub 3 (Go.Operand.tmp 37) (Go.Operand.tmp 42) 3, type := 3, pos := "sperner.go:350", after := #[{ on := 3, ground := Go.Ground.data }, { on := 8, ground := Go.Ground.data }, { on := 10, ground := Go.Ground.gcOnly Go.Departure.lateStores }], guard := none }) (v := .int .i64 ((rst len (clo (nat f) (rst len x)) : Nat) : Int)) rfl (by kernel_rfl) (by kernel_rfl) (by kernel_rfl) (fun _ _ _ h => h) (Or.inl ⟨by rfl, ?hy⟩) (by assumption) ?_
    case hy => (intro w9 hSw; (try dsimp only at hSw); go_simp <;> (first | with_reducible rfl | (simp; omega) | omega))
    try simp only [Act.put, List.setIfInBounds_toArray, List.set_cons_zero, List.set_cons_succ]
    refine wpAnyH_take (i := 10) (oi := { dst := some 10, op := Go.Op.assign (Go.Operand.tmp 36), type := 3, pos := "sperner.go:350", after := #[{ on := 2, ground := Go.Ground.data }, { on := 8, ground := Go.Ground.chain }, { on := 0, ground := Go.Ground.phase }, { on := 1, ground := Go.Ground.phase }, { on := 2, ground := Go.Ground.phase }, { on := 3, ground := Go.Ground.textOnly Go.Departure.lateStores }, { on := 4, ground := Go.Ground.textOnly Go.Departure.lateStores }, { on := 5, ground := Go.Ground.textOnly Go.Departure.lateStores }, { on := 6, ground := Go.Ground.textOnly Go.Departure.lateStores }, { on := 7, ground := Go.Ground.textOnly Go.Departure.lateStores }, { on := 8, ground := Go.Ground.textOnly Go.Departure.lateStoresUnsure }, { on := 9, ground := Go.Ground.textOnly Go.Departure.lateStores }], guard := none }) (v := ?_) rfl (by kernel_rfl) (by kernel_rfl) (by kernel_rfl) (fun _ _ _ h => h) (Or.inl ⟨by rfl, ?hy⟩) (by assumption) ?_
    case hy => (intro w9 hSw; (try dsimp only at hSw); go_simp; try with_reducible rfl)
    try simp only [Act.put, List.setIfInBounds_toArray, List.set_cons_zero, List.set_cons_succ]
    refine wpAnyH_take (i := 11) (oi := { dst := some 11, op := Go.Op.assign (Go.Operand.tmp 43), type := 3, pos := "sperner.go:350", after := #[{ on := 9, ground := Go.Ground.data }, { on := 10, ground := Go.Ground.chain }, { on := 0, ground := Go.Ground.phase }, { on := 1, ground := Go.Ground.phase }, { on := 2, ground := Go.Ground.phase }, { on := 3, ground := Go.Ground.phase }, { on := 4, ground := Go.Ground.phase }, { on := 5, ground := Go.Ground.phase }, { on := 6, ground := Go.Ground.phase }, { on := 7, ground := Go.Ground.phase }, { on := 8, ground := Go.Ground.phase }, { on := 9, ground := Go.Ground.phase }, { on := 10, ground := Go.Ground.phase }], guard := none }) (v := ?_) rfl (by kernel_rfl) (by kernel_rfl) (by kernel_rfl) (fun _ _ _ h => h) (Or.inl ⟨by rfl, ?hy⟩) (by assumption) ?_
    case hy => (intro w9 hSw; (try dsimp only at hSw); go_simp; try with_reducible rfl)
    try simp only [Act.put, List.setIfInBounds_toArray, List.set_cons_zero, List.set_cons_succ]
    refine wpAnyH_done (by kernel_rfl) ?_ _
    try simp only [Act.put, List.setIfInBounds_toArray, List.set_cons_zero, List.set_cons_succ]
    have HB6 : Hid (Below w.heap.size w w6) := Below.then HB3.out (by assumption)
    clear l0 l1
    go_wp2_with fail
    refine (spaceBegun_any w6 (HT.out.step HB6.out)).mono ?_
    rintro e w7 ⟨rfl, hb7⟩
    have HB7 : Hid (Below w.heap.size w w7) := Below.then HB6.out hb7
    clear hb7
    go_wp2_with fail
    refine (numberIs_any ((clo (nat f) x : Nat) : Int) 0 0 ((clo (nat f) x : Nat) : Int) _ rfl (.inr ⟨rfl, rfl⟩)).mono ?_
    rintro e w8 ⟨rfl, rfl⟩
    go_wp2_with fail
    refine (numberIs_any ((rst len (clo (nat f) (rst len x)) : Nat) : Int) 0 0 ((rst len (clo (nat f) (rst len x)) : Nat) : Int) _ rfl (.inr ⟨rfl, rfl⟩)).mono ?_
    rintro e w8 ⟨rfl, rfl⟩
    go_wp2_with fail
    go_ret
    exact ⟨rfl, HB7.out⟩
  · have hne : (c == 0) = false := by simpa using h0
    obtain rfl : p = 0 := by
      rcases HP.out with ⟨_, h⟩ | ⟨h, _⟩
      · exact h
      · exact absurd h h0
    obtain rfl : q = 0 := by
      rcases HQ.out with ⟨_, h⟩ | ⟨h, _⟩
      · exact h
      · exact absurd h h0
    have H0 : Hid (c ≠ 0) := h0
    clear h0 HC HP HQ
    go_wp2_with fail
    refine (spaceBegun_any w3 (HT.out.step HB3.out)).mono ?_
    rintro e w7 ⟨rfl, hb7⟩
    have HB7 : Hid (Below w.heap.size w w7) := Below.then HB3.out hb7
    clear hb7
    go_wp2_with fail
    refine (numberIs_any 0 c c _ _ rfl (.inl ⟨H0.out, rfl⟩)).mono ?_
    rintro e w8 ⟨rfl, rfl⟩
    go_wp2_with fail
    refine (numberIs_any 0 c c _ _ rfl (.inl ⟨H0.out, rfl⟩)).mono ?_
    rintro e w8 ⟨rfl, rfl⟩
    go_wp2_with fail
    go_ret
    exact ⟨rfl, HB7.out⟩
end Go.Proofs.YtggngpnenbjidaaDoor
