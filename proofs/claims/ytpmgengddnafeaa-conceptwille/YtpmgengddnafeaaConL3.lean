/-
  For every context and two numbers that are handed in, hasselaw.ConceptWille returns true, and writes nothing that was there. No condition.
-/
import Derived.Deep.RegionHeld3
import Derived.Test.YtpmgengddnafeaaConB
import Derived.Test.YtpmgengddnafeaaWilM
import Derived.Test.YtpmgengddnafeaaChoose
import Derived.Test.YtpmgengddnafeaaTogether
namespace Go.Proofs.Ytpmgengddnafeaa
open Go.RowKit

theorem common_any (a b : Nat) (w : World) (ha : a < 1024) (hb : b < 1024) :
    Calls Try.prog 30 #[.int .i64 a, .int .i64 b] w fun e w' => e = .returned (.int .i64 ((a &&& b : Nat) : Int)) ∧ w = w' := by
  have HE : Hid (a + b = (a ||| b) + (a &&& b)) := add_or_and 10 a b ha hb
  have hor : a ||| b < 1024 := Nat.or_lt_two_pow (n := 10) ha hb
  obtain ⟨Q, HQ⟩ : ∃ Q, Hid (Q = (a &&& b)) := ⟨_, rfl⟩
  rw [← HQ.out]
  go_enter Try.func30, Try.ntmps30
  go_wp2_with (go_at_call 28; refine (together_any a b _ ha hb).mono ?_; rintro e w' ⟨rfl, rfl⟩)
  go_ret
  exact ⟨ret_int (by have h1 := HE.out; have h2 := HQ.out; omega), rfl⟩

/-- Marks and Things at a good context and set. -/
theorem marks_good (a : Option Addr) (len r cap : Nat) (f : Nat → Int) (s : Nat) (w : World) (hl : len ≤ maxLen) (hr : Row w a len f) (hc : GChk len r len f 0) (h10 : len ≤ 10) (r10 : r ≤ 10) (hs : s < pw len) :
    Calls Try.prog 12 #[.agg #[.int .i64 (len : Int), .int .i64 (r : Int), .slice a len cap], .int .i64 (s : Nat)] w fun e w' => e = .returned (.tuple #[.int .i64 ((mks (nat f) len r s : Nat) : Int), .int .i64 0]) ∧ Below w.heap.size w w' := by
  refine (marks_any len r a len cap f s w hl hr).mono ?_
  rintro e w' ⟨h, hb⟩
  refine ⟨?_, hb⟩
  have h0 : SChk len r len len f s 0 := .inr ⟨hc, len, rfl, h10, .inr ⟨rfl, by omega, by omega⟩⟩
  rcases h with ⟨c, hne, hcc, _⟩ | ⟨r', s', x, _, e2, _, _, _, e3, _, _, ⟨_, rfl⟩, rfl⟩
  · exact absurd (SChk.unique hcc h0) hne
  · obtain rfl : r' = r := by omega
    obtain rfl : s' = s := by omega
    rfl
theorem things_good (a : Option Addr) (len r cap : Nat) (f : Nat → Int) (s : Nat) (w : World) (hl : len ≤ maxLen) (hr : Row w a len f) (hc : GChk len r len f 0) (r10 : r ≤ 10) (hs : s < pw r) :
    Calls Try.prog 13 #[.agg #[.int .i64 (len : Int), .int .i64 (r : Int), .slice a len cap], .int .i64 (s : Nat)] w fun e w' => e = .returned (.tuple #[.int .i64 ((ths (nat f) len s : Nat) : Int), .int .i64 0]) ∧ Below w.heap.size w w' := by
  refine (things_any len r a len cap f s w hl hr).mono ?_
  rintro e w' ⟨h, hb⟩
  refine ⟨?_, hb⟩
  have h0 : SChk len r r len f s 0 := .inr ⟨hc, r, rfl, r10, .inr ⟨rfl, by omega, by omega⟩⟩
  rcases h with ⟨c, hne, hcc, _⟩ | ⟨r', s', x, _, e2, _, _, _, e3, _, _, ⟨_, rfl⟩, rfl⟩
  · exact absurd (SChk.unique hcc h0) hne
  · obtain rfl : r' = r := by omega
    obtain rfl : s' = s := by omega
    rfl

set_option maxHeartbeats 4000000 in
set_option maxRecDepth 100000 in
theorem conceptWille_any (L R : Int) (a : Option Addr) (len cap : Nat) (f : Nat → Int) (A B : Int) (w : World) (hl : len ≤ maxLen) (a1 : -9223372036854775808 ≤ A) (a2 : A ≤ 9223372036854775807) (b1 : -9223372036854775808 ≤ B) (b2 : B ≤ 9223372036854775807) (hr : Row w a len f) :
    Calls Try.prog 8 #[.agg #[.int .i64 L, .int .i64 R, .slice a len cap], .int .i64 A, .int .i64 B] w fun e w' => e = .returned (.bool true) ∧ Below w.heap.size w w' := by
  have K0 : GHeld (w.alloc (.cells #[.int .i64 L, .int .i64 R, .slice a len cap] 24)) w.heap.size L R a len cap f := GHeld.box hr
  have HB0 : Hid (Below w.heap.size w (w.alloc (.cells #[.int .i64 L, .int .i64 R, .slice a len cap] 24))) := (Below.refl _ _).alloc (Nat.le_refl _) _
  clear hr
  go_enter Try.func8, Try.ntmps8
  go_wp2_with fail
  refine (conceptBegun_any _).mono ?_
  rintro e w1 ⟨rfl, hb⟩
  have K1 := K0.step hb
  have HB1 : Hid (Below w.heap.size w w1) := Below.then HB0.out hb
  have k0 := K1.c0
  have k1 := K1.c1
  have k2 := K1.c2
  clear hb K0 HB0
  go_wp2_with fail
  refine (ccheck_any L R a len cap f _ hl K1.row).mono ?_
  rintro e W ⟨⟨c, rfl, hc⟩, hb⟩
  have K2 := K1.step hb
  have HB2 : Hid (Below w.heap.size w W) := Below.then HB1.out hb
  clear hb K1 HB1 k0 k1 k2
  by_cases h0 : c = 0
  · subst h0
    obtain ⟨r, rfl, rfl, h10, r10, hrng⟩ := hc.good
    have HG : Hid (∀ k, k < len → nat f k < 1024) := hrng.small2 r10
    have l0 : ∀ w', Below W.heap.size W w' → w'.cell? ⟨w.heap.size, 0, none⟩ = some (.int .i64 (len : Int)) := fun w' h => (K2.step h).c0
    have l1 : ∀ w', Below W.heap.size W w' → w'.cell? ⟨w.heap.size, 1, none⟩ = some (.int .i64 (r : Int)) := fun w' h => (K2.step h).c1
    have l2 : ∀ w', Below W.heap.size W w' → w'.cell? ⟨w.heap.size, 2, none⟩ = some (.slice a len cap) := fun w' h => (K2.step h).c2
    have HMK : Hid (∀ s, s < pw len → ∀ w', Below W.heap.size W w' → Calls Try.prog 12 #[.agg #[.int .i64 (len : Int), .int .i64 (r : Int), .slice a len cap], .int .i64 (s : Nat)] w' fun e w'' => e = .returned (.tuple #[.int .i64 ((mks (nat f) len r s : Nat) : Int), .int .i64 0]) ∧ Below w'.heap.size w' w'') := fun s hs w' h => marks_good a len r cap f s w' hl (K2.step h).row hc h10 r10 hs
    have HTH : Hid (∀ s, s < pw r → ∀ w', Below W.heap.size W w' → Calls Try.prog 13 #[.agg #[.int .i64 (len : Int), .int .i64 (r : Int), .slice a len cap], .int .i64 (s : Nat)] w' fun e w'' => e = .returned (.tuple #[.int .i64 ((ths (nat f) len s : Nat) : Int), .int .i64 0]) ∧ Below w'.heap.size w' w'') := fun s hs w' h => things_good a len r cap f s w' hl (K2.step h).row hc r10 hs
    have KK : Below W.heap.size W W.drew := (Below.refl _ _).drew
    have hp1 := pw_pos len
    have hp2 : pw len ≤ 10000000000 := Nat.le_trans (pw_le len h10) (by decide)
    clear K2 hrng hc
    go_wp2_with fail
    refine wp_region_held_drew (S := (fun w' => Below W.heap.size W w')) (by kernel_rfl) (KK) (fun hHeld => ?_)
    refine wpAnyH_take (i := 0) (oi := { dst := some 22, op := Go.Op.move (Go.Operand.tmp 1), type := 3, pos := "fix.go:414", after := #[], guard := none }) (v := ?_) rfl (by kernel_rfl) (by kernel_rfl) (by kernel_rfl) (fun _ _ _ h => h) (Or.inl ⟨by rfl, ?hy⟩) (by assumption) ?_
    case hy => (intro w9 hSw; (try dsimp only at hSw); go_simp; try with_reducible rfl)
    try simp only [Act.put, List.setIfInBounds_toArray, List.set_cons_zero, List.set_cons_succ]
    refine wpAnyH_take (i := 1) (oi := { dst := some 23, op := Go.Op.fieldAddr 24 (Go.Operand.tmp 3) 0, type := 0, pos := "fix.go:414", after := #[], guard := none }) (v := ?_) rfl (by kernel_rfl) (by kernel_rfl) (by kernel_rfl) (fun _ _ _ h => h) (Or.inl ⟨by rfl, ?hy⟩) (by assumption) ?_
    case hy => (intro w9 hSw; (try dsimp only at hSw); go_simp; try with_reducible rfl)
    try simp only [Act.put, List.setIfInBounds_toArray, List.set_cons_zero, List.set_cons_succ]
    refine wpAnyH_take (i := 2) (oi := { dst := some 24, op := Go.Op.load 3 (Go.Operand.tmp 23), type := 3, pos := "fix.go:414", after := #[{ on := 1, ground := Go.Ground.data }], guard := none }) (v := ?_) rfl (by kernel_rfl) (by kernel_rfl) (by kernel_rfl) (fun _ _ _ h => h) (Or.inl ⟨by rfl, ?hy⟩) (by assumption) ?_
    case hy => (intro w9 hSw; (try dsimp only at hSw); go_simp; try with_reducible rfl)
    try simp only [Act.put, List.setIfInBounds_toArray, List.set_cons_zero, List.set_cons_succ]
    refine wpAnyH_take (i := 5) (oi := { dst := some 27, op := Go.Op.move (Go.Operand.tmp 2), type := 3, pos := "fix.go:414", after := #[], guard := none }) (v := ?_) rfl (by kernel_rfl) (by kernel_rfl) (by kernel_rfl) (fun _ _ _ h => h) (Or.inl ⟨by rfl, ?hy⟩) (by assumption) ?_
    case hy => (intro w9 hSw; (try dsimp only at hSw); go_simp; try with_reducible rfl)
    try simp only [Act.put, List.setIfInBounds_toArray, List.set_cons_zero, List.set_cons_succ]
    refine wpAnyH_take (i := 6) (oi := { dst := some 28, op := Go.Op.fieldAddr 24 (Go.Operand.tmp 3) 0, type := 0, pos := "fix.go:414", after := #[], guard := none }) (v := ?_) rfl (by kernel_rfl) (by kernel_rfl) (by kernel_rfl) (fun _ _ _ h => h) (Or.inl ⟨by rfl, ?hy⟩) (by assumption) ?_
    case hy => (intro w9 hSw; (try dsimp only at hSw); go_simp; try with_reducible rfl)
    try simp only [Act.put, List.setIfInBounds_toArray, List.set_cons_zero, List.set_cons_succ]
    refine wpAnyH_take (i := 7) (oi := { dst := some 29, op := Go.Op.load 3 (Go.Operand.tmp 28), type := 3, pos := "fix.go:414", after := #[{ on := 6, ground := Go.Ground.data }], guard := none }) (v := ?_) rfl (by kernel_rfl) (by kernel_rfl) (by kernel_rfl) (fun _ _ _ h => h) (Or.inl ⟨by rfl, ?hy⟩) (by assumption) ?_
    case hy => (intro w9 hSw; (try dsimp only at hSw); go_simp; try with_reducible rfl)
    try simp only [Act.put, List.setIfInBounds_toArray, List.set_cons_zero, List.set_cons_succ]
    refine wpAnyH_ready (rs := [3]) (by kernel_rfl) (by simp) ?_
    refine AllReadyH.cons (o := { dst := some 25, op := Go.Op.call { callee := Go.Callee.value (Go.Operand.func 27), args := #[Go.Operand.tmp 24], argTypes := #[3] }, type := 3, pos := "fix.go:414", after := #[{ on := 2, ground := Go.Ground.data }], guard := none }) rfl (fun K hK => ?_) AllReadyH.nil
    go_simp
    refine (bit_any len _ (by omega)).mono ?_
    rintro e w' ⟨rfl, rfl⟩
    refine hK.out _ _ ?_ (fun hHeld => ?_)
    · first | assumption | exact Below.then (by assumption) (by assumption)
    clear hK K
    try simp only [Act.put, List.setIfInBounds_toArray, List.set_cons_zero, List.set_cons_succ]
    refine wpAnyH_ready (rs := [4]) (by kernel_rfl) (by simp) ?_
    refine AllReadyH.cons (o := { dst := some 26, op := Go.Op.call { callee := Go.Callee.value (Go.Operand.func 26), args := #[Go.Operand.tmp 22, Go.Operand.tmp 25], argTypes := #[3, 3] }, type := 3, pos := "fix.go:414", after := #[{ on := 0, ground := Go.Ground.data }, { on := 3, ground := Go.Ground.data }, { on := 3, ground := Go.Ground.chain }], guard := none }) rfl (fun K hK => ?_) AllReadyH.nil
    go_simp
    refine (choose_any A (pw len) _ hp1 hp2 a1 a2).mono ?_
    rintro e w' ⟨⟨x, hx, rfl⟩, rfl⟩
    refine hK.out _ _ ?_ (fun hHeld => ?_)
    · first | assumption | exact Below.then (by assumption) (by assumption)
    clear hK K
    try simp only [Act.put, List.setIfInBounds_toArray, List.set_cons_zero, List.set_cons_succ]
    refine wpAnyH_ready (rs := [8]) (by kernel_rfl) (by simp) ?_
    refine AllReadyH.cons (o := { dst := some 30, op := Go.Op.call { callee := Go.Callee.value (Go.Operand.func 27), args := #[Go.Operand.tmp 29], argTypes := #[3] }, type := 3, pos := "fix.go:414", after := #[{ on := 7, ground := Go.Ground.data }, { on := 4, ground := Go.Ground.chain }], guard := none }) rfl (fun K hK => ?_) AllReadyH.nil
    go_simp
    refine (bit_any len _ (by omega)).mono ?_
    rintro e w' ⟨rfl, rfl⟩
    refine hK.out _ _ ?_ (fun hHeld => ?_)
    · first | assumption | exact Below.then (by assumption) (by assumption)
    clear hK K
    try simp only [Act.put, List.setIfInBounds_toArray, List.set_cons_zero, List.set_cons_succ]
    refine wpAnyH_ready (rs := [9]) (by kernel_rfl) (by simp) ?_
    refine AllReadyH.cons (o := { dst := some 31, op := Go.Op.call { callee := Go.Callee.value (Go.Operand.func 26), args := #[Go.Operand.tmp 27, Go.Operand.tmp 30], argTypes := #[3, 3] }, type := 3, pos := "fix.go:414", after := #[{ on := 5, ground := Go.Ground.data }, { on := 8, ground := Go.Ground.data }, { on := 8, ground := Go.Ground.chain }], guard := none }) rfl (fun K hK => ?_) AllReadyH.nil
    go_simp
    refine (choose_any B (pw len) _ hp1 hp2 b1 b2).mono ?_
    rintro e w' ⟨⟨y, hy, rfl⟩, rfl⟩
    refine hK.out _ _ ?_ (fun hHeld => ?_)
    · first | assumption | exact Below.then (by assumption) (by assumption)
    clear hK K
    try simp only [Act.put, List.setIfInBounds_toArray, List.set_cons_zero, List.set_cons_succ]
    refine wpAnyH_take (i := 10) (oi := { dst := some 1, op := Go.Op.assign (Go.Operand.tmp 26), type := 3, pos := "fix.go:414", after := #[{ on := 4, ground := Go.Ground.data }, { on := 9, ground := Go.Ground.chain }, { on := 0, ground := Go.Ground.phase }, { on := 1, ground := Go.Ground.phase }, { on := 2, ground := Go.Ground.phase }, { on := 3, ground := Go.Ground.phase }, { on := 4, ground := Go.Ground.phase }, { on := 5, ground := Go.Ground.textOnly Go.Departure.lateStores }, { on := 6, ground := Go.Ground.textOnly Go.Departure.lateStores }, { on := 7, ground := Go.Ground.textOnly Go.Departure.lateStores }, { on := 8, ground := Go.Ground.textOnly Go.Departure.lateStoresUnsure }, { on := 9, ground := Go.Ground.textOnly Go.Departure.lateStoresUnsure }], guard := none }) (v := ?_) rfl (by kernel_rfl) (by kernel_rfl) (by kernel_rfl) (fun _ _ _ h => h) (Or.inl ⟨by rfl, ?hy⟩) (by assumption) ?_
    case hy => (intro w9 hSw; (try dsimp only at hSw); go_simp; try with_reducible rfl)
    try simp only [Act.put, List.setIfInBounds_toArray, List.set_cons_zero, List.set_cons_succ]
    refine wpAnyH_take (i := 11) (oi := { dst := some 2, op := Go.Op.assign (Go.Operand.tmp 31), type := 3, pos := "fix.go:414", after := #[{ on := 9, ground := Go.Ground.data }, { on := 10, ground := Go.Ground.chain }, { on := 0, ground := Go.Ground.phase }, { on := 1, ground := Go.Ground.phase }, { on := 2, ground := Go.Ground.phase }, { on := 3, ground := Go.Ground.phase }, { on := 4, ground := Go.Ground.phase }, { on := 5, ground := Go.Ground.phase }, { on := 6, ground := Go.Ground.phase }, { on := 7, ground := Go.Ground.phase }, { on := 8, ground := Go.Ground.phase }, { on := 9, ground := Go.Ground.phase }, { on := 10, ground := Go.Ground.phase }], guard := none }) (v := ?_) rfl (by kernel_rfl) (by kernel_rfl) (by kernel_rfl) (fun _ _ _ h => h) (Or.inl ⟨by rfl, ?hy⟩) (by assumption) ?_
    case hy => (intro w9 hSw; (try dsimp only at hSw); go_simp; try with_reducible rfl)
    try simp only [Act.put, List.setIfInBounds_toArray, List.set_cons_zero, List.set_cons_succ]
    refine wpAnyH_done (by kernel_rfl) ?_ _
    try simp only [Act.put, List.setIfInBounds_toArray, List.set_cons_zero, List.set_cons_succ]
    have HB5 : Hid (Below W.heap.size W W.drew) := KK
    clear KK
    have hx1 : x < 1024 := set_1024 h10 hx
    have hy1 : y < 1024 := set_1024 h10 hy
    have hxy : x ||| y < pw len := Nat.or_lt_two_pow hx hy
    have k0 := l0 _ HB5.out
    have k1 := l1 _ HB5.out
    have k2 := l2 _ HB5.out
    have HF1 : Hid (lack x (ths (nat f) len (mks (nat f) len r x)) = 0) := wil_in h10 r10 HG.out hx
    have HF2 : Hid (mks (nat f) len r (ths (nat f) len (mks (nat f) len r x)) = mks (nat f) len r x) := wil_same h10 r10 HG.out hx
    have HF3 : Hid (lack x y = 0 → lack (mks (nat f) len r y) (mks (nat f) len r x) = 0) := wil_anti r10 hx1 hy1
    have HF4 : Hid (mks (nat f) len r (x ||| y) = mks (nat f) len r x &&& mks (nat f) len r y) := wil_or x y
    have HP : Hid (mks (nat f) len r x < pw r) := mks_lt _ _ _ _
    have HT : Hid (ths (nat f) len (mks (nat f) len r x) < pw len) := ths_lt _ _ _
    have mx1 : mks (nat f) len r x < 1024 := mks_1024 _ _ r10 _
    have my1 : mks (nat f) len r y < 1024 := mks_1024 _ _ r10 _
    have tx1 : ths (nat f) len (mks (nat f) len r x) < 1024 := ths_1024 _ h10 _
    go_wp2_with fail
    refine (HMK.out x hx _ HB5.out).mono ?_
    rintro e w6 ⟨rfl, hb6⟩
    have HB6 : Hid (Below W.heap.size W w6) := Below.then HB5.out hb6
    clear hb6 HB5 k0 k1 k2
    have k0 := l0 _ HB6.out
    have k1 := l1 _ HB6.out
    have k2 := l2 _ HB6.out
    go_wp2_with fail
    refine (HMK.out y hy _ HB6.out).mono ?_
    rintro e X ⟨rfl, hb7⟩
    have HB7 : Hid (Below W.heap.size W X) := Below.then HB6.out hb7
    have HXW : Hid (∀ w', Below X.heap.size X w' → Below W.heap.size W w') := fun w' h => Below.then HB7.out h
    clear hb7 HB6 k0 k1 k2
    have q0 : ∀ w', Below X.heap.size X w' → w'.cell? ⟨w.heap.size, 0, none⟩ = some (.int .i64 (len : Int)) := fun w' h => l0 _ (HXW.out _ h)
    have q1 : ∀ w', Below X.heap.size X w' → w'.cell? ⟨w.heap.size, 1, none⟩ = some (.int .i64 (r : Int)) := fun w' h => l1 _ (HXW.out _ h)
    have q2 : ∀ w', Below X.heap.size X w' → w'.cell? ⟨w.heap.size, 2, none⟩ = some (.slice a len cap) := fun w' h => l2 _ (HXW.out _ h)
    have KX : Below X.heap.size X X.drew := (Below.refl _ _).drew
    go_wp2_with fail
    refine wp_region_held_drew (S := (fun w' => Below X.heap.size X w')) (by kernel_rfl) (KX) (fun hHeld => ?_)
    refine wpAnyH_take (i := 0) (oi := { dst := some 45, op := Go.Op.load 24 (Go.Operand.tmp 3), type := 24, pos := "fix.go:417", after := #[], guard := none }) (v := ?_) rfl (by kernel_rfl) (by kernel_rfl) (by kernel_rfl) (fun _ _ _ h => h) (Or.inl ⟨by rfl, ?hy⟩) (by assumption) ?_
    case hy => (intro w9 hSw; (try dsimp only at hSw); go_simp; try with_reducible rfl)
    try simp only [Act.put, List.setIfInBounds_toArray, List.set_cons_zero, List.set_cons_succ]
    refine wpAnyH_take (i := 1) (oi := { dst := some 46, op := Go.Op.move (Go.Operand.tmp 1), type := 3, pos := "fix.go:417", after := #[], guard := none }) (v := ?_) rfl (by kernel_rfl) (by kernel_rfl) (by kernel_rfl) (fun _ _ _ h => h) (Or.inl ⟨by rfl, ?hy⟩) (by assumption) ?_
    case hy => (intro w9 hSw; (try dsimp only at hSw); go_simp; try with_reducible rfl)
    try simp only [Act.put, List.setIfInBounds_toArray, List.set_cons_zero, List.set_cons_succ]
    refine wpAnyH_take (i := 2) (oi := { dst := some 47, op := Go.Op.move (Go.Operand.tmp 2), type := 3, pos := "fix.go:417", after := #[], guard := none }) (v := ?_) rfl (by kernel_rfl) (by kernel_rfl) (by kernel_rfl) (fun _ _ _ h => h) (Or.inl ⟨by rfl, ?hy⟩) (by assumption) ?_
    case hy => (intro w9 hSw; (try dsimp only at hSw); go_simp; try with_reducible rfl)
    try simp only [Act.put, List.setIfInBounds_toArray, List.set_cons_zero, List.set_cons_succ]
    refine wpAnyH_ready (rs := [3]) (by kernel_rfl) (by simp) ?_
    refine AllReadyH.cons (o := { dst := some 48, op := Go.Op.call { callee := Go.Callee.value (Go.Operand.func 28), args := #[Go.Operand.tmp 46, Go.Operand.tmp 47], argTypes := #[3, 3] }, type := 3, pos := "fix.go:417", after := #[{ on := 1, ground := Go.Ground.data }, { on := 2, ground := Go.Ground.data }], guard := none }) rfl (fun K hK => ?_) AllReadyH.nil
    go_simp
    refine (together_any x y _ hx1 hy1).mono ?_
    rintro e w' ⟨rfl, rfl⟩
    refine hK.out _ _ ?_ (fun hHeld => ?_)
    · first | assumption | exact Below.then (by assumption) (by assumption)
    clear hK K
    try simp only [Act.put, List.setIfInBounds_toArray, List.set_cons_zero, List.set_cons_succ]
    refine wpAnyH_ready (rs := [4]) (by kernel_rfl) (by simp) ?_
    refine AllReadyH.cons (o := { dst := some 49, op := Go.Op.call { callee := Go.Callee.value (Go.Operand.func 12), args := #[Go.Operand.tmp 45, Go.Operand.tmp 48], argTypes := #[24, 3] }, type := 29, pos := "fix.go:417", after := #[{ on := 0, ground := Go.Ground.data }, { on := 3, ground := Go.Ground.data }, { on := 3, ground := Go.Ground.chain }], guard := none }) rfl (fun K hK => ?_) AllReadyH.nil
    go_simp
    refine (HMK.out (x ||| y) hxy _ (HXW.out _ (by assumption))).mono ?_
    rintro e w9 ⟨rfl, hb9⟩
    refine hK.out _ _ ?_ (fun hHeld => ?_)
    · first | assumption | exact Below.then (by assumption) (by assumption)
    clear hK K
    try simp only [Act.put, List.setIfInBounds_toArray, List.set_cons_zero, List.set_cons_succ]
    refine wpAnyH_take (i := 5) (oi := { dst := some 44, op := Go.Op.move (Go.Operand.tmp 49), type := 29, pos := "fix.go:417", after := #[{ on := 4, ground := Go.Ground.data }], guard := none }) (v := ?_) rfl (by kernel_rfl) (by kernel_rfl) (by kernel_rfl) (fun _ _ _ h => h) (Or.inl ⟨by rfl, ?hy⟩) (by assumption) ?_
    case hy => (intro w9 hSw; (try dsimp only at hSw); go_simp; try with_reducible rfl)
    try simp only [Act.put, List.setIfInBounds_toArray, List.set_cons_zero, List.set_cons_succ]
    refine wpAnyH_take (i := 6) (oi := { dst := some 50, op := Go.Op.extract (Go.Operand.tmp 44) 0, type := 3, pos := "fix.go:417", after := #[{ on := 5, ground := Go.Ground.data }], guard := none }) (v := ?_) rfl (by kernel_rfl) (by kernel_rfl) (by kernel_rfl) (fun _ _ _ h => h) (Or.inl ⟨by rfl, ?hy⟩) (by assumption) ?_
    case hy => (intro w9 hSw; (try dsimp only at hSw); go_simp; try with_reducible rfl)
    try simp only [Act.put, List.setIfInBounds_toArray, List.set_cons_zero, List.set_cons_succ]
    refine wpAnyH_take (i := 7) (oi := { dst := some 51, op := Go.Op.extract (Go.Operand.tmp 44) 1, type := 26, pos := "fix.go:417", after := #[{ on := 5, ground := Go.Ground.data }, { on := 8, ground := Go.Ground.gcOnly Go.Departure.lateStores }], guard := none }) (v := ?_) rfl (by kernel_rfl) (by kernel_rfl) (by kernel_rfl) (fun _ _ _ h => h) (Or.inl ⟨by rfl, ?hy⟩) (by assumption) ?_
    case hy => (intro w9 hSw; (try dsimp only at hSw); go_simp; try with_reducible rfl)
    try simp only [Act.put, List.setIfInBounds_toArray, List.set_cons_zero, List.set_cons_succ]
    refine wpAnyH_take (i := 8) (oi := { dst := some 11, op := Go.Op.assign (Go.Operand.tmp 50), type := 3, pos := "fix.go:417", after := #[{ on := 6, ground := Go.Ground.data }, { on := 4, ground := Go.Ground.chain }, { on := 0, ground := Go.Ground.phase }, { on := 1, ground := Go.Ground.phase }, { on := 2, ground := Go.Ground.phase }, { on := 3, ground := Go.Ground.phase }, { on := 4, ground := Go.Ground.phase }, { on := 5, ground := Go.Ground.phase }, { on := 6, ground := Go.Ground.phase }, { on := 7, ground := Go.Ground.textOnly Go.Departure.lateStores }], guard := none }) (v := ?_) rfl (by kernel_rfl) (by kernel_rfl) (by kernel_rfl) (fun _ _ _ h => h) (Or.inl ⟨by rfl, ?hy⟩) (by assumption) ?_
    case hy => (intro w9 hSw; (try dsimp only at hSw); go_simp; try with_reducible rfl)
    try simp only [Act.put, List.setIfInBounds_toArray, List.set_cons_zero, List.set_cons_succ]
    refine wpAnyH_take (i := 9) (oi := { dst := some 12, op := Go.Op.assign (Go.Operand.tmp 51), type := 26, pos := "fix.go:417", after := #[{ on := 7, ground := Go.Ground.data }, { on := 8, ground := Go.Ground.chain }, { on := 0, ground := Go.Ground.phase }, { on := 1, ground := Go.Ground.phase }, { on := 2, ground := Go.Ground.phase }, { on := 3, ground := Go.Ground.phase }, { on := 4, ground := Go.Ground.phase }, { on := 5, ground := Go.Ground.phase }, { on := 6, ground := Go.Ground.phase }, { on := 7, ground := Go.Ground.phase }, { on := 8, ground := Go.Ground.phase }], guard := none }) (v := ?_) rfl (by kernel_rfl) (by kernel_rfl) (by kernel_rfl) (fun _ _ _ h => h) (Or.inl ⟨by rfl, ?hy⟩) (by assumption) ?_
    case hy => (intro w9 hSw; (try dsimp only at hSw); go_simp; try with_reducible rfl)
    try simp only [Act.put, List.setIfInBounds_toArray, List.set_cons_zero, List.set_cons_succ]
    refine wpAnyH_done (by kernel_rfl) ?_ _
    try simp only [Act.put, List.setIfInBounds_toArray, List.set_cons_zero, List.set_cons_succ]
    have hb8 : Below X.heap.size X w9 := by first | assumption | exact hHeld
    have HB9 : Hid (Below W.heap.size W w9) := HXW.out _ hb8
    clear hb8 KX q0 q1 q2 HXW HB7
    have k0 := l0 _ HB9.out
    have k1 := l1 _ HB9.out
    have k2 := l2 _ HB9.out
    rw [HF4.out]
    go_wp2_with fail
    refine (HTH.out _ HP.out _ HB9.out).mono ?_
    rintro e w10 ⟨rfl, hb10⟩
    have HB10 : Hid (Below W.heap.size W w10) := Below.then HB9.out hb10
    clear hb10 HB9 k0 k1 k2
    have k0 := l0 _ HB10.out
    have k1 := l1 _ HB10.out
    have k2 := l2 _ HB10.out
    go_wp2_with fail
    refine (HMK.out _ HT.out _ HB10.out).mono ?_
    rintro e w11 ⟨rfl, hb11⟩
    have HB11 : Hid (Below w.heap.size w w11) := Below.then HB2.out (Below.then HB10.out hb11)
    clear hb11 HB10 k0 k1 k2 l0 l1 l2 HB2
    rw [HF2.out]
    have HF1' := HF1
    obtain ⟨mx, HMX⟩ : ∃ mx, Hid (mx = mks (nat f) len r x) := ⟨_, rfl⟩
    obtain ⟨my, HMY⟩ : ∃ my, Hid (my = mks (nat f) len r y) := ⟨_, rfl⟩
    rw [← HMX.out] at HF1 HF3 mx1 tx1 ⊢
    rw [← HMY.out] at HF3 my1 ⊢
    obtain ⟨tx, HTX⟩ : ∃ tx, Hid (tx = ths (nat f) len mx) := ⟨_, rfl⟩
    rw [← HTX.out] at HF1 tx1 ⊢
    clear HF1' HF2 HF4 HP HT HMK HTH HMX HMY HTX
    have hq1 : (lack x tx == 0) = true := by rw [HF1.out]; rfl
    go_wp2_with fail
    refine (inside_any x tx _ (by omega) (by omega)).mono ?_
    rintro e w' ⟨rfl, rfl⟩
    go_wp2_with fail
    refine (inside_any x y _ (by omega) (by omega)).mono ?_
    rintro e w' ⟨rfl, rfl⟩
    by_cases hxyl : lack x y = 0
    · have hq2 : (lack x y == 0) = true := by rw [hxyl]; rfl
      have hq3 : (lack my mx == 0) = true := by rw [HF3.out hxyl]; rfl
      go_wp2_with fail
      refine (inside_any my mx _ (by omega) (by omega)).mono ?_
      rintro e w' ⟨rfl, rfl⟩
      go_wp2_with fail
      refine (common_any mx my _ mx1 my1).mono ?_
      rintro e w' ⟨rfl, rfl⟩
      go_wp2_with fail
      go_ret
      exact ⟨rfl, HB11.out⟩
    · have hq2 : (lack x y == 0) = false := by simpa using hxyl
      go_wp2_with fail
      refine (common_any mx my _ mx1 my1).mono ?_
      rintro e w' ⟨rfl, rfl⟩
      go_wp2_with fail
      go_ret
      exact ⟨rfl, HB11.out⟩
  · have hne : (c != 0) = true := by simpa using h0
    clear hc K2
    go_wp2_with fail
    go_ret
    exact ⟨rfl, HB2.out⟩
end Go.Proofs.Ytpmgengddnafeaa
