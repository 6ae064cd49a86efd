/-
  For every family and numbers that are handed in, hasselaw.ConvexMinkowski returns true, and writes nothing that was there. Condition: the table of the least bits.
-/
import Derived.Test.YtjoklkbfcobfeaaDoorCoBeg
import Derived.Test.YtjoklkbfcobfeaaDoorRefHul
import Derived.Test.YtjoklkbfcobfeaaDoorMinM
import Derived.Test.YtjoklkbfcobfeaaDoorChoose
namespace Go.Proofs.YtjoklkbfcobfeaaDoor
open Go.RowKit

theorem NumIs.ok {n len : Nat} {f : Nat → Int} {s : Nat} {F : Nat → Nat → Nat} {e : Ending} (h10 : n ≤ 10) (hw : WCk n len f 0) (hs : s < pw n) (h : NumIs n len f (s : Int) F e) : e = .returned (.tuple #[.int .i64 (F n s : Nat), .int .i64 0]) := by
  have hc : SCk n len f (s : Int) 0 := .inr ⟨n, rfl, h10, hw, .inr ⟨rfl, by omega⟩⟩
  rcases h with ⟨c, h0, h, _⟩ | ⟨n', s', h1, h2, _, _, _, _, _, _, h⟩
  · exact absurd (h.unique hc) h0
  · obtain rfl : n' = n := by omega
    obtain rfl : s' = s := by omega
    exact h
theorem lack_sub {a b : Nat} (ha : a < 1024) (hb : b < 1024) (h : ∀ i, a.testBit i = true → b.testBit i = true) : (lack a b == 0) = true := by
  rw [(lack_zero a b (by omega) (by omega)).2 h]; rfl

set_option maxHeartbeats 4000000 in
set_option maxRecDepth 10000 in
theorem convexMinkowski_any (N : Int) (a : Option Addr) (len cap : Nat) (f : Nat → Int) (S U : Int) (w : World) (hl : len ≤ maxLen) (s1 : -9223372036854775808 ≤ S) (s2 : S ≤ 9223372036854775807) (u1 : -9223372036854775808 ≤ U) (u2 : U ≤ 9223372036854775807) (hr : Row w a len f) (hT : Tab w) :
    Calls Tryd.prog 8 #[.agg #[.int .i64 N, .slice a len cap], .int .i64 S, .int .i64 U] w fun e w' => e = .returned (.bool true) ∧ Below w.heap.size w w' := by
  obtain ⟨W0, HW0⟩ : ∃ W0, Hid (W0 = w.alloc (.cells #[.int .i64 N, .slice a len cap] 24)) := ⟨_, rfl⟩
  have HB0 : Hid (Below w.heap.size w W0) := by rw [HW0.out]; exact (Below.refl _ _).alloc (Nat.le_refl _) _
  have K0 : Held W0 w.heap.size N a len cap f := by rw [HW0.out]; exact Fam.box hr
  have HT0 : Hid (Tab W0) := hT.step HB0.out
  clear hr hT
  go_enter Tryd.func8, Tryd.ntmps8
  go_wp2_with fail
  rw [← HW0.out]
  refine (convexBegun_any _ HT0.out).mono ?_
  rintro e w1 ⟨rfl, hb1⟩
  have HB1 : Hid (Below W0.heap.size W0 w1) := hb1
  clear hb1
  have k0 := (K0.step HB1.out).c0
  have k1 := (K0.step HB1.out).c1
  go_wp2_with fail
  refine (words_any N a len cap f w1 hl (K0.step HB1.out).row (HT0.out.step HB1.out)).mono ?_
  rintro e w2 ⟨he, hb2⟩
  have HB2 : Hid (Below W0.heap.size W0 w2) := Below.then HB1.out hb2
  clear hb2 k0 k1 HB1
  rcases he with ⟨c, h0, hc, rfl⟩ | ⟨n, rfl, h10, hc, hin, hris, hw, rfl⟩
  · have hne : (c != 0) = true := by simpa using h0
    clear hc
    go_wp2_with fail
    go_ret
    exact ⟨rfl, Below.then HB0.out HB2.out⟩
  · have HC : Hid (WCk (n : Int) len f 0) := hc
    have HGE : Hid (Geo (nat f) len n) := ⟨h10, hin.small, hw.1⟩
    have hpn := pw_le n h10
    have hpp := pw_pos n
    have hc0 : ∀ w', Below W0.heap.size W0 w' → w'.cell? ⟨w.heap.size, 0, none⟩ = some (.int .i64 (n : Nat)) := fun w' h => (K0.step h).c0
    have hc1 : ∀ w', Below W0.heap.size W0 w' → w'.cell? ⟨w.heap.size, 1, none⟩ = some (.slice a len cap) := fun w' h => (K0.step h).c1
    have HHU : Hid (∀ x, x < pw n → ∀ w', Below W0.heap.size W0 w' → Calls Tryd.prog 21 #[.agg #[.int .i64 (n : Nat), .slice a len cap], .int .i64 (x : Nat)] w' fun e w'' => e = .returned (.tuple #[.int .i64 (hul (nat f) len n x : Nat), .int .i64 0]) ∧ Below w'.heap.size w' w'') := fun x hx w' h => (hullX_any n a len cap f x w' hl (K0.step h).row (HT0.out.step h)).mono fun e w'' ⟨he, hb⟩ => ⟨he.ok h10 HC.out hx, hb⟩
    have HCN : Hid (∀ x, x < pw n → ∀ w', Below W0.heap.size W0 w' → Calls Tryd.prog 25 #[.agg #[.int .i64 (n : Nat), .slice a len cap], .int .i64 (x : Nat)] w' fun e w'' => e = .returned (.tuple #[.int .i64 (crn (nat f) len n x : Nat), .int .i64 0]) ∧ Below w'.heap.size w' w'') := fun x hx w' h => (corners_any n a len cap f x w' hl (K0.step h).row (HT0.out.step h)).mono fun e w'' ⟨he, hb⟩ => ⟨he.ok h10 HC.out hx, hb⟩
    clear hc hin hris hw
    go_wp2_with fail
    refine wp_region_held_drew (S := (fun w' => Below W0.heap.size W0 w')) (by kernel_rfl) (HB2.out.drew) (fun hHeld => ?_)
    refine wpAnyH_take (i := 0) (oi := { dst := some 30, op := Go.Op.move (Go.Operand.tmp 1), type := 3, pos := "imply.go:266", after := #[], guard := none }) (v := ?_) rfl (by kernel_rfl) (by kernel_rfl) (by kernel_rfl) (fun _ _ _ h => h) (Or.inl ⟨by rfl, ?hy⟩) (by assumption) ?_
    case hy => (intro w9 hSw; (try dsimp only at hSw); go_simp; try with_reducible rfl)
    try simp only [Act.put, List.setIfInBounds_toArray, List.set_cons_zero, List.set_cons_succ]
    refine wpAnyH_take (i := 1) (oi := { dst := some 31, op := Go.Op.fieldAddr 24 (Go.Operand.tmp 3) 0, type := 0, pos := "imply.go:266", after := #[], guard := none }) (v := ?_) rfl (by kernel_rfl) (by kernel_rfl) (by kernel_rfl) (fun _ _ _ h => h) (Or.inl ⟨by rfl, ?hy⟩) (by assumption) ?_
    case hy => (intro w9 hSw; (try dsimp only at hSw); go_simp; try with_reducible rfl)
    try simp only [Act.put, List.setIfInBounds_toArray, List.set_cons_zero, List.set_cons_succ]
    refine wpAnyH_take (i := 2) (oi := { dst := some 32, op := Go.Op.load 3 (Go.Operand.tmp 31), type := 3, pos := "imply.go:266", after := #[{ on := 1, ground := Go.Ground.data }], guard := none }) (v := ?_) rfl (by kernel_rfl) (by kernel_rfl) (by kernel_rfl) (fun _ _ _ h => h) (Or.inl ⟨by rfl, ?hy⟩) (by assumption) ?_
    case hy => (intro w9 hSw; (try dsimp only at hSw); go_simp; try with_reducible rfl)
    try simp only [Act.put, List.setIfInBounds_toArray, List.set_cons_zero, List.set_cons_succ]
    refine wpAnyH_take (i := 5) (oi := { dst := some 35, op := Go.Op.move (Go.Operand.tmp 2), type := 3, pos := "imply.go:266", after := #[], guard := none }) (v := ?_) rfl (by kernel_rfl) (by kernel_rfl) (by kernel_rfl) (fun _ _ _ h => h) (Or.inl ⟨by rfl, ?hy⟩) (by assumption) ?_
    case hy => (intro w9 hSw; (try dsimp only at hSw); go_simp; try with_reducible rfl)
    try simp only [Act.put, List.setIfInBounds_toArray, List.set_cons_zero, List.set_cons_succ]
    refine wpAnyH_take (i := 6) (oi := { dst := some 36, op := Go.Op.fieldAddr 24 (Go.Operand.tmp 3) 0, type := 0, pos := "imply.go:266", after := #[], guard := none }) (v := ?_) rfl (by kernel_rfl) (by kernel_rfl) (by kernel_rfl) (fun _ _ _ h => h) (Or.inl ⟨by rfl, ?hy⟩) (by assumption) ?_
    case hy => (intro w9 hSw; (try dsimp only at hSw); go_simp; try with_reducible rfl)
    try simp only [Act.put, List.setIfInBounds_toArray, List.set_cons_zero, List.set_cons_succ]
    refine wpAnyH_take (i := 7) (oi := { dst := some 37, op := Go.Op.load 3 (Go.Operand.tmp 36), type := 3, pos := "imply.go:266", after := #[{ on := 6, ground := Go.Ground.data }], guard := none }) (v := ?_) rfl (by kernel_rfl) (by kernel_rfl) (by kernel_rfl) (fun _ _ _ h => h) (Or.inl ⟨by rfl, ?hy⟩) (by assumption) ?_
    case hy => (intro w9 hSw; (try dsimp only at hSw); go_simp; try with_reducible rfl)
    try simp only [Act.put, List.setIfInBounds_toArray, List.set_cons_zero, List.set_cons_succ]
    refine wpAnyH_ready (rs := [3]) (by kernel_rfl) (by simp) ?_
    refine AllReadyH.cons (o := { dst := some 33, op := Go.Op.call { callee := Go.Callee.value (Go.Operand.func 31), args := #[Go.Operand.tmp 32], argTypes := #[3] }, type := 3, pos := "imply.go:266", after := #[{ on := 2, ground := Go.Ground.data }], guard := none }) rfl (fun K hK => ?_) AllReadyH.nil
    go_simp
    refine (bit_any n _ (by omega)).mono ?_
    rintro e w5 ⟨rfl, hw1⟩
    subst hw1
    refine hK.out _ _ ?_ (fun hHeld => ?_)
    · first | assumption | exact Below.then (by assumption) (by assumption)
    clear hK K
    try simp only [Act.put, List.setIfInBounds_toArray, List.set_cons_zero, List.set_cons_succ]
    refine wpAnyH_ready (rs := [4]) (by kernel_rfl) (by simp) ?_
    refine AllReadyH.cons (o := { dst := some 34, op := Go.Op.call { callee := Go.Callee.value (Go.Operand.func 30), args := #[Go.Operand.tmp 30, Go.Operand.tmp 33], argTypes := #[3, 3] }, type := 3, pos := "imply.go:266", after := #[{ on := 0, ground := Go.Ground.data }, { on := 3, ground := Go.Ground.data }, { on := 3, ground := Go.Ground.chain }], guard := none }) rfl (fun K hK => ?_) AllReadyH.nil
    go_simp
    refine (choose_any S (pw n) _ hpp (by omega) s1 s2).mono ?_
    rintro e w5 ⟨⟨x, hx, rfl⟩, hw2⟩
    subst hw2
    refine hK.out _ _ ?_ (fun hHeld => ?_)
    · first | assumption | exact Below.then (by assumption) (by assumption)
    clear hK K
    try simp only [Act.put, List.setIfInBounds_toArray, List.set_cons_zero, List.set_cons_succ]
    refine wpAnyH_ready (rs := [8]) (by kernel_rfl) (by simp) ?_
    refine AllReadyH.cons (o := { dst := some 38, op := Go.Op.call { callee := Go.Callee.value (Go.Operand.func 31), args := #[Go.Operand.tmp 37], argTypes := #[3] }, type := 3, pos := "imply.go:266", after := #[{ on := 7, ground := Go.Ground.data }, { on := 4, ground := Go.Ground.chain }], guard := none }) rfl (fun K hK => ?_) AllReadyH.nil
    go_simp
    refine (bit_any n _ (by omega)).mono ?_
    rintro e w5 ⟨rfl, hw3⟩
    subst hw3
    refine hK.out _ _ ?_ (fun hHeld => ?_)
    · first | assumption | exact Below.then (by assumption) (by assumption)
    clear hK K
    try simp only [Act.put, List.setIfInBounds_toArray, List.set_cons_zero, List.set_cons_succ]
    refine wpAnyH_ready (rs := [9]) (by kernel_rfl) (by simp) ?_
    refine AllReadyH.cons (o := { dst := some 39, op := Go.Op.call { callee := Go.Callee.value (Go.Operand.func 30), args := #[Go.Operand.tmp 35, Go.Operand.tmp 38], argTypes := #[3, 3] }, type := 3, pos := "imply.go:266", after := #[{ on := 5, ground := Go.Ground.data }, { on := 8, ground := Go.Ground.data }, { on := 8, ground := Go.Ground.chain }], guard := none }) rfl (fun K hK => ?_) AllReadyH.nil
    go_simp
    refine (choose_any U (pw n) _ hpp (by omega) u1 u2).mono ?_
    rintro e w5 ⟨⟨y, hy, rfl⟩, hw4⟩
    subst hw4
    refine hK.out _ _ ?_ (fun hHeld => ?_)
    · first | assumption | exact Below.then (by assumption) (by assumption)
    clear hK K
    try simp only [Act.put, List.setIfInBounds_toArray, List.set_cons_zero, List.set_cons_succ]
    refine wpAnyH_take (i := 10) (oi := { dst := some 1, op := Go.Op.assign (Go.Operand.tmp 34), type := 3, pos := "imply.go:266", after := #[{ on := 4, ground := Go.Ground.data }, { on := 9, ground := Go.Ground.chain }, { on := 0, ground := Go.Ground.phase }, { on := 1, ground := Go.Ground.phase }, { on := 2, ground := Go.Ground.phase }, { on := 3, ground := Go.Ground.phase }, { on := 4, ground := Go.Ground.phase }, { on := 5, ground := Go.Ground.textOnly Go.Departure.lateStores }, { on := 6, ground := Go.Ground.textOnly Go.Departure.lateStores }, { on := 7, ground := Go.Ground.textOnly Go.Departure.lateStores }, { on := 8, ground := Go.Ground.textOnly Go.Departure.lateStoresUnsure }, { on := 9, ground := Go.Ground.textOnly Go.Departure.lateStoresUnsure }], guard := none }) (v := ?_) rfl (by kernel_rfl) (by kernel_rfl) (by kernel_rfl) (fun _ _ _ h => h) (Or.inl ⟨by rfl, ?hy⟩) (by assumption) ?_
    case hy => (intro w9 hSw; (try dsimp only at hSw); go_simp; try with_reducible rfl)
    try simp only [Act.put, List.setIfInBounds_toArray, List.set_cons_zero, List.set_cons_succ]
    refine wpAnyH_take (i := 11) (oi := { dst := some 2, op := Go.Op.assign (Go.Operand.tmp 39), type := 3, pos := "imply.go:266", after := #[{ on := 9, ground := Go.Ground.data }, { on := 10, ground := Go.Ground.chain }, { on := 0, ground := Go.Ground.phase }, { on := 1, ground := Go.Ground.phase }, { on := 2, ground := Go.Ground.phase }, { on := 3, ground := Go.Ground.phase }, { on := 4, ground := Go.Ground.phase }, { on := 5, ground := Go.Ground.phase }, { on := 6, ground := Go.Ground.phase }, { on := 7, ground := Go.Ground.phase }, { on := 8, ground := Go.Ground.phase }, { on := 9, ground := Go.Ground.phase }, { on := 10, ground := Go.Ground.phase }], guard := none }) (v := ?_) rfl (by kernel_rfl) (by kernel_rfl) (by kernel_rfl) (fun _ _ _ h => h) (Or.inl ⟨by rfl, ?hy⟩) (by assumption) ?_
    case hy => (intro w9 hSw; (try dsimp only at hSw); go_simp; try with_reducible rfl)
    try simp only [Act.put, List.setIfInBounds_toArray, List.set_cons_zero, List.set_cons_succ]
    refine wpAnyH_done (by kernel_rfl) ?_ _
    try simp only [Act.put, List.setIfInBounds_toArray, List.set_cons_zero, List.set_cons_succ]
    have HB3 := (show Hid (Below W0.heap.size W0 _) from hHeld)
    clear hHeld
    have H1 := (show Hid _ from HHU.out x hx)
    have H2 := (show Hid _ from HCN.out x hx)
    have H3 := (show Hid _ from HHU.out (crn (nat f) len n x) (crn_lt _ _ _ _))
    have H4 := (show Hid _ from HHU.out (hul (nat f) len n x) (hul_lt _ _ _ _))
    have H5 := (show Hid _ from HHU.out (x ||| y) (Nat.or_lt_two_pow hx hy))
    have H6 := (show Hid _ from HCN.out (hul (nat f) len n x) (hul_lt _ _ _ _))
    rw [HGE.out.hul_crn hx] at H3
    rw [HGE.out.hul_hul hx] at H4
    rw [HGE.out.crn_hul hx] at H6
    have hhl := hul_lt (nat f) len n x
    have hcl := crn_lt (nat f) len n x
    have hzl := hul_lt (nat f) len n (x ||| y)
    have i1 : (lack x (hul (nat f) len n x) == 0) = true := lack_sub (by omega) (by omega) (fun i hi => HGE.out.sub_hul hx hi)
    have i2 : (lack (crn (nat f) len n x) x == 0) = true := lack_sub (by omega) (by omega) (fun i hi => HGE.out.crn_sub hx hi)
    have i3 : (lack (hul (nat f) len n x) (hul (nat f) len n (x ||| y)) == 0) = true := lack_sub (by omega) (by omega) (fun i hi => HGE.out.hul_mono (fun j hj => by rw [Nat.testBit_or, hj]; rfl) hi)
    clear HHU HCN
    generalize hul (nat f) len n x = h at *
    generalize crn (nat f) len n x = c at *
    generalize hul (nat f) len n (x ||| y) = z at *
    have k0 := hc0 _ HB3.out
    have k1 := hc1 _ HB3.out
    go_wp2_with fail
    refine (H1.out _ HB3.out).mono ?_
    rintro e w4 ⟨rfl, hb4⟩
    have HB4 : Hid (Below W0.heap.size W0 w4) := Below.then HB3.out hb4
    clear hb4 H1 k0 k1 HB3
    have k0 := hc0 _ HB4.out
    have k1 := hc1 _ HB4.out
    go_wp2_with fail
    refine (H2.out _ HB4.out).mono ?_
    rintro e w5 ⟨rfl, hb5⟩
    have HB5 : Hid (Below W0.heap.size W0 w5) := Below.then HB4.out hb5
    clear hb5 H2 k0 k1 HB4
    have k0 := hc0 _ HB5.out
    have k1 := hc1 _ HB5.out
    go_wp2_with fail
    refine (H3.out _ HB5.out).mono ?_
    rintro e w6 ⟨rfl, hb6⟩
    have HB6 : Hid (Below W0.heap.size W0 w6) := Below.then HB5.out hb6
    clear hb6 H3 k0 k1 HB5
    have k0 := hc0 _ HB6.out
    have k1 := hc1 _ HB6.out
    go_wp2_with fail
    refine (H4.out _ HB6.out).mono ?_
    rintro e w7 ⟨rfl, hb7⟩
    have HB7 : Hid (Below W0.heap.size W0 w7) := Below.then HB6.out hb7
    clear hb7 H4 k0 k1 HB6
    go_wp2_with fail
    refine wp_region_held_drew (S := (fun w' => Below W0.heap.size W0 w')) (by kernel_rfl) (HB7.out.drew) (fun hHeld => ?_)
    refine wpAnyH_take (i := 0) (oi := { dst := some 65, op := Go.Op.load 24 (Go.Operand.tmp 3), type := 24, pos := "imply.go:271", after := #[], guard := none }) (v := ?_) rfl (by kernel_rfl) (by kernel_rfl) (by kernel_rfl) (fun _ _ _ h => h) (Or.inl ⟨by rfl, ?hy⟩) (by assumption) ?_
    case hy => (intro w9 hSw; (try dsimp only at hSw); go_simp; try with_reducible rfl)
    try simp only [Act.put, List.setIfInBounds_toArray, List.set_cons_zero, List.set_cons_succ]
    refine wpAnyH_take (i := 1) (oi := { dst := some 66, op := Go.Op.move (Go.Operand.tmp 1), type := 3, pos := "imply.go:271", after := #[], guard := none }) (v := ?_) rfl (by kernel_rfl) (by kernel_rfl) (by kernel_rfl) (fun _ _ _ h => h) (Or.inl ⟨by rfl, ?hy⟩) (by assumption) ?_
    case hy => (intro w9 hSw; (try dsimp only at hSw); go_simp; try with_reducible rfl)
    try simp only [Act.put, List.setIfInBounds_toArray, List.set_cons_zero, List.set_cons_succ]
    refine wpAnyH_take (i := 2) (oi := { dst := some 67, op := Go.Op.move (Go.Operand.tmp 2), type := 3, pos := "imply.go:271", after := #[], guard := none }) (v := ?_) rfl (by kernel_rfl) (by kernel_rfl) (by kernel_rfl) (fun _ _ _ h => h) (Or.inl ⟨by rfl, ?hy⟩) (by assumption) ?_
    case hy => (intro w9 hSw; (try dsimp only at hSw); go_simp; try with_reducible rfl)
    try simp only [Act.put, List.setIfInBounds_toArray, List.set_cons_zero, List.set_cons_succ]
    refine wpAnyH_ready (rs := [3]) (by kernel_rfl) (by simp) ?_
    refine AllReadyH.cons (o := { dst := some 68, op := Go.Op.call { callee := Go.Callee.value (Go.Operand.func 32), args := #[Go.Operand.tmp 66, Go.Operand.tmp 67], argTypes := #[3, 3] }, type := 3, pos := "imply.go:271", after := #[{ on := 1, ground := Go.Ground.data }, { on := 2, ground := Go.Ground.data }], guard := none }) rfl (fun K hK => ?_) AllReadyH.nil
    go_simp
    refine (tog_quiet x y _ (by omega) (by omega)).mono ?_
    rintro e w7 ⟨rfl, hw7⟩
    subst hw7
    refine hK.out _ _ ?_ (fun hHeld => ?_)
    · first | assumption | exact Below.then (by assumption) (by assumption)
    clear hK K
    try simp only [Act.put, List.setIfInBounds_toArray, List.set_cons_zero, List.set_cons_succ]
    refine wpAnyH_ready (rs := [4]) (by kernel_rfl) (by simp) ?_
    refine AllReadyH.cons (o := { dst := some 69, op := Go.Op.call { callee := Go.Callee.value (Go.Operand.func 21), args := #[Go.Operand.tmp 65, Go.Operand.tmp 68], argTypes := #[24, 3] }, type := 40, pos := "imply.go:271", after := #[{ on := 0, ground := Go.Ground.data }, { on := 3, ground := Go.Ground.data }, { on := 3, ground := Go.Ground.chain }], guard := none }) rfl (fun K hK => ?_) AllReadyH.nil
    go_simp
    refine (H5.out _ hHeld).mono ?_
    rintro e w8 ⟨rfl, hb8⟩
    refine hK.out _ _ ?_ (fun hHeld => ?_)
    · first | assumption | exact Below.then (by assumption) (by assumption)
    clear hK K
    try simp only [Act.put, List.setIfInBounds_toArray, List.set_cons_zero, List.set_cons_succ]
    refine wpAnyH_take (i := 5) (oi := { dst := some 64, op := Go.Op.move (Go.Operand.tmp 69), type := 40, pos := "imply.go:271", after := #[{ on := 4, ground := Go.Ground.data }], guard := none }) (v := ?_) rfl (by kernel_rfl) (by kernel_rfl) (by kernel_rfl) (fun _ _ _ h => h) (Or.inl ⟨by rfl, ?hy⟩) (by assumption) ?_
    case hy => (intro w9 hSw; (try dsimp only at hSw); go_simp; try with_reducible rfl)
    try simp only [Act.put, List.setIfInBounds_toArray, List.set_cons_zero, List.set_cons_succ]
    refine wpAnyH_take (i := 6) (oi := { dst := some 70, op := Go.Op.extract (Go.Operand.tmp 64) 0, type := 3, pos := "imply.go:271", after := #[{ on := 5, ground := Go.Ground.data }], guard := none }) (v := ?_) rfl (by kernel_rfl) (by kernel_rfl) (by kernel_rfl) (fun _ _ _ h => h) (Or.inl ⟨by rfl, ?hy⟩) (by assumption) ?_
    case hy => (intro w9 hSw; (try dsimp only at hSw); go_simp; try with_reducible rfl)
    try simp only [Act.put, List.setIfInBounds_toArray, List.set_cons_zero, List.set_cons_succ]
    refine wpAnyH_take (i := 7) (oi := { dst := some 71, op := Go.Op.extract (Go.Operand.tmp 64) 1, type := 25, pos := "imply.go:271", after := #[{ on := 5, ground := Go.Ground.data }, { on := 8, ground := Go.Ground.gcOnly Go.Departure.lateStores }], guard := none }) (v := ?_) rfl (by kernel_rfl) (by kernel_rfl) (by kernel_rfl) (fun _ _ _ h => h) (Or.inl ⟨by rfl, ?hy⟩) (by assumption) ?_
    case hy => (intro w9 hSw; (try dsimp only at hSw); go_simp; try with_reducible rfl)
    try simp only [Act.put, List.setIfInBounds_toArray, List.set_cons_zero, List.set_cons_succ]
    refine wpAnyH_take (i := 8) (oi := { dst := some 17, op := Go.Op.assign (Go.Operand.tmp 70), type := 3, pos := "imply.go:271", after := #[{ on := 6, ground := Go.Ground.data }, { on := 4, ground := Go.Ground.chain }, { on := 0, ground := Go.Ground.phase }, { on := 1, ground := Go.Ground.phase }, { on := 2, ground := Go.Ground.phase }, { on := 3, ground := Go.Ground.phase }, { on := 4, ground := Go.Ground.phase }, { on := 5, ground := Go.Ground.phase }, { on := 6, ground := Go.Ground.phase }, { on := 7, ground := Go.Ground.textOnly Go.Departure.lateStores }], guard := none }) (v := ?_) rfl (by kernel_rfl) (by kernel_rfl) (by kernel_rfl) (fun _ _ _ h => h) (Or.inl ⟨by rfl, ?hy⟩) (by assumption) ?_
    case hy => (intro w9 hSw; (try dsimp only at hSw); go_simp; try with_reducible rfl)
    try simp only [Act.put, List.setIfInBounds_toArray, List.set_cons_zero, List.set_cons_succ]
    refine wpAnyH_take (i := 9) (oi := { dst := some 18, op := Go.Op.assign (Go.Operand.tmp 71), type := 25, pos := "imply.go:271", after := #[{ on := 7, ground := Go.Ground.data }, { on := 8, ground := Go.Ground.chain }, { on := 0, ground := Go.Ground.phase }, { on := 1, ground := Go.Ground.phase }, { on := 2, ground := Go.Ground.phase }, { on := 3, ground := Go.Ground.phase }, { on := 4, ground := Go.Ground.phase }, { on := 5, ground := Go.Ground.phase }, { on := 6, ground := Go.Ground.phase }, { on := 7, ground := Go.Ground.phase }, { on := 8, ground := Go.Ground.phase }], guard := none }) (v := ?_) rfl (by kernel_rfl) (by kernel_rfl) (by kernel_rfl) (fun _ _ _ h => h) (Or.inl ⟨by rfl, ?hy⟩) (by assumption) ?_
    case hy => (intro w9 hSw; (try dsimp only at hSw); go_simp; try with_reducible rfl)
    try simp only [Act.put, List.setIfInBounds_toArray, List.set_cons_zero, List.set_cons_succ]
    refine wpAnyH_done (by kernel_rfl) ?_ _
    try simp only [Act.put, List.setIfInBounds_toArray, List.set_cons_zero, List.set_cons_succ]
    have HB8 := (show Hid (Below W0.heap.size W0 _) from hHeld)
    clear hHeld
    have k0 := hc0 _ HB8.out
    have k1 := hc1 _ HB8.out
    go_wp2_with fail
    refine (H6.out _ HB8.out).mono ?_
    rintro e w9 ⟨rfl, hb9⟩
    have HB9 : Hid (Below W0.heap.size W0 w9) := Below.then HB8.out hb9
    clear hb9 H6 k0 k1 HB8
    go_wp2_with fail
    refine (inside_any x h _ (by omega) (by omega)).mono ?_
    rintro e w' ⟨rfl, rfl⟩
    rw [i1]
    go_wp2_with fail
    refine (inside_any c x _ (by omega) (by omega)).mono ?_
    rintro e w' ⟨rfl, rfl⟩
    rw [i2]
    go_wp2_with fail
    refine (inside_any h z _ (by omega) (by omega)).mono ?_
    rintro e w' ⟨rfl, rfl⟩
    rw [i3]
    go_wp2_with fail
    go_ret
    exact ⟨rfl, Below.then HB0.out HB9.out⟩
end Go.Proofs.YtjoklkbfcobfeaaDoor
