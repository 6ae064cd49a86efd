/-
  hasselaw.ChainShapes returns true for every order. Conditions: the library's table lies in its variable; a slice reads as a slice of numbers.
-/
import Derived.Deep.RegionHeld3
import Derived.Test.YtidikadapmjhpaaDoorRefShape
import Derived.Test.YtidikadapmjhpaaDoorChBegun
namespace Go.Proofs.YtidikadapmjhpaaDoor
open Go.RowKit

theorem numbersAre_any (c : Int) (l : List Nat) (v v' : Value) (w : World) (hl : l.length ≤ maxLen) (h1 : (c ≠ 0 ∧ v = .slice none 0 0 ∧ v' = .slice none 0 0) ∨ (c = 0 ∧ NSl w v l ∧ NSl w v' l)) :
    Calls Tryd.prog 9 #[v, .int .i64 c, .int .i64 c, v'] w fun e w' => e = .returned (.bool true) ∧ Below w.heap.size w w' := by
  rcases h1 with ⟨h0, rfl, rfl⟩ | ⟨rfl, ⟨a, ca, rfl, hr⟩, ⟨b, cb, rfl, hr'⟩⟩
  · have hne : (c != 0) = true := by simpa using h0
    go_enter Tryd.func9, Tryd.ntmps9
    go_wp2_with fail
    refine (same_any none none 0 0 0 0 (fun _ => 0) (fun _ => 0) _ (by unfold maxLen; omega) (by unfold maxLen; omega) (fun k hk => absurd hk (Nat.not_lt_zero _)) (fun k hk => absurd hk (Nat.not_lt_zero _))).mono ?_
    rintro e w1 ⟨⟨q, rfl, hq⟩, hB⟩
    obtain rfl : q = true := hq.2 ⟨rfl, fun _ _ => rfl⟩
    have HB : Hid (Below w.heap.size w w1) := hB
    clear hq hB
    go_wp2_with fail
    go_ret
    exact ⟨rfl, HB.out⟩
  · generalize l.length = m at *
    have HA : Hid (Row w a m (fun k => (nth l k : Nat))) := hr
    have HB' : Hid (Row w b m (fun k => (nth l k : Nat))) := hr'
    clear hr hr'
    go_enter Tryd.func9, Tryd.ntmps9
    go_wp2_with fail
    refine (same_any a b m ca m cb (fun k => (nth l k : Nat)) (fun k => (nth l k : Nat)) _ hl hl HA.out HB'.out).mono ?_
    rintro e w1 ⟨⟨q, rfl, hq⟩, hB⟩
    obtain rfl : q = true := hq.2 ⟨rfl, fun _ _ => rfl⟩
    have HB : Hid (Below w.heap.size w w1) := hB
    clear hq hB
    go_wp2_with fail
    go_ret
    exact ⟨rfl, HB.out⟩

theorem NSl.below {w w' : World} {v : Value} {l : List Nat} (h : NSl w v l) (hb : Below w.heap.size w w') : NSl w' v l := by
  obtain ⟨a, cap, rfl, hr⟩ := h
  exact ⟨a, cap, rfl, hr.below hb⟩

set_option maxRecDepth 20000 in
set_option maxHeartbeats 4000000 in
theorem chainShapes_any (n : Int) (a : Option Addr) (len cap : Nat) (f : Nat → Int) (w : World) (hl : len ≤ maxLen) (hr : Row w a len f) (hT : Tab w) :
    Calls Tryd.prog 3 #[.agg #[.int .i64 n, .slice a len cap]] w fun e w' => e = .returned (.bool true) ∧ Below w.heap.size w w' := by
  have K0 : Held (w.alloc (.cells #[.int .i64 n, .slice a len cap] 24)) w.heap.size n a len cap f := Held.box hr
  have HB0 : Hid (Below w.heap.size w (w.alloc (.cells #[.int .i64 n, .slice a len cap] 24))) := (Below.refl _ _).alloc (Nat.le_refl _) _
  have HT : Hid (Tab w) := hT
  clear hr hT
  go_enter Tryd.func3, Tryd.ntmps3
  go_wp2_with fail
  refine (byChains_any n a len cap f _ hl K0.row (HT.out.step HB0.out)).mono ?_
  rintro e w1 ⟨⟨c, v1, hc1, rfl, hv1⟩, hb1⟩
  have K1 := K0.step hb1
  have HB1 : Hid (Below w.heap.size w w1) := Below.then HB0.out hb1
  have HC : Hid (Chk n len f c) := hc1
  have HV1 : Hid ((c ≠ 0 ∧ v1 = .slice none 0 0) ∨ (c = 0 ∧ NSl w1 v1 (shape (kin (nat f) len) len))) := hv1
  have k0 := K1.c0
  have k1 := K1.c1
  clear hc1 hv1 hb1 K0 HB0
  go_wp2_with fail
  refine (byAnti_any n a len cap f _ hl K1.row (HT.out.step HB1.out)).mono ?_
  rintro e w2 ⟨⟨c2, v2, hc2, rfl, hv2⟩, hb2⟩
  obtain rfl := HC.out.unique hc2
  have K2 := K1.step hb2
  have HB2 : Hid (Below w.heap.size w w2) := Below.then HB1.out hb2
  have HV12 : Hid ((c ≠ 0 ∧ v1 = .slice none 0 0) ∨ (c = 0 ∧ NSl w2 v1 (shape (kin (nat f) len) len))) := by
    rcases HV1.out with h | ⟨h0, h⟩
    · exact .inl h
    · exact .inr ⟨h0, h.below hb2⟩
  have HV2 : Hid ((c ≠ 0 ∧ v2 = .slice none 0 0) ∨ (c = 0 ∧ NSl w2 v2 (shape (strg (nat f) len) len))) := hv2
  clear k0 k1
  have k0 := K2.c0
  have k1 := K2.c1
  clear hc2 hv2 hb2 K1 HB1 HV1
  go_wp2_with fail
  refine (checkOrder_any n a len cap f _ hl K2.row).mono ?_
  rintro e W ⟨⟨c3, rfl, hc3⟩, hb3⟩
  obtain rfl := HC.out.unique hc3
  have K3 := K2.step hb3
  have HB3 : Hid (Below w.heap.size w W) := Below.then HB2.out hb3
  have HTW : Hid (Tab W) := HT.out.step HB3.out
  clear k0 k1 hc3
  by_cases h0 : c = 0
  · subst h0
    obtain ⟨rfl, h10, hrng, hord⟩ := HC.out.good
    have HG : Hid (∀ k, k < len → nat f k < 1024) := hrng.small2 h10
    have LR : Hid (∀ w', Below W.heap.size W w' → Row w' a len (fun k => (nat f k : Nat))) := fun w' h => (hrng.row K3.row).below h
    have HF1 : Hid (Foe (kin (nat f) len) len) := kin_foe h10 hrng.small hord
    have HF2 : Hid (Foe (strg (nat f) len) len) := strg_foe h10 hrng.small
    have HS1 : Hid (∀ s, s < pw len → Says false (kin (nat f) len) (nat f) len s) := fun s hs => free_ant hs
    have HS2 : Hid (∀ s, s < pw len → Says true (strg (nat f) len) (nat f) len s) := fun s hs => free_chain h10 hrng.small hs
    have HL1 : Hid ((shape (kin (nat f) len) len).length ≤ maxLen) := Nat.le_trans (shape_len _ h10) (by unfold maxLen; omega)
    have HL2 : Hid ((shape (strg (nat f) len) len).length ≤ maxLen) := Nat.le_trans (shape_len _ h10) (by unfold maxLen; omega)
    have HN1 : Hid (∀ w', Below W.heap.size W w' → NSl w' v1 (shape (kin (nat f) len) len)) := fun w' h => by
      rcases HV12.out with ⟨h0, _⟩ | ⟨_, hv⟩
      · exact absurd rfl h0
      · exact (hv.below hb3).below h
    have HN2 : Hid (∀ w', Below W.heap.size W w' → NSl w' v2 (shape (strg (nat f) len) len)) := fun w' h => by
      rcases HV2.out with ⟨h0, _⟩ | ⟨_, hv⟩
      · exact absurd rfl h0
      · exact (hv.below hb3).below h
    have m0 : ∀ w', Below W.heap.size W w' → w'.cell? ⟨w.heap.size, 0, none⟩ = some (.int .i64 (len : Int)) := fun w' h => (K3.step h).c0
    have m1 : ∀ w', Below W.heap.size W w' → w'.cell? ⟨w.heap.size, 1, none⟩ = some (.slice a len cap) := fun w' h => (K3.step h).c1
    have KK : Below W.heap.size W W.drew := (Below.refl _ _).drew
    clear hrng hord hb3 HB2 HV12 HV2 K2 K3
    go_wp2_with fail
    refine wp_region_held_drew (S := (fun w' => Below W.heap.size W w')) (by kernel_rfl) (KK) (fun hHeld => ?_)
    refine wpAnyH_take (i := 0) (oi := { dst := some 24, op := Go.Op.load 24 (Go.Operand.tmp 1), type := 24, pos := "chain.go:160", after := #[], guard := none }) (v := ?_) rfl (by kernel_rfl) (by kernel_rfl) (by kernel_rfl) (fun _ _ _ h => h) (Or.inl ⟨by rfl, ?hy⟩) (by assumption) ?_
    case hy => (intro w9 hSw; (try dsimp only at hSw); go_simp; try with_reducible rfl)
    try simp only [Act.put, List.setIfInBounds_toArray, List.set_cons_zero, List.set_cons_succ]
    refine wpAnyH_take (i := 2) (oi := { dst := some 26, op := Go.Op.load 24 (Go.Operand.tmp 1), type := 24, pos := "chain.go:160", after := #[], guard := none }) (v := ?_) rfl (by kernel_rfl) (by kernel_rfl) (by kernel_rfl) (fun _ _ _ h => h) (Or.inl ⟨by rfl, ?hy⟩) (by assumption) ?_
    case hy => (intro w9 hSw; (try dsimp only at hSw); go_simp; try with_reducible rfl)
    try simp only [Act.put, List.setIfInBounds_toArray, List.set_cons_zero, List.set_cons_succ]
    refine wpAnyH_ready (rs := [1]) (by kernel_rfl) (by simp) ?_
    refine AllReadyH.cons (o := { dst := some 25, op := Go.Op.call { callee := Go.Callee.value (Go.Operand.func 7), args := #[Go.Operand.tmp 24, Go.Operand.const (Go.Value.bool false)], argTypes := #[24, 4] }, type := 22, pos := "chain.go:160", after := #[{ on := 0, ground := Go.Ground.data }], guard := none }) rfl (fun K hK => ?_) AllReadyH.nil
    go_simp
    refine (refShape_any false len a cap (nat f) (kin (nat f) len) _ h10 HG.out (LR.out _ (by assumption)) HF1.out HS1.out).mono ?_
    rintro e w5 ⟨⟨v5, rfl, hv5⟩, hbb5⟩
    have HV5 : Hid (NSl w5 v5 (shape (kin (nat f) len) len)) := hv5
    clear hv5
    refine hK.out _ _ ?_ (fun hHeld => ?_)
    · first | assumption | exact Below.then (by assumption) (by assumption)
    clear hK K
    try simp only [Act.put, List.setIfInBounds_toArray, List.set_cons_zero, List.set_cons_succ]
    refine wpAnyH_ready (rs := [3]) (by kernel_rfl) (by simp) ?_
    refine AllReadyH.cons (o := { dst := some 27, op := Go.Op.call { callee := Go.Callee.value (Go.Operand.func 7), args := #[Go.Operand.tmp 26, Go.Operand.const (Go.Value.bool true)], argTypes := #[24, 4] }, type := 22, pos := "chain.go:160", after := #[{ on := 2, ground := Go.Ground.data }, { on := 1, ground := Go.Ground.chain }], guard := none }) rfl (fun K hK => ?_) AllReadyH.nil
    go_simp
    refine (refShape_any true len a cap (nat f) (strg (nat f) len) _ h10 HG.out (LR.out _ (by assumption)) HF2.out HS2.out).mono ?_
    rintro e w6 ⟨⟨v6, rfl, hv6⟩, hbb6⟩
    have HV56 : Hid (NSl w6 v5 (shape (kin (nat f) len) len)) := HV5.out.below hbb6
    have HV6 : Hid (NSl w6 v6 (shape (strg (nat f) len) len)) := hv6
    clear hv6
    refine hK.out _ _ ?_ (fun hHeld => ?_)
    · first | assumption | exact Below.then (by assumption) (by assumption)
    clear hK K
    try simp only [Act.put, List.setIfInBounds_toArray, List.set_cons_zero, List.set_cons_succ]
    refine wpAnyH_take (i := 4) (oi := { dst := some 8, op := Go.Op.assign (Go.Operand.tmp 25), type := 22, pos := "chain.go:160", after := #[{ on := 1, ground := Go.Ground.data }, { on := 3, ground := Go.Ground.chain }, { on := 0, ground := Go.Ground.phase }, { on := 1, ground := Go.Ground.phase }, { on := 2, ground := Go.Ground.textOnly Go.Departure.lateStores }, { on := 3, ground := Go.Ground.textOnly Go.Departure.lateStoresUnsure }], guard := none }) (v := ?_) rfl (by kernel_rfl) (by kernel_rfl) (by kernel_rfl) (fun _ _ _ h => h) (Or.inl ⟨by rfl, ?hy⟩) (by assumption) ?_
    case hy => (intro w9 hSw; (try dsimp only at hSw); go_simp; try with_reducible rfl)
    try simp only [Act.put, List.setIfInBounds_toArray, List.set_cons_zero, List.set_cons_succ]
    refine wpAnyH_take (i := 5) (oi := { dst := some 9, op := Go.Op.assign (Go.Operand.tmp 27), type := 22, pos := "chain.go:160", after := #[{ on := 3, ground := Go.Ground.data }, { on := 4, ground := Go.Ground.chain }, { on := 0, ground := Go.Ground.phase }, { on := 1, ground := Go.Ground.phase }, { on := 2, ground := Go.Ground.phase }, { on := 3, ground := Go.Ground.phase }, { on := 4, ground := Go.Ground.phase }], guard := none }) (v := ?_) rfl (by kernel_rfl) (by kernel_rfl) (by kernel_rfl) (fun _ _ _ h => h) (Or.inl ⟨by rfl, ?hy⟩) (by assumption) ?_
    case hy => (intro w9 hSw; (try dsimp only at hSw); go_simp; try with_reducible rfl)
    try simp only [Act.put, List.setIfInBounds_toArray, List.set_cons_zero, List.set_cons_succ]
    refine wpAnyH_done (by kernel_rfl) ?_ _
    try simp only [Act.put, List.setIfInBounds_toArray, List.set_cons_zero, List.set_cons_succ]
    have hb8 : Below W.heap.size W w6 := by first | assumption | exact hHeld
    have HW6 : Hid (Below W.heap.size W w6) := hb8
    clear hb8 hHeld KK m0 m1
    go_wp2_with fail
    refine (chainBegun_any _ (HTW.out.step HW6.out)).mono ?_
    rintro e w7 ⟨rfl, hb7⟩
    have HW7 : Hid (Below W.heap.size W w7) := Below.then HW6.out hb7
    have HV57 : Hid (NSl w7 v5 (shape (kin (nat f) len) len)) := HV56.out.below hb7
    have HV67 : Hid (NSl w7 v6 (shape (strg (nat f) len) len)) := HV6.out.below hb7
    clear hb7
    go_wp2_with fail
    refine (numbersAre_any 0 (shape (kin (nat f) len) len) v1 v5 _ HL1.out (.inr ⟨rfl, HN1.out _ HW7.out, HV57.out⟩)).mono ?_
    rintro e w8 ⟨rfl, hb8⟩
    have HW8 : Hid (Below W.heap.size W w8) := Below.then HW7.out hb8
    have HV68 : Hid (NSl w8 v6 (shape (strg (nat f) len) len)) := HV67.out.below hb8
    clear hb8
    go_wp2_with fail
    refine (numbersAre_any 0 (shape (strg (nat f) len) len) v2 v6 _ HL2.out (.inr ⟨rfl, HN2.out _ HW8.out, HV68.out⟩)).mono ?_
    rintro e w9 ⟨rfl, hb9⟩
    have HW9 : Hid (Below w.heap.size w w9) := Below.then HB3.out (Below.then HW8.out hb9)
    clear hb9
    go_wp2_with fail
    go_ret
    exact ⟨rfl, HW9.out⟩
  · have hne : (c == 0) = false := by simpa using h0
    obtain rfl : v1 = .slice none 0 0 := by
      rcases HV12.out with ⟨_, h⟩ | ⟨h, _⟩
      · exact h
      · exact absurd h h0
    obtain rfl : v2 = .slice none 0 0 := by
      rcases HV2.out with ⟨_, h⟩ | ⟨h, _⟩
      · exact h
      · exact absurd h h0
    clear hb3 HB2 HV12 HV2 K2 K3
    go_wp2_with fail
    refine (chainBegun_any _ HTW.out).mono ?_
    rintro e w7 ⟨rfl, hb7⟩
    have HW7 : Hid (Below W.heap.size W w7) := hb7
    clear hb7
    go_wp2_with fail
    refine (numbersAre_any c [] _ _ _ (by unfold maxLen; simp) (.inl ⟨h0, rfl, rfl⟩)).mono ?_
    rintro e w8 ⟨rfl, hb8⟩
    have HW8 : Hid (Below W.heap.size W w8) := Below.then HW7.out hb8
    clear hb8
    go_wp2_with fail
    refine (numbersAre_any c [] _ _ _ (by unfold maxLen; simp) (.inl ⟨h0, rfl, rfl⟩)).mono ?_
    rintro e w9 ⟨rfl, hb9⟩
    have HW9 : Hid (Below w.heap.size w w9) := Below.then HB3.out (Below.then HW8.out hb9)
    clear hb9
    go_wp2_with fail
    go_ret
    exact ⟨rfl, HW9.out⟩
end Go.Proofs.YtidikadapmjhpaaDoor
