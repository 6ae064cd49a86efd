/-
  For every order and list of words hasselaw.EmbedGood returns true, and writes nothing that was there. Condition: the table of the least bits.
-/
import Derived.Test.YtimpgcmkdcmhkaaDoorEmG
namespace Go.Proofs.YtimpgcmkdcmhkaaDoor
set_option maxRecDepth 100000
open Go.RowKit

set_option maxHeartbeats 4000000 in
theorem embedGood_any (n : Int) (ao : Option Addr) (len co : Nat) (f : Nat → Int) (a : Option Addr) (m cap : Nat) (S : Nat → Option Addr × Nat × Nat) (F : Nat → Nat → Int) (w : World) (hl : len ≤ maxLen) (hm : m ≤ maxLen) (ho : Row w ao len f) (hr : RR w a m S F) (hT : Tab w) :
    Calls Tryd.prog 5 #[.agg #[.int .i64 n, .slice ao len co], .slice a m cap] w fun e w' => e = .returned (.bool true) ∧ Below w.heap.size w w' := by
  have HB0 : Hid (Below w.heap.size w (w.alloc (.cells #[.int .i64 n, .slice ao len co] 24))) := bel_one w _
  have K0 : Hid (Held (w.alloc (.cells #[.int .i64 n, .slice ao len co] 24)) w.heap.size n ao len co f) := Held.box ho
  have HR0 : Hid (RR w a m S F) := hr
  have HT : Hid (Tab w) := hT
  clear ho hr hT
  have k0 := K0.out.c0
  have k1 := K0.out.c1
  go_enter Tryd.func5, Tryd.ntmps5
  go_wp2_with fail
  refine (good_any n ao len co f a m cap S F _ hl K0.out.row hm (HR0.out.below HB0.out)).mono ?_
  rintro e w1 ⟨⟨c, gi1, gk1, gv, rfl, hc, hv⟩, hb1⟩
  have HB1 : Hid (Below w.heap.size w w1) := Below.then HB0.out hb1
  have K1 : Hid (Held w1 w.heap.size n ao len co f) := K0.out.step hb1
  have HC : Hid (WCk n len f m S F c) := hc
  have HV : Hid ((c ≠ 0 ∧ gi1 = 0 ∧ gk1 = 0 ∧ gv = false) ∨ (c = 0 ∧ GoodIs (wdP (nat f) S F) m gi1 gk1 gv)) := hv
  clear hb1 hc hv HB0 K0 k0 k1
  have k0 := K1.out.c0
  have k1 := K1.out.c1
  go_wp2_with fail
  refine (refWords_any n ao len co f a m cap S F w1 hl K1.out.row hm (HR0.out.below HB1.out)).mono ?_
  rintro e w2 ⟨⟨c', rfl, hc⟩, hb2⟩
  obtain rfl : c = c' := HC.out.one hc
  have HB2 : Hid (Below w.heap.size w w2) := Below.then HB1.out hb2
  have K2 : Hid (Held w2 w.heap.size n ao len co f) := K1.out.step hb2
  clear hc hb2 HB1 K1 k0 k1
  have hcc : (c != c) = false := by simp
  go_wp2_with fail
  refine (embedBegun_any w2 (HT.out.step HB2.out)).mono ?_
  rintro e w3 ⟨rfl, hb3⟩
  have HB3 : Hid (Below w.heap.size w w3) := Below.then HB2.out hb3
  have K3 : Hid (Held w3 w.heap.size n ao len co f) := K2.out.step hb3
  clear hb3 K2 HB2
  by_cases h0 : c = 0
  · subst h0
    obtain ⟨hck, hM, hL⟩ := HC.out.good
    obtain ⟨rfl, h10, hrng, _⟩ := hck.good
    have HGI : Hid (GoodIs (wdP (nat f) S F) m gi1 gk1 gv) := by
      rcases HV.out with ⟨h, _⟩ | ⟨_, h⟩
      · exact absurd rfl h
      · exact h
    have K4 : Hid (Held w3 w.heap.size len ao len co (fun k => ((nat f k : Nat) : Int))) := ⟨K3.out.c0, K3.out.c1, hrng.row K3.out.row⟩
    have HG : Hid (∀ k, k < len → nat f k < 1024) := hrng.small2 h10
    have HM : Hid (¬ Many m S) := hM
    have HL : Hid (Lets len m S F) := hL
    have hm12 : m ≤ 12 := Nat.le_of_not_lt fun h => hM (.inl h)
    clear hck hM hL hrng K3 HV
    go_wp2_with fail
    go_loopw [10] (fun t wx => ∃ x : Nat, x ≤ m ∧ t = .int .i64 x ∧ Hid (NoneTo (wdP (nat f) S F) m x) ∧ Hid (Held wx w.heap.size len ao len co (fun k => ((nat f k : Nat) : Int))) ∧ Hid (Below w.heap.size w wx)) (fun t _ => m - (intOf t).toNat)
    case atStart => exact ⟨0, Nat.zero_le _, rfl, fun _ _ _ _ h => absurd h (Nat.not_lt_zero _), K4.out, HB3.out⟩
    case round =>
      clear K4 HB3
      obtain ⟨x, hx, rfl, HN, hH, hB⟩ := hrel
      by_cases hxlt : x < m
      · have HZ : Hid (NoneIn (wdP (nat f) S F) x (x + 1)) := fun y' h1 h2 => absurd h1 (by omega)
        go_wp2_with fail
        have HH0 : Hid (Held wr w.heap.size len ao len co (fun k => ((nat f k : Nat) : Int))) := hH.out
        have HB0 : Hid (Below w.heap.size w wr) := hB.out
        clear hH hB
        go_loopw [11] (fun t wx => ∃ y : Nat, x < y ∧ y ≤ m ∧ t = .int .i64 y ∧ Hid (NoneIn (wdP (nat f) S F) x y) ∧ Hid (Held wx w.heap.size len ao len co (fun k => ((nat f k : Nat) : Int))) ∧ Hid (Below w.heap.size w wx)) (fun t _ => m - (intOf t).toNat)
        case atStart => exact ⟨x + 1, by omega, by omega, by go_num, HZ.out, HH0.out, HB0.out⟩
        case round =>
          clear HZ HH0 HB0
          obtain ⟨y, hxy, hy, rfl, HI, hH, hB⟩ := hrel
          by_cases hylt : y < m
          · obtain ⟨b, off, rfl, cx, lx, rx, fx⟩ := word_of (HR0.out.below hB.out) HM.out HL.out hxlt
            obtain ⟨b1, off1, e1, cy, ly, ry, fy⟩ := word_of (HR0.out.below hB.out) HM.out HL.out hylt
            simp at e1
            obtain ⟨rfl, rfl⟩ := e1
            have l2 : ∀ w', Below wr.heap.size wr w' → w'.cell? ⟨b, off + x, none⟩ = some (.slice (S x).1 (S x).2.1 (S x).2.2) := fun w' h => cell_step h cx
            have l3 : ∀ w', Below wr.heap.size wr w' → w'.cell? ⟨b, off + y, none⟩ = some (.slice (S y).1 (S y).2.1 (S y).2.2) := fun w' h => cell_step h cy
            have HX : Hid (∀ w', Below wr.heap.size wr w' → Row w' (S x).1 (S x).2.1 (fun i => ((nat (F x) i : Nat) : Int))) := fun w' h => rx.below h
            have HY : Hid (∀ w', Below wr.heap.size wr w' → Row w' (S y).1 (S y).2.1 (fun i => ((nat (F y) i : Nat) : Int))) := fun w' h => ry.below h
            have HLX : Hid (∀ i, i < (S x).2.1 → nat (F x) i < len) := fx
            have HLY : Hid (∀ i, i < (S y).2.1 → nat (F y) i < len) := fy
            have HRO : Hid (∀ w', Below wr.heap.size wr w' → Row w' ao len (fun k => ((nat f k : Nat) : Int))) := fun w' h => (hH.out.step h).row
            have l0 : ∀ w', Below wr.heap.size wr w' → w'.cell? ⟨w.heap.size, 0, none⟩ = some (.int .i64 (len : Int)) := fun w' h => (hH.out.step h).c0
            have l1 : ∀ w', Below wr.heap.size wr w' → w'.cell? ⟨w.heap.size, 1, none⟩ = some (.slice ao len co) := fun w' h => (hH.out.step h).c1
            have hx' : (x : Int) < (m : Int) := by omega
            have hy' : (y : Int) < (m : Int) := by omega
            have hr2 := lx
            have hs2 := ly
            have HWD : Hid (wdP (nat f) S F x y = goesB (nat f) (S x).2.1 (nat (F x)) (S y).2.1 (nat (F y))) := rfl
            obtain ⟨v, hv⟩ : ∃ v, goesB (nat f) (S x).2.1 (nat (F x)) (S y).2.1 (nat (F y)) = v := ⟨_, rfl⟩
            have HPV : Hid (wdP (nat f) S F x y = v) := hv
            clear cx cy rx ry fx fy lx ly HWD
            generalize hs1 : (S x).1 = r1 at *
            generalize hs2' : (S x).2.1 = r2 at *
            generalize hs3 : (S x).2.2 = r3 at *
            generalize ht1 : (S y).1 = s1 at *
            generalize ht2 : (S y).2.1 = s2 at *
            generalize ht3 : (S y).2.2 = s3 at *
            generalize hW : wr = W at *
            have KK : Below W.heap.size W W.drew := (Below.refl _ _).drew

            go_wp2_with fail
            refine wp_region_held_drew (S := (fun w' => Below W.heap.size W w')) (by kernel_rfl) (KK) (fun hHeld => ?_)
            refine wpAnyH_take (i := 0) (oi := { dst := some 48, op := Go.Op.load 24 (Go.Operand.tmp 2), type := 24, pos := "embed.go:51", after := #[], guard := none }) (v := ?_) rfl (by kernel_rfl) (by kernel_rfl) (by kernel_rfl) (fun _ _ _ h => h) (Or.inl ⟨by rfl, ?hy⟩) (by assumption) ?_
            case hy => (intro w9 hSw; (try dsimp only at hSw); go_simp; try with_reducible rfl)
            try simp only [Act.put, List.setIfInBounds_toArray, List.set_cons_zero, List.set_cons_succ]
            refine wpAnyH_take (i := 1) (oi := { dst := some 49, op := Go.Op.move (Go.Operand.tmp 1), type := 29, pos := "embed.go:51", after := #[], guard := none }) (v := ?_) rfl (by kernel_rfl) (by kernel_rfl) (by kernel_rfl) (fun _ _ _ h => h) (Or.inl ⟨by rfl, ?hy⟩) (by assumption) ?_
            case hy => (intro w9 hSw; (try dsimp only at hSw); go_simp; try with_reducible rfl)
            try simp only [Act.put, List.setIfInBounds_toArray, List.set_cons_zero, List.set_cons_succ]
            refine wpAnyH_take (i := 2) (oi := { dst := some 50, op := Go.Op.move (Go.Operand.tmp 10), type := 3, pos := "embed.go:51", after := #[], guard := none }) (v := ?_) rfl (by kernel_rfl) (by kernel_rfl) (by kernel_rfl) (fun _ _ _ h => h) (Or.inl ⟨by rfl, ?hy⟩) (by assumption) ?_
            case hy => (intro w9 hSw; (try dsimp only at hSw); go_simp; try with_reducible rfl)
            try simp only [Act.put, List.setIfInBounds_toArray, List.set_cons_zero, List.set_cons_succ]
            refine wpAnyH_take (i := 3) (oi := { dst := some 51, op := Go.Op.indexAddr 29 (Go.Operand.tmp 49) (Go.Operand.tmp 50), type := 0, pos := "embed.go:51", after := #[{ on := 1, ground := Go.Ground.data }, { on := 2, ground := Go.Ground.data }], guard := none }) (v := ?_) rfl (by kernel_rfl) (by kernel_rfl) (by kernel_rfl) (fun _ _ _ h => h) (Or.inl ⟨by rfl, ?hy⟩) (by assumption) ?_
            case hy => (intro w9 hSw; (try dsimp only at hSw); go_simp; try with_reducible rfl)
            try simp only [Act.put, List.setIfInBounds_toArray, List.set_cons_zero, List.set_cons_succ]
            refine wpAnyH_take (i := 4) (oi := { dst := some 52, op := Go.Op.load 22 (Go.Operand.tmp 51), type := 22, pos := "embed.go:51", after := #[{ on := 3, ground := Go.Ground.data }], guard := none }) (v := ?_) rfl (by kernel_rfl) (by kernel_rfl) (by kernel_rfl) (fun _ _ _ h => h) (Or.inl ⟨by rfl, ?hy⟩) (by assumption) ?_
            case hy => (intro w9 hSw; (try dsimp only at hSw); go_simp; try with_reducible rfl)
            try simp only [Act.put, List.setIfInBounds_toArray, List.set_cons_zero, List.set_cons_succ]
            refine wpAnyH_take (i := 5) (oi := { dst := some 53, op := Go.Op.move (Go.Operand.tmp 1), type := 29, pos := "embed.go:51", after := #[], guard := none }) (v := ?_) rfl (by kernel_rfl) (by kernel_rfl) (by kernel_rfl) (fun _ _ _ h => h) (Or.inl ⟨by rfl, ?hy⟩) (by assumption) ?_
            case hy => (intro w9 hSw; (try dsimp only at hSw); go_simp; try with_reducible rfl)
            try simp only [Act.put, List.setIfInBounds_toArray, List.set_cons_zero, List.set_cons_succ]
            refine wpAnyH_take (i := 6) (oi := { dst := some 54, op := Go.Op.move (Go.Operand.tmp 11), type := 3, pos := "embed.go:51", after := #[], guard := none }) (v := ?_) rfl (by kernel_rfl) (by kernel_rfl) (by kernel_rfl) (fun _ _ _ h => h) (Or.inl ⟨by rfl, ?hy⟩) (by assumption) ?_
            case hy => (intro w9 hSw; (try dsimp only at hSw); go_simp; try with_reducible rfl)
            try simp only [Act.put, List.setIfInBounds_toArray, List.set_cons_zero, List.set_cons_succ]
            refine wpAnyH_take (i := 7) (oi := { dst := some 55, op := Go.Op.indexAddr 29 (Go.Operand.tmp 53) (Go.Operand.tmp 54), type := 0, pos := "embed.go:51", after := #[{ on := 5, ground := Go.Ground.data }, { on := 6, ground := Go.Ground.data }], guard := none }) (v := ?_) rfl (by kernel_rfl) (by kernel_rfl) (by kernel_rfl) (fun _ _ _ h => h) (Or.inl ⟨by rfl, ?hy⟩) (by assumption) ?_
            case hy => (intro w9 hSw; (try dsimp only at hSw); go_simp; try with_reducible rfl)
            try simp only [Act.put, List.setIfInBounds_toArray, List.set_cons_zero, List.set_cons_succ]
            refine wpAnyH_take (i := 8) (oi := { dst := some 56, op := Go.Op.load 22 (Go.Operand.tmp 55), type := 22, pos := "embed.go:51", after := #[{ on := 7, ground := Go.Ground.data }], guard := none }) (v := ?_) rfl (by kernel_rfl) (by kernel_rfl) (by kernel_rfl) (fun _ _ _ h => h) (Or.inl ⟨by rfl, ?hy⟩) (by assumption) ?_
            case hy => (intro w9 hSw; (try dsimp only at hSw); go_simp; try with_reducible rfl)
            try simp only [Act.put, List.setIfInBounds_toArray, List.set_cons_zero, List.set_cons_succ]
            refine wpAnyH_ready (rs := [9]) (by kernel_rfl) (by simp) ?_
            refine AllReadyH.cons (o := { dst := some 57, op := Go.Op.call { callee := Go.Callee.value (Go.Operand.func 13), args := #[Go.Operand.tmp 48, Go.Operand.tmp 52, Go.Operand.tmp 56], argTypes := #[24, 22, 22] }, type := 4, pos := "embed.go:51", after := #[{ on := 0, ground := Go.Ground.data }, { on := 4, ground := Go.Ground.data }, { on := 8, ground := Go.Ground.data }], guard := none }) rfl (fun K hK => ?_) AllReadyH.nil
            go_simp
            refine (refGoes_any len ao len co (nat f) r1 r2 r3 (nat (F x)) s1 s2 s3 (nat (F y)) _ h10 HG.out (HRO.out _ (by assumption)) (HX.out _ (by assumption)) (HY.out _ (by assumption)) hr2 hs2 HLX.out HLY.out).mono ?_
            rintro e w5 ⟨rfl, hb5⟩
            refine hK.out _ _ ?_ (fun hHeld => ?_)
            · first | assumption | exact Below.then (by assumption) (by assumption)
            clear hK K
            try simp only [Act.put, List.setIfInBounds_toArray, List.set_cons_zero, List.set_cons_succ]
            refine wpAnyH_done (by kernel_rfl) ?_ _
            try simp only [Act.put, List.setIfInBounds_toArray, List.set_cons_zero, List.set_cons_succ]
            rw [hv]
            have HB6 : Hid (Below w.heap.size w w5) := Below.then hB.out (by assumption)
            have HH6 : Hid (Held w5 w.heap.size len ao len co (fun k => ((nat f k : Nat) : Int))) := hH.out.step (by assumption)
            clear l0 l1 l2 l3 hv
            cases v
            · have HI2 : Hid (NoneIn (wdP (nat f) S F) x (y + 1)) := none_in HI.out HPV.out
              go_wp2_with fail
              go_roundw
              case rel => exact ⟨y + 1, by omega, by omega, by go_num, HI2.out, HH6.out, HB6.out⟩
              case measure => simp [intOf]; omega
            · obtain ⟨q1, q2, q3⟩ := HGI.out.one (good_at HN.out HI.out hxy hylt HPV.out)
              subst q1 q2 q3
              go_wp2_with fail
              go_ret
              exact ⟨by simp, HB6.out⟩
          · obtain rfl : y = m := by omega
            have HN2 : Hid (NoneTo (wdP (nat f) S F) y (x + 1)) := none_next HN.out HI.out
            go_wp2_with fail
            go_roundw
            case rel => exact ⟨x + 1, by omega, by go_num, HN2.out, hH.out, hB.out⟩
            case measure => simp [intOf]; omega
      · obtain rfl : x = m := by omega
        obtain ⟨q1, q2, q3⟩ := HGI.out.one (.inr ⟨rfl, rfl, rfl, fun x' y' h1 h2 => HN.out x' y' h1 h2 (by omega)⟩)
        subst q1 q2 q3
        go_wp2_with fail
        go_ret
        exact ⟨rfl, hB.out⟩
  · have hne : (c == 0) = false := by simpa using h0
    obtain ⟨rfl, rfl, rfl⟩ : gi1 = 0 ∧ gk1 = 0 ∧ gv = false := by
      rcases HV.out with ⟨_, h⟩ | ⟨h, _⟩
      · exact h
      · exact absurd h h0
    clear h0 HV
    go_wp2_with fail
    go_loopw [10] (fun t wx => t = .int .i64 0 ∧ wx = w3) (fun _ _ => 0)
    case atStart => exact ⟨rfl, rfl⟩
    case round =>
      obtain ⟨rfl, rfl⟩ := hrel
      go_wp2_with fail
      go_ret
      exact ⟨rfl, HB3.out⟩
end Go.Proofs.YtimpgcmkdcmhkaaDoor
