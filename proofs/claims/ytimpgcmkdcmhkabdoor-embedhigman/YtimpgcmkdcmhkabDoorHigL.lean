/-
  For whatever it is handed, hasselaw.EmbedHigman returns true, and writes nothing that was there. Condition: the table of the least bits.
-/
import Derived.Test.YtimpgcmkdcmhkabDoorHigM
namespace Go.Proofs.YtimpgcmkdcmhkabDoor
set_option maxRecDepth 100000
open Go.RowKit

set_option maxHeartbeats 8000000 in
theorem embedHigman_any (n : Int) (ao : Option Addr) (len co : Nat) (f : Nat → Int) (a : Option Addr) (m cap : Nat) (S : Nat → Option Addr × Nat × Nat) (F : Nat → Nat → Int) (w : World) (hl : len ≤ maxLen) (hm : m ≤ maxLen) (ho : Row w ao len f) (hr : RR w a m S F) (hT : Tab w) :
    Calls Tryd.prog 3 #[.agg #[.int .i64 n, .slice ao len co], .slice a m cap] w fun e w' => e = .returned (.bool true) ∧ Below w.heap.size w w' := by
  have HB0 : Hid (Below w.heap.size w (w.alloc (.cells #[.int .i64 n, .slice ao len co] 24))) := bel_one w _
  have K0 : Hid (Held (w.alloc (.cells #[.int .i64 n, .slice ao len co] 24)) w.heap.size n ao len co f) := Held.box ho
  have HR0 : Hid (RR w a m S F) := hr
  have HT : Hid (Tab w) := hT
  clear ho hr hT
  go_enter Tryd.func3, Tryd.ntmps3
  go_wp2_with fail
  refine (embedBegun_any _ (HT.out.step HB0.out)).mono ?_
  rintro e w0 ⟨rfl, hb0⟩
  have HB1 : Hid (Below w.heap.size w w0) := Below.then HB0.out hb0
  have K1 : Hid (Held w0 w.heap.size n ao len co f) := K0.out.step hb0
  clear hb0 HB0 K0
  have k0 := K1.out.c0
  have k1 := K1.out.c1
  go_wp2_with fail
  refine (leastX_any n ao len co f a m cap S F w0 hl K1.out.row hm (HR0.out.below HB1.out)).mono ?_
  rintro e w1 ⟨⟨c, v, rfl, hc, hv⟩, hb1⟩
  have HB2 : Hid (Below w.heap.size w w1) := Below.then HB1.out hb1
  have K2 : Hid (Held w1 w.heap.size n ao len co f) := K1.out.step hb1
  have HC : Hid (WCk n len f m S F c) := hc
  clear hb1 hc HB1 K1 k0 k1
  by_cases h0 : c = 0
  · subst h0
    obtain ⟨hck, hM, hL⟩ := HC.out.good
    obtain ⟨rfl, h10, hrng, hord⟩ := hck.good
    obtain ⟨al, cl, rfl, hrl⟩ : NSl w1 v (lst (wdP (nat f) S F) m m) := by
      rcases hv with ⟨h, _⟩ | ⟨_, h, _⟩
      · exact absurd rfl h
      · exact h
    have HOK : Hid (LeastOk (wdP (nat f) S F) m (lst (wdP (nat f) S F) m m)) := word_least hord (hrng.small2 h10) hL
    have HCK : Hid (Chk len len f 0) := hck
    have HL1 : Hid (Row w1 al (lst (wdP (nat f) S F) m m).length (fun k => ((nth (lst (wdP (nat f) S F) m m) k : Nat) : Int))) := hrl
    have HM : Hid (¬ Many m S) := hM
    have HL : Hid (Lets len m S F) := hL
    have hm12 : m ≤ 12 := Nat.le_of_not_lt fun h => hM (.inl h)
    have hLL := lst_len (wdP (nat f) S F) m m
    clear hck hrng hord hM hL hv hrl
    generalize lst (wdP (nat f) S F) m m = l at *
    generalize hgP : (wdP (nat f) S F) = P at *
    generalize hgL : l.length = L at *
    have HLL : Hid (l.length = L) := hgL
    clear hgL
    go_wp2_with fail
    go_loopw [7] (fun t wx => ∃ k : Nat, k ≤ m ∧ t = .int .i64 k ∧ Hid (Row wx al L (fun k => ((nth l k : Nat) : Int))) ∧ Hid (Held wx w.heap.size len ao len co f) ∧ Hid (Below w.heap.size w wx)) (fun t _ => m - (intOf t).toNat)
    case atStart => exact ⟨0, Nat.zero_le _, rfl, HL1.out, K2.out, HB2.out⟩
    case round =>
      clear HL1 K2 HB2
      obtain ⟨k, hk, rfl, hRl, hH, hB⟩ := hrel
      by_cases hklt : k < m
      · have HZ : Hid (BP false (∃ j, j < 0 ∧ P (nth l j) k = true)) := BP.not (fun ⟨j, h, _⟩ => absurd h (Nat.not_lt_zero _))
        go_wp2_with fail
        have HRl0 : Hid (Row wr al L (fun k => ((nth l k : Nat) : Int))) := hRl.out
        have HH0 : Hid (Held wr w.heap.size len ao len co f) := hH.out
        have HB0 : Hid (Below w.heap.size w wr) := hB.out
        clear hH hB hRl
        go_loopw [9, 8] (fun t u wx => ∃ (i : Nat) (vs : Bool), i ≤ L ∧ t = .int .i64 i ∧ u = .bool vs ∧ Hid (BP vs (∃ j, j < i ∧ P (nth l j) k = true)) ∧ Hid (Row wx al L (fun k => ((nth l k : Nat) : Int))) ∧ Hid (Held wx w.heap.size len ao len co f) ∧ Hid (Below w.heap.size w wx)) (fun t _ _ => L - (intOf t).toNat)
        case atStart => exact ⟨0, false, Nat.zero_le _, rfl, rfl, HZ.out, HRl0.out, HH0.out, HB0.out⟩
        case round =>
          clear HZ HH0 HB0 HRl0
          obtain ⟨i, vs, hi, rfl, rfl, HV, hRl, hH, hB⟩ := hrel
          by_cases hilt : i < L
          · obtain ⟨bl, ol, rfl, cl0⟩ := hRl.out i hilt
            have hxm : nth l i < m := HOK.out.1 i (by rw [HLL.out]; exact hilt)
            obtain ⟨b, off, rfl, cx, lx0, rx⟩ := HR0.out.below hB.out (nth l i) hxm
            obtain ⟨b1, off1, e1, cy, ly0, ry⟩ := HR0.out.below hB.out k hklt
            simp at e1
            obtain ⟨rfl, rfl⟩ := e1
            have HAP : Hid (nth l i ≠ k → P (nth l i) k = true → ∀ j, j < L → nth l j ≠ k) := fun h1 h2 j hj => HOK.out.2.2 k i (by rw [HLL.out]; exact hilt) h1 h2 j (by rw [HLL.out]; exact hj)
            obtain ⟨v, hv0⟩ : ∃ v, P (nth l i) k = v := ⟨_, rfl⟩
            have HPV : Hid (P (nth l i) k = v) := hv0
            have hr2 : (S (nth l i)).2.1 ≤ 12 := Nat.le_of_not_lt fun h => HM.out (.inr ⟨_, hxm, h⟩)
            have hs2 : (S k).2.1 ≤ 12 := Nat.le_of_not_lt fun h => HM.out (.inr ⟨_, hklt, h⟩)

            have HLX : Hid (∀ q, q < (S (nth l i)).2.1 → 0 ≤ F (nth l i) q ∧ F (nth l i) q < len) := HL.out _ hxm
            have HLY : Hid (∀ q, q < (S k).2.1 → 0 ≤ F k q ∧ F k q < len) := HL.out _ hklt
            have hv : goesB (nat f) (S (nth l i)).2.1 (nat (F (nth l i))) (S k).2.1 (nat (F k)) = v := by rw [← hgP] at hv0; exact hv0
            have l0 : ∀ w', Below wr.heap.size wr w' → w'.cell? ⟨bl, ol + i, none⟩ = some (.int .i64 ((nth l i : Nat) : Int)) := fun w' h => cell_step h cl0
            have n0 := l0 wr (Below.refl _ _)
            have l2 : ∀ w', Below wr.heap.size wr w' → w'.cell? ⟨b, off + nth l i, none⟩ = some (.slice (S (nth l i)).1 (S (nth l i)).2.1 (S (nth l i)).2.2) := fun w' h => cell_step h cx
            have l3 : ∀ w', Below wr.heap.size wr w' → w'.cell? ⟨b, off + k, none⟩ = some (.slice (S k).1 (S k).2.1 (S k).2.2) := fun w' h => cell_step h cy
            have HX : Hid (∀ w', Below wr.heap.size wr w' → Row w' (S (nth l i)).1 (S (nth l i)).2.1 (F (nth l i))) := fun w' h => rx.below h
            have HY : Hid (∀ w', Below wr.heap.size wr w' → Row w' (S k).1 (S k).2.1 (F k)) := fun w' h => ry.below h
            have HRO : Hid (∀ w', Below wr.heap.size wr w' → Row w' ao len f) := fun w' h => (hH.out.step h).row
            have l4 : ∀ w', Below wr.heap.size wr w' → w'.cell? ⟨w.heap.size, 0, none⟩ = some (.int .i64 (len : Int)) := fun w' h => (hH.out.step h).c0
            have l5 : ∀ w', Below wr.heap.size wr w' → w'.cell? ⟨w.heap.size, 1, none⟩ = some (.slice ao len co) := fun w' h => (hH.out.step h).c1
            have hx' : ((nth l i : Nat) : Int) < (m : Int) := by omega
            have hk' : (k : Int) < (m : Int) := by omega
            have hi' : (i : Int) < (L : Int) := by omega
            have HBX : Hid (∀ q, (q = true ↔ (vs = true ∨ v = true)) → BP q (∃ j, j < i + 1 ∧ P (nth l j) k = true)) := fun q hq => by
              refine hq.trans ⟨?_, ?_⟩
              · rintro (h | h)
                · obtain ⟨j, h1, h2⟩ := HV.out.1 h
                  exact ⟨j, by omega, h2⟩
                · exact ⟨i, by omega, by rw [HPV.out, h]⟩
              · rintro ⟨j, h1, h2⟩
                by_cases e : j = i
                · subst e; rw [HPV.out] at h2; exact .inr h2
                · exact .inl (HV.out.2 ⟨j, by omega, h2⟩)
            clear cx cy rx ry lx0 ly0 cl0 hv0 hgP HV
            generalize hgx : nth l i = x at *
            generalize hq1 : (S x).1 = r1 at *
            generalize hq2 : (S x).2.1 = r2 at *
            generalize hq3 : (S x).2.2 = r3 at *
            generalize ht1 : (S k).1 = s1 at *
            generalize ht2 : (S k).2.1 = s2 at *
            generalize ht3 : (S k).2.2 = s3 at *
            generalize hW : wr = W at *
            have KK : Below W.heap.size W W.drew := (Below.refl _ _).drew
            go_wp2_with fail
            refine wp_region_held_drew (S := (fun w' => Below W.heap.size W w')) (by kernel_rfl) (KK) (fun hHeld => ?_)
            refine wpAnyH_take (i := 0) (oi := { dst := some 49, op := Go.Op.load 24 (Go.Operand.tmp 2), type := 24, pos := "embed.go:99", after := #[], guard := none }) (v := ?_) rfl (by kernel_rfl) (by kernel_rfl) (by kernel_rfl) (fun _ _ _ h => h) (Or.inl ⟨by rfl, ?hy⟩) (by assumption) ?_
            case hy => (intro w9 hSw; (try dsimp only at hSw); go_simp; try with_reducible rfl)
            try simp only [Act.put, List.setIfInBounds_toArray, List.set_cons_zero, List.set_cons_succ]
            refine wpAnyH_take (i := 1) (oi := { dst := some 50, op := Go.Op.move (Go.Operand.tmp 1), type := 25, pos := "embed.go:99", after := #[], guard := none }) (v := ?_) rfl (by kernel_rfl) (by kernel_rfl) (by kernel_rfl) (fun _ _ _ h => h) (Or.inl ⟨by rfl, ?hy⟩) (by assumption) ?_
            case hy => (intro w9 hSw; (try dsimp only at hSw); go_simp; try with_reducible rfl)
            try simp only [Act.put, List.setIfInBounds_toArray, List.set_cons_zero, List.set_cons_succ]
            refine wpAnyH_take (i := 2) (oi := { dst := some 51, op := Go.Op.move (Go.Operand.tmp 5), type := 22, pos := "embed.go:99", after := #[], guard := none }) (v := ?_) rfl (by kernel_rfl) (by kernel_rfl) (by kernel_rfl) (fun _ _ _ h => h) (Or.inl ⟨by rfl, ?hy⟩) (by assumption) ?_
            case hy => (intro w9 hSw; (try dsimp only at hSw); go_simp; try with_reducible rfl)
            try simp only [Act.put, List.setIfInBounds_toArray, List.set_cons_zero, List.set_cons_succ]
            refine wpAnyH_take (i := 3) (oi := { dst := some 52, op := Go.Op.move (Go.Operand.tmp 9), type := 3, pos := "embed.go:99", after := #[], guard := none }) (v := ?_) rfl (by kernel_rfl) (by kernel_rfl) (by kernel_rfl) (fun _ _ _ h => h) (Or.inl ⟨by rfl, ?hy⟩) (by assumption) ?_
            case hy => (intro w9 hSw; (try dsimp only at hSw); go_simp; try with_reducible rfl)
            try simp only [Act.put, List.setIfInBounds_toArray, List.set_cons_zero, List.set_cons_succ]
            refine wpAnyH_take (i := 4) (oi := { dst := some 53, op := Go.Op.indexAddr 22 (Go.Operand.tmp 51) (Go.Operand.tmp 52), type := 0, pos := "embed.go:99", after := #[{ on := 2, ground := Go.Ground.data }, { on := 3, ground := Go.Ground.data }], guard := none }) (v := ?_) rfl (by kernel_rfl) (by kernel_rfl) (by kernel_rfl) (fun _ _ _ h => h) (Or.inl ⟨by rfl, ?hy⟩) (by assumption) ?_
            case hy => (intro w9 hSw; (try dsimp only at hSw); go_simp; try with_reducible rfl)
            try simp only [Act.put, List.setIfInBounds_toArray, List.set_cons_zero, List.set_cons_succ]
            refine wpAnyH_take (i := 5) (oi := { dst := some 54, op := Go.Op.load 3 (Go.Operand.tmp 53), type := 3, pos := "embed.go:99", after := #[{ on := 4, ground := Go.Ground.data }], guard := none }) (v := ?_) rfl (by kernel_rfl) (by kernel_rfl) (by kernel_rfl) (fun _ _ _ h => h) (Or.inl ⟨by rfl, ?hy⟩) (by assumption) ?_
            case hy => (intro w9 hSw; (try dsimp only at hSw); go_simp; try with_reducible rfl)
            try simp only [Act.put, List.setIfInBounds_toArray, List.set_cons_zero, List.set_cons_succ]
            refine wpAnyH_take (i := 6) (oi := { dst := some 55, op := Go.Op.indexAddr 25 (Go.Operand.tmp 50) (Go.Operand.tmp 54), type := 0, pos := "embed.go:99", after := #[{ on := 1, ground := Go.Ground.data }, { on := 5, ground := Go.Ground.data }], guard := none }) (v := ?_) rfl (by kernel_rfl) (by kernel_rfl) (by kernel_rfl) (fun _ _ _ h => h) (Or.inl ⟨by rfl, ?hy⟩) (by assumption) ?_
            case hy => (intro w9 hSw; (try dsimp only at hSw); go_simp; try with_reducible rfl)
            try simp only [Act.put, List.setIfInBounds_toArray, List.set_cons_zero, List.set_cons_succ]
            refine wpAnyH_take (i := 7) (oi := { dst := some 56, op := Go.Op.load 22 (Go.Operand.tmp 55), type := 22, pos := "embed.go:99", after := #[{ on := 6, ground := Go.Ground.data }], guard := none }) (v := ?_) rfl (by kernel_rfl) (by kernel_rfl) (by kernel_rfl) (fun _ _ _ h => h) (Or.inl ⟨by rfl, ?hy⟩) (by assumption) ?_
            case hy => (intro w9 hSw; (try dsimp only at hSw); go_simp; try with_reducible rfl)
            try simp only [Act.put, List.setIfInBounds_toArray, List.set_cons_zero, List.set_cons_succ]
            refine wpAnyH_take (i := 8) (oi := { dst := some 57, op := Go.Op.move (Go.Operand.tmp 1), type := 25, pos := "embed.go:99", after := #[], guard := none }) (v := ?_) rfl (by kernel_rfl) (by kernel_rfl) (by kernel_rfl) (fun _ _ _ h => h) (Or.inl ⟨by rfl, ?hy⟩) (by assumption) ?_
            case hy => (intro w9 hSw; (try dsimp only at hSw); go_simp; try with_reducible rfl)
            try simp only [Act.put, List.setIfInBounds_toArray, List.set_cons_zero, List.set_cons_succ]
            refine wpAnyH_take (i := 9) (oi := { dst := some 58, op := Go.Op.move (Go.Operand.tmp 7), type := 3, pos := "embed.go:99", after := #[], guard := none }) (v := ?_) rfl (by kernel_rfl) (by kernel_rfl) (by kernel_rfl) (fun _ _ _ h => h) (Or.inl ⟨by rfl, ?hy⟩) (by assumption) ?_
            case hy => (intro w9 hSw; (try dsimp only at hSw); go_simp; try with_reducible rfl)
            try simp only [Act.put, List.setIfInBounds_toArray, List.set_cons_zero, List.set_cons_succ]
            refine wpAnyH_take (i := 10) (oi := { dst := some 59, op := Go.Op.indexAddr 25 (Go.Operand.tmp 57) (Go.Operand.tmp 58), type := 0, pos := "embed.go:99", after := #[{ on := 8, ground := Go.Ground.data }, { on := 9, ground := Go.Ground.data }], guard := none }) (v := ?_) rfl (by kernel_rfl) (by kernel_rfl) (by kernel_rfl) (fun _ _ _ h => h) (Or.inl ⟨by rfl, ?hy⟩) (by assumption) ?_
            case hy => (intro w9 hSw; (try dsimp only at hSw); go_simp; try with_reducible rfl)
            try simp only [Act.put, List.setIfInBounds_toArray, List.set_cons_zero, List.set_cons_succ]
            refine wpAnyH_take (i := 11) (oi := { dst := some 60, op := Go.Op.load 22 (Go.Operand.tmp 59), type := 22, pos := "embed.go:99", after := #[{ on := 10, ground := Go.Ground.data }], guard := none }) (v := ?_) rfl (by kernel_rfl) (by kernel_rfl) (by kernel_rfl) (fun _ _ _ h => h) (Or.inl ⟨by rfl, ?hy⟩) (by assumption) ?_
            case hy => (intro w9 hSw; (try dsimp only at hSw); go_simp; try with_reducible rfl)
            try simp only [Act.put, List.setIfInBounds_toArray, List.set_cons_zero, List.set_cons_succ]
            refine wpAnyH_ready (rs := [12]) (by kernel_rfl) (by simp) ?_
            refine AllReadyH.cons (o := { dst := some 61, op := Go.Op.call { callee := Go.Callee.value (Go.Operand.func 9), args := #[Go.Operand.tmp 49, Go.Operand.tmp 56, Go.Operand.tmp 60], argTypes := #[24, 22, 22] }, type := 30, pos := "embed.go:99", after := #[{ on := 0, ground := Go.Ground.data }, { on := 7, ground := Go.Ground.data }, { on := 11, ground := Go.Ground.data }], guard := none }) rfl (fun K hK => ?_) AllReadyH.nil
            go_simp
            refine (into_ok len ao len co f r1 r2 r3 (F x) s1 s2 s3 (F k) _ v hv (HRO.out _ (by assumption)) (HX.out _ (by assumption)) (HY.out _ (by assumption)) HCK.out hr2 hs2 HLX.out HLY.out).mono ?_
            rintro e w5 ⟨rfl, hb5⟩
            refine hK.out _ _ ?_ (fun hHeld => ?_)
            · first | assumption | exact Below.then (by assumption) (by assumption)
            clear hK K
            try simp only [Act.put, List.setIfInBounds_toArray, List.set_cons_zero, List.set_cons_succ]
            refine wpAnyH_take (i := 13) (oi := { dst := some 48, op := Go.Op.move (Go.Operand.tmp 61), type := 30, pos := "embed.go:99", after := #[{ on := 12, ground := Go.Ground.data }], guard := none }) (v := ?_) rfl (by kernel_rfl) (by kernel_rfl) (by kernel_rfl) (fun _ _ _ h => h) (Or.inl ⟨by rfl, ?hy⟩) (by assumption) ?_
            case hy => (intro w9 hSw; (try dsimp only at hSw); go_simp; try with_reducible rfl)
            try simp only [Act.put, List.setIfInBounds_toArray, List.set_cons_zero, List.set_cons_succ]
            refine wpAnyH_take (i := 14) (oi := { dst := some 62, op := Go.Op.extract (Go.Operand.tmp 48) 0, type := 4, pos := "embed.go:99", after := #[{ on := 13, ground := Go.Ground.data }], guard := none }) (v := ?_) rfl (by kernel_rfl) (by kernel_rfl) (by kernel_rfl) (fun _ _ _ h => h) (Or.inl ⟨by rfl, ?hy⟩) (by assumption) ?_
            case hy => (intro w9 hSw; (try dsimp only at hSw); go_simp; try with_reducible rfl)
            try simp only [Act.put, List.setIfInBounds_toArray, List.set_cons_zero, List.set_cons_succ]
            refine wpAnyH_take (i := 15) (oi := { dst := some 63, op := Go.Op.extract (Go.Operand.tmp 48) 1, type := 27, pos := "embed.go:99", after := #[{ on := 13, ground := Go.Ground.data }, { on := 16, ground := Go.Ground.gcOnly Go.Departure.lateStores }], guard := none }) (v := ?_) rfl (by kernel_rfl) (by kernel_rfl) (by kernel_rfl) (fun _ _ _ h => h) (Or.inl ⟨by rfl, ?hy⟩) (by assumption) ?_
            case hy => (intro w9 hSw; (try dsimp only at hSw); go_simp; try with_reducible rfl)
            try simp only [Act.put, List.setIfInBounds_toArray, List.set_cons_zero, List.set_cons_succ]
            refine wpAnyH_take (i := 16) (oi := { dst := some 10, op := Go.Op.assign (Go.Operand.tmp 62), type := 4, pos := "embed.go:99", after := #[{ on := 14, ground := Go.Ground.data }, { on := 12, ground := Go.Ground.chain }, { on := 0, ground := Go.Ground.phase }, { on := 1, ground := Go.Ground.phase }, { on := 2, ground := Go.Ground.phase }, { on := 3, ground := Go.Ground.phase }, { on := 4, ground := Go.Ground.phase }, { on := 5, ground := Go.Ground.phase }, { on := 6, ground := Go.Ground.phase }, { on := 7, ground := Go.Ground.phase }, { on := 8, ground := Go.Ground.phase }, { on := 9, ground := Go.Ground.phase }, { on := 10, ground := Go.Ground.phase }, { on := 11, ground := Go.Ground.phase }, { on := 12, ground := Go.Ground.phase }, { on := 13, ground := Go.Ground.phase }, { on := 14, ground := Go.Ground.phase }, { on := 15, ground := Go.Ground.textOnly Go.Departure.lateStores }], guard := none }) (v := ?_) rfl (by kernel_rfl) (by kernel_rfl) (by kernel_rfl) (fun _ _ _ h => h) (Or.inl ⟨by rfl, ?hy⟩) (by assumption) ?_
            case hy => (intro w9 hSw; (try dsimp only at hSw); go_simp; try with_reducible rfl)
            try simp only [Act.put, List.setIfInBounds_toArray, List.set_cons_zero, List.set_cons_succ]
            refine wpAnyH_take (i := 17) (oi := { dst := some 11, op := Go.Op.assign (Go.Operand.tmp 63), type := 27, pos := "embed.go:99", after := #[{ on := 15, ground := Go.Ground.data }, { on := 16, ground := Go.Ground.chain }, { on := 0, ground := Go.Ground.phase }, { on := 1, ground := Go.Ground.phase }, { on := 2, ground := Go.Ground.phase }, { on := 3, ground := Go.Ground.phase }, { on := 4, ground := Go.Ground.phase }, { on := 5, ground := Go.Ground.phase }, { on := 6, ground := Go.Ground.phase }, { on := 7, ground := Go.Ground.phase }, { on := 8, ground := Go.Ground.phase }, { on := 9, ground := Go.Ground.phase }, { on := 10, ground := Go.Ground.phase }, { on := 11, ground := Go.Ground.phase }, { on := 12, ground := Go.Ground.phase }, { on := 13, ground := Go.Ground.phase }, { on := 14, ground := Go.Ground.phase }, { on := 15, ground := Go.Ground.phase }, { on := 16, ground := Go.Ground.phase }], guard := none }) (v := ?_) rfl (by kernel_rfl) (by kernel_rfl) (by kernel_rfl) (fun _ _ _ h => h) (Or.inl ⟨by rfl, ?hy⟩) (by assumption) ?_
            case hy => (intro w9 hSw; (try dsimp only at hSw); go_simp; try with_reducible rfl)
            try simp only [Act.put, List.setIfInBounds_toArray, List.set_cons_zero, List.set_cons_succ]
            refine wpAnyH_done (by kernel_rfl) ?_ _
            try simp only [Act.put, List.setIfInBounds_toArray, List.set_cons_zero, List.set_cons_succ]
            have HB6 : Hid (Below w.heap.size w w5) := Below.then hB.out (by assumption)
            have HBq : Hid (Below W.heap.size W w5) := by assumption
            have HR6 : Hid (Row w5 (some ⟨bl, ol, none⟩) L (fun k => ((nth l k : Nat) : Int))) := hRl.out.below HBq.out
            have HH6 : Hid (Held w5 w.heap.size len ao len co f) := hH.out.step HBq.out
            have m0 := l0 w5 HBq.out
            clear l0 l2 l3 l4 l5 hv HBq n0
            cases v
            · have HBY : Hid (BP vs (∃ j, j < i + 1 ∧ P (nth l j) k = true)) := HBX.out vs (by simp)
              cases vs
              · go_wp2_with fail
                go_roundw
                case rel => exact ⟨i + 1, false, by omega, by go_num, by first | rfl | trivial, HBY.out, HR6.out, HH6.out, HB6.out⟩
                case measure => simp [intOf]; omega
              · go_wp2_with fail
                go_roundw
                case rel => exact ⟨i + 1, true, by omega, by go_num, by first | rfl | trivial, HBY.out, HR6.out, HH6.out, HB6.out⟩
                case measure => simp [intOf]; omega
            · have HBY : Hid (BP true (∃ j, j < i + 1 ∧ P (nth l j) k = true)) := HBX.out true (by simp)
              by_cases hxk : x = k
              · have hne : (((x : Nat) : Int) != ((k : Nat) : Int)) = false := by simp; omega
                have HXK : Hid (x = k) := hxk
                clear hxk
                cases vs
                · go_wp2_with fail
                  go_roundw
                  case rel => exact ⟨i + 1, true, by omega, by go_num, by first | rfl | trivial, HBY.out, HR6.out, HH6.out, HB6.out⟩
                  case measure => simp [intOf]; omega
                · go_wp2_with fail
                  go_roundw
                  case rel => exact ⟨i + 1, true, by omega, by go_num, by first | rfl | trivial, HBY.out, HR6.out, HH6.out, HB6.out⟩
                  case measure => simp [intOf]; omega
              · have hne : (((x : Nat) : Int) != ((k : Nat) : Int)) = true := by simp; omega
                have HNO := (show Hid (∀ j, j < L → nth l j ≠ k) from HAP.out hxk HPV.out)
                clear hxk
                go_wp2_with fail
                refine (place_no _ L cl (nth l) k w5 (by omega) HR6.out HNO.out).mono ?_
                rintro e w' ⟨rfl, hw⟩
                subst hw
                cases vs
                · go_wp2_with fail
                  go_roundw
                  case rel => exact ⟨i + 1, true, by omega, by go_num, by first | rfl | trivial, HBY.out, HR6.out, HH6.out, HB6.out⟩
                  case measure => simp [intOf]; omega
                · go_wp2_with fail
                  go_roundw
                  case rel => exact ⟨i + 1, true, by omega, by go_num, by first | rfl | trivial, HBY.out, HR6.out, HH6.out, HB6.out⟩
                  case measure => simp [intOf]; omega
          · obtain rfl : i = L := by omega
            obtain rfl : vs = true := by
              obtain ⟨j, h1, h2⟩ := HOK.out.2.1 k hklt
              exact HV.out.2 ⟨j, by rw [HLL.out] at h1; exact h1, h2⟩
            go_wp2_with fail
            go_roundw
            case rel => exact ⟨k + 1, by omega, by go_num, hRl.out, hH.out, hB.out⟩
            case measure => simp [intOf]; omega
      · obtain rfl : k = m := by omega
        go_wp2_with fail
        go_ret
        exact ⟨rfl, hB.out⟩
  · have hne : (c != 0) = true := by simpa using h0
    clear h0
    go_wp2_with fail
    go_ret
    exact ⟨rfl, HB2.out⟩
end Go.Proofs.YtimpgcmkdcmhkabDoor
