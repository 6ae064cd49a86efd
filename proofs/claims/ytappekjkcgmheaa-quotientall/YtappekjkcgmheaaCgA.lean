/-
  What the reference's Congruences answers: all congruences, sorted; or that there are more than forty. Conditions: tables of at most forty elements.
-/
import Derived.Test.YtappekjkcgmheaaCgW
import Derived.Test.YtappekjkcgmheaaLwQ
import Derived.Deep.RegionHeld3
import Derived.Deep.Cut
import Derived.BigQuiet
namespace Go.Proofs.Ytappekjkcgmheaa
open Go.RowKit
set_option maxRecDepth 100000

theorem own_sng {w : World} {base n : Nat} {v : Value} (h : w.ownsRow base 3 1 v n (natVals (List.range n))) (hn : 0 < n) : ∃ b cap, v = .slice (some ⟨b, 0, none⟩) n cap ∧ b < w.heap.size ∧ ∀ k, k < n → w.cell? ⟨b, k, none⟩ = some (.int .i64 ((fun x => x) k : Nat)) := by
  obtain ⟨b, cap, rfl⟩ := owns_form h hn
  refine ⟨b, cap, rfl, (h.lt b rfl).2, fun k hk => ?_⟩
  rw [h.cellAt k (by omega)]
  have := natVals_at (List.range n) k (by simpa using hk)
  rw [this]
  simp [nth, hk]
theorem own_num {w : World} {base n : Nat} {v : Value} {c : Nat → Nat} (h : w.ownsRow base 3 1 v n (natVals (numL c n))) (hn : 0 < n) : ∃ b cap, v = .slice (some ⟨b, 0, none⟩) n cap ∧ base ≤ b ∧ b < w.heap.size ∧ ∀ k, k < n → w.cell? ⟨b, k, none⟩ = some (.int .i64 (nbr c k : Nat)) := by
  obtain ⟨b, cap, rfl⟩ := owns_form h hn
  refine ⟨b, cap, rfl, (h.lt b rfl).1, (h.lt b rfl).2, fun k hk => ?_⟩
  rw [h.cellAt k (by omega)]
  have := natVals_at (numL c n) k (by rw [numL_len]; exact hk)
  rw [this, numL_nth hk]
theorem before_lit (q b b' ca cb : Nat) (f g : Nat → Nat) (w : World) (v : Bool) (h40 : q ≤ 40) (ha : ∀ k, k < q → w.cell? ⟨b, k, none⟩ = some (.int .i64 (f k : Nat))) (hb : ∀ k, k < q → w.cell? ⟨b', k, none⟩ = some (.int .i64 (g k : Nat))) (hv : decide (cmpF f g q 0 < 0) = v) :
    Calls Try.prog 44 #[.slice (some ⟨b, 0, none⟩) q ca, .slice (some ⟨b', 0, none⟩) q cb] w fun e w' => e = .returned (.bool v) ∧ Below w.heap.size w w' := by
  refine (before_any q b b' ca cb f g w h40 ha hb).mono ?_
  rintro e w1 ⟨⟨u, rfl, hu⟩, hb1⟩
  refine ⟨?_, hb1⟩
  rw [← hv]
  cases u
  · rw [decide_eq_false (fun h => by have := hu.2 h; cases this)]
  · rw [decide_eq_true (hu.1 rfl)]
/-- What Congruences must answer. -/
def CgsIs (q : Nat) (m j : Nat → Nat → Nat) (w' : World) (v : Value) (ok : Bool) : Prop :=
  (ok = false ∧ v = .slice none 0 0 ∧ ∃ (n : Nat) (G : Nat → Nat → Nat), 40 < n ∧ (∀ a, a < n → Cg q m j (G a)) ∧ ∀ a b, a < b → b < n → ¬ ∀ k, k < q → G a k = G b k) ∨
  (ok = true ∧ ∃ (n : Nat) (B cap : Nat) (P : Nat → Nat × Nat) (H : Nat → Nat → Nat), v = .slice (some ⟨B, 0, none⟩) n cap ∧ 1 ≤ n ∧ n ≤ 40 ∧ (∀ k, k < n → w'.cell? ⟨B, k, none⟩ = some (.slice (some ⟨(P k).1, 0, none⟩) q (P k).2) ∧ ∀ i, i < q → w'.cell? ⟨(P k).1, i, none⟩ = some (.int .i64 (H k i : Nat))) ∧
    (∀ a, a < n → Cg q m j (H a)) ∧ (∀ a b, a < b → b < n → cmpF (H a) (H b) q 0 < 0) ∧ ∀ d, Con q m j d → ∃ a, a < n ∧ ∀ i, i < q → H a i = nbr d i)

set_option maxHeartbeats 16000000 in
theorem congruences_any (q bA oA ca bB oB cb : Nat) (R R' : Nat → Nat × Nat × Nat) (m j : Nat → Nat → Nat) (w : World) (h1 : 1 ≤ q) (h40 : q ≤ 40) (hm : Inn q m) (hj : Inn q j) (ht : Tb w bA oA q R m) (ho : Tb w bB oB q R' j) :
    Calls Try.prog 22 #[.agg #[.int .i64 q, .slice (some ⟨bA, oA, none⟩) q ca, .slice (some ⟨bB, oB, none⟩) q cb]] w fun e w' => (∃ v ok, e = .returned (.tuple #[v, .bool ok]) ∧ CgsIs q m j w' v ok) ∧ Below w.heap.size w w' := by
  obtain ⟨i0, hi0, hz0, hz1, hz2⟩ := info_parts Try.infoL
  obtain ⟨W0, HW0⟩ : ∃ W0, Hid (W0 = w.alloc (.cells #[.int .i64 q, .slice (some ⟨bA, oA, none⟩) q ca, .slice (some ⟨bB, oB, none⟩) q cb] 24)) := ⟨_, rfl⟩
  have HB0 : Hid (Below w.heap.size w W0) := by rw [HW0.out]; exact (Below.refl _ _).alloc (Nat.le_refl _) _
  have HL0 : Hid (LB W0 w.heap.size q (some ⟨bA, oA, none⟩) q ca (some ⟨bB, oB, none⟩) q cb) := by rw [HW0.out]; exact LB.new _ _ _ _ _ _ _ _
  have HTA : Hid (∀ wx, Below W0.heap.size W0 wx → Tb wx bA oA q R m) := fun wx h => ht.step (Below.then HB0.out h)
  have HTC : Hid (∀ wx, Below W0.heap.size W0 wx → Tb wx bB oB q R' j) := fun wx h => ho.step (Below.then HB0.out h)
  have HIA : Hid (Inn q m) := hm
  have HIB : Hid (Inn q j) := hj
  clear ht ho hm hj
  have k0 := HL0.out.1
  have k1 := HL0.out.2.1
  have k2 := HL0.out.2.2
  go_enter Try.func22, Try.ntmps22
  go_upto_region 1 with fail
  rw [← HW0.out]
  clear HW0
  go_wp2_with fail
  refine (single_any q W0 h40).mono ?_
  rintro e w1 ⟨⟨v1, rfl, ho1⟩, hb1⟩
  obtain ⟨b1, c1, rfl, hlt1, hc1⟩ := own_sng ho1 (by omega)
  obtain ⟨W1, HW1⟩ : ∃ W1, Hid (W1 = w1.alloc (.cells #[.slice (some ⟨b1, 0, none⟩) q c1] 25)) := ⟨_, rfl⟩
  obtain ⟨BV, HBV⟩ : ∃ BV, Hid (BV = w1.heap.size) := ⟨_, rfl⟩
  have HGL1 : Hid (GL W1 W0.heap.size (.slice (some ⟨BV, 0, none⟩) 1 1) (fun _ => (b1, c1)) 1 q (fun _ x => x)) := by rw [HW1.out, HBV.out]; exact GL.one w1 W0.heap.size q b1 c1 (fun x => x) _ rfl hb1.size hlt1 hc1
  have HBW1 : Hid (Below W0.heap.size W0 W1) := by rw [HW1.out]; exact hb1.alloc hb1.size _
  have HCG1 : Hid (CgI q m j 1 (fun _ x => x) 0 0 0) := CgI.start (fun _ _ => rfl)
  clear ho1 hb1 hlt1 hc1 k0 k1 k2
  go_upto_region 2 with fail
  rw [← HW1.out, ← HBV.out]
  clear HW1 HBV
  go_wp2_with fail
  go_loopw [4, 5] (fun v t wx => ∃ (i n : Nat) (RR : Nat → Nat × Nat) (G : Nat → Nat → Nat), i ≤ n ∧ 1 ≤ n ∧ n ≤ 40 ∧ t = .int .i64 i ∧ Hid (GL wx W0.heap.size v RR n q G) ∧ Hid (CgI q m j n G i 0 0) ∧ Hid (Below W0.heap.size W0 wx)) (fun _ t _ => 41 - (intOf t).toNat)
  case atStart => exact ⟨0, 1, _, _, Nat.zero_le _, Nat.le_refl _, by omega, rfl, HGL1.out, HCG1.out, HBW1.out⟩
  case round =>
    clear HGL1 HCG1 HBW1
    obtain ⟨i, n, RR, G, hin, hn1, hn40, rfl, HG, HI, HB⟩ := hrel
    obtain ⟨gv, cv, hvv, _⟩ := HG.out.at (show 0 < n by omega)
    subst hvv
    by_cases hil : i < n
    · have hii : (i : Int) < (n : Int) := by omega
      go_wp2_with fail
      go_loopw [4, 6] (fun v t wx => ∃ (x n : Nat) (RR : Nat → Nat × Nat) (G : Nat → Nat → Nat), x ≤ q ∧ i < n ∧ n ≤ 40 ∧ t = .int .i64 x ∧ Hid (GL wx W0.heap.size v RR n q G) ∧ Hid (CgI q m j n G i x 0) ∧ Hid (Below W0.heap.size W0 wx)) (fun _ t _ => q - (intOf t).toNat)
      case atStart => exact ⟨0, n, RR, G, Nat.zero_le _, hil, hn40, rfl, HG.out, HI.out, HB.out⟩
      case round =>
        clear HG HI HB hii hil hn40 hin hn1
        obtain ⟨x, n, RR, G, hx, hil, hn40, rfl, HG, HI, HB⟩ := hrel
        have l0 := (HL0.out.step HB.out).1
        by_cases hxl : x < q
        · have hxi : (x : Int) < (q : Int) := by omega
          go_wp2_with fail
          clear l0
          go_loopw [4, 7] (fun v t wx => ∃ (y n : Nat) (RR : Nat → Nat × Nat) (G : Nat → Nat → Nat), y ≤ x ∧ i < n ∧ n ≤ 40 ∧ t = .int .i64 y ∧ Hid (GL wx W0.heap.size v RR n q G) ∧ Hid (CgI q m j n G i x y) ∧ Hid (Below W0.heap.size W0 wx)) (fun _ t _ => x - (intOf t).toNat)
          case atStart => exact ⟨0, n, RR, G, Nat.zero_le _, hil, hn40, rfl, HG.out, HI.out, HB.out⟩
          case round =>
            clear HG HI HB hil hn40
            obtain ⟨y, n, RR, G, hy, hil, hn40, rfl, HG, HI, HB⟩ := hrel
            by_cases hyl : y < x
            · have hyi : (y : Int) < (x : Int) := by omega
              have hyq : (y : Int) < (q : Int) := by omega
              have hii : (i : Int) < (n : Int) := by omega
              obtain ⟨gv, cv, hvv, hcv⟩ := HG.out.at hil
              subst hvv
              have d1 := HG.out.rows i hil x hxl
              have d2 := HG.out.rows i hil y (by omega)
              by_cases exy : G i x = G i y
              · have g1 : (((G i x : Nat) : Int) == ((G i y : Nat) : Int)) = true := by rw [exy]; simp
                have HIN : Hid (CgI q m j n G i x (y + 1)) := HI.out.skip exy
                clear exy HI
                go_wp2_with fail
                go_big_quiet (fail)
                go_wp2_with fail
                go_roundw
                case rel => exact ⟨y + 1, n, RR, G, by omega, hil, hn40, by go_num, HG.out.step (below_drewN (Below.refl _ _) _), HIN.out, below_drewN HB.out _⟩
                case measure => simp [intOf]; omega
              · have g1 : (((G i x : Nat) : Int) == ((G i y : Nat) : Int)) = false := by simp; omega
                clear exy
                go_wp2_with fail
                go_big_quiet (fail)
                have HG2 : Hid (GL (wr.drewN nq) W0.heap.size (.slice (some ⟨gv, 0, none⟩) n cv) RR n q G) := HG.out.step (below_drewN (Below.refl _ _) _)
                have HB2 : Hid (Below W0.heap.size W0 (wr.drewN nq)) := below_drewN HB.out _
                clear HG HB hcv d1 d2 g1
                generalize wr.drewN nq = wr at *
                have HG := HG2
                have HB := HB2
                clear HG2 HB2
                obtain ⟨gv', cv', hvv, hcv⟩ := HG.out.at hil
                simp only [Value.slice.injEq, Option.some.injEq, Addr.mk.injEq] at hvv
                obtain ⟨⟨rfl, _, _⟩, _, rfl⟩ := hvv
                have HROW : Hid (∀ w', Below wr.heap.size wr w' → Row w' (some ⟨(RR i).1, 0, none⟩) q (fun k => (G i k : Nat))) := fun w' h => (HG.out.row hil).below h
                have l0 : ∀ w', Below wr.heap.size wr w' → w'.cell? ⟨w.heap.size, 0, none⟩ = some (.int .i64 q) := fun w' h => (HL0.out.step (Below.then HB.out h)).1
                have l1 : ∀ w', Below wr.heap.size wr w' → w'.cell? ⟨w.heap.size, 1, none⟩ = some (.slice (some ⟨bA, oA, none⟩) q ca) := fun w' h => (HL0.out.step (Below.then HB.out h)).2.1
                have l2 : ∀ w', Below wr.heap.size wr w' → w'.cell? ⟨w.heap.size, 2, none⟩ = some (.slice (some ⟨bB, oB, none⟩) q cb) := fun w' h => (HL0.out.step (Below.then HB.out h)).2.2
                have l3 : ∀ w', Below wr.heap.size wr w' → w'.cell? ⟨gv, i, none⟩ = some (.slice (some ⟨(RR i).1, 0, none⟩) q (RR i).2) := fun w' h => cell_step h hcv
                clear hcv
                go_wp2_with fail
                refine wp_region_held_drew (S := (fun w' => Below wr.heap.size wr w')) (by kernel_rfl) ((Below.refl _ _).drew) (fun hHeld => ?_)
                refine wpAnyH_take (i := 0) (oi := { dst := some 48, op := Go.Op.load 24 (Go.Operand.tmp 1), type := 24, pos := "quotient.go:120", after := #[], guard := none }) (v := ?_) rfl (by kernel_rfl) (by kernel_rfl) (by kernel_rfl) (fun _ _ _ h => h) (Or.inl ⟨by rfl, ?hy⟩) (by assumption) ?_
                case hy => (intro w9 hSw; (try dsimp only at hSw); go_simp; try with_reducible rfl)
                try simp only [Act.put, List.setIfInBounds_toArray, List.set_cons_zero, List.set_cons_succ]
                refine wpAnyH_take (i := 1) (oi := { dst := some 49, op := Go.Op.move (Go.Operand.tmp 4), type := 22, pos := "quotient.go:120", after := #[], guard := none }) (v := ?_) rfl (by kernel_rfl) (by kernel_rfl) (by kernel_rfl) (fun _ _ _ h => h) (Or.inl ⟨by rfl, ?hy⟩) (by assumption) ?_
                case hy => (intro w9 hSw; (try dsimp only at hSw); go_simp; try with_reducible rfl)
                try simp only [Act.put, List.setIfInBounds_toArray, List.set_cons_zero, List.set_cons_succ]
                refine wpAnyH_take (i := 2) (oi := { dst := some 50, op := Go.Op.move (Go.Operand.tmp 5), type := 3, pos := "quotient.go:120", after := #[], guard := none }) (v := ?_) rfl (by kernel_rfl) (by kernel_rfl) (by kernel_rfl) (fun _ _ _ h => h) (Or.inl ⟨by rfl, ?hy⟩) (by assumption) ?_
                case hy => (intro w9 hSw; (try dsimp only at hSw); go_simp; try with_reducible rfl)
                try simp only [Act.put, List.setIfInBounds_toArray, List.set_cons_zero, List.set_cons_succ]
                refine wpAnyH_take (i := 3) (oi := { dst := some 51, op := Go.Op.indexAddr 22 (Go.Operand.tmp 49) (Go.Operand.tmp 50), type := 0, pos := "quotient.go:120", after := #[{ on := 1, ground := Go.Ground.data }, { on := 2, ground := Go.Ground.data }], guard := none }) (v := ?_) rfl (by kernel_rfl) (by kernel_rfl) (by kernel_rfl) (fun _ _ _ h => h) (Or.inl ⟨by rfl, ?hy⟩) (by assumption) ?_
                case hy => (intro w9 hSw; (try dsimp only at hSw); go_simp; try with_reducible rfl)
                try simp only [Act.put, List.setIfInBounds_toArray, List.set_cons_zero, List.set_cons_succ]
                refine wpAnyH_take (i := 4) (oi := { dst := some 52, op := Go.Op.load 25 (Go.Operand.tmp 51), type := 25, pos := "quotient.go:120", after := #[{ on := 3, ground := Go.Ground.data }], guard := none }) (v := ?_) rfl (by kernel_rfl) (by kernel_rfl) (by kernel_rfl) (fun _ _ _ h => h) (Or.inl ⟨by rfl, ?hy⟩) (by assumption) ?_
                case hy => (intro w9 hSw; (try dsimp only at hSw); go_simp; try with_reducible rfl)
                try simp only [Act.put, List.setIfInBounds_toArray, List.set_cons_zero, List.set_cons_succ]
                refine wpAnyH_take (i := 5) (oi := { dst := some 53, op := Go.Op.move (Go.Operand.tmp 6), type := 3, pos := "quotient.go:120", after := #[], guard := none }) (v := ?_) rfl (by kernel_rfl) (by kernel_rfl) (by kernel_rfl) (fun _ _ _ h => h) (Or.inl ⟨by rfl, ?hy⟩) (by assumption) ?_
                case hy => (intro w9 hSw; (try dsimp only at hSw); go_simp; try with_reducible rfl)
                try simp only [Act.put, List.setIfInBounds_toArray, List.set_cons_zero, List.set_cons_succ]
                refine wpAnyH_take (i := 6) (oi := { dst := some 54, op := Go.Op.move (Go.Operand.tmp 7), type := 3, pos := "quotient.go:120", after := #[], guard := none }) (v := ?_) rfl (by kernel_rfl) (by kernel_rfl) (by kernel_rfl) (fun _ _ _ h => h) (Or.inl ⟨by rfl, ?hy⟩) (by assumption) ?_
                case hy => (intro w9 hSw; (try dsimp only at hSw); go_simp; try with_reducible rfl)
                try simp only [Act.put, List.setIfInBounds_toArray, List.set_cons_zero, List.set_cons_succ]
                refine wpAnyH_ready (rs := [7]) (by kernel_rfl) (by simp) ?_
                refine AllReadyH.cons (o := { dst := some 55, op := Go.Op.call { callee := Go.Callee.value (Go.Operand.func 17), args := #[Go.Operand.tmp 48, Go.Operand.tmp 52, Go.Operand.tmp 53, Go.Operand.tmp 54], argTypes := #[24, 25, 3, 3] }, type := 25, pos := "quotient.go:120", after := #[{ on := 0, ground := Go.Ground.data }, { on := 4, ground := Go.Ground.data }, { on := 5, ground := Go.Ground.data }, { on := 6, ground := Go.Ground.data }], guard := none }) rfl (fun K hK => ?_) AllReadyH.nil
                go_simp
                refine (leastWith_any q bA oA ca bB oB cb (RR i).1 0 (RR i).2 _ _ m j (G i) x y _ h1 h40 HIA.out HIB.out (HTA.out _ (Below.then HB.out hHeld)) (HTC.out _ (Below.then HB.out hHeld)) (HROW.out _ hHeld) hxl (by omega)).mono ?_
                rintro e w5 ⟨⟨v5, c5, rfl, hl5, ho5⟩, hb5⟩
                refine hK.out _ _ ?_ (fun hHeld => ?_)
                · exact Below.then hHeld hb5
                clear hK K
                try simp only [Act.put, List.setIfInBounds_toArray, List.set_cons_zero, List.set_cons_succ]
                refine wpAnyH_take (i := 8) (oi := { dst := some 8, op := Go.Op.assign (Go.Operand.tmp 55), type := 25, pos := "quotient.go:120", after := #[{ on := 7, ground := Go.Ground.data }, { on := 7, ground := Go.Ground.chain }, { on := 0, ground := Go.Ground.phase }, { on := 1, ground := Go.Ground.phase }, { on := 2, ground := Go.Ground.phase }, { on := 3, ground := Go.Ground.phase }, { on := 4, ground := Go.Ground.phase }, { on := 5, ground := Go.Ground.phase }, { on := 6, ground := Go.Ground.phase }, { on := 7, ground := Go.Ground.phase }], guard := none }) (v := ?_) rfl (by kernel_rfl) (by kernel_rfl) (by kernel_rfl) (fun _ _ _ h => h) (Or.inl ⟨by rfl, ?hy⟩) (by assumption) ?_
                case hy => (intro w9 hSw; (try dsimp only at hSw); go_simp; try with_reducible rfl)
                try simp only [Act.put, List.setIfInBounds_toArray, List.set_cons_zero, List.set_cons_succ]
                refine wpAnyH_done (by kernel_rfl) ?_ _
                try simp only [Act.put, List.setIfInBounds_toArray, List.set_cons_zero, List.set_cons_succ]
                have hbw : Below wr.heap.size wr w5 := Below.then ((Below.refl _ _).drew) hb5
                obtain ⟨b5, cp5, rfl, hge5, hlt5, hrow5⟩ := own_num ho5 (by omega)
                have hge5' : wr.heap.size ≤ b5 := hge5
                have HG5 : Hid (GL w5 W0.heap.size (.slice (some ⟨gv, 0, none⟩) n cv) RR n q G) := HG.out.step hbw
                have HB5 : Hid (Below W0.heap.size W0 w5) := Below.then HB.out hbw
                have HLW : Hid (LwN q m j (G i) x y (nbr c5)) := ⟨c5, hl5, fun _ _ => rfl⟩
                have HRW : Hid (∀ w', Below w5.heap.size w5 w' → ∀ k, k < q → w'.cell? ⟨b5, k, none⟩ = some (.int .i64 (nbr c5 k : Nat))) := fun w' h k hk => cell_step h (hrow5 k hk)
                have HLT : Hid (b5 < w5.heap.size) := hlt5
                have HNE : Hid (b5 ≠ gv) := fun e => by
                  have := (HG.out.own.lt gv rfl).2
                  omega
                clear hbw ho5 hl5 hge5 hge5' hlt5 hrow5 hb5 hHeld l0 l1 l2 l3 HG HB HROW
                go_wp2_with fail
                refine (has_any2 W0.heap.size n q cp5 b5 _ RR G (nbr c5) w5 h40 hn40 (by omega) HG5.out (HRW.out _ (Below.refl _ _))).mono ?_
                rintro e w6 ⟨⟨u, rfl, hu⟩, hb6⟩
                have HG6 : Hid (GL w6 W0.heap.size (.slice (some ⟨gv, 0, none⟩) n cv) RR n q G) := HG5.out.step hb6
                have HB6 : Hid (Below W0.heap.size W0 w6) := Below.then HB5.out hb6
                have HRW6 : Hid (∀ k, k < q → w6.cell? ⟨b5, k, none⟩ = some (.int .i64 (nbr c5 k : Nat))) := HRW.out _ hb6
                have HLT6 : Hid (b5 < w6.heap.size) := Nat.lt_of_lt_of_le HLT.out hb6.size
                clear hb6 HG5 HB5 HRW HLT
                cases u
                · have HIN : Hid (CgI q m j (n + 1) (ad1 G n (nbr c5)) i x (y + 1)) := HI.out.new hil HLW.out (fun h => by have := hu.2 h; cases this)
                  clear hu HI HLW
                  have hown := HG6.out.own
                  have hsz := HB6.out.size
                  go_wp2_with (at_builtin; refine wpList_append_own_at _ rfl _ _ 22 rfl W0.heap.size 25 i0 (.slice none 0 0) 1 24 Try.underlying22 hi0 hz0 hz1 hz2 rfl (by decide) _ _ _ rfl (hown.alloc _) ⟨w6.heap.size, 0, none⟩ 1 1 [.slice (some ⟨b5, 0, none⟩) q cp5] rfl rfl ?c1 ?c2 ?c3 ?c4 ?c5 ?_)
                  case c1 =>
                    intro j u hj
                    match j, hj with
                    | 0, hj => simp at hj; subst hj; simp [Addr.add]
                  case c2 => intro u hu; simp at hu; subst hu; rfl
                  case c3 => unfold maxLen; omega
                  case c4 => omega
                  case c5 => simp; omega
                  intro v7 w7 hown' hgrow _ hat
                  have HG7 : Hid (GL w7 W0.heap.size v7 (nx RR n b5 cp5) (n + 1) q (ad1 G n (nbr c5))) := HG6.out.app HLT6.out (fun e => HNE.out (Option.some.inj e)) HRW6.out hown' hgrow (by simpa using hat)
                  have HB7 : Hid (Below W0.heap.size W0 w7) := below_append3 HB6.out hown hgrow
                  clear hown hown' hgrow hat HG6 HB6 HRW6 HLT6 HNE hsz
                  obtain ⟨g7, c7, hv7, _⟩ := HG7.out.at (show 0 < n + 1 by omega)
                  subst hv7
                  by_cases h41 : 40 < n + 1
                  · have hgt : ((40 : Int) < ((n + 1 : Nat) : Int)) := by omega
                    have HF : Hid (∀ w', CgsIs q m j w' (.slice none 0 0) false) := fun w' => .inl ⟨rfl, rfl, n + 1, _, h41, HIN.out.cg, HIN.out.df⟩
                    have HB8 : Hid (Below w.heap.size w w7) := Below.then HB0.out HB7.out
                    clear HIN HG7 HB7
                    go_wp2_with fail
                    go_ret2
                    exact ⟨⟨_, _, rfl, HF.out _⟩, HB8.out⟩
                  · have hgt : ¬ ((40 : Int) < ((n + 1 : Nat) : Int)) := by omega
                    go_wp2_with fail
                    go_roundw
                    case rel => exact ⟨y + 1, n + 1, _, _, by omega, by omega, by omega, by go_num, HG7.out, HIN.out, HB7.out⟩
                    case measure => simp [intOf]; omega
                · have HIN : Hid (CgI q m j n G i x (y + 1)) := HI.out.old HLW.out (hu.1 rfl)
                  have hgt : ¬ ((40 : Int) < ((n : Nat) : Int)) := by omega
                  clear hu HI HLW
                  go_wp2_with fail
                  go_roundw
                  case rel => exact ⟨y + 1, n, RR, G, by omega, hil, hn40, by go_num, HG6.out, HIN.out, HB6.out⟩
                  case measure => simp [intOf]; omega
            · obtain rfl : y = x := by omega
              have HIN : Hid (CgI q m j n G i (y + 1) 0) := HI.out.x
              clear HI
              go_wp2_with fail
              go_roundw
              case rel => exact ⟨y + 1, n, RR, G, by omega, hil, hn40, by go_num, HG.out, HIN.out, HB.out⟩
              case measure => simp [intOf]; omega
        · obtain rfl : x = q := by omega
          have HIN : Hid (CgI x m j n G (i + 1) 0 0) := HI.out.i
          clear HI
          go_wp2_with fail
          go_roundw
          case rel => exact ⟨i + 1, n, RR, G, by omega, by omega, hn40, by go_num, HG.out, HIN.out, HB.out⟩
          case measure => simp [intOf]; omega
    · obtain rfl : i = n := by omega
      clear hil hin
      obtain ⟨W2, hW2⟩ : ∃ W2, W2 = wr := ⟨_, rfl⟩
      rw [← hW2] at HG HB
      rw [← hW2]
      clear hW2
      have HALL : Hid (∀ d, Con q m j d → ∃ a, a < i ∧ ∀ k, k < q → G a k = nbr d k) := HI.out.all
      have HCG : Hid (∀ a, a < i → Cg q m j (G a)) := HI.out.cg
      have HDF : Hid (∀ k, k < i → ∀ a, a < k → ¬ ∀ t, t < q → G a t = G k t) := fun k hk a ha => HI.out.df a k ha hk
      have HINS0 : Hid (InsI q G 0 []) := InsI.zero q G
      have HBW0 : Hid (Below W2.heap.size W2 W2) := Below.refl _ _
      clear HI
      go_wp2_with fail
      go_loopw [9, 10] (fun ov t wx => ∃ (k : Nat) (L : List Nat), k ≤ i ∧ t = .int .i64 k ∧ Hid (wx.ownsRow W2.heap.size 25 1 ov L.length (hvl q RR L)) ∧ Hid (InsI q G k L) ∧ Hid (Below W2.heap.size W2 wx)) (fun _ t _ => i - (intOf t).toNat)
      case atStart => exact ⟨0, [], Nat.zero_le _, rfl, World.ownsRow_nil _ _ _ _, HINS0.out, HBW0.out⟩
      case round =>
        clear HINS0 HBW0
        obtain ⟨k, L, hk, rfl, HO, HINSK, HBW⟩ := hrel
        by_cases hkl : k < i
        · have hki : (k : Int) < (i : Int) := by omega
          go_wp2_with fail
          rcases HO.out.2 with ⟨hu9, h0⟩ | ⟨B, capv, cur, hu9, hBw, hheap, hle, _⟩
          · subst hu9
            obtain rfl : L = [] := List.length_eq_zero_iff.1 h0
            obtain rfl : k = 0 := by have := HINSK.out.len; simpa using this.symm
            have HINS : Hid (InsI q G 1 (([] : List Nat).take 0 ++ 0 :: ([] : List Nat).drop 0)) := HINSK.out.ins (fun a ha => absurd ha (Nat.not_lt_zero _)) (Nat.le_refl _) (fun s hs => absurd hs (Nat.not_lt_zero _)) (fun h => absurd h (Nat.lt_irrefl _))
            have HBN := HBW
            clear HO HBW h0 HINSK
            go_loopw [11] (fun t wx => t = .int .i64 0 ∧ Hid (Below W2.heap.size W2 wx)) (fun _ _ => 0)
            case atStart => exact ⟨rfl, HBN.out⟩
            case round =>
              clear HBN
              obtain ⟨rfl, hB⟩ := hrel
              go_wp2_with fail
              go_big_quiet (fail)
              have HBW : Hid (Below W2.heap.size W2 (wr.drewN nq)) := below_drewN hB.out _
              clear hB
              generalize wr.drewN nq = wr at *
              have HGK := HG.out.step HBW.out
              obtain ⟨gv', cv', hvv, hck⟩ := HGK.at hkl
              simp only [Value.slice.injEq, Option.some.injEq, Addr.mk.injEq] at hvv
              obtain ⟨⟨rfl, _, _⟩, _, rfl⟩ := hvv
              obtain ⟨k, hk0⟩ : ∃ k : Nat, Hid (k = 0) := ⟨_, rfl⟩
              have l0 : ∀ w', Below wr.heap.size wr w' → w'.cell? ⟨gv, 0, none⟩ = some (.slice (some ⟨(RR k).1, 0, none⟩) q (RR k).2) := fun w' h => by rw [hk0.out]; exact cell_step h hck
              have HSR : Hid (∀ w', Below wr.heap.size wr w' → SrcV w' (.slice none 0 0) (hvl q RR (([] : List Nat).drop 0))) := fun _ _ => .inl ⟨rfl, rfl⟩
              have KK : Below wr.heap.size wr wr.drew := (Below.refl _ _).drew
              clear HGK hck
              go_wp2_with fail
              refine wp_region_held_drew (S := (fun w' => Below wr.heap.size wr w')) (by kernel_rfl) (KK) (fun hHeld => ?_)
              refine wpAnyH_take (i := 0) (oi := { dst := some 90, op := Go.Op.move (Go.Operand.tmp 9), type := 22, pos := "quotient.go:136", after := #[], guard := none }) (v := ?_) rfl (by kernel_rfl) (by kernel_rfl) (by kernel_rfl) (fun _ _ _ h => h) (Or.inl ⟨by rfl, ?hy⟩) (by assumption) ?_
              case hy => (intro w9 hSw; (try dsimp only at hSw); go_simp; try with_reducible rfl)
              try simp only [Act.put, List.setIfInBounds_toArray, List.set_cons_zero, List.set_cons_succ]
              refine wpAnyH_take (i := 1) (oi := { dst := some 91, op := Go.Op.move (Go.Operand.tmp 11), type := 3, pos := "quotient.go:136", after := #[], guard := none }) (v := ?_) rfl (by kernel_rfl) (by kernel_rfl) (by kernel_rfl) (fun _ _ _ h => h) (Or.inl ⟨by rfl, ?hy⟩) (by assumption) ?_
              case hy => (intro w9 hSw; (try dsimp only at hSw); go_simp; try with_reducible rfl)
              try simp only [Act.put, List.setIfInBounds_toArray, List.set_cons_zero, List.set_cons_succ]
              refine wpAnyH_take (i := 2) (oi := { dst := some 92, op := Go.Op.move (Go.Operand.tmp 11), type := 3, pos := "quotient.go:136", after := #[], guard := none }) (v := ?_) rfl (by kernel_rfl) (by kernel_rfl) (by kernel_rfl) (fun _ _ _ h => h) (Or.inl ⟨by rfl, ?hy⟩) (by assumption) ?_
              case hy => (intro w9 hSw; (try dsimp only at hSw); go_simp; try with_reducible rfl)
              try simp only [Act.put, List.setIfInBounds_toArray, List.set_cons_zero, List.set_cons_succ]
              refine wpAnyH_take (i := 3) (oi := { dst := some 93, op := Go.Op.slice 22 (Go.Operand.tmp 90) none (some (Go.Operand.tmp 91)) (some (Go.Operand.tmp 92)), type := 22, pos := "quotient.go:136", after := #[{ on := 0, ground := Go.Ground.data }, { on := 1, ground := Go.Ground.data }, { on := 2, ground := Go.Ground.data }], guard := none }) (v := ?_) rfl (by kernel_rfl) (by kernel_rfl) (by kernel_rfl) (fun _ _ _ h => h) (Or.inl ⟨by rfl, ?hy⟩) (by assumption) ?_
              case hy => (intro w9 hSw; (try dsimp only at hSw); go_simp; try with_reducible rfl)
              try simp only [Act.put, List.setIfInBounds_toArray, List.set_cons_zero, List.set_cons_succ]
              refine wpAnyH_take (i := 4) (oi := { dst := some 94, op := Go.Op.move (Go.Operand.tmp 4), type := 22, pos := "quotient.go:136", after := #[], guard := none }) (v := ?_) rfl (by kernel_rfl) (by kernel_rfl) (by kernel_rfl) (fun _ _ _ h => h) (Or.inl ⟨by rfl, ?hy⟩) (by assumption) ?_
              case hy => (intro w9 hSw; (try dsimp only at hSw); go_simp; try with_reducible rfl)
              try simp only [Act.put, List.setIfInBounds_toArray, List.set_cons_zero, List.set_cons_succ]
              refine wpAnyH_take (i := 5) (oi := { dst := some 95, op := Go.Op.move (Go.Operand.tmp 10), type := 3, pos := "quotient.go:136", after := #[], guard := none }) (v := ?_) rfl (by kernel_rfl) (by kernel_rfl) (by kernel_rfl) (fun _ _ _ h => h) (Or.inl ⟨by rfl, ?hy⟩) (by assumption) ?_
              case hy => (intro w9 hSw; (try dsimp only at hSw); go_simp; try with_reducible rfl)
              try simp only [Act.put, List.setIfInBounds_toArray, List.set_cons_zero, List.set_cons_succ]
              refine wpAnyH_take (i := 6) (oi := { dst := some 96, op := Go.Op.indexAddr 22 (Go.Operand.tmp 94) (Go.Operand.tmp 95), type := 0, pos := "quotient.go:136", after := #[{ on := 4, ground := Go.Ground.data }, { on := 5, ground := Go.Ground.data }], guard := none }) (v := ?_) rfl (by kernel_rfl) (by kernel_rfl) (by kernel_rfl) (fun _ _ _ h => h) (Or.inl ⟨by rfl, ?hy⟩) (by assumption) ?_
              case hy => (intro w9 hSw; (try dsimp only at hSw); go_simp; try with_reducible rfl)
              try simp only [Act.put, List.setIfInBounds_toArray, List.set_cons_zero, List.set_cons_succ]
              refine wpAnyH_take (i := 7) (oi := { dst := some 97, op := Go.Op.load 25 (Go.Operand.tmp 96), type := 25, pos := "quotient.go:136", after := #[{ on := 6, ground := Go.Ground.data }], guard := none }) (v := ?_) rfl (by kernel_rfl) (by kernel_rfl) (by kernel_rfl) (fun _ _ _ h => h) (Or.inl ⟨by rfl, ?hy⟩) (by assumption) ?_
              case hy => (intro w9 hSw; (try dsimp only at hSw); go_simp; try with_reducible rfl)
              try simp only [Act.put, List.setIfInBounds_toArray, List.set_cons_zero, List.set_cons_succ]
              refine wpAnyH_take (i := 9) (oi := { dst := some 99, op := Go.Op.move (Go.Operand.tmp 9), type := 22, pos := "quotient.go:136", after := #[], guard := none }) (v := ?_) rfl (by kernel_rfl) (by kernel_rfl) (by kernel_rfl) (fun _ _ _ h => h) (Or.inl ⟨by rfl, ?hy⟩) (by assumption) ?_
              case hy => (intro w9 hSw; (try dsimp only at hSw); go_simp; try with_reducible rfl)
              try simp only [Act.put, List.setIfInBounds_toArray, List.set_cons_zero, List.set_cons_succ]
              refine wpAnyH_take (i := 10) (oi := { dst := some 100, op := Go.Op.move (Go.Operand.tmp 11), type := 3, pos := "quotient.go:136", after := #[], guard := none }) (v := ?_) rfl (by kernel_rfl) (by kernel_rfl) (by kernel_rfl) (fun _ _ _ h => h) (Or.inl ⟨by rfl, ?hy⟩) (by assumption) ?_
              case hy => (intro w9 hSw; (try dsimp only at hSw); go_simp; try with_reducible rfl)
              try simp only [Act.put, List.setIfInBounds_toArray, List.set_cons_zero, List.set_cons_succ]
              refine wpAnyH_take (i := 11) (oi := { dst := some 101, op := Go.Op.slice 22 (Go.Operand.tmp 99) (some (Go.Operand.tmp 100)) none none, type := 22, pos := "quotient.go:136", after := #[{ on := 9, ground := Go.Ground.data }, { on := 10, ground := Go.Ground.data }], guard := none }) (v := ?_) rfl (by kernel_rfl) (by kernel_rfl) (by kernel_rfl) (fun _ _ _ h => h) (Or.inl ⟨by rfl, ?hy⟩) (by assumption) ?_
              case hy => (intro w9 hSw; (try dsimp only at hSw); go_simp; try with_reducible rfl)
              try simp only [Act.put, List.setIfInBounds_toArray, List.set_cons_zero, List.set_cons_succ]
              refine wpAnyH_ready (rs := [8]) (by kernel_rfl) (by simp) ?_
              refine AllReadyH.cons (o := { dst := some 98, op := Go.Op.buildSlice 22 1 #[(0, Go.Operand.tmp 97)], type := 22, pos := "quotient.go:136", after := #[{ on := 7, ground := Go.Ground.data }], guard := none }) rfl (fun K hK => ?_) AllReadyH.nil
              go_simp
              skip
              refine hK.out _ _ ?_ (fun hHeld => ?_)
              · exact KK.alloc KK.size _
              clear hK K
              try simp only [Act.put, List.setIfInBounds_toArray, List.set_cons_zero, List.set_cons_succ]
              refine wpAnyH_ready (rs := [12]) (by kernel_rfl) (by simp) ?_
              refine AllReadyH.cons (o := { dst := some 102, op := Go.Op.call { callee := Go.Callee.builtin Go.Builtin.append, args := #[Go.Operand.tmp 98, Go.Operand.tmp 101], argTypes := #[22, 22] }, type := 22, pos := "quotient.go:136", after := #[{ on := 8, ground := Go.Ground.data }, { on := 11, ground := Go.Ground.data }], guard := none }) rfl (fun K hK => ?_) AllReadyH.nil
              rw [if_pos (by rfl)]
              refine wp_apndV _ _ _ rfl wr.heap.size wr.heap.size 1 1 [.slice (some ⟨(RR k).1, 0, none⟩) q (RR k).2] (hvl q RR (([] : List Nat).drop 0)) _ rfl (one_ownV wr.drew _) (Nat.le_refl _) (HSR.out _ (KK.alloc KK.size _)) (hvl_one _ _ _) rfl (by rw [hvl_len]; simp) (by simp) ?_
              intro v1 w6 hown1 hg1
              have hB6 : Below wr.heap.size wr w6 := (KK.alloc KK.size _).grown hg1 (by simp) (by intro k hk; injection hk with hk; omega)
              obtain ⟨B1, cap1, rfl, hc1⟩ := formV hown1 (by omega)
              clear hg1
              refine hK.out _ _ ?_ (fun hHeld => ?_)
              · exact hB6
              clear hK K
              try simp only [Act.put, List.setIfInBounds_toArray, List.set_cons_zero, List.set_cons_succ]
              refine wpAnyH_ready (rs := [13]) (by kernel_rfl) (by simp) ?_
              refine AllReadyH.cons (o := { dst := some 103, op := Go.Op.call { callee := Go.Callee.builtin Go.Builtin.append, args := #[Go.Operand.tmp 93, Go.Operand.tmp 102], argTypes := #[22, 22] }, type := 22, pos := "quotient.go:136", after := #[{ on := 3, ground := Go.Ground.data }, { on := 12, ground := Go.Ground.data }, { on := 12, ground := Go.Ground.chain }], guard := none }) rfl (fun K hK => ?_) AllReadyH.nil
              rw [if_pos (by rfl)]
              refine wp_append_own _ _ _ 22 rfl w6.heap.size 25 i0 (.slice none 0 0) 1 24 Try.underlying22 hi0 hz0 hz1 hz2 rfl (by decide) _ 0 [] rfl (World.ownsRow_nil _ _ _ _) ⟨B1, 0, none⟩ (1 + (hvl q RR (([] : List Nat).drop 0)).length) cap1 (hvl q RR (k :: ([] : List Nat).drop 0)) rfl (by simp [hvl]) hc1 (hvl_one _ _ _) (by unfold maxLen; simp [hvl]) (by simp [hvl]) (Nat.le_refl _) ?_
              intro v3 w9 hown3 hg3 _
              have hB9 : Below wr.heap.size wr w9 := hB6.grown hg3 hB6.size (by intro k hk; cases hk)
              clear hg3
              refine hK.out _ _ ?_ (fun hHeld => ?_)
              · exact hB9
              clear hK K
              try simp only [Act.put, List.setIfInBounds_toArray, List.set_cons_zero, List.set_cons_succ]
              refine wpAnyH_take (i := 14) (oi := { dst := some 9, op := Go.Op.assign (Go.Operand.tmp 103), type := 22, pos := "quotient.go:136", after := #[{ on := 13, ground := Go.Ground.data }, { on := 13, ground := Go.Ground.chain }, { on := 0, ground := Go.Ground.phase }, { on := 1, ground := Go.Ground.phase }, { on := 2, ground := Go.Ground.phase }, { on := 3, ground := Go.Ground.phase }, { on := 4, ground := Go.Ground.phase }, { on := 5, ground := Go.Ground.phase }, { on := 6, ground := Go.Ground.phase }, { on := 7, ground := Go.Ground.phase }, { on := 8, ground := Go.Ground.phase }, { on := 9, ground := Go.Ground.phase }, { on := 10, ground := Go.Ground.phase }, { on := 11, ground := Go.Ground.phase }, { on := 12, ground := Go.Ground.phase }, { on := 13, ground := Go.Ground.phase }], guard := none }) (v := ?_) rfl (by kernel_rfl) (by kernel_rfl) (by kernel_rfl) (fun _ _ _ h => h) (Or.inl ⟨by rfl, ?hy⟩) (by assumption) ?_
              case hy => (intro w9 hSw; (try dsimp only at hSw); go_simp; try with_reducible rfl)
              try simp only [Act.put, List.setIfInBounds_toArray, List.set_cons_zero, List.set_cons_succ]
              refine wpAnyH_done (by kernel_rfl) ?_ _
              try simp only [Act.put, List.setIfInBounds_toArray, List.set_cons_zero, List.set_cons_succ]
              have HB9 : Hid (Below W2.heap.size W2 w9) := Below.then HBW.out hB9
              have HO9 : Hid (w9.ownsRow W2.heap.size 25 1 v3 (([] : List Nat).take 0 ++ 0 :: ([] : List Nat).drop 0).length (hvl q RR (([] : List Nat).take 0 ++ 0 :: ([] : List Nat).drop 0))) := by
                have h := owns_base hown3 (Nat.le_trans HBW.out.size hB6.size)
                rw [hk0.out] at h
                exact h
              clear hown3 hB9 hB6 HSR l0 KK
              go_wp2_with fail
              go_roundw
              case rel => exact ⟨1, _, by omega, by go_num, HO9.out, HINS.out, HB9.out⟩
              case measure => simp [intOf]; omega
          · subst hu9
            obtain ⟨nL, HNL⟩ : ∃ n, Hid (L.length = n) := ⟨_, rfl⟩
            have hLk := HINSK.out.len
            rw [HNL.out] at HO hle hLk
            rw [HNL.out]
            have hnL : nL ≤ 40 := by omega
            have HLK : Hid (nL = k) := hLk
            clear hLk
            have HBN := HBW
            clear HBW hheap
            go_loopw [11] (fun t wx => ∃ p : Nat, p ≤ nL ∧ t = .int .i64 p ∧ Hid (∀ s, s < p → cmpF (G (nth L s)) (G k) q 0 < 0) ∧ Hid (wx.ownsRow W2.heap.size 25 1 (.slice (some ⟨B, 0, none⟩) nL capv) nL (hvl q RR L)) ∧ Hid (Below W2.heap.size W2 wx)) (fun t _ => nL - (intOf t).toNat)
            case atStart => exact ⟨0, Nat.zero_le _, rfl, fun s hs => absurd hs (Nat.not_lt_zero _), HO.out, HBN.out⟩
            case round =>
              clear HBN HO
              obtain ⟨p, hp, rfl, HLO, HO, HBW⟩ := hrel
              by_cases hpl : p < nL
              · have hpi : (p : Int) < (nL : Int) := by omega
                have hnt : nth L p < i := by
                  have := HINSK.out.lt _ (nth_mem2 (L := L) (a := p) (by rw [HNL.out]; exact hpl))
                  omega
                have HGK := HG.out.step HBW.out
                obtain ⟨gv', cv', hvv, hck⟩ := HGK.at hkl
                simp only [Value.slice.injEq, Option.some.injEq, Addr.mk.injEq] at hvv
                obtain ⟨⟨rfl, _, _⟩, _, rfl⟩ := hvv
                have hcp : wr.cell? ⟨B, p, none⟩ = some (.slice (some ⟨(RR (nth L p)).1, 0, none⟩) q (RR (nth L p)).2) := by rw [HO.out.cellAt p (by omega)]; exact hvl_at (by rw [HNL.out]; exact hpl)
                have l0 : ∀ w', Below wr.heap.size wr w' → w'.cell? ⟨gv, k, none⟩ = some (.slice (some ⟨(RR k).1, 0, none⟩) q (RR k).2) := fun w' h => cell_step h hck
                have l1 : ∀ w', Below wr.heap.size wr w' → w'.cell? ⟨B, p, none⟩ = some (.slice (some ⟨(RR (nth L p)).1, 0, none⟩) q (RR (nth L p)).2) := fun w' h => cell_step h hcp
                have HRL : Hid (∀ w', Below wr.heap.size wr w' → ∀ t, t < q → w'.cell? ⟨(RR (nth L p)).1, t, none⟩ = some (.int .i64 (G (nth L p) t : Nat))) := fun w' h t ht => cell_step h (HGK.rows _ hnt t ht)
                have HRK : Hid (∀ w', Below wr.heap.size wr w' → ∀ t, t < q → w'.cell? ⟨(RR k).1, t, none⟩ = some (.int .i64 (G k t : Nat))) := fun w' h t ht => cell_step h (HGK.rows _ hkl t ht)
                have KK : Below wr.heap.size wr wr.drew := (Below.refl _ _).drew
                have gp : decide ((p : Int) < (nL : Int)) = true := by simpa using hpl
                clear HGK hck hcp
                by_cases hb : cmpF (G (nth L p)) (G k) q 0 < 0
                · have hlit : decide (cmpF (G (nth L p)) (G k) q 0 < 0) = true := by simpa using hb
                  have HLN : Hid (∀ s, s < p + 1 → cmpF (G (nth L s)) (G k) q 0 < 0) := fun s hs => by
                    by_cases e : s = p
                    · subst e; exact hb
                    · exact HLO.out s (by omega)
                  clear hb HLO
                  go_wp2_with fail
                  refine wp_region_held_drew (S := (fun w' => Below wr.heap.size wr w')) (by kernel_rfl) (KK) (fun hHeld => ?_)
                  refine wpAnyH_take (i := 0) (oi := { dst := some 73, op := Go.Op.move (Go.Operand.tmp 11), type := 3, pos := "quotient.go:133", after := #[], guard := none }) (v := ?_) rfl (by kernel_rfl) (by kernel_rfl) (by kernel_rfl) (fun _ _ _ h => h) (Or.inl ⟨by rfl, ?hy⟩) (by assumption) ?_
                  case hy => (intro w9 hSw; (try dsimp only at hSw); go_simp; try with_reducible rfl)
                  try simp only [Act.put, List.setIfInBounds_toArray, List.set_cons_zero, List.set_cons_succ]
                  refine wpAnyH_take (i := 1) (oi := { dst := some 74, op := Go.Op.move (Go.Operand.tmp 9), type := 22, pos := "quotient.go:133", after := #[], guard := none }) (v := ?_) rfl (by kernel_rfl) (by kernel_rfl) (by kernel_rfl) (fun _ _ _ h => h) (Or.inl ⟨by rfl, ?hy⟩) (by assumption) ?_
                  case hy => (intro w9 hSw; (try dsimp only at hSw); go_simp; try with_reducible rfl)
                  try simp only [Act.put, List.setIfInBounds_toArray, List.set_cons_zero, List.set_cons_succ]
                  refine wpAnyH_take (i := 2) (oi := { dst := some 75, op := Go.Op.call { callee := Go.Callee.builtin Go.Builtin.len, args := #[Go.Operand.tmp 74], argTypes := #[22] }, type := 3, pos := "quotient.go:133", after := #[{ on := 1, ground := Go.Ground.data }], guard := none }) (v := ?_) rfl (by kernel_rfl) (by kernel_rfl) (by kernel_rfl) (fun _ _ _ h => h) (Or.inl ⟨by rfl, ?hy⟩) (by assumption) ?_
                  case hy => (intro w9 hSw; (try dsimp only at hSw); go_simp; try with_reducible rfl)
                  try simp only [Act.put, List.setIfInBounds_toArray, List.set_cons_zero, List.set_cons_succ]
                  refine wpAnyH_take (i := 3) (oi := { dst := some 76, op := Go.Op.binOp Go.BinOp.lss 3 (Go.Operand.tmp 73) (Go.Operand.tmp 75) 3, type := 4, pos := "quotient.go:133", after := #[{ on := 0, ground := Go.Ground.data }, { on := 2, ground := Go.Ground.data }], guard := none }) (v := .bool true) rfl (by kernel_rfl) (by kernel_rfl) (by kernel_rfl) (fun _ _ _ h => h) (Or.inl ⟨by rfl, ?hy⟩) (by assumption) ?_
                  case hy => (intro w9 hSw; (try dsimp only at hSw); go_simp <;> (first | with_reducible rfl | (simp; omega) | omega))
                  try simp only [Act.put, List.setIfInBounds_toArray, List.set_cons_zero, List.set_cons_succ]
                  refine wpAnyH_take (i := 4) (oi := { dst := some 77, op := Go.Op.move (Go.Operand.tmp 76), type := 4, pos := "quotient.go:133", after := #[{ on := 3, ground := Go.Ground.data }], guard := none }) (v := ?_) rfl (by kernel_rfl) (by kernel_rfl) (by kernel_rfl) (fun _ _ _ h => h) (Or.inl ⟨by rfl, ?hy⟩) (by assumption) ?_
                  case hy => (intro w9 hSw; (try dsimp only at hSw); go_simp; try with_reducible rfl)
                  try simp only [Act.put, List.setIfInBounds_toArray, List.set_cons_zero, List.set_cons_succ]
                  refine wpAnyH_take (i := 5) (oi := { dst := some 78, op := Go.Op.move (Go.Operand.tmp 9), type := 22, pos := "quotient.go:133", after := #[{ on := 4, ground := Go.Ground.guard }], guard := some (4, true) }) (v := ?_) rfl (by kernel_rfl) (by kernel_rfl) (by kernel_rfl) (fun _ _ _ h => h) (Or.inl ⟨by rfl, ?hy⟩) (by assumption) ?_
                  case hy => (intro w9 hSw; (try dsimp only at hSw); go_simp; try with_reducible rfl)
                  try simp only [Act.put, List.setIfInBounds_toArray, List.set_cons_zero, List.set_cons_succ]
                  refine wpAnyH_take (i := 6) (oi := { dst := some 79, op := Go.Op.move (Go.Operand.tmp 11), type := 3, pos := "quotient.go:133", after := #[{ on := 4, ground := Go.Ground.guard }], guard := some (4, true) }) (v := ?_) rfl (by kernel_rfl) (by kernel_rfl) (by kernel_rfl) (fun _ _ _ h => h) (Or.inl ⟨by rfl, ?hy⟩) (by assumption) ?_
                  case hy => (intro w9 hSw; (try dsimp only at hSw); go_simp; try with_reducible rfl)
                  try simp only [Act.put, List.setIfInBounds_toArray, List.set_cons_zero, List.set_cons_succ]
                  refine wpAnyH_take (i := 7) (oi := { dst := some 80, op := Go.Op.indexAddr 22 (Go.Operand.tmp 78) (Go.Operand.tmp 79), type := 0, pos := "quotient.go:133", after := #[{ on := 5, ground := Go.Ground.data }, { on := 6, ground := Go.Ground.data }, { on := 4, ground := Go.Ground.guard }], guard := some (4, true) }) (v := ?_) rfl (by kernel_rfl) (by kernel_rfl) (by kernel_rfl) (fun _ _ _ h => h) (Or.inl ⟨by rfl, ?hy⟩) (by assumption) ?_
                  case hy => (intro w9 hSw; (try dsimp only at hSw); go_simp; try with_reducible rfl)
                  try simp only [Act.put, List.setIfInBounds_toArray, List.set_cons_zero, List.set_cons_succ]
                  refine wpAnyH_take (i := 8) (oi := { dst := some 81, op := Go.Op.load 25 (Go.Operand.tmp 80), type := 25, pos := "quotient.go:133", after := #[{ on := 7, ground := Go.Ground.data }, { on := 4, ground := Go.Ground.guard }], guard := some (4, true) }) (v := ?_) rfl (by kernel_rfl) (by kernel_rfl) (by kernel_rfl) (fun _ _ _ h => h) (Or.inl ⟨by rfl, ?hy⟩) (by assumption) ?_
                  case hy => (intro w9 hSw; (try dsimp only at hSw); go_simp; try with_reducible rfl)
                  try simp only [Act.put, List.setIfInBounds_toArray, List.set_cons_zero, List.set_cons_succ]
                  refine wpAnyH_take (i := 9) (oi := { dst := some 82, op := Go.Op.move (Go.Operand.tmp 4), type := 22, pos := "quotient.go:133", after := #[{ on := 4, ground := Go.Ground.guard }], guard := some (4, true) }) (v := ?_) rfl (by kernel_rfl) (by kernel_rfl) (by kernel_rfl) (fun _ _ _ h => h) (Or.inl ⟨by rfl, ?hy⟩) (by assumption) ?_
                  case hy => (intro w9 hSw; (try dsimp only at hSw); go_simp; try with_reducible rfl)
                  try simp only [Act.put, List.setIfInBounds_toArray, List.set_cons_zero, List.set_cons_succ]
                  refine wpAnyH_take (i := 10) (oi := { dst := some 83, op := Go.Op.move (Go.Operand.tmp 10), type := 3, pos := "quotient.go:133", after := #[{ on := 4, ground := Go.Ground.guard }], guard := some (4, true) }) (v := ?_) rfl (by kernel_rfl) (by kernel_rfl) (by kernel_rfl) (fun _ _ _ h => h) (Or.inl ⟨by rfl, ?hy⟩) (by assumption) ?_
                  case hy => (intro w9 hSw; (try dsimp only at hSw); go_simp; try with_reducible rfl)
                  try simp only [Act.put, List.setIfInBounds_toArray, List.set_cons_zero, List.set_cons_succ]
                  refine wpAnyH_take (i := 11) (oi := { dst := some 84, op := Go.Op.indexAddr 22 (Go.Operand.tmp 82) (Go.Operand.tmp 83), type := 0, pos := "quotient.go:133", after := #[{ on := 9, ground := Go.Ground.data }, { on := 10, ground := Go.Ground.data }, { on := 4, ground := Go.Ground.guard }], guard := some (4, true) }) (v := ?_) rfl (by kernel_rfl) (by kernel_rfl) (by kernel_rfl) (fun _ _ _ h => h) (Or.inl ⟨by rfl, ?hy⟩) (by assumption) ?_
                  case hy => (intro w9 hSw; (try dsimp only at hSw); go_simp; try with_reducible rfl)
                  try simp only [Act.put, List.setIfInBounds_toArray, List.set_cons_zero, List.set_cons_succ]
                  refine wpAnyH_take (i := 12) (oi := { dst := some 85, op := Go.Op.load 25 (Go.Operand.tmp 84), type := 25, pos := "quotient.go:133", after := #[{ on := 11, ground := Go.Ground.data }, { on := 4, ground := Go.Ground.guard }], guard := some (4, true) }) (v := ?_) rfl (by kernel_rfl) (by kernel_rfl) (by kernel_rfl) (fun _ _ _ h => h) (Or.inl ⟨by rfl, ?hy⟩) (by assumption) ?_
                  case hy => (intro w9 hSw; (try dsimp only at hSw); go_simp; try with_reducible rfl)
                  try simp only [Act.put, List.setIfInBounds_toArray, List.set_cons_zero, List.set_cons_succ]
                  refine wpAnyH_ready (rs := [13]) (by kernel_rfl) (by simp) ?_
                  refine AllReadyH.cons (o := { dst := some 86, op := Go.Op.call { callee := Go.Callee.value (Go.Operand.func 44), args := #[Go.Operand.tmp 81, Go.Operand.tmp 85], argTypes := #[25, 25] }, type := 4, pos := "quotient.go:133", after := #[{ on := 8, ground := Go.Ground.data }, { on := 12, ground := Go.Ground.data }, { on := 4, ground := Go.Ground.chain }, { on := 4, ground := Go.Ground.guard }], guard := some (4, true) }) rfl (fun K hK => ?_) AllReadyH.nil
                  go_simp
                  refine (before_lit q (RR (nth L p)).1 (RR k).1 (RR (nth L p)).2 (RR k).2 (G (nth L p)) (G k) _ true h40 (HRL.out _ hHeld) (HRK.out _ hHeld) hlit).mono ?_
                  rintro e w5 ⟨rfl, hb5⟩
                  refine hK.out _ _ ?_ (fun hHeld => ?_)
                  · exact Below.then hHeld hb5
                  clear hK K
                  try simp only [Act.put, List.setIfInBounds_toArray, List.set_cons_zero, List.set_cons_succ]
                  refine wpAnyH_take (i := 14) (oi := { dst := some 87, op := Go.Op.pick (Go.Operand.tmp 77) (Go.Operand.tmp 86) (Go.Operand.const (Go.Value.bool false)), type := 4, pos := "quotient.go:133", after := #[{ on := 4, ground := Go.Ground.data }, { on := 13, ground := Go.Ground.data }], guard := none }) (v := ?_) rfl (by kernel_rfl) (by kernel_rfl) (by kernel_rfl) (fun _ _ _ h => h) (Or.inl ⟨by rfl, ?hy⟩) (by assumption) ?_
                  case hy => (intro w9 hSw; (try dsimp only at hSw); go_simp; try with_reducible rfl)
                  try simp only [Act.put, List.setIfInBounds_toArray, List.set_cons_zero, List.set_cons_succ]
                  refine wpAnyH_done (by kernel_rfl) ?_ _
                  try simp only [Act.put, List.setIfInBounds_toArray, List.set_cons_zero, List.set_cons_succ]
                  have hbw : Below wr.heap.size wr w5 := Below.then ((Below.refl _ _).drew) hb5
                  have HO5 : Hid (w5.ownsRow W2.heap.size 25 1 (.slice (some ⟨B, 0, none⟩) nL capv) nL (hvl q RR L)) := owns_below HO.out hbw
                  have HB5 : Hid (Below W2.heap.size W2 w5) := Below.then HBW.out hbw
                  clear hbw hb5 hHeld l0 l1 HRL HRK KK hlit HO HBW
                  go_wp2_with fail
                  go_roundw
                  case rel => exact ⟨p + 1, by omega, by go_num, HLN.out, HO5.out, HB5.out⟩
                  case measure => simp [intOf]; omega
                · have hlit : decide (cmpF (G (nth L p)) (G k) q 0 < 0) = false := by simpa using hb
                  have HINS : Hid (InsI q G (k + 1) (L.take p ++ k :: L.drop p)) := HINSK.out.ins (HDF.out k hkl) (by have := HLK.out; omega) HLO.out (fun _ => hb)
                  clear hb HLO
                  go_wp2_with fail
                  refine wp_region_held_drew (S := (fun w' => Below wr.heap.size wr w')) (by kernel_rfl) (KK) (fun hHeld => ?_)
                  refine wpAnyH_take (i := 0) (oi := { dst := some 73, op := Go.Op.move (Go.Operand.tmp 11), type := 3, pos := "quotient.go:133", after := #[], guard := none }) (v := ?_) rfl (by kernel_rfl) (by kernel_rfl) (by kernel_rfl) (fun _ _ _ h => h) (Or.inl ⟨by rfl, ?hy⟩) (by assumption) ?_
                  case hy => (intro w9 hSw; (try dsimp only at hSw); go_simp; try with_reducible rfl)
                  try simp only [Act.put, List.setIfInBounds_toArray, List.set_cons_zero, List.set_cons_succ]
                  refine wpAnyH_take (i := 1) (oi := { dst := some 74, op := Go.Op.move (Go.Operand.tmp 9), type := 22, pos := "quotient.go:133", after := #[], guard := none }) (v := ?_) rfl (by kernel_rfl) (by kernel_rfl) (by kernel_rfl) (fun _ _ _ h => h) (Or.inl ⟨by rfl, ?hy⟩) (by assumption) ?_
                  case hy => (intro w9 hSw; (try dsimp only at hSw); go_simp; try with_reducible rfl)
                  try simp only [Act.put, List.setIfInBounds_toArray, List.set_cons_zero, List.set_cons_succ]
                  refine wpAnyH_take (i := 2) (oi := { dst := some 75, op := Go.Op.call { callee := Go.Callee.builtin Go.Builtin.len, args := #[Go.Operand.tmp 74], argTypes := #[22] }, type := 3, pos := "quotient.go:133", after := #[{ on := 1, ground := Go.Ground.data }], guard := none }) (v := ?_) rfl (by kernel_rfl) (by kernel_rfl) (by kernel_rfl) (fun _ _ _ h => h) (Or.inl ⟨by rfl, ?hy⟩) (by assumption) ?_
                  case hy => (intro w9 hSw; (try dsimp only at hSw); go_simp; try with_reducible rfl)
                  try simp only [Act.put, List.setIfInBounds_toArray, List.set_cons_zero, List.set_cons_succ]
                  refine wpAnyH_take (i := 3) (oi := { dst := some 76, op := Go.Op.binOp Go.BinOp.lss 3 (Go.Operand.tmp 73) (Go.Operand.tmp 75) 3, type := 4, pos := "quotient.go:133", after := #[{ on := 0, ground := Go.Ground.data }, { on := 2, ground := Go.Ground.data }], guard := none }) (v := .bool true) rfl (by kernel_rfl) (by kernel_rfl) (by kernel_rfl) (fun _ _ _ h => h) (Or.inl ⟨by rfl, ?hy⟩) (by assumption) ?_
                  case hy => (intro w9 hSw; (try dsimp only at hSw); go_simp <;> (first | with_reducible rfl | (simp; omega) | omega))
                  try simp only [Act.put, List.setIfInBounds_toArray, List.set_cons_zero, List.set_cons_succ]
                  refine wpAnyH_take (i := 4) (oi := { dst := some 77, op := Go.Op.move (Go.Operand.tmp 76), type := 4, pos := "quotient.go:133", after := #[{ on := 3, ground := Go.Ground.data }], guard := none }) (v := ?_) rfl (by kernel_rfl) (by kernel_rfl) (by kernel_rfl) (fun _ _ _ h => h) (Or.inl ⟨by rfl, ?hy⟩) (by assumption) ?_
                  case hy => (intro w9 hSw; (try dsimp only at hSw); go_simp; try with_reducible rfl)
                  try simp only [Act.put, List.setIfInBounds_toArray, List.set_cons_zero, List.set_cons_succ]
                  refine wpAnyH_take (i := 5) (oi := { dst := some 78, op := Go.Op.move (Go.Operand.tmp 9), type := 22, pos := "quotient.go:133", after := #[{ on := 4, ground := Go.Ground.guard }], guard := some (4, true) }) (v := ?_) rfl (by kernel_rfl) (by kernel_rfl) (by kernel_rfl) (fun _ _ _ h => h) (Or.inl ⟨by rfl, ?hy⟩) (by assumption) ?_
                  case hy => (intro w9 hSw; (try dsimp only at hSw); go_simp; try with_reducible rfl)
                  try simp only [Act.put, List.setIfInBounds_toArray, List.set_cons_zero, List.set_cons_succ]
                  refine wpAnyH_take (i := 6) (oi := { dst := some 79, op := Go.Op.move (Go.Operand.tmp 11), type := 3, pos := "quotient.go:133", after := #[{ on := 4, ground := Go.Ground.guard }], guard := some (4, true) }) (v := ?_) rfl (by kernel_rfl) (by kernel_rfl) (by kernel_rfl) (fun _ _ _ h => h) (Or.inl ⟨by rfl, ?hy⟩) (by assumption) ?_
                  case hy => (intro w9 hSw; (try dsimp only at hSw); go_simp; try with_reducible rfl)
                  try simp only [Act.put, List.setIfInBounds_toArray, List.set_cons_zero, List.set_cons_succ]
                  refine wpAnyH_take (i := 7) (oi := { dst := some 80, op := Go.Op.indexAddr 22 (Go.Operand.tmp 78) (Go.Operand.tmp 79), type := 0, pos := "quotient.go:133", after := #[{ on := 5, ground := Go.Ground.data }, { on := 6, ground := Go.Ground.data }, { on := 4, ground := Go.Ground.guard }], guard := some (4, true) }) (v := ?_) rfl (by kernel_rfl) (by kernel_rfl) (by kernel_rfl) (fun _ _ _ h => h) (Or.inl ⟨by rfl, ?hy⟩) (by assumption) ?_
                  case hy => (intro w9 hSw; (try dsimp only at hSw); go_simp; try with_reducible rfl)
                  try simp only [Act.put, List.setIfInBounds_toArray, List.set_cons_zero, List.set_cons_succ]
                  refine wpAnyH_take (i := 8) (oi := { dst := some 81, op := Go.Op.load 25 (Go.Operand.tmp 80), type := 25, pos := "quotient.go:133", after := #[{ on := 7, ground := Go.Ground.data }, { on := 4, ground := Go.Ground.guard }], guard := some (4, true) }) (v := ?_) rfl (by kernel_rfl) (by kernel_rfl) (by kernel_rfl) (fun _ _ _ h => h) (Or.inl ⟨by rfl, ?hy⟩) (by assumption) ?_
                  case hy => (intro w9 hSw; (try dsimp only at hSw); go_simp; try with_reducible rfl)
                  try simp only [Act.put, List.setIfInBounds_toArray, List.set_cons_zero, List.set_cons_succ]
                  refine wpAnyH_take (i := 9) (oi := { dst := some 82, op := Go.Op.move (Go.Operand.tmp 4), type := 22, pos := "quotient.go:133", after := #[{ on := 4, ground := Go.Ground.guard }], guard := some (4, true) }) (v := ?_) rfl (by kernel_rfl) (by kernel_rfl) (by kernel_rfl) (fun _ _ _ h => h) (Or.inl ⟨by rfl, ?hy⟩) (by assumption) ?_
                  case hy => (intro w9 hSw; (try dsimp only at hSw); go_simp; try with_reducible rfl)
                  try simp only [Act.put, List.setIfInBounds_toArray, List.set_cons_zero, List.set_cons_succ]
                  refine wpAnyH_take (i := 10) (oi := { dst := some 83, op := Go.Op.move (Go.Operand.tmp 10), type := 3, pos := "quotient.go:133", after := #[{ on := 4, ground := Go.Ground.guard }], guard := some (4, true) }) (v := ?_) rfl (by kernel_rfl) (by kernel_rfl) (by kernel_rfl) (fun _ _ _ h => h) (Or.inl ⟨by rfl, ?hy⟩) (by assumption) ?_
                  case hy => (intro w9 hSw; (try dsimp only at hSw); go_simp; try with_reducible rfl)
                  try simp only [Act.put, List.setIfInBounds_toArray, List.set_cons_zero, List.set_cons_succ]
                  refine wpAnyH_take (i := 11) (oi := { dst := some 84, op := Go.Op.indexAddr 22 (Go.Operand.tmp 82) (Go.Operand.tmp 83), type := 0, pos := "quotient.go:133", after := #[{ on := 9, ground := Go.Ground.data }, { on := 10, ground := Go.Ground.data }, { on := 4, ground := Go.Ground.guard }], guard := some (4, true) }) (v := ?_) rfl (by kernel_rfl) (by kernel_rfl) (by kernel_rfl) (fun _ _ _ h => h) (Or.inl ⟨by rfl, ?hy⟩) (by assumption) ?_
                  case hy => (intro w9 hSw; (try dsimp only at hSw); go_simp; try with_reducible rfl)
                  try simp only [Act.put, List.setIfInBounds_toArray, List.set_cons_zero, List.set_cons_succ]
                  refine wpAnyH_take (i := 12) (oi := { dst := some 85, op := Go.Op.load 25 (Go.Operand.tmp 84), type := 25, pos := "quotient.go:133", after := #[{ on := 11, ground := Go.Ground.data }, { on := 4, ground := Go.Ground.guard }], guard := some (4, true) }) (v := ?_) rfl (by kernel_rfl) (by kernel_rfl) (by kernel_rfl) (fun _ _ _ h => h) (Or.inl ⟨by rfl, ?hy⟩) (by assumption) ?_
                  case hy => (intro w9 hSw; (try dsimp only at hSw); go_simp; try with_reducible rfl)
                  try simp only [Act.put, List.setIfInBounds_toArray, List.set_cons_zero, List.set_cons_succ]
                  refine wpAnyH_ready (rs := [13]) (by kernel_rfl) (by simp) ?_
                  refine AllReadyH.cons (o := { dst := some 86, op := Go.Op.call { callee := Go.Callee.value (Go.Operand.func 44), args := #[Go.Operand.tmp 81, Go.Operand.tmp 85], argTypes := #[25, 25] }, type := 4, pos := "quotient.go:133", after := #[{ on := 8, ground := Go.Ground.data }, { on := 12, ground := Go.Ground.data }, { on := 4, ground := Go.Ground.chain }, { on := 4, ground := Go.Ground.guard }], guard := some (4, true) }) rfl (fun K hK => ?_) AllReadyH.nil
                  go_simp
                  refine (before_lit q (RR (nth L p)).1 (RR k).1 (RR (nth L p)).2 (RR k).2 (G (nth L p)) (G k) _ false h40 (HRL.out _ hHeld) (HRK.out _ hHeld) hlit).mono ?_
                  rintro e w5 ⟨rfl, hb5⟩
                  refine hK.out _ _ ?_ (fun hHeld => ?_)
                  · exact Below.then hHeld hb5
                  clear hK K
                  try simp only [Act.put, List.setIfInBounds_toArray, List.set_cons_zero, List.set_cons_succ]
                  refine wpAnyH_take (i := 14) (oi := { dst := some 87, op := Go.Op.pick (Go.Operand.tmp 77) (Go.Operand.tmp 86) (Go.Operand.const (Go.Value.bool false)), type := 4, pos := "quotient.go:133", after := #[{ on := 4, ground := Go.Ground.data }, { on := 13, ground := Go.Ground.data }], guard := none }) (v := ?_) rfl (by kernel_rfl) (by kernel_rfl) (by kernel_rfl) (fun _ _ _ h => h) (Or.inl ⟨by rfl, ?hy⟩) (by assumption) ?_
                  case hy => (intro w9 hSw; (try dsimp only at hSw); go_simp; try with_reducible rfl)
                  try simp only [Act.put, List.setIfInBounds_toArray, List.set_cons_zero, List.set_cons_succ]
                  refine wpAnyH_done (by kernel_rfl) ?_ _
                  try simp only [Act.put, List.setIfInBounds_toArray, List.set_cons_zero, List.set_cons_succ]
                  have hbw : Below wr.heap.size wr w5 := Below.then ((Below.refl _ _).drew) hb5
                  have HO2 : Hid (w5.ownsRow W2.heap.size 25 1 (.slice (some ⟨B, 0, none⟩) nL capv) nL (hvl q RR L)) := owns_below HO.out hbw
                  have HB5 : Hid (Below W2.heap.size W2 w5) := Below.then HBW.out hbw
                  clear hbw hb5 hHeld l0 l1 HRL HRK KK hlit HO HBW
                  have HBW := HB5
                  clear HB5
                  generalize w5 = wr at *
                  go_wp2_with fail
                  have HGK := HG.out.step HBW.out
                  obtain ⟨gv', cv', hvv, hck⟩ := HGK.at hkl
                  simp only [Value.slice.injEq, Option.some.injEq, Addr.mk.injEq] at hvv
                  obtain ⟨⟨rfl, _, _⟩, _, rfl⟩ := hvv
                  have l0 : ∀ w', Below wr.heap.size wr w' → w'.cell? ⟨gv, k, none⟩ = some (.slice (some ⟨(RR k).1, 0, none⟩) q (RR k).2) := fun w' h => cell_step h hck
                  have HCQ : Hid (∀ w', Below wr.heap.size wr w' → ∀ jj, jj < nL → w'.cell? ⟨B, jj, none⟩ = some (.slice (some ⟨(RR (nth L jj)).1, 0, none⟩) q (RR (nth L jj)).2)) := fun w' h jj hj => by
                    have hc : wr.cell? ⟨B, jj, none⟩ = some (.slice (some ⟨(RR (nth L jj)).1, 0, none⟩) q (RR (nth L jj)).2) := by rw [HO2.out.cellAt jj (by omega)]; exact hvl_at (by rw [HNL.out]; exact hj)
                    exact cell_step h hc
                  obtain ⟨ad, HAD⟩ : ∃ ad : Addr, Hid ((⟨B, 0, none⟩ : Addr) = ad) := ⟨_, rfl⟩
                  obtain ⟨aq, haq, HAQ⟩ : ∃ aq : Addr, (if capv = p then some ad else some (Addr.add ad p)) = some aq ∧ Hid (p < nL → aq = ⟨B, p, none⟩) := by
                    by_cases h : capv = p
                    · exact ⟨_, by rw [if_pos h], fun h2 => by omega⟩
                    · exact ⟨_, by rw [if_neg h], fun _ => by rw [← HAD.out]; cases p <;> simp [Addr.add]⟩
                  have HSL : Hid (∀ w', Below wr.heap.size wr w' → ∀ jj u, (hvl q RR (L.take p))[jj]? = some u → w'.cell? (Addr.add ad jj) = some u) := fun w' h jj u hj => by
                    have hjq : jj < p := by
                      rcases Nat.lt_or_ge jj p with h | h
                      · exact h
                      · rw [List.getElem?_eq_none (by rw [hvl_len]; simp; omega)] at hj; cases hj
                    have e : (Addr.add ⟨B, 0, none⟩ jj) = ⟨B, jj, none⟩ := by cases jj <;> simp [Addr.add]
                    rw [← HAD.out, e, HCQ.out w' h jj (by omega)]
                    have e2 : (hvl q RR (L.take p))[jj]? = (hvl q RR L)[jj]? := by unfold hvl; rw [List.map_take, List.getElem?_take_of_lt hjq]
                    rw [e2, hvl_at (by rw [HNL.out]; omega)] at hj
                    exact hj
                  have HSR : Hid (∀ w', Below wr.heap.size wr w' → SrcV w' (.slice (some aq) (nL - p) (capv - p)) (hvl q RR (L.drop p))) := fun w' h => by
                    refine .inr ⟨aq, capv - p, by rw [hvl_len]; simp [HNL.out], fun jj u hj => ?_⟩
                    have hjq : jj < nL - p := by
                      rcases Nat.lt_or_ge jj (nL - p) with h | h
                      · exact h
                      · rw [List.getElem?_eq_none (by rw [hvl_len]; simp [HNL.out] <;> omega)] at hj; cases hj
                    have e : (Addr.add ⟨B, p, none⟩ jj) = ⟨B, p + jj, none⟩ := by cases jj <;> simp [Addr.add]
                    rw [HAQ.out (by omega), e, HCQ.out w' h (p + jj) (by omega)]
                    have e2 : (hvl q RR (L.drop p))[jj]? = (hvl q RR L)[p + jj]? := by unfold hvl; rw [List.map_drop, List.getElem?_drop]
                    rw [e2, hvl_at (by rw [HNL.out]; omega)] at hj
                    exact hj
                  have KK : Below wr.heap.size wr wr.drew := (Below.refl _ _).drew
                  have hq1 : (p : Int) ≤ (nL : Int) := by omega
                  have hq2 : (nL : Int) ≤ (capv : Int) := by omega
                  have hq3 : (p : Int) ≤ (capv : Int) := by omega
                  clear HCQ HGK hck
                  rw [HAD.out]
                  go_wp2_with fail
                  refine wp_region_held_drew (S := (fun w' => Below wr.heap.size wr w')) (by kernel_rfl) (KK) (fun hHeld => ?_)
                  refine wpAnyH_take (i := 0) (oi := { dst := some 90, op := Go.Op.move (Go.Operand.tmp 9), type := 22, pos := "quotient.go:136", after := #[], guard := none }) (v := ?_) rfl (by kernel_rfl) (by kernel_rfl) (by kernel_rfl) (fun _ _ _ h => h) (Or.inl ⟨by rfl, ?hy⟩) (by assumption) ?_
                  case hy => (intro w9 hSw; (try dsimp only at hSw); go_simp; try with_reducible rfl)
                  try simp only [Act.put, List.setIfInBounds_toArray, List.set_cons_zero, List.set_cons_succ]
                  refine wpAnyH_take (i := 1) (oi := { dst := some 91, op := Go.Op.move (Go.Operand.tmp 11), type := 3, pos := "quotient.go:136", after := #[], guard := none }) (v := ?_) rfl (by kernel_rfl) (by kernel_rfl) (by kernel_rfl) (fun _ _ _ h => h) (Or.inl ⟨by rfl, ?hy⟩) (by assumption) ?_
                  case hy => (intro w9 hSw; (try dsimp only at hSw); go_simp; try with_reducible rfl)
                  try simp only [Act.put, List.setIfInBounds_toArray, List.set_cons_zero, List.set_cons_succ]
                  refine wpAnyH_take (i := 2) (oi := { dst := some 92, op := Go.Op.move (Go.Operand.tmp 11), type := 3, pos := "quotient.go:136", after := #[], guard := none }) (v := ?_) rfl (by kernel_rfl) (by kernel_rfl) (by kernel_rfl) (fun _ _ _ h => h) (Or.inl ⟨by rfl, ?hy⟩) (by assumption) ?_
                  case hy => (intro w9 hSw; (try dsimp only at hSw); go_simp; try with_reducible rfl)
                  try simp only [Act.put, List.setIfInBounds_toArray, List.set_cons_zero, List.set_cons_succ]
                  refine wpAnyH_take (i := 3) (oi := { dst := some 93, op := Go.Op.slice 22 (Go.Operand.tmp 90) none (some (Go.Operand.tmp 91)) (some (Go.Operand.tmp 92)), type := 22, pos := "quotient.go:136", after := #[{ on := 0, ground := Go.Ground.data }, { on := 1, ground := Go.Ground.data }, { on := 2, ground := Go.Ground.data }], guard := none }) (v := ?_) rfl (by kernel_rfl) (by kernel_rfl) (by kernel_rfl) (fun _ _ _ h => h) (Or.inl ⟨by rfl, ?hy⟩) (by assumption) ?_
                  case hy => (intro w9 hSw; (try dsimp only at hSw); go_simp; try with_reducible rfl)
                  try simp only [Act.put, List.setIfInBounds_toArray, List.set_cons_zero, List.set_cons_succ]
                  refine wpAnyH_take (i := 4) (oi := { dst := some 94, op := Go.Op.move (Go.Operand.tmp 4), type := 22, pos := "quotient.go:136", after := #[], guard := none }) (v := ?_) rfl (by kernel_rfl) (by kernel_rfl) (by kernel_rfl) (fun _ _ _ h => h) (Or.inl ⟨by rfl, ?hy⟩) (by assumption) ?_
                  case hy => (intro w9 hSw; (try dsimp only at hSw); go_simp; try with_reducible rfl)
                  try simp only [Act.put, List.setIfInBounds_toArray, List.set_cons_zero, List.set_cons_succ]
                  refine wpAnyH_take (i := 5) (oi := { dst := some 95, op := Go.Op.move (Go.Operand.tmp 10), type := 3, pos := "quotient.go:136", after := #[], guard := none }) (v := ?_) rfl (by kernel_rfl) (by kernel_rfl) (by kernel_rfl) (fun _ _ _ h => h) (Or.inl ⟨by rfl, ?hy⟩) (by assumption) ?_
                  case hy => (intro w9 hSw; (try dsimp only at hSw); go_simp; try with_reducible rfl)
                  try simp only [Act.put, List.setIfInBounds_toArray, List.set_cons_zero, List.set_cons_succ]
                  refine wpAnyH_take (i := 6) (oi := { dst := some 96, op := Go.Op.indexAddr 22 (Go.Operand.tmp 94) (Go.Operand.tmp 95), type := 0, pos := "quotient.go:136", after := #[{ on := 4, ground := Go.Ground.data }, { on := 5, ground := Go.Ground.data }], guard := none }) (v := ?_) rfl (by kernel_rfl) (by kernel_rfl) (by kernel_rfl) (fun _ _ _ h => h) (Or.inl ⟨by rfl, ?hy⟩) (by assumption) ?_
                  case hy => (intro w9 hSw; (try dsimp only at hSw); go_simp; try with_reducible rfl)
                  try simp only [Act.put, List.setIfInBounds_toArray, List.set_cons_zero, List.set_cons_succ]
                  refine wpAnyH_take (i := 7) (oi := { dst := some 97, op := Go.Op.load 25 (Go.Operand.tmp 96), type := 25, pos := "quotient.go:136", after := #[{ on := 6, ground := Go.Ground.data }], guard := none }) (v := ?_) rfl (by kernel_rfl) (by kernel_rfl) (by kernel_rfl) (fun _ _ _ h => h) (Or.inl ⟨by rfl, ?hy⟩) (by assumption) ?_
                  case hy => (intro w9 hSw; (try dsimp only at hSw); go_simp; try with_reducible rfl)
                  try simp only [Act.put, List.setIfInBounds_toArray, List.set_cons_zero, List.set_cons_succ]
                  refine wpAnyH_take (i := 9) (oi := { dst := some 99, op := Go.Op.move (Go.Operand.tmp 9), type := 22, pos := "quotient.go:136", after := #[], guard := none }) (v := ?_) rfl (by kernel_rfl) (by kernel_rfl) (by kernel_rfl) (fun _ _ _ h => h) (Or.inl ⟨by rfl, ?hy⟩) (by assumption) ?_
                  case hy => (intro w9 hSw; (try dsimp only at hSw); go_simp; try with_reducible rfl)
                  try simp only [Act.put, List.setIfInBounds_toArray, List.set_cons_zero, List.set_cons_succ]
                  refine wpAnyH_take (i := 10) (oi := { dst := some 100, op := Go.Op.move (Go.Operand.tmp 11), type := 3, pos := "quotient.go:136", after := #[], guard := none }) (v := ?_) rfl (by kernel_rfl) (by kernel_rfl) (by kernel_rfl) (fun _ _ _ h => h) (Or.inl ⟨by rfl, ?hy⟩) (by assumption) ?_
                  case hy => (intro w9 hSw; (try dsimp only at hSw); go_simp; try with_reducible rfl)
                  try simp only [Act.put, List.setIfInBounds_toArray, List.set_cons_zero, List.set_cons_succ]
                  refine wpAnyH_take (i := 11) (oi := { dst := some 101, op := Go.Op.slice 22 (Go.Operand.tmp 99) (some (Go.Operand.tmp 100)) none none, type := 22, pos := "quotient.go:136", after := #[{ on := 9, ground := Go.Ground.data }, { on := 10, ground := Go.Ground.data }], guard := none }) (v := ?_) rfl (by kernel_rfl) (by kernel_rfl) (by kernel_rfl) (fun _ _ _ h => h) (Or.inl ⟨by rfl, ?hy⟩) (by assumption) ?_
                  case hy => (intro w9 hSw; (try dsimp only at hSw); go_simp; try with_reducible rfl)
                  try simp only [Act.put, List.setIfInBounds_toArray, List.set_cons_zero, List.set_cons_succ]
                  refine wpAnyH_ready (rs := [8]) (by kernel_rfl) (by simp) ?_
                  refine AllReadyH.cons (o := { dst := some 98, op := Go.Op.buildSlice 22 1 #[(0, Go.Operand.tmp 97)], type := 22, pos := "quotient.go:136", after := #[{ on := 7, ground := Go.Ground.data }], guard := none }) rfl (fun K hK => ?_) AllReadyH.nil
                  go_simp
                  skip
                  refine hK.out _ _ ?_ (fun hHeld => ?_)
                  · exact KK.alloc KK.size _
                  clear hK K
                  try simp only [Act.put, List.setIfInBounds_toArray, List.set_cons_zero, List.set_cons_succ]
                  refine wpAnyH_ready (rs := [12]) (by kernel_rfl) (by simp) ?_
                  refine AllReadyH.cons (o := { dst := some 102, op := Go.Op.call { callee := Go.Callee.builtin Go.Builtin.append, args := #[Go.Operand.tmp 98, Go.Operand.tmp 101], argTypes := #[22, 22] }, type := 22, pos := "quotient.go:136", after := #[{ on := 8, ground := Go.Ground.data }, { on := 11, ground := Go.Ground.data }], guard := none }) rfl (fun K hK => ?_) AllReadyH.nil
                  rw [if_pos (by rfl)]
                  refine wp_apndV _ _ _ rfl wr.heap.size wr.heap.size 1 1 [.slice (some ⟨(RR k).1, 0, none⟩) q (RR k).2] (hvl q RR (L.drop p)) _ rfl (one_ownV wr.drew _) (Nat.le_refl _) (HSR.out _ (KK.alloc KK.size _)) (hvl_one _ _ _) rfl (by rw [hvl_len]; simp [HNL.out] <;> omega) (by simp) ?_
                  intro v1 w6 hown1 hg1
                  have hB6 : Below wr.heap.size wr w6 := (KK.alloc KK.size _).grown hg1 (by simp) (by intro k hk; injection hk with hk; omega)
                  obtain ⟨B1, cap1, rfl, hc1⟩ := formV hown1 (by omega)
                  clear hg1
                  refine hK.out _ _ ?_ (fun hHeld => ?_)
                  · exact hB6
                  clear hK K
                  try simp only [Act.put, List.setIfInBounds_toArray, List.set_cons_zero, List.set_cons_succ]
                  refine wpAnyH_ready (rs := [13]) (by kernel_rfl) (by simp) ?_
                  refine AllReadyH.cons (o := { dst := some 103, op := Go.Op.call { callee := Go.Callee.builtin Go.Builtin.append, args := #[Go.Operand.tmp 93, Go.Operand.tmp 102], argTypes := #[22, 22] }, type := 22, pos := "quotient.go:136", after := #[{ on := 3, ground := Go.Ground.data }, { on := 12, ground := Go.Ground.data }, { on := 12, ground := Go.Ground.chain }], guard := none }) rfl (fun K hK => ?_) AllReadyH.nil
                  rw [if_pos (by rfl)]
                  refine wp_cutV _ _ _ rfl ad p (hvl q RR (L.take p)) rfl (by rw [hvl_len]; simp [HNL.out] <;> omega) (HSL.out _ hB6) ⟨B1, 0, none⟩ (1 + (hvl q RR (L.drop p)).length) cap1 (hvl q RR (k :: L.drop p)) rfl (by simp [hvl] <;> omega) hc1 (by omega) (by rw [hvl_len]; simp [HNL.out] <;> omega) ?_
                  intro v3 w9 hown3 hg3
                  have hB9 : Below wr.heap.size wr w9 := hB6.grown hg3 hB6.size (by intro k hk; cases hk)
                  clear hg3
                  refine hK.out _ _ ?_ (fun hHeld => ?_)
                  · exact hB9
                  clear hK K
                  try simp only [Act.put, List.setIfInBounds_toArray, List.set_cons_zero, List.set_cons_succ]
                  refine wpAnyH_take (i := 14) (oi := { dst := some 9, op := Go.Op.assign (Go.Operand.tmp 103), type := 22, pos := "quotient.go:136", after := #[{ on := 13, ground := Go.Ground.data }, { on := 13, ground := Go.Ground.chain }, { on := 0, ground := Go.Ground.phase }, { on := 1, ground := Go.Ground.phase }, { on := 2, ground := Go.Ground.phase }, { on := 3, ground := Go.Ground.phase }, { on := 4, ground := Go.Ground.phase }, { on := 5, ground := Go.Ground.phase }, { on := 6, ground := Go.Ground.phase }, { on := 7, ground := Go.Ground.phase }, { on := 8, ground := Go.Ground.phase }, { on := 9, ground := Go.Ground.phase }, { on := 10, ground := Go.Ground.phase }, { on := 11, ground := Go.Ground.phase }, { on := 12, ground := Go.Ground.phase }, { on := 13, ground := Go.Ground.phase }], guard := none }) (v := ?_) rfl (by kernel_rfl) (by kernel_rfl) (by kernel_rfl) (fun _ _ _ h => h) (Or.inl ⟨by rfl, ?hy⟩) (by assumption) ?_
                  case hy => (intro w9 hSw; (try dsimp only at hSw); go_simp; try with_reducible rfl)
                  try simp only [Act.put, List.setIfInBounds_toArray, List.set_cons_zero, List.set_cons_succ]
                  refine wpAnyH_done (by kernel_rfl) ?_ _
                  try simp only [Act.put, List.setIfInBounds_toArray, List.set_cons_zero, List.set_cons_succ]
                  have HB9 : Hid (Below W2.heap.size W2 w9) := Below.then HBW.out hB9
                  have HO9 : Hid (w9.ownsRow W2.heap.size 25 1 v3 (L.take p ++ k :: L.drop p).length (hvl q RR (L.take p ++ k :: L.drop p))) := by
                    have h := owns_base hown3 (Nat.le_trans HBW.out.size hB6.size)
                    have e1 : hvl q RR (L.take p ++ k :: L.drop p) = hvl q RR (L.take p) ++ hvl q RR (k :: L.drop p) := hvl_append _ _ _ _
                    have e2 : (L.take p ++ k :: L.drop p).length = p + (1 + (hvl q RR (L.drop p)).length) := by rw [hvl_len]; simp [HNL.out] <;> omega
                    rw [e1, e2]
                    exact h
                  clear hown3 hB9 hB6 HSR HSL l0 KK
                  go_wp2_with fail
                  go_roundw
                  case rel => exact ⟨k + 1, _, by omega, by go_num, HO9.out, HINS.out, HB9.out⟩
                  case measure => simp [intOf]; omega
              · obtain rfl : p = nL := by omega
                have HINS : Hid (InsI q G (k + 1) (L.take p ++ k :: L.drop p)) := HINSK.out.ins (HDF.out k hkl) (by have := HLK.out; omega) HLO.out (fun h => absurd h (by have := HLK.out; omega))
                have gp : decide ((p : Int) < (p : Int)) = false := by simp
                go_wp2_with fail
                go_big_quiet (fail)
                have HB5 : Hid (Below W2.heap.size W2 (wr.drewN nq)) := below_drewN HBW.out _
                have HO2 : Hid ((wr.drewN nq).ownsRow W2.heap.size 25 1 (.slice (some ⟨B, 0, none⟩) p capv) p (hvl q RR L)) := HO.out
                clear HBW HO HLO
                have HBW := HB5
                clear HB5
                generalize wr.drewN nq = wr at *
                go_wp2_with fail
                have HGK := HG.out.step HBW.out
                obtain ⟨gv', cv', hvv, hck⟩ := HGK.at hkl
                simp only [Value.slice.injEq, Option.some.injEq, Addr.mk.injEq] at hvv
                obtain ⟨⟨rfl, _, _⟩, _, rfl⟩ := hvv
                have l0 : ∀ w', Below wr.heap.size wr w' → w'.cell? ⟨gv, k, none⟩ = some (.slice (some ⟨(RR k).1, 0, none⟩) q (RR k).2) := fun w' h => cell_step h hck
                have HCQ : Hid (∀ w', Below wr.heap.size wr w' → ∀ jj, jj < p → w'.cell? ⟨B, jj, none⟩ = some (.slice (some ⟨(RR (nth L jj)).1, 0, none⟩) q (RR (nth L jj)).2)) := fun w' h jj hj => by
                  have hc : wr.cell? ⟨B, jj, none⟩ = some (.slice (some ⟨(RR (nth L jj)).1, 0, none⟩) q (RR (nth L jj)).2) := by rw [HO2.out.cellAt jj (by omega)]; exact hvl_at (by rw [HNL.out]; exact hj)
                  exact cell_step h hc
                obtain ⟨ad, HAD⟩ : ∃ ad : Addr, Hid ((⟨B, 0, none⟩ : Addr) = ad) := ⟨_, rfl⟩
                obtain ⟨aq, haq, HAQ⟩ : ∃ aq : Addr, (if capv = p then some ad else some (Addr.add ad p)) = some aq ∧ Hid (p < p → aq = ⟨B, p, none⟩) := by
                  by_cases h : capv = p
                  · exact ⟨_, by rw [if_pos h], fun h2 => by omega⟩
                  · exact ⟨_, by rw [if_neg h], fun _ => by rw [← HAD.out]; cases p <;> simp [Addr.add]⟩
                have HSL : Hid (∀ w', Below wr.heap.size wr w' → ∀ jj u, (hvl q RR (L.take p))[jj]? = some u → w'.cell? (Addr.add ad jj) = some u) := fun w' h jj u hj => by
                  have hjq : jj < p := by
                    rcases Nat.lt_or_ge jj p with h | h
                    · exact h
                    · rw [List.getElem?_eq_none (by rw [hvl_len]; simp; omega)] at hj; cases hj
                  have e : (Addr.add ⟨B, 0, none⟩ jj) = ⟨B, jj, none⟩ := by cases jj <;> simp [Addr.add]
                  rw [← HAD.out, e, HCQ.out w' h jj (by omega)]
                  have e2 : (hvl q RR (L.take p))[jj]? = (hvl q RR L)[jj]? := by unfold hvl; rw [List.map_take, List.getElem?_take_of_lt hjq]
                  rw [e2, hvl_at (by rw [HNL.out]; omega)] at hj
                  exact hj
                have HSR : Hid (∀ w', Below wr.heap.size wr w' → SrcV w' (.slice (some aq) 0 (capv - p)) (hvl q RR (L.drop p))) := fun w' h => by
                  refine .inr ⟨aq, capv - p, by rw [hvl_len]; simp [HNL.out], fun jj u hj => ?_⟩
                  have hjq : jj < p - p := by
                    rcases Nat.lt_or_ge jj (p - p) with h | h
                    · exact h
                    · rw [List.getElem?_eq_none (by rw [hvl_len]; simp [HNL.out] <;> omega)] at hj; cases hj
                  have e : (Addr.add ⟨B, p, none⟩ jj) = ⟨B, p + jj, none⟩ := by cases jj <;> simp [Addr.add]
                  rw [HAQ.out (by omega), e, HCQ.out w' h (p + jj) (by omega)]
                  have e2 : (hvl q RR (L.drop p))[jj]? = (hvl q RR L)[p + jj]? := by unfold hvl; rw [List.map_drop, List.getElem?_drop]
                  rw [e2, hvl_at (by rw [HNL.out]; omega)] at hj
                  exact hj
                have KK : Below wr.heap.size wr wr.drew := (Below.refl _ _).drew
                have hq1 : (p : Int) ≤ (p : Int) := by omega
                have hq2 : (p : Int) ≤ (capv : Int) := by omega
                have hq3 : (p : Int) ≤ (capv : Int) := by omega
                clear HCQ HGK hck
                rw [HAD.out]
                go_wp2_with fail
                refine wp_region_held_drew (S := (fun w' => Below wr.heap.size wr w')) (by kernel_rfl) (KK) (fun hHeld => ?_)
                refine wpAnyH_take (i := 0) (oi := { dst := some 90, op := Go.Op.move (Go.Operand.tmp 9), type := 22, pos := "quotient.go:136", after := #[], guard := none }) (v := ?_) rfl (by kernel_rfl) (by kernel_rfl) (by kernel_rfl) (fun _ _ _ h => h) (Or.inl ⟨by rfl, ?hy⟩) (by assumption) ?_
                case hy => (intro w9 hSw; (try dsimp only at hSw); go_simp; try with_reducible rfl)
                try simp only [Act.put, List.setIfInBounds_toArray, List.set_cons_zero, List.set_cons_succ]
                refine wpAnyH_take (i := 1) (oi := { dst := some 91, op := Go.Op.move (Go.Operand.tmp 11), type := 3, pos := "quotient.go:136", after := #[], guard := none }) (v := ?_) rfl (by kernel_rfl) (by kernel_rfl) (by kernel_rfl) (fun _ _ _ h => h) (Or.inl ⟨by rfl, ?hy⟩) (by assumption) ?_
                case hy => (intro w9 hSw; (try dsimp only at hSw); go_simp; try with_reducible rfl)
                try simp only [Act.put, List.setIfInBounds_toArray, List.set_cons_zero, List.set_cons_succ]
                refine wpAnyH_take (i := 2) (oi := { dst := some 92, op := Go.Op.move (Go.Operand.tmp 11), type := 3, pos := "quotient.go:136", after := #[], guard := none }) (v := ?_) rfl (by kernel_rfl) (by kernel_rfl) (by kernel_rfl) (fun _ _ _ h => h) (Or.inl ⟨by rfl, ?hy⟩) (by assumption) ?_
                case hy => (intro w9 hSw; (try dsimp only at hSw); go_simp; try with_reducible rfl)
                try simp only [Act.put, List.setIfInBounds_toArray, List.set_cons_zero, List.set_cons_succ]
                refine wpAnyH_take (i := 3) (oi := { dst := some 93, op := Go.Op.slice 22 (Go.Operand.tmp 90) none (some (Go.Operand.tmp 91)) (some (Go.Operand.tmp 92)), type := 22, pos := "quotient.go:136", after := #[{ on := 0, ground := Go.Ground.data }, { on := 1, ground := Go.Ground.data }, { on := 2, ground := Go.Ground.data }], guard := none }) (v := ?_) rfl (by kernel_rfl) (by kernel_rfl) (by kernel_rfl) (fun _ _ _ h => h) (Or.inl ⟨by rfl, ?hy⟩) (by assumption) ?_
                case hy => (intro w9 hSw; (try dsimp only at hSw); go_simp; try with_reducible rfl)
                try simp only [Act.put, List.setIfInBounds_toArray, List.set_cons_zero, List.set_cons_succ]
                refine wpAnyH_take (i := 4) (oi := { dst := some 94, op := Go.Op.move (Go.Operand.tmp 4), type := 22, pos := "quotient.go:136", after := #[], guard := none }) (v := ?_) rfl (by kernel_rfl) (by kernel_rfl) (by kernel_rfl) (fun _ _ _ h => h) (Or.inl ⟨by rfl, ?hy⟩) (by assumption) ?_
                case hy => (intro w9 hSw; (try dsimp only at hSw); go_simp; try with_reducible rfl)
                try simp only [Act.put, List.setIfInBounds_toArray, List.set_cons_zero, List.set_cons_succ]
                refine wpAnyH_take (i := 5) (oi := { dst := some 95, op := Go.Op.move (Go.Operand.tmp 10), type := 3, pos := "quotient.go:136", after := #[], guard := none }) (v := ?_) rfl (by kernel_rfl) (by kernel_rfl) (by kernel_rfl) (fun _ _ _ h => h) (Or.inl ⟨by rfl, ?hy⟩) (by assumption) ?_
                case hy => (intro w9 hSw; (try dsimp only at hSw); go_simp; try with_reducible rfl)
                try simp only [Act.put, List.setIfInBounds_toArray, List.set_cons_zero, List.set_cons_succ]
                refine wpAnyH_take (i := 6) (oi := { dst := some 96, op := Go.Op.indexAddr 22 (Go.Operand.tmp 94) (Go.Operand.tmp 95), type := 0, pos := "quotient.go:136", after := #[{ on := 4, ground := Go.Ground.data }, { on := 5, ground := Go.Ground.data }], guard := none }) (v := ?_) rfl (by kernel_rfl) (by kernel_rfl) (by kernel_rfl) (fun _ _ _ h => h) (Or.inl ⟨by rfl, ?hy⟩) (by assumption) ?_
                case hy => (intro w9 hSw; (try dsimp only at hSw); go_simp; try with_reducible rfl)
                try simp only [Act.put, List.setIfInBounds_toArray, List.set_cons_zero, List.set_cons_succ]
                refine wpAnyH_take (i := 7) (oi := { dst := some 97, op := Go.Op.load 25 (Go.Operand.tmp 96), type := 25, pos := "quotient.go:136", after := #[{ on := 6, ground := Go.Ground.data }], guard := none }) (v := ?_) rfl (by kernel_rfl) (by kernel_rfl) (by kernel_rfl) (fun _ _ _ h => h) (Or.inl ⟨by rfl, ?hy⟩) (by assumption) ?_
                case hy => (intro w9 hSw; (try dsimp only at hSw); go_simp; try with_reducible rfl)
                try simp only [Act.put, List.setIfInBounds_toArray, List.set_cons_zero, List.set_cons_succ]
                refine wpAnyH_take (i := 9) (oi := { dst := some 99, op := Go.Op.move (Go.Operand.tmp 9), type := 22, pos := "quotient.go:136", after := #[], guard := none }) (v := ?_) rfl (by kernel_rfl) (by kernel_rfl) (by kernel_rfl) (fun _ _ _ h => h) (Or.inl ⟨by rfl, ?hy⟩) (by assumption) ?_
                case hy => (intro w9 hSw; (try dsimp only at hSw); go_simp; try with_reducible rfl)
                try simp only [Act.put, List.setIfInBounds_toArray, List.set_cons_zero, List.set_cons_succ]
                refine wpAnyH_take (i := 10) (oi := { dst := some 100, op := Go.Op.move (Go.Operand.tmp 11), type := 3, pos := "quotient.go:136", after := #[], guard := none }) (v := ?_) rfl (by kernel_rfl) (by kernel_rfl) (by kernel_rfl) (fun _ _ _ h => h) (Or.inl ⟨by rfl, ?hy⟩) (by assumption) ?_
                case hy => (intro w9 hSw; (try dsimp only at hSw); go_simp; try with_reducible rfl)
                try simp only [Act.put, List.setIfInBounds_toArray, List.set_cons_zero, List.set_cons_succ]
                refine wpAnyH_take (i := 11) (oi := { dst := some 101, op := Go.Op.slice 22 (Go.Operand.tmp 99) (some (Go.Operand.tmp 100)) none none, type := 22, pos := "quotient.go:136", after := #[{ on := 9, ground := Go.Ground.data }, { on := 10, ground := Go.Ground.data }], guard := none }) (v := ?_) rfl (by kernel_rfl) (by kernel_rfl) (by kernel_rfl) (fun _ _ _ h => h) (Or.inl ⟨by rfl, ?hy⟩) (by assumption) ?_
                case hy => (intro w9 hSw; (try dsimp only at hSw); go_simp; try with_reducible rfl)
                try simp only [Act.put, List.setIfInBounds_toArray, List.set_cons_zero, List.set_cons_succ]
                refine wpAnyH_ready (rs := [8]) (by kernel_rfl) (by simp) ?_
                refine AllReadyH.cons (o := { dst := some 98, op := Go.Op.buildSlice 22 1 #[(0, Go.Operand.tmp 97)], type := 22, pos := "quotient.go:136", after := #[{ on := 7, ground := Go.Ground.data }], guard := none }) rfl (fun K hK => ?_) AllReadyH.nil
                go_simp
                skip
                refine hK.out _ _ ?_ (fun hHeld => ?_)
                · exact KK.alloc KK.size _
                clear hK K
                try simp only [Act.put, List.setIfInBounds_toArray, List.set_cons_zero, List.set_cons_succ]
                refine wpAnyH_ready (rs := [12]) (by kernel_rfl) (by simp) ?_
                refine AllReadyH.cons (o := { dst := some 102, op := Go.Op.call { callee := Go.Callee.builtin Go.Builtin.append, args := #[Go.Operand.tmp 98, Go.Operand.tmp 101], argTypes := #[22, 22] }, type := 22, pos := "quotient.go:136", after := #[{ on := 8, ground := Go.Ground.data }, { on := 11, ground := Go.Ground.data }], guard := none }) rfl (fun K hK => ?_) AllReadyH.nil
                rw [if_pos (by rfl)]
                refine wp_apndV _ _ _ rfl wr.heap.size wr.heap.size 1 1 [.slice (some ⟨(RR k).1, 0, none⟩) q (RR k).2] (hvl q RR (L.drop p)) _ rfl (one_ownV wr.drew _) (Nat.le_refl _) (HSR.out _ (KK.alloc KK.size _)) (hvl_one _ _ _) rfl (by rw [hvl_len]; simp [HNL.out] <;> omega) (by simp) ?_
                intro v1 w6 hown1 hg1
                have hB6 : Below wr.heap.size wr w6 := (KK.alloc KK.size _).grown hg1 (by simp) (by intro k hk; injection hk with hk; omega)
                obtain ⟨B1, cap1, rfl, hc1⟩ := formV hown1 (by omega)
                clear hg1
                refine hK.out _ _ ?_ (fun hHeld => ?_)
                · exact hB6
                clear hK K
                try simp only [Act.put, List.setIfInBounds_toArray, List.set_cons_zero, List.set_cons_succ]
                refine wpAnyH_ready (rs := [13]) (by kernel_rfl) (by simp) ?_
                refine AllReadyH.cons (o := { dst := some 103, op := Go.Op.call { callee := Go.Callee.builtin Go.Builtin.append, args := #[Go.Operand.tmp 93, Go.Operand.tmp 102], argTypes := #[22, 22] }, type := 22, pos := "quotient.go:136", after := #[{ on := 3, ground := Go.Ground.data }, { on := 12, ground := Go.Ground.data }, { on := 12, ground := Go.Ground.chain }], guard := none }) rfl (fun K hK => ?_) AllReadyH.nil
                rw [if_pos (by rfl)]
                refine wp_cutV _ _ _ rfl ad p (hvl q RR (L.take p)) rfl (by rw [hvl_len]; simp [HNL.out] <;> omega) (HSL.out _ hB6) ⟨B1, 0, none⟩ (1 + (hvl q RR (L.drop p)).length) cap1 (hvl q RR (k :: L.drop p)) rfl (by simp [hvl] <;> omega) hc1 (by omega) (by rw [hvl_len]; simp [HNL.out] <;> omega) ?_
                intro v3 w9 hown3 hg3
                have hB9 : Below wr.heap.size wr w9 := hB6.grown hg3 hB6.size (by intro k hk; cases hk)
                clear hg3
                refine hK.out _ _ ?_ (fun hHeld => ?_)
                · exact hB9
                clear hK K
                try simp only [Act.put, List.setIfInBounds_toArray, List.set_cons_zero, List.set_cons_succ]
                refine wpAnyH_take (i := 14) (oi := { dst := some 9, op := Go.Op.assign (Go.Operand.tmp 103), type := 22, pos := "quotient.go:136", after := #[{ on := 13, ground := Go.Ground.data }, { on := 13, ground := Go.Ground.chain }, { on := 0, ground := Go.Ground.phase }, { on := 1, ground := Go.Ground.phase }, { on := 2, ground := Go.Ground.phase }, { on := 3, ground := Go.Ground.phase }, { on := 4, ground := Go.Ground.phase }, { on := 5, ground := Go.Ground.phase }, { on := 6, ground := Go.Ground.phase }, { on := 7, ground := Go.Ground.phase }, { on := 8, ground := Go.Ground.phase }, { on := 9, ground := Go.Ground.phase }, { on := 10, ground := Go.Ground.phase }, { on := 11, ground := Go.Ground.phase }, { on := 12, ground := Go.Ground.phase }, { on := 13, ground := Go.Ground.phase }], guard := none }) (v := ?_) rfl (by kernel_rfl) (by kernel_rfl) (by kernel_rfl) (fun _ _ _ h => h) (Or.inl ⟨by rfl, ?hy⟩) (by assumption) ?_
                case hy => (intro w9 hSw; (try dsimp only at hSw); go_simp; try with_reducible rfl)
                try simp only [Act.put, List.setIfInBounds_toArray, List.set_cons_zero, List.set_cons_succ]
                refine wpAnyH_done (by kernel_rfl) ?_ _
                try simp only [Act.put, List.setIfInBounds_toArray, List.set_cons_zero, List.set_cons_succ]
                have HB9 : Hid (Below W2.heap.size W2 w9) := Below.then HBW.out hB9
                have HO9 : Hid (w9.ownsRow W2.heap.size 25 1 v3 (L.take p ++ k :: L.drop p).length (hvl q RR (L.take p ++ k :: L.drop p))) := by
                  have h := owns_base hown3 (Nat.le_trans HBW.out.size hB6.size)
                  have e1 : hvl q RR (L.take p ++ k :: L.drop p) = hvl q RR (L.take p) ++ hvl q RR (k :: L.drop p) := hvl_append _ _ _ _
                  have e2 : (L.take p ++ k :: L.drop p).length = p + (1 + (hvl q RR (L.drop p)).length) := by rw [hvl_len]; simp [HNL.out] <;> omega
                  rw [e1, e2]
                  exact h
                clear hown3 hB9 hB6 HSR HSL l0 KK
                go_wp2_with fail
                go_roundw
                case rel => exact ⟨k + 1, _, by omega, by go_num, HO9.out, HINS.out, HB9.out⟩
                case measure => simp [intOf]; omega
        · obtain rfl : k = i := by omega
          have hlen := HINSK.out.len
          obtain ⟨B, cap, rfl⟩ := owns_form HO.out (by omega)
          have HF : Hid (CgsIs q m j wr (.slice (some ⟨B, 0, none⟩) L.length cap) true) := by
            refine .inr ⟨rfl, L.length, B, cap, fun a => RR (nth L a), fun a => G (nth L a), rfl, by omega, by omega, fun a ha => ⟨?_, fun t ht => ?_⟩, fun a ha => ?_, fun a b hab hb => ?_, fun d hd => ?_⟩
            · rw [HO.out.cellAt a (by omega)]; exact hvl_at ha
            · exact (HG.out.step HBW.out).rows _ (HINSK.out.lt _ (nth_mem2 ha)) t ht
            · exact HCG.out _ (HINSK.out.lt _ (nth_mem2 ha))
            · exact HINSK.out.srt a b hab (by omega)
            · obtain ⟨a, ha, e⟩ := HALL.out d hd
              obtain ⟨c, hc, e2⟩ := mem_nth (HINSK.out.mem a ha)
              exact ⟨c, hc, fun t ht => by show G (nth L c) t = _; rw [e2]; exact e t ht⟩
          have HBF : Hid (Below w.heap.size w wr) := Below.then HB0.out (Below.then HB.out HBW.out)
          clear HO HINSK HBW
          go_wp2_with fail
          go_ret2
          exact ⟨⟨_, _, rfl, HF.out⟩, HBF.out⟩
end Go.Proofs.Ytappekjkcgmheaa
