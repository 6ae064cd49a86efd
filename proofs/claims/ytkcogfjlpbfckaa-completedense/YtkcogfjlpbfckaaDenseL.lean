/-
  hasselaw.CompleteDense returns true for every order. No condition but that a slice reads as a slice of numbers.
-/
import Derived.Deep.RegionHeld3
import Derived.Test.YtkcogfjlpbfckaaFilledP
import Derived.Test.YtkcogfjlpbfckaaCBegun
namespace Go.Proofs.Ytkcogfjlpbfckaa
open Go.RowKit

theorem cut_full (g : Nat → Nat) (n : Nat) : cutW g n (pw n - 1) = pw n - 1 := by
  have hp := pw_pos n
  refine Sub.eq (fun i hi => ?_) (cut_ext (by omega))
  have : (pw n - 1).testBit i = decide (i < n) := Nat.testBit_two_pow_sub_one n i
  rw [this]
  simpa using bit_of_lt (cutW_lt g n _) hi
theorem cuts_bot (g : Nat → Nat) (n : Nat) : lea (ctm g n) (cuts g n).length < (cuts g n).length ∧ ∀ x, x < (cuts g n).length → ctm g n (lea (ctm g n) (cuts g n).length) x = lea (ctm g n) (cuts g n).length := by
  have hm : cutW g n 0 ∈ cuts g n := cuts_mem.2 ⟨cutW_lt _ _ _, cut_idem⟩
  obtain ⟨h1, h2⟩ := plc_is hm
  have hl : ∀ x, x < (cuts g n).length → ctm g n (plc (cuts g n) (cutW g n 0)) x = plc (cuts g n) (cutW g n 0) := fun x hx => by
    rw [ct_le h1 hx, h2]
    have := cut_mono (g := g) (n := n) (s := 0) (t := nth (cuts g n) x) (fun i hi => by simp at hi)
    rw [(cuts_at hx).2] at this; exact this
  have e := lea_is (cuts_pos g n) h1 (fun x y hx hy => ((cuts_lat (g := g) (n := n)).lm.at hx hy hx).2.1) hl (cuts g n).length (Nat.le_refl _) h1
  rw [e]; exact ⟨h1, hl⟩
theorem cuts_top (g : Nat → Nat) (n : Nat) : gre (ctm g n) (cuts g n).length < (cuts g n).length ∧ ∀ x, x < (cuts g n).length → ctm g n x (gre (ctm g n) (cuts g n).length) = x := by
  have hp := pw_pos n
  have hm : pw n - 1 ∈ cuts g n := cuts_mem.2 ⟨by omega, cut_full g n⟩
  obtain ⟨h1, h2⟩ := plc_is hm
  have hl : ∀ x, x < (cuts g n).length → ctm g n x (plc (cuts g n) (pw n - 1)) = x := fun x hx => by
    rw [ct_le hx h1, h2]
    intro i hi
    have : (pw n - 1).testBit i = decide (i < n) := Nat.testBit_two_pow_sub_one n i
    rw [this]
    simpa using bit_of_lt (cuts_at hx).1 hi
  have e := gre_is (cuts_pos g n) h1 (fun x y hx hy => ((cuts_lat (g := g) (n := n)).lm.at hx hy hx).2.1) hl (cuts g n).length (Nat.le_refl _) h1
  rw [e]; exact ⟨h1, hl⟩

set_option maxHeartbeats 8000000 in
theorem completeDense_any (n : Int) (a : Option Addr) (len cap : Nat) (f : Nat → Int) (w : World) (hl : len ≤ maxLen) (hr : Row w a len f) :
    Calls Try.prog 7 #[.agg #[.int .i64 n, .slice a len cap]] w fun e w' => e = .returned (.bool true) ∧ Below w.heap.size w w' := by
  have K0 : Held (w.alloc (.cells #[.int .i64 n, .slice a len cap] 24)) w.heap.size n a len cap f := Held.box hr
  have HB0 : Hid (Below w.heap.size w (w.alloc (.cells #[.int .i64 n, .slice a len cap] 24))) := (Below.refl _ _).alloc (Nat.le_refl _) _
  clear hr
  go_enter Try.func7, Try.ntmps7
  go_wp2_with fail
  refine (completeBegun_any _).mono ?_
  rintro e w0 ⟨rfl, hb0⟩
  have K1 := K0.step hb0
  have HB1 : Hid (Below w.heap.size w w0) := Below.then HB0.out hb0
  have k0 := K1.c0
  have k1 := K1.c1
  clear hb0 K0 HB0
  go_wp2_with fail
  refine (fill_any n a len cap f _ hl K1.row).mono ?_
  rintro e w1 ⟨hI, hb1⟩
  have K2 := K1.step hb1
  have HB2 : Hid (Below w.heap.size w w1) := Below.then HB1.out hb1
  clear hb1 K1 HB1 k0 k1
  rcases hI with ⟨c, hbad, rfl⟩ | ⟨⟨hc, hq⟩, T1, T2, R1, R2, pb, rfl, _⟩
  · have h0 : c ≠ 0 := by
      rcases hbad with ⟨h0, _⟩ | ⟨rfl, _⟩
      · exact h0
      · decide
    have hne : (c != 0) = true := by simpa using h0
    have HBA : Hid (Below w.heap.size w (w1.alloc (.cells #[.int .i64 0, .slice none 0 0, .slice none 0 0] 41))) := HB2.out.alloc HB2.out.size _
    clear hbad
    unfold noLat
    go_wp2_with fail
    go_ret
    exact ⟨rfl, HBA.out⟩
  · obtain ⟨rfl, h10, hrng, ho⟩ := hc.good
    have HC : Hid (Chk len len f 0) := hc
    have HQL : Hid ((cuts (nat f) len).length ≤ 40) := hq
    have HGP : Hid (∀ k, k < len → nat f k < pw len) := hrng.small
    have HO : Hid (Ord len (nat f)) := ho
    obtain ⟨q, HQ⟩ : ∃ q, Hid (q = (cuts (nat f) len).length) := ⟨_, rfl⟩
    rw [← HQ.out] at hq ⊢
    obtain ⟨w2, HW2⟩ : ∃ w2, Hid (w2 = w1.alloc (.cells #[.int .i64 (q : Int), .slice (some ⟨T1, 0, none⟩) q q, .slice (some ⟨T2, 0, none⟩) q q] 41)) := ⟨_, rfl⟩
    have hb2 : Below w1.heap.size w1 w2 := by rw [HW2.out]; exact (Below.refl _ _).alloc (Nat.le_refl _) _
    have K3 := K2.step hb2
    have HB3 : Hid (Below w.heap.size w w2) := Below.then HB2.out hb2
    have K3e := K3
    rw [HW2.out] at K3e
    have k0 := K3e.c0
    have k1 := K3e.c1
    clear hc hrng ho hb2 K2 HB2
    go_wp2_with fail
    rw [← HW2.out]
    clear HW2 K3e k0 k1
    refine (filled_any a len cap f _ hl K3.row HC.out HQL.out).mono ?_
    rintro e w3 ⟨⟨T1, T2, R1, R2, pb, rfl, ht1, ht2, hrow⟩, hb3⟩
    rw [← HQ.out] at ht1 ht2 ⊢
    obtain ⟨w4, HW4⟩ : ∃ w4, Hid (w4 = w3.alloc (.cells #[.int .i64 (q : Int), .slice (some ⟨T1, 0, none⟩) q q, .slice (some ⟨T2, 0, none⟩) q q] 41)) := ⟨_, rfl⟩
    have hb4 : Below w3.heap.size w3 w4 := by rw [HW4.out]; exact (Below.refl _ _).alloc (Nat.le_refl _) _
    have X4 : LB w4 w3.heap.size (q : Int) (some ⟨T1, 0, none⟩) q q (some ⟨T2, 0, none⟩) q q := by rw [HW4.out]; exact LB.new _ _ _ _ _ _ _ _
    have HX4 : Hid (LB w4 w3.heap.size (q : Int) (some ⟨T1, 0, none⟩) q q (some ⟨T2, 0, none⟩) q q) := X4
    have HK4 : Hid (Held w4 w.heap.size len a len cap f) := (K3.step hb3).step hb4
    have HB4 : Hid (Below w.heap.size w w4) := Below.then (Below.then HB3.out hb3) hb4
    have HT1 : Hid (Tb w4 T1 0 q R1 (ctm (nat f) len)) := ht1.step hb4
    have HT2 : Hid (Tb w4 T2 0 q R2 (ctj (nat f) len)) := ht2.step hb4
    have HR4 : Hid (Row w4 (some ⟨pb, 0, none⟩) len (fun k => ((ctp (nat f) len k : Nat) : Int))) := hrow.below hb4
    have HPOS : Hid (1 ≤ q) := by rw [HQ.out]; exact cuts_pos _ _
    have X4e := X4
    rw [HW4.out] at X4e
    have x0 := X4e.1
    have x1 := X4e.2.1
    have x2 := X4e.2.2
    clear hb3 hb4 ht1 ht2 hrow K3 HB3 X4
    go_wp2_with fail
    rw [← HW4.out]
    clear HW4 X4e x0 x1 x2
    refine (leastOf_any q T1 0 q (some ⟨T2, 0, none⟩) q q R1 (ctm (nat f) len) _ HPOS.out hq HT1.out).mono ?_
    rintro e W ⟨rfl, hbW⟩
    obtain ⟨bot, HBOT⟩ : ∃ bot, Hid (bot = lea (ctm (nat f) len) q) := ⟨_, rfl⟩
    obtain ⟨top, HTOP⟩ : ∃ top, Hid (top = gre (ctm (nat f) len) q) := ⟨_, rfl⟩
    have HBP : Hid (bot < q ∧ ∀ x, x < q → ctm (nat f) len bot x = bot) := by rw [Hid, HBOT.out, HQ.out]; exact cuts_bot _ _
    have HTP : Hid (top < q ∧ ∀ x, x < q → ctm (nat f) len x top = x) := by rw [Hid, HTOP.out, HQ.out]; exact cuts_top _ _
    rw [← HBOT.out, ← HTOP.out]
    have HJL : Hid (∀ x k, jnK (nat f) len bot x k < q) := fun x k => by have := HBP.out.1; rw [HQ.out] at this ⊢; exact jnK_lt this k
    have HML : Hid (∀ x k, k ≤ len → mtK (nat f) len top x k < q) := fun x k hk => by have := HTP.out.1; rw [HQ.out] at this ⊢; exact mtK_lt HGP.out this k hk
    have HJX : Hid (∀ x, x < q → jnK (nat f) len bot x len = x) := fun x hx => by
      have h1 := HBP.out.1
      have h2 := HBP.out.2 x hx
      rw [HQ.out] at hx h1
      exact jnK_is h10 HGP.out HO.out hx h1 h2
    have HMX : Hid (∀ x, x < q → mtK (nat f) len top x len = x) := fun x hx => by
      have h1 := HTP.out.1
      have h2 := HTP.out.2 x hx
      rw [HQ.out] at hx h1
      exact mtK_is HGP.out hx h1 h2
    have HPT : Hid (∀ k, k < len → ctp (nat f) len k < q) := fun k hk => by rw [HQ.out]; exact (ctp_is HGP.out hk).1
    have HXW : Hid (∀ w', Below W.heap.size W w' → LB w' w3.heap.size (q : Int) (some ⟨T1, 0, none⟩) q q (some ⟨T2, 0, none⟩) q q) := fun w' h => (HX4.out.step hbW).step h
    have HKW : Hid (∀ w', Below W.heap.size W w' → Held w' w.heap.size len a len cap f) := fun w' h => (HK4.out.step hbW).step h
    have LT : Hid (∀ w', Below W.heap.size W w' → Tb w' T1 0 q R1 (ctm (nat f) len)) := fun w' h => (HT1.out.step hbW).step h
    have LJ : Hid (∀ w', Below W.heap.size W w' → Tb w' T2 0 q R2 (ctj (nat f) len)) := fun w' h => (HT2.out.step hbW).step h
    have LR : Hid (∀ w', Below W.heap.size W w' → Row w' (some ⟨pb, 0, none⟩) len (fun k => ((ctp (nat f) len k : Nat) : Int))) := fun w' h => (HR4.out.below hbW).below h
    have HBW : Hid (Below w.heap.size w W) := Below.then HB4.out hbW
    clear hbW HX4 HK4 HT1 HT2 HR4 HB4 HBOT HTOP
    go_wp2_with fail
    go_loopw [11] (fun i wx => ∃ x : Nat, x ≤ q ∧ i = .int .i64 x ∧ Hid (Below W.heap.size W wx)) (fun i _ => q - (intOf i).toNat)
    case atStart => exact ⟨0, Nat.zero_le _, rfl, Below.refl _ _⟩
    case round =>
      obtain ⟨x, hx, rfl, HW0⟩ := hrel
      have X0 := HXW.out _ HW0.out
      have x0 := X0.1
      by_cases hxq : x < q
      · go_wp2_with fail
        clear x0 X0
        go_loopw [12, 13, 14] (fun u v i wx => ∃ k : Nat, k ≤ len ∧ i = .int .i64 k ∧ u = .int .i64 (jnK (nat f) len bot x k : Nat) ∧ v = .int .i64 (mtK (nat f) len top x k : Nat) ∧ Hid (Below W.heap.size W wx)) (fun _ _ i _ => len - (intOf i).toNat)
        case atStart => exact ⟨0, Nat.zero_le _, rfl, rfl, rfl, HW0⟩
        case round =>
          clear HW0
          obtain ⟨k, hk, rfl, rfl, rfl, HWX⟩ := hrel
          have k0 := (HKW.out _ HWX.out).c0
          by_cases hlt : k < len
          · have hpt := HPT.out k hlt
            have hjl := HJL.out x k
            have hml := HML.out x k hk
            have i1 : (k : Int) < (len : Int) := by omega
            have i2 : ((ctp (nat f) len k : Nat) : Int) < (q : Int) := by omega
            have i3 : ((jnK (nat f) len bot x k : Nat) : Int) < (q : Int) := by omega
            have i4 : ((mtK (nat f) len top x k : Nat) : Int) < (q : Int) := by omega
            have l0 : ∀ w', Below W.heap.size W w' → w'.cell? ⟨w3.heap.size, 0, none⟩ = some (.int .i64 (q : Int)) := fun w' h => (HXW.out w' h).1
            have l1 : ∀ w', Below W.heap.size W w' → w'.cell? ⟨w3.heap.size, 1, none⟩ = some (.slice (some ⟨T1, 0, none⟩) q q) := fun w' h => (HXW.out w' h).2.1
            have l2 : ∀ w', Below W.heap.size W w' → w'.cell? ⟨w3.heap.size, 2, none⟩ = some (.slice (some ⟨T2, 0, none⟩) q q) := fun w' h => (HXW.out w' h).2.2
            have l5 : ∀ w', Below W.heap.size W w' → w'.cell? ⟨pb, k, none⟩ = some (.int .i64 (ctp (nat f) len k : Nat)) := fun w' h => by
              obtain ⟨rb, ro, e, hck⟩ := LR.out w' h k hlt
              have e1 : rb = pb := by injection e with e; injection e with e1 _; exact e1.symm
              have e2 : ro = 0 := by injection e with e; injection e with _ e2; exact e2.symm
              subst e1
              subst e2
              rw [Nat.zero_add] at hck; exact hck
            rcases hb1 : (ctm (nat f) len (ctp (nat f) len k) x == ctp (nat f) len k) with _ | _
            · rcases hb2 : (ctm (nat f) len x (ctp (nat f) len k) == x) with _ | _
              · have HE1 : Hid (jnK (nat f) len bot x (k + 1) = jnK (nat f) len bot x k) := jnK_no hb1
                have HE2 : Hid (mtK (nat f) len top x (k + 1) = mtK (nat f) len top x k) := mtK_no hb2
                go_wp2_with fail
                refine wp_region_held_drew (S := (fun w' => Below W.heap.size W w')) (by kernel_rfl) (HWX.out.drew) (fun hHeld => ?_)
                refine wpAnyH_take (i := 0) (oi := { dst := some 52, op := Go.Op.load 41 (Go.Operand.tmp 6), type := 41, pos := "lattice.go:752", after := #[], guard := none }) (v := ?_) rfl (by kernel_rfl) (by kernel_rfl) (by kernel_rfl) (fun _ _ _ h => h) (Or.inl ⟨by rfl, ?hy⟩) (by assumption) ?_
                case hy => (intro w9 hSw; (try dsimp only at hSw); go_simp; try with_reducible rfl)
                try simp only [Act.put, List.setIfInBounds_toArray, List.set_cons_zero, List.set_cons_succ]
                refine wpAnyH_take (i := 1) (oi := { dst := some 53, op := Go.Op.move (Go.Operand.tmp 7), type := 22, pos := "lattice.go:752", after := #[], guard := none }) (v := ?_) rfl (by kernel_rfl) (by kernel_rfl) (by kernel_rfl) (fun _ _ _ h => h) (Or.inl ⟨by rfl, ?hy⟩) (by assumption) ?_
                case hy => (intro w9 hSw; (try dsimp only at hSw); go_simp; try with_reducible rfl)
                try simp only [Act.put, List.setIfInBounds_toArray, List.set_cons_zero, List.set_cons_succ]
                refine wpAnyH_take (i := 2) (oi := { dst := some 54, op := Go.Op.move (Go.Operand.tmp 14), type := 3, pos := "lattice.go:752", after := #[], guard := none }) (v := ?_) rfl (by kernel_rfl) (by kernel_rfl) (by kernel_rfl) (fun _ _ _ h => h) (Or.inl ⟨by rfl, ?hy⟩) (by assumption) ?_
                case hy => (intro w9 hSw; (try dsimp only at hSw); go_simp; try with_reducible rfl)
                try simp only [Act.put, List.setIfInBounds_toArray, List.set_cons_zero, List.set_cons_succ]
                refine wpAnyH_take (i := 3) (oi := { dst := some 55, op := Go.Op.indexAddr 22 (Go.Operand.tmp 53) (Go.Operand.tmp 54), type := 0, pos := "lattice.go:752", after := #[{ on := 1, ground := Go.Ground.data }, { on := 2, ground := Go.Ground.data }], guard := none }) (v := ?_) rfl (by kernel_rfl) (by kernel_rfl) (by kernel_rfl) (fun _ _ _ h => h) (Or.inl ⟨by rfl, ?hy⟩) (by assumption) ?_
                case hy => (intro w9 hSw; (try dsimp only at hSw); go_simp; try with_reducible rfl)
                try simp only [Act.put, List.setIfInBounds_toArray, List.set_cons_zero, List.set_cons_succ]
                refine wpAnyH_take (i := 4) (oi := { dst := some 56, op := Go.Op.load 3 (Go.Operand.tmp 55), type := 3, pos := "lattice.go:752", after := #[{ on := 3, ground := Go.Ground.data }], guard := none }) (v := ?_) rfl (by kernel_rfl) (by kernel_rfl) (by kernel_rfl) (fun _ _ _ h => h) (Or.inl ⟨by rfl, ?hy⟩) (by assumption) ?_
                case hy => (intro w9 hSw; (try dsimp only at hSw); go_simp; try with_reducible rfl)
                try simp only [Act.put, List.setIfInBounds_toArray, List.set_cons_zero, List.set_cons_succ]
                refine wpAnyH_take (i := 5) (oi := { dst := some 57, op := Go.Op.move (Go.Operand.tmp 11), type := 3, pos := "lattice.go:752", after := #[], guard := none }) (v := ?_) rfl (by kernel_rfl) (by kernel_rfl) (by kernel_rfl) (fun _ _ _ h => h) (Or.inl ⟨by rfl, ?hy⟩) (by assumption) ?_
                case hy => (intro w9 hSw; (try dsimp only at hSw); go_simp; try with_reducible rfl)
                try simp only [Act.put, List.setIfInBounds_toArray, List.set_cons_zero, List.set_cons_succ]
                refine wpAnyH_ready (rs := [6]) (by kernel_rfl) (by simp) ?_
                refine AllReadyH.cons (o := { dst := some 58, op := Go.Op.call { callee := Go.Callee.value (Go.Operand.func 24), args := #[Go.Operand.tmp 52, Go.Operand.tmp 56, Go.Operand.tmp 57], argTypes := #[41, 3, 3] }, type := 4, pos := "lattice.go:752", after := #[{ on := 0, ground := Go.Ground.data }, { on := 4, ground := Go.Ground.data }, { on := 5, ground := Go.Ground.data }], guard := none }) rfl (fun K hK => ?_) AllReadyH.nil
                go_simp
                refine (under_any q T1 0 q (some ⟨T2, 0, none⟩) q q R1 (ctm (nat f) len) (ctp (nat f) len k) x _ false hb1 (LT.out _ (by assumption)) hpt hxq).mono ?_
                rintro e w2 ⟨rfl, hbb2⟩
                refine hK.out _ _ ?_ (fun hHeld => ?_)
                · first | assumption | exact Below.then (by assumption) (by assumption)
                clear hK K
                try simp only [Act.put, List.setIfInBounds_toArray, List.set_cons_zero, List.set_cons_succ]
                refine wpAnyH_done (by kernel_rfl) ?_ _
                try simp only [Act.put, List.setIfInBounds_toArray, List.set_cons_zero, List.set_cons_succ]
                have hb8 : Below W.heap.size W w2 := by first | assumption | exact hHeld
                have HW2 : Hid (Below W.heap.size W w2) := hb8
                clear hb8 hHeld
                go_wp2_with fail
                refine wp_region_held_drew (S := (fun w' => Below W.heap.size W w')) (by kernel_rfl) (by first | exact HW2.out.drew | exact (below_drewN HW2.out _).drew) (fun hHeld => ?_)
                refine wpAnyH_take (i := 0) (oi := { dst := some 70, op := Go.Op.load 41 (Go.Operand.tmp 6), type := 41, pos := "lattice.go:755", after := #[], guard := none }) (v := ?_) rfl (by kernel_rfl) (by kernel_rfl) (by kernel_rfl) (fun _ _ _ h => h) (Or.inl ⟨by rfl, ?hy⟩) (by assumption) ?_
                case hy => (intro w9 hSw; (try dsimp only at hSw); go_simp; try with_reducible rfl)
                try simp only [Act.put, List.setIfInBounds_toArray, List.set_cons_zero, List.set_cons_succ]
                refine wpAnyH_take (i := 1) (oi := { dst := some 71, op := Go.Op.move (Go.Operand.tmp 11), type := 3, pos := "lattice.go:755", after := #[], guard := none }) (v := ?_) rfl (by kernel_rfl) (by kernel_rfl) (by kernel_rfl) (fun _ _ _ h => h) (Or.inl ⟨by rfl, ?hy⟩) (by assumption) ?_
                case hy => (intro w9 hSw; (try dsimp only at hSw); go_simp; try with_reducible rfl)
                try simp only [Act.put, List.setIfInBounds_toArray, List.set_cons_zero, List.set_cons_succ]
                refine wpAnyH_take (i := 2) (oi := { dst := some 72, op := Go.Op.move (Go.Operand.tmp 7), type := 22, pos := "lattice.go:755", after := #[], guard := none }) (v := ?_) rfl (by kernel_rfl) (by kernel_rfl) (by kernel_rfl) (fun _ _ _ h => h) (Or.inl ⟨by rfl, ?hy⟩) (by assumption) ?_
                case hy => (intro w9 hSw; (try dsimp only at hSw); go_simp; try with_reducible rfl)
                try simp only [Act.put, List.setIfInBounds_toArray, List.set_cons_zero, List.set_cons_succ]
                refine wpAnyH_take (i := 3) (oi := { dst := some 73, op := Go.Op.move (Go.Operand.tmp 14), type := 3, pos := "lattice.go:755", after := #[], guard := none }) (v := ?_) rfl (by kernel_rfl) (by kernel_rfl) (by kernel_rfl) (fun _ _ _ h => h) (Or.inl ⟨by rfl, ?hy⟩) (by assumption) ?_
                case hy => (intro w9 hSw; (try dsimp only at hSw); go_simp; try with_reducible rfl)
                try simp only [Act.put, List.setIfInBounds_toArray, List.set_cons_zero, List.set_cons_succ]
                refine wpAnyH_take (i := 4) (oi := { dst := some 74, op := Go.Op.indexAddr 22 (Go.Operand.tmp 72) (Go.Operand.tmp 73), type := 0, pos := "lattice.go:755", after := #[{ on := 2, ground := Go.Ground.data }, { on := 3, ground := Go.Ground.data }], guard := none }) (v := ?_) rfl (by kernel_rfl) (by kernel_rfl) (by kernel_rfl) (fun _ _ _ h => h) (Or.inl ⟨by rfl, ?hy⟩) (by assumption) ?_
                case hy => (intro w9 hSw; (try dsimp only at hSw); go_simp; try with_reducible rfl)
                try simp only [Act.put, List.setIfInBounds_toArray, List.set_cons_zero, List.set_cons_succ]
                refine wpAnyH_take (i := 5) (oi := { dst := some 75, op := Go.Op.load 3 (Go.Operand.tmp 74), type := 3, pos := "lattice.go:755", after := #[{ on := 4, ground := Go.Ground.data }], guard := none }) (v := ?_) rfl (by kernel_rfl) (by kernel_rfl) (by kernel_rfl) (fun _ _ _ h => h) (Or.inl ⟨by rfl, ?hy⟩) (by assumption) ?_
                case hy => (intro w9 hSw; (try dsimp only at hSw); go_simp; try with_reducible rfl)
                try simp only [Act.put, List.setIfInBounds_toArray, List.set_cons_zero, List.set_cons_succ]
                refine wpAnyH_ready (rs := [6]) (by kernel_rfl) (by simp) ?_
                refine AllReadyH.cons (o := { dst := some 76, op := Go.Op.call { callee := Go.Callee.value (Go.Operand.func 24), args := #[Go.Operand.tmp 70, Go.Operand.tmp 71, Go.Operand.tmp 75], argTypes := #[41, 3, 3] }, type := 4, pos := "lattice.go:755", after := #[{ on := 0, ground := Go.Ground.data }, { on := 1, ground := Go.Ground.data }, { on := 5, ground := Go.Ground.data }], guard := none }) rfl (fun K hK => ?_) AllReadyH.nil
                go_simp
                refine (under_any q T1 0 q (some ⟨T2, 0, none⟩) q q R1 (ctm (nat f) len) x (ctp (nat f) len k) _ false hb2 (LT.out _ (by assumption)) hxq hpt).mono ?_
                rintro e w3 ⟨rfl, hbb3⟩
                refine hK.out _ _ ?_ (fun hHeld => ?_)
                · first | assumption | exact Below.then (by assumption) (by assumption)
                clear hK K
                try simp only [Act.put, List.setIfInBounds_toArray, List.set_cons_zero, List.set_cons_succ]
                refine wpAnyH_done (by kernel_rfl) ?_ _
                try simp only [Act.put, List.setIfInBounds_toArray, List.set_cons_zero, List.set_cons_succ]
                have hb9 : Below W.heap.size W w3 := by first | assumption | exact hHeld
                have HW3 : Hid (Below W.heap.size W w3) := hb9
                clear hb9 hHeld
                go_wp2_with fail
                go_roundw
                case rel => exact ⟨k + 1, by omega, by go_num, by rw [HE1.out], by rw [HE2.out], HW3.out⟩
                case measure => simp [intOf]; omega
              · have HE1 : Hid (jnK (nat f) len bot x (k + 1) = jnK (nat f) len bot x k) := jnK_no hb1
                have HE2 : Hid (mtK (nat f) len top x (k + 1) = ctm (nat f) len (mtK (nat f) len top x k) (ctp (nat f) len k)) := mtK_yes hb2
                go_wp2_with fail
                refine wp_region_held_drew (S := (fun w' => Below W.heap.size W w')) (by kernel_rfl) (HWX.out.drew) (fun hHeld => ?_)
                refine wpAnyH_take (i := 0) (oi := { dst := some 52, op := Go.Op.load 41 (Go.Operand.tmp 6), type := 41, pos := "lattice.go:752", after := #[], guard := none }) (v := ?_) rfl (by kernel_rfl) (by kernel_rfl) (by kernel_rfl) (fun _ _ _ h => h) (Or.inl ⟨by rfl, ?hy⟩) (by assumption) ?_
                case hy => (intro w9 hSw; (try dsimp only at hSw); go_simp; try with_reducible rfl)
                try simp only [Act.put, List.setIfInBounds_toArray, List.set_cons_zero, List.set_cons_succ]
                refine wpAnyH_take (i := 1) (oi := { dst := some 53, op := Go.Op.move (Go.Operand.tmp 7), type := 22, pos := "lattice.go:752", after := #[], guard := none }) (v := ?_) rfl (by kernel_rfl) (by kernel_rfl) (by kernel_rfl) (fun _ _ _ h => h) (Or.inl ⟨by rfl, ?hy⟩) (by assumption) ?_
                case hy => (intro w9 hSw; (try dsimp only at hSw); go_simp; try with_reducible rfl)
                try simp only [Act.put, List.setIfInBounds_toArray, List.set_cons_zero, List.set_cons_succ]
                refine wpAnyH_take (i := 2) (oi := { dst := some 54, op := Go.Op.move (Go.Operand.tmp 14), type := 3, pos := "lattice.go:752", after := #[], guard := none }) (v := ?_) rfl (by kernel_rfl) (by kernel_rfl) (by kernel_rfl) (fun _ _ _ h => h) (Or.inl ⟨by rfl, ?hy⟩) (by assumption) ?_
                case hy => (intro w9 hSw; (try dsimp only at hSw); go_simp; try with_reducible rfl)
                try simp only [Act.put, List.setIfInBounds_toArray, List.set_cons_zero, List.set_cons_succ]
                refine wpAnyH_take (i := 3) (oi := { dst := some 55, op := Go.Op.indexAddr 22 (Go.Operand.tmp 53) (Go.Operand.tmp 54), type := 0, pos := "lattice.go:752", after := #[{ on := 1, ground := Go.Ground.data }, { on := 2, ground := Go.Ground.data }], guard := none }) (v := ?_) rfl (by kernel_rfl) (by kernel_rfl) (by kernel_rfl) (fun _ _ _ h => h) (Or.inl ⟨by rfl, ?hy⟩) (by assumption) ?_
                case hy => (intro w9 hSw; (try dsimp only at hSw); go_simp; try with_reducible rfl)
                try simp only [Act.put, List.setIfInBounds_toArray, List.set_cons_zero, List.set_cons_succ]
                refine wpAnyH_take (i := 4) (oi := { dst := some 56, op := Go.Op.load 3 (Go.Operand.tmp 55), type := 3, pos := "lattice.go:752", after := #[{ on := 3, ground := Go.Ground.data }], guard := none }) (v := ?_) rfl (by kernel_rfl) (by kernel_rfl) (by kernel_rfl) (fun _ _ _ h => h) (Or.inl ⟨by rfl, ?hy⟩) (by assumption) ?_
                case hy => (intro w9 hSw; (try dsimp only at hSw); go_simp; try with_reducible rfl)
                try simp only [Act.put, List.setIfInBounds_toArray, List.set_cons_zero, List.set_cons_succ]
                refine wpAnyH_take (i := 5) (oi := { dst := some 57, op := Go.Op.move (Go.Operand.tmp 11), type := 3, pos := "lattice.go:752", after := #[], guard := none }) (v := ?_) rfl (by kernel_rfl) (by kernel_rfl) (by kernel_rfl) (fun _ _ _ h => h) (Or.inl ⟨by rfl, ?hy⟩) (by assumption) ?_
                case hy => (intro w9 hSw; (try dsimp only at hSw); go_simp; try with_reducible rfl)
                try simp only [Act.put, List.setIfInBounds_toArray, List.set_cons_zero, List.set_cons_succ]
                refine wpAnyH_ready (rs := [6]) (by kernel_rfl) (by simp) ?_
                refine AllReadyH.cons (o := { dst := some 58, op := Go.Op.call { callee := Go.Callee.value (Go.Operand.func 24), args := #[Go.Operand.tmp 52, Go.Operand.tmp 56, Go.Operand.tmp 57], argTypes := #[41, 3, 3] }, type := 4, pos := "lattice.go:752", after := #[{ on := 0, ground := Go.Ground.data }, { on := 4, ground := Go.Ground.data }, { on := 5, ground := Go.Ground.data }], guard := none }) rfl (fun K hK => ?_) AllReadyH.nil
                go_simp
                refine (under_any q T1 0 q (some ⟨T2, 0, none⟩) q q R1 (ctm (nat f) len) (ctp (nat f) len k) x _ false hb1 (LT.out _ (by assumption)) hpt hxq).mono ?_
                rintro e w2 ⟨rfl, hbb2⟩
                refine hK.out _ _ ?_ (fun hHeld => ?_)
                · first | assumption | exact Below.then (by assumption) (by assumption)
                clear hK K
                try simp only [Act.put, List.setIfInBounds_toArray, List.set_cons_zero, List.set_cons_succ]
                refine wpAnyH_done (by kernel_rfl) ?_ _
                try simp only [Act.put, List.setIfInBounds_toArray, List.set_cons_zero, List.set_cons_succ]
                have hb8 : Below W.heap.size W w2 := by first | assumption | exact hHeld
                have HW2 : Hid (Below W.heap.size W w2) := hb8
                clear hb8 hHeld
                go_wp2_with fail
                refine wp_region_held_drew (S := (fun w' => Below W.heap.size W w')) (by kernel_rfl) (by first | exact HW2.out.drew | exact (below_drewN HW2.out _).drew) (fun hHeld => ?_)
                refine wpAnyH_take (i := 0) (oi := { dst := some 70, op := Go.Op.load 41 (Go.Operand.tmp 6), type := 41, pos := "lattice.go:755", after := #[], guard := none }) (v := ?_) rfl (by kernel_rfl) (by kernel_rfl) (by kernel_rfl) (fun _ _ _ h => h) (Or.inl ⟨by rfl, ?hy⟩) (by assumption) ?_
                case hy => (intro w9 hSw; (try dsimp only at hSw); go_simp; try with_reducible rfl)
                try simp only [Act.put, List.setIfInBounds_toArray, List.set_cons_zero, List.set_cons_succ]
                refine wpAnyH_take (i := 1) (oi := { dst := some 71, op := Go.Op.move (Go.Operand.tmp 11), type := 3, pos := "lattice.go:755", after := #[], guard := none }) (v := ?_) rfl (by kernel_rfl) (by kernel_rfl) (by kernel_rfl) (fun _ _ _ h => h) (Or.inl ⟨by rfl, ?hy⟩) (by assumption) ?_
                case hy => (intro w9 hSw; (try dsimp only at hSw); go_simp; try with_reducible rfl)
                try simp only [Act.put, List.setIfInBounds_toArray, List.set_cons_zero, List.set_cons_succ]
                refine wpAnyH_take (i := 2) (oi := { dst := some 72, op := Go.Op.move (Go.Operand.tmp 7), type := 22, pos := "lattice.go:755", after := #[], guard := none }) (v := ?_) rfl (by kernel_rfl) (by kernel_rfl) (by kernel_rfl) (fun _ _ _ h => h) (Or.inl ⟨by rfl, ?hy⟩) (by assumption) ?_
                case hy => (intro w9 hSw; (try dsimp only at hSw); go_simp; try with_reducible rfl)
                try simp only [Act.put, List.setIfInBounds_toArray, List.set_cons_zero, List.set_cons_succ]
                refine wpAnyH_take (i := 3) (oi := { dst := some 73, op := Go.Op.move (Go.Operand.tmp 14), type := 3, pos := "lattice.go:755", after := #[], guard := none }) (v := ?_) rfl (by kernel_rfl) (by kernel_rfl) (by kernel_rfl) (fun _ _ _ h => h) (Or.inl ⟨by rfl, ?hy⟩) (by assumption) ?_
                case hy => (intro w9 hSw; (try dsimp only at hSw); go_simp; try with_reducible rfl)
                try simp only [Act.put, List.setIfInBounds_toArray, List.set_cons_zero, List.set_cons_succ]
                refine wpAnyH_take (i := 4) (oi := { dst := some 74, op := Go.Op.indexAddr 22 (Go.Operand.tmp 72) (Go.Operand.tmp 73), type := 0, pos := "lattice.go:755", after := #[{ on := 2, ground := Go.Ground.data }, { on := 3, ground := Go.Ground.data }], guard := none }) (v := ?_) rfl (by kernel_rfl) (by kernel_rfl) (by kernel_rfl) (fun _ _ _ h => h) (Or.inl ⟨by rfl, ?hy⟩) (by assumption) ?_
                case hy => (intro w9 hSw; (try dsimp only at hSw); go_simp; try with_reducible rfl)
                try simp only [Act.put, List.setIfInBounds_toArray, List.set_cons_zero, List.set_cons_succ]
                refine wpAnyH_take (i := 5) (oi := { dst := some 75, op := Go.Op.load 3 (Go.Operand.tmp 74), type := 3, pos := "lattice.go:755", after := #[{ on := 4, ground := Go.Ground.data }], guard := none }) (v := ?_) rfl (by kernel_rfl) (by kernel_rfl) (by kernel_rfl) (fun _ _ _ h => h) (Or.inl ⟨by rfl, ?hy⟩) (by assumption) ?_
                case hy => (intro w9 hSw; (try dsimp only at hSw); go_simp; try with_reducible rfl)
                try simp only [Act.put, List.setIfInBounds_toArray, List.set_cons_zero, List.set_cons_succ]
                refine wpAnyH_ready (rs := [6]) (by kernel_rfl) (by simp) ?_
                refine AllReadyH.cons (o := { dst := some 76, op := Go.Op.call { callee := Go.Callee.value (Go.Operand.func 24), args := #[Go.Operand.tmp 70, Go.Operand.tmp 71, Go.Operand.tmp 75], argTypes := #[41, 3, 3] }, type := 4, pos := "lattice.go:755", after := #[{ on := 0, ground := Go.Ground.data }, { on := 1, ground := Go.Ground.data }, { on := 5, ground := Go.Ground.data }], guard := none }) rfl (fun K hK => ?_) AllReadyH.nil
                go_simp
                refine (under_any q T1 0 q (some ⟨T2, 0, none⟩) q q R1 (ctm (nat f) len) x (ctp (nat f) len k) _ true hb2 (LT.out _ (by assumption)) hxq hpt).mono ?_
                rintro e w3 ⟨rfl, hbb3⟩
                refine hK.out _ _ ?_ (fun hHeld => ?_)
                · first | assumption | exact Below.then (by assumption) (by assumption)
                clear hK K
                try simp only [Act.put, List.setIfInBounds_toArray, List.set_cons_zero, List.set_cons_succ]
                refine wpAnyH_done (by kernel_rfl) ?_ _
                try simp only [Act.put, List.setIfInBounds_toArray, List.set_cons_zero, List.set_cons_succ]
                have hb9 : Below W.heap.size W w3 := by first | assumption | exact hHeld
                have HW3 : Hid (Below W.heap.size W w3) := hb9
                clear hb9 hHeld
                have r1 := (LT.out _ HW3.out _ hml).1
                have r2 := (LT.out _ HW3.out _ hml).2 _ hpt
                have r3 := l5 _ HW3.out
                have r4 := l1 _ HW3.out
                rw [Nat.zero_add] at r1
                go_wp2_with fail
                go_big_quiet (fail)
                clear r1 r2 r3 r4
                go_wp2_with fail
                go_roundw
                case rel => exact ⟨k + 1, by omega, by go_num, by rw [HE1.out], by rw [HE2.out], below_drewN HW3.out _⟩
                case measure => simp [intOf]; omega
            · rcases hb2 : (ctm (nat f) len x (ctp (nat f) len k) == x) with _ | _
              · have HE1 : Hid (jnK (nat f) len bot x (k + 1) = ctj (nat f) len (jnK (nat f) len bot x k) (ctp (nat f) len k)) := jnK_yes hb1
                have HE2 : Hid (mtK (nat f) len top x (k + 1) = mtK (nat f) len top x k) := mtK_no hb2
                go_wp2_with fail
                refine wp_region_held_drew (S := (fun w' => Below W.heap.size W w')) (by kernel_rfl) (HWX.out.drew) (fun hHeld => ?_)
                refine wpAnyH_take (i := 0) (oi := { dst := some 52, op := Go.Op.load 41 (Go.Operand.tmp 6), type := 41, pos := "lattice.go:752", after := #[], guard := none }) (v := ?_) rfl (by kernel_rfl) (by kernel_rfl) (by kernel_rfl) (fun _ _ _ h => h) (Or.inl ⟨by rfl, ?hy⟩) (by assumption) ?_
                case hy => (intro w9 hSw; (try dsimp only at hSw); go_simp; try with_reducible rfl)
                try simp only [Act.put, List.setIfInBounds_toArray, List.set_cons_zero, List.set_cons_succ]
                refine wpAnyH_take (i := 1) (oi := { dst := some 53, op := Go.Op.move (Go.Operand.tmp 7), type := 22, pos := "lattice.go:752", after := #[], guard := none }) (v := ?_) rfl (by kernel_rfl) (by kernel_rfl) (by kernel_rfl) (fun _ _ _ h => h) (Or.inl ⟨by rfl, ?hy⟩) (by assumption) ?_
                case hy => (intro w9 hSw; (try dsimp only at hSw); go_simp; try with_reducible rfl)
                try simp only [Act.put, List.setIfInBounds_toArray, List.set_cons_zero, List.set_cons_succ]
                refine wpAnyH_take (i := 2) (oi := { dst := some 54, op := Go.Op.move (Go.Operand.tmp 14), type := 3, pos := "lattice.go:752", after := #[], guard := none }) (v := ?_) rfl (by kernel_rfl) (by kernel_rfl) (by kernel_rfl) (fun _ _ _ h => h) (Or.inl ⟨by rfl, ?hy⟩) (by assumption) ?_
                case hy => (intro w9 hSw; (try dsimp only at hSw); go_simp; try with_reducible rfl)
                try simp only [Act.put, List.setIfInBounds_toArray, List.set_cons_zero, List.set_cons_succ]
                refine wpAnyH_take (i := 3) (oi := { dst := some 55, op := Go.Op.indexAddr 22 (Go.Operand.tmp 53) (Go.Operand.tmp 54), type := 0, pos := "lattice.go:752", after := #[{ on := 1, ground := Go.Ground.data }, { on := 2, ground := Go.Ground.data }], guard := none }) (v := ?_) rfl (by kernel_rfl) (by kernel_rfl) (by kernel_rfl) (fun _ _ _ h => h) (Or.inl ⟨by rfl, ?hy⟩) (by assumption) ?_
                case hy => (intro w9 hSw; (try dsimp only at hSw); go_simp; try with_reducible rfl)
                try simp only [Act.put, List.setIfInBounds_toArray, List.set_cons_zero, List.set_cons_succ]
                refine wpAnyH_take (i := 4) (oi := { dst := some 56, op := Go.Op.load 3 (Go.Operand.tmp 55), type := 3, pos := "lattice.go:752", after := #[{ on := 3, ground := Go.Ground.data }], guard := none }) (v := ?_) rfl (by kernel_rfl) (by kernel_rfl) (by kernel_rfl) (fun _ _ _ h => h) (Or.inl ⟨by rfl, ?hy⟩) (by assumption) ?_
                case hy => (intro w9 hSw; (try dsimp only at hSw); go_simp; try with_reducible rfl)
                try simp only [Act.put, List.setIfInBounds_toArray, List.set_cons_zero, List.set_cons_succ]
                refine wpAnyH_take (i := 5) (oi := { dst := some 57, op := Go.Op.move (Go.Operand.tmp 11), type := 3, pos := "lattice.go:752", after := #[], guard := none }) (v := ?_) rfl (by kernel_rfl) (by kernel_rfl) (by kernel_rfl) (fun _ _ _ h => h) (Or.inl ⟨by rfl, ?hy⟩) (by assumption) ?_
                case hy => (intro w9 hSw; (try dsimp only at hSw); go_simp; try with_reducible rfl)
                try simp only [Act.put, List.setIfInBounds_toArray, List.set_cons_zero, List.set_cons_succ]
                refine wpAnyH_ready (rs := [6]) (by kernel_rfl) (by simp) ?_
                refine AllReadyH.cons (o := { dst := some 58, op := Go.Op.call { callee := Go.Callee.value (Go.Operand.func 24), args := #[Go.Operand.tmp 52, Go.Operand.tmp 56, Go.Operand.tmp 57], argTypes := #[41, 3, 3] }, type := 4, pos := "lattice.go:752", after := #[{ on := 0, ground := Go.Ground.data }, { on := 4, ground := Go.Ground.data }, { on := 5, ground := Go.Ground.data }], guard := none }) rfl (fun K hK => ?_) AllReadyH.nil
                go_simp
                refine (under_any q T1 0 q (some ⟨T2, 0, none⟩) q q R1 (ctm (nat f) len) (ctp (nat f) len k) x _ true hb1 (LT.out _ (by assumption)) hpt hxq).mono ?_
                rintro e w2 ⟨rfl, hbb2⟩
                refine hK.out _ _ ?_ (fun hHeld => ?_)
                · first | assumption | exact Below.then (by assumption) (by assumption)
                clear hK K
                try simp only [Act.put, List.setIfInBounds_toArray, List.set_cons_zero, List.set_cons_succ]
                refine wpAnyH_done (by kernel_rfl) ?_ _
                try simp only [Act.put, List.setIfInBounds_toArray, List.set_cons_zero, List.set_cons_succ]
                have hb8 : Below W.heap.size W w2 := by first | assumption | exact hHeld
                have HW2 : Hid (Below W.heap.size W w2) := hb8
                clear hb8 hHeld
                have r1 := (LJ.out _ HW2.out _ hjl).1
                have r2 := (LJ.out _ HW2.out _ hjl).2 _ hpt
                have r3 := l5 _ HW2.out
                have r4 := l2 _ HW2.out
                rw [Nat.zero_add] at r1
                go_wp2_with fail
                go_big_quiet (fail)
                clear r1 r2 r3 r4
                go_wp2_with fail
                refine wp_region_held_drew (S := (fun w' => Below W.heap.size W w')) (by kernel_rfl) (by first | exact HW2.out.drew | exact (below_drewN HW2.out _).drew) (fun hHeld => ?_)
                refine wpAnyH_take (i := 0) (oi := { dst := some 70, op := Go.Op.load 41 (Go.Operand.tmp 6), type := 41, pos := "lattice.go:755", after := #[], guard := none }) (v := ?_) rfl (by kernel_rfl) (by kernel_rfl) (by kernel_rfl) (fun _ _ _ h => h) (Or.inl ⟨by rfl, ?hy⟩) (by assumption) ?_
                case hy => (intro w9 hSw; (try dsimp only at hSw); go_simp; try with_reducible rfl)
                try simp only [Act.put, List.setIfInBounds_toArray, List.set_cons_zero, List.set_cons_succ]
                refine wpAnyH_take (i := 1) (oi := { dst := some 71, op := Go.Op.move (Go.Operand.tmp 11), type := 3, pos := "lattice.go:755", after := #[], guard := none }) (v := ?_) rfl (by kernel_rfl) (by kernel_rfl) (by kernel_rfl) (fun _ _ _ h => h) (Or.inl ⟨by rfl, ?hy⟩) (by assumption) ?_
                case hy => (intro w9 hSw; (try dsimp only at hSw); go_simp; try with_reducible rfl)
                try simp only [Act.put, List.setIfInBounds_toArray, List.set_cons_zero, List.set_cons_succ]
                refine wpAnyH_take (i := 2) (oi := { dst := some 72, op := Go.Op.move (Go.Operand.tmp 7), type := 22, pos := "lattice.go:755", after := #[], guard := none }) (v := ?_) rfl (by kernel_rfl) (by kernel_rfl) (by kernel_rfl) (fun _ _ _ h => h) (Or.inl ⟨by rfl, ?hy⟩) (by assumption) ?_
                case hy => (intro w9 hSw; (try dsimp only at hSw); go_simp; try with_reducible rfl)
                try simp only [Act.put, List.setIfInBounds_toArray, List.set_cons_zero, List.set_cons_succ]
                refine wpAnyH_take (i := 3) (oi := { dst := some 73, op := Go.Op.move (Go.Operand.tmp 14), type := 3, pos := "lattice.go:755", after := #[], guard := none }) (v := ?_) rfl (by kernel_rfl) (by kernel_rfl) (by kernel_rfl) (fun _ _ _ h => h) (Or.inl ⟨by rfl, ?hy⟩) (by assumption) ?_
                case hy => (intro w9 hSw; (try dsimp only at hSw); go_simp; try with_reducible rfl)
                try simp only [Act.put, List.setIfInBounds_toArray, List.set_cons_zero, List.set_cons_succ]
                refine wpAnyH_take (i := 4) (oi := { dst := some 74, op := Go.Op.indexAddr 22 (Go.Operand.tmp 72) (Go.Operand.tmp 73), type := 0, pos := "lattice.go:755", after := #[{ on := 2, ground := Go.Ground.data }, { on := 3, ground := Go.Ground.data }], guard := none }) (v := ?_) rfl (by kernel_rfl) (by kernel_rfl) (by kernel_rfl) (fun _ _ _ h => h) (Or.inl ⟨by rfl, ?hy⟩) (by assumption) ?_
                case hy => (intro w9 hSw; (try dsimp only at hSw); go_simp; try with_reducible rfl)
                try simp only [Act.put, List.setIfInBounds_toArray, List.set_cons_zero, List.set_cons_succ]
                refine wpAnyH_take (i := 5) (oi := { dst := some 75, op := Go.Op.load 3 (Go.Operand.tmp 74), type := 3, pos := "lattice.go:755", after := #[{ on := 4, ground := Go.Ground.data }], guard := none }) (v := ?_) rfl (by kernel_rfl) (by kernel_rfl) (by kernel_rfl) (fun _ _ _ h => h) (Or.inl ⟨by rfl, ?hy⟩) (by assumption) ?_
                case hy => (intro w9 hSw; (try dsimp only at hSw); go_simp; try with_reducible rfl)
                try simp only [Act.put, List.setIfInBounds_toArray, List.set_cons_zero, List.set_cons_succ]
                refine wpAnyH_ready (rs := [6]) (by kernel_rfl) (by simp) ?_
                refine AllReadyH.cons (o := { dst := some 76, op := Go.Op.call { callee := Go.Callee.value (Go.Operand.func 24), args := #[Go.Operand.tmp 70, Go.Operand.tmp 71, Go.Operand.tmp 75], argTypes := #[41, 3, 3] }, type := 4, pos := "lattice.go:755", after := #[{ on := 0, ground := Go.Ground.data }, { on := 1, ground := Go.Ground.data }, { on := 5, ground := Go.Ground.data }], guard := none }) rfl (fun K hK => ?_) AllReadyH.nil
                go_simp
                refine (under_any q T1 0 q (some ⟨T2, 0, none⟩) q q R1 (ctm (nat f) len) x (ctp (nat f) len k) _ false hb2 (LT.out _ (by assumption)) hxq hpt).mono ?_
                rintro e w3 ⟨rfl, hbb3⟩
                refine hK.out _ _ ?_ (fun hHeld => ?_)
                · first | assumption | exact Below.then (by assumption) (by assumption)
                clear hK K
                try simp only [Act.put, List.setIfInBounds_toArray, List.set_cons_zero, List.set_cons_succ]
                refine wpAnyH_done (by kernel_rfl) ?_ _
                try simp only [Act.put, List.setIfInBounds_toArray, List.set_cons_zero, List.set_cons_succ]
                have hb9 : Below W.heap.size W w3 := by first | assumption | exact hHeld
                have HW3 : Hid (Below W.heap.size W w3) := hb9
                clear hb9 hHeld
                go_wp2_with fail
                go_roundw
                case rel => exact ⟨k + 1, by omega, by go_num, by rw [HE1.out], by rw [HE2.out], HW3.out⟩
                case measure => simp [intOf]; omega
              · have HE1 : Hid (jnK (nat f) len bot x (k + 1) = ctj (nat f) len (jnK (nat f) len bot x k) (ctp (nat f) len k)) := jnK_yes hb1
                have HE2 : Hid (mtK (nat f) len top x (k + 1) = ctm (nat f) len (mtK (nat f) len top x k) (ctp (nat f) len k)) := mtK_yes hb2
                go_wp2_with fail
                refine wp_region_held_drew (S := (fun w' => Below W.heap.size W w')) (by kernel_rfl) (HWX.out.drew) (fun hHeld => ?_)
                refine wpAnyH_take (i := 0) (oi := { dst := some 52, op := Go.Op.load 41 (Go.Operand.tmp 6), type := 41, pos := "lattice.go:752", after := #[], guard := none }) (v := ?_) rfl (by kernel_rfl) (by kernel_rfl) (by kernel_rfl) (fun _ _ _ h => h) (Or.inl ⟨by rfl, ?hy⟩) (by assumption) ?_
                case hy => (intro w9 hSw; (try dsimp only at hSw); go_simp; try with_reducible rfl)
                try simp only [Act.put, List.setIfInBounds_toArray, List.set_cons_zero, List.set_cons_succ]
                refine wpAnyH_take (i := 1) (oi := { dst := some 53, op := Go.Op.move (Go.Operand.tmp 7), type := 22, pos := "lattice.go:752", after := #[], guard := none }) (v := ?_) rfl (by kernel_rfl) (by kernel_rfl) (by kernel_rfl) (fun _ _ _ h => h) (Or.inl ⟨by rfl, ?hy⟩) (by assumption) ?_
                case hy => (intro w9 hSw; (try dsimp only at hSw); go_simp; try with_reducible rfl)
                try simp only [Act.put, List.setIfInBounds_toArray, List.set_cons_zero, List.set_cons_succ]
                refine wpAnyH_take (i := 2) (oi := { dst := some 54, op := Go.Op.move (Go.Operand.tmp 14), type := 3, pos := "lattice.go:752", after := #[], guard := none }) (v := ?_) rfl (by kernel_rfl) (by kernel_rfl) (by kernel_rfl) (fun _ _ _ h => h) (Or.inl ⟨by rfl, ?hy⟩) (by assumption) ?_
                case hy => (intro w9 hSw; (try dsimp only at hSw); go_simp; try with_reducible rfl)
                try simp only [Act.put, List.setIfInBounds_toArray, List.set_cons_zero, List.set_cons_succ]
                refine wpAnyH_take (i := 3) (oi := { dst := some 55, op := Go.Op.indexAddr 22 (Go.Operand.tmp 53) (Go.Operand.tmp 54), type := 0, pos := "lattice.go:752", after := #[{ on := 1, ground := Go.Ground.data }, { on := 2, ground := Go.Ground.data }], guard := none }) (v := ?_) rfl (by kernel_rfl) (by kernel_rfl) (by kernel_rfl) (fun _ _ _ h => h) (Or.inl ⟨by rfl, ?hy⟩) (by assumption) ?_
                case hy => (intro w9 hSw; (try dsimp only at hSw); go_simp; try with_reducible rfl)
                try simp only [Act.put, List.setIfInBounds_toArray, List.set_cons_zero, List.set_cons_succ]
                refine wpAnyH_take (i := 4) (oi := { dst := some 56, op := Go.Op.load 3 (Go.Operand.tmp 55), type := 3, pos := "lattice.go:752", after := #[{ on := 3, ground := Go.Ground.data }], guard := none }) (v := ?_) rfl (by kernel_rfl) (by kernel_rfl) (by kernel_rfl) (fun _ _ _ h => h) (Or.inl ⟨by rfl, ?hy⟩) (by assumption) ?_
                case hy => (intro w9 hSw; (try dsimp only at hSw); go_simp; try with_reducible rfl)
                try simp only [Act.put, List.setIfInBounds_toArray, List.set_cons_zero, List.set_cons_succ]
                refine wpAnyH_take (i := 5) (oi := { dst := some 57, op := Go.Op.move (Go.Operand.tmp 11), type := 3, pos := "lattice.go:752", after := #[], guard := none }) (v := ?_) rfl (by kernel_rfl) (by kernel_rfl) (by kernel_rfl) (fun _ _ _ h => h) (Or.inl ⟨by rfl, ?hy⟩) (by assumption) ?_
                case hy => (intro w9 hSw; (try dsimp only at hSw); go_simp; try with_reducible rfl)
                try simp only [Act.put, List.setIfInBounds_toArray, List.set_cons_zero, List.set_cons_succ]
                refine wpAnyH_ready (rs := [6]) (by kernel_rfl) (by simp) ?_
                refine AllReadyH.cons (o := { dst := some 58, op := Go.Op.call { callee := Go.Callee.value (Go.Operand.func 24), args := #[Go.Operand.tmp 52, Go.Operand.tmp 56, Go.Operand.tmp 57], argTypes := #[41, 3, 3] }, type := 4, pos := "lattice.go:752", after := #[{ on := 0, ground := Go.Ground.data }, { on := 4, ground := Go.Ground.data }, { on := 5, ground := Go.Ground.data }], guard := none }) rfl (fun K hK => ?_) AllReadyH.nil
                go_simp
                refine (under_any q T1 0 q (some ⟨T2, 0, none⟩) q q R1 (ctm (nat f) len) (ctp (nat f) len k) x _ true hb1 (LT.out _ (by assumption)) hpt hxq).mono ?_
                rintro e w2 ⟨rfl, hbb2⟩
                refine hK.out _ _ ?_ (fun hHeld => ?_)
                · first | assumption | exact Below.then (by assumption) (by assumption)
                clear hK K
                try simp only [Act.put, List.setIfInBounds_toArray, List.set_cons_zero, List.set_cons_succ]
                refine wpAnyH_done (by kernel_rfl) ?_ _
                try simp only [Act.put, List.setIfInBounds_toArray, List.set_cons_zero, List.set_cons_succ]
                have hb8 : Below W.heap.size W w2 := by first | assumption | exact hHeld
                have HW2 : Hid (Below W.heap.size W w2) := hb8
                clear hb8 hHeld
                have r1 := (LJ.out _ HW2.out _ hjl).1
                have r2 := (LJ.out _ HW2.out _ hjl).2 _ hpt
                have r3 := l5 _ HW2.out
                have r4 := l2 _ HW2.out
                rw [Nat.zero_add] at r1
                go_wp2_with fail
                go_big_quiet (fail)
                clear r1 r2 r3 r4
                go_wp2_with fail
                refine wp_region_held_drew (S := (fun w' => Below W.heap.size W w')) (by kernel_rfl) (by first | exact HW2.out.drew | exact (below_drewN HW2.out _).drew) (fun hHeld => ?_)
                refine wpAnyH_take (i := 0) (oi := { dst := some 70, op := Go.Op.load 41 (Go.Operand.tmp 6), type := 41, pos := "lattice.go:755", after := #[], guard := none }) (v := ?_) rfl (by kernel_rfl) (by kernel_rfl) (by kernel_rfl) (fun _ _ _ h => h) (Or.inl ⟨by rfl, ?hy⟩) (by assumption) ?_
                case hy => (intro w9 hSw; (try dsimp only at hSw); go_simp; try with_reducible rfl)
                try simp only [Act.put, List.setIfInBounds_toArray, List.set_cons_zero, List.set_cons_succ]
                refine wpAnyH_take (i := 1) (oi := { dst := some 71, op := Go.Op.move (Go.Operand.tmp 11), type := 3, pos := "lattice.go:755", after := #[], guard := none }) (v := ?_) rfl (by kernel_rfl) (by kernel_rfl) (by kernel_rfl) (fun _ _ _ h => h) (Or.inl ⟨by rfl, ?hy⟩) (by assumption) ?_
                case hy => (intro w9 hSw; (try dsimp only at hSw); go_simp; try with_reducible rfl)
                try simp only [Act.put, List.setIfInBounds_toArray, List.set_cons_zero, List.set_cons_succ]
                refine wpAnyH_take (i := 2) (oi := { dst := some 72, op := Go.Op.move (Go.Operand.tmp 7), type := 22, pos := "lattice.go:755", after := #[], guard := none }) (v := ?_) rfl (by kernel_rfl) (by kernel_rfl) (by kernel_rfl) (fun _ _ _ h => h) (Or.inl ⟨by rfl, ?hy⟩) (by assumption) ?_
                case hy => (intro w9 hSw; (try dsimp only at hSw); go_simp; try with_reducible rfl)
                try simp only [Act.put, List.setIfInBounds_toArray, List.set_cons_zero, List.set_cons_succ]
                refine wpAnyH_take (i := 3) (oi := { dst := some 73, op := Go.Op.move (Go.Operand.tmp 14), type := 3, pos := "lattice.go:755", after := #[], guard := none }) (v := ?_) rfl (by kernel_rfl) (by kernel_rfl) (by kernel_rfl) (fun _ _ _ h => h) (Or.inl ⟨by rfl, ?hy⟩) (by assumption) ?_
                case hy => (intro w9 hSw; (try dsimp only at hSw); go_simp; try with_reducible rfl)
                try simp only [Act.put, List.setIfInBounds_toArray, List.set_cons_zero, List.set_cons_succ]
                refine wpAnyH_take (i := 4) (oi := { dst := some 74, op := Go.Op.indexAddr 22 (Go.Operand.tmp 72) (Go.Operand.tmp 73), type := 0, pos := "lattice.go:755", after := #[{ on := 2, ground := Go.Ground.data }, { on := 3, ground := Go.Ground.data }], guard := none }) (v := ?_) rfl (by kernel_rfl) (by kernel_rfl) (by kernel_rfl) (fun _ _ _ h => h) (Or.inl ⟨by rfl, ?hy⟩) (by assumption) ?_
                case hy => (intro w9 hSw; (try dsimp only at hSw); go_simp; try with_reducible rfl)
                try simp only [Act.put, List.setIfInBounds_toArray, List.set_cons_zero, List.set_cons_succ]
                refine wpAnyH_take (i := 5) (oi := { dst := some 75, op := Go.Op.load 3 (Go.Operand.tmp 74), type := 3, pos := "lattice.go:755", after := #[{ on := 4, ground := Go.Ground.data }], guard := none }) (v := ?_) rfl (by kernel_rfl) (by kernel_rfl) (by kernel_rfl) (fun _ _ _ h => h) (Or.inl ⟨by rfl, ?hy⟩) (by assumption) ?_
                case hy => (intro w9 hSw; (try dsimp only at hSw); go_simp; try with_reducible rfl)
                try simp only [Act.put, List.setIfInBounds_toArray, List.set_cons_zero, List.set_cons_succ]
                refine wpAnyH_ready (rs := [6]) (by kernel_rfl) (by simp) ?_
                refine AllReadyH.cons (o := { dst := some 76, op := Go.Op.call { callee := Go.Callee.value (Go.Operand.func 24), args := #[Go.Operand.tmp 70, Go.Operand.tmp 71, Go.Operand.tmp 75], argTypes := #[41, 3, 3] }, type := 4, pos := "lattice.go:755", after := #[{ on := 0, ground := Go.Ground.data }, { on := 1, ground := Go.Ground.data }, { on := 5, ground := Go.Ground.data }], guard := none }) rfl (fun K hK => ?_) AllReadyH.nil
                go_simp
                refine (under_any q T1 0 q (some ⟨T2, 0, none⟩) q q R1 (ctm (nat f) len) x (ctp (nat f) len k) _ true hb2 (LT.out _ (by assumption)) hxq hpt).mono ?_
                rintro e w3 ⟨rfl, hbb3⟩
                refine hK.out _ _ ?_ (fun hHeld => ?_)
                · first | assumption | exact Below.then (by assumption) (by assumption)
                clear hK K
                try simp only [Act.put, List.setIfInBounds_toArray, List.set_cons_zero, List.set_cons_succ]
                refine wpAnyH_done (by kernel_rfl) ?_ _
                try simp only [Act.put, List.setIfInBounds_toArray, List.set_cons_zero, List.set_cons_succ]
                have hb9 : Below W.heap.size W w3 := by first | assumption | exact hHeld
                have HW3 : Hid (Below W.heap.size W w3) := hb9
                clear hb9 hHeld
                have r1 := (LT.out _ HW3.out _ hml).1
                have r2 := (LT.out _ HW3.out _ hml).2 _ hpt
                have r3 := l5 _ HW3.out
                have r4 := l1 _ HW3.out
                rw [Nat.zero_add] at r1
                go_wp2_with fail
                go_big_quiet (fail)
                clear r1 r2 r3 r4
                go_wp2_with fail
                go_roundw
                case rel => exact ⟨k + 1, by omega, by go_num, by rw [HE1.out], by rw [HE2.out], below_drewN HW3.out _⟩
                case measure => simp [intOf]; omega
          · obtain rfl : k = len := by omega
            have q1 : (((jnK (nat f) k bot x k : Nat) : Int) != ((x : Nat) : Int)) = false := by rw [HJX.out x hxq]; simp
            have q2 : (((mtK (nat f) k top x k : Nat) : Int) != ((x : Nat) : Int)) = false := by rw [HMX.out x hxq]; simp
            go_wp2_with fail
            go_roundw
            case rel => exact ⟨x + 1, by omega, by go_num, HWX.out⟩
            case measure => simp [intOf]; omega
      · obtain rfl : x = q := by omega
        go_wp2_with fail
        go_ret
        exact ⟨rfl, Below.then HBW.out HW0.out⟩
end Go.Proofs.Ytkcogfjlpbfckaa
