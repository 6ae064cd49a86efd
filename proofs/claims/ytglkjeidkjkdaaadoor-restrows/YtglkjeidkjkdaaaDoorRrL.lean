/-
  What hasselaw.RestRows answers: true. Conditions: a slice reads as a slice of at most 17592186043904 numbers; the table of the least bits.
-/
import Derived.Deep.RegionHeld3
import Derived.Deep.Cut
import Derived.Deep.QuietTactic
import Derived.BigQuiet
import Derived.Test.YtglkjeidkjkdaaaDoorClone
import Derived.Test.YtglkjeidkjkdaaaDoorRrN
namespace Go.Proofs.YtglkjeidkjkdaaaDoor
set_option maxRecDepth 100000
open Go.RowKit

set_option maxHeartbeats 8000000 in
theorem restRows_any (n k : Int) (a : Option Addr) (len cap : Nat) (f : Nat → Int) (w : World) (hl : len ≤ 17592186043904) (hr : Row w a len f) (hT : Tab w) :
    Calls Tryd.prog 3 #[.agg #[.int .i64 n, .slice a len cap], .int .i64 k] w fun e w' => e = .returned (.bool true) ∧ Below w.heap.size w w' := by
  have hm : len ≤ maxLen := by unfold maxLen; omega
  have K0 : Hid (Held (w.alloc (.cells #[.int .i64 n, .slice a len cap] 24)) w.heap.size n a len cap f) := Held.box hr
  have HB0 : Hid (Below w.heap.size w (w.alloc (.cells #[.int .i64 n, .slice a len cap] 24))) := (Below.refl _ _).alloc (Nat.le_refl _) _
  have HT : Hid (Tab w) := hT
  clear hr hT
  go_enter Tryd.func3, Tryd.ntmps3
  go_wp2_with fail
  refine (extendBegun_any _).mono ?_
  rintro e wa ⟨rfl, hba⟩
  have HBa : Hid (Below w.heap.size w wa) := Below.then HB0.out hba
  have Ka : Hid (Held wa w.heap.size n a len cap f) := K0.out.step hba
  clear hba HB0 K0
  go_wp2_with fail
  refine (seriesBegun_any _ (HT.out.step HBa.out)).mono ?_
  rintro e wb ⟨rfl, hbb⟩
  have HBb : Hid (Below w.heap.size w wb) := Below.then HBa.out hbb
  have Kb : Hid (Held wb w.heap.size n a len cap f) := Ka.out.step hbb
  clear hbb HBa Ka
  go_wp2_with fail
  refine (convexBegun_any _ (HT.out.step HBb.out)).mono ?_
  rintro e w1 ⟨rfl, hb1⟩
  have HB1 : Hid (Below w.heap.size w w1) := Below.then HBb.out hb1
  have K1 : Hid (Held w1 w.heap.size n a len cap f) := Kb.out.step hb1
  clear hb1 HBb Kb
  have o0 : ∀ w', Below w1.heap.size w1 w' → w'.cell? ⟨w.heap.size, 0, none⟩ = some (.int .i64 n) := fun w' h => (K1.out.step h).c0
  have o1 : ∀ w', Below w1.heap.size w1 w' → w'.cell? ⟨w.heap.size, 1, none⟩ = some (.slice a len cap) := fun w' h => (K1.out.step h).c1
  have HRW : Hid (∀ w', Below w1.heap.size w1 w' → Row w' a len f) := fun w' h => (K1.out.step h).row
  go_upto_region 3 with fail
  go_cut [5] from 17 (fun p wx => ∃ (pb : Nat) (a2 : Option Addr) (c2 : Nat), p = .pointer (some ⟨pb, 0, none⟩) ∧ Hid (PSt w1.heap.size wx n len f pb a2 c2) ∧ Hid (Below w1.heap.size w1 wx))
  case first =>
    refine wp_region_held_drew (S := (fun w' => Below w1.heap.size w1 w')) (by kernel_rfl) ((Below.refl _ _).drew) (fun hHeld => ?_)
    refine wpAnyH_take (i := 0) (oi := { dst := some 27, op := Go.Op.fieldAddr 24 (Go.Operand.tmp 2) 0, type := 0, pos := "memory.go:187", after := #[], guard := none }) (v := ?_) rfl (by kernel_rfl) (by kernel_rfl) (by kernel_rfl) (fun _ _ _ h => h) (Or.inl ⟨by rfl, ?hy⟩) (by assumption) ?_
    case hy => (intro w9 hSw; (try dsimp only at hSw); go_simp; try with_reducible rfl)
    try simp only [Act.put, List.setIfInBounds_toArray, List.set_cons_zero, List.set_cons_succ]
    refine wpAnyH_take (i := 1) (oi := { dst := some 28, op := Go.Op.load 3 (Go.Operand.tmp 27), type := 3, pos := "memory.go:187", after := #[{ on := 0, ground := Go.Ground.data }], guard := none }) (v := ?_) rfl (by kernel_rfl) (by kernel_rfl) (by kernel_rfl) (fun _ _ _ h => h) (Or.inl ⟨by rfl, ?hy⟩) (by assumption) ?_
    case hy => (intro w9 hSw; (try dsimp only at hSw); go_simp; try with_reducible rfl)
    try simp only [Act.put, List.setIfInBounds_toArray, List.set_cons_zero, List.set_cons_succ]
    refine wpAnyH_take (i := 2) (oi := { dst := some 29, op := Go.Op.fieldAddr 24 (Go.Operand.tmp 2) 1, type := 0, pos := "memory.go:187", after := #[], guard := none }) (v := ?_) rfl (by kernel_rfl) (by kernel_rfl) (by kernel_rfl) (fun _ _ _ h => h) (Or.inl ⟨by rfl, ?hy⟩) (by assumption) ?_
    case hy => (intro w9 hSw; (try dsimp only at hSw); go_simp; try with_reducible rfl)
    try simp only [Act.put, List.setIfInBounds_toArray, List.set_cons_zero, List.set_cons_succ]
    refine wpAnyH_take (i := 3) (oi := { dst := some 30, op := Go.Op.load 22 (Go.Operand.tmp 29), type := 22, pos := "memory.go:187", after := #[{ on := 2, ground := Go.Ground.data }], guard := none }) (v := ?_) rfl (by kernel_rfl) (by kernel_rfl) (by kernel_rfl) (fun _ _ _ h => h) (Or.inl ⟨by rfl, ?hy⟩) (by assumption) ?_
    case hy => (intro w9 hSw; (try dsimp only at hSw); go_simp; try with_reducible rfl)
    try simp only [Act.put, List.setIfInBounds_toArray, List.set_cons_zero, List.set_cons_succ]
    refine wpAnyH_ready (rs := [4, 6]) (by kernel_rfl) (by simp) ?_
    refine AllReadyH.cons (o := { dst := some 31, op := Go.Op.call { callee := Go.Callee.value (Go.Operand.func 7), args := #[Go.Operand.tmp 30], argTypes := #[22] }, type := 22, pos := "memory.go:187", after := #[{ on := 3, ground := Go.Ground.data }], guard := none }) rfl (fun K hK => ?_) ?_
    · go_simp
      refine (twin_any a len cap f _ hl (HRW.out _ (by assumption))).mono ?_
      rintro e w5 ⟨⟨a2, c2, rfl, hF⟩, hb5⟩
      refine hK.out _ _ ?_ (fun hHeld => ?_)
      · exact Below.then (by assumption) hb5
      clear hK K
      try simp only [Act.put, List.setIfInBounds_toArray, List.set_cons_zero, List.set_cons_succ]
      try (have HZ5 : Hid (ZBox w5 w1.heap.size) := HZ.out.step hb5)
      try (obtain ⟨z0, z1, g0, g1⟩ := HZ5.out)
      refine wpAnyH_take (i := 5) (oi := { dst := some 32, op := Go.Op.build 24 #[(0, Go.Operand.tmp 28), (1, Go.Operand.tmp 31)], type := 24, pos := "memory.go:187", after := #[{ on := 1, ground := Go.Ground.data }, { on := 4, ground := Go.Ground.data }], guard := none }) (v := ?_) rfl (by kernel_rfl) (by kernel_rfl) (by kernel_rfl) (fun _ _ _ h => h) (Or.inl ⟨by rfl, ?hy⟩) (by assumption) ?_
      case hy => (intro w9 hSw; (try dsimp only at hSw); go_simp; try with_reducible rfl)
      try simp only [Act.put, List.setIfInBounds_toArray, List.set_cons_zero, List.set_cons_succ]
      refine wpAnyH_ready (rs := [6]) (by kernel_rfl) (by simp) ?_
      refine AllReadyH.cons (o := { dst := some 5, op := Go.Op.alloc 24, type := 0, pos := "memory.go:187", after := #[], guard := none }) rfl (fun K hK => ?_) AllReadyH.nil
      go_simp
      skip
      refine hK.out _ _ ?_ (fun hHeld => ?_)
      · exact Below.alloc (by assumption) (Below.size (by assumption)) _
      clear hK K
      try simp only [Act.put, List.setIfInBounds_toArray, List.set_cons_zero, List.set_cons_succ]
      try (have HZ : Hid (ZBox (w1.drew.alloc (.cells #[.int .i64 0, .slice none 0 0] 24)) w1.heap.size) := ZBox.new w1.drew)
      refine wpAnyH_ready (rs := [7]) (by kernel_rfl) (by simp) ?_
      refine AllReadyH.cons (o := { dst := none, op := Go.Op.store 24 (Go.Operand.tmp 5) (Go.Operand.tmp 32), type := 0, pos := "memory.go:187", after := #[{ on := 6, ground := Go.Ground.data }, { on := 5, ground := Go.Ground.data }, { on := 4, ground := Go.Ground.chain }, { on := 0, ground := Go.Ground.phase }, { on := 1, ground := Go.Ground.phase }, { on := 2, ground := Go.Ground.phase }, { on := 3, ground := Go.Ground.phase }, { on := 4, ground := Go.Ground.phase }, { on := 5, ground := Go.Ground.phase }, { on := 6, ground := Go.Ground.phase }], guard := none }) rfl (fun K hK => ?_) AllReadyH.nil
      go_simp
      skip
      refine hK.out _ _ ?_ (fun hHeld => ?_)
      · (first | exact Below.alloc (by assumption) (Below.size (by assumption)) _ | exact set2B (by assumption) (Nat.le_refl _) | exact set2B (by assumption) (Below.size (by assumption)))
      clear hK K
      try simp only [Act.put, List.setIfInBounds_toArray, List.set_cons_zero, List.set_cons_succ]
      refine wpAnyH_done (by kernel_rfl) ?_ _
      try simp only [Act.put, List.setIfInBounds_toArray, List.set_cons_zero, List.set_cons_succ]
      go_wp2_with fail
      go_meet
      first
        | exact ⟨w5.heap.size, a2, c2, rfl, pst_new hF (by simp), by assumption⟩
        | exact ⟨w1.heap.size, a2, c2, rfl, pst_old HZ5.out hF (by simp) (by simp), by assumption⟩
    refine AllReadyH.cons (o := { dst := some 5, op := Go.Op.alloc 24, type := 0, pos := "memory.go:187", after := #[], guard := none }) rfl (fun K hK => ?_) ?_
    · go_simp
      skip
      refine hK.out _ _ ?_ (fun hHeld => ?_)
      · exact Below.alloc (by assumption) (Below.size (by assumption)) _
      clear hK K
      try simp only [Act.put, List.setIfInBounds_toArray, List.set_cons_zero, List.set_cons_succ]
      try (have HZ : Hid (ZBox (w1.drew.alloc (.cells #[.int .i64 0, .slice none 0 0] 24)) w1.heap.size) := ZBox.new w1.drew)
      refine wpAnyH_ready (rs := [4]) (by kernel_rfl) (by simp) ?_
      refine AllReadyH.cons (o := { dst := some 31, op := Go.Op.call { callee := Go.Callee.value (Go.Operand.func 7), args := #[Go.Operand.tmp 30], argTypes := #[22] }, type := 22, pos := "memory.go:187", after := #[{ on := 3, ground := Go.Ground.data }], guard := none }) rfl (fun K hK => ?_) AllReadyH.nil
      go_simp
      refine (twin_any a len cap f _ hl (HRW.out _ (by assumption))).mono ?_
      rintro e w5 ⟨⟨a2, c2, rfl, hF⟩, hb5⟩
      refine hK.out _ _ ?_ (fun hHeld => ?_)
      · exact Below.then (by assumption) hb5
      clear hK K
      try simp only [Act.put, List.setIfInBounds_toArray, List.set_cons_zero, List.set_cons_succ]
      try (have HZ5 : Hid (ZBox w5 w1.heap.size) := HZ.out.step hb5)
      try (obtain ⟨z0, z1, g0, g1⟩ := HZ5.out)
      refine wpAnyH_take (i := 5) (oi := { dst := some 32, op := Go.Op.build 24 #[(0, Go.Operand.tmp 28), (1, Go.Operand.tmp 31)], type := 24, pos := "memory.go:187", after := #[{ on := 1, ground := Go.Ground.data }, { on := 4, ground := Go.Ground.data }], guard := none }) (v := ?_) rfl (by kernel_rfl) (by kernel_rfl) (by kernel_rfl) (fun _ _ _ h => h) (Or.inl ⟨by rfl, ?hy⟩) (by assumption) ?_
      case hy => (intro w9 hSw; (try dsimp only at hSw); go_simp; try with_reducible rfl)
      try simp only [Act.put, List.setIfInBounds_toArray, List.set_cons_zero, List.set_cons_succ]
      refine wpAnyH_ready (rs := [7]) (by kernel_rfl) (by simp) ?_
      refine AllReadyH.cons (o := { dst := none, op := Go.Op.store 24 (Go.Operand.tmp 5) (Go.Operand.tmp 32), type := 0, pos := "memory.go:187", after := #[{ on := 6, ground := Go.Ground.data }, { on := 5, ground := Go.Ground.data }, { on := 4, ground := Go.Ground.chain }, { on := 0, ground := Go.Ground.phase }, { on := 1, ground := Go.Ground.phase }, { on := 2, ground := Go.Ground.phase }, { on := 3, ground := Go.Ground.phase }, { on := 4, ground := Go.Ground.phase }, { on := 5, ground := Go.Ground.phase }, { on := 6, ground := Go.Ground.phase }], guard := none }) rfl (fun K hK => ?_) AllReadyH.nil
      go_simp
      skip
      refine hK.out _ _ ?_ (fun hHeld => ?_)
      · (first | exact Below.alloc (by assumption) (Below.size (by assumption)) _ | exact set2B (by assumption) (Nat.le_refl _) | exact set2B (by assumption) (Below.size (by assumption)))
      clear hK K
      try simp only [Act.put, List.setIfInBounds_toArray, List.set_cons_zero, List.set_cons_succ]
      refine wpAnyH_done (by kernel_rfl) ?_ _
      try simp only [Act.put, List.setIfInBounds_toArray, List.set_cons_zero, List.set_cons_succ]
      go_wp2_with fail
      go_meet
      first
        | exact ⟨w5.heap.size, a2, c2, rfl, pst_new hF (by simp), by assumption⟩
        | exact ⟨w1.heap.size, a2, c2, rfl, pst_old HZ5.out hF (by simp) (by simp), by assumption⟩
    exact AllReadyH.nil
  case rest =>
    obtain ⟨pb, a2, c2, rfl, HP, HBc⟩ := hcut
    rename World => w2
    have HB2 : Hid (Below w.heap.size w w2) := Below.then HB1.out HBc.out
    have K2 : Hid (Held w2 w.heap.size n a len cap f) := K1.out.step HBc.out
    obtain ⟨K, K', hF, hK1, hK2⟩ := HP.out.2
    have HF2 : Hid (FRow w2 K K' a2 len f) := hF
    have HK1 : Hid (w1.heap.size ≤ K) := hK1
    have HK2 : Hid (K' ≤ w2.heap.size) := hK2
    have HP2 : Hid (Bx2 w2 pb (.int .i64 n) (.slice a2 len c2)) := HP.out.1
    have HS2 : Hid (w1.heap.size ≤ w2.heap.size) := HBc.out.size
    obtain ⟨p0, p1⟩ := HP.out.1
    clear o0 o1 HRW HP HBc hF hK1 hK2
    go_wp2_with fail
    refine (nth_any n a2 len c2 f k _ hm HF2.out.row).mono ?_
    rintro e w3 ⟨hN, hb3⟩
    obtain ⟨c, c7, xa, xm, xd, rfl, hc, hc7, hG, _⟩ := nth_form hN
    have HC : Hid (Chk n len f c) := hc
    have HC7 : Hid (c ≠ 0 → c7 ≠ 0) := hc7
    have HX3 : Hid (NGot w2.heap.size w3 f len k xa xm c7) := hG
    have HB3 : Hid (Below w.heap.size w w3) := Below.then HB2.out hb3
    have K3 : Hid (Held w3 w.heap.size n a len cap f) := K2.out.step hb3
    have HF3 : Hid (FRow w3 K K' a2 len f) := HF2.out.step hb3
    have HP3 : Hid (Bx2 w3 pb (.int .i64 n) (.slice a2 len c2)) := HP2.out.step hb3
    have HS3 : Hid (w2.heap.size ≤ w3.heap.size) := hb3.size
    clear hN hc hc7 hG hb3 p0 p1 HP2 HF2 K2 HB2
    obtain ⟨p0, p1⟩ := HP3.out
    go_wp2_with fail
    refine (sSplit_any n a2 len c2 f _ hm HF3.out.row (HT.out.step HB3.out)).mono ?_
    rintro e ws ⟨hS, hbs⟩
    obtain ⟨cS, ok, kk, x, ta, tn, tc, rfl, hcS, hTG⟩ := split_form hS
    obtain rfl := Chk.unique HC.out hcS
    have HBA : Hid (Below w3.heap.size w3 (ws.alloc (.cells #[.int .i64 kk, .int .i64 x, .slice ta tn tc] 32))) := Below.alloc hbs hbs.size _
    have HT4 : Hid (TSt w3.heap.size (ws.alloc (.cells #[.int .i64 kk, .int .i64 x, .slice ta tn tc] 32)) f len ws.heap.size kk x ta tn tc ok c) := tst_new hTG (Nat.le_refl _) hbs.size
    obtain ⟨tb, HTB⟩ : ∃ tb, Hid (tb = ws.heap.size) := ⟨_, rfl⟩
    rw [← HTB.out] at HT4
    clear hS hcS hTG hbs p0 p1
    go_upto_region 6 with fail
    rw [← HTB.out]
    generalize ws.alloc (.cells #[.int .i64 kk, .int .i64 x, .slice ta tn tc] 32) = w4 at *
    clear HTB
    have HB4 : Hid (Below w.heap.size w w4) := Below.then HB3.out HBA.out
    have K4 : Hid (Held w4 w.heap.size n a len cap f) := K3.out.step HBA.out
    have HF4 : Hid (FRow w4 K K' a2 len f) := HF3.out.step HBA.out
    have HP4 : Hid (Bx2 w4 pb (.int .i64 n) (.slice a2 len c2)) := HP3.out.step HBA.out
    have HS4 : Hid (w3.heap.size ≤ w4.heap.size) := HBA.out.size
    have HB34 : Hid (Below w3.heap.size w3 w4) := HBA.out
    clear HBA HP3 HF3 K3
    obtain ⟨p0, p1⟩ := HP4.out
    go_wp2_with fail
    refine (cIdeals_any n a2 len c2 f _ hm HF4.out.row).mono ?_
    rintro e wf ⟨hS, hbs⟩
    obtain ⟨cS, si, sa, sn, sc, rfl, hcS, hSG⟩ := fam_form hS
    obtain rfl := Chk.unique HC.out hcS
    have HBA : Hid (Below w4.heap.size w4 (wf.alloc (.cells #[.int .i64 si, .slice sa sn sc] 36))) := Below.alloc hbs hbs.size _
    have HS6 : Hid (SSt w4.heap.size (wf.alloc (.cells #[.int .i64 si, .slice sa sn sc] 36)) (idls (nat f) len) wf.heap.size si sa sn sc c) := sst_new hSG (Nat.le_refl _) hbs.size
    obtain ⟨sb, HSB⟩ : ∃ sb, Hid (sb = wf.heap.size) := ⟨_, rfl⟩
    rw [← HSB.out] at HS6
    clear hS hcS hSG hbs p0 p1
    go_upto_region 7 with fail
    rw [← HSB.out]
    generalize wf.alloc (.cells #[.int .i64 si, .slice sa sn sc] 36) = w6 at *
    clear HSB
    have HB6 : Hid (Below w.heap.size w w6) := Below.then HB4.out HBA.out
    have K6 : Hid (Held w6 w.heap.size n a len cap f) := K4.out.step HBA.out
    have HF6 : Hid (FRow w6 K K' a2 len f) := HF4.out.step HBA.out
    have HP6 : Hid (Bx2 w6 pb (.int .i64 n) (.slice a2 len c2)) := HP4.out.step HBA.out
    have HT6 : Hid (TSt w3.heap.size w6 f len tb kk x ta tn tc ok c) := HT4.out.step HBA.out
    have HB36 : Hid (Below w3.heap.size w3 w6) := Below.then HB34.out HBA.out
    have HS6' : Hid (w4.heap.size ≤ w6.heap.size) := HBA.out.size
    clear HBA HP4 HF4 K4 HT4 HB34
    obtain ⟨p0, p1⟩ := HP6.out
    go_wp2_with fail
    refine (ideals_any n a2 len c2 f _ hm HF6.out.row).mono ?_
    rintro e w7 ⟨hS, hb7⟩
    obtain ⟨cS, ia, im, ic, rfl, hcS, hIG⟩ := ids_form hS
    obtain rfl := Chk.unique HC.out hcS
    have HB7 : Hid (Below w.heap.size w w7) := Below.then HB6.out hb7
    have K7 : Hid (Held w7 w.heap.size n a len cap f) := K6.out.step hb7
    have HF7 : Hid (FRow w7 K K' a2 len f) := HF6.out.step hb7
    have HP7 : Hid (Bx2 w7 pb (.int .i64 n) (.slice a2 len c2)) := HP6.out.step hb7
    have HT7 : Hid (TSt w3.heap.size w7 f len tb kk x ta tn tc ok c) := HT6.out.step hb7
    have HS7 : Hid (SSt w4.heap.size w7 (idls (nat f) len) sb si sa sn sc c) := HS6.out.step hb7
    have HI7 : Hid (IGot w6.heap.size w7 (idls (nat f) len) ia im c) := hIG
    have HX7 : Hid (c7 = 0 → xm = len ∧ ∃ j : Nat, k = (j : Nat) ∧ j < ways (nat f) len 0 ∧ FRow w7 w2.heap.size w3.heap.size xa len (fun i => (nP (nat f) len j i : Nat))) := fun e => by
      obtain ⟨h1, j, h2, h3, h4⟩ := HX3.out e
      exact ⟨h1, j, h2, h3, (h4.step HB36.out).step hb7⟩
    have HS67 : Hid (w6.heap.size ≤ w7.heap.size) := hb7.size
    clear hS hcS hIG hb7 p0 p1 HX3 HP6 HF6 K6 HT6 HB36
    obtain ⟨p0, p1⟩ := HP7.out
    go_wp2_with fail
    refine (spoil_any K K' a2 len c2 f _ hl HF7.out).mono ?_
    rintro e w8 ⟨rfl, ho, hbo⟩
    have HB8 : Hid (Below w.heap.size w w8) := hbo w (Nat.le_trans HB1.out.size HK1.out) HB7.out
    have K8 : Hid (Held w8 w.heap.size n a len cap f) := held_off K1.out HK1.out K7.out ho
    have HK3 : Hid (K' ≤ w3.heap.size) := Nat.le_trans HK2.out HS3.out
    have HK4 : Hid (K' ≤ w4.heap.size) := Nat.le_trans HK3.out HS4.out
    have HK6 : Hid (K' ≤ w6.heap.size) := Nat.le_trans HK4.out HS6'.out
    have HT8 : Hid (TSt w3.heap.size w8 f len tb kk x ta tn tc ok c) := HT7.out.off HK3.out ho
    have HS8 : Hid (SSt w4.heap.size w8 (idls (nat f) len) sb si sa sn sc c) := HS7.out.off HK4.out ho
    have HJ8 : Hid (c = 0 → im = (idls (nat f) len).length ∧ FRow w8 w6.heap.size w7.heap.size ia im (fun k => (nth (idls (nat f) len) k : Nat))) := fun e => ⟨(HI7.out e).1, (HI7.out e).2.off HK6.out ho⟩
    have HX8 : Hid (c7 = 0 → xm = len ∧ ∃ j : Nat, k = (j : Nat) ∧ j < ways (nat f) len 0 ∧ FRow w8 w2.heap.size w3.heap.size xa len (fun i => (nP (nat f) len j i : Nat))) := fun e => by
      obtain ⟨h1, j, h2, h3, h4⟩ := HX7.out e
      exact ⟨h1, j, h2, h3, h4.off HK2.out ho⟩
    clear ho hbo HX7 HI7 HS7 HT7 HP7 HF7 K7 HB7 p0 p1
    by_cases h0 : c = 0
    · subst h0
      obtain ⟨rfl, h10, hrng, hord⟩ := HC.out.good
      have HRG : Hid (Rng len f) := hrng
      have HSM : Hid (Sm len len (nat f)) := hrng.small
      have HOR : Hid (Ord len (nat f)) := hord
      have HU : Hid (∀ k, k < len → nat f k < 1024) := hrng.small2 h10
      have HI8 : Hid (im = (idls (nat f) len).length ∧ FRow w8 w6.heap.size w7.heap.size ia im (fun k => (nth (idls (nat f) len) k : Nat))) := HJ8.out rfl
      have HS8s := HS8
      clear hrng hord HC7 HS8 HJ8
      go_upto_if 59 with fail
      go_cut [1, 6, 7] from 17 (fun _ _ _ wx => Hid (TSt w3.heap.size wx f len tb kk x ta tn tc ok 0) ∧ Hid (Held wx w.heap.size len a len cap f) ∧ Hid (SSt w4.heap.size wx (idls (nat f) len) sb si sa sn sc 0) ∧ Hid (im = (idls (nat f) len).length ∧ FRow wx w6.heap.size w7.heap.size ia im (fun k => (nth (idls (nat f) len) k : Nat))) ∧ Hid (Below w.heap.size w wx))
      case first =>
        by_cases h7 : c7 = 0
        · subst h7
          obtain ⟨hxm, j, hkj, hj, hXF⟩ := HX8.out rfl
          have hxm' := hxm.symm
          subst hxm' hkj
          have HX : Hid (FRow w8 w2.heap.size w3.heap.size xa len (fun i => (nP (nat f) len j i : Nat))) := hXF
          have HJ : Hid (j < ways (nat f) len 0) := hj
          have k0 := K8.out.c0
          have k1 := K8.out.c1
          clear hxm hj hXF HX8
          go_wp2_with fail
          refine (isRow_any len a cap (nat f) xa len xd (fun i => (nP (nat f) len j i : Nat)) _ h10 HSM.out hm (HRG.out.row K8.out.row) HX.out.row).mono ?_
          rintro e w9 ⟨⟨q, rfl, hq⟩, hb9⟩
          obtain rfl : q = true := hq.2 (nth_isRow HJ.out)
          have HX9 : Hid (FRow w9 w2.heap.size w3.heap.size xa len (fun i => (nP (nat f) len j i : Nat))) := HX.out.step hb9
          clear hq k0 k1 HX
          have K9 : Hid (Held w9 w.heap.size len a len cap f) := K8.out.step hb9
          have HT9 : Hid (TSt w3.heap.size w9 f len tb kk x ta tn tc ok 0) := HT8.out.step hb9
          have HS9s : Hid (SSt w4.heap.size w9 (idls (nat f) len) sb si sa sn sc 0) := HS8s.out.step hb9
          have HI9 : Hid (im = (idls (nat f) len).length ∧ FRow w9 w6.heap.size w7.heap.size ia im (fun k => (nth (idls (nat f) len) k : Nat))) := ⟨HI8.out.1, HI8.out.2.step hb9⟩
          have HB9 : Hid (Below w.heap.size w w9) := Below.then HB8.out hb9
          clear hb9 K8 HT8 HS8s HI8 HB8
          have k0 := K9.out.c0
          have k1 := K9.out.c1
          go_wp2_with fail
          refine (spoil_any w2.heap.size w3.heap.size xa len xd _ _ hl HX9.out).mono ?_
          rintro e wA ⟨rfl, hoA, hbA⟩
          have KA : Hid (Held wA w.heap.size len a len cap f) := held_off K1.out HS2.out K9.out hoA
          have HTA : Hid (TSt w3.heap.size wA f len tb kk x ta tn tc ok 0) := HT9.out.off (Nat.le_refl _) hoA
          have HSAs : Hid (SSt w4.heap.size wA (idls (nat f) len) sb si sa sn sc 0) := HS9s.out.off HS4.out hoA
          have HIA : Hid (im = (idls (nat f) len).length ∧ FRow wA w6.heap.size w7.heap.size ia im (fun k => (nth (idls (nat f) len) k : Nat))) := ⟨HI9.out.1, HI9.out.2.off (Nat.le_trans HS4.out HS6'.out) hoA⟩
          have HBA : Hid (Below w.heap.size w wA) := hbA w (Nat.le_trans HB1.out.size HS2.out) HB9.out
          clear hoA hbA K9 HT9 HS9s HI9 HB9 HX9 k0 k1
          have k0 := KA.out.c0
          have k1 := KA.out.c1
          go_wp2_with fail
          refine (nth_any len a len cap f j _ hm KA.out.row).mono ?_
          rintro e wB ⟨hN, hbB⟩
          obtain ⟨c', er, ya, ym, yd, rfl, hc', _, hG, hz⟩ := nth_form hN
          obtain rfl := Chk.unique HC.out hc'
          obtain rfl := hz rfl ⟨by omega, by have := HJ.out; omega⟩
          obtain ⟨hym, j', _, hj', hYF⟩ := hG rfl
          have hym' := hym.symm
          subst hym'
          have HY : Hid (Row wB ya len (fun i => (nP (nat f) len j' i : Nat))) := hYF.row
          have HJ' : Hid (j' < ways (nat f) len 0) := hj'
          clear hN hG hz hym hYF hj' hc' k0 k1
          have KB : Hid (Held wB w.heap.size len a len cap f) := KA.out.step hbB
          have HTB : Hid (TSt w3.heap.size wB f len tb kk x ta tn tc ok 0) := HTA.out.step hbB
          have HSBs : Hid (SSt w4.heap.size wB (idls (nat f) len) sb si sa sn sc 0) := HSAs.out.step hbB
          have HIB : Hid (im = (idls (nat f) len).length ∧ FRow wB w6.heap.size w7.heap.size ia im (fun k => (nth (idls (nat f) len) k : Nat))) := ⟨HIA.out.1, HIA.out.2.step hbB⟩
          have HBB : Hid (Below w.heap.size w wB) := Below.then HBA.out hbB
          clear hbB KA HTA HSAs HIA HBA
          have k0 := KB.out.c0
          have k1 := KB.out.c1
          go_wp2_with fail
          refine (isRow_any len a cap (nat f) ya len yd (fun i => (nP (nat f) len j' i : Nat)) _ h10 HSM.out hm (HRG.out.row KB.out.row) HY.out).mono ?_
          rintro e wC ⟨⟨q, rfl, hq⟩, hbC⟩
          obtain rfl : q = true := hq.2 (nth_isRow HJ'.out)
          clear hq k0 k1
          have KC : Hid (Held wC w.heap.size len a len cap f) := KB.out.step hbC
          have HTC : Hid (TSt w3.heap.size wC f len tb kk x ta tn tc ok 0) := HTB.out.step hbC
          have HSCs : Hid (SSt w4.heap.size wC (idls (nat f) len) sb si sa sn sc 0) := HSBs.out.step hbC
          have HIC : Hid (im = (idls (nat f) len).length ∧ FRow wC w6.heap.size w7.heap.size ia im (fun k => (nth (idls (nat f) len) k : Nat))) := ⟨HIB.out.1, HIB.out.2.step hbC⟩
          have HBC : Hid (Below w.heap.size w wC) := Below.then HBB.out hbC
          clear hbC KB HTB HSBs HIB HBB
          have k0 := KC.out.c0
          have k1 := KC.out.c1
          go_wp2_with fail
          go_meet
          exact ⟨HTC.out, KC.out, HSCs.out, HIC.out, HBC.out⟩
        · have e7 : (c7 == 0) = false := by simpa using h7
          clear HX8
          go_wp2_with fail
          go_meet
          exact ⟨HT8.out, K8.out, HS8s.out, HI8.out, HB8.out⟩
      case rest =>
        obtain ⟨HTD, KD, HSDs, HID, HBD⟩ := hcut
        rename World => wD
        clear K8 HT8 HS8s HI8 HB8 HX8
        have l0 : ∀ w', Below wD.heap.size wD w' → w'.cell? ⟨tb, 0, none⟩ = some (.int .i64 kk) := fun w' h => (HTD.out.1.step h).1
        have l1 : ∀ w', Below wD.heap.size wD w' → w'.cell? ⟨tb, 1, none⟩ = some (.int .i64 x) := fun w' h => (HTD.out.1.step h).2.1
        have l2 : ∀ w', Below wD.heap.size wD w' → w'.cell? ⟨tb, 2, none⟩ = some (.slice ta tn tc) := fun w' h => (HTD.out.1.step h).2.2
        have o0 : ∀ w', Below wD.heap.size wD w' → w'.cell? ⟨w.heap.size, 0, none⟩ = some (.int .i64 (len : Int)) := fun w' h => (KD.out.step h).c0
        have o1 : ∀ w', Below wD.heap.size wD w' → w'.cell? ⟨w.heap.size, 1, none⟩ = some (.slice a len cap) := fun w' h => (KD.out.step h).c1
        have HRO : Hid (∀ w', Below wD.heap.size wD w' → Row w' a len f) := fun w' h => (KD.out.step h).row
        have HFD : Hid (∀ w', Below wD.heap.size wD w' → Hid (Held w' w.heap.size len a len cap f) ∧ Hid (SSt w4.heap.size w' (idls (nat f) len) sb si sa sn sc 0) ∧ Hid (im = (idls (nat f) len).length ∧ FRow w' w6.heap.size w7.heap.size ia im (fun k => (nth (idls (nat f) len) k : Nat))) ∧ Hid (Below w.heap.size w w')) := fun w' h => ⟨KD.out.step h, HSDs.out.step h, ⟨HID.out.1, HID.out.2.step h⟩, Below.then HBD.out h⟩
        go_upto_region 16 with fail
        go_cut [96] from 17 (fun v wx => v = .bool false ∧ Hid (Held wx w.heap.size len a len cap f) ∧ Hid (SSt w4.heap.size wx (idls (nat f) len) sb si sa sn sc 0) ∧ Hid (im = (idls (nat f) len).length ∧ FRow wx w6.heap.size w7.heap.size ia im (fun k => (nth (idls (nat f) len) k : Nat))) ∧ Hid (Below w.heap.size w wx))
        case first =>
          cases ok
          · go_quiet (fail)
            go_wp2_with fail
            go_meet
            exact ⟨rfl, HFD.out _ (by first | exact Below.refl _ _ | exact (Below.refl _ _).drew | exact below_drewN (Below.refl _ _) _)⟩
          · obtain ⟨T, hT1, hT2⟩ := HTD.out.2.2 rfl rfl
            have HTR : Hid (∀ w', Below wD.heap.size wD w' → TRep 0 w' T (.agg #[.int .i64 kk, .int .i64 x, .slice ta tn tc])) := fun w' h => TRep.low (Nat.zero_le _) _ _ (TRep.step h _ _ hT1)
            have HOK : Hid (Ok (lsx (nat f)) T) := ok_lsx HOR.out hT2
            have HST : Hid (st T = pw len - 1) := hT2.st
            have HIR : Hid (∀ p, p < 10 → lsx (nat f) p p = false) := fun p _ => by simp [lsx]
            clear hT1 hT2 HTD
            refine wp_region_held_drew (S := (fun w' => Below wD.heap.size wD w')) (by kernel_rfl) ((Below.refl _ _).drew) (fun hHeld => ?_)
            refine wpAnyH_take (i := 0) (oi := { dst := some 80, op := Go.Op.move (Go.Operand.tmp 10), type := 27, pos := "memory.go:203", after := #[], guard := none }) (v := ?_) rfl (by kernel_rfl) (by kernel_rfl) (by kernel_rfl) (fun _ _ _ h => h) (Or.inl ⟨by rfl, ?hy⟩) (by assumption) ?_
            case hy => (intro w9 hSw; (try dsimp only at hSw); go_simp; try with_reducible rfl)
            try simp only [Act.put, List.setIfInBounds_toArray, List.set_cons_zero, List.set_cons_succ]
            refine wpAnyH_take (i := 1) (oi := { dst := some 81, op := Go.Op.binOp Go.BinOp.eql 27 (Go.Operand.tmp 80) (Go.Operand.const (Go.Value.int Go.IntKind.i64 0)) 27, type := 4, pos := "memory.go:203", after := #[{ on := 0, ground := Go.Ground.data }], guard := none }) (v := .bool true) rfl (by kernel_rfl) (by kernel_rfl) (by kernel_rfl) (fun _ _ _ h => h) (Or.inl ⟨by rfl, ?hy⟩) (by assumption) ?_
            case hy => (intro w9 hSw; (try dsimp only at hSw); go_simp <;> (first | with_reducible rfl | (simp; omega) | omega))
            try simp only [Act.put, List.setIfInBounds_toArray, List.set_cons_zero, List.set_cons_succ]
            refine wpAnyH_take (i := 2) (oi := { dst := some 82, op := Go.Op.move (Go.Operand.tmp 81), type := 4, pos := "memory.go:203", after := #[{ on := 1, ground := Go.Ground.data }], guard := none }) (v := ?_) rfl (by kernel_rfl) (by kernel_rfl) (by kernel_rfl) (fun _ _ _ h => h) (Or.inl ⟨by rfl, ?hy⟩) (by assumption) ?_
            case hy => (intro w9 hSw; (try dsimp only at hSw); go_simp; try with_reducible rfl)
            try simp only [Act.put, List.setIfInBounds_toArray, List.set_cons_zero, List.set_cons_succ]
            refine wpAnyH_take (i := 3) (oi := { dst := some 83, op := Go.Op.move (Go.Operand.tmp 9), type := 4, pos := "memory.go:203", after := #[{ on := 2, ground := Go.Ground.guard }], guard := some (2, true) }) (v := ?_) rfl (by kernel_rfl) (by kernel_rfl) (by kernel_rfl) (fun _ _ _ h => h) (Or.inl ⟨by rfl, ?hy⟩) (by assumption) ?_
            case hy => (intro w9 hSw; (try dsimp only at hSw); go_simp; try with_reducible rfl)
            try simp only [Act.put, List.setIfInBounds_toArray, List.set_cons_zero, List.set_cons_succ]
            refine wpAnyH_take (i := 4) (oi := { dst := some 84, op := Go.Op.pick (Go.Operand.tmp 82) (Go.Operand.tmp 83) (Go.Operand.const (Go.Value.bool false)), type := 4, pos := "memory.go:203", after := #[{ on := 2, ground := Go.Ground.data }, { on := 3, ground := Go.Ground.data }], guard := none }) (v := ?_) rfl (by kernel_rfl) (by kernel_rfl) (by kernel_rfl) (fun _ _ _ h => h) (Or.inl ⟨by rfl, ?hy⟩) (by assumption) ?_
            case hy => (intro w9 hSw; (try dsimp only at hSw); go_simp; try with_reducible rfl)
            try simp only [Act.put, List.setIfInBounds_toArray, List.set_cons_zero, List.set_cons_succ]
            refine wpAnyH_take (i := 5) (oi := { dst := some 85, op := Go.Op.move (Go.Operand.tmp 84), type := 4, pos := "memory.go:203", after := #[{ on := 4, ground := Go.Ground.data }, { on := 2, ground := Go.Ground.chain }], guard := none }) (v := ?_) rfl (by kernel_rfl) (by kernel_rfl) (by kernel_rfl) (fun _ _ _ h => h) (Or.inl ⟨by rfl, ?hy⟩) (by assumption) ?_
            case hy => (intro w9 hSw; (try dsimp only at hSw); go_simp; try with_reducible rfl)
            try simp only [Act.put, List.setIfInBounds_toArray, List.set_cons_zero, List.set_cons_succ]
            refine wpAnyH_take (i := 6) (oi := { dst := some 86, op := Go.Op.load 32 (Go.Operand.tmp 8), type := 32, pos := "memory.go:203", after := #[{ on := 5, ground := Go.Ground.guard }], guard := some (5, true) }) (v := ?_) rfl (by kernel_rfl) (by kernel_rfl) (by kernel_rfl) (fun _ _ _ h => h) (Or.inl ⟨by rfl, ?hy⟩) (by assumption) ?_
            case hy => (intro w9 hSw; (try dsimp only at hSw); go_simp; try with_reducible rfl)
            try simp only [Act.put, List.setIfInBounds_toArray, List.set_cons_zero, List.set_cons_succ]
            refine wpAnyH_ready (rs := [7]) (by kernel_rfl) (by simp) ?_
            refine AllReadyH.cons (o := { dst := some 87, op := Go.Op.call { callee := Go.Callee.value (Go.Operand.func 14), args := #[Go.Operand.tmp 86], argTypes := #[32] }, type := 27, pos := "memory.go:203", after := #[{ on := 6, ground := Go.Ground.data }, { on := 5, ground := Go.Ground.chain }, { on := 5, ground := Go.Ground.guard }], guard := some (5, true) }) rfl (fun K hK => ?_) AllReadyH.nil
            go_simp
            refine (checkTerm_ok (L := lsx (nat f)) (n := len) T _ _ (HTR.out _ (by assumption)) HOK.out h10 HST.out).mono ?_
            rintro e wt1 ⟨rfl, hb1⟩
            refine hK.out _ _ ?_ (fun hHeld => ?_)
            · first | assumption | exact Below.then (by assumption) (by assumption)
            clear hK K
            try simp only [Act.put, List.setIfInBounds_toArray, List.set_cons_zero, List.set_cons_succ]
            refine wpAnyH_take (i := 8) (oi := { dst := some 88, op := Go.Op.binOp Go.BinOp.neq 27 (Go.Operand.tmp 87) (Go.Operand.const (Go.Value.int Go.IntKind.i64 0)) 27, type := 4, pos := "memory.go:203", after := #[{ on := 7, ground := Go.Ground.data }, { on := 5, ground := Go.Ground.guard }], guard := some (5, true) }) (v := .bool false) rfl (by kernel_rfl) (by kernel_rfl) (by kernel_rfl) (fun _ _ _ h => h) (Or.inl ⟨by rfl, ?hy⟩) (by assumption) ?_
            case hy => (intro w9 hSw; (try dsimp only at hSw); go_simp <;> (first | with_reducible rfl | (simp; omega) | omega))
            try simp only [Act.put, List.setIfInBounds_toArray, List.set_cons_zero, List.set_cons_succ]
            refine wpAnyH_take (i := 9) (oi := { dst := some 89, op := Go.Op.move (Go.Operand.tmp 88), type := 4, pos := "memory.go:203", after := #[{ on := 8, ground := Go.Ground.data }, { on := 7, ground := Go.Ground.chain }, { on := 5, ground := Go.Ground.guard }], guard := some (5, true) }) (v := ?_) rfl (by kernel_rfl) (by kernel_rfl) (by kernel_rfl) (fun _ _ _ h => h) (Or.inl ⟨by rfl, ?hy⟩) (by assumption) ?_
            case hy => (intro w9 hSw; (try dsimp only at hSw); go_simp; try with_reducible rfl)
            try simp only [Act.put, List.setIfInBounds_toArray, List.set_cons_zero, List.set_cons_succ]
            refine wpAnyH_take (i := 10) (oi := { dst := some 90, op := Go.Op.load 32 (Go.Operand.tmp 8), type := 32, pos := "memory.go:203", after := #[{ on := 9, ground := Go.Ground.guard }], guard := some (9, false) }) (v := ?_) rfl (by kernel_rfl) (by kernel_rfl) (by kernel_rfl) (fun _ _ _ h => h) (Or.inl ⟨by rfl, ?hy⟩) (by assumption) ?_
            case hy => (intro w9 hSw; (try dsimp only at hSw); go_simp; try with_reducible rfl)
            try simp only [Act.put, List.setIfInBounds_toArray, List.set_cons_zero, List.set_cons_succ]
            refine wpAnyH_take (i := 12) (oi := { dst := some 92, op := Go.Op.load 24 (Go.Operand.tmp 2), type := 24, pos := "memory.go:203", after := #[{ on := 9, ground := Go.Ground.guard }], guard := some (9, false) }) (v := ?_) rfl (by kernel_rfl) (by kernel_rfl) (by kernel_rfl) (fun _ _ _ h => h) (Or.inl ⟨by rfl, ?hy⟩) (by assumption) ?_
            case hy => (intro w9 hSw; (try dsimp only at hSw); go_simp; try with_reducible rfl)
            try simp only [Act.put, List.setIfInBounds_toArray, List.set_cons_zero, List.set_cons_succ]
            refine wpAnyH_ready (rs := [11]) (by kernel_rfl) (by simp) ?_
            refine AllReadyH.cons (o := { dst := some 91, op := Go.Op.call { callee := Go.Callee.value (Go.Operand.func 16), args := #[Go.Operand.tmp 90], argTypes := #[32] }, type := 24, pos := "memory.go:203", after := #[{ on := 10, ground := Go.Ground.data }, { on := 9, ground := Go.Ground.chain }, { on := 9, ground := Go.Ground.guard }], guard := some (9, false) }) rfl (fun K hK => ?_) AllReadyH.nil
            go_simp
            refine (buildTerm_ok (lsx (nat f)) HIR.out len T _ _ (HTR.out _ (by assumption)) HOK.out h10 HST.out).mono ?_
            rintro e wt5 ⟨⟨ar, cp, rfl, hrow⟩, hb1⟩
            have HRWT : Hid (Row wt5 ar len f) := row_lss HRG.out HSM.out HOR.out hrow
            clear hrow
            refine hK.out _ _ ?_ (fun hHeld => ?_)
            · first | assumption | exact Below.then (by assumption) (by assumption)
            clear hK K
            try simp only [Act.put, List.setIfInBounds_toArray, List.set_cons_zero, List.set_cons_succ]
            refine wpAnyH_ready (rs := [13]) (by kernel_rfl) (by simp) ?_
            refine AllReadyH.cons (o := { dst := some 93, op := Go.Op.call { callee := Go.Callee.value (Go.Operand.func 15), args := #[Go.Operand.tmp 91, Go.Operand.tmp 92], argTypes := #[24, 24] }, type := 4, pos := "memory.go:203", after := #[{ on := 11, ground := Go.Ground.data }, { on := 12, ground := Go.Ground.data }, { on := 11, ground := Go.Ground.chain }, { on := 9, ground := Go.Ground.guard }], guard := some (9, false) }) rfl (fun K hK => ?_) AllReadyH.nil
            go_simp
            refine (sameOrder_any len len ar a len cp len cap f f _ hm hm HRWT.out (HRO.out _ (by assumption))).mono ?_
            rintro e wt6 ⟨⟨q, rfl, hq⟩, hb1⟩
            obtain rfl : q = true := hq.2 ⟨rfl, rfl, fun _ _ => rfl⟩
            clear hq
            refine hK.out _ _ ?_ (fun hHeld => ?_)
            · first | assumption | exact Below.then (by assumption) (by assumption)
            clear hK K
            try simp only [Act.put, List.setIfInBounds_toArray, List.set_cons_zero, List.set_cons_succ]
            refine wpAnyH_take (i := 14) (oi := { dst := some 94, op := Go.Op.unOp Go.UnOp.not 4 (Go.Operand.tmp 93), type := 4, pos := "memory.go:203", after := #[{ on := 13, ground := Go.Ground.data }, { on := 9, ground := Go.Ground.guard }], guard := some (9, false) }) (v := ?_) rfl (by kernel_rfl) (by kernel_rfl) (by kernel_rfl) (fun _ _ _ h => h) (Or.inl ⟨by rfl, ?hy⟩) (by assumption) ?_
            case hy => (intro w9 hSw; (try dsimp only at hSw); go_simp; try with_reducible rfl)
            try simp only [Act.put, List.setIfInBounds_toArray, List.set_cons_zero, List.set_cons_succ]
            refine wpAnyH_take (i := 15) (oi := { dst := some 95, op := Go.Op.pick (Go.Operand.tmp 89) (Go.Operand.const (Go.Value.bool true)) (Go.Operand.tmp 94), type := 4, pos := "memory.go:203", after := #[{ on := 9, ground := Go.Ground.data }, { on := 14, ground := Go.Ground.data }, { on := 5, ground := Go.Ground.guard }], guard := some (5, true) }) (v := ?_) rfl (by kernel_rfl) (by kernel_rfl) (by kernel_rfl) (fun _ _ _ h => h) (Or.inl ⟨by rfl, ?hy⟩) (by assumption) ?_
            case hy => (intro w9 hSw; (try dsimp only at hSw); go_simp; try with_reducible rfl)
            try simp only [Act.put, List.setIfInBounds_toArray, List.set_cons_zero, List.set_cons_succ]
            refine wpAnyH_take (i := 16) (oi := { dst := some 96, op := Go.Op.pick (Go.Operand.tmp 85) (Go.Operand.tmp 95) (Go.Operand.const (Go.Value.bool false)), type := 4, pos := "memory.go:203", after := #[{ on := 5, ground := Go.Ground.data }, { on := 15, ground := Go.Ground.data }], guard := none }) (v := ?_) rfl (by kernel_rfl) (by kernel_rfl) (by kernel_rfl) (fun _ _ _ h => h) (Or.inl ⟨by rfl, ?hy⟩) (by assumption) ?_
            case hy => (intro w9 hSw; (try dsimp only at hSw); go_simp; try with_reducible rfl)
            try simp only [Act.put, List.setIfInBounds_toArray, List.set_cons_zero, List.set_cons_succ]
            refine wpAnyH_done (by kernel_rfl) ?_ _
            try simp only [Act.put, List.setIfInBounds_toArray, List.set_cons_zero, List.set_cons_succ]
            go_wp2_with fail
            go_meet
            exact ⟨rfl, HFD.out _ (by first | assumption | exact Below.then (by assumption) (by assumption))⟩
        case rest =>
          obtain ⟨rfl, KE, HSE, HIE, HBE⟩ := hcut
          rename World => wE
          clear l0 l1 l2 o0 o1 HRO HFD HTD KD HSDs HID HBD
          obtain ⟨hsn, hsr, _⟩ := HSE.out.2.2 rfl
          obtain ⟨him, hiF⟩ := HIE.out
          have HLN : Hid ((idls (nat f) len).length ≤ 1024) := idls_len (nat f) len h10
          have HSL : Hid (sn = (idls (nat f) len).length) := hsn
          have HSN : Hid (sn ≤ 1024) := hsn ▸ HLN.out
          have HIN : Hid (im ≤ 1024) := him ▸ HLN.out
          have HEQ : Hid (sn = im) := hsn.trans him.symm
          have HIF : Hid (FRow wE w6.heap.size w7.heap.size ia im (fun k => (nth (idls (nat f) len) k : Nat))) := hiF
          have HSR : Hid (Row wE sa sn (fun k => (nth (idls (nat f) len) k : Nat))) := hsr
          obtain ⟨s0, s1⟩ := HSE.out.1
          clear hsn hsr him hiF HIE
          go_wp2_with fail
          refine (same_any sa ia sn sc im ic (fun k => (nth (idls (nat f) len) k : Nat)) (fun k => (nth (idls (nat f) len) k : Nat)) _ (by have := HSN.out; unfold maxLen; omega) (by have := HIN.out; unfold maxLen; omega) HSR.out HIF.out.row).mono ?_
          rintro e wF ⟨⟨q, rfl, hq⟩, hbF⟩
          obtain rfl : q = true := hq.2 ⟨HEQ.out, fun _ _ => rfl⟩
          have KF : Hid (Held wF w.heap.size len a len cap f) := KE.out.step hbF
          have HSF : Hid (SSt w4.heap.size wF (idls (nat f) len) sb si sa sn sc 0) := HSE.out.step hbF
          have HIG : Hid (FRow wF w6.heap.size w7.heap.size ia im (fun k => (nth (idls (nat f) len) k : Nat))) := HIF.out.step hbF
          have HBF : Hid (Below w.heap.size w wF) := Below.then HBE.out hbF
          clear hq hbF s0 s1 KE HSE HIF HBE HSR
          go_wp2_with fail
          refine (spoil_any w6.heap.size w7.heap.size ia im ic _ _ (by have := HIN.out; omega) HIG.out).mono ?_
          rintro e wG ⟨rfl, hoG, hbG⟩
          have HS16 : Hid (w1.heap.size ≤ w6.heap.size) := Nat.le_trans HS2.out (Nat.le_trans HS3.out (Nat.le_trans HS4.out HS6'.out))
          have KG : Hid (Held wG w.heap.size len a len cap f) := held_off K1.out HS16.out KF.out hoG
          have HSG : Hid (SSt w4.heap.size wG (idls (nat f) len) sb si sa sn sc 0) := SSt.old HS6.out (Nat.le_refl _) HSF.out hoG
          have HBG : Hid (Below w.heap.size w wG) := hbG w (Nat.le_trans HB1.out.size HS16.out) HBF.out
          clear hoG hbG KF HSF HIG HBF
          have s0 : ∀ w', Below wG.heap.size wG w' → w'.cell? ⟨sb, 0, none⟩ = some (.int .i64 si) := fun w' h => (HSG.out.1.step h).1
          have s1 : ∀ w', Below wG.heap.size wG w' → w'.cell? ⟨sb, 1, none⟩ = some (.slice sa sn sc) := fun w' h => (HSG.out.1.step h).2
          have o0 : ∀ w', Below wG.heap.size wG w' → w'.cell? ⟨w.heap.size, 0, none⟩ = some (.int .i64 (len : Int)) := fun w' h => (KG.out.step h).c0
          have o1 : ∀ w', Below wG.heap.size wG w' → w'.cell? ⟨w.heap.size, 1, none⟩ = some (.slice a len cap) := fun w' h => (KG.out.step h).c1
          have HSRG : Hid (∀ w', Below wG.heap.size wG w' → Row w' sa sn (fun k => (nth (idls (nat f) len) k : Nat))) := fun w' h => ((HSG.out.step h).2.2 rfl).2.1
          have HROG : Hid (∀ w', Below wG.heap.size wG w' → Row w' a len (fun k => (nat f k : Nat))) := fun w' h => HRG.out.row (KG.out.step h).row
          have HFG : Hid (∀ w', Below wG.heap.size wG w' → Below w.heap.size w w') := fun w' h => Below.then HBG.out h
          go_upto_region 23 with fail
          refine wp_region_held_drew (S := (fun w' => Below wG.heap.size wG w')) (by kernel_rfl) ((Below.refl _ _).drew) (fun hHeld => ?_)
          refine wpAnyH_take (i := 0) (oi := { dst := some 113, op := Go.Op.fieldAddr 36 (Go.Operand.tmp 11) 1, type := 0, pos := "memory.go:213", after := #[], guard := none }) (v := ?_) rfl (by kernel_rfl) (by kernel_rfl) (by kernel_rfl) (fun _ _ _ h => h) (Or.inl ⟨by rfl, ?hy⟩) (by assumption) ?_
          case hy => (intro w9 hSw; (try dsimp only at hSw); go_simp; try with_reducible rfl)
          try simp only [Act.put, List.setIfInBounds_toArray, List.set_cons_zero, List.set_cons_succ]
          refine wpAnyH_take (i := 1) (oi := { dst := some 114, op := Go.Op.load 22 (Go.Operand.tmp 113), type := 22, pos := "memory.go:213", after := #[{ on := 0, ground := Go.Ground.data }], guard := none }) (v := ?_) rfl (by kernel_rfl) (by kernel_rfl) (by kernel_rfl) (fun _ _ _ h => h) (Or.inl ⟨by rfl, ?hy⟩) (by assumption) ?_
          case hy => (intro w9 hSw; (try dsimp only at hSw); go_simp; try with_reducible rfl)
          try simp only [Act.put, List.setIfInBounds_toArray, List.set_cons_zero, List.set_cons_succ]
          refine wpAnyH_take (i := 2) (oi := { dst := some 115, op := Go.Op.load 24 (Go.Operand.tmp 2), type := 24, pos := "memory.go:213", after := #[], guard := none }) (v := ?_) rfl (by kernel_rfl) (by kernel_rfl) (by kernel_rfl) (fun _ _ _ h => h) (Or.inl ⟨by rfl, ?hy⟩) (by assumption) ?_
          case hy => (intro w9 hSw; (try dsimp only at hSw); go_simp; try with_reducible rfl)
          try simp only [Act.put, List.setIfInBounds_toArray, List.set_cons_zero, List.set_cons_succ]
          refine wpAnyH_ready (rs := [3]) (by kernel_rfl) (by simp) ?_
          refine AllReadyH.cons (o := { dst := some 116, op := Go.Op.call { callee := Go.Callee.value (Go.Operand.func 18), args := #[Go.Operand.tmp 115], argTypes := #[24] }, type := 22, pos := "memory.go:213", after := #[{ on := 2, ground := Go.Ground.data }], guard := none }) rfl (fun K hK => ?_) AllReadyH.nil
          go_simp
          refine (refIdeals_any a len cap (nat f) _ h10 HU.out (HROG.out _ (by assumption))).mono ?_
          rintro e wt5 ⟨⟨v, rfl, hv⟩, hb1⟩
          obtain ⟨ra, rc, rfl, hrr⟩ := hv
          refine hK.out _ _ ?_ (fun hHeld => ?_)
          · first | assumption | exact Below.then (by assumption) (by assumption)
          clear hK K
          try simp only [Act.put, List.setIfInBounds_toArray, List.set_cons_zero, List.set_cons_succ]
          refine wpAnyH_ready (rs := [4]) (by kernel_rfl) (by simp) ?_
          refine AllReadyH.cons (o := { dst := some 117, op := Go.Op.call { callee := Go.Callee.value (Go.Operand.func 17), args := #[Go.Operand.tmp 114, Go.Operand.tmp 116], argTypes := #[22, 22] }, type := 4, pos := "memory.go:213", after := #[{ on := 1, ground := Go.Ground.data }, { on := 3, ground := Go.Ground.data }, { on := 3, ground := Go.Ground.chain }], guard := none }) rfl (fun K hK => ?_) AllReadyH.nil
          go_simp
          refine (same_any sa ra sn sc (idls (nat f) len).length rc (fun k => (nth (idls (nat f) len) k : Nat)) (fun k => (nth (idls (nat f) len) k : Nat)) _ (by have := HSN.out; unfold maxLen; omega) (by have := HLN.out; unfold maxLen; omega) (HSRG.out _ (by assumption)) hrr).mono ?_
          rintro e wt6 ⟨⟨q, rfl, hq⟩, hb1⟩
          obtain rfl : q = true := hq.2 ⟨HSL.out, fun _ _ => rfl⟩
          clear hq
          refine hK.out _ _ ?_ (fun hHeld => ?_)
          · first | assumption | exact Below.then (by assumption) (by assumption)
          clear hK K
          try simp only [Act.put, List.setIfInBounds_toArray, List.set_cons_zero, List.set_cons_succ]
          refine wpAnyH_take (i := 5) (oi := { dst := some 4, op := Go.Op.assign (Go.Operand.tmp 117), type := 4, pos := "memory.go:213", after := #[{ on := 4, ground := Go.Ground.data }, { on := 4, ground := Go.Ground.chain }, { on := 0, ground := Go.Ground.phase }, { on := 1, ground := Go.Ground.phase }, { on := 2, ground := Go.Ground.phase }, { on := 3, ground := Go.Ground.phase }, { on := 4, ground := Go.Ground.phase }], guard := none }) (v := ?_) rfl (by kernel_rfl) (by kernel_rfl) (by kernel_rfl) (fun _ _ _ h => h) (Or.inl ⟨by rfl, ?hy⟩) (by assumption) ?_
          case hy => (intro w9 hSw; (try dsimp only at hSw); go_simp; try with_reducible rfl)
          try simp only [Act.put, List.setIfInBounds_toArray, List.set_cons_zero, List.set_cons_succ]
          refine wpAnyH_done (by kernel_rfl) ?_ _
          try simp only [Act.put, List.setIfInBounds_toArray, List.set_cons_zero, List.set_cons_succ]
          go_wp2_with fail
          go_ret
          exact ⟨rfl, HFG.out _ (by first | assumption | exact Below.then (by assumption) (by assumption))⟩
    · have h7 : c7 ≠ 0 := HC7.out h0
      have e7 : (c7 == 0) = false := by simpa using h7
      have e0 : (c == 0) = false := by simpa using h0
      have e0' : (c != 0) = true := by simpa using h0
      have ee : (c == c) = true := by simp
      clear HX8 HJ8 HC7
      go_wp2_with fail
      go_quiet (fail)
      go_wp2_with fail
      go_ret
      exact ⟨by simp, below_drewN HB8.out _⟩
end Go.Proofs.YtglkjeidkjkdaaaDoor
