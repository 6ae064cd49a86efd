/-
  For every two orders and numbers that are handed in, hasselaw.MoebiusTimes returns true, and writes nothing that was there. Condition: the library's table lies in its variable.
-/
import Derived.Test.YtgdbldfbhiaepabDoorProM
import Derived.Test.YtgdbldfbhiaepabDoorTimes
import Derived.Test.YtgdbldfbhiaepabDoorMBeg
import Derived.Test.YtgdbldfbhiaepabDoorChoose
import Derived.Deep.RegionHeld3
namespace Go.Proofs.YtgdbldfbhiaepabDoor
open Go.RowKit Go.Maps

theorem MuPost.ok {n : Int} {len : Nat} {f : Nat → Int} {x y : Nat} {e : Ending} (h : MuPost n len f x y e) (hc : MuCk n len f x y 0) : e = .returned (.tuple #[.int .i64 (wz (muO (nat f) len x y)), .int .i64 0]) := by
  obtain ⟨c, v, hc1, rfl, hv⟩ := h
  obtain rfl := hc1.unique hc
  rcases hv with ⟨h, _⟩ | ⟨_, x', y', hx, hy, _, _, rfl⟩
  · exact absurd rfl h
  · obtain rfl : x = x' := by omega
    obtain rfl : y = y' := by omega
    rfl
theorem pnt_in {x n : Nat} (h : x < n) : pnt (x : Int) (n : Int) = true := by unfold pnt; simp; omega
theorem nat_cast (g : Nat → Nat) : nat (fun k => ((g k : Nat) : Int)) = g := by funext k; simp [nat]
theorem chk_of {n : Nat} {g : Nat → Nat} (h10 : n ≤ 10) (hg : ∀ k, k < n → g k < pw n) (ho : Ord n g) : Chk (n : Int) n (fun k => ((g k : Nat) : Int)) 0 :=
  .inr ⟨n, rfl, h10, .inr ⟨rfl, .inr ⟨fun k hk => ⟨Int.natCast_nonneg _, Int.ofNat_lt.2 (hg k hk)⟩, .inr ⟨rfl, by rw [nat_cast]; exact ho⟩⟩⟩⟩

set_option maxHeartbeats 4000000 in
set_option maxRecDepth 100000 in
theorem moebiusTimes_any (n1 : Int) (a1 : Option Addr) (l1 c1 : Nat) (f1 : Nat → Int) (n2 : Int) (a2 : Option Addr) (l2 c2 : Nat) (f2 : Nat → Int) (A B : Int) (w : World) (hl1 : l1 ≤ maxLen) (hl2 : l2 ≤ maxLen) (a1' : -9223372036854775808 ≤ A) (a2' : A ≤ 9223372036854775807) (b1' : -9223372036854775808 ≤ B) (b2' : B ≤ 9223372036854775807) (hr1 : Row w a1 l1 f1) (hr2 : Row w a2 l2 f2) (hT : Tab w) :
    Calls Tryd.prog 4 #[.agg #[.int .i64 n1, .slice a1 l1 c1], .agg #[.int .i64 n2, .slice a2 l2 c2], .int .i64 A, .int .i64 B] w fun e w' => e = .returned (.bool true) ∧ Below w.heap.size w w' := by
  obtain ⟨W0, HW0⟩ : ∃ W0, Hid (W0 = (w.alloc (.cells #[.int .i64 n1, .slice a1 l1 c1] 24)).alloc (.cells #[.int .i64 n2, .slice a2 l2 c2] 24)) := ⟨_, rfl⟩
  have hb0 : Below w.heap.size w W0 := by rw [HW0.out]; exact ((Below.refl _ _).alloc (Nat.le_refl _) _).alloc (by simp) _
  have HB0 : Hid (Below w.heap.size w W0) := hb0
  have K1 : Held W0 w.heap.size n1 a1 l1 c1 f1 := by rw [HW0.out]; exact (Held.box hr1).step ((Below.refl _ _).alloc (Nat.le_refl _) _)
  have K2 : Held W0 (w.heap.size + 1) n2 a2 l2 c2 f2 := by
    rw [HW0.out]
    have := Held.box (n := n2) (cap := c2) (hr2.below ((Below.refl _ _).alloc (Nat.le_refl _) (.cells #[.int .i64 n1, .slice a1 l1 c1] 24)))
    rw [World.size_alloc] at this
    exact this
  have HT0 : Hid (Tab W0) := hT.step hb0
  have HL1 : Hid (l1 ≤ maxLen) := hl1
  have HL2 : Hid (l2 ≤ maxLen) := hl2
  have HKK : Hid (∀ wx, Below W0.heap.size W0 wx → Held wx w.heap.size n1 a1 l1 c1 f1 ∧ Held wx (w.heap.size + 1) n2 a2 l2 c2 f2) := fun wx h => ⟨K1.step h, K2.step h⟩
  clear hb0 hr1 hr2 hT hl1 hl2 K1 K2
  go_enter Tryd.func4, Tryd.ntmps4
  go_wp2_with fail
  rw [← HW0.out]
  refine (moebiusBegun_any _).mono ?_
  rintro e w1 ⟨rfl, hb1⟩
  have HB1 : Hid (Below W0.heap.size W0 w1) := hb1
  clear hb1 HW0
  have hk := HKK.out _ HB1.out
  have k0 := hk.1.c0
  have k1 := hk.1.c1
  have k2 := hk.2.c0
  have k3 := hk.2.c1
  go_wp2_with fail
  refine (times_any n1 a1 l1 c1 f1 n2 a2 l2 c2 f2 w1 HL1.out HL2.out hk.1.row hk.2.row (HT0.out.step HB1.out)).mono ?_
  rintro e w2 ⟨⟨c, x, hc, rfl, hx⟩, hb2⟩
  have HB2 : Hid (Below W0.heap.size W0 w2) := Below.then HB1.out hb2
  have HC : Hid (TChk n1 l1 f1 n2 l2 f2 c) := hc
  clear hb2 hc hk k0 k1 k2 k3 HB1
  obtain ⟨NN, HNN⟩ : ∃ NN, Hid (l1 * l2 = NN) := ⟨_, rfl⟩
  rw [HNN.out] at hx
  rcases hx with ⟨h0, rfl⟩ | ⟨rfl, at', capt, rfl, hrt⟩
  · have hne : (c != 0) = true := by simpa using h0
    have HF : Hid (Below w.heap.size w (w2.alloc (.cells #[.int .i64 0, .slice none 0 0] 24))) := (Below.then HB0.out HB2.out).alloc (Below.then HB0.out HB2.out).size _
    unfold noOrder
    go_wp2_with fail
    go_ret
    exact ⟨rfl, HF.out⟩
  · have HRT : Hid (Row w2 at' NN (fun k => (tmq (nat f1) (nat f2) l2 k : Nat))) := hrt
    clear hrt
    obtain ⟨W3, HW3⟩ : ∃ W3, Hid (W3 = w2.alloc (.cells #[.int .i64 (NN : Nat), .slice at' NN capt] 24)) := ⟨_, rfl⟩
    have hb3 : Below w2.heap.size w2 W3 := by rw [HW3.out]; exact (Below.refl _ _).alloc (Nat.le_refl _) _
    have HK3 : Held W3 w2.heap.size (NN : Nat) at' NN capt (fun k => (tmq (nat f1) (nat f2) l2 k : Nat)) := by rw [HW3.out]; exact Held.box HRT.out
    have HB03 : Hid (Below W0.heap.size W0 W3) := Below.then HB2.out hb3
    have HBW : Hid (Below w.heap.size w W3) := Below.then HB0.out HB03.out
    clear hb3 HRT HB2
    by_cases hN0 : NN = 0
    · subst hN0
      go_wp2_with fail
      go_ret
      rw [← Int.natCast_zero, ← HW3.out]
      exact ⟨rfl, HBW.out⟩
    · have hpos : 0 < NN := by omega
      have hz : (((NN : Nat) : Int) == 0) = false := by simp; omega
      have hck : Chk2 n1 l1 f1 n2 l2 f2 0 ∧ l1 * l2 ≤ 10 := by
        rcases HC.out with ⟨h, _⟩ | ⟨h, ⟨h1, _⟩ | ⟨_, h1⟩⟩
        · exact absurd rfl h
        · cases h1
        · exact ⟨h, h1⟩
      obtain ⟨hc1, hc2⟩ : Chk n1 l1 f1 0 ∧ Chk n2 l2 f2 0 := by
        rcases hck.1 with ⟨h, _⟩ | ⟨h1, h2⟩
        · exact absurd rfl h
        · exact ⟨h1, h2⟩
      obtain ⟨rfl, t1, hg1, ho1⟩ := hc1.good
      obtain ⟨rfl, t2, hg2, ho2⟩ := hc2.good
      have hN10 := hck.2
      have s1 := hg1.small
      have s2 := hg2.small
      have HORD : Hid (Ord NN (tmq (nat f1) (nat f2) l2)) := by rw [← HNN.out]; exact tm_ord hN10 s1 s2 t1 t2 ho1 ho2
      have HSM : Hid (∀ k, k < NN → tmq (nat f1) (nat f2) l2 k < pw NN) := fun k hk => by rw [← HNN.out] at hk ⊢; exact tm_lt hN10 s1 s2 t1 hk
      have HMU : Hid (∀ a b, a < NN → b < NN → a / l2 < l1 ∧ b / l2 < l1 ∧ a % l2 < l2 ∧ b % l2 < l2 ∧ wrap64 (wz (muO (nat f1) l1 (a / l2) (b / l2)) * wz (muO (nat f2) l2 (a % l2) (b % l2))) = wz (muO (tmq (nat f1) (nat f2) l2) NN a b)) := fun a b ha hb => by
        rw [← HNN.out] at ha hb ⊢
        have hp := pos_of ha
        refine ⟨div_lt ha, div_lt hb, Nat.mod_lt _ hp, Nat.mod_lt _ hp, ?_⟩
        rw [wz_mul, mu_tm hN10 s1 s2 t1 t2 ho1 ho2 ha hb]
      have hNle : NN ≤ 10 := by rw [← HNN.out]; exact hN10
      have HCT : Hid (Chk (NN : Int) NN (fun k => ((tmq (nat f1) (nat f2) l2 k : Nat) : Int)) 0) := chk_of hNle HSM.out HORD.out
      have HC1 : Hid (Chk (l1 : Int) l1 f1 0) := hc1
      have HC2 : Hid (Chk (l2 : Int) l2 f2 0) := hc2
      have HL3 : Hid (NN ≤ maxLen) := by show NN ≤ maxLen; unfold maxLen; omega
      have HB3 : Hid (Below W3.heap.size W3 W3) := Below.refl _ _
      have hc0 : ∀ wx, Below W3.heap.size W3 wx → wx.cell? ⟨w2.heap.size, 0, none⟩ = some (.int .i64 (NN : Nat)) := fun wx h => (HK3.step h).c0
      have HCC : Hid (∀ wx, Below W3.heap.size W3 wx → wx.cell? ⟨w2.heap.size, 0, none⟩ = some (.int .i64 (NN : Nat)) ∧ wx.cell? ⟨w2.heap.size, 1, none⟩ = some (.slice at' NN capt)) := fun wx h => ⟨(HK3.step h).c0, (HK3.step h).c1⟩
      have HMT : Hid (∀ (x y : Nat) wx, x < NN → y < NN → Below W3.heap.size W3 wx → Calls Tryd.prog 6 #[.agg #[.int .i64 (NN : Nat), .slice at' NN capt], .int .i64 (x : Nat), .int .i64 (y : Nat)] wx fun e w' => e = .returned (.tuple #[.int .i64 (wz (muO (tmq (nat f1) (nat f2) l2) NN x y)), .int .i64 0]) ∧ Below wx.heap.size wx w') := fun x y wx hx hy h =>
        (muX_any NN at' NN capt _ x y wx HL3.out (HK3.step h).row).mono fun e w' ⟨he, hb⟩ => ⟨by
          have := he.ok (.inr ⟨HCT.out, .inr ⟨rfl, pnt_in hx, pnt_in hy⟩⟩)
          rw [nat_cast] at this; exact this, hb⟩
      have HD1 : Hid (∀ wx, Below W3.heap.size W3 wx → Held wx w.heap.size (l1 : Nat) a1 l1 c1 f1 ∧ Held wx (w.heap.size + 1) (l2 : Nat) a2 l2 c2 f2) := fun wx h => HKK.out wx (Below.then HB03.out h)
      clear hck hc1 hc2 hg1 hg2 ho1 ho2 hN10 s1 s2 HK3 HKK HC
      have j0 := hc0 W3 HB3.out
      rw [HW3.out] at j0
      go_wp2_with fail
      rw [← HW3.out]
      clear j0
      refine wp_region_held_drew (S := (fun w' => Below W3.heap.size W3 w')) (by kernel_rfl) (HB3.out.drew) (fun hHeld => ?_)
      refine wpAnyH_take (i := 0) (oi := { dst := some 31, op := Go.Op.move (Go.Operand.tmp 2), type := 3, pos := "quotient.go:286", after := #[], guard := none }) (v := ?_) rfl (by kernel_rfl) (by kernel_rfl) (by kernel_rfl) (fun _ _ _ h => h) (Or.inl ⟨by rfl, ?hy⟩) (by assumption) ?_
      case hy => (intro w9 hSw; (try dsimp only at hSw); go_simp; try with_reducible rfl)
      try simp only [Act.put, List.setIfInBounds_toArray, List.set_cons_zero, List.set_cons_succ]
      refine wpAnyH_take (i := 1) (oi := { dst := some 32, op := Go.Op.fieldAddr 24 (Go.Operand.tmp 9) 0, type := 0, pos := "quotient.go:286", after := #[], guard := none }) (v := ?_) rfl (by kernel_rfl) (by kernel_rfl) (by kernel_rfl) (fun _ _ _ h => h) (Or.inl ⟨by rfl, ?hy⟩) (by assumption) ?_
      case hy => (intro w9 hSw; (try dsimp only at hSw); go_simp; try with_reducible rfl)
      try simp only [Act.put, List.setIfInBounds_toArray, List.set_cons_zero, List.set_cons_succ]
      refine wpAnyH_take (i := 2) (oi := { dst := some 33, op := Go.Op.load 3 (Go.Operand.tmp 32), type := 3, pos := "quotient.go:286", after := #[{ on := 1, ground := Go.Ground.data }], guard := none }) (v := ?_) rfl (by kernel_rfl) (by kernel_rfl) (by kernel_rfl) (fun _ _ _ h => h) (Or.inl ⟨by rfl, ?hy⟩) (by assumption) ?_
      case hy => (intro w9 hSw; (try dsimp only at hSw); go_simp; try with_reducible rfl)
      try simp only [Act.put, List.setIfInBounds_toArray, List.set_cons_zero, List.set_cons_succ]
      refine wpAnyH_take (i := 4) (oi := { dst := some 35, op := Go.Op.move (Go.Operand.tmp 3), type := 3, pos := "quotient.go:286", after := #[], guard := none }) (v := ?_) rfl (by kernel_rfl) (by kernel_rfl) (by kernel_rfl) (fun _ _ _ h => h) (Or.inl ⟨by rfl, ?hy⟩) (by assumption) ?_
      case hy => (intro w9 hSw; (try dsimp only at hSw); go_simp; try with_reducible rfl)
      try simp only [Act.put, List.setIfInBounds_toArray, List.set_cons_zero, List.set_cons_succ]
      refine wpAnyH_take (i := 5) (oi := { dst := some 36, op := Go.Op.fieldAddr 24 (Go.Operand.tmp 9) 0, type := 0, pos := "quotient.go:286", after := #[], guard := none }) (v := ?_) rfl (by kernel_rfl) (by kernel_rfl) (by kernel_rfl) (fun _ _ _ h => h) (Or.inl ⟨by rfl, ?hy⟩) (by assumption) ?_
      case hy => (intro w9 hSw; (try dsimp only at hSw); go_simp; try with_reducible rfl)
      try simp only [Act.put, List.setIfInBounds_toArray, List.set_cons_zero, List.set_cons_succ]
      refine wpAnyH_take (i := 6) (oi := { dst := some 37, op := Go.Op.load 3 (Go.Operand.tmp 36), type := 3, pos := "quotient.go:286", after := #[{ on := 5, ground := Go.Ground.data }], guard := none }) (v := ?_) rfl (by kernel_rfl) (by kernel_rfl) (by kernel_rfl) (fun _ _ _ h => h) (Or.inl ⟨by rfl, ?hy⟩) (by assumption) ?_
      case hy => (intro w9 hSw; (try dsimp only at hSw); go_simp; try with_reducible rfl)
      try simp only [Act.put, List.setIfInBounds_toArray, List.set_cons_zero, List.set_cons_succ]
      refine wpAnyH_ready (rs := [3]) (by kernel_rfl) (by simp) ?_
      refine AllReadyH.cons (o := { dst := some 34, op := Go.Op.call { callee := Go.Callee.value (Go.Operand.func 12), args := #[Go.Operand.tmp 31, Go.Operand.tmp 33], argTypes := #[3, 3] }, type := 3, pos := "quotient.go:286", after := #[{ on := 0, ground := Go.Ground.data }, { on := 2, ground := Go.Ground.data }], guard := none }) rfl (fun K hK => ?_) AllReadyH.nil
      go_simp
      refine (choose_any A NN _ hpos (by omega) a1' a2').mono ?_
      rintro e w5 ⟨⟨x, hx, rfl⟩, hw1⟩
      subst hw1
      refine hK.out _ _ ?_ (fun hHeld => ?_)
      · first | assumption | exact Below.then (by assumption) (by assumption)
      clear hK K
      try simp only [Act.put, List.setIfInBounds_toArray, List.set_cons_zero, List.set_cons_succ]
      refine wpAnyH_ready (rs := [7]) (by kernel_rfl) (by simp) ?_
      refine AllReadyH.cons (o := { dst := some 38, op := Go.Op.call { callee := Go.Callee.value (Go.Operand.func 12), args := #[Go.Operand.tmp 35, Go.Operand.tmp 37], argTypes := #[3, 3] }, type := 3, pos := "quotient.go:286", after := #[{ on := 4, ground := Go.Ground.data }, { on := 6, ground := Go.Ground.data }, { on := 3, ground := Go.Ground.chain }], guard := none }) rfl (fun K hK => ?_) AllReadyH.nil
      go_simp
      refine (choose_any B NN _ hpos (by omega) b1' b2').mono ?_
      rintro e w5 ⟨⟨y, hy, rfl⟩, hw2⟩
      subst hw2
      refine hK.out _ _ ?_ (fun hHeld => ?_)
      · first | assumption | exact Below.then (by assumption) (by assumption)
      clear hK K
      try simp only [Act.put, List.setIfInBounds_toArray, List.set_cons_zero, List.set_cons_succ]
      refine wpAnyH_take (i := 8) (oi := { dst := some 2, op := Go.Op.assign (Go.Operand.tmp 34), type := 3, pos := "quotient.go:286", after := #[{ on := 3, ground := Go.Ground.data }, { on := 7, ground := Go.Ground.chain }, { on := 0, ground := Go.Ground.phase }, { on := 1, ground := Go.Ground.phase }, { on := 2, ground := Go.Ground.phase }, { on := 3, ground := Go.Ground.phase }, { on := 4, ground := Go.Ground.textOnly Go.Departure.lateStores }, { on := 5, ground := Go.Ground.textOnly Go.Departure.lateStores }, { on := 6, ground := Go.Ground.textOnly Go.Departure.lateStores }, { on := 7, ground := Go.Ground.textOnly Go.Departure.lateStoresUnsure }], guard := none }) (v := ?_) rfl (by kernel_rfl) (by kernel_rfl) (by kernel_rfl) (fun _ _ _ h => h) (Or.inl ⟨by rfl, ?hy⟩) (by assumption) ?_
      case hy => (intro w9 hSw; (try dsimp only at hSw); go_simp; try with_reducible rfl)
      try simp only [Act.put, List.setIfInBounds_toArray, List.set_cons_zero, List.set_cons_succ]
      refine wpAnyH_take (i := 9) (oi := { dst := some 3, op := Go.Op.assign (Go.Operand.tmp 38), type := 3, pos := "quotient.go:286", after := #[{ on := 7, ground := Go.Ground.data }, { on := 8, ground := Go.Ground.chain }, { on := 0, ground := Go.Ground.phase }, { on := 1, ground := Go.Ground.phase }, { on := 2, ground := Go.Ground.phase }, { on := 3, ground := Go.Ground.phase }, { on := 4, ground := Go.Ground.phase }, { on := 5, ground := Go.Ground.phase }, { on := 6, ground := Go.Ground.phase }, { on := 7, ground := Go.Ground.phase }, { on := 8, ground := Go.Ground.phase }], guard := none }) (v := ?_) rfl (by kernel_rfl) (by kernel_rfl) (by kernel_rfl) (fun _ _ _ h => h) (Or.inl ⟨by rfl, ?hy⟩) (by assumption) ?_
      case hy => (intro w9 hSw; (try dsimp only at hSw); go_simp; try with_reducible rfl)
      try simp only [Act.put, List.setIfInBounds_toArray, List.set_cons_zero, List.set_cons_succ]
      refine wpAnyH_done (by kernel_rfl) ?_ _
      try simp only [Act.put, List.setIfInBounds_toArray, List.set_cons_zero, List.set_cons_succ]
      have HB4 : Hid (Below W3.heap.size W3 W3.drew) := (Below.refl _ _).drew
      clear hHeld hc0
      obtain ⟨W4, HW4⟩ : ∃ W4, Hid (W4 = W3.drew) := ⟨_, rfl⟩
      rw [← HW4.out]
      rw [← HW4.out] at HB4
      obtain ⟨hx1, hy1, hx2, hy2, hmul⟩ := HMU.out x y hx hy
      have HML : Hid (wrap64 (wz (muO (nat f1) l1 (x / l2) (y / l2)) * wz (muO (nat f2) l2 (x % l2) (y % l2))) = wz (muO (tmq (nat f1) (nat f2) l2) NN x y)) := hmul
      have HM1 : Hid (∀ wx, Below W3.heap.size W3 wx → Calls Tryd.prog 6 #[.agg #[.int .i64 (l1 : Nat), .slice a1 l1 c1], .int .i64 ((x / l2 : Nat) : Int), .int .i64 ((y / l2 : Nat) : Int)] wx fun e w' => e = .returned (.tuple #[.int .i64 (wz (muO (nat f1) l1 (x / l2) (y / l2))), .int .i64 0]) ∧ Below wx.heap.size wx w') := fun wx h =>
        (muX_any l1 a1 l1 c1 f1 (x / l2 : Nat) (y / l2 : Nat) wx HL1.out (HD1.out wx h).1.row).mono fun e w' ⟨he, hb⟩ => ⟨he.ok (.inr ⟨HC1.out, .inr ⟨rfl, pnt_in hx1, pnt_in hy1⟩⟩), hb⟩
      have HM2 : Hid (∀ wx, Below W3.heap.size W3 wx → Calls Tryd.prog 6 #[.agg #[.int .i64 (l2 : Nat), .slice a2 l2 c2], .int .i64 ((x % l2 : Nat) : Int), .int .i64 ((y % l2 : Nat) : Int)] wx fun e w' => e = .returned (.tuple #[.int .i64 (wz (muO (nat f2) l2 (x % l2) (y % l2))), .int .i64 0]) ∧ Below wx.heap.size wx w') := fun wx h =>
        (muX_any l2 a2 l2 c2 f2 (x % l2 : Nat) (y % l2 : Nat) wx HL2.out (HD1.out wx h).2.row).mono fun e w' ⟨he, hb⟩ => ⟨he.ok (.inr ⟨HC2.out, .inr ⟨rfl, pnt_in hx2, pnt_in hy2⟩⟩), hb⟩
      have hl2p : (l2 : Int) ≠ 0 := by omega
      have HQ : Hid (IntKind.i64.wrap ((x : Int) / (l2 : Int)) = ((x / l2 : Nat) : Int) ∧ IntKind.i64.wrap ((y : Int) / (l2 : Int)) = ((y / l2 : Nat) : Int) ∧ Int.tmod (x : Int) (l2 : Int) = ((x % l2 : Nat) : Int) ∧ Int.tmod (y : Int) (l2 : Int) = ((y % l2 : Nat) : Int)) := by
        have e1 : ((x : Int) / (l2 : Int)) = ((x / l2 : Nat) : Int) := rfl
        have e2 : ((y : Int) / (l2 : Int)) = ((y / l2 : Nat) : Int) := rfl
        refine ⟨?_, ?_, rfl, rfl⟩
        · rw [e1, wrap_i64_small _ (Int.natCast_nonneg _) (Int.lt_of_lt_of_le (Int.ofNat_lt.2 hx1) (by omega))]
        · rw [e2, wrap_i64_small _ (Int.natCast_nonneg _) (Int.lt_of_lt_of_le (Int.ofNat_lt.2 hy1) (by omega))]
      clear hmul HW4 HMU
      have j := HCC.out _ HB4.out
      have j0 := j.1
      have j1 := j.2
      go_wp2_with fail
      refine (HMT.out x y _ hx hy HB4.out).mono ?_
      rintro e w6 ⟨rfl, hb6⟩
      have HB6 : Hid (Below W3.heap.size W3 w6) := Below.then HB4.out hb6
      clear hb6 HB4 j j0 j1 HMT HCC
      obtain ⟨x1, HX1⟩ : ∃ x1, Hid (x / l2 = x1) := ⟨_, rfl⟩
      obtain ⟨y1, HY1⟩ : ∃ y1, Hid (y / l2 = y1) := ⟨_, rfl⟩
      obtain ⟨x2, HX2⟩ : ∃ x2, Hid (x % l2 = x2) := ⟨_, rfl⟩
      obtain ⟨y2, HY2⟩ : ∃ y2, Hid (y % l2 = y2) := ⟨_, rfl⟩
      rw [HX1.out, HY1.out] at HM1
      rw [HX2.out, HY2.out] at HM2
      rw [HX1.out, HY1.out, HX2.out, HY2.out] at HQ HML
      rw [HX1.out] at hx1
      rw [HY1.out] at hy1
      rw [HX2.out] at hx2
      rw [HY2.out] at hy2
      generalize wz (muO (nat f1) l1 x1 y1) = U1 at *
      generalize wz (muO (nat f2) l2 x2 y2) = U2 at *
      generalize wz (muO (tmq (nat f1) (nat f2) l2) NN x y) = U at *
      have q1 := HQ.out.1
      have q2 := HQ.out.2.1
      have hd0 : ∀ wx, Below W3.heap.size W3 wx → wx.cell? ⟨w.heap.size, 0, none⟩ = some (.int .i64 (l1 : Nat)) := fun wx h => (HD1.out wx h).1.c0
      have hd1 : ∀ wx, Below W3.heap.size W3 wx → wx.cell? ⟨w.heap.size, 1, none⟩ = some (.slice a1 l1 c1) := fun wx h => (HD1.out wx h).1.c1
      have hd2 : ∀ wx, Below W3.heap.size W3 wx → wx.cell? ⟨w.heap.size + 1, 0, none⟩ = some (.int .i64 (l2 : Nat)) := fun wx h => (HD1.out wx h).2.c0
      have hd3 : ∀ wx, Below W3.heap.size W3 wx → wx.cell? ⟨w.heap.size + 1, 1, none⟩ = some (.slice a2 l2 c2) := fun wx h => (HD1.out wx h).2.c1
      go_wp2_with fail
      refine wp_region_held_drew (S := (fun w' => Below W3.heap.size W3 w')) (by kernel_rfl) (HB6.out.drew) (fun hHeld => ?_)
      refine wpAnyH_take (i := 0) (oi := { dst := some 47, op := Go.Op.load 24 (Go.Operand.tmp 4), type := 24, pos := "quotient.go:288", after := #[], guard := none }) (v := ?_) rfl (by kernel_rfl) (by kernel_rfl) (by kernel_rfl) (fun _ _ _ h => h) (Or.inl ⟨by rfl, ?hy⟩) (by assumption) ?_
      case hy => (intro w9 hSw; (try dsimp only at hSw); go_simp; try with_reducible rfl)
      try simp only [Act.put, List.setIfInBounds_toArray, List.set_cons_zero, List.set_cons_succ]
      refine wpAnyH_take (i := 1) (oi := { dst := some 48, op := Go.Op.move (Go.Operand.tmp 2), type := 3, pos := "quotient.go:288", after := #[], guard := none }) (v := ?_) rfl (by kernel_rfl) (by kernel_rfl) (by kernel_rfl) (fun _ _ _ h => h) (Or.inl ⟨by rfl, ?hy⟩) (by assumption) ?_
      case hy => (intro w9 hSw; (try dsimp only at hSw); go_simp; try with_reducible rfl)
      try simp only [Act.put, List.setIfInBounds_toArray, List.set_cons_zero, List.set_cons_succ]
      refine wpAnyH_take (i := 2) (oi := { dst := some 49, op := Go.Op.fieldAddr 24 (Go.Operand.tmp 5) 0, type := 0, pos := "quotient.go:288", after := #[], guard := none }) (v := ?_) rfl (by kernel_rfl) (by kernel_rfl) (by kernel_rfl) (fun _ _ _ h => h) (Or.inl ⟨by rfl, ?hy⟩) (by assumption) ?_
      case hy => (intro w9 hSw; (try dsimp only at hSw); go_simp; try with_reducible rfl)
      try simp only [Act.put, List.setIfInBounds_toArray, List.set_cons_zero, List.set_cons_succ]
      refine wpAnyH_take (i := 3) (oi := { dst := some 50, op := Go.Op.load 3 (Go.Operand.tmp 49), type := 3, pos := "quotient.go:288", after := #[{ on := 2, ground := Go.Ground.data }], guard := none }) (v := ?_) rfl (by kernel_rfl) (by kernel_rfl) (by kernel_rfl) (fun _ _ _ h => h) (Or.inl ⟨by rfl, ?hy⟩) (by assumption) ?_
      case hy => (intro w9 hSw; (try dsimp only at hSw); go_simp; try with_reducible rfl)
      try simp only [Act.put, List.setIfInBounds_toArray, List.set_cons_zero, List.set_cons_succ]
      refine wpAnyH_take (i := 4) (oi := { dst := some 51, op := Go.Op.binOp Go.BinOp.quo 3 (Go.Operand.tmp 48) (Go.Operand.tmp 50) 3, type := 3, pos := "quotient.go:288", after := #[{ on := 1, ground := Go.Ground.data }, { on := 3, ground := Go.Ground.data }], guard := none }) (v := .int .i64 ((x1 : Nat) : Int)) rfl (by kernel_rfl) (by kernel_rfl) (by kernel_rfl) (fun _ _ _ h => h) (Or.inl ⟨by rfl, ?hy⟩) (by assumption) ?_
      case hy => (intro w9 hSw; (try dsimp only at hSw); go_simp <;> (first | with_reducible rfl | (simp; omega) | omega))
      try simp only [Act.put, List.setIfInBounds_toArray, List.set_cons_zero, List.set_cons_succ]
      refine wpAnyH_take (i := 5) (oi := { dst := some 52, op := Go.Op.move (Go.Operand.tmp 3), type := 3, pos := "quotient.go:288", after := #[], guard := none }) (v := ?_) rfl (by kernel_rfl) (by kernel_rfl) (by kernel_rfl) (fun _ _ _ h => h) (Or.inl ⟨by rfl, ?hy⟩) (by assumption) ?_
      case hy => (intro w9 hSw; (try dsimp only at hSw); go_simp; try with_reducible rfl)
      try simp only [Act.put, List.setIfInBounds_toArray, List.set_cons_zero, List.set_cons_succ]
      refine wpAnyH_take (i := 6) (oi := { dst := some 53, op := Go.Op.fieldAddr 24 (Go.Operand.tmp 5) 0, type := 0, pos := "quotient.go:288", after := #[], guard := none }) (v := ?_) rfl (by kernel_rfl) (by kernel_rfl) (by kernel_rfl) (fun _ _ _ h => h) (Or.inl ⟨by rfl, ?hy⟩) (by assumption) ?_
      case hy => (intro w9 hSw; (try dsimp only at hSw); go_simp; try with_reducible rfl)
      try simp only [Act.put, List.setIfInBounds_toArray, List.set_cons_zero, List.set_cons_succ]
      refine wpAnyH_take (i := 7) (oi := { dst := some 54, op := Go.Op.load 3 (Go.Operand.tmp 53), type := 3, pos := "quotient.go:288", after := #[{ on := 6, ground := Go.Ground.data }], guard := none }) (v := ?_) rfl (by kernel_rfl) (by kernel_rfl) (by kernel_rfl) (fun _ _ _ h => h) (Or.inl ⟨by rfl, ?hy⟩) (by assumption) ?_
      case hy => (intro w9 hSw; (try dsimp only at hSw); go_simp; try with_reducible rfl)
      try simp only [Act.put, List.setIfInBounds_toArray, List.set_cons_zero, List.set_cons_succ]
      refine wpAnyH_take (i := 8) (oi := { dst := some 55, op := Go.Op.binOp Go.BinOp.quo 3 (Go.Operand.tmp 52) (Go.Operand.tmp 54) 3, type := 3, pos := "quotient.go:288", after := #[{ on := 5, ground := Go.Ground.data }, { on := 7, ground := Go.Ground.data }], guard := none }) (v := .int .i64 ((y1 : Nat) : Int)) rfl (by kernel_rfl) (by kernel_rfl) (by kernel_rfl) (fun _ _ _ h => h) (Or.inl ⟨by rfl, ?hy⟩) (by assumption) ?_
      case hy => (intro w9 hSw; (try dsimp only at hSw); go_simp <;> (first | with_reducible rfl | (simp; omega) | omega))
      try simp only [Act.put, List.setIfInBounds_toArray, List.set_cons_zero, List.set_cons_succ]
      refine wpAnyH_ready (rs := [9]) (by kernel_rfl) (by simp) ?_
      refine AllReadyH.cons (o := { dst := some 56, op := Go.Op.call { callee := Go.Callee.value (Go.Operand.func 6), args := #[Go.Operand.tmp 47, Go.Operand.tmp 51, Go.Operand.tmp 55], argTypes := #[24, 3, 3] }, type := 27, pos := "quotient.go:288", after := #[{ on := 0, ground := Go.Ground.data }, { on := 4, ground := Go.Ground.data }, { on := 8, ground := Go.Ground.data }], guard := none }) rfl (fun K hK => ?_) AllReadyH.nil
      go_simp
      refine (HM1.out _ (by assumption)).mono ?_
      rintro e w8 ⟨rfl, hb8⟩
      refine hK.out _ _ ?_ (fun hHeld => ?_)
      · first | assumption | exact Below.then (by assumption) (by assumption)
      clear hK K
      try simp only [Act.put, List.setIfInBounds_toArray, List.set_cons_zero, List.set_cons_succ]
      refine wpAnyH_take (i := 10) (oi := { dst := some 46, op := Go.Op.move (Go.Operand.tmp 56), type := 27, pos := "quotient.go:288", after := #[{ on := 9, ground := Go.Ground.data }], guard := none }) (v := ?_) rfl (by kernel_rfl) (by kernel_rfl) (by kernel_rfl) (fun _ _ _ h => h) (Or.inl ⟨by rfl, ?hy⟩) (by assumption) ?_
      case hy => (intro w9 hSw; (try dsimp only at hSw); go_simp; try with_reducible rfl)
      try simp only [Act.put, List.setIfInBounds_toArray, List.set_cons_zero, List.set_cons_succ]
      refine wpAnyH_take (i := 11) (oi := { dst := some 57, op := Go.Op.extract (Go.Operand.tmp 46) 0, type := 3, pos := "quotient.go:288", after := #[{ on := 10, ground := Go.Ground.data }], guard := none }) (v := ?_) rfl (by kernel_rfl) (by kernel_rfl) (by kernel_rfl) (fun _ _ _ h => h) (Or.inl ⟨by rfl, ?hy⟩) (by assumption) ?_
      case hy => (intro w9 hSw; (try dsimp only at hSw); go_simp; try with_reducible rfl)
      try simp only [Act.put, List.setIfInBounds_toArray, List.set_cons_zero, List.set_cons_succ]
      refine wpAnyH_take (i := 12) (oi := { dst := some 58, op := Go.Op.extract (Go.Operand.tmp 46) 1, type := 26, pos := "quotient.go:288", after := #[{ on := 10, ground := Go.Ground.data }, { on := 13, ground := Go.Ground.gcOnly Go.Departure.lateStores }], guard := none }) (v := ?_) rfl (by kernel_rfl) (by kernel_rfl) (by kernel_rfl) (fun _ _ _ h => h) (Or.inl ⟨by rfl, ?hy⟩) (by assumption) ?_
      case hy => (intro w9 hSw; (try dsimp only at hSw); go_simp; try with_reducible rfl)
      try simp only [Act.put, List.setIfInBounds_toArray, List.set_cons_zero, List.set_cons_succ]
      refine wpAnyH_take (i := 13) (oi := { dst := some 12, op := Go.Op.assign (Go.Operand.tmp 57), type := 3, pos := "quotient.go:288", after := #[{ on := 11, ground := Go.Ground.data }, { on := 9, ground := Go.Ground.chain }, { on := 0, ground := Go.Ground.phase }, { on := 1, ground := Go.Ground.phase }, { on := 2, ground := Go.Ground.phase }, { on := 3, ground := Go.Ground.phase }, { on := 4, ground := Go.Ground.phase }, { on := 5, ground := Go.Ground.phase }, { on := 6, ground := Go.Ground.phase }, { on := 7, ground := Go.Ground.phase }, { on := 8, ground := Go.Ground.phase }, { on := 9, ground := Go.Ground.phase }, { on := 10, ground := Go.Ground.phase }, { on := 11, ground := Go.Ground.phase }, { on := 12, ground := Go.Ground.textOnly Go.Departure.lateStores }], guard := none }) (v := ?_) rfl (by kernel_rfl) (by kernel_rfl) (by kernel_rfl) (fun _ _ _ h => h) (Or.inl ⟨by rfl, ?hy⟩) (by assumption) ?_
      case hy => (intro w9 hSw; (try dsimp only at hSw); go_simp; try with_reducible rfl)
      try simp only [Act.put, List.setIfInBounds_toArray, List.set_cons_zero, List.set_cons_succ]
      refine wpAnyH_take (i := 14) (oi := { dst := some 13, op := Go.Op.assign (Go.Operand.tmp 58), type := 26, pos := "quotient.go:288", after := #[{ on := 12, ground := Go.Ground.data }, { on := 13, ground := Go.Ground.chain }, { on := 0, ground := Go.Ground.phase }, { on := 1, ground := Go.Ground.phase }, { on := 2, ground := Go.Ground.phase }, { on := 3, ground := Go.Ground.phase }, { on := 4, ground := Go.Ground.phase }, { on := 5, ground := Go.Ground.phase }, { on := 6, ground := Go.Ground.phase }, { on := 7, ground := Go.Ground.phase }, { on := 8, ground := Go.Ground.phase }, { on := 9, ground := Go.Ground.phase }, { on := 10, ground := Go.Ground.phase }, { on := 11, ground := Go.Ground.phase }, { on := 12, ground := Go.Ground.phase }, { on := 13, ground := Go.Ground.phase }], guard := none }) (v := ?_) rfl (by kernel_rfl) (by kernel_rfl) (by kernel_rfl) (fun _ _ _ h => h) (Or.inl ⟨by rfl, ?hy⟩) (by assumption) ?_
      case hy => (intro w9 hSw; (try dsimp only at hSw); go_simp; try with_reducible rfl)
      try simp only [Act.put, List.setIfInBounds_toArray, List.set_cons_zero, List.set_cons_succ]
      refine wpAnyH_done (by kernel_rfl) ?_ _
      try simp only [Act.put, List.setIfInBounds_toArray, List.set_cons_zero, List.set_cons_succ]
      have HB8 : Hid (Below W3.heap.size W3 w8) := hHeld
      have q3 := HQ.out.2.2.1
      have q4 := HQ.out.2.2.2
      clear hHeld hb8 HB6 q1 q2
      go_wp2_with fail
      refine wp_region_held_drew (S := (fun w' => Below W3.heap.size W3 w')) (by kernel_rfl) (HB8.out.drew) (fun hHeld => ?_)
      refine wpAnyH_take (i := 0) (oi := { dst := some 60, op := Go.Op.load 24 (Go.Operand.tmp 5), type := 24, pos := "quotient.go:289", after := #[], guard := none }) (v := ?_) rfl (by kernel_rfl) (by kernel_rfl) (by kernel_rfl) (fun _ _ _ h => h) (Or.inl ⟨by rfl, ?hy⟩) (by assumption) ?_
      case hy => (intro w9 hSw; (try dsimp only at hSw); go_simp; try with_reducible rfl)
      try simp only [Act.put, List.setIfInBounds_toArray, List.set_cons_zero, List.set_cons_succ]
      refine wpAnyH_take (i := 1) (oi := { dst := some 61, op := Go.Op.move (Go.Operand.tmp 2), type := 3, pos := "quotient.go:289", after := #[], guard := none }) (v := ?_) rfl (by kernel_rfl) (by kernel_rfl) (by kernel_rfl) (fun _ _ _ h => h) (Or.inl ⟨by rfl, ?hy⟩) (by assumption) ?_
      case hy => (intro w9 hSw; (try dsimp only at hSw); go_simp; try with_reducible rfl)
      try simp only [Act.put, List.setIfInBounds_toArray, List.set_cons_zero, List.set_cons_succ]
      refine wpAnyH_take (i := 2) (oi := { dst := some 62, op := Go.Op.fieldAddr 24 (Go.Operand.tmp 5) 0, type := 0, pos := "quotient.go:289", after := #[], guard := none }) (v := ?_) rfl (by kernel_rfl) (by kernel_rfl) (by kernel_rfl) (fun _ _ _ h => h) (Or.inl ⟨by rfl, ?hy⟩) (by assumption) ?_
      case hy => (intro w9 hSw; (try dsimp only at hSw); go_simp; try with_reducible rfl)
      try simp only [Act.put, List.setIfInBounds_toArray, List.set_cons_zero, List.set_cons_succ]
      refine wpAnyH_take (i := 3) (oi := { dst := some 63, op := Go.Op.load 3 (Go.Operand.tmp 62), type := 3, pos := "quotient.go:289", after := #[{ on := 2, ground := Go.Ground.data }], guard := none }) (v := ?_) rfl (by kernel_rfl) (by kernel_rfl) (by kernel_rfl) (fun _ _ _ h => h) (Or.inl ⟨by rfl, ?hy⟩) (by assumption) ?_
      case hy => (intro w9 hSw; (try dsimp only at hSw); go_simp; try with_reducible rfl)
      try simp only [Act.put, List.setIfInBounds_toArray, List.set_cons_zero, List.set_cons_succ]
      refine wpAnyH_take (i := 4) (oi := { dst := some 64, op := Go.Op.binOp Go.BinOp.rem 3 (Go.Operand.tmp 61) (Go.Operand.tmp 63) 3, type := 3, pos := "quotient.go:289", after := #[{ on := 1, ground := Go.Ground.data }, { on := 3, ground := Go.Ground.data }], guard := none }) (v := .int .i64 ((x2 : Nat) : Int)) rfl (by kernel_rfl) (by kernel_rfl) (by kernel_rfl) (fun _ _ _ h => h) (Or.inl ⟨by rfl, ?hy⟩) (by assumption) ?_
      case hy => (intro w9 hSw; (try dsimp only at hSw); go_simp <;> (first | with_reducible rfl | (simp; omega) | omega))
      try simp only [Act.put, List.setIfInBounds_toArray, List.set_cons_zero, List.set_cons_succ]
      refine wpAnyH_take (i := 5) (oi := { dst := some 65, op := Go.Op.move (Go.Operand.tmp 3), type := 3, pos := "quotient.go:289", after := #[], guard := none }) (v := ?_) rfl (by kernel_rfl) (by kernel_rfl) (by kernel_rfl) (fun _ _ _ h => h) (Or.inl ⟨by rfl, ?hy⟩) (by assumption) ?_
      case hy => (intro w9 hSw; (try dsimp only at hSw); go_simp; try with_reducible rfl)
      try simp only [Act.put, List.setIfInBounds_toArray, List.set_cons_zero, List.set_cons_succ]
      refine wpAnyH_take (i := 6) (oi := { dst := some 66, op := Go.Op.fieldAddr 24 (Go.Operand.tmp 5) 0, type := 0, pos := "quotient.go:289", after := #[], guard := none }) (v := ?_) rfl (by kernel_rfl) (by kernel_rfl) (by kernel_rfl) (fun _ _ _ h => h) (Or.inl ⟨by rfl, ?hy⟩) (by assumption) ?_
      case hy => (intro w9 hSw; (try dsimp only at hSw); go_simp; try with_reducible rfl)
      try simp only [Act.put, List.setIfInBounds_toArray, List.set_cons_zero, List.set_cons_succ]
      refine wpAnyH_take (i := 7) (oi := { dst := some 67, op := Go.Op.load 3 (Go.Operand.tmp 66), type := 3, pos := "quotient.go:289", after := #[{ on := 6, ground := Go.Ground.data }], guard := none }) (v := ?_) rfl (by kernel_rfl) (by kernel_rfl) (by kernel_rfl) (fun _ _ _ h => h) (Or.inl ⟨by rfl, ?hy⟩) (by assumption) ?_
      case hy => (intro w9 hSw; (try dsimp only at hSw); go_simp; try with_reducible rfl)
      try simp only [Act.put, List.setIfInBounds_toArray, List.set_cons_zero, List.set_cons_succ]
      refine wpAnyH_take (i := 8) (oi := { dst := some 68, op := Go.Op.binOp Go.BinOp.rem 3 (Go.Operand.tmp 65) (Go.Operand.tmp 67) 3, type := 3, pos := "quotient.go:289", after := #[{ on := 5, ground := Go.Ground.data }, { on := 7, ground := Go.Ground.data }], guard := none }) (v := .int .i64 ((y2 : Nat) : Int)) rfl (by kernel_rfl) (by kernel_rfl) (by kernel_rfl) (fun _ _ _ h => h) (Or.inl ⟨by rfl, ?hy⟩) (by assumption) ?_
      case hy => (intro w9 hSw; (try dsimp only at hSw); go_simp <;> (first | with_reducible rfl | (simp; omega) | omega))
      try simp only [Act.put, List.setIfInBounds_toArray, List.set_cons_zero, List.set_cons_succ]
      refine wpAnyH_ready (rs := [9]) (by kernel_rfl) (by simp) ?_
      refine AllReadyH.cons (o := { dst := some 69, op := Go.Op.call { callee := Go.Callee.value (Go.Operand.func 6), args := #[Go.Operand.tmp 60, Go.Operand.tmp 64, Go.Operand.tmp 68], argTypes := #[24, 3, 3] }, type := 27, pos := "quotient.go:289", after := #[{ on := 0, ground := Go.Ground.data }, { on := 4, ground := Go.Ground.data }, { on := 8, ground := Go.Ground.data }], guard := none }) rfl (fun K hK => ?_) AllReadyH.nil
      go_simp
      refine (HM2.out _ (by assumption)).mono ?_
      rintro e w9 ⟨rfl, hb9⟩
      refine hK.out _ _ ?_ (fun hHeld => ?_)
      · first | assumption | exact Below.then (by assumption) (by assumption)
      clear hK K
      try simp only [Act.put, List.setIfInBounds_toArray, List.set_cons_zero, List.set_cons_succ]
      refine wpAnyH_take (i := 10) (oi := { dst := some 59, op := Go.Op.move (Go.Operand.tmp 69), type := 27, pos := "quotient.go:289", after := #[{ on := 9, ground := Go.Ground.data }], guard := none }) (v := ?_) rfl (by kernel_rfl) (by kernel_rfl) (by kernel_rfl) (fun _ _ _ h => h) (Or.inl ⟨by rfl, ?hy⟩) (by assumption) ?_
      case hy => (intro w9 hSw; (try dsimp only at hSw); go_simp; try with_reducible rfl)
      try simp only [Act.put, List.setIfInBounds_toArray, List.set_cons_zero, List.set_cons_succ]
      refine wpAnyH_take (i := 11) (oi := { dst := some 70, op := Go.Op.extract (Go.Operand.tmp 59) 0, type := 3, pos := "quotient.go:289", after := #[{ on := 10, ground := Go.Ground.data }], guard := none }) (v := ?_) rfl (by kernel_rfl) (by kernel_rfl) (by kernel_rfl) (fun _ _ _ h => h) (Or.inl ⟨by rfl, ?hy⟩) (by assumption) ?_
      case hy => (intro w9 hSw; (try dsimp only at hSw); go_simp; try with_reducible rfl)
      try simp only [Act.put, List.setIfInBounds_toArray, List.set_cons_zero, List.set_cons_succ]
      refine wpAnyH_take (i := 12) (oi := { dst := some 71, op := Go.Op.extract (Go.Operand.tmp 59) 1, type := 26, pos := "quotient.go:289", after := #[{ on := 10, ground := Go.Ground.data }, { on := 13, ground := Go.Ground.gcOnly Go.Departure.lateStores }], guard := none }) (v := ?_) rfl (by kernel_rfl) (by kernel_rfl) (by kernel_rfl) (fun _ _ _ h => h) (Or.inl ⟨by rfl, ?hy⟩) (by assumption) ?_
      case hy => (intro w9 hSw; (try dsimp only at hSw); go_simp; try with_reducible rfl)
      try simp only [Act.put, List.setIfInBounds_toArray, List.set_cons_zero, List.set_cons_succ]
      refine wpAnyH_take (i := 13) (oi := { dst := some 14, op := Go.Op.assign (Go.Operand.tmp 70), type := 3, pos := "quotient.go:289", after := #[{ on := 11, ground := Go.Ground.data }, { on := 9, ground := Go.Ground.chain }, { on := 0, ground := Go.Ground.phase }, { on := 1, ground := Go.Ground.phase }, { on := 2, ground := Go.Ground.phase }, { on := 3, ground := Go.Ground.phase }, { on := 4, ground := Go.Ground.phase }, { on := 5, ground := Go.Ground.phase }, { on := 6, ground := Go.Ground.phase }, { on := 7, ground := Go.Ground.phase }, { on := 8, ground := Go.Ground.phase }, { on := 9, ground := Go.Ground.phase }, { on := 10, ground := Go.Ground.phase }, { on := 11, ground := Go.Ground.phase }, { on := 12, ground := Go.Ground.textOnly Go.Departure.lateStores }], guard := none }) (v := ?_) rfl (by kernel_rfl) (by kernel_rfl) (by kernel_rfl) (fun _ _ _ h => h) (Or.inl ⟨by rfl, ?hy⟩) (by assumption) ?_
      case hy => (intro w9 hSw; (try dsimp only at hSw); go_simp; try with_reducible rfl)
      try simp only [Act.put, List.setIfInBounds_toArray, List.set_cons_zero, List.set_cons_succ]
      refine wpAnyH_take (i := 14) (oi := { dst := some 15, op := Go.Op.assign (Go.Operand.tmp 71), type := 26, pos := "quotient.go:289", after := #[{ on := 12, ground := Go.Ground.data }, { on := 13, ground := Go.Ground.chain }, { on := 0, ground := Go.Ground.phase }, { on := 1, ground := Go.Ground.phase }, { on := 2, ground := Go.Ground.phase }, { on := 3, ground := Go.Ground.phase }, { on := 4, ground := Go.Ground.phase }, { on := 5, ground := Go.Ground.phase }, { on := 6, ground := Go.Ground.phase }, { on := 7, ground := Go.Ground.phase }, { on := 8, ground := Go.Ground.phase }, { on := 9, ground := Go.Ground.phase }, { on := 10, ground := Go.Ground.phase }, { on := 11, ground := Go.Ground.phase }, { on := 12, ground := Go.Ground.phase }, { on := 13, ground := Go.Ground.phase }], guard := none }) (v := ?_) rfl (by kernel_rfl) (by kernel_rfl) (by kernel_rfl) (fun _ _ _ h => h) (Or.inl ⟨by rfl, ?hy⟩) (by assumption) ?_
      case hy => (intro w9 hSw; (try dsimp only at hSw); go_simp; try with_reducible rfl)
      try simp only [Act.put, List.setIfInBounds_toArray, List.set_cons_zero, List.set_cons_succ]
      refine wpAnyH_done (by kernel_rfl) ?_ _
      try simp only [Act.put, List.setIfInBounds_toArray, List.set_cons_zero, List.set_cons_succ]
      have HB9 : Hid (Below W3.heap.size W3 w9) := hHeld
      clear hHeld hb9 HB8 q3 q4 hd0 hd1 hd2 hd3
      have hml := HML.out
      have huu : (U == U) = true := by simp
      go_wp2_with fail
      go_ret
      exact ⟨rfl, Below.then HBW.out HB9.out⟩
end Go.Proofs.YtgdbldfbhiaepabDoor
