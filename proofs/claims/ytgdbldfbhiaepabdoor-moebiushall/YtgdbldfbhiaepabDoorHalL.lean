/-
  For every order and two numbers that are handed in, hasselaw.MoebiusHall returns true, and writes nothing that was there. Condition: the library's table lies in its variable.
-/
import Derived.Test.YtgdbldfbhiaepabDoorBtwP
import Derived.Test.YtgdbldfbhiaepabDoorMuK
import Derived.Test.YtgdbldfbhiaepabDoorMBeg
import Derived.Test.YtgdbldfbhiaepabDoorLate
import Derived.Deep.RegionHeld3
namespace Go.Proofs.YtgdbldfbhiaepabDoor
open Go.RowKit Go.Maps

theorem fresh_of {w : World} {a : Option Addr} {n B : Nat} {f : Nat → Int} (h : Row w a n f) (hf : ∀ q, a = some q → B ≤ q.block) : Fresh B a n := fun hn => by
  obtain ⟨b, off, e, _⟩ := h 0 hn
  exact ⟨b, off, e, hf _ e⟩
theorem MuPost.cases {n : Int} {len : Nat} {f : Nat → Int} {p q : Int} {e : Ending} (h : MuPost n len f p q e) : (∃ c, c ≠ 0 ∧ e = .returned (.tuple #[.int .i64 0, .int .i64 c])) ∨ (Chk n len f 0 ∧ ∃ x y : Nat, p = x ∧ q = y ∧ x < len ∧ y < len ∧ e = .returned (.tuple #[.int .i64 (wz (muO (nat f) len x y)), .int .i64 0])) := by
  obtain ⟨c, v, hc, rfl, hv⟩ := h
  rcases hv with ⟨h0, rfl⟩ | ⟨rfl, x, y, hx, hy, h1, h2, rfl⟩
  · exact .inl ⟨c, h0, rfl⟩
  · rcases hc with ⟨h, _⟩ | ⟨h, _⟩
    · exact absurd rfl h
    · exact .inr ⟨h, x, y, hx, hy, h1, h2, rfl⟩

set_option maxHeartbeats 4000000 in
set_option maxRecDepth 100000 in
theorem moebiusHall_any (n : Int) (a : Option Addr) (len cap : Nat) (f : Nat → Int) (p q : Int) (w : World) (hl : len ≤ maxLen) (hr : Row w a len f) (hT : Tab w) :
    Calls Tryd.prog 3 #[.agg #[.int .i64 n, .slice a len cap], .int .i64 p, .int .i64 q] w fun e w' => e = .returned (.bool true) ∧ Below w.heap.size w w' := by
  have K0 : Held (w.alloc (.cells #[.int .i64 n, .slice a len cap] 24)) w.heap.size n a len cap f := Held.box hr
  have hb0 : Below w.heap.size w (w.alloc (.cells #[.int .i64 n, .slice a len cap] 24)) := (Below.refl _ _).alloc (Nat.le_refl _) _
  obtain ⟨W0, HW0⟩ : ∃ W0, Hid (W0 = w.alloc (.cells #[.int .i64 n, .slice a len cap] 24)) := ⟨_, rfl⟩
  rw [← HW0.out] at K0 hb0
  have HB0 : Hid (Below w.heap.size w W0) := hb0
  have HT0 : Hid (Tab W0) := hT.step hb0
  have HL : Hid (len ≤ maxLen) := hl
  have HK : Hid (∀ wx, Below W0.heap.size W0 wx → Held wx w.heap.size n a len cap f) := fun wx h => K0.step h
  clear hr hT hl hb0 K0
  go_enter Tryd.func3, Tryd.ntmps3
  go_wp2_with fail
  rw [← HW0.out]
  refine (moebiusBegun_any _).mono ?_
  rintro e w1 ⟨rfl, hb1⟩
  have HB1 : Hid (Below W0.heap.size W0 w1) := hb1
  have hk := HK.out _ hb1
  have k0 := hk.c0
  have k1 := hk.c1
  clear hb1 HW0
  go_wp2_with fail
  refine (muX_any n a len cap f p q w1 HL.out hk.row).mono ?_
  rintro e w2 ⟨he, hb2⟩
  have HB2 : Hid (Below W0.heap.size W0 w2) := Below.then HB1.out hb2
  clear hb2 HB1 hk k0 k1
  rcases he.cases with ⟨c, h0, rfl⟩ | ⟨hck, x, y, rfl, rfl, hx, hy, rfl⟩
  · have hne : (c != 0) = true := by simpa using h0
    clear he
    go_wp2_with fail
    go_ret
    exact ⟨rfl, Below.then HB0.out HB2.out⟩
  · obtain ⟨rfl, h10, hrng, hord⟩ := hck.good
    have HCK : Hid (Chk (len : Int) len f 0) := hck
    have HG : Hid (∀ k, k < len → nat f k < pw len) := hrng.small
    have HG2 : Hid (∀ k, k < len → nat f k < 1024) := hrng.small2 h10
    have HO : Hid (Ord len (nat f)) := hord
    have HRW : Hid (∀ wx, Below W0.heap.size W0 wx → Row wx a len (fun k => (nat f k : Nat))) := fun wx h => hrng.row (HK.out wx h).row
    have hk := HK.out _ HB2.out
    have k0 := hk.c0
    have k1 := hk.c1
    clear he hck hrng hord hk
    cases hv : blw (nat f) x y
    · have HM : Hid (x = y ∧ wz (muO (nat f) len x y) = 1 ∨ x ≠ y ∧ wz (muO (nat f) len x y) = 0) := by
        by_cases e : x = y
        · subst e
          left
          refine ⟨rfl, ?_⟩
          have : muO (nat f) len x x = 1 := mu1_self (rk_ord h10 HG.out HO.out) (tr_ordM h10 HG.out HO.out) hx
          rw [this]; simp [wz]
        · right
          refine ⟨e, ?_⟩
          have : muO (nat f) len x y = 0 := mu1_zero (rk_ord h10 HG.out HO.out) (tr_ordM h10 HG.out HO.out) hx (ht (nat f) len y + 1) y hy (by omega) e hv
          rw [this]; simp [wz]
      go_wp2_with fail
      refine (less_is len a len cap (nat f) x y _ _ hv h10 HG2.out (HRW.out _ HB2.out) (by omega) hy).mono ?_
      rintro e w3 ⟨rfl, hb3⟩
      have HB3 : Hid (Below w.heap.size w w3) := Below.then HB0.out (Below.then HB2.out hb3)
      clear hb3 hv k0 k1 HB2
      rcases HM.out with ⟨e1, e2⟩ | ⟨e1, e2⟩
      · rw [e2]
        have exy : ((x : Int) == (y : Int)) = true := by simp; omega
        clear e1 e2 HM
        go_wp2_with fail
        go_ret
        exact ⟨rfl, HB3.out⟩
      · rw [e2]
        clear e1 e2 HM
        go_wp2_with fail
        go_ret
        exact ⟨rfl, HB3.out⟩
    · have HAL : Hid (eul (prt (nat f) (pts (btw (nat f) len x y) len)) (pts (btw (nat f) len x y) len).length = muO (nat f) len x y) := hall h10 HG.out HO.out hx hy hv
      go_wp2_with fail
      refine (less_is len a len cap (nat f) x y _ _ hv h10 HG2.out (HRW.out _ HB2.out) (by omega) hy).mono ?_
      rintro e W3 ⟨rfl, hb3⟩
      have HB3 : Hid (Below W0.heap.size W0 W3) := Below.then HB2.out hb3
      have HBW : Hid (Below w.heap.size w W3) := Below.then HB0.out HB3.out
      clear hb3 hv k0 k1 HB2
      have hbl : btw (nat f) len x y < pw len := setBy_lt _ _
      have hpl := pw_le len h10
      have HBT : Hid (∀ wx, Below W3.heap.size W3 wx → Calls Tryd.prog 9 #[.agg #[.int .i64 (len : Nat), .slice a len cap], .int .i64 (x : Nat), .int .i64 (y : Nat)] wx fun e w' => e = .returned (.int .i64 (btw (nat f) len x y : Nat)) ∧ Below wx.heap.size wx w') := fun wx h =>
        between_any len a cap (nat f) x y wx h10 HG2.out (HRW.out _ (Below.then HB3.out h)) hx hy
      have HEU : Hid (∀ (aE : Option Addr) (cE : Nat) wx, Row wx aE (pts (btw (nat f) len x y) len).length (fun k => (prt (nat f) (pts (btw (nat f) len x y) len) k : Nat)) → Calls Tryd.prog 10 #[.agg #[.int .i64 ((pts (btw (nat f) len x y) len).length : Nat), .slice aE (pts (btw (nat f) len x y) len).length cE]] wx fun e w' => e = .returned (.tuple #[.int .i64 (wz (muO (nat f) len x y)), .int .i64 0]) ∧ Below wx.heap.size wx w') := fun aE cE wx hrow => by
        have hlen := pts_len (btw (nat f) len x y) len
        refine (euler_any _ aE _ cE _ wx (by unfold maxLen; omega) hrow).mono fun e w' ⟨he, hb⟩ => ⟨?_, hb⟩
        obtain ⟨c, v, hc, rfl, hv⟩ := he
        obtain rfl := hc.unique (chk_of (by omega) (fun k _ => prt_lt _ k) (prt_ord h10 HG.out HO.out))
        rcases hv with ⟨h, _⟩ | ⟨_, rfl⟩
        · exact absurd rfl h
        · rw [nat_cast, HAL.out]
      have HPA : Hid (∀ wx, Below W3.heap.size W3 wx → Calls Tryd.prog 8 #[.agg #[.int .i64 (len : Nat), .slice a len cap], .int .i64 (btw (nat f) len x y : Nat)] wx fun e w' => (∃ (aE : Option Addr) (cE : Nat), e = .returned (.tuple #[.agg #[.int .i64 ((pts (btw (nat f) len x y) len).length : Nat), .slice aE (pts (btw (nat f) len x y) len).length cE], .int .i64 0]) ∧ Row w' aE (pts (btw (nat f) len x y) len).length (fun k => (prt (nat f) (pts (btw (nat f) len x y) len) k : Nat)) ∧ ∀ q, aE = some q → wx.heap.size ≤ q.block) ∧ Below wx.heap.size wx w') := fun wx h =>
        (part_any len a len cap f (btw (nat f) len x y : Nat) wx HL.out (HK.out _ (Below.then HB3.out h)).row (HT0.out.step (Below.then HB3.out h))).mono fun e w' ⟨⟨c, xx, hc, e1, ho, hf⟩, hb⟩ => ⟨by
          obtain rfl := hc.unique (.inr ⟨HCK.out, .inr ⟨rfl, by unfold sts; simp; omega⟩⟩)
          rcases ho with ⟨h, _⟩ | ⟨_, aE, cE, e2, hrow⟩
          · exact absurd rfl h
          · rw [Int.toNat_natCast] at e2 hrow
            subst e2
            exact ⟨aE, cE, e1, hrow, fun q hq => hf _ q _ _ (by rw [hq])⟩, hb⟩
      obtain ⟨P, HP⟩ : ∃ P, Hid ((pts (btw (nat f) len x y) len).length = P) := ⟨_, rfl⟩
      obtain ⟨G, HGG⟩ : ∃ G : Nat → Nat, Hid (prt (nat f) (pts (btw (nat f) len x y) len) = G) := ⟨_, rfl⟩
      obtain ⟨BT, HBTE⟩ : ∃ BT, Hid (btw (nat f) len x y = BT) := ⟨_, rfl⟩
      obtain ⟨U, HU⟩ : ∃ U, Hid (wz (muO (nat f) len x y) = U) := ⟨_, rfl⟩
      rw [HP.out, HGG.out] at HEU HPA
      rw [HU.out] at HEU
      rw [HU.out]
      rw [HBTE.out] at HPA HBT
      have hc0 : ∀ wx, Below W3.heap.size W3 wx → wx.cell? ⟨w.heap.size, 0, none⟩ = some (.int .i64 (len : Nat)) := fun wx h => (HK.out wx (Below.then HB3.out h)).c0
      have hc1 : ∀ wx, Below W3.heap.size W3 wx → wx.cell? ⟨w.heap.size, 1, none⟩ = some (.slice a len cap) := fun wx h => (HK.out wx (Below.then HB3.out h)).c1
      clear hbl hpl HP HGG HBTE HU HAL HRW HG HG2 HO HCK HK
      go_wp2_with fail
      refine wp_lates (S := (fun w' => Below W3.heap.size W3 w')) (late := (fun _ => false)) (by kernel_rfl) ?_
      obtain ⟨D, HD⟩ : ∃ D, Hid (D = W3.drew) := ⟨_, rfl⟩
      rw [← HD.out]
      have HS : Hid (Below W3.heap.size W3 D) := by rw [HD.out]; exact (Below.refl _ _).drew
      have HSD : Hid (Below W3.heap.size W3 D) := HS
      refine lates_take (i := 0) (oi := { dst := some 46, op := Go.Op.load 24 (Go.Operand.tmp 3), type := 24, pos := "quotient.go:272", after := #[], guard := none }) (v := ?_) rfl (by kernel_rfl) (by kernel_rfl) (by kernel_rfl) ⟨rfl, by kernel_rfl⟩ (fun _ _ _ h => h) (Or.inl ⟨by rfl, ?hy⟩) HS.out ?_
      case hy => (intro w9 hSw; (try dsimp only at hSw); go_simp; try with_reducible rfl)
      try simp only [Act.put, List.setIfInBounds_toArray, List.set_cons_zero, List.set_cons_succ]
      refine lates_take (i := 1) (oi := { dst := some 47, op := Go.Op.load 24 (Go.Operand.tmp 3), type := 24, pos := "quotient.go:272", after := #[], guard := none }) (v := ?_) rfl (by kernel_rfl) (by kernel_rfl) (by kernel_rfl) ⟨rfl, by kernel_rfl⟩ (fun _ _ _ h => h) (Or.inl ⟨by rfl, ?hy⟩) HS.out ?_
      case hy => (intro w9 hSw; (try dsimp only at hSw); go_simp; try with_reducible rfl)
      try simp only [Act.put, List.setIfInBounds_toArray, List.set_cons_zero, List.set_cons_succ]
      refine lates_take (i := 2) (oi := { dst := some 48, op := Go.Op.move (Go.Operand.tmp 1), type := 3, pos := "quotient.go:272", after := #[], guard := none }) (v := ?_) rfl (by kernel_rfl) (by kernel_rfl) (by kernel_rfl) ⟨rfl, by kernel_rfl⟩ (fun _ _ _ h => h) (Or.inl ⟨by rfl, ?hy⟩) HS.out ?_
      case hy => (intro w9 hSw; (try dsimp only at hSw); go_simp; try with_reducible rfl)
      try simp only [Act.put, List.setIfInBounds_toArray, List.set_cons_zero, List.set_cons_succ]
      refine lates_take (i := 3) (oi := { dst := some 49, op := Go.Op.move (Go.Operand.tmp 2), type := 3, pos := "quotient.go:272", after := #[], guard := none }) (v := ?_) rfl (by kernel_rfl) (by kernel_rfl) (by kernel_rfl) ⟨rfl, by kernel_rfl⟩ (fun _ _ _ h => h) (Or.inl ⟨by rfl, ?hy⟩) HS.out ?_
      case hy => (intro w9 hSw; (try dsimp only at hSw); go_simp; try with_reducible rfl)
      try simp only [Act.put, List.setIfInBounds_toArray, List.set_cons_zero, List.set_cons_succ]
      refine lates_ready (rs := [4, 9]) (by kernel_rfl) (by simp) ?_
      refine AllLate.cons (o := { dst := some 50, op := Go.Op.call { callee := Go.Callee.value (Go.Operand.func 9), args := #[Go.Operand.tmp 47, Go.Operand.tmp 48, Go.Operand.tmp 49], argTypes := #[24, 3, 3] }, type := 3, pos := "quotient.go:272", after := #[{ on := 1, ground := Go.Ground.data }, { on := 2, ground := Go.Ground.data }, { on := 3, ground := Go.Ground.data }], guard := none }) rfl (fun K hK => ?_) ?_
      · go_simp
        refine (HBT.out _ HS.out).mono ?_
        rintro e w5 ⟨rfl, hb5⟩
        (try have z5 := (ZBox.new D).step hb5)
        refine hK.out _ _ (fun _ => ?_) ?_
        · exact Below.then HS.out hb5
        have HS : Hid (Below W3.heap.size W3 w5) := Below.then HS.out hb5
        have HS5 : Hid (Below W3.heap.size W3 w5) := HS
        clear hK K
        try simp only [Act.put, List.setIfInBounds_toArray, List.set_cons_zero, List.set_cons_succ]
        refine lates_ready (rs := [5, 9]) (by kernel_rfl) (by simp) ?_
        refine AllLate.cons (o := { dst := some 51, op := Go.Op.call { callee := Go.Callee.value (Go.Operand.func 8), args := #[Go.Operand.tmp 46, Go.Operand.tmp 50], argTypes := #[24, 3] }, type := 30, pos := "quotient.go:272", after := #[{ on := 0, ground := Go.Ground.data }, { on := 4, ground := Go.Ground.data }, { on := 4, ground := Go.Ground.chain }], guard := none }) rfl (fun K hK => ?_) ?_
        · go_simp
          refine (HPA.out _ HS.out).mono ?_
          rintro e w6 ⟨⟨a6, cap6, rfl, hr6, hf6⟩, hb6⟩
          (try have z6 := ZBox.step z5 hb6)
          (try have z6 := (ZBox.new w5).step hb6)
          (try obtain ⟨r0, r1, r2, r3⟩ := z6)
          refine hK.out _ _ (fun _ => ?_) ?_
          · exact Below.then HS.out hb6
          have HS : Hid (Below W3.heap.size W3 w6) := Below.then HS.out hb6
          have HS6 : Hid (Below W3.heap.size W3 w6) := HS
          clear hK K
          try simp only [Act.put, List.setIfInBounds_toArray, List.set_cons_zero, List.set_cons_succ]
          refine lates_take (i := 6) (oi := { dst := some 45, op := Go.Op.move (Go.Operand.tmp 51), type := 30, pos := "quotient.go:272", after := #[{ on := 5, ground := Go.Ground.data }], guard := none }) (v := ?_) rfl (by kernel_rfl) (by kernel_rfl) (by kernel_rfl) ⟨rfl, by kernel_rfl⟩ (fun _ _ _ h => h) (Or.inl ⟨by rfl, ?hy⟩) HS.out ?_
          case hy => (intro w9 hSw; (try dsimp only at hSw); go_simp; try with_reducible rfl)
          try simp only [Act.put, List.setIfInBounds_toArray, List.set_cons_zero, List.set_cons_succ]
          refine lates_take (i := 7) (oi := { dst := some 52, op := Go.Op.extract (Go.Operand.tmp 45) 0, type := 24, pos := "quotient.go:272", after := #[{ on := 6, ground := Go.Ground.data }], guard := none }) (v := ?_) rfl (by kernel_rfl) (by kernel_rfl) (by kernel_rfl) ⟨rfl, by kernel_rfl⟩ (fun _ _ _ h => h) (Or.inl ⟨by rfl, ?hy⟩) HS.out ?_
          case hy => (intro w9 hSw; (try dsimp only at hSw); go_simp; try with_reducible rfl)
          try simp only [Act.put, List.setIfInBounds_toArray, List.set_cons_zero, List.set_cons_succ]
          refine lates_take (i := 8) (oi := { dst := some 53, op := Go.Op.extract (Go.Operand.tmp 45) 1, type := 26, pos := "quotient.go:272", after := #[{ on := 6, ground := Go.Ground.data }, { on := 10, ground := Go.Ground.gcOnly Go.Departure.lateStores }], guard := none }) (v := ?_) rfl (by kernel_rfl) (by kernel_rfl) (by kernel_rfl) ⟨rfl, by kernel_rfl⟩ (fun _ _ _ h => h) (Or.inl ⟨by rfl, ?hy⟩) HS.out ?_
          case hy => (intro w9 hSw; (try dsimp only at hSw); go_simp; try with_reducible rfl)
          try simp only [Act.put, List.setIfInBounds_toArray, List.set_cons_zero, List.set_cons_succ]
          refine lates_ready (rs := [9]) (by kernel_rfl) (by simp) ?_
          refine AllLate.cons (o := { dst := some 9, op := Go.Op.alloc 24, type := 0, pos := "quotient.go:272", after := #[], guard := none }) rfl (fun K hK => ?_) ?_
          · go_simp
            skip
            refine hK.out _ _ (fun _ => ?_) ?_
            · exact HS.out.alloc HS.out.size _
            have HS := (show Hid (Below W3.heap.size W3 _) from HS.out.alloc HS.out.size (.cells #[.int .i64 0, .slice none 0 0] 24))
            clear hK K
            try simp only [Act.put, List.setIfInBounds_toArray, List.set_cons_zero, List.set_cons_succ]
            refine lates_ready (rs := [10]) (by kernel_rfl) (by simp) ?_
            refine AllLate.cons (o := { dst := none, op := Go.Op.store 24 (Go.Operand.tmp 9) (Go.Operand.tmp 52), type := 0, pos := "quotient.go:272", after := #[{ on := 9, ground := Go.Ground.data }, { on := 7, ground := Go.Ground.data }, { on := 5, ground := Go.Ground.chain }, { on := 0, ground := Go.Ground.phase }, { on := 1, ground := Go.Ground.phase }, { on := 2, ground := Go.Ground.phase }, { on := 3, ground := Go.Ground.phase }, { on := 4, ground := Go.Ground.phase }, { on := 5, ground := Go.Ground.phase }, { on := 6, ground := Go.Ground.phase }, { on := 7, ground := Go.Ground.phase }, { on := 8, ground := Go.Ground.textOnly Go.Departure.lateStores }, { on := 9, ground := Go.Ground.phase }], guard := none }) rfl (fun K hK => ?_) ?_
            · go_simp
              have HSa : Hid (Below W3.heap.size W3 (w6.alloc (.cells #[.int .i64 (P : Nat), .slice a6 P cap6] 24))) := HS6.out.alloc HS6.out.size _
              have HSb : Hid (Below W3.heap.size W3 ((w6.setCell ⟨w5.heap.size, 0, none⟩ (.int .i64 (P : Nat))).setCell ⟨w5.heap.size, 1, none⟩ (.slice a6 P cap6))) := (HS6.out.setCell (p := ⟨w5.heap.size, 0, none⟩) HS5.out.size _).setCell (p := ⟨w5.heap.size, 1, none⟩) HS5.out.size _
              have HSc : Hid (Below W3.heap.size W3 ((w6.setCell ⟨D.heap.size, 0, none⟩ (.int .i64 (P : Nat))).setCell ⟨D.heap.size, 1, none⟩ (.slice a6 P cap6))) := (HS6.out.setCell (p := ⟨D.heap.size, 0, none⟩) HSD.out.size _).setCell (p := ⟨D.heap.size, 1, none⟩) HSD.out.size _
              refine hK.out _ _ (fun _ => ?_) ?_
              · first | exact HSa.out | exact HSb.out | exact HSc.out

              clear hK K
              try simp only [Act.put, List.setIfInBounds_toArray, List.set_cons_zero, List.set_cons_succ]
              refine lates_take (i := 11) (oi := { dst := some 8, op := Go.Op.assign (Go.Operand.tmp 53), type := 26, pos := "quotient.go:272", after := #[{ on := 8, ground := Go.Ground.data }, { on := 10, ground := Go.Ground.chain }, { on := 0, ground := Go.Ground.phase }, { on := 1, ground := Go.Ground.phase }, { on := 2, ground := Go.Ground.phase }, { on := 3, ground := Go.Ground.phase }, { on := 4, ground := Go.Ground.phase }, { on := 5, ground := Go.Ground.phase }, { on := 6, ground := Go.Ground.phase }, { on := 7, ground := Go.Ground.phase }, { on := 8, ground := Go.Ground.phase }, { on := 9, ground := Go.Ground.phase }, { on := 10, ground := Go.Ground.phase }], guard := none }) (v := ?_) rfl (by kernel_rfl) (by kernel_rfl) (by kernel_rfl) ⟨rfl, by kernel_rfl⟩ (fun _ _ _ h => h) (Or.inl ⟨by rfl, ?hy⟩) (by first | exact HSa.out | exact HSb.out | exact HSc.out) ?_
              case hy => (intro w9 hSw; (try dsimp only at hSw); go_simp; try with_reducible rfl)
              try simp only [Act.put, List.setIfInBounds_toArray, List.set_cons_zero, List.set_cons_succ]
              refine lates_done (by kernel_rfl) ?_ _
              try simp only [Act.put, List.setIfInBounds_toArray, List.set_cons_zero, List.set_cons_succ]
              clear hc0 hc1
              go_wp2_with fail
              refine (HEU.out a6 cap6 _ (by first | exact hr6.below ((Below.refl _ _).alloc (Nat.le_refl _) _) | exact row_set2 hr6 (fresh_of hr6 fun q hq => by have := hf6 q hq; simpa using this) | exact row_set2 hr6 (fresh_of hr6 fun q hq => by have h1 := hf6 q hq; have h2 := hb5.size; simp at h2; omega))).mono ?_
              rintro e w9 ⟨rfl, hb9⟩
              have HF : Hid (Below w.heap.size w w9) := by first | exact Below.then (Below.then HBW.out HSa.out) hb9 | exact Below.then (Below.then HBW.out HSb.out) hb9 | exact Below.then (Below.then HBW.out HSc.out) hb9
              clear hb9
              go_wp2_with fail
              go_ret
              exact ⟨rfl, HF.out⟩
            exact AllLate.nil
          exact AllLate.nil
        refine AllLate.cons (o := { dst := some 9, op := Go.Op.alloc 24, type := 0, pos := "quotient.go:272", after := #[], guard := none }) rfl (fun K hK => ?_) ?_
        · go_simp
          skip
          refine hK.out _ _ (fun _ => ?_) ?_
          · exact HS.out.alloc HS.out.size _
          have HS := (show Hid (Below W3.heap.size W3 _) from HS.out.alloc HS.out.size (.cells #[.int .i64 0, .slice none 0 0] 24))
          clear hK K
          try simp only [Act.put, List.setIfInBounds_toArray, List.set_cons_zero, List.set_cons_succ]
          refine lates_ready (rs := [5]) (by kernel_rfl) (by simp) ?_
          refine AllLate.cons (o := { dst := some 51, op := Go.Op.call { callee := Go.Callee.value (Go.Operand.func 8), args := #[Go.Operand.tmp 46, Go.Operand.tmp 50], argTypes := #[24, 3] }, type := 30, pos := "quotient.go:272", after := #[{ on := 0, ground := Go.Ground.data }, { on := 4, ground := Go.Ground.data }, { on := 4, ground := Go.Ground.chain }], guard := none }) rfl (fun K hK => ?_) ?_
          · go_simp
            refine (HPA.out _ HS.out).mono ?_
            rintro e w6 ⟨⟨a6, cap6, rfl, hr6, hf6⟩, hb6⟩
            (try have z6 := ZBox.step z5 hb6)
            (try have z6 := (ZBox.new w5).step hb6)
            (try obtain ⟨r0, r1, r2, r3⟩ := z6)
            refine hK.out _ _ (fun _ => ?_) ?_
            · exact Below.then HS.out hb6
            have HS : Hid (Below W3.heap.size W3 w6) := Below.then HS.out hb6
            have HS6 : Hid (Below W3.heap.size W3 w6) := HS
            clear hK K
            try simp only [Act.put, List.setIfInBounds_toArray, List.set_cons_zero, List.set_cons_succ]
            refine lates_take (i := 6) (oi := { dst := some 45, op := Go.Op.move (Go.Operand.tmp 51), type := 30, pos := "quotient.go:272", after := #[{ on := 5, ground := Go.Ground.data }], guard := none }) (v := ?_) rfl (by kernel_rfl) (by kernel_rfl) (by kernel_rfl) ⟨rfl, by kernel_rfl⟩ (fun _ _ _ h => h) (Or.inl ⟨by rfl, ?hy⟩) HS.out ?_
            case hy => (intro w9 hSw; (try dsimp only at hSw); go_simp; try with_reducible rfl)
            try simp only [Act.put, List.setIfInBounds_toArray, List.set_cons_zero, List.set_cons_succ]
            refine lates_take (i := 7) (oi := { dst := some 52, op := Go.Op.extract (Go.Operand.tmp 45) 0, type := 24, pos := "quotient.go:272", after := #[{ on := 6, ground := Go.Ground.data }], guard := none }) (v := ?_) rfl (by kernel_rfl) (by kernel_rfl) (by kernel_rfl) ⟨rfl, by kernel_rfl⟩ (fun _ _ _ h => h) (Or.inl ⟨by rfl, ?hy⟩) HS.out ?_
            case hy => (intro w9 hSw; (try dsimp only at hSw); go_simp; try with_reducible rfl)
            try simp only [Act.put, List.setIfInBounds_toArray, List.set_cons_zero, List.set_cons_succ]
            refine lates_take (i := 8) (oi := { dst := some 53, op := Go.Op.extract (Go.Operand.tmp 45) 1, type := 26, pos := "quotient.go:272", after := #[{ on := 6, ground := Go.Ground.data }, { on := 10, ground := Go.Ground.gcOnly Go.Departure.lateStores }], guard := none }) (v := ?_) rfl (by kernel_rfl) (by kernel_rfl) (by kernel_rfl) ⟨rfl, by kernel_rfl⟩ (fun _ _ _ h => h) (Or.inl ⟨by rfl, ?hy⟩) HS.out ?_
            case hy => (intro w9 hSw; (try dsimp only at hSw); go_simp; try with_reducible rfl)
            try simp only [Act.put, List.setIfInBounds_toArray, List.set_cons_zero, List.set_cons_succ]
            refine lates_ready (rs := [10]) (by kernel_rfl) (by simp) ?_
            refine AllLate.cons (o := { dst := none, op := Go.Op.store 24 (Go.Operand.tmp 9) (Go.Operand.tmp 52), type := 0, pos := "quotient.go:272", after := #[{ on := 9, ground := Go.Ground.data }, { on := 7, ground := Go.Ground.data }, { on := 5, ground := Go.Ground.chain }, { on := 0, ground := Go.Ground.phase }, { on := 1, ground := Go.Ground.phase }, { on := 2, ground := Go.Ground.phase }, { on := 3, ground := Go.Ground.phase }, { on := 4, ground := Go.Ground.phase }, { on := 5, ground := Go.Ground.phase }, { on := 6, ground := Go.Ground.phase }, { on := 7, ground := Go.Ground.phase }, { on := 8, ground := Go.Ground.textOnly Go.Departure.lateStores }, { on := 9, ground := Go.Ground.phase }], guard := none }) rfl (fun K hK => ?_) ?_
            · go_simp
              have HSa : Hid (Below W3.heap.size W3 (w6.alloc (.cells #[.int .i64 (P : Nat), .slice a6 P cap6] 24))) := HS6.out.alloc HS6.out.size _
              have HSb : Hid (Below W3.heap.size W3 ((w6.setCell ⟨w5.heap.size, 0, none⟩ (.int .i64 (P : Nat))).setCell ⟨w5.heap.size, 1, none⟩ (.slice a6 P cap6))) := (HS6.out.setCell (p := ⟨w5.heap.size, 0, none⟩) HS5.out.size _).setCell (p := ⟨w5.heap.size, 1, none⟩) HS5.out.size _
              have HSc : Hid (Below W3.heap.size W3 ((w6.setCell ⟨D.heap.size, 0, none⟩ (.int .i64 (P : Nat))).setCell ⟨D.heap.size, 1, none⟩ (.slice a6 P cap6))) := (HS6.out.setCell (p := ⟨D.heap.size, 0, none⟩) HSD.out.size _).setCell (p := ⟨D.heap.size, 1, none⟩) HSD.out.size _
              refine hK.out _ _ (fun _ => ?_) ?_
              · first | exact HSa.out | exact HSb.out | exact HSc.out

              clear hK K
              try simp only [Act.put, List.setIfInBounds_toArray, List.set_cons_zero, List.set_cons_succ]
              refine lates_take (i := 11) (oi := { dst := some 8, op := Go.Op.assign (Go.Operand.tmp 53), type := 26, pos := "quotient.go:272", after := #[{ on := 8, ground := Go.Ground.data }, { on := 10, ground := Go.Ground.chain }, { on := 0, ground := Go.Ground.phase }, { on := 1, ground := Go.Ground.phase }, { on := 2, ground := Go.Ground.phase }, { on := 3, ground := Go.Ground.phase }, { on := 4, ground := Go.Ground.phase }, { on := 5, ground := Go.Ground.phase }, { on := 6, ground := Go.Ground.phase }, { on := 7, ground := Go.Ground.phase }, { on := 8, ground := Go.Ground.phase }, { on := 9, ground := Go.Ground.phase }, { on := 10, ground := Go.Ground.phase }], guard := none }) (v := ?_) rfl (by kernel_rfl) (by kernel_rfl) (by kernel_rfl) ⟨rfl, by kernel_rfl⟩ (fun _ _ _ h => h) (Or.inl ⟨by rfl, ?hy⟩) (by first | exact HSa.out | exact HSb.out | exact HSc.out) ?_
              case hy => (intro w9 hSw; (try dsimp only at hSw); go_simp; try with_reducible rfl)
              try simp only [Act.put, List.setIfInBounds_toArray, List.set_cons_zero, List.set_cons_succ]
              refine lates_done (by kernel_rfl) ?_ _
              try simp only [Act.put, List.setIfInBounds_toArray, List.set_cons_zero, List.set_cons_succ]
              clear hc0 hc1
              go_wp2_with fail
              refine (HEU.out a6 cap6 _ (by first | exact hr6.below ((Below.refl _ _).alloc (Nat.le_refl _) _) | exact row_set2 hr6 (fresh_of hr6 fun q hq => by have := hf6 q hq; simpa using this) | exact row_set2 hr6 (fresh_of hr6 fun q hq => by have h1 := hf6 q hq; have h2 := hb5.size; simp at h2; omega))).mono ?_
              rintro e w9 ⟨rfl, hb9⟩
              have HF : Hid (Below w.heap.size w w9) := by first | exact Below.then (Below.then HBW.out HSa.out) hb9 | exact Below.then (Below.then HBW.out HSb.out) hb9 | exact Below.then (Below.then HBW.out HSc.out) hb9
              clear hb9
              go_wp2_with fail
              go_ret
              exact ⟨rfl, HF.out⟩
            exact AllLate.nil
          exact AllLate.nil
        exact AllLate.nil
      refine AllLate.cons (o := { dst := some 9, op := Go.Op.alloc 24, type := 0, pos := "quotient.go:272", after := #[], guard := none }) rfl (fun K hK => ?_) ?_
      · go_simp
        skip
        refine hK.out _ _ (fun _ => ?_) ?_
        · exact HS.out.alloc HS.out.size _
        have HS := (show Hid (Below W3.heap.size W3 _) from HS.out.alloc HS.out.size (.cells #[.int .i64 0, .slice none 0 0] 24))
        clear hK K
        try simp only [Act.put, List.setIfInBounds_toArray, List.set_cons_zero, List.set_cons_succ]
        refine lates_ready (rs := [4]) (by kernel_rfl) (by simp) ?_
        refine AllLate.cons (o := { dst := some 50, op := Go.Op.call { callee := Go.Callee.value (Go.Operand.func 9), args := #[Go.Operand.tmp 47, Go.Operand.tmp 48, Go.Operand.tmp 49], argTypes := #[24, 3, 3] }, type := 3, pos := "quotient.go:272", after := #[{ on := 1, ground := Go.Ground.data }, { on := 2, ground := Go.Ground.data }, { on := 3, ground := Go.Ground.data }], guard := none }) rfl (fun K hK => ?_) ?_
        · go_simp
          refine (HBT.out _ HS.out).mono ?_
          rintro e w5 ⟨rfl, hb5⟩
          (try have z5 := (ZBox.new D).step hb5)
          refine hK.out _ _ (fun _ => ?_) ?_
          · exact Below.then HS.out hb5
          have HS : Hid (Below W3.heap.size W3 w5) := Below.then HS.out hb5
          have HS5 : Hid (Below W3.heap.size W3 w5) := HS
          clear hK K
          try simp only [Act.put, List.setIfInBounds_toArray, List.set_cons_zero, List.set_cons_succ]
          refine lates_ready (rs := [5]) (by kernel_rfl) (by simp) ?_
          refine AllLate.cons (o := { dst := some 51, op := Go.Op.call { callee := Go.Callee.value (Go.Operand.func 8), args := #[Go.Operand.tmp 46, Go.Operand.tmp 50], argTypes := #[24, 3] }, type := 30, pos := "quotient.go:272", after := #[{ on := 0, ground := Go.Ground.data }, { on := 4, ground := Go.Ground.data }, { on := 4, ground := Go.Ground.chain }], guard := none }) rfl (fun K hK => ?_) ?_
          · go_simp
            refine (HPA.out _ HS.out).mono ?_
            rintro e w6 ⟨⟨a6, cap6, rfl, hr6, hf6⟩, hb6⟩
            (try have z6 := ZBox.step z5 hb6)
            (try have z6 := (ZBox.new w5).step hb6)
            (try obtain ⟨r0, r1, r2, r3⟩ := z6)
            refine hK.out _ _ (fun _ => ?_) ?_
            · exact Below.then HS.out hb6
            have HS : Hid (Below W3.heap.size W3 w6) := Below.then HS.out hb6
            have HS6 : Hid (Below W3.heap.size W3 w6) := HS
            clear hK K
            try simp only [Act.put, List.setIfInBounds_toArray, List.set_cons_zero, List.set_cons_succ]
            refine lates_take (i := 6) (oi := { dst := some 45, op := Go.Op.move (Go.Operand.tmp 51), type := 30, pos := "quotient.go:272", after := #[{ on := 5, ground := Go.Ground.data }], guard := none }) (v := ?_) rfl (by kernel_rfl) (by kernel_rfl) (by kernel_rfl) ⟨rfl, by kernel_rfl⟩ (fun _ _ _ h => h) (Or.inl ⟨by rfl, ?hy⟩) HS.out ?_
            case hy => (intro w9 hSw; (try dsimp only at hSw); go_simp; try with_reducible rfl)
            try simp only [Act.put, List.setIfInBounds_toArray, List.set_cons_zero, List.set_cons_succ]
            refine lates_take (i := 7) (oi := { dst := some 52, op := Go.Op.extract (Go.Operand.tmp 45) 0, type := 24, pos := "quotient.go:272", after := #[{ on := 6, ground := Go.Ground.data }], guard := none }) (v := ?_) rfl (by kernel_rfl) (by kernel_rfl) (by kernel_rfl) ⟨rfl, by kernel_rfl⟩ (fun _ _ _ h => h) (Or.inl ⟨by rfl, ?hy⟩) HS.out ?_
            case hy => (intro w9 hSw; (try dsimp only at hSw); go_simp; try with_reducible rfl)
            try simp only [Act.put, List.setIfInBounds_toArray, List.set_cons_zero, List.set_cons_succ]
            refine lates_take (i := 8) (oi := { dst := some 53, op := Go.Op.extract (Go.Operand.tmp 45) 1, type := 26, pos := "quotient.go:272", after := #[{ on := 6, ground := Go.Ground.data }, { on := 10, ground := Go.Ground.gcOnly Go.Departure.lateStores }], guard := none }) (v := ?_) rfl (by kernel_rfl) (by kernel_rfl) (by kernel_rfl) ⟨rfl, by kernel_rfl⟩ (fun _ _ _ h => h) (Or.inl ⟨by rfl, ?hy⟩) HS.out ?_
            case hy => (intro w9 hSw; (try dsimp only at hSw); go_simp; try with_reducible rfl)
            try simp only [Act.put, List.setIfInBounds_toArray, List.set_cons_zero, List.set_cons_succ]
            refine lates_ready (rs := [10]) (by kernel_rfl) (by simp) ?_
            refine AllLate.cons (o := { dst := none, op := Go.Op.store 24 (Go.Operand.tmp 9) (Go.Operand.tmp 52), type := 0, pos := "quotient.go:272", after := #[{ on := 9, ground := Go.Ground.data }, { on := 7, ground := Go.Ground.data }, { on := 5, ground := Go.Ground.chain }, { on := 0, ground := Go.Ground.phase }, { on := 1, ground := Go.Ground.phase }, { on := 2, ground := Go.Ground.phase }, { on := 3, ground := Go.Ground.phase }, { on := 4, ground := Go.Ground.phase }, { on := 5, ground := Go.Ground.phase }, { on := 6, ground := Go.Ground.phase }, { on := 7, ground := Go.Ground.phase }, { on := 8, ground := Go.Ground.textOnly Go.Departure.lateStores }, { on := 9, ground := Go.Ground.phase }], guard := none }) rfl (fun K hK => ?_) ?_
            · go_simp
              have HSa : Hid (Below W3.heap.size W3 (w6.alloc (.cells #[.int .i64 (P : Nat), .slice a6 P cap6] 24))) := HS6.out.alloc HS6.out.size _
              have HSb : Hid (Below W3.heap.size W3 ((w6.setCell ⟨w5.heap.size, 0, none⟩ (.int .i64 (P : Nat))).setCell ⟨w5.heap.size, 1, none⟩ (.slice a6 P cap6))) := (HS6.out.setCell (p := ⟨w5.heap.size, 0, none⟩) HS5.out.size _).setCell (p := ⟨w5.heap.size, 1, none⟩) HS5.out.size _
              have HSc : Hid (Below W3.heap.size W3 ((w6.setCell ⟨D.heap.size, 0, none⟩ (.int .i64 (P : Nat))).setCell ⟨D.heap.size, 1, none⟩ (.slice a6 P cap6))) := (HS6.out.setCell (p := ⟨D.heap.size, 0, none⟩) HSD.out.size _).setCell (p := ⟨D.heap.size, 1, none⟩) HSD.out.size _
              refine hK.out _ _ (fun _ => ?_) ?_
              · first | exact HSa.out | exact HSb.out | exact HSc.out

              clear hK K
              try simp only [Act.put, List.setIfInBounds_toArray, List.set_cons_zero, List.set_cons_succ]
              refine lates_take (i := 11) (oi := { dst := some 8, op := Go.Op.assign (Go.Operand.tmp 53), type := 26, pos := "quotient.go:272", after := #[{ on := 8, ground := Go.Ground.data }, { on := 10, ground := Go.Ground.chain }, { on := 0, ground := Go.Ground.phase }, { on := 1, ground := Go.Ground.phase }, { on := 2, ground := Go.Ground.phase }, { on := 3, ground := Go.Ground.phase }, { on := 4, ground := Go.Ground.phase }, { on := 5, ground := Go.Ground.phase }, { on := 6, ground := Go.Ground.phase }, { on := 7, ground := Go.Ground.phase }, { on := 8, ground := Go.Ground.phase }, { on := 9, ground := Go.Ground.phase }, { on := 10, ground := Go.Ground.phase }], guard := none }) (v := ?_) rfl (by kernel_rfl) (by kernel_rfl) (by kernel_rfl) ⟨rfl, by kernel_rfl⟩ (fun _ _ _ h => h) (Or.inl ⟨by rfl, ?hy⟩) (by first | exact HSa.out | exact HSb.out | exact HSc.out) ?_
              case hy => (intro w9 hSw; (try dsimp only at hSw); go_simp; try with_reducible rfl)
              try simp only [Act.put, List.setIfInBounds_toArray, List.set_cons_zero, List.set_cons_succ]
              refine lates_done (by kernel_rfl) ?_ _
              try simp only [Act.put, List.setIfInBounds_toArray, List.set_cons_zero, List.set_cons_succ]
              clear hc0 hc1
              go_wp2_with fail
              refine (HEU.out a6 cap6 _ (by first | exact hr6.below ((Below.refl _ _).alloc (Nat.le_refl _) _) | exact row_set2 hr6 (fresh_of hr6 fun q hq => by have := hf6 q hq; simpa using this) | exact row_set2 hr6 (fresh_of hr6 fun q hq => by have h1 := hf6 q hq; have h2 := hb5.size; simp at h2; omega))).mono ?_
              rintro e w9 ⟨rfl, hb9⟩
              have HF : Hid (Below w.heap.size w w9) := by first | exact Below.then (Below.then HBW.out HSa.out) hb9 | exact Below.then (Below.then HBW.out HSb.out) hb9 | exact Below.then (Below.then HBW.out HSc.out) hb9
              clear hb9
              go_wp2_with fail
              go_ret
              exact ⟨rfl, HF.out⟩
            exact AllLate.nil
          exact AllLate.nil
        exact AllLate.nil
      exact AllLate.nil
end Go.Proofs.YtgdbldfbhiaepabDoor
