/-
  For every order that is handed in, hasselaw.ConvexFamilies returns true, and writes nothing that was there. Condition: the table of the least bits.
-/
import Derived.Test.YtjoklkbfcobfeaaDoorRefEnd
import Derived.Test.YtjoklkbfcobfeaaDoorCoBeg
namespace Go.Proofs.YtjoklkbfcobfeaaDoor
open Go.RowKit

theorem ends_len (g : Nat → Nat) (n : Nat) (h : n ≤ 10) : (ends g n).length ≤ 1024 := Nat.le_trans (fil_len _ _) (pw_le n h)
theorem FBox.new (w : World) (n : Int) (a : Option Addr) (len cap : Nat) : Box (w.alloc (.cells #[.int .i64 n, .slice a len cap] 24)) w.heap.size n a len cap := ⟨by simp, by simp⟩

set_option maxHeartbeats 4000000 in
theorem convexFamilies_any (n : Int) (a : Option Addr) (len cap : Nat) (f : Nat → Int) (w : World) (hl : len ≤ maxLen) (hr : Row w a len f) (hT : Tab w) :
    Calls Tryd.prog 4 #[.agg #[.int .i64 n, .slice a len cap]] w fun e w' => e = .returned (.bool true) ∧ Below w.heap.size w w' := by
  obtain ⟨W0, HW0⟩ : ∃ W0, Hid (W0 = w.alloc (.cells #[.int .i64 n, .slice a len cap] 33)) := ⟨_, rfl⟩
  have HB0 : Hid (Below w.heap.size w W0) := by rw [HW0.out]; exact (Below.refl _ _).alloc (Nat.le_refl _) _
  have K0 : Held W0 w.heap.size n a len cap f := by rw [HW0.out]; exact Held.box hr
  have HT0 : Hid (Tab W0) := hT.step HB0.out
  have k0 := K0.c0
  have k1 := K0.c1
  clear hr hT
  go_enter Tryd.func4, Tryd.ntmps4
  go_wp2_with fail
  rw [← HW0.out]
  refine (cIdeals_any n a len cap f W0 hl K0.row).mono ?_
  rintro e w1 ⟨⟨c, x, hc, rfl, hx⟩, hb1⟩
  have HC : Hid (Chk n len f c) := hc
  have HB1 : Hid (Below W0.heap.size W0 w1) := hb1
  clear hb1 k0 k1
  obtain ⟨N1, A1, l1, c1, F1, rfl, HF1, HR1⟩ : ∃ (N1 : Int) (A1 : Option Addr) (l1 c1 : Nat) (F1 : Nat → Int), x = .agg #[.int .i64 N1, .slice A1 l1 c1] ∧ Hid ((c ≠ 0 ∧ N1 = 0 ∧ l1 = 0) ∨ (c = 0 ∧ N1 = (len : Int) ∧ l1 = (idls (nat f) len).length ∧ F1 = fun k => ((nth (idls (nat f) len) k : Nat) : Int))) ∧ Hid (Row w1 A1 l1 F1) := by
    rcases hx with ⟨h0, rfl⟩ | ⟨rfl, a1, cap1, rfl, hr1⟩
    · exact ⟨0, none, 0, 0, fun _ => 0, rfl, .inl ⟨h0, rfl, rfl⟩, fun k hk => absurd hk (Nat.not_lt_zero _)⟩
    · exact ⟨_, _, _, _, _, rfl, .inr ⟨rfl, rfl, rfl, rfl⟩, hr1⟩
  clear hx hc
  obtain ⟨V2, HV2⟩ : ∃ V2, Hid (V2 = w1.alloc (.cells #[.int .i64 N1, .slice A1 l1 c1] 24)) := ⟨_, rfl⟩
  have X2 : Box V2 w1.heap.size N1 A1 l1 c1 := by rw [HV2.out]; exact FBox.new _ _ _ _ _
  have hb2 : Below w1.heap.size w1 V2 := by rw [HV2.out]; exact (Below.refl _ _).alloc (Nat.le_refl _) _
  have HB2 : Hid (Below W0.heap.size W0 V2) := Below.then HB1.out hb2
  have HR2 : Hid (Row V2 A1 l1 F1) := HR1.out.below hb2
  have KV := K0.step HB2.out
  rw [HV2.out] at KV
  have k0 := KV.c0
  have k1 := KV.c1
  clear hb2 HR1 KV
  go_wp2_with fail
  rw [← HV2.out]
  clear k0 k1
  refine (cEnds_any n a len cap f V2 hl (K0.step HB2.out).row).mono ?_
  rintro e w3 ⟨⟨c', y, hc', rfl, hy⟩, hb3⟩
  obtain rfl := hc'.unique HC.out
  have HB3 : Hid (Below W0.heap.size W0 w3) := Below.then HB2.out hb3
  have X3 := X2.step hb3
  have HR3 : Hid (Row w3 A1 l1 F1) := HR2.out.below hb3
  clear hb3 hc' HR2
  obtain ⟨N2, A2, l2, c2, F2, rfl, HF2, HE2⟩ : ∃ (N2 : Int) (A2 : Option Addr) (l2 c2 : Nat) (F2 : Nat → Int), y = .agg #[.int .i64 N2, .slice A2 l2 c2] ∧ Hid ((c' ≠ 0 ∧ N2 = 0 ∧ l2 = 0) ∨ (c' = 0 ∧ N2 = (len : Int) ∧ l2 = (ends (nat f) len).length ∧ F2 = fun k => ((nth (ends (nat f) len) k : Nat) : Int))) ∧ Hid (Row w3 A2 l2 F2) := by
    rcases hy with ⟨h0, rfl⟩ | ⟨rfl, a1, cap1, rfl, hr1⟩
    · exact ⟨0, none, 0, 0, fun _ => 0, rfl, .inl ⟨h0, rfl, rfl⟩, fun k hk => absurd hk (Nat.not_lt_zero _)⟩
    · exact ⟨_, _, _, _, _, rfl, .inr ⟨rfl, rfl, rfl, rfl⟩, hr1⟩
  clear hy
  obtain ⟨V4, HV4⟩ : ∃ V4, Hid (V4 = w3.alloc (.cells #[.int .i64 N2, .slice A2 l2 c2] 24)) := ⟨_, rfl⟩
  have Y4 : Box V4 w3.heap.size N2 A2 l2 c2 := by rw [HV4.out]; exact FBox.new _ _ _ _ _
  have hb4 : Below w3.heap.size w3 V4 := by rw [HV4.out]; exact (Below.refl _ _).alloc (Nat.le_refl _) _
  have X4 := X3.step hb4
  have HB4 : Hid (Below W0.heap.size W0 V4) := Below.then HB3.out hb4
  have HR4 : Hid (Row V4 A1 l1 F1) := HR3.out.below hb4
  have HE4 : Hid (Row V4 A2 l2 F2) := HE2.out.below hb4
  have KV := K0.step HB4.out
  rw [HV4.out] at KV
  have k0 := KV.c0
  have k1 := KV.c1
  clear hb4 HR3 HE2 KV X3 X2
  go_wp2_with fail
  rw [← HV4.out]
  clear k0 k1
  refine (checkOrder_any n a len cap f V4 hl (K0.step HB4.out).row).mono ?_
  rintro e V5 ⟨⟨c5, rfl, hc5⟩, hb5⟩
  obtain rfl := hc5.unique HC.out
  have HB5 : Hid (Below W0.heap.size W0 V5) := Below.then HB4.out hb5
  have X5 := X4.step hb5
  have Y5 := Y4.step hb5
  have HR5 : Hid (Row V5 A1 l1 F1) := HR4.out.below hb5
  have HE5 : Hid (Row V5 A2 l2 F2) := HE4.out.below hb5
  clear hb5 hc5 HR4 HE4 X4 Y4
  by_cases h0 : c5 = 0
  · subst h0
    obtain ⟨rfl, h10, hrng, _⟩ := HC.out.good
    have HF1' : Hid (N1 = (len : Int) ∧ l1 = (idls (nat f) len).length ∧ F1 = fun k => ((nth (idls (nat f) len) k : Nat) : Int)) := by
      rcases HF1.out with ⟨h, _⟩ | ⟨_, h⟩
      · exact absurd rfl h
      · exact h
    have HF2' : Hid (N2 = (len : Int) ∧ l2 = (ends (nat f) len).length ∧ F2 = fun k => ((nth (ends (nat f) len) k : Nat) : Int)) := by
      rcases HF2.out with ⟨h, _⟩ | ⟨_, h⟩
      · exact absurd rfl h
      · exact h
    have HRW : Hid (∀ w', Below V5.heap.size V5 w' → Row w' a len (fun k => (nat f k : Nat))) := fun w' h => hrng.row (K0.step (Below.then HB5.out h)).row
    have HID : Hid (∀ w', Below V5.heap.size V5 w' → Calls Tryd.prog 18 #[.agg #[.int .i64 (len : Int), .slice a len cap]] w' fun e w'' => (∃ v, e = .returned v ∧ NSl w'' v (idls (nat f) len)) ∧ Below w'.heap.size w' w'') := fun w' h => refIdeals_any a len cap (nat f) w' h10 (hrng.small2 h10) (HRW.out _ h)
    have HEN : Hid (∀ w', Below V5.heap.size V5 w' → Calls Tryd.prog 19 #[.agg #[.int .i64 (len : Int), .slice a len cap]] w' fun e w'' => (∃ v, e = .returned v ∧ NSl w'' v (ends (nat f) len)) ∧ Below w'.heap.size w' w'') := fun w' h => endsFamily_any a len cap (nat f) w' h10 (hrng.small2 h10) (HRW.out _ h)
    have hc0 : ∀ w', Below V5.heap.size V5 w' → w'.cell? ⟨w.heap.size, 0, none⟩ = some (.int .i64 (len : Nat)) := fun w' h => (K0.step (Below.then HB5.out h)).c0
    have hc1 : ∀ w', Below V5.heap.size V5 w' → w'.cell? ⟨w.heap.size, 1, none⟩ = some (.slice a len cap) := fun w' h => (K0.step (Below.then HB5.out h)).c1
    have HL1 := idls_len (nat f) len h10
    have HL2 := ends_len (nat f) len h10
    clear hrng HF1 HF2
    go_wp2_with fail
    refine wp_region_held_drew (S := (fun w' => Below V5.heap.size V5 w')) (by kernel_rfl) ((Below.refl _ _).drew) (fun hHeld => ?_)
    refine wpAnyH_take (i := 0) (oi := { dst := some 24, op := Go.Op.load 33 (Go.Operand.tmp 1), type := 33, pos := "imply.go:214", after := #[], guard := none }) (v := ?_) rfl (by kernel_rfl) (by kernel_rfl) (by kernel_rfl) (fun _ _ _ h => h) (Or.inl ⟨by rfl, ?hy⟩) (by assumption) ?_
    case hy => (intro w9 hSw; (try dsimp only at hSw); go_simp; try with_reducible rfl)
    try simp only [Act.put, List.setIfInBounds_toArray, List.set_cons_zero, List.set_cons_succ]
    refine wpAnyH_take (i := 2) (oi := { dst := some 26, op := Go.Op.load 33 (Go.Operand.tmp 1), type := 33, pos := "imply.go:214", after := #[], guard := none }) (v := ?_) rfl (by kernel_rfl) (by kernel_rfl) (by kernel_rfl) (fun _ _ _ h => h) (Or.inl ⟨by rfl, ?hy⟩) (by assumption) ?_
    case hy => (intro w9 hSw; (try dsimp only at hSw); go_simp; try with_reducible rfl)
    try simp only [Act.put, List.setIfInBounds_toArray, List.set_cons_zero, List.set_cons_succ]
    refine wpAnyH_ready (rs := [1]) (by kernel_rfl) (by simp) ?_
    refine AllReadyH.cons (o := { dst := some 25, op := Go.Op.call { callee := Go.Callee.value (Go.Operand.func 18), args := #[Go.Operand.tmp 24], argTypes := #[33] }, type := 22, pos := "imply.go:214", after := #[{ on := 0, ground := Go.Ground.data }], guard := none }) rfl (fun K hK => ?_) AllReadyH.nil
    go_simp
    refine (HID.out _ hHeld).mono ?_
    rintro e w6 ⟨⟨v6, rfl, ⟨a6, cap6, rfl, hr6⟩⟩, hb6⟩
    refine hK.out _ _ ?_ (fun hHeld => ?_)
    · first | assumption | exact Below.then (by assumption) (by assumption)
    clear hK K
    try simp only [Act.put, List.setIfInBounds_toArray, List.set_cons_zero, List.set_cons_succ]
    refine wpAnyH_ready (rs := [3]) (by kernel_rfl) (by simp) ?_
    refine AllReadyH.cons (o := { dst := some 27, op := Go.Op.call { callee := Go.Callee.value (Go.Operand.func 19), args := #[Go.Operand.tmp 26], argTypes := #[33] }, type := 22, pos := "imply.go:214", after := #[{ on := 2, ground := Go.Ground.data }, { on := 1, ground := Go.Ground.chain }], guard := none }) rfl (fun K hK => ?_) AllReadyH.nil
    go_simp
    refine (HEN.out _ hHeld).mono ?_
    rintro e w7 ⟨⟨v7, rfl, ⟨a7, cap7, rfl, hr7⟩⟩, hb7⟩
    refine hK.out _ _ ?_ (fun hHeld => ?_)
    · first | assumption | exact Below.then (by assumption) (by assumption)
    clear hK K
    try simp only [Act.put, List.setIfInBounds_toArray, List.set_cons_zero, List.set_cons_succ]
    refine wpAnyH_take (i := 4) (oi := { dst := some 8, op := Go.Op.assign (Go.Operand.tmp 25), type := 22, pos := "imply.go:214", after := #[{ on := 1, ground := Go.Ground.data }, { on := 3, ground := Go.Ground.chain }, { on := 0, ground := Go.Ground.phase }, { on := 1, ground := Go.Ground.phase }, { on := 2, ground := Go.Ground.textOnly Go.Departure.lateStores }, { on := 3, ground := Go.Ground.textOnly Go.Departure.lateStoresUnsure }], guard := none }) (v := ?_) rfl (by kernel_rfl) (by kernel_rfl) (by kernel_rfl) (fun _ _ _ h => h) (Or.inl ⟨by rfl, ?hy⟩) (by assumption) ?_
    case hy => (intro w9 hSw; (try dsimp only at hSw); go_simp; try with_reducible rfl)
    try simp only [Act.put, List.setIfInBounds_toArray, List.set_cons_zero, List.set_cons_succ]
    refine wpAnyH_take (i := 5) (oi := { dst := some 9, op := Go.Op.assign (Go.Operand.tmp 27), type := 22, pos := "imply.go:214", after := #[{ on := 3, ground := Go.Ground.data }, { on := 4, ground := Go.Ground.chain }, { on := 0, ground := Go.Ground.phase }, { on := 1, ground := Go.Ground.phase }, { on := 2, ground := Go.Ground.phase }, { on := 3, ground := Go.Ground.phase }, { on := 4, ground := Go.Ground.phase }], guard := none }) (v := ?_) rfl (by kernel_rfl) (by kernel_rfl) (by kernel_rfl) (fun _ _ _ h => h) (Or.inl ⟨by rfl, ?hy⟩) (by assumption) ?_
    case hy => (intro w9 hSw; (try dsimp only at hSw); go_simp; try with_reducible rfl)
    try simp only [Act.put, List.setIfInBounds_toArray, List.set_cons_zero, List.set_cons_succ]
    refine wpAnyH_done (by kernel_rfl) ?_ _
    try simp only [Act.put, List.setIfInBounds_toArray, List.set_cons_zero, List.set_cons_succ]
    have HB7 := (show Hid (Below V5.heap.size V5 w7) from hHeld)
    have HR6 : Hid (Row w7 a6 (idls (nat f) len).length (fun k => (nth (idls (nat f) len) k : Nat))) := hr6.below hb7
    have HR7 : Hid (Row w7 a7 (ends (nat f) len).length (fun k => (nth (ends (nat f) len) k : Nat))) := hr7
    clear hHeld hr6 hr7 hb6 hb7
    go_wp2_with fail
    refine (convexBegun_any _ (HT0.out.step (Below.then HB5.out HB7.out))).mono ?_
    rintro e w8 ⟨rfl, hb8⟩
    have HB8 : Hid (Below V5.heap.size V5 w8) := Below.then HB7.out hb8
    have HR8 : Hid (Row w8 a6 (idls (nat f) len).length (fun k => (nth (idls (nat f) len) k : Nat))) := HR6.out.below hb8
    have HE8 : Hid (Row w8 a7 (ends (nat f) len).length (fun k => (nth (ends (nat f) len) k : Nat))) := HR7.out.below hb8
    clear hb8 HR6 HR7
    have x0 := (X5.step HB8.out).1
    have x1 := (X5.step HB8.out).2
    have k0 := hc0 _ HB8.out
    go_wp2_with fail
    refine (familyIs_any 0 N1 len A1 l1 c1 a6 _ cap6 F1 _ w8 (by rw [HF1'.out.2.1]; unfold maxLen; omega) (by unfold maxLen; omega) (HR5.out.below HB8.out) HR8.out (.inr ⟨rfl, HF1'.out.1, HF1'.out.2.1, fun k _ => by rw [HF1'.out.2.2]⟩)).mono ?_
    rintro e w9 ⟨rfl, hb9⟩
    have HB9 : Hid (Below V5.heap.size V5 w9) := Below.then HB8.out hb9
    have HE9 : Hid (Row w9 a7 (ends (nat f) len).length (fun k => (nth (ends (nat f) len) k : Nat))) := HE8.out.below hb9
    clear hb9 HE8 HR8 x0 x1 k0
    have x0 := (Y5.step HB9.out).1
    have x1 := (Y5.step HB9.out).2
    have k0 := hc0 _ HB9.out
    go_wp2_with fail
    refine (familyIs_any 0 N2 len A2 l2 c2 a7 _ cap7 F2 _ w9 (by rw [HF2'.out.2.1]; unfold maxLen; omega) (by unfold maxLen; omega) (HE5.out.below HB9.out) HE9.out (.inr ⟨rfl, HF2'.out.1, HF2'.out.2.1, fun k _ => by rw [HF2'.out.2.2]⟩)).mono ?_
    rintro e w10 ⟨rfl, hb10⟩
    have HB10 : Hid (Below V5.heap.size V5 w10) := Below.then HB9.out hb10
    clear hb10 x0 x1 k0
    go_wp2_with fail
    go_ret
    exact ⟨rfl, Below.then HB0.out (Below.then HB5.out HB10.out)⟩
  · have hne : (c5 == 0) = false := by simpa using h0
    have HF1' : Hid (N1 = 0 ∧ l1 = 0) := by
      rcases HF1.out with ⟨_, h⟩ | ⟨h, _⟩
      · exact h
      · exact absurd h h0
    have HF2' : Hid (N2 = 0 ∧ l2 = 0) := by
      rcases HF2.out with ⟨_, h⟩ | ⟨h, _⟩
      · exact h
      · exact absurd h h0
    clear HF1 HF2
    go_wp2_with fail
    refine (convexBegun_any _ (HT0.out.step HB5.out)).mono ?_
    rintro e w8 ⟨rfl, hb8⟩
    have HB8 : Hid (Below V5.heap.size V5 w8) := hb8
    clear hb8
    have x0 := (X5.step HB8.out).1
    have x1 := (X5.step HB8.out).2
    have k0 := (K0.step (Below.then HB5.out HB8.out)).c0
    go_wp2_with fail
    refine (familyIs_any c5 N1 n A1 l1 c1 none 0 0 F1 (fun _ => 0) w8 (by rw [HF1'.out.2]; unfold maxLen; omega) (by unfold maxLen; omega) (HR5.out.below HB8.out) (fun k hk => absurd hk (Nat.not_lt_zero _)) (.inl ⟨h0, HF1'.out.1, HF1'.out.2⟩)).mono ?_
    rintro e w9 ⟨rfl, hb9⟩
    have HB9 : Hid (Below V5.heap.size V5 w9) := Below.then HB8.out hb9
    clear hb9 x0 x1 k0
    have x0 := (Y5.step HB9.out).1
    have x1 := (Y5.step HB9.out).2
    have k0 := (K0.step (Below.then HB5.out HB9.out)).c0
    go_wp2_with fail
    refine (familyIs_any c5 N2 n A2 l2 c2 none 0 0 F2 (fun _ => 0) w9 (by rw [HF2'.out.2]; unfold maxLen; omega) (by unfold maxLen; omega) (HE5.out.below HB9.out) (fun k hk => absurd hk (Nat.not_lt_zero _)) (.inl ⟨h0, HF2'.out.1, HF2'.out.2⟩)).mono ?_
    rintro e w10 ⟨rfl, hb10⟩
    have HB10 : Hid (Below V5.heap.size V5 w10) := Below.then HB9.out hb10
    clear hb10 x0 x1 k0
    go_wp2_with fail
    go_ret
    exact ⟨rfl, Below.then HB0.out (Below.then HB5.out HB10.out)⟩
end Go.Proofs.YtjoklkbfcobfeaaDoor
