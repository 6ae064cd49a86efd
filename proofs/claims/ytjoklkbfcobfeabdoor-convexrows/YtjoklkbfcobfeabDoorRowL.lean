/-
  For every order that is handed in, hasselaw.ConvexRows returns true, and writes nothing that was there. Condition: the table of the least bits.
-/
import Derived.Test.YtjoklkbfcobfeabDoorRowA
import Derived.Test.YtjoklkbfcobfeabDoorEndP
import Derived.Test.YtjoklkbfcobfeabDoorAccX
import Derived.Test.YtjoklkbfcobfeabDoorCounts
import Derived.Test.YtjoklkbfcobfeabDoorCoBeg
namespace Go.Proofs.YtjoklkbfcobfeabDoor
open Go.RowKit

theorem ends_len (g : Nat → Nat) (n : Nat) (h : n ≤ 10) : (ends g n).length ≤ 1024 := Nat.le_trans (fil_len _ _) (pw_le n h)
theorem FBox.new (w : World) (n : Int) (a : Option Addr) (len cap : Nat) : Box (w.alloc (.cells #[.int .i64 n, .slice a len cap] 24)) w.heap.size n a len cap := ⟨by simp, by simp⟩
theorem AccIs.ok {n len : Nat} {f : Nat → Int} {e : Ending} (h10 : n ≤ 10) (h1 : FIn n len f) (h2 : Ris len f) (h3 : acc (nat f) len = true) (h : AccIs n len f e) : e = .returned (.tuple #[.bool true, .int .i64 0]) := by
  rcases h with ⟨c, h0, hc, _⟩ | ⟨n', e', _, _, _, h⟩
  · exact absurd (hc.unique (FChk.mk0 h10 h1 h2)) h0
  · rw [h, h3]
theorem WrdIs.ok {n len : Nat} {f : Nat → Int} {F : Nat → Nat} {e : Ending} (hw : WCk n len f 0) (h : WrdIs n len f F e) : e = .returned (.tuple #[.int .i64 (F n : Nat), .int .i64 0]) := by
  rcases h with ⟨c, h0, hc, _⟩ | ⟨n', e', _, _, _, _, _, h⟩
  · exact absurd (hc.unique hw) h0
  · obtain rfl : n' = n := by omega
    exact h

set_option maxHeartbeats 4000000 in
theorem convexRows_any (n : Int) (a : Option Addr) (len cap : Nat) (f : Nat → Int) (w : World) (hl : len ≤ maxLen) (hr : Row w a len f) (hT : Tab w) :
    Calls Tryd.prog 4 #[.agg #[.int .i64 n, .slice a len cap]] w fun e w' => e = .returned (.bool true) ∧ Below w.heap.size w w' := by
  obtain ⟨W0, HW0⟩ : ∃ W0, Hid (W0 = w.alloc (.cells #[.int .i64 n, .slice a len cap] 35)) := ⟨_, rfl⟩
  have HB0 : Hid (Below w.heap.size w W0) := by rw [HW0.out]; exact (Below.refl _ _).alloc (Nat.le_refl _) _
  have K0 : Held W0 w.heap.size n a len cap f := by rw [HW0.out]; exact Held.box hr
  have HT0 : Hid (Tab W0) := hT.step HB0.out
  clear hr hT
  go_enter Tryd.func4, Tryd.ntmps4
  go_wp2_with fail
  rw [← HW0.out]
  refine (convexBegun_any _ HT0.out).mono ?_
  rintro e w0 ⟨rfl, hb0⟩
  have HBB : Hid (Below W0.heap.size W0 w0) := hb0
  clear hb0
  have k0 := (K0.step HBB.out).c0
  have k1 := (K0.step HBB.out).c1
  go_wp2_with fail
  refine (cIdeals_any n a len cap f w0 hl (K0.step HBB.out).row).mono ?_
  rintro e w1 ⟨⟨c, x, hc, rfl, hx⟩, hb1⟩
  have HC : Hid (Chk n len f c) := hc
  have HB1 : Hid (Below W0.heap.size W0 w1) := Below.then HBB.out hb1
  clear hb1 k0 k1 HBB
  rcases hx with ⟨h0, rfl⟩ | ⟨rfl, A1, c1, rfl, hr1⟩
  · have hne : (c != 0) = true := by simpa using h0
    clear hc
    have HB2 : Hid (∀ o, Below w.heap.size w (w1.alloc o)) := fun o => (Below.then HB0.out HB1.out).alloc (Below.then HB0.out HB1.out).size o
    go_wp2_with fail
    go_ret
    exact ⟨rfl, HB2.out _⟩
  · obtain ⟨rfl, h10, hrng, hord⟩ := hc.good
    have HIA : Hid (acc (nat (li (idls (nat f) len))) (idls (nat f) len).length = true) := idls_acc h10 hrng.small hord
    have HWI : Hid (WCk len (idls (nat f) len).length (li (idls (nat f) len)) 0) := .inr ⟨len, rfl, h10, fil_in _ _, fil_ris _ _, .inr ⟨rfl, HIA.out, idls_tog h10 hrng.small⟩⟩
    have HEA : Hid (acc (nat (li (ends (nat f) len))) (ends (nat f) len).length = true) := ends_acc h10 hrng.small hord
    have HWO : Hid (wy (mem (nat (li (idls (nat f) len))) (idls (nat f) len).length) (pw len - 1) = ways (nat f) len 0) := idls_words h10 hrng.small hord
    have HIF : Hid (FIn len (idls (nat f) len).length (li (idls (nat f) len)) ∧ Ris (idls (nat f) len).length (li (idls (nat f) len))) := ⟨fil_in _ _, fil_ris _ _⟩
    have HEF : Hid (FIn len (ends (nat f) len).length (li (ends (nat f) len)) ∧ Ris (ends (nat f) len).length (li (ends (nat f) len))) := ⟨fil_in _ _, fil_ris _ _⟩
    have hL1 := idls_len (nat f) len h10
    have hL2 := ends_len (nat f) len h10
    have HR1 : Hid (Row w1 A1 (idls (nat f) len).length (li (idls (nat f) len))) := hr1
    obtain ⟨u, HU⟩ : ∃ u, Hid (ways (nat f) len 0 = u) := ⟨_, rfl⟩
    rw [HU.out] at HWO
    clear hr1 hc hrng hord
    have HWD : Hid (∀ w', Tab w' → Row w' A1 (idls (nat f) len).length (li (idls (nat f) len)) → Calls Tryd.prog 6 #[.agg #[.int .i64 (len : Nat), .slice A1 (idls (nat f) len).length c1]] w' fun e w'' => e = .returned (.tuple #[.int .i64 (u : Nat), .int .i64 0]) ∧ Below w'.heap.size w' w'') := fun w' ht h =>
      (words_any len A1 _ c1 _ w' (by unfold maxLen; omega) h ht).mono fun e w'' ⟨he, hb⟩ => ⟨by have h2 := WrdIs.ok HWI.out he; rw [h2, ← HWO.out], hb⟩
    have HAI : Hid (∀ w', Tab w' → Row w' A1 (idls (nat f) len).length (li (idls (nat f) len)) → Calls Tryd.prog 14 #[.agg #[.int .i64 (len : Nat), .slice A1 (idls (nat f) len).length c1]] w' fun e w'' => e = .returned (.tuple #[.bool true, .int .i64 0]) ∧ Below w'.heap.size w' w'') := fun w' ht h =>
      (accessible_any len A1 _ c1 _ w' (by unfold maxLen; omega) h ht).mono fun e w'' ⟨he, hb⟩ => ⟨he.ok h10 HIF.out.1 HIF.out.2 HIA.out, hb⟩
    have HAE : Hid (∀ w' A2 c2, Tab w' → Row w' A2 (ends (nat f) len).length (li (ends (nat f) len)) → Calls Tryd.prog 14 #[.agg #[.int .i64 (len : Nat), .slice A2 (ends (nat f) len).length c2]] w' fun e w'' => e = .returned (.tuple #[.bool true, .int .i64 0]) ∧ Below w'.heap.size w' w'') := fun w' A2 c2 ht h =>
      (accessible_any len A2 _ c2 _ w' (by unfold maxLen; omega) h ht).mono fun e w'' ⟨he, hb⟩ => ⟨he.ok h10 HEF.out.1 HEF.out.2 HEA.out, hb⟩
    have HEN : Hid (∀ w', Row w' a len f → Calls Tryd.prog 12 #[.agg #[.int .i64 (len : Int), .slice a len cap]] w' fun e w'' => (∃ A2 c2, e = .returned (.tuple #[.agg #[.int .i64 (len : Nat), .slice A2 (ends (nat f) len).length c2], .int .i64 0]) ∧ Row w'' A2 (ends (nat f) len).length (li (ends (nat f) len))) ∧ Below w'.heap.size w' w'') := fun w' h =>
      (cEnds_any len a len cap f w' hl h).mono fun e w'' ⟨⟨c', y, hc', he, hy⟩, hb⟩ => by
        obtain rfl := hc'.unique HC.out
        rcases hy with ⟨h0, _⟩ | ⟨_, A2, c2, hy, hr2⟩
        · exact absurd rfl h0
        · exact ⟨⟨A2, c2, by rw [he, hy], hr2⟩, hb⟩
    have HCO : Hid (∀ w', Row w' a len f → Calls Tryd.prog 13 #[.agg #[.int .i64 (len : Int), .slice a len cap]] w' fun e w'' => e = .returned (.tuple #[.int .i64 (u : Nat), .int .i64 0]) ∧ Below w'.heap.size w' w'') := fun w' h =>
      (count_any len a len cap f w' hl h).mono fun e w'' ⟨⟨c', hc', he⟩, hb⟩ => by
        obtain rfl := hc'.unique HC.out
        rcases he with ⟨h0, _⟩ | ⟨_, he⟩
        · exact absurd rfl h0
        · exact ⟨by rw [he, HU.out], hb⟩
    clear HIA HWI HEA HWO HIF HEF
    generalize (idls (nat f) len).length = l1 at *
    generalize (ends (nat f) len).length = l2 at *
    obtain ⟨F1, HF1⟩ : ∃ F1, Hid (F1 = li (idls (nat f) len)) := ⟨_, rfl⟩
    obtain ⟨F2, HF2⟩ : ∃ F2, Hid (F2 = li (ends (nat f) len)) := ⟨_, rfl⟩
    rw [← HF1.out] at HWD HAI HR1
    rw [← HF2.out] at HAE HEN
    obtain ⟨V2, HV2⟩ : ∃ V2, Hid (V2 = w1.alloc (.cells #[.int .i64 (len : Nat), .slice A1 l1 c1] 24)) := ⟨_, rfl⟩
    have X2 : Box V2 w1.heap.size len A1 l1 c1 := by rw [HV2.out]; exact FBox.new _ _ _ _ _
    have hb2 : Below w1.heap.size w1 V2 := by rw [HV2.out]; exact (Below.refl _ _).alloc (Nat.le_refl _) _
    have HB2 : Hid (Below W0.heap.size W0 V2) := Below.then HB1.out hb2
    have HR2 : Hid (Row V2 A1 l1 F1) := HR1.out.below hb2
    have KV := K0.step HB2.out
    rw [HV2.out] at KV
    have k0 := KV.c0
    have k1 := KV.c1
    clear hb2 HR1 KV
    go_wp2_with fail
    rw [← HV2.out]
    clear k0 k1
    refine (HEN.out V2 (K0.step HB2.out).row).mono ?_
    rintro e w3 ⟨⟨A2, c2, rfl, hr2⟩, hb3⟩
    have HB3 : Hid (Below W0.heap.size W0 w3) := Below.then HB2.out hb3
    have X3 := X2.step hb3
    have HR3 : Hid (Row w3 A1 l1 F1) := HR2.out.below hb3
    have HE3 : Hid (Row w3 A2 l2 F2) := hr2
    clear hb3 HR2 hr2
    obtain ⟨V4, HV4⟩ : ∃ V4, Hid (V4 = w3.alloc (.cells #[.int .i64 (len : Nat), .slice A2 l2 c2] 24)) := ⟨_, rfl⟩
    have Y4 : Box V4 w3.heap.size len A2 l2 c2 := by rw [HV4.out]; exact FBox.new _ _ _ _ _
    have hb4 : Below w3.heap.size w3 V4 := by rw [HV4.out]; exact (Below.refl _ _).alloc (Nat.le_refl _) _
    have X4 := X3.step hb4
    have HB4 : Hid (Below W0.heap.size W0 V4) := Below.then HB3.out hb4
    have HR4 : Hid (Row V4 A1 l1 F1) := HR3.out.below hb4
    have HE4 : Hid (Row V4 A2 l2 F2) := HE3.out.below hb4
    have X4e := X4
    rw [HV4.out] at X4e
    have x0 := X4e.1
    have x1 := X4e.2
    clear hb4 HR3 HE3 X3 X2 X4e
    go_wp2_with fail
    rw [← HV4.out]
    clear x0 x1
    refine (HWD.out V4 (HT0.out.step HB4.out) HR4.out).mono ?_
    rintro e w5 ⟨rfl, hb5⟩
    have HB5 : Hid (Below W0.heap.size W0 w5) := Below.then HB4.out hb5
    have X5 := X4.step hb5
    have Y5 := Y4.step hb5
    have HR5 : Hid (Row w5 A1 l1 F1) := HR4.out.below hb5
    have HE5 : Hid (Row w5 A2 l2 F2) := HE4.out.below hb5
    clear hb5 HR4 HE4 X4 Y4
    have k0 := (K0.step HB5.out).c0
    have k1 := (K0.step HB5.out).c1
    go_wp2_with fail
    refine (HCO.out w5 (K0.step HB5.out).row).mono ?_
    rintro e w6 ⟨rfl, hb6⟩
    have HB6 : Hid (Below W0.heap.size W0 w6) := Below.then HB5.out hb6
    have X6 := X5.step hb6
    have Y6 := Y5.step hb6
    have HR6 : Hid (Row w6 A1 l1 F1) := HR5.out.below hb6
    have HE6 : Hid (Row w6 A2 l2 F2) := HE5.out.below hb6
    clear hb6 HR5 HE5 X5 Y5 k0 k1
    have x0 := X6.1
    have x1 := X6.2
    go_wp2_with fail
    refine (HAI.out w6 (HT0.out.step HB6.out) HR6.out).mono ?_
    rintro e w7 ⟨rfl, hb7⟩
    have HB7 : Hid (Below W0.heap.size W0 w7) := Below.then HB6.out hb7
    have Y7 := Y6.step hb7
    have HE7 : Hid (Row w7 A2 l2 F2) := HE6.out.below hb7
    clear hb7 HR6 HE6 X6 Y6 x0 x1
    have x0 := Y7.1
    have x1 := Y7.2
    go_wp2_with fail
    refine (HAE.out w7 A2 c2 (HT0.out.step HB7.out) HE7.out).mono ?_
    rintro e w8 ⟨rfl, hb8⟩
    have HB8 : Hid (Below W0.heap.size W0 w8) := Below.then HB7.out hb8
    clear hb8 x0 x1
    go_wp2_with fail
    go_ret
    exact ⟨rfl, Below.then HB0.out HB8.out⟩
end Go.Proofs.YtjoklkbfcobfeabDoor
