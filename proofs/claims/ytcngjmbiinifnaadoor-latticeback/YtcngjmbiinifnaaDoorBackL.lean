/-
  What hasselaw.LatticeBack answers: true. Conditions: the library's table lies in its variable; a slice reads as a slice of numbers.
-/
import Derived.Test.YtcngjmbiinifnaaDoorLBegun
import Derived.Test.YtcngjmbiinifnaaDoorLatO
namespace Go.Proofs.YtcngjmbiinifnaaDoor
open Go.RowKit

theorem trn_chk {g : Nat → Nat} {n : Nat} (hn : n ≤ 10) (hg : Sm n n g) (ho : Ord n g) : Chk (n : Int) n (fun k => ((trn g n k : Nat) : Int)) 0 := by
  have e : nat (fun k => ((trn g n k : Nat) : Int)) = trn g n := by funext k; simp [nat]
  exact .inr ⟨n, rfl, hn, .inr ⟨rfl, .inr ⟨fun k hk => by have := trn_sm g n k hk; show 0 ≤ ((trn g n k : Nat) : Int) ∧ ((trn g n k : Nat) : Int) < _; omega, .inr ⟨rfl, by rw [e]; exact trn_ord hn hg ho⟩⟩⟩⟩
theorem nat_cast1 (g : Nat → Nat) : nat (fun k => ((g k : Nat) : Int)) = g := by funext k; simp [nat]

set_option maxHeartbeats 4000000 in
theorem latticeBack_any (n : Int) (a : Option Addr) (len cap : Nat) (f : Nat → Int) (w : World) (hl : len ≤ maxLen) (hr : Row w a len f) (hT : Tab w) :
    Calls Tryd.prog 5 #[.agg #[.int .i64 n, .slice a len cap]] w fun e w' => e = .returned (.bool true) ∧ Below w.heap.size w w' := by
  have K0 : Held (w.alloc (.cells #[.int .i64 n, .slice a len cap] 40)) w.heap.size n a len cap f := Held.box hr
  have HB0 : Hid (Below w.heap.size w (w.alloc (.cells #[.int .i64 n, .slice a len cap] 40))) := (Below.refl _ _).alloc (Nat.le_refl _) _
  have HT : Hid (Tab w) := hT
  clear hr hT
  go_enter Tryd.func5, Tryd.ntmps5
  go_wp2_with fail
  refine (latticeBegun_any _ (HT.out.step HB0.out)).mono ?_
  rintro e w1 ⟨rfl, hb1⟩
  have K1 := K0.step hb1
  have HB1 : Hid (Below w.heap.size w w1) := Below.then HB0.out hb1
  have k0 := K1.c0
  have k1 := K1.c1
  clear hb1 HB0 K0
  go_wp2_with fail
  refine (tables2_any n a len cap f _ hl K1.row (HT.out.step HB1.out)).mono ?_
  rintro e w2 ⟨⟨c, x, ok, hc, rfl, hx⟩, hb2⟩
  have K2 := K1.step hb2
  have HB2 : Hid (Below w.heap.size w w2) := Below.then HB1.out hb2
  clear hb2 HB1 K1 k0 k1
  rcases hx with ⟨h0, rfl, rfl⟩ | ⟨rfl, hx⟩
  · have hne : (c != 0) = true := by simpa using h0
    have HBF : Hid (Below w.heap.size w (w2.alloc (.cells #[.int .i64 0, .slice none 0 0, .slice none 0 0] 24))) := HB2.out.alloc HB2.out.size _
    unfold noLat
    go_wp2_with fail
    go_ret
    exact ⟨rfl, HBF.out⟩
  · obtain ⟨rfl, h10, hrng, hord⟩ := hc.good
    have HSM : Hid (Sm len len (nat f)) := hrng.small
    have HO : Hid (Ord len (nat f)) := hord
    have HRG : Hid (Rng len f) := hrng
    have HTT : Hid (∀ k, k < len → trn (trn (nat f) len) len k = nat f k) := fun k hk => trn_trn hrng.small k hk
    clear hrng hord hc
    rcases hx with ⟨rfl, rfl, hno⟩ | ⟨rfl, ⟨h1, hA, hD⟩, b, cb, R, b', cb', R', rfl, t1, t2⟩
    · have B3 : Below w2.heap.size w2 (w2.alloc (.cells #[.int .i64 0, .slice none 0 0, .slice none 0 0] 24)) := (Below.refl _ _).alloc (Nat.le_refl _) _
      have K3 := K2.step B3
      have k0 := K3.c0
      have k1 := K3.c1
      have HB3 : Hid (Below w.heap.size w (w2.alloc (.cells #[.int .i64 0, .slice none 0 0, .slice none 0 0] 24))) := Below.then HB2.out B3
      have HNO : Hid (¬ (1 ≤ len ∧ AllMt (trn (nat f) len) len ∧ AllMt (trn (trn (nat f) len) len) len)) := fun h => hno ⟨h.1, (AllMt.congr (trn_sm _ _) HSM.out HTT.out).1 h.2.2, h.2.1⟩
      unfold noLat
      clear B3 HB2 K2 hno
      go_wp2_with fail
      refine (dual_any len a len cap f _ hl K3.row).mono ?_
      rintro e w4 ⟨⟨c4, y, hc4, rfl, hy⟩, hb4⟩
      obtain rfl : c4 = 0 := by
        have h2 : Chk (len : Int) len f 0 := .inr ⟨len, rfl, h10, .inr ⟨rfl, .inr ⟨HRG.out, .inr ⟨rfl, HO.out⟩⟩⟩⟩
        exact Chk.unique hc4 h2
      rcases hy with ⟨k, _⟩ | ⟨_, a', cap', rfl, hr'⟩
      · exact absurd rfl k
      have B5 : Below w4.heap.size w4 (w4.alloc (.cells #[.int .i64 (len : Int), .slice a' len cap'] 40)) := (Below.refl _ _).alloc (Nat.le_refl _) _
      have HB5 : Hid (Below w.heap.size w (w4.alloc (.cells #[.int .i64 (len : Int), .slice a' len cap'] 40))) := Below.then (Below.then HB3.out hb4) B5
      have HR5 : Hid (Row (w4.alloc (.cells #[.int .i64 (len : Int), .slice a' len cap'] 40)) a' len (fun k => (trn (nat f) len k : Nat))) := hr'.below B5
      clear hb4 B5 hr' HB3 K3 k0 k1 hc4
      go_wp2_with fail
      refine (tables2_any len a' len cap' (fun k => (trn (nat f) len k : Nat)) _ hl HR5.out (HT.out.step HB5.out)).mono ?_
      rintro e w6 ⟨⟨c6, x6, ok6, hc6, rfl, hx6⟩, hb6⟩
      obtain rfl := Chk.unique hc6 (trn_chk h10 HSM.out HO.out)
      rw [nat_cast1] at hx6
      obtain ⟨rfl, rfl⟩ : ok6 = false ∧ x6 = noLat := by
        rcases hx6 with ⟨k, _⟩ | ⟨_, ⟨h1, h2, _⟩ | ⟨_, h, _⟩⟩
        · exact absurd rfl k
        · exact ⟨h1, h2⟩
        · exact absurd h HNO.out
      have HBF : Hid (Below w.heap.size w (w6.alloc (.cells #[.int .i64 0, .slice none 0 0, .slice none 0 0] 24))) := by
        have h := Below.then HB5.out hb6
        exact h.alloc h.size _
      unfold noLat
      clear hb6 hx6 hc6 HB5 HR5 HNO
      go_wp2_with fail
      go_ret
      exact ⟨rfl, HBF.out⟩
    · have B3 : Below w2.heap.size w2 (w2.alloc (.cells #[.int .i64 (len : Nat), .slice (some ⟨b, 0, none⟩) len cb, .slice (some ⟨b', 0, none⟩) len cb'] 24)) := (Below.refl _ _).alloc (Nat.le_refl _) _
      have L3 := LB.new w2 (len : Nat) (some ⟨b, 0, none⟩) len cb (some ⟨b', 0, none⟩) len cb'
      have K3 := K2.step B3
      have k0 := K3.c0
      have k1 := K3.c1
      have HB3 : Hid (Below w.heap.size w (w2.alloc (.cells #[.int .i64 (len : Nat), .slice (some ⟨b, 0, none⟩) len cb, .slice (some ⟨b', 0, none⟩) len cb'] 24))) := Below.then HB2.out B3
      have S1 := t1.step B3
      have S2 := t2.step B3
      have HALL : Hid (1 ≤ len ∧ AllMt (trn (nat f) len) len ∧ AllMt (trn (trn (nat f) len) len) len) := ⟨h1, hD, (AllMt.congr (trn_sm _ _) HSM.out HTT.out).2 hA⟩
      have HLAT : Hid (Lat len (mF (nat f)) (mF (trn (nat f) len))) := lat_of h10 HSM.out HO.out hA hD
      have HBK : Hid (∀ k, k < len → trn (upF (mF (nat f)) len) len k = nat f k) := fun k hk => ord_back h10 HSM.out HO.out hA hk
      have HMM : Hid (∀ x y, x < len → y < len → mF (nat f) x y = mF (trn (trn (nat f) len) len) x y) := fun x y hx hy => mF_congr h10 HSM.out (trn_sm _ _) (trn_ord h10 (trn_sm _ _) (trn_ord h10 HSM.out HO.out)) hA (fun k hk => (HTT.out k hk).symm) hx hy
      clear B3 HB2 K2 t1 t2 hA hD
      go_wp2_with fail
      refine (dual_any len a len cap f _ hl K3.row).mono ?_
      rintro e w4 ⟨⟨c4, y, hc4, rfl, hy⟩, hb4⟩
      obtain rfl : c4 = 0 := by
        have h2 : Chk (len : Int) len f 0 := .inr ⟨len, rfl, h10, .inr ⟨rfl, .inr ⟨HRG.out, .inr ⟨rfl, HO.out⟩⟩⟩⟩
        exact Chk.unique hc4 h2
      rcases hy with ⟨k, _⟩ | ⟨_, a', cap', rfl, hr'⟩
      · exact absurd rfl k
      have B5 : Below w4.heap.size w4 (w4.alloc (.cells #[.int .i64 (len : Int), .slice a' len cap'] 40)) := (Below.refl _ _).alloc (Nat.le_refl _) _
      have h45 := Below.then hb4 B5
      have HB5 : Hid (Below w.heap.size w (w4.alloc (.cells #[.int .i64 (len : Int), .slice a' len cap'] 40))) := Below.then HB3.out h45
      have HR5 : Hid (Row (w4.alloc (.cells #[.int .i64 (len : Int), .slice a' len cap'] 40)) a' len (fun k => (trn (nat f) len k : Nat))) := hr'.below B5
      have L5 := L3.step h45
      have K5 := K3.step h45
      have S3 := S1.step h45
      have S4 := S2.step h45
      clear hb4 B5 hr' HB3 K3 k0 k1 hc4 h45 S1 S2 L3
      go_wp2_with fail
      refine (tables2_any len a' len cap' (fun k => (trn (nat f) len k : Nat)) _ hl HR5.out (HT.out.step HB5.out)).mono ?_
      rintro e w6 ⟨⟨c6, x6, ok6, hc6, rfl, hx6⟩, hb6⟩
      obtain rfl := Chk.unique hc6 (trn_chk h10 HSM.out HO.out)
      rw [nat_cast1] at hx6
      obtain ⟨rfl, d, cd, Q, d', cd', Q', rfl, u1, u2⟩ : ok6 = true ∧ ∃ d cd Q d' cd' Q', x6 = .agg #[.int .i64 (len : Nat), .slice (some ⟨d, 0, none⟩) len cd, .slice (some ⟨d', 0, none⟩) len cd'] ∧ Tb w6 d 0 len Q (mF (trn (nat f) len)) ∧ Tb w6 d' 0 len Q' (mF (trn (trn (nat f) len) len)) := by
        rcases hx6 with ⟨k, _⟩ | ⟨_, ⟨_, _, h⟩ | ⟨h1, _, h⟩⟩
        · exact absurd rfl k
        · exact absurd HALL.out h
        · exact ⟨h1, h⟩
      have B7 : Below w6.heap.size w6 (w6.alloc (.cells #[.int .i64 (len : Nat), .slice (some ⟨d, 0, none⟩) len cd, .slice (some ⟨d', 0, none⟩) len cd'] 24)) := (Below.refl _ _).alloc (Nat.le_refl _) _
      have h67 := Below.then hb6 B7
      have HB7 : Hid (Below w.heap.size w (w6.alloc (.cells #[.int .i64 (len : Nat), .slice (some ⟨d, 0, none⟩) len cd, .slice (some ⟨d', 0, none⟩) len cd'] 24))) := Below.then HB5.out h67
      have M7 := LB.new w6 (len : Nat) (some ⟨d, 0, none⟩) len cd (some ⟨d', 0, none⟩) len cd'
      have L7 := L5.step h67
      have K7 := K5.step h67
      have S5 := S3.step h67
      have S6 := S4.step h67
      have U1 := u1.step B7
      have U2 := u2.step B7
      have l0 := L7.1
      have l1 := L7.2.1
      have l2 := L7.2.2
      clear hb6 hx6 hc6 HB5 HR5 B7 h67 u1 u2 S3 S4 L5 K5
      go_wp2_with fail
      refine (orderL_any (len : Nat) (some ⟨b, 0, none⟩) len cb _ _ (some ⟨b', 0, none⟩) len cb' _ _ _ hl hl (S5.rr hl) (S6.rr hl)).mono ?_
      rintro e w8 ⟨⟨c0, c8, x8, hc0, ho8, rfl, hx8⟩, hb8⟩
      obtain rfl := LCk.one hc0 (LCk.of (n := len) h1 (by omega) (fun _ _ => rfl) (fun _ _ => rfl) HLAT.out)
      obtain rfl : c8 = 0 := by
        rcases ho8 with ⟨k, _⟩ | ⟨_, ⟨_, k⟩ | ⟨h, _⟩⟩
        · exact absurd rfl k
        · omega
        · exact h
      rcases hx8 with ⟨k, _⟩ | ⟨_, a8, cap8, rfl, hr8⟩
      · exact absurd rfl k
      rw [nat2_cast] at hr8
      have B9 : Below w8.heap.size w8 (w8.alloc (.cells #[.int .i64 (len : Int), .slice a8 len cap8] 40)) := (Below.refl _ _).alloc (Nat.le_refl _) _
      have h89 := Below.then hb8 B9
      have HB9 : Hid (Below w.heap.size w (w8.alloc (.cells #[.int .i64 (len : Int), .slice a8 len cap8] 40))) := Below.then HB7.out h89
      have P9 : Box (w8.alloc (.cells #[.int .i64 (len : Int), .slice a8 len cap8] 40)) w8.heap.size (len : Int) a8 len cap8 := Box.new w8 (len : Int) a8 len cap8
      have R9 : Row (w8.alloc (.cells #[.int .i64 (len : Int), .slice a8 len cap8] 40)) a8 len (fun k => (trn (upF (mF (nat f)) len) len k : Nat)) := hr8.below B9
      have M9 := M7.step h89
      have L9 := L7.step h89
      have K9 := K7.step h89
      have S7 := S5.step h89
      have S8 := S6.step h89
      have U3 := U1.step h89
      have U4 := U2.step h89
      have l3 := L9.1
      have l4 := L9.2.1
      have l5 := L9.2.2
      clear hb8 B9 h89 hr8 HB7 l0 l1 l2 L7 K7 M7 S5 S6 U1 U2 ho8 hc0
      go_wp2_with fail
      refine (lCheck_any (len : Nat) (some ⟨b, 0, none⟩) len cb _ _ (some ⟨b', 0, none⟩) len cb' _ _ _ hl hl (S7.rr hl) (S8.rr hl)).mono ?_
      rintro e wB ⟨⟨cB, rfl, hcB⟩, hbB⟩
      obtain rfl := LCk.one hcB (LCk.of (n := len) h1 (by omega) (fun _ _ => rfl) (fun _ _ => rfl) HLAT.out)
      have HBB : Hid (Below w.heap.size w wB) := Below.then HB9.out hbB
      obtain ⟨g0, g1⟩ := P9.step hbB
      have RB := R9.below hbB
      have MB := M9.step hbB
      have LBB := L9.step hbB
      have KB := K9.step hbB
      have q0 := KB.c0
      have q1 := KB.c1
      have S9 := S7.step hbB
      have SA := S8.step hbB
      have U5 := U3.step hbB
      have U6 := U4.step hbB
      clear hbB hcB l3 l4 l5 P9 R9 M9 L9 K9 S7 S8 U3 U4 HB9
      go_wp2_with fail
      refine (sameOrder_any len len a8 a len cap8 len cap _ f _ hl hl RB KB.row).mono ?_
      rintro e wC ⟨⟨sv, rfl, hsv⟩, hbC⟩
      obtain rfl : sv = true := hsv.2 ⟨rfl, rfl, fun k hk => by
        show ((trn (upF (mF (nat f)) len) len k : Nat) : Int) = f k
        rw [HBK.out k hk]
        have := HRG.out k hk
        unfold nat; omega⟩
      have HBC : Hid (Below w.heap.size w wC) := Below.then HBB.out hbC
      have MC := MB.step hbC
      have LC := LBB.step hbC
      have r0 := LC.1
      have r1 := LC.2.1
      have r2 := LC.2.2
      have v0 := MC.1
      have v1 := MC.2.1
      have v2 := MC.2.2
      have SB := S9.step hbC
      have SC := SA.step hbC
      have U7 := U5.step hbC
      have U8 := U6.step hbC
      clear hbC hsv g0 g1 q0 q1 RB KB MB LBB S9 SA U5 U6 HBB
      go_wp2_with fail
      refine (sameLattice_true (len : Nat) _ _ _ _ len len _ _ _ _ _ hl hl (EqT.of SC U7 hl (fun _ _ _ _ => rfl)) (EqT.of SB U8 hl HMM.out)).mono ?_
      rintro e wD ⟨rfl, hbD⟩
      have HBD : Hid (Below w.heap.size w wD) := Below.then HBC.out hbD
      clear hbD r0 r1 r2 v0 v1 v2 MC LC SB SC U7 U8 HBC
      go_wp2_with fail
      go_ret
      exact ⟨rfl, HBD.out⟩
end Go.Proofs.YtcngjmbiinifnaaDoor
