/-
  What extend.Nth answers. No condition but that a slice reads as a slice of numbers.
-/
import Derived.Test.YtinblbkglkhjmaaDoorNthM
namespace Go.Proofs.YtinblbkglkhjmaaDoor
open Go.RowKit
set_option maxRecDepth 100000

/-- The rows' box: what each point needs, and how they go on. -/
structure RHeld (w : World) (B : Nat) (ac : Option Addr) (cc b n : Nat) (u : Nat → Nat) : Prop where
  c0 : w.cell? ⟨B, 0, none⟩ = some (.slice ac n cc)
  c1 : w.cell? ⟨B, 1, none⟩ = some (.slice (some ⟨b, 0, none⟩) (pw n) (pw n))
  row : Row w ac n (fun k => (u k : Nat))
  tab : Tabl w b n 0 u
theorem RHeld.step {w w' : World} {B : Nat} {ac : Option Addr} {cc b n : Nat} {u : Nat → Nat} (h : RHeld w B ac cc b n u) (hb : Below w.heap.size w w') : RHeld w' B ac cc b n u :=
  ⟨(hb.cell (World.block_lt_of_cell? _ _ h.c0)).trans h.c0, (hb.cell (World.block_lt_of_cell? _ _ h.c1)).trans h.c1, h.row.below hb, h.tab.step hb⟩
theorem RHeld.box {w : World} {ac : Option Addr} {cc b n : Nat} {u : Nat → Nat} (hr : Row w ac n (fun k => (u k : Nat))) (ht : Tabl w b n 0 u) :
    RHeld (w.alloc (.cells #[.slice ac n cc, .slice (some ⟨b, 0, none⟩) (pw n) (pw n)] 91)) w.heap.size ac cc b n u :=
  ⟨by simp, by simp, hr.below ((Below.refl _ _).alloc (Nat.le_refl _) _), ht.step ((Below.refl _ _).alloc (Nat.le_refl _) _)⟩
theorem Tabl.up {w : World} {b n lo : Nat} {u : Nat → Nat} (h : Tabl w b n 0 u) : Tabl w b n lo u := fun s hs _ => h s hs (Nat.zero_le _)

theorem owns_mono {w : World} {b b' size n : Nat} {e : TypeId} {v : Value} {xs : List Value} (h : w.ownsRow b e size v n xs) (hb : b' ≤ b) : w.ownsRow b' e size v n xs := by
  refine ⟨h.1, ?_⟩
  rcases h.2 with h0 | ⟨g, cap, cur, h1, h2, h3⟩
  · exact .inl h0
  · exact .inr ⟨g, cap, cur, h1, Nat.le_trans hb h2, h3⟩
def NthPost (Z : Nat) (n : Int) (len : Nat) (f : Nat → Int) (K : Int) (e : Ending) (w' : World) : Prop :=
  ∃ c : Int, Chk n len f c ∧ ((c ≠ 0 ∧ e = .returned (.tuple #[.slice none 0 0, .int .i64 c])) ∨
    (c = 0 ∧ ¬ (0 ≤ K ∧ K < (ways (nat f) len 0 : Nat)) ∧ e = .returned (.tuple #[.slice none 0 0, .int .i64 3])) ∨
    (c = 0 ∧ ∃ k : Nat, K = (k : Nat) ∧ k < ways (nat f) len 0 ∧ ∃ a cap, e = .returned (.tuple #[.slice a len cap, .int .i64 0]) ∧ Row w' a len (fun j => (nP (nat f) len k j : Nat)) ∧ w'.ownsRow Z 3 1 (.slice a len cap) len (rowVals (nP (nat f) len k) len)))

set_option maxHeartbeats 2000000 in
theorem nth_any (n : Int) (a : Option Addr) (len cap : Nat) (f : Nat → Int) (K : Int) (w : World) (hl : len ≤ maxLen) (hr : Row w a len f) :
    Calls Tryd.prog 61 #[.agg #[.int .i64 n, .slice a len cap], .int .i64 K] w fun e w' => NthPost w.heap.size n len f K e w' ∧ Below w.heap.size w w' := by
  have K0 : Held (w.alloc (.cells #[.int .i64 n, .slice a len cap] 24)) w.heap.size n a len cap f := Held.box hr
  have HB0 : Hid (Below w.heap.size w (w.alloc (.cells #[.int .i64 n, .slice a len cap] 24))) := (Below.refl _ _).alloc (Nat.le_refl _) _
  clear hr
  go_enter Tryd.func61, Tryd.ntmps61
  go_wp2_with fail
  refine (check_any n a len cap f _ hl K0.row).mono ?_
  rintro e w1 ⟨⟨c, rfl, hc⟩, hb⟩
  have K1 := K0.step hb
  have HB1 : Hid (Below w.heap.size w w1) := Below.then HB0.out hb
  clear hb K0 HB0
  by_cases h0 : c = 0
  · subst h0
    obtain ⟨rfl, h10, hrng, hord⟩ := hc.good
    have HC : Hid (Chk (len : Int) len f 0) := hc
    have k0 := K1.c0
    have k1 := K1.c1
    go_wp2_with fail
    refine (layOut_any len a cap (nat f) none 0 0 (fun _ => (0, 0)) _ h10 hrng.small (hrng.row K1.row) (fun k hk => absurd hk (Nat.not_lt_zero _)) (by omega) (fun k hk => absurd hk (Nat.not_lt_zero _))).mono ?_
    rintro e w2 ⟨⟨ac, cc, b, rfl, hrw, htab⟩, hb2⟩
    have K2 := K1.step hb2
    have HB2 : Hid (Below w.heap.size w w2) := Below.then HB1.out hb2
    have HR2 : Hid (RHeld (w2.alloc (.cells #[.slice ac len cc, .slice (some ⟨b, 0, none⟩) (pw len) (pw len)] 91)) w2.heap.size ac cc b len (nat f)) := RHeld.box hrw htab
    have HU : Hid (∀ k, k < len → nat f k < 1024) := hrng.small2 h10
    clear hb2 HB1 htab hrw K1 k0 k1 hrng hord hc
    by_cases hK : K < 0
    · clear HU K2 HR2
      go_wp2_with fail
      go_ret2
      exact ⟨⟨0, HC.out, .inr (.inl ⟨rfl, fun h => by omega, rfl⟩)⟩, HB2.out.alloc HB2.out.size _⟩
    · have hK0 : 0 ≤ K := by omega
      obtain ⟨k, rfl⟩ : ∃ k : Nat, K = (k : Nat) := ⟨K.toNat, by omega⟩
      have KA : Hid (Held (w2.alloc (.cells #[.slice ac len cc, .slice (some ⟨b, 0, none⟩) (pw len) (pw len)] 91)) w.heap.size len a len cap f) := K2.step ((Below.refl _ _).alloc (Nat.le_refl _) _)
      have HBA : Hid (Below w.heap.size w (w2.alloc (.cells #[.slice ac len cc, .slice (some ⟨b, 0, none⟩) (pw len) (pw len)] 91))) := HB2.out.alloc HB2.out.size _
      clear HB2 K2
      go_wp2_with fail
      refine (rcount_any len b _ (nat f) _ HR2.out.tab).mono ?_
      rintro e w3 ⟨rfl, hb3⟩
      have HB3 : Hid (Below w.heap.size w w3) := Below.then HBA.out hb3
      have HR3 : Hid (RHeld w3 w2.heap.size ac cc b len (nat f)) := HR2.out.step hb3
      have K3 := KA.out.step hb3
      clear hb3 HBA HR2 KA hK hK0
      obtain ⟨u, HUE⟩ : ∃ u, Hid (u = nat f) := ⟨_, rfl⟩
      have HFIN : Hid (∀ (wx : World) a' cap', k < ways u len 0 → Row wx a' len (fun j => (nP u len k j : Nat)) → wx.ownsRow w.heap.size 3 1 (.slice a' len cap') len (rowVals (nP u len k) len) → NthPost w.heap.size len len f (k : Nat) (.returned (.tuple #[.slice a' len cap', .int .i64 0])) wx) := fun wx a' cap' h1 h2 h3 => by
        rw [HUE.out] at h1 h2 h3
        exact ⟨0, HC.out, .inr (.inr ⟨rfl, k, rfl, h1, a', cap', rfl, h2, h3⟩)⟩
      have HNO : Hid (∀ wx : World, ¬ k < ways u len 0 → NthPost w.heap.size len len f (k : Nat) (.returned (.tuple #[.slice none 0 0, .int .i64 3])) wx) := fun wx h1 => by
        rw [HUE.out] at h1
        exact ⟨0, HC.out, .inr (.inl ⟨rfl, fun h => h1 (by omega), rfl⟩)⟩
      rw [← HUE.out] at HU HR3 ⊢
      have d0 := K3.c0
      by_cases hkw : k < ways u len 0
      · have HOK : Hid (∀ t, t ≤ len → NOk u len k t) := nok hkw
        have hws := ways_small (u := u) h10 (pw_pos len)
        have HKS : Hid (k ≤ 10000000000) := by show k ≤ 10000000000; omega
        have hge : ¬ ((ways u len 0 : Nat) : Int) ≤ (k : Int) := by omega
        have HKW : Hid (k < ways u len 0) := hkw
        clear hkw hws
        generalize ways u len 0 = WW at hge ⊢
        obtain ⟨i0, hi, hz0, hz1, hz2⟩ := info_parts Tryd.info3
        go_wp2_with (at_make; refine wpList_make_own _ rfl _ _ 22 rfl w3.heap.size 3 i0 (.int .i64 0) 1 Tryd.underlying22 hi hz0 hz1 .i64 .i64 _ len rfl rfl rfl (by rw [hz2]; omega) (by unfold maxLen; omega) (Nat.le_refl _) ?_; intro w4 hown4 hgrow4; have y0 := (K3.step ((Below.refl _ _).grown hgrow4 (Nat.le_refl _) (by simp))).c0)
        have HB4 : Hid (Below w3.heap.size w3 w4) := (Below.refl _ _).grown hgrow4 (Nat.le_refl _) (by simp)
        have HO4 : Hid (w4.ownsRow w3.heap.size 3 1 (.slice (some ⟨w3.heap.size, 0, none⟩) 0 len) 0 (rowVals (nP u len k) 0)) := hown4
        clear hown4 hgrow4 y0 d0 K3 hge
        have HPL : Hid (∀ s i, s < pw len → i < len → goes u len s i ≤ 10000000000) := fun s i h1 h2 => goes_small h10 h1 h2
        have hpn := pw_le len h10
        obtain ⟨P, HP⟩ : ∃ P, Hid (P = nP u len k) := ⟨_, rfl⟩
        rw [← HP.out] at HO4
        clear HNO
        go_loopw [1, 8, 9, 31] (fun y v z x wx => ∃ t : Nat, t ≤ len ∧ x = .int .i64 t ∧ y = .int .i64 (nK u len k t : Nat) ∧ z = .int .i64 (nS u len k t : Nat) ∧ Hid (wx.ownsRow w3.heap.size 3 1 v t (rowVals P t)) ∧ Hid (Below w3.heap.size w3 wx)) (fun _ _ _ x _ => len - (intOf x).toNat)
        case atStart => exact ⟨0, Nat.zero_le _, rfl, rfl, rfl, HO4.out, HB4.out⟩
        case round =>
          clear HO4 HB4
          obtain ⟨t, ht, rfl, rfl, rfl, hown, hB⟩ := hrel
          by_cases htl : t < len
          · have ok := HOK.out t ht
            have pt := ok.pt htl
            have HPT : Hid (NPt u len k t) := pt
            have hKk : nK u len k t ≤ 10000000000 := Nat.le_trans (nK_le t) HKS.out
            have hS := ok.lt
            have HSL : Hid (nS u len k t < pw len) := ok.lt
            have HKN : Hid (nK u len k (t + 1) = nK u len k t - sumTo (goes u len (nS u len k t)) (nP u len k t)) := nK_succ u len k t
            have HSN : Hid (nS u len k (t + 1) = nS u len k t + pw (nP u len k t)) := nS_succ u len k t
            have HPE : Hid (rowVals P (t + 1) = rowVals P t ++ [.int .i64 (P t : Nat)]) := rowVals_succ P t
            have HPQ : Hid (P t = nP u len k t) := congrFun HP.out t
            have HALL : Hid (nK u len k t < sumTo (goes u len (nS u len k t)) len) := pt.all
            have HPK : Hid (∀ j, sumTo (goes u len (nS u len k t)) j ≤ nK u len k t → nK u len k t < sumTo (goes u len (nS u len k t)) (j + 1) → nP u len k t = j) := fun j h1 h2 => pick_uniq h1 h2 (search_in pt.all h1)
            have hmy := pt.may
            have HMY : Hid (may u (nS u len k t) (nP u len k t) = true) := hmy
            clear ok pt hmy
            obtain ⟨S, HS⟩ : ∃ S, Hid (S = nS u len k t) := ⟨_, rfl⟩
            rw [← HS.out] at hS HSL HKN HSN HALL HPK HMY ⊢
            obtain ⟨k0, HK0⟩ : ∃ k0, Hid (k0 = nK u len k t) := ⟨_, rfl⟩
            rw [← HK0.out] at hKk HKN HALL HPK ⊢
            clear HS HK0 HPT
            go_wp2_with fail
            go_loopw [1, 10] (fun y p wx => ∃ j : Nat, sumTo (goes u len S) j ≤ k0 ∧ y = .int .i64 (k0 - sumTo (goes u len S) j : Nat) ∧ p = .int .i64 j ∧ Hid (wx.ownsRow w3.heap.size 3 1 u8 t (rowVals P t)) ∧ Hid (Below w3.heap.size w3 wx)) (fun _ p _ => len - (intOf p).toNat)
            case atStart => exact ⟨0, Nat.zero_le _, rfl, rfl, hown.out, hB.out⟩
            case round =>
              clear hown hB
              obtain ⟨j, hj, rfl, rfl, hown, hB⟩ := hrel
              have hjl : j < len := search_in HALL.out hj
              have hR := HR3.out.step hB.out
              have c0 := hR.c0
              have c1 := hR.c1
              have HGJ : Hid (goes u len S j ≤ 10000000000) := HPL.out S j HSL.out hjl
              have HSJ : Hid (sumTo (goes u len S) (j + 1) = sumTo (goes u len S) j + goes u len S j) := rfl
              obtain ⟨s0, HS0⟩ : ∃ s0, Hid (s0 = sumTo (goes u len S) j) := ⟨_, rfl⟩
              rw [← HS0.out] at hj HSJ ⊢
              go_wp2_with fail
              refine (going_any len ac cc b (pw len) u S j _ h10 HU.out HSL.out hR.row hR.tab.up hjl).mono ?_
              rintro e w5 ⟨rfl, hb5⟩
              have HB5 : Hid (Below w3.heap.size w3 w5) := Below.then hB.out hb5
              have HO5 : Hid (w5.ownsRow w3.heap.size 3 1 u8 t (rowVals P t)) := owns_below hown.out hb5
              have hR5 := hR.step hb5
              clear hb5 hR c0 c1 hown hB
              by_cases hge : goes u len S j ≤ k0 - s0
              · have e0 := hR5.c0
                have e1 := hR5.c1
                have hgi : ((goes u len S j : Nat) : Int) ≤ ((k0 - s0 : Nat) : Int) := by omega
                go_wp2_with fail
                refine (going_any len ac cc b (pw len) u S j _ h10 HU.out HSL.out hR5.row hR5.tab.up hjl).mono ?_
                rintro e w6 ⟨rfl, hb6⟩
                have HB6 : Hid (Below w3.heap.size w3 w6) := Below.then HB5.out hb6
                have HO6 : Hid (w6.ownsRow w3.heap.size 3 1 u8 t (rowVals P t)) := owns_below HO5.out hb6
                clear hb6 hR5 e0 e1 HB5 HO5
                have hle2 : sumTo (goes u len S) (j + 1) ≤ k0 := by have := HSJ.out; omega
                have heq : k0 - sumTo (goes u len S) (j + 1) = k0 - s0 - goes u len S j := by have := HSJ.out; omega
                have HE1 : Hid (k0 - sumTo (goes u len S) (j + 1) = k0 - s0 - goes u len S j) := heq
                have HL1 : Hid (sumTo (goes u len S) (j + 1) ≤ k0) := hle2
                have hk9 : k0 - s0 ≤ 10000000000 := by omega
                clear heq hle2
                generalize goes u len S j = G at *
                generalize k0 - s0 = Y at *
                go_wp2_with fail
                go_roundw
                case rel => exact ⟨j + 1, HL1.out, by rw [HE1.out]; go_num, by go_num, HO6.out, HB6.out⟩
                case measure => simp [intOf]; omega
              · have hlt2 : k0 < sumTo (goes u len S) (j + 1) := by have := HSJ.out; omega
                have hPj := HPK.out j (by rw [← HS0.out]; exact hj) hlt2
                have hgi : ((k0 - s0 : Nat) : Int) < ((goes u len S j : Nat) : Int) := by omega
                have HKN2 : Hid (nK u len k (t + 1) = k0 - s0) := by have := HKN.out; rw [hPj, ← HS0.out] at this; exact this
                have hmj := HMY.out
                rw [hPj] at hmj
                have hsb := may_out hmj
                have hor : S ||| pw j = S + pw j := or_free hsb
                have ho := i64_or S (pw j) (by omega) (by have := pw_small j (by omega); omega)
                rw [hor] at ho
                have hpw := wrap_pow j (by omega)
                have HSN2 : Hid (nS u len k (t + 1) = S + pw j) := by have := HSN.out; rw [hPj] at this; exact this
                have HPT2 : Hid (P t = j) := HPQ.out.trans hPj
                have hown := HO5.out
                have hsz := HB5.out.size
                have HOE : Hid (∀ (wx : World) v', wx.ownsRow w3.heap.size 3 1 v' (t + 1) (rowVals P t ++ [.int .i64 (j : Nat)]) → wx.ownsRow w3.heap.size 3 1 v' (t + 1) (rowVals P (t + 1))) := fun wx v' h => by rw [HPE.out, HPT2.out]; exact h
                clear hlt2 hPj hmj hsb hor hge HKN HSN HPK HMY HALL hR5 HO5 HGJ HSJ HPQ HPE
                generalize goes u len S j = G at *
                generalize k0 - s0 = Y at *
                go_wp2_with (at_builtin; refine wpList_append_own _ rfl _ _ 22 rfl w3.heap.size 3 i0 (.int .i64 0) 1 8 Tryd.underlying22 hi hz0 hz1 hz2 rfl (by decide) _ _ _ rfl (hown.alloc _) ⟨w5.heap.size, 0, none⟩ 1 1 [.int .i64 (j : Nat)] rfl rfl ?c1 ?c2 ?c3 ?c4 ?c5 ?_)
                case c1 =>
                  intro q u hq
                  match q, hq with
                  | 0, hq => simp at hq; subst hq; simp [Addr.add]
                case c2 => intro u hu; simp at hu; subst hu; rfl
                case c3 => unfold maxLen; omega
                case c4 => omega
                case c5 => simp; omega
                intro v' w6 hown' hgrow _
                have HB6 : Hid (Below w3.heap.size w3 w6) := below_append3 HB5.out hown hgrow
                have HO6 : Hid (w6.ownsRow w3.heap.size 3 1 v' (t + 1) (rowVals P (t + 1))) := HOE.out _ _ hown'
                clear hown' hgrow hown HB5 hsz HOE
                go_wp2_with fail
                go_roundw
                case rel => exact ⟨t + 1, by omega, by go_num, by rw [HKN2.out], by rw [HSN2.out]; go_num, HO6.out, HB6.out⟩
                case measure => simp [intOf]; omega
          · have htn : t = len := by omega
            subst htn
            have HWR : Hid (wr.ownsRow w.heap.size 3 1 u8 t (rowVals P t)) := owns_mono hown.out HB3.out.size
            have HRR : Hid (∃ a' cap', u8 = .slice a' t cap' ∧ Row wr a' t (fun j => (P j : Nat))) := owns_row hown.out
            obtain ⟨a', cap', rfl, hrow⟩ := HRR.out
            have HZ : Hid (NthPost w.heap.size t t f (k : Nat) (.returned (.tuple #[.slice a' t cap', .int .i64 0])) wr) := HFIN.out wr a' cap' HKW.out (by rw [← HP.out]; exact hrow) (by rw [← HP.out]; exact HWR.out)
            clear hrow HRR hown HWR
            go_wp2_with fail
            go_ret2
            exact ⟨HZ.out, Below.then HB3.out hB.out⟩
      · have hge : ((ways u len 0 : Nat) : Int) ≤ (k : Int) := by omega
        have HZ := HNO.out w3 hkw
        generalize ways u len 0 = WW at hge ⊢
        clear hkw HNO HFIN HR3 K3 d0 HU
        go_wp2_with fail
        go_ret2
        exact ⟨HZ, HB3.out⟩
  · have hne : (c != 0) = true := by simpa using h0
    have HC : Hid (Chk n len f c) := hc
    clear hc
    go_wp2_with fail
    go_ret2
    exact ⟨⟨c, HC.out, .inl ⟨h0, rfl⟩⟩, HB1.out⟩
end Go.Proofs.YtinblbkglkhjmaaDoor
