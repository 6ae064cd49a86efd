/-
  For every order and three heaps hasselaw.EmbedDershowitz returns true, and writes nothing that was there. Conditions: the lists' lengths are their rooms at most; the table of the least bits.
-/
import Derived.Test.YtimpgcmkdcmhkabDoorDerM
namespace Go.Proofs.YtimpgcmkdcmhkabDoor
set_option maxRecDepth 100000
open Go.RowKit

theorem addr_flatD (b off j : Nat) : Addr.add ⟨b, off, none⟩ j = ⟨b, off + j, none⟩ := by
  cases j <;> simp [Addr.add]
theorem lighter_ok (n : Int) (ao : Option Addr) (len co : Nat) (f : Nat → Int) (a : Option Addr) (la ca : Nat) (fa : Nat → Int) (b : Option Addr) (lb cb : Nat) (fb : Nat → Int) (w : World) (v : Bool) (hv : lightB (nat f) len (tms la (nat fa)) (tms lb (nat fb)) = v) (ho : Row w ao len f) (ha : Row w a la fa) (hb : Row w b lb fb)
    (h0 : Chk n len f 0) (h1 : la ≤ 12) (h2 : lb ≤ 12) (h3 : ∀ i, i < la → 0 ≤ fa i ∧ fa i < n) (h4 : ∀ i, i < lb → 0 ≤ fb i ∧ fb i < n) (hT : Tab w) :
    Calls Tryd.prog 14 #[.agg #[.int .i64 n, .slice ao len co], .slice a la ca, .slice b lb cb] w fun e w' => e = .returned (.tuple #[.bool v, .int .i64 0]) ∧ Below w.heap.size w w' := by
  have hl := h0.good.2.1
  refine (lighter_any n ao len co f a la ca fa b lb cb fb w (by unfold maxLen; omega) ho (by unfold maxLen; omega) ha (by unfold maxLen; omega) hb hT).mono ?_
  rintro e w' ⟨⟨c, v', rfl, hc, hv'⟩, hb'⟩
  obtain rfl : c = 0 := hc.one (wc2_ok h0 h1 h2 h3 h4)
  refine ⟨?_, hb'⟩
  rcases hv' with ⟨h, _⟩ | ⟨_, h⟩
  · exact absurd rfl h
  · rw [h, hv]
theorem less_lit (n : Int) (a : Option Addr) (len cap : Nat) (g : Nat → Nat) (i j : Nat) (w : World) (v : Bool) (hv : (g j).testBit i = v) (hl : len ≤ 10) (hg : ∀ k, k < len → g k < 1024) (hr : Row w a len (fun k => (g k : Nat))) (hi : i < 63) (hj : j < len) :
    Calls Tryd.prog 15 #[.agg #[.int .i64 n, .slice a len cap], .int .i64 i, .int .i64 j] w fun e w' => e = .returned (.bool v) ∧ Below w.heap.size w w' :=
  (less_any n a len cap g i j w hl hg hr hi hj).mono fun _ _ ⟨h1, h2⟩ => ⟨by rw [← hv]; exact h1, h2⟩

set_option maxHeartbeats 8000000 in
theorem embedDershowitz_any (n : Int) (ao : Option Addr) (len co : Nat) (f : Nat → Int) (a : Option Addr) (la ca : Nat) (fa : Nat → Int) (b : Option Addr) (lb cb : Nat) (fb : Nat → Int) (c : Option Addr) (lc cc : Nat) (fc : Nat → Int) (w : World) (hl : len ≤ maxLen) (hla : la ≤ maxLen) (hca : la ≤ ca) (hlb : lb ≤ maxLen) (hlc : lc ≤ maxLen)
    (ho : Row w ao len f) (ha : Row w a la fa) (hb : Row w b lb fb) (hc : Row w c lc fc) (hT : Tab w) :
    Calls Tryd.prog 6 #[.agg #[.int .i64 n, .slice ao len co], .slice a la ca, .slice b lb cb, .slice c lc cc] w fun e w' => e = .returned (.bool true) ∧ Below w.heap.size w w' := by
  have HB0 : Hid (Below w.heap.size w (w.alloc (.cells #[.int .i64 n, .slice ao len co] 24))) := bel_one w _
  have K0 : Hid (Held (w.alloc (.cells #[.int .i64 n, .slice ao len co] 24)) w.heap.size n ao len co f) := Held.box ho
  have HA : Hid (Row w a la fa) := ha
  have HBB : Hid (Row w b lb fb) := hb
  have HCC : Hid (Row w c lc fc) := hc
  have HT : Hid (Tab w) := hT
  clear ho ha hb hc hT
  go_enter Tryd.func6, Tryd.ntmps6
  go_wp2_with fail
  refine (embedBegun_any _ (HT.out.step HB0.out)).mono ?_
  rintro e w0 ⟨rfl, hb0⟩
  have HB1 : Hid (Below w.heap.size w w0) := Below.then HB0.out hb0
  have K1 : Hid (Held w0 w.heap.size n ao len co f) := K0.out.step hb0
  clear hb0 HB0 K0
  have k0 := K1.out.c0
  have k1 := K1.out.c1
  go_wp2_with fail
  refine (lighter_any n ao len co f a la ca fa b lb cb fb w0 hl K1.out.row hla (HA.out.below HB1.out) hlb (HBB.out.below HB1.out) (HT.out.step HB1.out)).mono ?_
  rintro e w1 ⟨⟨c1, v1, rfl, hc1, hv1⟩, hb1⟩
  have HB2 : Hid (Below w.heap.size w w1) := Below.then HB1.out hb1
  have K2 : Hid (Held w1 w.heap.size n ao len co f) := K1.out.step hb1
  have HC1 : Hid (WC2 n len f la fa lb fb c1) := hc1
  have HV1 : Hid ((c1 ≠ 0 ∧ v1 = false) ∨ (c1 = 0 ∧ v1 = lightB (nat f) len (tms la (nat fa)) (tms lb (nat fb)))) := hv1
  clear hb1 hc1 hv1 k0 k1
  have k0 := K2.out.c0
  have k1 := K2.out.c1
  go_wp2_with fail
  refine (lighter_any n ao len co f b lb cb fb c lc cc fc w1 hl K2.out.row hlb (HBB.out.below HB2.out) hlc (HCC.out.below HB2.out) (HT.out.step HB2.out)).mono ?_
  rintro e w2 ⟨⟨c2, v2, rfl, hc2, hv2⟩, hb2⟩
  have HB3 : Hid (Below w.heap.size w w2) := Below.then HB2.out hb2
  have K3 : Hid (Held w2 w.heap.size n ao len co f) := K2.out.step hb2
  have HC2 : Hid (WC2 n len f lb fb lc fc c2) := hc2
  have HV2 : Hid ((c2 ≠ 0 ∧ v2 = false) ∨ (c2 = 0 ∧ v2 = lightB (nat f) len (tms lb (nat fb)) (tms lc (nat fc)))) := hv2
  clear hb2 hc2 hv2 k0 k1
  have k0 := K3.out.c0
  have k1 := K3.out.c1
  go_wp2_with fail
  refine (lighter_any n ao len co f a la ca fa c lc cc fc w2 hl K3.out.row hla (HA.out.below HB3.out) hlc (HCC.out.below HB3.out) (HT.out.step HB3.out)).mono ?_
  rintro e w3 ⟨⟨c3, v3, rfl, hc3, hv3⟩, hb3⟩
  have HB4 : Hid (Below w.heap.size w w3) := Below.then HB3.out hb3
  have K4 : Hid (Held w3 w.heap.size n ao len co f) := K3.out.step hb3
  have HC3 : Hid (WC2 n len f la fa lc fc c3) := hc3
  have HV3 : Hid ((c3 ≠ 0 ∧ v3 = false) ∨ (c3 = 0 ∧ v3 = lightB (nat f) len (tms la (nat fa)) (tms lc (nat fc)))) := hv3
  clear hb3 hc3 hv3 k0 k1
  by_cases h1 : c1 = 0
  · by_cases h2 : c2 = 0
    · subst h1 h2
      obtain ⟨hck, hla2, hlb2, hfa, hfb⟩ := HC1.out.good
      obtain ⟨_, _, hlc2, _, hfc⟩ := HC2.out.good
      obtain rfl : c3 = 0 := HC3.out.one (wc2_ok hck hla2 hlc2 hfa hfc)
      obtain ⟨rfl, h10, hrng, hord⟩ := hck.good
      obtain rfl : v1 = lightB (nat f) len (tms la (nat fa)) (tms lb (nat fb)) := by
        rcases HV1.out with ⟨h, _⟩ | ⟨_, h⟩
        · exact absurd rfl h
        · exact h
      obtain rfl : v2 = lightB (nat f) len (tms lb (nat fb)) (tms lc (nat fc)) := by
        rcases HV2.out with ⟨h, _⟩ | ⟨_, h⟩
        · exact absurd rfl h
        · exact h
      obtain rfl : v3 = lightB (nat f) len (tms la (nat fa)) (tms lc (nat fc)) := by
        rcases HV3.out with ⟨h, _⟩ | ⟨_, h⟩
        · exact absurd rfl h
        · exact h
      have hg := hrng.small2 h10
      have hself : lightB (nat f) len (tms la (nat fa)) (tms la (nat fa)) = false := by
        cases e : lightB (nat f) len (tms la (nat fa)) (tms la (nat fa))
        · rfl
        · exact absurd ((light_iff h10 hg).1 e) light_not_self
      obtain ⟨vb, hvb⟩ : ∃ v, lightB (nat f) len (tms lb (nat fb)) (tms la (nat fa)) = v := ⟨_, rfl⟩
      have HPB : Hid (lightB (nat f) len (tms la (nat fa)) (tms lb (nat fb)) = true → vb = false) := fun h => by
        cases vb
        · rfl
        · exact absurd ((light_iff h10 hg).1 hvb) (light_not_back hord hg ((light_iff h10 hg).1 h))
      have HPQ : Hid (lightB (nat f) len (tms la (nat fa)) (tms lb (nat fb)) = true → lightB (nat f) len (tms lb (nat fb)) (tms lc (nat fc)) = true → lightB (nat f) len (tms la (nat fa)) (tms lc (nat fc)) = true) := fun h h' =>
        (light_iff h10 hg).2 (light_trans hord hg ((light_iff h10 hg).1 h) ((light_iff h10 hg).1 h'))
      generalize lightB (nat f) len (tms la (nat fa)) (tms lb (nat fb)) = vp at *
      generalize lightB (nat f) len (tms lb (nat fb)) (tms lc (nat fc)) = vq at *
      generalize lightB (nat f) len (tms la (nat fa)) (tms lc (nat fc)) = vr at *
      have HCK : Hid (Chk len len f 0) := hck
      have HG : Hid (∀ k, k < len → nat f k < 1024) := hg
      have HIR : Hid (∀ x, x < len → (nat f x).testBit x = false) := fun x hx => (hord x hx).1
      have HSF : Hid (lightB (nat f) len (tms la (nat fa)) (tms la (nat fa)) = false) := hself
      have HVB : Hid (lightB (nat f) len (tms lb (nat fb)) (tms la (nat fa)) = vb) := hvb
      have HFA : Hid (∀ i, i < la → 0 ≤ fa i ∧ fa i < len) := hfa
      have HFB : Hid (∀ i, i < lb → 0 ≤ fb i ∧ fb i < len) := hfb
      have HFC : Hid (∀ i, i < lc → 0 ≤ fc i ∧ fc i < len) := hfc
      have HNO : Hid (∀ wx, Row wx ao len f → Row wx ao len (fun k => ((nat f k : Nat) : Int))) := fun wx h => hrng.row h
      clear hck hrng hord hg hself hvb hfa hfb hfc HV1 HV2 HV3 HC1 HC2 HC3 HB1 HB2 HB3 K1 K2 K3
      have k0 := K4.out.c0
      have k1 := K4.out.c1
      go_wp2_with fail
      refine (lighter_ok len ao len co f a la ca fa a la ca fa w3 false HSF.out K4.out.row (HA.out.below HB4.out) (HA.out.below HB4.out) HCK.out hla2 hla2 HFA.out HFA.out (HT.out.step HB4.out)).mono ?_
      rintro e w4 ⟨rfl, hb4⟩
      have HB5 : Hid (Below w.heap.size w w4) := Below.then HB4.out hb4
      have K5 : Hid (Held w4 w.heap.size len ao len co f) := K4.out.step hb4
      clear hb4 k0 k1 HB4 K4
      have k0 := K5.out.c0
      have k1 := K5.out.c1
      go_wp2_with fail
      refine (lighter_ok len ao len co f b lb cb fb a la ca fa w4 vb HVB.out K5.out.row (HBB.out.below HB5.out) (HA.out.below HB5.out) HCK.out hlb2 hla2 HFB.out HFA.out (HT.out.step HB5.out)).mono ?_
      rintro e w5 ⟨rfl, hb5⟩
      have HB6 : Hid (Below w.heap.size w w5) := Below.then HB5.out hb5
      have K6 : Hid (Held w5 w.heap.size len ao len co f) := K5.out.step hb5
      clear hb5 k0 k1 HB5 K5 HSF HVB
      cases vp
      · clear HPB HPQ
        by_cases hla0 : la = 0
        · have hz : ((la : Int) == 0) = true := by simp; omega
          have HZ : Hid (la = 0) := hla0
          clear hla0
          go_wp2_with fail
          go_ret
          exact ⟨rfl, HB6.out⟩
        · have hz : ((la : Int) == 0) = false := by simp; omega
          obtain ⟨ba, oa, hae, _⟩ := HA.out 0 (by omega)
          subst hae
          obtain ⟨oq, hoq, HOQ⟩ : ∃ oq : Nat, (if ca = 1 then some (⟨ba, oa, none⟩ : Addr) else some ⟨ba, oa + 1, none⟩) = some ⟨ba, oq, none⟩ ∧ Hid (2 ≤ la → oq = oa + 1) := by
            by_cases h : ca = 1
            · exact ⟨oa, by rw [if_pos h], fun h2 => by omega⟩
            · exact ⟨oa + 1, by rw [if_neg h], fun _ => rfl⟩
          have hone : (1 : Int) ≤ (la : Int) := by omega
          have hca1 : (1 : Int) ≤ (ca : Int) := by omega
          have hlac : (la : Int) ≤ (ca : Int) := by omega
          have hown0 : (w5.alloc (.cells #[] 3)).ownsRow w5.heap.size 3 1 (.slice (some ⟨w5.heap.size, 0, none⟩) 0 0) 0 [] := World.ownsRow_made w5 #[] 0 (Nat.le_refl _) (by unfold maxLen; omega) (by simp)
          have HAn : Hid (Row w5 (some ⟨ba, oa, none⟩) la (fun k => ((nat fa k : Nat) : Int))) := row_nat (HA.out.below HB6.out) (fun k hk => (HFA.out k hk).1)
          have HTL : Hid (∀ j u, (natVals (tl la (nat fa)))[j]? = some u → (w5.alloc (.cells #[] 3)).cell? ((⟨ba, oq, none⟩ : Addr).add j) = some u) := fun j u hj => by
            have hjl : j < la - 1 := by
              rcases Nat.lt_or_ge j (la - 1) with h | h
              · exact h
              · rw [List.getElem?_eq_none (by simp [natVals, tl_len]; omega)] at hj; cases hj
            rw [natVals_at _ _ (by rw [tl_len]; exact hjl), tl_nth _ _ _ hjl] at hj
            cases hj
            obtain ⟨b1, o1, e1, hc1⟩ := HAn.out (1 + j) (by omega)
            simp at e1
            obtain ⟨rfl, rfl⟩ := e1
            have hlt := World.block_lt_of_cell? _ _ hc1
            rw [HOQ.out (by omega), addr_flatD, Nat.add_assoc, World.cell?_alloc_old _ _ _ (Nat.ne_of_lt hlt)]
            exact hc1
          have HFN : Hid (∀ i, i < la → nat fa i < len) := fun i hi => by have := HFA.out i hi; unfold nat; omega
          have HCH : Hid (Chg (nat f) len la (nat fa) (tl la (nat fa))) := Chg.start (by omega) hla2 HFN.out
          have htl := tl_len la (nat fa)
          have HTN : Hid ((natVals (tl la (nat fa))).length = la - 1) := (by simp [natVals, tl_len] : (natVals (tl la (nat fa))).length = la - 1)
          obtain ⟨L0, HL0⟩ : ∃ L0, Hid (L0 = tl la (nat fa)) := ⟨_, rfl⟩
          rw [← HL0.out] at HTL HCH htl HTN
          have hL0 : L0.length ≤ 11 := by omega
          obtain ⟨i0, hi, hz0, hz1, hz2⟩ := info_parts Tryd.info3
          go_wp2_with (at_builtin; refine wpList_append_own _ rfl _ _ 22 rfl w5.heap.size 3 i0 (.int .i64 0) 1 8 Tryd.underlying22 hi hz0 hz1 hz2 rfl (by decide) _ _ _ rfl hown0 ⟨ba, oq, none⟩ (la - 1) (ca - 1) (natVals L0) rfl (by rw [HTN.out]; simp) ?c1 ?c2 ?c3 ?c4 ?c5 ?_)
          case c1 => exact HTL.out
          case c2 =>
            intro u hu
            simp [natVals] at hu
            obtain ⟨k, _, rfl⟩ := hu
            rfl
          case c3 => unfold maxLen; omega
          case c4 => omega
          case c5 => simp
          intro v' w6 hown' hgrow _
          have HO6 : Hid (w6.ownsRow w5.heap.size 3 1 v' L0.length (natVals L0)) := by
            rw [htl]
            first
              | exact hown'
              | simpa using hown'
          have hb6 : Below w5.heap.size w5 w6 := ((Below.refl _ _).alloc (Nat.le_refl _) _).grown hgrow (by simp) (by intro k hk; simp [Value.ownBlock] at hk; omega)
          have HB7 : Hid (Below w5.heap.size w5 w6) := hb6
          clear hown' hgrow hown0 hb6 HTL HTN HOQ hoq hL0
          go_wp2_with fail
          go_loopw [17, 18] (fun v t wx => ∃ (k : Nat) (L : List Nat), k ≤ lc ∧ t = .int .i64 k ∧ Hid (Chg (nat f) len la (nat fa) L) ∧ wx.ownsRow w5.heap.size 3 1 v L.length (natVals L) ∧ Hid (Below w5.heap.size w5 wx)) (fun _ t _ => lc - (intOf t).toNat)
          case atStart => exact ⟨0, L0, Nat.zero_le _, rfl, HCH.out, HO6.out, HB7.out⟩
          case round =>
            clear HO6 HB7 HCH
            obtain ⟨k, L, hk, rfl, hCh, hown, hB⟩ := hrel
            have HBw : Hid (Below w.heap.size w wr) := Below.then HB6.out hB.out
            have hH : Hid (Held wr w.heap.size len ao len co f) := K6.out.step hB.out
            have hL12 := hCh.out.1
            obtain ⟨a1, cap1, hve, hra1⟩ := owns_nats hown
            subst hve
            have HRL : Hid (Row wr a1 L.length (fun k => ((nth L k : Nat) : Int))) := hra1
            clear hra1
            by_cases hgo : k < lc ∧ L.length < 12
            · obtain ⟨hklt, hLlt⟩ := hgo
              have hklt' : (k : Int) < (lc : Int) := by omega
              have hLlt' : (L.length : Int) < 12 := by omega
              obtain ⟨bc, oc, hce, hcc⟩ := (row_nat (HCC.out.below HBw.out) (fun k hk => (HFC.out k hk).1)) k hklt
              subst hce
              obtain ⟨b2, o2, e2, hca0⟩ := (row_nat (HA.out.below HBw.out) (fun k hk => (HFA.out k hk).1)) 0 (by omega)
              simp at e2
              obtain ⟨rfl, rfl⟩ := e2
              have hx : nat fc k < len := by have := HFC.out k hklt; unfold nat; omega
              have hy : nat fa 0 < len := HFN.out 0 (by omega)
              have hx63 : nat fc k < 63 := by omega
              have HADD : Hid ((nat f (nat fa 0)).testBit (nat fc k) = true → Chg (nat f) len la (nat fa) (L ++ [nat fc k])) := fun h => hCh.out.add hLlt hx h (HIR.out _ hy)
              have l0 : ∀ w', Below wr.heap.size wr w' → w'.cell? ⟨w.heap.size, 0, none⟩ = some (.int .i64 (len : Int)) := fun w' h => (hH.out.step h).c0
              have l1 : ∀ w', Below wr.heap.size wr w' → w'.cell? ⟨w.heap.size, 1, none⟩ = some (.slice ao len co) := fun w' h => (hH.out.step h).c1
              have l2 : ∀ w', Below wr.heap.size wr w' → w'.cell? ⟨bc, oc + k, none⟩ = some (.int .i64 ((nat fc k : Nat) : Int)) := fun w' h => cell_step h hcc
              have l3 : ∀ w', Below wr.heap.size wr w' → w'.cell? ⟨ba, oa, none⟩ = some (.int .i64 ((nat fa 0 : Nat) : Int)) := fun w' h => by
                have := cell_step h hca0
                rw [Nat.add_zero] at this; exact this
              have HRO : Hid (∀ w', Below wr.heap.size wr w' → Row w' ao len (fun k => ((nat f k : Nat) : Int))) := fun w' h => HNO.out _ (hH.out.step h).row
              have h0la : (0 : Int) < (la : Int) := by omega
              have h0lan : 0 < la := by omega
              have HOW : Hid (wr.ownsRow w5.heap.size 3 1 (.slice a1 L.length cap1) L.length (natVals L)) := hown
              clear hcc hca0 hown
              generalize hgx : nat fc k = x at *
              generalize hgy : nat fa 0 = y at *
              generalize hW : wr = W at *
              have KK : Below W.heap.size W W.drew := (Below.refl _ _).drew
              rcases (Bool.eq_false_or_eq_true ((nat f y).testBit x)).symm with hbit | hbit
              · clear HADD
                go_wp2_with fail
                refine wp_region_held_drew (S := (fun w' => Below W.heap.size W w')) (by kernel_rfl) (KK) (fun hHeld => ?_)
                refine wpAnyH_take (i := 0) (oi := { dst := some 111, op := Go.Op.load 24 (Go.Operand.tmp 4), type := 24, pos := "embed.go:186", after := #[], guard := none }) (v := ?_) rfl (by kernel_rfl) (by kernel_rfl) (by kernel_rfl) (fun _ _ _ h => h) (Or.inl ⟨by rfl, ?hy⟩) (by assumption) ?_
                case hy => (intro w9 hSw; (try dsimp only at hSw); go_simp; try with_reducible rfl)
                try simp only [Act.put, List.setIfInBounds_toArray, List.set_cons_zero, List.set_cons_succ]
                refine wpAnyH_take (i := 1) (oi := { dst := some 112, op := Go.Op.move (Go.Operand.tmp 3), type := 22, pos := "embed.go:186", after := #[], guard := none }) (v := ?_) rfl (by kernel_rfl) (by kernel_rfl) (by kernel_rfl) (fun _ _ _ h => h) (Or.inl ⟨by rfl, ?hy⟩) (by assumption) ?_
                case hy => (intro w9 hSw; (try dsimp only at hSw); go_simp; try with_reducible rfl)
                try simp only [Act.put, List.setIfInBounds_toArray, List.set_cons_zero, List.set_cons_succ]
                refine wpAnyH_take (i := 2) (oi := { dst := some 113, op := Go.Op.move (Go.Operand.tmp 18), type := 3, pos := "embed.go:186", after := #[], guard := none }) (v := ?_) rfl (by kernel_rfl) (by kernel_rfl) (by kernel_rfl) (fun _ _ _ h => h) (Or.inl ⟨by rfl, ?hy⟩) (by assumption) ?_
                case hy => (intro w9 hSw; (try dsimp only at hSw); go_simp; try with_reducible rfl)
                try simp only [Act.put, List.setIfInBounds_toArray, List.set_cons_zero, List.set_cons_succ]
                refine wpAnyH_take (i := 3) (oi := { dst := some 114, op := Go.Op.indexAddr 22 (Go.Operand.tmp 112) (Go.Operand.tmp 113), type := 0, pos := "embed.go:186", after := #[{ on := 1, ground := Go.Ground.data }, { on := 2, ground := Go.Ground.data }], guard := none }) (v := ?_) rfl (by kernel_rfl) (by kernel_rfl) (by kernel_rfl) (fun _ _ _ h => h) (Or.inl ⟨by rfl, ?hy⟩) (by assumption) ?_
                case hy => (intro w9 hSw; (try dsimp only at hSw); go_simp; try with_reducible rfl)
                try simp only [Act.put, List.setIfInBounds_toArray, List.set_cons_zero, List.set_cons_succ]
                refine wpAnyH_take (i := 4) (oi := { dst := some 115, op := Go.Op.load 3 (Go.Operand.tmp 114), type := 3, pos := "embed.go:186", after := #[{ on := 3, ground := Go.Ground.data }], guard := none }) (v := ?_) rfl (by kernel_rfl) (by kernel_rfl) (by kernel_rfl) (fun _ _ _ h => h) (Or.inl ⟨by rfl, ?hy⟩) (by assumption) ?_
                case hy => (intro w9 hSw; (try dsimp only at hSw); go_simp; try with_reducible rfl)
                try simp only [Act.put, List.setIfInBounds_toArray, List.set_cons_zero, List.set_cons_succ]
                refine wpAnyH_take (i := 5) (oi := { dst := some 116, op := Go.Op.move (Go.Operand.tmp 1), type := 22, pos := "embed.go:186", after := #[], guard := none }) (v := ?_) rfl (by kernel_rfl) (by kernel_rfl) (by kernel_rfl) (fun _ _ _ h => h) (Or.inl ⟨by rfl, ?hy⟩) (by assumption) ?_
                case hy => (intro w9 hSw; (try dsimp only at hSw); go_simp; try with_reducible rfl)
                try simp only [Act.put, List.setIfInBounds_toArray, List.set_cons_zero, List.set_cons_succ]
                refine wpAnyH_take (i := 6) (oi := { dst := some 117, op := Go.Op.indexAddr 22 (Go.Operand.tmp 116) (Go.Operand.const (Go.Value.int Go.IntKind.i64 0)), type := 0, pos := "embed.go:186", after := #[{ on := 5, ground := Go.Ground.data }], guard := none }) (v := ?_) rfl (by kernel_rfl) (by kernel_rfl) (by kernel_rfl) (fun _ _ _ h => h) (Or.inl ⟨by rfl, ?hy⟩) (by assumption) ?_
                case hy => (intro w9 hSw; (try dsimp only at hSw); go_simp; try with_reducible rfl)
                try simp only [Act.put, List.setIfInBounds_toArray, List.set_cons_zero, List.set_cons_succ]
                refine wpAnyH_take (i := 7) (oi := { dst := some 118, op := Go.Op.load 3 (Go.Operand.tmp 117), type := 3, pos := "embed.go:186", after := #[{ on := 6, ground := Go.Ground.data }], guard := none }) (v := ?_) rfl (by kernel_rfl) (by kernel_rfl) (by kernel_rfl) (fun _ _ _ h => h) (Or.inl ⟨by rfl, ?hy⟩) (by assumption) ?_
                case hy => (intro w9 hSw; (try dsimp only at hSw); go_simp; try with_reducible rfl)
                try simp only [Act.put, List.setIfInBounds_toArray, List.set_cons_zero, List.set_cons_succ]
                refine wpAnyH_ready (rs := [8]) (by kernel_rfl) (by simp) ?_
                refine AllReadyH.cons (o := { dst := some 119, op := Go.Op.call { callee := Go.Callee.value (Go.Operand.func 15), args := #[Go.Operand.tmp 111, Go.Operand.tmp 115, Go.Operand.tmp 118], argTypes := #[24, 3, 3] }, type := 4, pos := "embed.go:186", after := #[{ on := 0, ground := Go.Ground.data }, { on := 4, ground := Go.Ground.data }, { on := 7, ground := Go.Ground.data }], guard := none }) rfl (fun K hK => ?_) AllReadyH.nil
                go_simp
                refine (less_lit len ao len co (nat f) x y _ false hbit h10 HG.out (HRO.out _ (by assumption)) hx63 hy).mono ?_
                rintro e w7 ⟨rfl, hb7⟩
                refine hK.out _ _ ?_ (fun hHeld => ?_)
                · first | assumption | exact Below.then (by assumption) (by assumption)
                clear hK K
                try simp only [Act.put, List.setIfInBounds_toArray, List.set_cons_zero, List.set_cons_succ]
                refine wpAnyH_done (by kernel_rfl) ?_ _
                try simp only [Act.put, List.setIfInBounds_toArray, List.set_cons_zero, List.set_cons_succ]
                have HBq : Hid (Below W.heap.size W w7) := by assumption
                have HB8 : Hid (Below w5.heap.size w5 w7) := Below.then hB.out HBq.out
                have hown7 := owns_below HOW.out HBq.out
                clear l0 l1 l2 l3 HBq hbit
                go_wp2_with fail
                go_roundw
                case rel => exact ⟨k + 1, L, by omega, by go_num, hCh.out, hown7, HB8.out⟩
                case measure => simp [intOf]; omega
              · have HAD : Hid (Chg (nat f) len la (nat fa) (L ++ [x])) := HADD.out hbit
                clear HADD
                go_wp2_with fail
                refine wp_region_held_drew (S := (fun w' => Below W.heap.size W w')) (by kernel_rfl) (KK) (fun hHeld => ?_)
                refine wpAnyH_take (i := 0) (oi := { dst := some 111, op := Go.Op.load 24 (Go.Operand.tmp 4), type := 24, pos := "embed.go:186", after := #[], guard := none }) (v := ?_) rfl (by kernel_rfl) (by kernel_rfl) (by kernel_rfl) (fun _ _ _ h => h) (Or.inl ⟨by rfl, ?hy⟩) (by assumption) ?_
                case hy => (intro w9 hSw; (try dsimp only at hSw); go_simp; try with_reducible rfl)
                try simp only [Act.put, List.setIfInBounds_toArray, List.set_cons_zero, List.set_cons_succ]
                refine wpAnyH_take (i := 1) (oi := { dst := some 112, op := Go.Op.move (Go.Operand.tmp 3), type := 22, pos := "embed.go:186", after := #[], guard := none }) (v := ?_) rfl (by kernel_rfl) (by kernel_rfl) (by kernel_rfl) (fun _ _ _ h => h) (Or.inl ⟨by rfl, ?hy⟩) (by assumption) ?_
                case hy => (intro w9 hSw; (try dsimp only at hSw); go_simp; try with_reducible rfl)
                try simp only [Act.put, List.setIfInBounds_toArray, List.set_cons_zero, List.set_cons_succ]
                refine wpAnyH_take (i := 2) (oi := { dst := some 113, op := Go.Op.move (Go.Operand.tmp 18), type := 3, pos := "embed.go:186", after := #[], guard := none }) (v := ?_) rfl (by kernel_rfl) (by kernel_rfl) (by kernel_rfl) (fun _ _ _ h => h) (Or.inl ⟨by rfl, ?hy⟩) (by assumption) ?_
                case hy => (intro w9 hSw; (try dsimp only at hSw); go_simp; try with_reducible rfl)
                try simp only [Act.put, List.setIfInBounds_toArray, List.set_cons_zero, List.set_cons_succ]
                refine wpAnyH_take (i := 3) (oi := { dst := some 114, op := Go.Op.indexAddr 22 (Go.Operand.tmp 112) (Go.Operand.tmp 113), type := 0, pos := "embed.go:186", after := #[{ on := 1, ground := Go.Ground.data }, { on := 2, ground := Go.Ground.data }], guard := none }) (v := ?_) rfl (by kernel_rfl) (by kernel_rfl) (by kernel_rfl) (fun _ _ _ h => h) (Or.inl ⟨by rfl, ?hy⟩) (by assumption) ?_
                case hy => (intro w9 hSw; (try dsimp only at hSw); go_simp; try with_reducible rfl)
                try simp only [Act.put, List.setIfInBounds_toArray, List.set_cons_zero, List.set_cons_succ]
                refine wpAnyH_take (i := 4) (oi := { dst := some 115, op := Go.Op.load 3 (Go.Operand.tmp 114), type := 3, pos := "embed.go:186", after := #[{ on := 3, ground := Go.Ground.data }], guard := none }) (v := ?_) rfl (by kernel_rfl) (by kernel_rfl) (by kernel_rfl) (fun _ _ _ h => h) (Or.inl ⟨by rfl, ?hy⟩) (by assumption) ?_
                case hy => (intro w9 hSw; (try dsimp only at hSw); go_simp; try with_reducible rfl)
                try simp only [Act.put, List.setIfInBounds_toArray, List.set_cons_zero, List.set_cons_succ]
                refine wpAnyH_take (i := 5) (oi := { dst := some 116, op := Go.Op.move (Go.Operand.tmp 1), type := 22, pos := "embed.go:186", after := #[], guard := none }) (v := ?_) rfl (by kernel_rfl) (by kernel_rfl) (by kernel_rfl) (fun _ _ _ h => h) (Or.inl ⟨by rfl, ?hy⟩) (by assumption) ?_
                case hy => (intro w9 hSw; (try dsimp only at hSw); go_simp; try with_reducible rfl)
                try simp only [Act.put, List.setIfInBounds_toArray, List.set_cons_zero, List.set_cons_succ]
                refine wpAnyH_take (i := 6) (oi := { dst := some 117, op := Go.Op.indexAddr 22 (Go.Operand.tmp 116) (Go.Operand.const (Go.Value.int Go.IntKind.i64 0)), type := 0, pos := "embed.go:186", after := #[{ on := 5, ground := Go.Ground.data }], guard := none }) (v := ?_) rfl (by kernel_rfl) (by kernel_rfl) (by kernel_rfl) (fun _ _ _ h => h) (Or.inl ⟨by rfl, ?hy⟩) (by assumption) ?_
                case hy => (intro w9 hSw; (try dsimp only at hSw); go_simp; try with_reducible rfl)
                try simp only [Act.put, List.setIfInBounds_toArray, List.set_cons_zero, List.set_cons_succ]
                refine wpAnyH_take (i := 7) (oi := { dst := some 118, op := Go.Op.load 3 (Go.Operand.tmp 117), type := 3, pos := "embed.go:186", after := #[{ on := 6, ground := Go.Ground.data }], guard := none }) (v := ?_) rfl (by kernel_rfl) (by kernel_rfl) (by kernel_rfl) (fun _ _ _ h => h) (Or.inl ⟨by rfl, ?hy⟩) (by assumption) ?_
                case hy => (intro w9 hSw; (try dsimp only at hSw); go_simp; try with_reducible rfl)
                try simp only [Act.put, List.setIfInBounds_toArray, List.set_cons_zero, List.set_cons_succ]
                refine wpAnyH_ready (rs := [8]) (by kernel_rfl) (by simp) ?_
                refine AllReadyH.cons (o := { dst := some 119, op := Go.Op.call { callee := Go.Callee.value (Go.Operand.func 15), args := #[Go.Operand.tmp 111, Go.Operand.tmp 115, Go.Operand.tmp 118], argTypes := #[24, 3, 3] }, type := 4, pos := "embed.go:186", after := #[{ on := 0, ground := Go.Ground.data }, { on := 4, ground := Go.Ground.data }, { on := 7, ground := Go.Ground.data }], guard := none }) rfl (fun K hK => ?_) AllReadyH.nil
                go_simp
                refine (less_lit len ao len co (nat f) x y _ true hbit h10 HG.out (HRO.out _ (by assumption)) hx63 hy).mono ?_
                rintro e w7 ⟨rfl, hb7⟩
                refine hK.out _ _ ?_ (fun hHeld => ?_)
                · first | assumption | exact Below.then (by assumption) (by assumption)
                clear hK K
                try simp only [Act.put, List.setIfInBounds_toArray, List.set_cons_zero, List.set_cons_succ]
                refine wpAnyH_done (by kernel_rfl) ?_ _
                try simp only [Act.put, List.setIfInBounds_toArray, List.set_cons_zero, List.set_cons_succ]
                have HBq : Hid (Below W.heap.size W w7) := by assumption
                have HB8 : Hid (Below w5.heap.size w5 w7) := Below.then hB.out HBq.out
                have hown7 := owns_below HOW.out HBq.out
                have q2 := l2 w7 HBq.out
                have hsz := HB8.out.size
                clear l0 l1 l2 l3 HBq hbit
                go_wp2_with (at_builtin; refine wpList_append_own _ rfl _ _ 22 rfl w5.heap.size 3 i0 (.int .i64 0) 1 8 Tryd.underlying22 hi hz0 hz1 hz2 rfl (by decide) _ _ _ rfl (hown7.alloc _) ⟨w7.heap.size, 0, none⟩ 1 1 [.int .i64 (x : Nat)] rfl rfl ?c1 ?c2 ?c3 ?c4 ?c5 ?_)
                case c1 =>
                  intro j u hj
                  match j, hj with
                  | 0, hj => simp at hj; subst hj; simp [Addr.add]
                case c2 => intro u hu; simp at hu; subst hu; rfl
                case c3 => unfold maxLen; omega
                case c4 => omega
                case c5 => simp; omega
                intro v' w8 hown' hgrow _
                have HB9 : Hid (Below w5.heap.size w5 w8) := below_append3 HB8.out hown7 hgrow
                have HO9 : Hid (w8.ownsRow w5.heap.size 3 1 v' (L ++ [x]).length (natVals (L ++ [x]))) := by
                  rw [natVals_append, List.length_append]; exact hown'
                clear hown' hgrow hown7 q2 hsz
                go_wp2_with fail
                go_roundw
                case rel => exact ⟨k + 1, L ++ [x], by omega, by go_num, HAD.out, HO9.out, HB9.out⟩
                case measure => simp [intOf]; omega
            · have k0 := hH.out.c0
              have k1 := hH.out.c1
              have HLT : Hid (lightB (nat f) len (tms L.length (nat (fun k => ((nth L k : Nat) : Int)))) (tms la (nat fa)) = true) := by
                have e : nat (fun k => ((nth L k : Nat) : Int)) = nth L := by funext q; simp [nat]
                rw [e]
                exact (light_iff h10 HG.out).2 (hCh.out.light (by omega) HFN.out)
              have HLI : Hid (∀ i, i < L.length → 0 ≤ ((nth L i : Nat) : Int) ∧ ((nth L i : Nat) : Int) < len) := fun i hi => by have := hCh.out.2.1 i hi; omega
              clear hown
              by_cases hkl : k < lc
              · have hklt' : (k : Int) < (lc : Int) := by omega
                have hLn : ¬ (L.length : Int) < 12 := by omega
                clear hgo
                go_wp2_with fail
                refine (lighter_ok len ao len co f a1 L.length cap1 _ (some ⟨ba, oa, none⟩) la ca fa wr true HLT.out hH.out.row HRL.out (HA.out.below HBw.out) HCK.out hL12 hla2 HLI.out HFA.out (HT.out.step HBw.out)).mono ?_
                rintro e w9 ⟨rfl, hb9⟩
                have HB10 : Hid (Below w.heap.size w w9) := Below.then HBw.out hb9
                clear hb9 k0 k1
                go_wp2_with fail
                go_ret
                exact ⟨rfl, HB10.out⟩
              · have hkl' : ¬ (k : Int) < (lc : Int) := by omega
                clear hgo
                go_wp2_with fail
                refine (lighter_ok len ao len co f a1 L.length cap1 _ (some ⟨ba, oa, none⟩) la ca fa wr true HLT.out hH.out.row HRL.out (HA.out.below HBw.out) HCK.out hL12 hla2 HLI.out HFA.out (HT.out.step HBw.out)).mono ?_
                rintro e w9 ⟨rfl, hb9⟩
                have HB10 : Hid (Below w.heap.size w w9) := Below.then HBw.out hb9
                clear hb9 k0 k1
                go_wp2_with fail
                go_ret
                exact ⟨rfl, HB10.out⟩
      · obtain rfl : vb = false := HPB.out rfl
        cases vq
        · clear HPB HPQ
          by_cases hla0 : la = 0
          · have hz : ((la : Int) == 0) = true := by simp; omega
            have HZ : Hid (la = 0) := hla0
            clear hla0
            go_wp2_with fail
            go_ret
            exact ⟨rfl, HB6.out⟩
          · have hz : ((la : Int) == 0) = false := by simp; omega
            obtain ⟨ba, oa, hae, _⟩ := HA.out 0 (by omega)
            subst hae
            obtain ⟨oq, hoq, HOQ⟩ : ∃ oq : Nat, (if ca = 1 then some (⟨ba, oa, none⟩ : Addr) else some ⟨ba, oa + 1, none⟩) = some ⟨ba, oq, none⟩ ∧ Hid (2 ≤ la → oq = oa + 1) := by
              by_cases h : ca = 1
              · exact ⟨oa, by rw [if_pos h], fun h2 => by omega⟩
              · exact ⟨oa + 1, by rw [if_neg h], fun _ => rfl⟩
            have hone : (1 : Int) ≤ (la : Int) := by omega
            have hca1 : (1 : Int) ≤ (ca : Int) := by omega
            have hlac : (la : Int) ≤ (ca : Int) := by omega
            have hown0 : (w5.alloc (.cells #[] 3)).ownsRow w5.heap.size 3 1 (.slice (some ⟨w5.heap.size, 0, none⟩) 0 0) 0 [] := World.ownsRow_made w5 #[] 0 (Nat.le_refl _) (by unfold maxLen; omega) (by simp)
            have HAn : Hid (Row w5 (some ⟨ba, oa, none⟩) la (fun k => ((nat fa k : Nat) : Int))) := row_nat (HA.out.below HB6.out) (fun k hk => (HFA.out k hk).1)
            have HTL : Hid (∀ j u, (natVals (tl la (nat fa)))[j]? = some u → (w5.alloc (.cells #[] 3)).cell? ((⟨ba, oq, none⟩ : Addr).add j) = some u) := fun j u hj => by
              have hjl : j < la - 1 := by
                rcases Nat.lt_or_ge j (la - 1) with h | h
                · exact h
                · rw [List.getElem?_eq_none (by simp [natVals, tl_len]; omega)] at hj; cases hj
              rw [natVals_at _ _ (by rw [tl_len]; exact hjl), tl_nth _ _ _ hjl] at hj
              cases hj
              obtain ⟨b1, o1, e1, hc1⟩ := HAn.out (1 + j) (by omega)
              simp at e1
              obtain ⟨rfl, rfl⟩ := e1
              have hlt := World.block_lt_of_cell? _ _ hc1
              rw [HOQ.out (by omega), addr_flatD, Nat.add_assoc, World.cell?_alloc_old _ _ _ (Nat.ne_of_lt hlt)]
              exact hc1
            have HFN : Hid (∀ i, i < la → nat fa i < len) := fun i hi => by have := HFA.out i hi; unfold nat; omega
            have HCH : Hid (Chg (nat f) len la (nat fa) (tl la (nat fa))) := Chg.start (by omega) hla2 HFN.out
            have htl := tl_len la (nat fa)
            have HTN : Hid ((natVals (tl la (nat fa))).length = la - 1) := (by simp [natVals, tl_len] : (natVals (tl la (nat fa))).length = la - 1)
            obtain ⟨L0, HL0⟩ : ∃ L0, Hid (L0 = tl la (nat fa)) := ⟨_, rfl⟩
            rw [← HL0.out] at HTL HCH htl HTN
            have hL0 : L0.length ≤ 11 := by omega
            obtain ⟨i0, hi, hz0, hz1, hz2⟩ := info_parts Tryd.info3
            go_wp2_with (at_builtin; refine wpList_append_own _ rfl _ _ 22 rfl w5.heap.size 3 i0 (.int .i64 0) 1 8 Tryd.underlying22 hi hz0 hz1 hz2 rfl (by decide) _ _ _ rfl hown0 ⟨ba, oq, none⟩ (la - 1) (ca - 1) (natVals L0) rfl (by rw [HTN.out]; simp) ?c1 ?c2 ?c3 ?c4 ?c5 ?_)
            case c1 => exact HTL.out
            case c2 =>
              intro u hu
              simp [natVals] at hu
              obtain ⟨k, _, rfl⟩ := hu
              rfl
            case c3 => unfold maxLen; omega
            case c4 => omega
            case c5 => simp
            intro v' w6 hown' hgrow _
            have HO6 : Hid (w6.ownsRow w5.heap.size 3 1 v' L0.length (natVals L0)) := by
              rw [htl]
              first
                | exact hown'
                | simpa using hown'
            have hb6 : Below w5.heap.size w5 w6 := ((Below.refl _ _).alloc (Nat.le_refl _) _).grown hgrow (by simp) (by intro k hk; simp [Value.ownBlock] at hk; omega)
            have HB7 : Hid (Below w5.heap.size w5 w6) := hb6
            clear hown' hgrow hown0 hb6 HTL HTN HOQ hoq hL0
            go_wp2_with fail
            go_loopw [17, 18] (fun v t wx => ∃ (k : Nat) (L : List Nat), k ≤ lc ∧ t = .int .i64 k ∧ Hid (Chg (nat f) len la (nat fa) L) ∧ wx.ownsRow w5.heap.size 3 1 v L.length (natVals L) ∧ Hid (Below w5.heap.size w5 wx)) (fun _ t _ => lc - (intOf t).toNat)
            case atStart => exact ⟨0, L0, Nat.zero_le _, rfl, HCH.out, HO6.out, HB7.out⟩
            case round =>
              clear HO6 HB7 HCH
              obtain ⟨k, L, hk, rfl, hCh, hown, hB⟩ := hrel
              have HBw : Hid (Below w.heap.size w wr) := Below.then HB6.out hB.out
              have hH : Hid (Held wr w.heap.size len ao len co f) := K6.out.step hB.out
              have hL12 := hCh.out.1
              obtain ⟨a1, cap1, hve, hra1⟩ := owns_nats hown
              subst hve
              have HRL : Hid (Row wr a1 L.length (fun k => ((nth L k : Nat) : Int))) := hra1
              clear hra1
              by_cases hgo : k < lc ∧ L.length < 12
              · obtain ⟨hklt, hLlt⟩ := hgo
                have hklt' : (k : Int) < (lc : Int) := by omega
                have hLlt' : (L.length : Int) < 12 := by omega
                obtain ⟨bc, oc, hce, hcc⟩ := (row_nat (HCC.out.below HBw.out) (fun k hk => (HFC.out k hk).1)) k hklt
                subst hce
                obtain ⟨b2, o2, e2, hca0⟩ := (row_nat (HA.out.below HBw.out) (fun k hk => (HFA.out k hk).1)) 0 (by omega)
                simp at e2
                obtain ⟨rfl, rfl⟩ := e2
                have hx : nat fc k < len := by have := HFC.out k hklt; unfold nat; omega
                have hy : nat fa 0 < len := HFN.out 0 (by omega)
                have hx63 : nat fc k < 63 := by omega
                have HADD : Hid ((nat f (nat fa 0)).testBit (nat fc k) = true → Chg (nat f) len la (nat fa) (L ++ [nat fc k])) := fun h => hCh.out.add hLlt hx h (HIR.out _ hy)
                have l0 : ∀ w', Below wr.heap.size wr w' → w'.cell? ⟨w.heap.size, 0, none⟩ = some (.int .i64 (len : Int)) := fun w' h => (hH.out.step h).c0
                have l1 : ∀ w', Below wr.heap.size wr w' → w'.cell? ⟨w.heap.size, 1, none⟩ = some (.slice ao len co) := fun w' h => (hH.out.step h).c1
                have l2 : ∀ w', Below wr.heap.size wr w' → w'.cell? ⟨bc, oc + k, none⟩ = some (.int .i64 ((nat fc k : Nat) : Int)) := fun w' h => cell_step h hcc
                have l3 : ∀ w', Below wr.heap.size wr w' → w'.cell? ⟨ba, oa, none⟩ = some (.int .i64 ((nat fa 0 : Nat) : Int)) := fun w' h => by
                  have := cell_step h hca0
                  rw [Nat.add_zero] at this; exact this
                have HRO : Hid (∀ w', Below wr.heap.size wr w' → Row w' ao len (fun k => ((nat f k : Nat) : Int))) := fun w' h => HNO.out _ (hH.out.step h).row
                have h0la : (0 : Int) < (la : Int) := by omega
                have h0lan : 0 < la := by omega
                have HOW : Hid (wr.ownsRow w5.heap.size 3 1 (.slice a1 L.length cap1) L.length (natVals L)) := hown
                clear hcc hca0 hown
                generalize hgx : nat fc k = x at *
                generalize hgy : nat fa 0 = y at *
                generalize hW : wr = W at *
                have KK : Below W.heap.size W W.drew := (Below.refl _ _).drew
                rcases (Bool.eq_false_or_eq_true ((nat f y).testBit x)).symm with hbit | hbit
                · clear HADD
                  go_wp2_with fail
                  refine wp_region_held_drew (S := (fun w' => Below W.heap.size W w')) (by kernel_rfl) (KK) (fun hHeld => ?_)
                  refine wpAnyH_take (i := 0) (oi := { dst := some 111, op := Go.Op.load 24 (Go.Operand.tmp 4), type := 24, pos := "embed.go:186", after := #[], guard := none }) (v := ?_) rfl (by kernel_rfl) (by kernel_rfl) (by kernel_rfl) (fun _ _ _ h => h) (Or.inl ⟨by rfl, ?hy⟩) (by assumption) ?_
                  case hy => (intro w9 hSw; (try dsimp only at hSw); go_simp; try with_reducible rfl)
                  try simp only [Act.put, List.setIfInBounds_toArray, List.set_cons_zero, List.set_cons_succ]
                  refine wpAnyH_take (i := 1) (oi := { dst := some 112, op := Go.Op.move (Go.Operand.tmp 3), type := 22, pos := "embed.go:186", after := #[], guard := none }) (v := ?_) rfl (by kernel_rfl) (by kernel_rfl) (by kernel_rfl) (fun _ _ _ h => h) (Or.inl ⟨by rfl, ?hy⟩) (by assumption) ?_
                  case hy => (intro w9 hSw; (try dsimp only at hSw); go_simp; try with_reducible rfl)
                  try simp only [Act.put, List.setIfInBounds_toArray, List.set_cons_zero, List.set_cons_succ]
                  refine wpAnyH_take (i := 2) (oi := { dst := some 113, op := Go.Op.move (Go.Operand.tmp 18), type := 3, pos := "embed.go:186", after := #[], guard := none }) (v := ?_) rfl (by kernel_rfl) (by kernel_rfl) (by kernel_rfl) (fun _ _ _ h => h) (Or.inl ⟨by rfl, ?hy⟩) (by assumption) ?_
                  case hy => (intro w9 hSw; (try dsimp only at hSw); go_simp; try with_reducible rfl)
                  try simp only [Act.put, List.setIfInBounds_toArray, List.set_cons_zero, List.set_cons_succ]
                  refine wpAnyH_take (i := 3) (oi := { dst := some 114, op := Go.Op.indexAddr 22 (Go.Operand.tmp 112) (Go.Operand.tmp 113), type := 0, pos := "embed.go:186", after := #[{ on := 1, ground := Go.Ground.data }, { on := 2, ground := Go.Ground.data }], guard := none }) (v := ?_) rfl (by kernel_rfl) (by kernel_rfl) (by kernel_rfl) (fun _ _ _ h => h) (Or.inl ⟨by rfl, ?hy⟩) (by assumption) ?_
                  case hy => (intro w9 hSw; (try dsimp only at hSw); go_simp; try with_reducible rfl)
                  try simp only [Act.put, List.setIfInBounds_toArray, List.set_cons_zero, List.set_cons_succ]
                  refine wpAnyH_take (i := 4) (oi := { dst := some 115, op := Go.Op.load 3 (Go.Operand.tmp 114), type := 3, pos := "embed.go:186", after := #[{ on := 3, ground := Go.Ground.data }], guard := none }) (v := ?_) rfl (by kernel_rfl) (by kernel_rfl) (by kernel_rfl) (fun _ _ _ h => h) (Or.inl ⟨by rfl, ?hy⟩) (by assumption) ?_
                  case hy => (intro w9 hSw; (try dsimp only at hSw); go_simp; try with_reducible rfl)
                  try simp only [Act.put, List.setIfInBounds_toArray, List.set_cons_zero, List.set_cons_succ]
                  refine wpAnyH_take (i := 5) (oi := { dst := some 116, op := Go.Op.move (Go.Operand.tmp 1), type := 22, pos := "embed.go:186", after := #[], guard := none }) (v := ?_) rfl (by kernel_rfl) (by kernel_rfl) (by kernel_rfl) (fun _ _ _ h => h) (Or.inl ⟨by rfl, ?hy⟩) (by assumption) ?_
                  case hy => (intro w9 hSw; (try dsimp only at hSw); go_simp; try with_reducible rfl)
                  try simp only [Act.put, List.setIfInBounds_toArray, List.set_cons_zero, List.set_cons_succ]
                  refine wpAnyH_take (i := 6) (oi := { dst := some 117, op := Go.Op.indexAddr 22 (Go.Operand.tmp 116) (Go.Operand.const (Go.Value.int Go.IntKind.i64 0)), type := 0, pos := "embed.go:186", after := #[{ on := 5, ground := Go.Ground.data }], guard := none }) (v := ?_) rfl (by kernel_rfl) (by kernel_rfl) (by kernel_rfl) (fun _ _ _ h => h) (Or.inl ⟨by rfl, ?hy⟩) (by assumption) ?_
                  case hy => (intro w9 hSw; (try dsimp only at hSw); go_simp; try with_reducible rfl)
                  try simp only [Act.put, List.setIfInBounds_toArray, List.set_cons_zero, List.set_cons_succ]
                  refine wpAnyH_take (i := 7) (oi := { dst := some 118, op := Go.Op.load 3 (Go.Operand.tmp 117), type := 3, pos := "embed.go:186", after := #[{ on := 6, ground := Go.Ground.data }], guard := none }) (v := ?_) rfl (by kernel_rfl) (by kernel_rfl) (by kernel_rfl) (fun _ _ _ h => h) (Or.inl ⟨by rfl, ?hy⟩) (by assumption) ?_
                  case hy => (intro w9 hSw; (try dsimp only at hSw); go_simp; try with_reducible rfl)
                  try simp only [Act.put, List.setIfInBounds_toArray, List.set_cons_zero, List.set_cons_succ]
                  refine wpAnyH_ready (rs := [8]) (by kernel_rfl) (by simp) ?_
                  refine AllReadyH.cons (o := { dst := some 119, op := Go.Op.call { callee := Go.Callee.value (Go.Operand.func 15), args := #[Go.Operand.tmp 111, Go.Operand.tmp 115, Go.Operand.tmp 118], argTypes := #[24, 3, 3] }, type := 4, pos := "embed.go:186", after := #[{ on := 0, ground := Go.Ground.data }, { on := 4, ground := Go.Ground.data }, { on := 7, ground := Go.Ground.data }], guard := none }) rfl (fun K hK => ?_) AllReadyH.nil
                  go_simp
                  refine (less_lit len ao len co (nat f) x y _ false hbit h10 HG.out (HRO.out _ (by assumption)) hx63 hy).mono ?_
                  rintro e w7 ⟨rfl, hb7⟩
                  refine hK.out _ _ ?_ (fun hHeld => ?_)
                  · first | assumption | exact Below.then (by assumption) (by assumption)
                  clear hK K
                  try simp only [Act.put, List.setIfInBounds_toArray, List.set_cons_zero, List.set_cons_succ]
                  refine wpAnyH_done (by kernel_rfl) ?_ _
                  try simp only [Act.put, List.setIfInBounds_toArray, List.set_cons_zero, List.set_cons_succ]
                  have HBq : Hid (Below W.heap.size W w7) := by assumption
                  have HB8 : Hid (Below w5.heap.size w5 w7) := Below.then hB.out HBq.out
                  have hown7 := owns_below HOW.out HBq.out
                  clear l0 l1 l2 l3 HBq hbit
                  go_wp2_with fail
                  go_roundw
                  case rel => exact ⟨k + 1, L, by omega, by go_num, hCh.out, hown7, HB8.out⟩
                  case measure => simp [intOf]; omega
                · have HAD : Hid (Chg (nat f) len la (nat fa) (L ++ [x])) := HADD.out hbit
                  clear HADD
                  go_wp2_with fail
                  refine wp_region_held_drew (S := (fun w' => Below W.heap.size W w')) (by kernel_rfl) (KK) (fun hHeld => ?_)
                  refine wpAnyH_take (i := 0) (oi := { dst := some 111, op := Go.Op.load 24 (Go.Operand.tmp 4), type := 24, pos := "embed.go:186", after := #[], guard := none }) (v := ?_) rfl (by kernel_rfl) (by kernel_rfl) (by kernel_rfl) (fun _ _ _ h => h) (Or.inl ⟨by rfl, ?hy⟩) (by assumption) ?_
                  case hy => (intro w9 hSw; (try dsimp only at hSw); go_simp; try with_reducible rfl)
                  try simp only [Act.put, List.setIfInBounds_toArray, List.set_cons_zero, List.set_cons_succ]
                  refine wpAnyH_take (i := 1) (oi := { dst := some 112, op := Go.Op.move (Go.Operand.tmp 3), type := 22, pos := "embed.go:186", after := #[], guard := none }) (v := ?_) rfl (by kernel_rfl) (by kernel_rfl) (by kernel_rfl) (fun _ _ _ h => h) (Or.inl ⟨by rfl, ?hy⟩) (by assumption) ?_
                  case hy => (intro w9 hSw; (try dsimp only at hSw); go_simp; try with_reducible rfl)
                  try simp only [Act.put, List.setIfInBounds_toArray, List.set_cons_zero, List.set_cons_succ]
                  refine wpAnyH_take (i := 2) (oi := { dst := some 113, op := Go.Op.move (Go.Operand.tmp 18), type := 3, pos := "embed.go:186", after := #[], guard := none }) (v := ?_) rfl (by kernel_rfl) (by kernel_rfl) (by kernel_rfl) (fun _ _ _ h => h) (Or.inl ⟨by rfl, ?hy⟩) (by assumption) ?_
                  case hy => (intro w9 hSw; (try dsimp only at hSw); go_simp; try with_reducible rfl)
                  try simp only [Act.put, List.setIfInBounds_toArray, List.set_cons_zero, List.set_cons_succ]
                  refine wpAnyH_take (i := 3) (oi := { dst := some 114, op := Go.Op.indexAddr 22 (Go.Operand.tmp 112) (Go.Operand.tmp 113), type := 0, pos := "embed.go:186", after := #[{ on := 1, ground := Go.Ground.data }, { on := 2, ground := Go.Ground.data }], guard := none }) (v := ?_) rfl (by kernel_rfl) (by kernel_rfl) (by kernel_rfl) (fun _ _ _ h => h) (Or.inl ⟨by rfl, ?hy⟩) (by assumption) ?_
                  case hy => (intro w9 hSw; (try dsimp only at hSw); go_simp; try with_reducible rfl)
                  try simp only [Act.put, List.setIfInBounds_toArray, List.set_cons_zero, List.set_cons_succ]
                  refine wpAnyH_take (i := 4) (oi := { dst := some 115, op := Go.Op.load 3 (Go.Operand.tmp 114), type := 3, pos := "embed.go:186", after := #[{ on := 3, ground := Go.Ground.data }], guard := none }) (v := ?_) rfl (by kernel_rfl) (by kernel_rfl) (by kernel_rfl) (fun _ _ _ h => h) (Or.inl ⟨by rfl, ?hy⟩) (by assumption) ?_
                  case hy => (intro w9 hSw; (try dsimp only at hSw); go_simp; try with_reducible rfl)
                  try simp only [Act.put, List.setIfInBounds_toArray, List.set_cons_zero, List.set_cons_succ]
                  refine wpAnyH_take (i := 5) (oi := { dst := some 116, op := Go.Op.move (Go.Operand.tmp 1), type := 22, pos := "embed.go:186", after := #[], guard := none }) (v := ?_) rfl (by kernel_rfl) (by kernel_rfl) (by kernel_rfl) (fun _ _ _ h => h) (Or.inl ⟨by rfl, ?hy⟩) (by assumption) ?_
                  case hy => (intro w9 hSw; (try dsimp only at hSw); go_simp; try with_reducible rfl)
                  try simp only [Act.put, List.setIfInBounds_toArray, List.set_cons_zero, List.set_cons_succ]
                  refine wpAnyH_take (i := 6) (oi := { dst := some 117, op := Go.Op.indexAddr 22 (Go.Operand.tmp 116) (Go.Operand.const (Go.Value.int Go.IntKind.i64 0)), type := 0, pos := "embed.go:186", after := #[{ on := 5, ground := Go.Ground.data }], guard := none }) (v := ?_) rfl (by kernel_rfl) (by kernel_rfl) (by kernel_rfl) (fun _ _ _ h => h) (Or.inl ⟨by rfl, ?hy⟩) (by assumption) ?_
                  case hy => (intro w9 hSw; (try dsimp only at hSw); go_simp; try with_reducible rfl)
                  try simp only [Act.put, List.setIfInBounds_toArray, List.set_cons_zero, List.set_cons_succ]
                  refine wpAnyH_take (i := 7) (oi := { dst := some 118, op := Go.Op.load 3 (Go.Operand.tmp 117), type := 3, pos := "embed.go:186", after := #[{ on := 6, ground := Go.Ground.data }], guard := none }) (v := ?_) rfl (by kernel_rfl) (by kernel_rfl) (by kernel_rfl) (fun _ _ _ h => h) (Or.inl ⟨by rfl, ?hy⟩) (by assumption) ?_
                  case hy => (intro w9 hSw; (try dsimp only at hSw); go_simp; try with_reducible rfl)
                  try simp only [Act.put, List.setIfInBounds_toArray, List.set_cons_zero, List.set_cons_succ]
                  refine wpAnyH_ready (rs := [8]) (by kernel_rfl) (by simp) ?_
                  refine AllReadyH.cons (o := { dst := some 119, op := Go.Op.call { callee := Go.Callee.value (Go.Operand.func 15), args := #[Go.Operand.tmp 111, Go.Operand.tmp 115, Go.Operand.tmp 118], argTypes := #[24, 3, 3] }, type := 4, pos := "embed.go:186", after := #[{ on := 0, ground := Go.Ground.data }, { on := 4, ground := Go.Ground.data }, { on := 7, ground := Go.Ground.data }], guard := none }) rfl (fun K hK => ?_) AllReadyH.nil
                  go_simp
                  refine (less_lit len ao len co (nat f) x y _ true hbit h10 HG.out (HRO.out _ (by assumption)) hx63 hy).mono ?_
                  rintro e w7 ⟨rfl, hb7⟩
                  refine hK.out _ _ ?_ (fun hHeld => ?_)
                  · first | assumption | exact Below.then (by assumption) (by assumption)
                  clear hK K
                  try simp only [Act.put, List.setIfInBounds_toArray, List.set_cons_zero, List.set_cons_succ]
                  refine wpAnyH_done (by kernel_rfl) ?_ _
                  try simp only [Act.put, List.setIfInBounds_toArray, List.set_cons_zero, List.set_cons_succ]
                  have HBq : Hid (Below W.heap.size W w7) := by assumption
                  have HB8 : Hid (Below w5.heap.size w5 w7) := Below.then hB.out HBq.out
                  have hown7 := owns_below HOW.out HBq.out
                  have q2 := l2 w7 HBq.out
                  have hsz := HB8.out.size
                  clear l0 l1 l2 l3 HBq hbit
                  go_wp2_with (at_builtin; refine wpList_append_own _ rfl _ _ 22 rfl w5.heap.size 3 i0 (.int .i64 0) 1 8 Tryd.underlying22 hi hz0 hz1 hz2 rfl (by decide) _ _ _ rfl (hown7.alloc _) ⟨w7.heap.size, 0, none⟩ 1 1 [.int .i64 (x : Nat)] rfl rfl ?c1 ?c2 ?c3 ?c4 ?c5 ?_)
                  case c1 =>
                    intro j u hj
                    match j, hj with
                    | 0, hj => simp at hj; subst hj; simp [Addr.add]
                  case c2 => intro u hu; simp at hu; subst hu; rfl
                  case c3 => unfold maxLen; omega
                  case c4 => omega
                  case c5 => simp; omega
                  intro v' w8 hown' hgrow _
                  have HB9 : Hid (Below w5.heap.size w5 w8) := below_append3 HB8.out hown7 hgrow
                  have HO9 : Hid (w8.ownsRow w5.heap.size 3 1 v' (L ++ [x]).length (natVals (L ++ [x]))) := by
                    rw [natVals_append, List.length_append]; exact hown'
                  clear hown' hgrow hown7 q2 hsz
                  go_wp2_with fail
                  go_roundw
                  case rel => exact ⟨k + 1, L ++ [x], by omega, by go_num, HAD.out, HO9.out, HB9.out⟩
                  case measure => simp [intOf]; omega
              · have k0 := hH.out.c0
                have k1 := hH.out.c1
                have HLT : Hid (lightB (nat f) len (tms L.length (nat (fun k => ((nth L k : Nat) : Int)))) (tms la (nat fa)) = true) := by
                  have e : nat (fun k => ((nth L k : Nat) : Int)) = nth L := by funext q; simp [nat]
                  rw [e]
                  exact (light_iff h10 HG.out).2 (hCh.out.light (by omega) HFN.out)
                have HLI : Hid (∀ i, i < L.length → 0 ≤ ((nth L i : Nat) : Int) ∧ ((nth L i : Nat) : Int) < len) := fun i hi => by have := hCh.out.2.1 i hi; omega
                clear hown
                by_cases hkl : k < lc
                · have hklt' : (k : Int) < (lc : Int) := by omega
                  have hLn : ¬ (L.length : Int) < 12 := by omega
                  clear hgo
                  go_wp2_with fail
                  refine (lighter_ok len ao len co f a1 L.length cap1 _ (some ⟨ba, oa, none⟩) la ca fa wr true HLT.out hH.out.row HRL.out (HA.out.below HBw.out) HCK.out hL12 hla2 HLI.out HFA.out (HT.out.step HBw.out)).mono ?_
                  rintro e w9 ⟨rfl, hb9⟩
                  have HB10 : Hid (Below w.heap.size w w9) := Below.then HBw.out hb9
                  clear hb9 k0 k1
                  go_wp2_with fail
                  go_ret
                  exact ⟨rfl, HB10.out⟩
                · have hkl' : ¬ (k : Int) < (lc : Int) := by omega
                  clear hgo
                  go_wp2_with fail
                  refine (lighter_ok len ao len co f a1 L.length cap1 _ (some ⟨ba, oa, none⟩) la ca fa wr true HLT.out hH.out.row HRL.out (HA.out.below HBw.out) HCK.out hL12 hla2 HLI.out HFA.out (HT.out.step HBw.out)).mono ?_
                  rintro e w9 ⟨rfl, hb9⟩
                  have HB10 : Hid (Below w.heap.size w w9) := Below.then HBw.out hb9
                  clear hb9 k0 k1
                  go_wp2_with fail
                  go_ret
                  exact ⟨rfl, HB10.out⟩
        · obtain rfl : vr = true := HPQ.out rfl rfl
          clear HPB HPQ
          by_cases hla0 : la = 0
          · have hz : ((la : Int) == 0) = true := by simp; omega
            have HZ : Hid (la = 0) := hla0
            clear hla0
            go_wp2_with fail
            go_ret
            exact ⟨rfl, HB6.out⟩
          · have hz : ((la : Int) == 0) = false := by simp; omega
            obtain ⟨ba, oa, hae, _⟩ := HA.out 0 (by omega)
            subst hae
            obtain ⟨oq, hoq, HOQ⟩ : ∃ oq : Nat, (if ca = 1 then some (⟨ba, oa, none⟩ : Addr) else some ⟨ba, oa + 1, none⟩) = some ⟨ba, oq, none⟩ ∧ Hid (2 ≤ la → oq = oa + 1) := by
              by_cases h : ca = 1
              · exact ⟨oa, by rw [if_pos h], fun h2 => by omega⟩
              · exact ⟨oa + 1, by rw [if_neg h], fun _ => rfl⟩
            have hone : (1 : Int) ≤ (la : Int) := by omega
            have hca1 : (1 : Int) ≤ (ca : Int) := by omega
            have hlac : (la : Int) ≤ (ca : Int) := by omega
            have hown0 : (w5.alloc (.cells #[] 3)).ownsRow w5.heap.size 3 1 (.slice (some ⟨w5.heap.size, 0, none⟩) 0 0) 0 [] := World.ownsRow_made w5 #[] 0 (Nat.le_refl _) (by unfold maxLen; omega) (by simp)
            have HAn : Hid (Row w5 (some ⟨ba, oa, none⟩) la (fun k => ((nat fa k : Nat) : Int))) := row_nat (HA.out.below HB6.out) (fun k hk => (HFA.out k hk).1)
            have HTL : Hid (∀ j u, (natVals (tl la (nat fa)))[j]? = some u → (w5.alloc (.cells #[] 3)).cell? ((⟨ba, oq, none⟩ : Addr).add j) = some u) := fun j u hj => by
              have hjl : j < la - 1 := by
                rcases Nat.lt_or_ge j (la - 1) with h | h
                · exact h
                · rw [List.getElem?_eq_none (by simp [natVals, tl_len]; omega)] at hj; cases hj
              rw [natVals_at _ _ (by rw [tl_len]; exact hjl), tl_nth _ _ _ hjl] at hj
              cases hj
              obtain ⟨b1, o1, e1, hc1⟩ := HAn.out (1 + j) (by omega)
              simp at e1
              obtain ⟨rfl, rfl⟩ := e1
              have hlt := World.block_lt_of_cell? _ _ hc1
              rw [HOQ.out (by omega), addr_flatD, Nat.add_assoc, World.cell?_alloc_old _ _ _ (Nat.ne_of_lt hlt)]
              exact hc1
            have HFN : Hid (∀ i, i < la → nat fa i < len) := fun i hi => by have := HFA.out i hi; unfold nat; omega
            have HCH : Hid (Chg (nat f) len la (nat fa) (tl la (nat fa))) := Chg.start (by omega) hla2 HFN.out
            have htl := tl_len la (nat fa)
            have HTN : Hid ((natVals (tl la (nat fa))).length = la - 1) := (by simp [natVals, tl_len] : (natVals (tl la (nat fa))).length = la - 1)
            obtain ⟨L0, HL0⟩ : ∃ L0, Hid (L0 = tl la (nat fa)) := ⟨_, rfl⟩
            rw [← HL0.out] at HTL HCH htl HTN
            have hL0 : L0.length ≤ 11 := by omega
            obtain ⟨i0, hi, hz0, hz1, hz2⟩ := info_parts Tryd.info3
            go_wp2_with (at_builtin; refine wpList_append_own _ rfl _ _ 22 rfl w5.heap.size 3 i0 (.int .i64 0) 1 8 Tryd.underlying22 hi hz0 hz1 hz2 rfl (by decide) _ _ _ rfl hown0 ⟨ba, oq, none⟩ (la - 1) (ca - 1) (natVals L0) rfl (by rw [HTN.out]; simp) ?c1 ?c2 ?c3 ?c4 ?c5 ?_)
            case c1 => exact HTL.out
            case c2 =>
              intro u hu
              simp [natVals] at hu
              obtain ⟨k, _, rfl⟩ := hu
              rfl
            case c3 => unfold maxLen; omega
            case c4 => omega
            case c5 => simp
            intro v' w6 hown' hgrow _
            have HO6 : Hid (w6.ownsRow w5.heap.size 3 1 v' L0.length (natVals L0)) := by
              rw [htl]
              first
                | exact hown'
                | simpa using hown'
            have hb6 : Below w5.heap.size w5 w6 := ((Below.refl _ _).alloc (Nat.le_refl _) _).grown hgrow (by simp) (by intro k hk; simp [Value.ownBlock] at hk; omega)
            have HB7 : Hid (Below w5.heap.size w5 w6) := hb6
            clear hown' hgrow hown0 hb6 HTL HTN HOQ hoq hL0
            go_wp2_with fail
            go_loopw [17, 18] (fun v t wx => ∃ (k : Nat) (L : List Nat), k ≤ lc ∧ t = .int .i64 k ∧ Hid (Chg (nat f) len la (nat fa) L) ∧ wx.ownsRow w5.heap.size 3 1 v L.length (natVals L) ∧ Hid (Below w5.heap.size w5 wx)) (fun _ t _ => lc - (intOf t).toNat)
            case atStart => exact ⟨0, L0, Nat.zero_le _, rfl, HCH.out, HO6.out, HB7.out⟩
            case round =>
              clear HO6 HB7 HCH
              obtain ⟨k, L, hk, rfl, hCh, hown, hB⟩ := hrel
              have HBw : Hid (Below w.heap.size w wr) := Below.then HB6.out hB.out
              have hH : Hid (Held wr w.heap.size len ao len co f) := K6.out.step hB.out
              have hL12 := hCh.out.1
              obtain ⟨a1, cap1, hve, hra1⟩ := owns_nats hown
              subst hve
              have HRL : Hid (Row wr a1 L.length (fun k => ((nth L k : Nat) : Int))) := hra1
              clear hra1
              by_cases hgo : k < lc ∧ L.length < 12
              · obtain ⟨hklt, hLlt⟩ := hgo
                have hklt' : (k : Int) < (lc : Int) := by omega
                have hLlt' : (L.length : Int) < 12 := by omega
                obtain ⟨bc, oc, hce, hcc⟩ := (row_nat (HCC.out.below HBw.out) (fun k hk => (HFC.out k hk).1)) k hklt
                subst hce
                obtain ⟨b2, o2, e2, hca0⟩ := (row_nat (HA.out.below HBw.out) (fun k hk => (HFA.out k hk).1)) 0 (by omega)
                simp at e2
                obtain ⟨rfl, rfl⟩ := e2
                have hx : nat fc k < len := by have := HFC.out k hklt; unfold nat; omega
                have hy : nat fa 0 < len := HFN.out 0 (by omega)
                have hx63 : nat fc k < 63 := by omega
                have HADD : Hid ((nat f (nat fa 0)).testBit (nat fc k) = true → Chg (nat f) len la (nat fa) (L ++ [nat fc k])) := fun h => hCh.out.add hLlt hx h (HIR.out _ hy)
                have l0 : ∀ w', Below wr.heap.size wr w' → w'.cell? ⟨w.heap.size, 0, none⟩ = some (.int .i64 (len : Int)) := fun w' h => (hH.out.step h).c0
                have l1 : ∀ w', Below wr.heap.size wr w' → w'.cell? ⟨w.heap.size, 1, none⟩ = some (.slice ao len co) := fun w' h => (hH.out.step h).c1
                have l2 : ∀ w', Below wr.heap.size wr w' → w'.cell? ⟨bc, oc + k, none⟩ = some (.int .i64 ((nat fc k : Nat) : Int)) := fun w' h => cell_step h hcc
                have l3 : ∀ w', Below wr.heap.size wr w' → w'.cell? ⟨ba, oa, none⟩ = some (.int .i64 ((nat fa 0 : Nat) : Int)) := fun w' h => by
                  have := cell_step h hca0
                  rw [Nat.add_zero] at this; exact this
                have HRO : Hid (∀ w', Below wr.heap.size wr w' → Row w' ao len (fun k => ((nat f k : Nat) : Int))) := fun w' h => HNO.out _ (hH.out.step h).row
                have h0la : (0 : Int) < (la : Int) := by omega
                have h0lan : 0 < la := by omega
                have HOW : Hid (wr.ownsRow w5.heap.size 3 1 (.slice a1 L.length cap1) L.length (natVals L)) := hown
                clear hcc hca0 hown
                generalize hgx : nat fc k = x at *
                generalize hgy : nat fa 0 = y at *
                generalize hW : wr = W at *
                have KK : Below W.heap.size W W.drew := (Below.refl _ _).drew
                rcases (Bool.eq_false_or_eq_true ((nat f y).testBit x)).symm with hbit | hbit
                · clear HADD
                  go_wp2_with fail
                  refine wp_region_held_drew (S := (fun w' => Below W.heap.size W w')) (by kernel_rfl) (KK) (fun hHeld => ?_)
                  refine wpAnyH_take (i := 0) (oi := { dst := some 111, op := Go.Op.load 24 (Go.Operand.tmp 4), type := 24, pos := "embed.go:186", after := #[], guard := none }) (v := ?_) rfl (by kernel_rfl) (by kernel_rfl) (by kernel_rfl) (fun _ _ _ h => h) (Or.inl ⟨by rfl, ?hy⟩) (by assumption) ?_
                  case hy => (intro w9 hSw; (try dsimp only at hSw); go_simp; try with_reducible rfl)
                  try simp only [Act.put, List.setIfInBounds_toArray, List.set_cons_zero, List.set_cons_succ]
                  refine wpAnyH_take (i := 1) (oi := { dst := some 112, op := Go.Op.move (Go.Operand.tmp 3), type := 22, pos := "embed.go:186", after := #[], guard := none }) (v := ?_) rfl (by kernel_rfl) (by kernel_rfl) (by kernel_rfl) (fun _ _ _ h => h) (Or.inl ⟨by rfl, ?hy⟩) (by assumption) ?_
                  case hy => (intro w9 hSw; (try dsimp only at hSw); go_simp; try with_reducible rfl)
                  try simp only [Act.put, List.setIfInBounds_toArray, List.set_cons_zero, List.set_cons_succ]
                  refine wpAnyH_take (i := 2) (oi := { dst := some 113, op := Go.Op.move (Go.Operand.tmp 18), type := 3, pos := "embed.go:186", after := #[], guard := none }) (v := ?_) rfl (by kernel_rfl) (by kernel_rfl) (by kernel_rfl) (fun _ _ _ h => h) (Or.inl ⟨by rfl, ?hy⟩) (by assumption) ?_
                  case hy => (intro w9 hSw; (try dsimp only at hSw); go_simp; try with_reducible rfl)
                  try simp only [Act.put, List.setIfInBounds_toArray, List.set_cons_zero, List.set_cons_succ]
                  refine wpAnyH_take (i := 3) (oi := { dst := some 114, op := Go.Op.indexAddr 22 (Go.Operand.tmp 112) (Go.Operand.tmp 113), type := 0, pos := "embed.go:186", after := #[{ on := 1, ground := Go.Ground.data }, { on := 2, ground := Go.Ground.data }], guard := none }) (v := ?_) rfl (by kernel_rfl) (by kernel_rfl) (by kernel_rfl) (fun _ _ _ h => h) (Or.inl ⟨by rfl, ?hy⟩) (by assumption) ?_
                  case hy => (intro w9 hSw; (try dsimp only at hSw); go_simp; try with_reducible rfl)
                  try simp only [Act.put, List.setIfInBounds_toArray, List.set_cons_zero, List.set_cons_succ]
                  refine wpAnyH_take (i := 4) (oi := { dst := some 115, op := Go.Op.load 3 (Go.Operand.tmp 114), type := 3, pos := "embed.go:186", after := #[{ on := 3, ground := Go.Ground.data }], guard := none }) (v := ?_) rfl (by kernel_rfl) (by kernel_rfl) (by kernel_rfl) (fun _ _ _ h => h) (Or.inl ⟨by rfl, ?hy⟩) (by assumption) ?_
                  case hy => (intro w9 hSw; (try dsimp only at hSw); go_simp; try with_reducible rfl)
                  try simp only [Act.put, List.setIfInBounds_toArray, List.set_cons_zero, List.set_cons_succ]
                  refine wpAnyH_take (i := 5) (oi := { dst := some 116, op := Go.Op.move (Go.Operand.tmp 1), type := 22, pos := "embed.go:186", after := #[], guard := none }) (v := ?_) rfl (by kernel_rfl) (by kernel_rfl) (by kernel_rfl) (fun _ _ _ h => h) (Or.inl ⟨by rfl, ?hy⟩) (by assumption) ?_
                  case hy => (intro w9 hSw; (try dsimp only at hSw); go_simp; try with_reducible rfl)
                  try simp only [Act.put, List.setIfInBounds_toArray, List.set_cons_zero, List.set_cons_succ]
                  refine wpAnyH_take (i := 6) (oi := { dst := some 117, op := Go.Op.indexAddr 22 (Go.Operand.tmp 116) (Go.Operand.const (Go.Value.int Go.IntKind.i64 0)), type := 0, pos := "embed.go:186", after := #[{ on := 5, ground := Go.Ground.data }], guard := none }) (v := ?_) rfl (by kernel_rfl) (by kernel_rfl) (by kernel_rfl) (fun _ _ _ h => h) (Or.inl ⟨by rfl, ?hy⟩) (by assumption) ?_
                  case hy => (intro w9 hSw; (try dsimp only at hSw); go_simp; try with_reducible rfl)
                  try simp only [Act.put, List.setIfInBounds_toArray, List.set_cons_zero, List.set_cons_succ]
                  refine wpAnyH_take (i := 7) (oi := { dst := some 118, op := Go.Op.load 3 (Go.Operand.tmp 117), type := 3, pos := "embed.go:186", after := #[{ on := 6, ground := Go.Ground.data }], guard := none }) (v := ?_) rfl (by kernel_rfl) (by kernel_rfl) (by kernel_rfl) (fun _ _ _ h => h) (Or.inl ⟨by rfl, ?hy⟩) (by assumption) ?_
                  case hy => (intro w9 hSw; (try dsimp only at hSw); go_simp; try with_reducible rfl)
                  try simp only [Act.put, List.setIfInBounds_toArray, List.set_cons_zero, List.set_cons_succ]
                  refine wpAnyH_ready (rs := [8]) (by kernel_rfl) (by simp) ?_
                  refine AllReadyH.cons (o := { dst := some 119, op := Go.Op.call { callee := Go.Callee.value (Go.Operand.func 15), args := #[Go.Operand.tmp 111, Go.Operand.tmp 115, Go.Operand.tmp 118], argTypes := #[24, 3, 3] }, type := 4, pos := "embed.go:186", after := #[{ on := 0, ground := Go.Ground.data }, { on := 4, ground := Go.Ground.data }, { on := 7, ground := Go.Ground.data }], guard := none }) rfl (fun K hK => ?_) AllReadyH.nil
                  go_simp
                  refine (less_lit len ao len co (nat f) x y _ false hbit h10 HG.out (HRO.out _ (by assumption)) hx63 hy).mono ?_
                  rintro e w7 ⟨rfl, hb7⟩
                  refine hK.out _ _ ?_ (fun hHeld => ?_)
                  · first | assumption | exact Below.then (by assumption) (by assumption)
                  clear hK K
                  try simp only [Act.put, List.setIfInBounds_toArray, List.set_cons_zero, List.set_cons_succ]
                  refine wpAnyH_done (by kernel_rfl) ?_ _
                  try simp only [Act.put, List.setIfInBounds_toArray, List.set_cons_zero, List.set_cons_succ]
                  have HBq : Hid (Below W.heap.size W w7) := by assumption
                  have HB8 : Hid (Below w5.heap.size w5 w7) := Below.then hB.out HBq.out
                  have hown7 := owns_below HOW.out HBq.out
                  clear l0 l1 l2 l3 HBq hbit
                  go_wp2_with fail
                  go_roundw
                  case rel => exact ⟨k + 1, L, by omega, by go_num, hCh.out, hown7, HB8.out⟩
                  case measure => simp [intOf]; omega
                · have HAD : Hid (Chg (nat f) len la (nat fa) (L ++ [x])) := HADD.out hbit
                  clear HADD
                  go_wp2_with fail
                  refine wp_region_held_drew (S := (fun w' => Below W.heap.size W w')) (by kernel_rfl) (KK) (fun hHeld => ?_)
                  refine wpAnyH_take (i := 0) (oi := { dst := some 111, op := Go.Op.load 24 (Go.Operand.tmp 4), type := 24, pos := "embed.go:186", after := #[], guard := none }) (v := ?_) rfl (by kernel_rfl) (by kernel_rfl) (by kernel_rfl) (fun _ _ _ h => h) (Or.inl ⟨by rfl, ?hy⟩) (by assumption) ?_
                  case hy => (intro w9 hSw; (try dsimp only at hSw); go_simp; try with_reducible rfl)
                  try simp only [Act.put, List.setIfInBounds_toArray, List.set_cons_zero, List.set_cons_succ]
                  refine wpAnyH_take (i := 1) (oi := { dst := some 112, op := Go.Op.move (Go.Operand.tmp 3), type := 22, pos := "embed.go:186", after := #[], guard := none }) (v := ?_) rfl (by kernel_rfl) (by kernel_rfl) (by kernel_rfl) (fun _ _ _ h => h) (Or.inl ⟨by rfl, ?hy⟩) (by assumption) ?_
                  case hy => (intro w9 hSw; (try dsimp only at hSw); go_simp; try with_reducible rfl)
                  try simp only [Act.put, List.setIfInBounds_toArray, List.set_cons_zero, List.set_cons_succ]
                  refine wpAnyH_take (i := 2) (oi := { dst := some 113, op := Go.Op.move (Go.Operand.tmp 18), type := 3, pos := "embed.go:186", after := #[], guard := none }) (v := ?_) rfl (by kernel_rfl) (by kernel_rfl) (by kernel_rfl) (fun _ _ _ h => h) (Or.inl ⟨by rfl, ?hy⟩) (by assumption) ?_
                  case hy => (intro w9 hSw; (try dsimp only at hSw); go_simp; try with_reducible rfl)
                  try simp only [Act.put, List.setIfInBounds_toArray, List.set_cons_zero, List.set_cons_succ]
                  refine wpAnyH_take (i := 3) (oi := { dst := some 114, op := Go.Op.indexAddr 22 (Go.Operand.tmp 112) (Go.Operand.tmp 113), type := 0, pos := "embed.go:186", after := #[{ on := 1, ground := Go.Ground.data }, { on := 2, ground := Go.Ground.data }], guard := none }) (v := ?_) rfl (by kernel_rfl) (by kernel_rfl) (by kernel_rfl) (fun _ _ _ h => h) (Or.inl ⟨by rfl, ?hy⟩) (by assumption) ?_
                  case hy => (intro w9 hSw; (try dsimp only at hSw); go_simp; try with_reducible rfl)
                  try simp only [Act.put, List.setIfInBounds_toArray, List.set_cons_zero, List.set_cons_succ]
                  refine wpAnyH_take (i := 4) (oi := { dst := some 115, op := Go.Op.load 3 (Go.Operand.tmp 114), type := 3, pos := "embed.go:186", after := #[{ on := 3, ground := Go.Ground.data }], guard := none }) (v := ?_) rfl (by kernel_rfl) (by kernel_rfl) (by kernel_rfl) (fun _ _ _ h => h) (Or.inl ⟨by rfl, ?hy⟩) (by assumption) ?_
                  case hy => (intro w9 hSw; (try dsimp only at hSw); go_simp; try with_reducible rfl)
                  try simp only [Act.put, List.setIfInBounds_toArray, List.set_cons_zero, List.set_cons_succ]
                  refine wpAnyH_take (i := 5) (oi := { dst := some 116, op := Go.Op.move (Go.Operand.tmp 1), type := 22, pos := "embed.go:186", after := #[], guard := none }) (v := ?_) rfl (by kernel_rfl) (by kernel_rfl) (by kernel_rfl) (fun _ _ _ h => h) (Or.inl ⟨by rfl, ?hy⟩) (by assumption) ?_
                  case hy => (intro w9 hSw; (try dsimp only at hSw); go_simp; try with_reducible rfl)
                  try simp only [Act.put, List.setIfInBounds_toArray, List.set_cons_zero, List.set_cons_succ]
                  refine wpAnyH_take (i := 6) (oi := { dst := some 117, op := Go.Op.indexAddr 22 (Go.Operand.tmp 116) (Go.Operand.const (Go.Value.int Go.IntKind.i64 0)), type := 0, pos := "embed.go:186", after := #[{ on := 5, ground := Go.Ground.data }], guard := none }) (v := ?_) rfl (by kernel_rfl) (by kernel_rfl) (by kernel_rfl) (fun _ _ _ h => h) (Or.inl ⟨by rfl, ?hy⟩) (by assumption) ?_
                  case hy => (intro w9 hSw; (try dsimp only at hSw); go_simp; try with_reducible rfl)
                  try simp only [Act.put, List.setIfInBounds_toArray, List.set_cons_zero, List.set_cons_succ]
                  refine wpAnyH_take (i := 7) (oi := { dst := some 118, op := Go.Op.load 3 (Go.Operand.tmp 117), type := 3, pos := "embed.go:186", after := #[{ on := 6, ground := Go.Ground.data }], guard := none }) (v := ?_) rfl (by kernel_rfl) (by kernel_rfl) (by kernel_rfl) (fun _ _ _ h => h) (Or.inl ⟨by rfl, ?hy⟩) (by assumption) ?_
                  case hy => (intro w9 hSw; (try dsimp only at hSw); go_simp; try with_reducible rfl)
                  try simp only [Act.put, List.setIfInBounds_toArray, List.set_cons_zero, List.set_cons_succ]
                  refine wpAnyH_ready (rs := [8]) (by kernel_rfl) (by simp) ?_
                  refine AllReadyH.cons (o := { dst := some 119, op := Go.Op.call { callee := Go.Callee.value (Go.Operand.func 15), args := #[Go.Operand.tmp 111, Go.Operand.tmp 115, Go.Operand.tmp 118], argTypes := #[24, 3, 3] }, type := 4, pos := "embed.go:186", after := #[{ on := 0, ground := Go.Ground.data }, { on := 4, ground := Go.Ground.data }, { on := 7, ground := Go.Ground.data }], guard := none }) rfl (fun K hK => ?_) AllReadyH.nil
                  go_simp
                  refine (less_lit len ao len co (nat f) x y _ true hbit h10 HG.out (HRO.out _ (by assumption)) hx63 hy).mono ?_
                  rintro e w7 ⟨rfl, hb7⟩
                  refine hK.out _ _ ?_ (fun hHeld => ?_)
                  · first | assumption | exact Below.then (by assumption) (by assumption)
                  clear hK K
                  try simp only [Act.put, List.setIfInBounds_toArray, List.set_cons_zero, List.set_cons_succ]
                  refine wpAnyH_done (by kernel_rfl) ?_ _
                  try simp only [Act.put, List.setIfInBounds_toArray, List.set_cons_zero, List.set_cons_succ]
                  have HBq : Hid (Below W.heap.size W w7) := by assumption
                  have HB8 : Hid (Below w5.heap.size w5 w7) := Below.then hB.out HBq.out
                  have hown7 := owns_below HOW.out HBq.out
                  have q2 := l2 w7 HBq.out
                  have hsz := HB8.out.size
                  clear l0 l1 l2 l3 HBq hbit
                  go_wp2_with (at_builtin; refine wpList_append_own _ rfl _ _ 22 rfl w5.heap.size 3 i0 (.int .i64 0) 1 8 Tryd.underlying22 hi hz0 hz1 hz2 rfl (by decide) _ _ _ rfl (hown7.alloc _) ⟨w7.heap.size, 0, none⟩ 1 1 [.int .i64 (x : Nat)] rfl rfl ?c1 ?c2 ?c3 ?c4 ?c5 ?_)
                  case c1 =>
                    intro j u hj
                    match j, hj with
                    | 0, hj => simp at hj; subst hj; simp [Addr.add]
                  case c2 => intro u hu; simp at hu; subst hu; rfl
                  case c3 => unfold maxLen; omega
                  case c4 => omega
                  case c5 => simp; omega
                  intro v' w8 hown' hgrow _
                  have HB9 : Hid (Below w5.heap.size w5 w8) := below_append3 HB8.out hown7 hgrow
                  have HO9 : Hid (w8.ownsRow w5.heap.size 3 1 v' (L ++ [x]).length (natVals (L ++ [x]))) := by
                    rw [natVals_append, List.length_append]; exact hown'
                  clear hown' hgrow hown7 q2 hsz
                  go_wp2_with fail
                  go_roundw
                  case rel => exact ⟨k + 1, L ++ [x], by omega, by go_num, HAD.out, HO9.out, HB9.out⟩
                  case measure => simp [intOf]; omega
              · have k0 := hH.out.c0
                have k1 := hH.out.c1
                have HLT : Hid (lightB (nat f) len (tms L.length (nat (fun k => ((nth L k : Nat) : Int)))) (tms la (nat fa)) = true) := by
                  have e : nat (fun k => ((nth L k : Nat) : Int)) = nth L := by funext q; simp [nat]
                  rw [e]
                  exact (light_iff h10 HG.out).2 (hCh.out.light (by omega) HFN.out)
                have HLI : Hid (∀ i, i < L.length → 0 ≤ ((nth L i : Nat) : Int) ∧ ((nth L i : Nat) : Int) < len) := fun i hi => by have := hCh.out.2.1 i hi; omega
                clear hown
                by_cases hkl : k < lc
                · have hklt' : (k : Int) < (lc : Int) := by omega
                  have hLn : ¬ (L.length : Int) < 12 := by omega
                  clear hgo
                  go_wp2_with fail
                  refine (lighter_ok len ao len co f a1 L.length cap1 _ (some ⟨ba, oa, none⟩) la ca fa wr true HLT.out hH.out.row HRL.out (HA.out.below HBw.out) HCK.out hL12 hla2 HLI.out HFA.out (HT.out.step HBw.out)).mono ?_
                  rintro e w9 ⟨rfl, hb9⟩
                  have HB10 : Hid (Below w.heap.size w w9) := Below.then HBw.out hb9
                  clear hb9 k0 k1
                  go_wp2_with fail
                  go_ret
                  exact ⟨rfl, HB10.out⟩
                · have hkl' : ¬ (k : Int) < (lc : Int) := by omega
                  clear hgo
                  go_wp2_with fail
                  refine (lighter_ok len ao len co f a1 L.length cap1 _ (some ⟨ba, oa, none⟩) la ca fa wr true HLT.out hH.out.row HRL.out (HA.out.below HBw.out) HCK.out hL12 hla2 HLI.out HFA.out (HT.out.step HBw.out)).mono ?_
                  rintro e w9 ⟨rfl, hb9⟩
                  have HB10 : Hid (Below w.heap.size w w9) := Below.then HBw.out hb9
                  clear hb9 k0 k1
                  go_wp2_with fail
                  go_ret
                  exact ⟨rfl, HB10.out⟩
    · subst h1
      have hne2 : (c2 != 0) = true := by simpa using h2
      clear h2
      go_wp2_with fail
      go_ret
      exact ⟨rfl, HB4.out⟩
  · have hne1 : (c1 != 0) = true := by simpa using h1
    clear h1
    go_wp2_with fail
    go_ret
    exact ⟨rfl, HB4.out⟩
end Go.Proofs.YtimpgcmkdcmhkabDoor
