/-
  For every order, three words, and two numbers hasselaw.EmbedGoes returns true, and writes nothing that was there. Conditions: the first list's length is its room at most, and it has none if it is nil; the numbers are those of the machine; the table of the least bits.
-/
import Derived.Deep.RegionHeld3
import Derived.Test.YtimpgcmkdcmhkabDoorGosM
import Derived.Test.YtimpgcmkdcmhkabDoorChoose
namespace Go.Proofs.YtimpgcmkdcmhkabDoor
set_option maxRecDepth 100000
open Go.RowKit

theorem addr_flatG (b off j : Nat) : Addr.add ⟨b, off, none⟩ j = ⟨b, off + j, none⟩ := by
  cases j <;> simp [Addr.add]
set_option maxHeartbeats 8000000 in
theorem embedGoes_any (n : Int) (ao : Option Addr) (len co : Nat) (f : Nat → Int) (a : Option Addr) (la ca : Nat) (fa : Nat → Int) (b : Option Addr) (lb cb : Nat) (fb : Nat → Int) (c : Option Addr) (lc cc : Nat) (fc : Nat → Int) (p q : Int) (w : World) (hl : len ≤ maxLen) (hla : la ≤ maxLen) (hca : la ≤ ca ∧ (a = none → ca = 0)) (hlb : lb ≤ maxLen) (hlc : lc ≤ maxLen)
    (hp1 : -9223372036854775808 ≤ p) (hp2 : p ≤ 9223372036854775807) (hq1 : -9223372036854775808 ≤ q) (hq2 : q ≤ 9223372036854775807) (ho : Row w ao len f) (ha : Row w a la fa) (hb : Row w b lb fb) (hc : Row w c lc fc) (hT : Tab w) :
    Calls Tryd.prog 5 #[.agg #[.int .i64 n, .slice ao len co], .slice a la ca, .slice b lb cb, .slice c lc cc, .int .i64 p, .int .i64 q] w fun e w' => e = .returned (.bool true) ∧ Below w.heap.size w w' := by
  have HB0 : Hid (Below w.heap.size w (w.alloc (.cells #[.int .i64 n, .slice ao len co] 24))) := bel_one w _
  have K0 : Hid (Held (w.alloc (.cells #[.int .i64 n, .slice ao len co] 24)) w.heap.size n ao len co f) := Held.box ho
  have HA : Hid (Row w a la fa) := ha
  have HBB : Hid (Row w b lb fb) := hb
  have HCC : Hid (Row w c lc fc) := hc
  have HT : Hid (Tab w) := hT
  have HCA : Hid (la ≤ ca ∧ (a = none → ca = 0)) := hca
  clear ho ha hb hc hT hca
  go_enter Tryd.func5, Tryd.ntmps5
  go_wp2_with fail
  refine (embedBegun_any _ (HT.out.step HB0.out)).mono ?_
  rintro e w0 ⟨rfl, hb0⟩
  have HB1 : Hid (Below w.heap.size w w0) := Below.then HB0.out hb0
  have K1 : Hid (Held w0 w.heap.size n ao len co f) := K0.out.step hb0
  clear hb0 HB0 K0
  have k0 := K1.out.c0
  have k1 := K1.out.c1
  go_wp2_with fail
  refine (into_any n ao len co f a la ca fa b lb cb fb w0 hl K1.out.row hla (HA.out.below HB1.out) hlb (HBB.out.below HB1.out)).mono ?_
  rintro e w1 ⟨⟨c1, v1, rfl, hc1, hv1⟩, hb1⟩
  have HB2 : Hid (Below w.heap.size w w1) := Below.then HB1.out hb1
  have K2 : Hid (Held w1 w.heap.size n ao len co f) := K1.out.step hb1
  have HC1 : Hid (WC2 n len f la fa lb fb c1) := hc1
  have HV1 : Hid ((c1 ≠ 0 ∧ v1 = false) ∨ (c1 = 0 ∧ v1 = goesB (nat f) la (nat fa) lb (nat fb))) := hv1
  clear hb1 hc1 hv1 k0 k1
  have k0 := K2.out.c0
  have k1 := K2.out.c1
  go_wp2_with fail
  refine (into_any n ao len co f b lb cb fb c lc cc fc w1 hl K2.out.row hlb (HBB.out.below HB2.out) hlc (HCC.out.below HB2.out)).mono ?_
  rintro e w2 ⟨⟨c2, v2, rfl, hc2, hv2⟩, hb2⟩
  have HB3 : Hid (Below w.heap.size w w2) := Below.then HB2.out hb2
  have K3 : Hid (Held w2 w.heap.size n ao len co f) := K2.out.step hb2
  have HC2 : Hid (WC2 n len f lb fb lc fc c2) := hc2
  have HV2 : Hid ((c2 ≠ 0 ∧ v2 = false) ∨ (c2 = 0 ∧ v2 = goesB (nat f) lb (nat fb) lc (nat fc))) := hv2
  clear hb2 hc2 hv2 k0 k1
  have k0 := K3.out.c0
  have k1 := K3.out.c1
  go_wp2_with fail
  refine (into_any n ao len co f a la ca fa c lc cc fc w2 hl K3.out.row hla (HA.out.below HB3.out) hlc (HCC.out.below HB3.out)).mono ?_
  rintro e w3 ⟨⟨c3, v3, rfl, hc3, hv3⟩, hb3⟩
  have HB4 : Hid (Below w.heap.size w w3) := Below.then HB3.out hb3
  have K4 : Hid (Held w3 w.heap.size n ao len co f) := K3.out.step hb3
  have HC3 : Hid (WC2 n len f la fa lc fc c3) := hc3
  have HV3 : Hid ((c3 ≠ 0 ∧ v3 = false) ∨ (c3 = 0 ∧ v3 = goesB (nat f) la (nat fa) lc (nat fc))) := hv3
  clear hb3 hc3 hv3 k0 k1
  by_cases h1 : c1 = 0
  · by_cases h2 : c2 = 0
    · subst h1 h2
      obtain ⟨hck, hla2, hlb2, hfa, hfb⟩ := HC1.out.good
      obtain ⟨_, _, hlc2, _, hfc⟩ := HC2.out.good
      obtain rfl : c3 = 0 := HC3.out.one (wc2_ok hck hla2 hlc2 hfa hfc)
      obtain ⟨rfl, h10, hrng, hord⟩ := hck.good
      obtain rfl : v1 = goesB (nat f) la (nat fa) lb (nat fb) := by
        rcases HV1.out with ⟨h, _⟩ | ⟨_, h⟩
        · exact absurd rfl h
        · exact h
      obtain rfl : v2 = goesB (nat f) lb (nat fb) lc (nat fc) := by
        rcases HV2.out with ⟨h, _⟩ | ⟨_, h⟩
        · exact absurd rfl h
        · exact h
      obtain rfl : v3 = goesB (nat f) la (nat fa) lc (nat fc) := by
        rcases HV3.out with ⟨h, _⟩ | ⟨_, h⟩
        · exact absurd rfl h
        · exact h
      have hg := hrng.small2 h10
      have hnb : ∀ i, i < lb → nat fb i < len := fun i hi => by have := hfb i hi; unfold nat; omega
      have hnc : ∀ i, i < lc → nat fc i < len := fun i hi => by have := hfc i hi; unfold nat; omega
      have HSF : Hid (goesB (nat f) la (nat fa) la (nat fa) = true) := goes_iff.2 (Emb.self _ _ _)
      have HPQ : Hid (goesB (nat f) la (nat fa) lb (nat fb) = true → goesB (nat f) lb (nat fb) lc (nat fc) = true → goesB (nat f) la (nat fa) lc (nat fc) = true) := fun h h' => goes_iff.2 (Emb.trans hord hg hnb hnc (goes_iff.1 h) (goes_iff.1 h'))
      generalize goesB (nat f) la (nat fa) lb (nat fb) = vp at *
      generalize goesB (nat f) lb (nat fb) lc (nat fc) = vq at *
      generalize goesB (nat f) la (nat fa) lc (nat fc) = vr at *
      have HCK : Hid (Chk len len f 0) := hck
      have HFA : Hid (∀ i, i < la → 0 ≤ fa i ∧ fa i < len) := hfa
      have HFN : Hid (∀ i, i < la → nat fa i < len) := fun i hi => by have := hfa i hi; unfold nat; omega
      clear hck hrng hord hg hfa hfb hfc hnb hnc HV1 HV2 HV3 HC1 HC2 HC3 HB1 HB2 HB3 K1 K2 K3 HBB HCC
      have k0 := K4.out.c0
      have k1 := K4.out.c1
      go_wp2_with fail
      refine (into_ok len ao len co f a la ca fa a la ca fa w3 true HSF.out K4.out.row (HA.out.below HB4.out) (HA.out.below HB4.out) HCK.out hla2 hla2 HFA.out HFA.out).mono ?_
      rintro e w4 ⟨rfl, hb4⟩
      have HB5 : Hid (Below w.heap.size w w4) := Below.then HB4.out hb4
      have K5 : Hid (Held w4 w.heap.size len ao len co f) := K4.out.step hb4
      clear hb4 k0 k1 HB4 K4 HSF
      have k0 := K5.out.c0
      have k1 := K5.out.c1
      cases vp
      · clear HPQ
        by_cases hN : len = 0
        · have hz : ((len : Int) == 0) = true := by simp; omega
          clear hN
          go_wp2_with fail
          go_ret
          exact ⟨rfl, HB5.out⟩
        · have hz : ((len : Int) == 0) = false := by simp; omega
          by_cases h12 : 12 ≤ la
          · have h12' : (12 : Int) ≤ (la : Int) := by omega
            go_wp2_with fail
            go_ret
            exact ⟨rfl, HB5.out⟩
          · have h12' : ¬ (12 : Int) ≤ (la : Int) := by omega
            have hch : Calls Tryd.prog 13 #[.int .i64 p, .int .i64 ((la : Int) + 1)] w4 fun e w' => (∃ k : Nat, k < la + 1 ∧ e = .returned (.int .i64 (k : Nat))) ∧ w4 = w' := choose_any p (la + 1) w4 (by omega) (by omega) hp1 hp2
            have HCHO : Hid (Calls Tryd.prog 13 #[.int .i64 p, .int .i64 ((la : Int) + 1)] w4 fun e w' => (∃ k : Nat, k < la + 1 ∧ e = .returned (.int .i64 (k : Nat))) ∧ w4 = w') := hch
            clear hch
            go_wp2_with fail
            refine HCHO.out.mono ?_
            rintro e w5 ⟨⟨k, hk, rfl⟩, hw5⟩
            subst hw5
            clear HCHO
            obtain ⟨i0, hi, hz0, hz1, hz2⟩ := info_parts Tryd.info3
            have HRA : Hid (∀ w', Below w4.heap.size w4 w' → Row w' a la (fun k => ((nat fa k : Nat) : Int))) := fun w' h => row_nat (HA.out.below (Below.then HB5.out h)) (fun k hk => (HFA.out k hk).1)
            have l0 : ∀ w', Below w4.heap.size w4 w' → w'.cell? ⟨w.heap.size, 0, none⟩ = some (.int .i64 (len : Int)) := fun w' h => (K5.out.step h).c0
            have HSz : Hid (Below w.heap.size w w4) := HB5.out
            have hk0 : (0 : Int) ≤ (k : Int) := by omega
            have hkla : (k : Int) ≤ (la : Int) := by omega
            have hkca : (k : Int) ≤ (ca : Int) := by have := HCA.out.1; omega
            have hlaca : (la : Int) ≤ (ca : Int) := by have := HCA.out.1; omega
            clear k0 k1
            rcases a with _ | ad
            · have hca0 : ca = 0 := HCA.out.2 rfl
              have hla0 : la = 0 := by have := HCA.out.1; omega
              have hk00 : k = 0 := by omega
              subst hca0 hla0 hk00
              have HSL : Hid (∀ w', Below w4.heap.size w4 w' → Src2 w' (.slice none 0 0) (tk (nat fa) 0)) := fun _ _ => .inl ⟨rfl, rfl⟩
              have HSR : Hid (∀ w', Below w4.heap.size w4 w' → Src2 w' (.slice none 0 0) (dr (nat fa) 0 0)) := fun _ _ => .inl ⟨rfl, rfl⟩
              generalize hW : w4 = W at *
              have KK : Below W.heap.size W W.drew := (Below.refl _ _).drew
              go_wp2_with fail
              refine wp_region_held_drew (S := (fun w' => Below W.heap.size W w')) (by kernel_rfl) (KK) (fun hHeld => ?_)
              refine wpAnyH_take (i := 1) (oi := { dst := some 94, op := Go.Op.move (Go.Operand.tmp 1), type := 22, pos := "embed.go:159", after := #[], guard := none }) (v := ?_) rfl (by kernel_rfl) (by kernel_rfl) (by kernel_rfl) (fun _ _ _ h => h) (Or.inl ⟨by rfl, ?hy⟩) (by assumption) ?_
              case hy => (intro w9 hSw; (try dsimp only at hSw); go_simp; try with_reducible rfl)
              try simp only [Act.put, List.setIfInBounds_toArray, List.set_cons_zero, List.set_cons_succ]
              refine wpAnyH_take (i := 2) (oi := { dst := some 95, op := Go.Op.move (Go.Operand.tmp 20), type := 3, pos := "embed.go:159", after := #[], guard := none }) (v := ?_) rfl (by kernel_rfl) (by kernel_rfl) (by kernel_rfl) (fun _ _ _ h => h) (Or.inl ⟨by rfl, ?hy⟩) (by assumption) ?_
              case hy => (intro w9 hSw; (try dsimp only at hSw); go_simp; try with_reducible rfl)
              try simp only [Act.put, List.setIfInBounds_toArray, List.set_cons_zero, List.set_cons_succ]
              refine wpAnyH_take (i := 3) (oi := { dst := some 96, op := Go.Op.slice 22 (Go.Operand.tmp 94) none (some (Go.Operand.tmp 95)) none, type := 22, pos := "embed.go:159", after := #[{ on := 1, ground := Go.Ground.data }, { on := 2, ground := Go.Ground.data }], guard := none }) (v := ?_) rfl (by kernel_rfl) (by kernel_rfl) (by kernel_rfl) (fun _ _ _ h => h) (Or.inl ⟨by rfl, ?hy⟩) (by assumption) ?_
              case hy => (intro w9 hSw; (try dsimp only at hSw); go_simp; try with_reducible rfl)
              try simp only [Act.put, List.setIfInBounds_toArray, List.set_cons_zero, List.set_cons_succ]
              refine wpAnyH_take (i := 5) (oi := { dst := some 98, op := Go.Op.move (Go.Operand.tmp 5), type := 3, pos := "embed.go:159", after := #[], guard := none }) (v := ?_) rfl (by kernel_rfl) (by kernel_rfl) (by kernel_rfl) (fun _ _ _ h => h) (Or.inl ⟨by rfl, ?hy⟩) (by assumption) ?_
              case hy => (intro w9 hSw; (try dsimp only at hSw); go_simp; try with_reducible rfl)
              try simp only [Act.put, List.setIfInBounds_toArray, List.set_cons_zero, List.set_cons_succ]
              refine wpAnyH_take (i := 6) (oi := { dst := some 99, op := Go.Op.fieldAddr 24 (Go.Operand.tmp 6) 0, type := 0, pos := "embed.go:159", after := #[], guard := none }) (v := ?_) rfl (by kernel_rfl) (by kernel_rfl) (by kernel_rfl) (fun _ _ _ h => h) (Or.inl ⟨by rfl, ?hy⟩) (by assumption) ?_
              case hy => (intro w9 hSw; (try dsimp only at hSw); go_simp; try with_reducible rfl)
              try simp only [Act.put, List.setIfInBounds_toArray, List.set_cons_zero, List.set_cons_succ]
              refine wpAnyH_take (i := 7) (oi := { dst := some 100, op := Go.Op.load 3 (Go.Operand.tmp 99), type := 3, pos := "embed.go:159", after := #[{ on := 6, ground := Go.Ground.data }], guard := none }) (v := ?_) rfl (by kernel_rfl) (by kernel_rfl) (by kernel_rfl) (fun _ _ _ h => h) (Or.inl ⟨by rfl, ?hy⟩) (by assumption) ?_
              case hy => (intro w9 hSw; (try dsimp only at hSw); go_simp; try with_reducible rfl)
              try simp only [Act.put, List.setIfInBounds_toArray, List.set_cons_zero, List.set_cons_succ]
              refine wpAnyH_take (i := 11) (oi := { dst := some 104, op := Go.Op.move (Go.Operand.tmp 1), type := 22, pos := "embed.go:159", after := #[], guard := none }) (v := ?_) rfl (by kernel_rfl) (by kernel_rfl) (by kernel_rfl) (fun _ _ _ h => h) (Or.inl ⟨by rfl, ?hy⟩) (by assumption) ?_
              case hy => (intro w9 hSw; (try dsimp only at hSw); go_simp; try with_reducible rfl)
              try simp only [Act.put, List.setIfInBounds_toArray, List.set_cons_zero, List.set_cons_succ]
              refine wpAnyH_take (i := 12) (oi := { dst := some 105, op := Go.Op.move (Go.Operand.tmp 20), type := 3, pos := "embed.go:159", after := #[], guard := none }) (v := ?_) rfl (by kernel_rfl) (by kernel_rfl) (by kernel_rfl) (fun _ _ _ h => h) (Or.inl ⟨by rfl, ?hy⟩) (by assumption) ?_
              case hy => (intro w9 hSw; (try dsimp only at hSw); go_simp; try with_reducible rfl)
              try simp only [Act.put, List.setIfInBounds_toArray, List.set_cons_zero, List.set_cons_succ]
              refine wpAnyH_take (i := 13) (oi := { dst := some 106, op := Go.Op.slice 22 (Go.Operand.tmp 104) (some (Go.Operand.tmp 105)) none none, type := 22, pos := "embed.go:159", after := #[{ on := 11, ground := Go.Ground.data }, { on := 12, ground := Go.Ground.data }], guard := none }) (v := ?_) rfl (by kernel_rfl) (by kernel_rfl) (by kernel_rfl) (fun _ _ _ h => h) (Or.inl ⟨by rfl, ?hy⟩) (by assumption) ?_
              case hy => (intro w9 hSw; (try dsimp only at hSw); go_simp; try with_reducible rfl)
              try simp only [Act.put, List.setIfInBounds_toArray, List.set_cons_zero, List.set_cons_succ]
              refine wpAnyH_ready (rs := [0]) (by kernel_rfl) (by simp) ?_
              refine AllReadyH.cons (o := { dst := some 93, op := Go.Op.buildSlice 22 0 #[], type := 22, pos := "embed.go:159", after := #[], guard := none }) rfl (fun K hK => ?_) AllReadyH.nil
              go_simp
              skip
              refine hK.out _ _ ?_ (fun hHeld => ?_)
              · exact KK.alloc KK.size _
              clear hK K
              try simp only [Act.put, List.setIfInBounds_toArray, List.set_cons_zero, List.set_cons_succ]
              refine wpAnyH_ready (rs := [4]) (by kernel_rfl) (by simp) ?_
              refine AllReadyH.cons (o := { dst := some 97, op := Go.Op.call { callee := Go.Callee.builtin Go.Builtin.append, args := #[Go.Operand.tmp 93, Go.Operand.tmp 96], argTypes := #[22, 22] }, type := 22, pos := "embed.go:159", after := #[{ on := 0, ground := Go.Ground.data }, { on := 3, ground := Go.Ground.data }], guard := none }) rfl (fun K hK => ?_) AllReadyH.nil
              rw [if_pos (by rfl)]
              refine wp_apnd _ _ _ rfl W.heap.size W.heap.size 0 0 [] (tk (nat fa) 0) _ rfl (World.ownsRow_made W.drew #[] 0 (Nat.le_refl _) (by unfold maxLen; omega) (by simp)) (Nat.le_refl _) (HSL.out _ (KK.alloc KK.size _)) rfl (by rw [tk_len]; omega) (by simp) ?_
              intro v1 w6 hown1 hg1
              have hB6 : Below W.heap.size W w6 := (KK.alloc KK.size _).grown hg1 (by simp) (by intro kk hkk; injection hkk with hkk; omega)
              have how1 : w6.ownsRow W.heap.size 3 1 v1 0 (natVals (tk (nat fa) 0)) := by
                have h := hown1
                rw [List.nil_append, Nat.zero_add, tk_len] at h
                exact h
              clear hown1 hg1
              refine hK.out _ _ ?_ (fun hHeld => ?_)
              · exact hB6
              clear hK K
              try simp only [Act.put, List.setIfInBounds_toArray, List.set_cons_zero, List.set_cons_succ]
              refine wpAnyH_ready (rs := [8]) (by kernel_rfl) (by simp) ?_
              refine AllReadyH.cons (o := { dst := some 101, op := Go.Op.call { callee := Go.Callee.value (Go.Operand.func 13), args := #[Go.Operand.tmp 98, Go.Operand.tmp 100], argTypes := #[3, 3] }, type := 3, pos := "embed.go:159", after := #[{ on := 5, ground := Go.Ground.data }, { on := 7, ground := Go.Ground.data }, { on := 4, ground := Go.Ground.chain }], guard := none }) rfl (fun K hK => ?_) AllReadyH.nil
              go_simp
              refine (choose_any q len _ (by omega) (by omega) hq1 hq2).mono ?_
              rintro e w7 ⟨⟨x, hx, rfl⟩, hw7⟩
              subst hw7
              refine hK.out _ _ ?_ (fun hHeld => ?_)
              · exact hB6
              clear hK K
              try simp only [Act.put, List.setIfInBounds_toArray, List.set_cons_zero, List.set_cons_succ]
              refine wpAnyH_ready (rs := [9]) (by kernel_rfl) (by simp) ?_
              refine AllReadyH.cons (o := { dst := some 102, op := Go.Op.buildSlice 22 1 #[(0, Go.Operand.tmp 101)], type := 22, pos := "embed.go:159", after := #[{ on := 8, ground := Go.Ground.data }], guard := none }) rfl (fun K hK => ?_) AllReadyH.nil
              go_simp
              skip
              refine hK.out _ _ ?_ (fun hHeld => ?_)
              · exact hB6.alloc hB6.size _
              clear hK K
              try simp only [Act.put, List.setIfInBounds_toArray, List.set_cons_zero, List.set_cons_succ]
              refine wpAnyH_ready (rs := [10]) (by kernel_rfl) (by simp) ?_
              refine AllReadyH.cons (o := { dst := some 103, op := Go.Op.call { callee := Go.Callee.builtin Go.Builtin.append, args := #[Go.Operand.tmp 97, Go.Operand.tmp 102], argTypes := #[22, 22] }, type := 22, pos := "embed.go:159", after := #[{ on := 4, ground := Go.Ground.data }, { on := 9, ground := Go.Ground.data }, { on := 8, ground := Go.Ground.chain }], guard := none }) rfl (fun K hK => ?_) AllReadyH.nil
              rw [if_pos (by rfl)]
              refine wp_append_own _ _ _ 22 rfl W.heap.size 3 i0 (.int .i64 0) 1 8 Tryd.underlying22 hi hz0 hz1 hz2 rfl (by decide) v1 0 (natVals (tk (nat fa) 0)) rfl (how1.alloc _) ⟨w6.heap.size, 0, none⟩ 1 1 [.int .i64 (x : Nat)] rfl rfl ?c1 ?c2 (by unfold maxLen; omega) (by omega) (by have := hB6.size; simp; omega) ?_
              case c1 =>
                intro j u hj
                match j, hj with
                | 0, hj => simp at hj; subst hj; simp [Addr.add]
              case c2 => intro u hu; simp at hu; subst hu; rfl
              intro v2 w8 hown2 hg2 _
              have hB8 : Below W.heap.size W w8 := below_append3 hB6 how1 hg2
              obtain ⟨B2, cap2, rfl, hBB2, hle2⟩ : ∃ B2 cap2, v2 = .slice (some ⟨B2, 0, none⟩) (0 + 1) cap2 ∧ W.heap.size ≤ B2 ∧ 0 + 1 ≤ cap2 := by
                rcases hown2.2 with ⟨_, h⟩ | ⟨g, cap, cur, h1, h2, _, h3, _⟩
                · omega
                · exact ⟨g, cap, h1, h2, h3⟩
              clear hg2 how1
              refine hK.out _ _ ?_ (fun hHeld => ?_)
              · exact hB8
              clear hK K
              try simp only [Act.put, List.setIfInBounds_toArray, List.set_cons_zero, List.set_cons_succ]
              refine wpAnyH_ready (rs := [14]) (by kernel_rfl) (by simp) ?_
              refine AllReadyH.cons (o := { dst := some 107, op := Go.Op.call { callee := Go.Callee.builtin Go.Builtin.append, args := #[Go.Operand.tmp 103, Go.Operand.tmp 106], argTypes := #[22, 22] }, type := 22, pos := "embed.go:159", after := #[{ on := 10, ground := Go.Ground.data }, { on := 13, ground := Go.Ground.data }, { on := 10, ground := Go.Ground.chain }], guard := none }) rfl (fun K hK => ?_) AllReadyH.nil
              rw [if_pos (by rfl)]
              refine wp_apnd _ _ _ rfl W.heap.size B2 (0 + 1) cap2 (natVals (tk (nat fa) 0) ++ [.int .i64 (x : Nat)]) (dr (nat fa) 0 0) _ rfl hown2 hle2 (HSR.out _ hB8) rfl (by rw [dr_len]; omega) hB8.size ?_
              intro v3 w9 hown3 hg3
              have hB9 : Below W.heap.size W w9 := hB8.grown hg3 hB8.size (by intro kk hkk; injection hkk with hkk; omega)
              have how3 : w9.ownsRow W.heap.size 3 1 v3 (ins (nat fa) 0 0 x).length (natVals (ins (nat fa) 0 0 x)) := by
                have e1 : natVals (ins (nat fa) 0 0 x) = natVals (tk (nat fa) 0) ++ [.int .i64 (x : Nat)] ++ natVals (dr (nat fa) 0 0) := by
                  unfold ins
                  rw [natVals_append, natVals_append]; rfl
                rw [e1, ins_len (by omega)]
                rw [dr_len, show 0 + 1 + (0 - 0) = 0 + 1 by omega] at hown3
                exact hown3
              obtain ⟨a3, cap3, rfl, hr3⟩ := owns_nats how3
              clear hown3 hg3 hown2 hBB2 hle2 how3
              refine hK.out _ _ ?_ (fun hHeld => ?_)
              · exact hB9
              clear hK K
              try simp only [Act.put, List.setIfInBounds_toArray, List.set_cons_zero, List.set_cons_succ]
              refine wpAnyH_take (i := 15) (oi := { dst := some 21, op := Go.Op.assign (Go.Operand.tmp 107), type := 22, pos := "embed.go:159", after := #[{ on := 14, ground := Go.Ground.data }, { on := 14, ground := Go.Ground.chain }, { on := 0, ground := Go.Ground.phase }, { on := 1, ground := Go.Ground.phase }, { on := 2, ground := Go.Ground.phase }, { on := 3, ground := Go.Ground.phase }, { on := 4, ground := Go.Ground.phase }, { on := 5, ground := Go.Ground.phase }, { on := 6, ground := Go.Ground.phase }, { on := 7, ground := Go.Ground.phase }, { on := 8, ground := Go.Ground.phase }, { on := 9, ground := Go.Ground.phase }, { on := 10, ground := Go.Ground.phase }, { on := 11, ground := Go.Ground.phase }, { on := 12, ground := Go.Ground.phase }, { on := 13, ground := Go.Ground.phase }, { on := 14, ground := Go.Ground.phase }], guard := none }) (v := ?_) rfl (by kernel_rfl) (by kernel_rfl) (by kernel_rfl) (fun _ _ _ h => h) (Or.inl ⟨by rfl, ?hy⟩) (by assumption) ?_
              case hy => (intro w9 hSw; (try dsimp only at hSw); go_simp; try with_reducible rfl)
              try simp only [Act.put, List.setIfInBounds_toArray, List.set_cons_zero, List.set_cons_succ]
              refine wpAnyH_done (by kernel_rfl) ?_ _
              try simp only [Act.put, List.setIfInBounds_toArray, List.set_cons_zero, List.set_cons_succ]
              have HB9 : Hid (Below w.heap.size w w9) := Below.then HSz.out hB9
              have K9 : Hid (Held w9 w.heap.size len ao len co f) := K5.out.step hB9
              have HRL : Hid (Row w9 a3 (ins (nat fa) 0 0 x).length (fun i => ((nth (ins (nat fa) 0 0 x) i : Nat) : Int))) := hr3
              have hlen := ins_len (fa := nat fa) (x := x) (show 0 ≤ 0 by omega)
              have enx : nat (fun i => ((nth (ins (nat fa) 0 0 x) i : Nat) : Int)) = nth (ins (nat fa) 0 0 x) := by funext q; simp [nat]
              have HEM : Hid (goesB (nat f) 0 (nat fa) (ins (nat fa) 0 0 x).length (nat (fun i => ((nth (ins (nat fa) 0 0 x) i : Nat) : Int))) = true) := by
                rw [enx, hlen]; exact goes_iff.2 (ins_emb _)
              have HNOB : Hid (goesB (nat f) (ins (nat fa) 0 0 x).length (nat (fun i => ((nth (ins (nat fa) 0 0 x) i : Nat) : Int))) 0 (nat fa) = false) := goes_len (by rw [hlen]; omega)
              have HLI : Hid (∀ i, i < (ins (nat fa) 0 0 x).length → 0 ≤ ((nth (ins (nat fa) 0 0 x) i : Nat) : Int) ∧ ((nth (ins (nat fa) 0 0 x) i : Nat) : Int) < len) := fun i hi => by
                have := ins_lt (x := x) (show 0 ≤ 0 by omega) HFN.out hx i (by rw [hlen] at hi; exact hi)
                omega
              have hL12 : (ins (nat fa) 0 0 x).length ≤ 12 := by omega
              clear hr3 hB9 l0 HSL HSR enx hlen
              generalize hgL : ins (nat fa) 0 0 x = L at *
              have k0 := K9.out.c0
              have k1 := K9.out.c1
              go_wp2_with fail
              refine (into_ok len ao len co f none 0 0 fa a3 L.length cap3 _ w9 true HEM.out K9.out.row (HA.out.below HB9.out) HRL.out HCK.out hla2 hL12 HFA.out HLI.out).mono ?_
              rintro e w10 ⟨rfl, hb10⟩
              have HB11 : Hid (Below w.heap.size w w10) := Below.then HB9.out hb10
              have K11 : Hid (Held w10 w.heap.size len ao len co f) := K9.out.step hb10
              have HRL2 : Hid (Row w10 a3 L.length (fun i => ((nth L i : Nat) : Int))) := HRL.out.below hb10
              clear hb10 k0 k1 K9 HRL HB9
              have k0 := K11.out.c0
              have k1 := K11.out.c1
              go_wp2_with fail
              refine (into_ok len ao len co f a3 L.length cap3 _ none 0 0 fa w10 false HNOB.out K11.out.row HRL2.out (HA.out.below HB11.out) HCK.out hL12 hla2 HLI.out HFA.out).mono ?_
              rintro e w11 ⟨rfl, hb11⟩
              have HB12 : Hid (Below w.heap.size w w11) := Below.then HB11.out hb11
              clear hb11 k0 k1
              go_wp2_with fail
              go_ret
              exact ⟨rfl, HB12.out⟩
            · obtain ⟨aq, haq, HAQ⟩ : ∃ aq : Addr, (if ca = k then some ad else some (ad.add k)) = some aq ∧ Hid (k < la → aq = ad.add k) := by
                have := HCA.out.1
                by_cases h : ca = k
                · exact ⟨ad, by rw [if_pos h], fun h2 => by omega⟩
                · exact ⟨ad.add k, by rw [if_neg h], fun _ => rfl⟩
              have HSL : Hid (∀ w', Below w4.heap.size w4 w' → Src2 w' (.slice (some ad) k ca) (tk (nat fa) k)) := fun w' h => by
                refine .inr ⟨ad, ca, by rw [tk_len], fun j u hj => ?_⟩
                have hjk : j < k := by
                  rcases Nat.lt_or_ge j k with h | h
                  · exact h
                  · rw [List.getElem?_eq_none (by simp [natVals, tk_len]; omega)] at hj; cases hj
                rw [natVals_at _ _ (by rw [tk_len]; exact hjk)] at hj
                cases hj
                obtain ⟨b1, o1, e1, hc1⟩ := HRA.out w' h j (by omega)
                simp at e1
                subst e1
                rw [addr_flatG, hc1]
                simp [nth, tk, hjk]
              have HSR : Hid (∀ w', Below w4.heap.size w4 w' → Src2 w' (.slice (some aq) (la - k) (ca - k)) (dr (nat fa) k la)) := fun w' h => by
                refine .inr ⟨aq, ca - k, by rw [dr_len], fun j u hj => ?_⟩
                have hjk : j < la - k := by
                  rcases Nat.lt_or_ge j (la - k) with h | h
                  · exact h
                  · rw [List.getElem?_eq_none (by simp [natVals, dr_len]; omega)] at hj; cases hj
                rw [natVals_at _ _ (by rw [dr_len]; exact hjk)] at hj
                cases hj
                obtain ⟨b1, o1, e1, hc1⟩ := HRA.out w' h (k + j) (by omega)
                simp at e1
                subst e1
                rw [HAQ.out (by omega), addr_flatG, addr_flatG, Nat.add_assoc, hc1]
                simp [nth, dr, hjk]
              generalize hW : w4 = W at *
              have KK : Below W.heap.size W W.drew := (Below.refl _ _).drew
              go_wp2_with fail
              refine wp_region_held_drew (S := (fun w' => Below W.heap.size W w')) (by kernel_rfl) (KK) (fun hHeld => ?_)
              refine wpAnyH_take (i := 1) (oi := { dst := some 94, op := Go.Op.move (Go.Operand.tmp 1), type := 22, pos := "embed.go:159", after := #[], guard := none }) (v := ?_) rfl (by kernel_rfl) (by kernel_rfl) (by kernel_rfl) (fun _ _ _ h => h) (Or.inl ⟨by rfl, ?hy⟩) (by assumption) ?_
              case hy => (intro w9 hSw; (try dsimp only at hSw); go_simp; try with_reducible rfl)
              try simp only [Act.put, List.setIfInBounds_toArray, List.set_cons_zero, List.set_cons_succ]
              refine wpAnyH_take (i := 2) (oi := { dst := some 95, op := Go.Op.move (Go.Operand.tmp 20), type := 3, pos := "embed.go:159", after := #[], guard := none }) (v := ?_) rfl (by kernel_rfl) (by kernel_rfl) (by kernel_rfl) (fun _ _ _ h => h) (Or.inl ⟨by rfl, ?hy⟩) (by assumption) ?_
              case hy => (intro w9 hSw; (try dsimp only at hSw); go_simp; try with_reducible rfl)
              try simp only [Act.put, List.setIfInBounds_toArray, List.set_cons_zero, List.set_cons_succ]
              refine wpAnyH_take (i := 3) (oi := { dst := some 96, op := Go.Op.slice 22 (Go.Operand.tmp 94) none (some (Go.Operand.tmp 95)) none, type := 22, pos := "embed.go:159", after := #[{ on := 1, ground := Go.Ground.data }, { on := 2, ground := Go.Ground.data }], guard := none }) (v := ?_) rfl (by kernel_rfl) (by kernel_rfl) (by kernel_rfl) (fun _ _ _ h => h) (Or.inl ⟨by rfl, ?hy⟩) (by assumption) ?_
              case hy => (intro w9 hSw; (try dsimp only at hSw); go_simp; try with_reducible rfl)
              try simp only [Act.put, List.setIfInBounds_toArray, List.set_cons_zero, List.set_cons_succ]
              refine wpAnyH_take (i := 5) (oi := { dst := some 98, op := Go.Op.move (Go.Operand.tmp 5), type := 3, pos := "embed.go:159", after := #[], guard := none }) (v := ?_) rfl (by kernel_rfl) (by kernel_rfl) (by kernel_rfl) (fun _ _ _ h => h) (Or.inl ⟨by rfl, ?hy⟩) (by assumption) ?_
              case hy => (intro w9 hSw; (try dsimp only at hSw); go_simp; try with_reducible rfl)
              try simp only [Act.put, List.setIfInBounds_toArray, List.set_cons_zero, List.set_cons_succ]
              refine wpAnyH_take (i := 6) (oi := { dst := some 99, op := Go.Op.fieldAddr 24 (Go.Operand.tmp 6) 0, type := 0, pos := "embed.go:159", after := #[], guard := none }) (v := ?_) rfl (by kernel_rfl) (by kernel_rfl) (by kernel_rfl) (fun _ _ _ h => h) (Or.inl ⟨by rfl, ?hy⟩) (by assumption) ?_
              case hy => (intro w9 hSw; (try dsimp only at hSw); go_simp; try with_reducible rfl)
              try simp only [Act.put, List.setIfInBounds_toArray, List.set_cons_zero, List.set_cons_succ]
              refine wpAnyH_take (i := 7) (oi := { dst := some 100, op := Go.Op.load 3 (Go.Operand.tmp 99), type := 3, pos := "embed.go:159", after := #[{ on := 6, ground := Go.Ground.data }], guard := none }) (v := ?_) rfl (by kernel_rfl) (by kernel_rfl) (by kernel_rfl) (fun _ _ _ h => h) (Or.inl ⟨by rfl, ?hy⟩) (by assumption) ?_
              case hy => (intro w9 hSw; (try dsimp only at hSw); go_simp; try with_reducible rfl)
              try simp only [Act.put, List.setIfInBounds_toArray, List.set_cons_zero, List.set_cons_succ]
              refine wpAnyH_take (i := 11) (oi := { dst := some 104, op := Go.Op.move (Go.Operand.tmp 1), type := 22, pos := "embed.go:159", after := #[], guard := none }) (v := ?_) rfl (by kernel_rfl) (by kernel_rfl) (by kernel_rfl) (fun _ _ _ h => h) (Or.inl ⟨by rfl, ?hy⟩) (by assumption) ?_
              case hy => (intro w9 hSw; (try dsimp only at hSw); go_simp; try with_reducible rfl)
              try simp only [Act.put, List.setIfInBounds_toArray, List.set_cons_zero, List.set_cons_succ]
              refine wpAnyH_take (i := 12) (oi := { dst := some 105, op := Go.Op.move (Go.Operand.tmp 20), type := 3, pos := "embed.go:159", after := #[], guard := none }) (v := ?_) rfl (by kernel_rfl) (by kernel_rfl) (by kernel_rfl) (fun _ _ _ h => h) (Or.inl ⟨by rfl, ?hy⟩) (by assumption) ?_
              case hy => (intro w9 hSw; (try dsimp only at hSw); go_simp; try with_reducible rfl)
              try simp only [Act.put, List.setIfInBounds_toArray, List.set_cons_zero, List.set_cons_succ]
              refine wpAnyH_take (i := 13) (oi := { dst := some 106, op := Go.Op.slice 22 (Go.Operand.tmp 104) (some (Go.Operand.tmp 105)) none none, type := 22, pos := "embed.go:159", after := #[{ on := 11, ground := Go.Ground.data }, { on := 12, ground := Go.Ground.data }], guard := none }) (v := ?_) rfl (by kernel_rfl) (by kernel_rfl) (by kernel_rfl) (fun _ _ _ h => h) (Or.inl ⟨by rfl, ?hy⟩) (by assumption) ?_
              case hy => (intro w9 hSw; (try dsimp only at hSw); go_simp; try with_reducible rfl)
              try simp only [Act.put, List.setIfInBounds_toArray, List.set_cons_zero, List.set_cons_succ]
              refine wpAnyH_ready (rs := [0]) (by kernel_rfl) (by simp) ?_
              refine AllReadyH.cons (o := { dst := some 93, op := Go.Op.buildSlice 22 0 #[], type := 22, pos := "embed.go:159", after := #[], guard := none }) rfl (fun K hK => ?_) AllReadyH.nil
              go_simp
              skip
              refine hK.out _ _ ?_ (fun hHeld => ?_)
              · exact KK.alloc KK.size _
              clear hK K
              try simp only [Act.put, List.setIfInBounds_toArray, List.set_cons_zero, List.set_cons_succ]
              refine wpAnyH_ready (rs := [4]) (by kernel_rfl) (by simp) ?_
              refine AllReadyH.cons (o := { dst := some 97, op := Go.Op.call { callee := Go.Callee.builtin Go.Builtin.append, args := #[Go.Operand.tmp 93, Go.Operand.tmp 96], argTypes := #[22, 22] }, type := 22, pos := "embed.go:159", after := #[{ on := 0, ground := Go.Ground.data }, { on := 3, ground := Go.Ground.data }], guard := none }) rfl (fun K hK => ?_) AllReadyH.nil
              rw [if_pos (by rfl)]
              refine wp_apnd _ _ _ rfl W.heap.size W.heap.size 0 0 [] (tk (nat fa) k) _ rfl (World.ownsRow_made W.drew #[] 0 (Nat.le_refl _) (by unfold maxLen; omega) (by simp)) (Nat.le_refl _) (HSL.out _ (KK.alloc KK.size _)) rfl (by rw [tk_len]; omega) (by simp) ?_
              intro v1 w6 hown1 hg1
              have hB6 : Below W.heap.size W w6 := (KK.alloc KK.size _).grown hg1 (by simp) (by intro k hk; injection hk with hk; omega)
              have how1 : w6.ownsRow W.heap.size 3 1 v1 k (natVals (tk (nat fa) k)) := by
                have h := hown1
                rw [List.nil_append, Nat.zero_add, tk_len] at h
                exact h
              clear hown1 hg1
              refine hK.out _ _ ?_ (fun hHeld => ?_)
              · exact hB6
              clear hK K
              try simp only [Act.put, List.setIfInBounds_toArray, List.set_cons_zero, List.set_cons_succ]
              refine wpAnyH_ready (rs := [8]) (by kernel_rfl) (by simp) ?_
              refine AllReadyH.cons (o := { dst := some 101, op := Go.Op.call { callee := Go.Callee.value (Go.Operand.func 13), args := #[Go.Operand.tmp 98, Go.Operand.tmp 100], argTypes := #[3, 3] }, type := 3, pos := "embed.go:159", after := #[{ on := 5, ground := Go.Ground.data }, { on := 7, ground := Go.Ground.data }, { on := 4, ground := Go.Ground.chain }], guard := none }) rfl (fun K hK => ?_) AllReadyH.nil
              go_simp
              refine (choose_any q len _ (by omega) (by omega) hq1 hq2).mono ?_
              rintro e w7 ⟨⟨x, hx, rfl⟩, hw7⟩
              subst hw7
              refine hK.out _ _ ?_ (fun hHeld => ?_)
              · exact hB6
              clear hK K
              try simp only [Act.put, List.setIfInBounds_toArray, List.set_cons_zero, List.set_cons_succ]
              refine wpAnyH_ready (rs := [9]) (by kernel_rfl) (by simp) ?_
              refine AllReadyH.cons (o := { dst := some 102, op := Go.Op.buildSlice 22 1 #[(0, Go.Operand.tmp 101)], type := 22, pos := "embed.go:159", after := #[{ on := 8, ground := Go.Ground.data }], guard := none }) rfl (fun K hK => ?_) AllReadyH.nil
              go_simp
              skip
              refine hK.out _ _ ?_ (fun hHeld => ?_)
              · exact hB6.alloc hB6.size _
              clear hK K
              try simp only [Act.put, List.setIfInBounds_toArray, List.set_cons_zero, List.set_cons_succ]
              refine wpAnyH_ready (rs := [10]) (by kernel_rfl) (by simp) ?_
              refine AllReadyH.cons (o := { dst := some 103, op := Go.Op.call { callee := Go.Callee.builtin Go.Builtin.append, args := #[Go.Operand.tmp 97, Go.Operand.tmp 102], argTypes := #[22, 22] }, type := 22, pos := "embed.go:159", after := #[{ on := 4, ground := Go.Ground.data }, { on := 9, ground := Go.Ground.data }, { on := 8, ground := Go.Ground.chain }], guard := none }) rfl (fun K hK => ?_) AllReadyH.nil
              rw [if_pos (by rfl)]
              refine wp_append_own _ _ _ 22 rfl W.heap.size 3 i0 (.int .i64 0) 1 8 Tryd.underlying22 hi hz0 hz1 hz2 rfl (by decide) v1 k (natVals (tk (nat fa) k)) rfl (how1.alloc _) ⟨w6.heap.size, 0, none⟩ 1 1 [.int .i64 (x : Nat)] rfl rfl ?c1 ?c2 (by unfold maxLen; omega) (by omega) (by have := hB6.size; simp; omega) ?_
              case c1 =>
                intro j u hj
                match j, hj with
                | 0, hj => simp at hj; subst hj; simp [Addr.add]
              case c2 => intro u hu; simp at hu; subst hu; rfl
              intro v2 w8 hown2 hg2 _
              have hB8 : Below W.heap.size W w8 := below_append3 hB6 how1 hg2
              obtain ⟨B2, cap2, rfl, hBB2, hle2⟩ : ∃ B2 cap2, v2 = .slice (some ⟨B2, 0, none⟩) (k + 1) cap2 ∧ W.heap.size ≤ B2 ∧ k + 1 ≤ cap2 := by
                rcases hown2.2 with ⟨_, h⟩ | ⟨g, cap, cur, h1, h2, _, h3, _⟩
                · omega
                · exact ⟨g, cap, h1, h2, h3⟩
              clear hg2 how1
              refine hK.out _ _ ?_ (fun hHeld => ?_)
              · exact hB8
              clear hK K
              try simp only [Act.put, List.setIfInBounds_toArray, List.set_cons_zero, List.set_cons_succ]
              refine wpAnyH_ready (rs := [14]) (by kernel_rfl) (by simp) ?_
              refine AllReadyH.cons (o := { dst := some 107, op := Go.Op.call { callee := Go.Callee.builtin Go.Builtin.append, args := #[Go.Operand.tmp 103, Go.Operand.tmp 106], argTypes := #[22, 22] }, type := 22, pos := "embed.go:159", after := #[{ on := 10, ground := Go.Ground.data }, { on := 13, ground := Go.Ground.data }, { on := 10, ground := Go.Ground.chain }], guard := none }) rfl (fun K hK => ?_) AllReadyH.nil
              rw [if_pos (by rfl)]
              refine wp_apnd _ _ _ rfl W.heap.size B2 (k + 1) cap2 (natVals (tk (nat fa) k) ++ [.int .i64 (x : Nat)]) (dr (nat fa) k la) _ rfl hown2 hle2 (HSR.out _ hB8) rfl (by rw [dr_len]; omega) hB8.size ?_
              intro v3 w9 hown3 hg3
              have hB9 : Below W.heap.size W w9 := hB8.grown hg3 hB8.size (by intro k hk; injection hk with hk; omega)
              have how3 : w9.ownsRow W.heap.size 3 1 v3 (ins (nat fa) k la x).length (natVals (ins (nat fa) k la x)) := by
                have e1 : natVals (ins (nat fa) k la x) = natVals (tk (nat fa) k) ++ [.int .i64 (x : Nat)] ++ natVals (dr (nat fa) k la) := by
                  unfold ins
                  rw [natVals_append, natVals_append]; rfl
                rw [e1, ins_len (by omega)]
                rw [dr_len, show k + 1 + (la - k) = la + 1 by omega] at hown3
                exact hown3
              obtain ⟨a3, cap3, rfl, hr3⟩ := owns_nats how3
              clear hown3 hg3 hown2 hBB2 hle2 how3
              refine hK.out _ _ ?_ (fun hHeld => ?_)
              · exact hB9
              clear hK K
              try simp only [Act.put, List.setIfInBounds_toArray, List.set_cons_zero, List.set_cons_succ]
              refine wpAnyH_take (i := 15) (oi := { dst := some 21, op := Go.Op.assign (Go.Operand.tmp 107), type := 22, pos := "embed.go:159", after := #[{ on := 14, ground := Go.Ground.data }, { on := 14, ground := Go.Ground.chain }, { on := 0, ground := Go.Ground.phase }, { on := 1, ground := Go.Ground.phase }, { on := 2, ground := Go.Ground.phase }, { on := 3, ground := Go.Ground.phase }, { on := 4, ground := Go.Ground.phase }, { on := 5, ground := Go.Ground.phase }, { on := 6, ground := Go.Ground.phase }, { on := 7, ground := Go.Ground.phase }, { on := 8, ground := Go.Ground.phase }, { on := 9, ground := Go.Ground.phase }, { on := 10, ground := Go.Ground.phase }, { on := 11, ground := Go.Ground.phase }, { on := 12, ground := Go.Ground.phase }, { on := 13, ground := Go.Ground.phase }, { on := 14, ground := Go.Ground.phase }], guard := none }) (v := ?_) rfl (by kernel_rfl) (by kernel_rfl) (by kernel_rfl) (fun _ _ _ h => h) (Or.inl ⟨by rfl, ?hy⟩) (by assumption) ?_
              case hy => (intro w9 hSw; (try dsimp only at hSw); go_simp; try with_reducible rfl)
              try simp only [Act.put, List.setIfInBounds_toArray, List.set_cons_zero, List.set_cons_succ]
              refine wpAnyH_done (by kernel_rfl) ?_ _
              try simp only [Act.put, List.setIfInBounds_toArray, List.set_cons_zero, List.set_cons_succ]
              have HB9 : Hid (Below w.heap.size w w9) := Below.then HSz.out hB9
              have K9 : Hid (Held w9 w.heap.size len ao len co f) := K5.out.step hB9
              have HRL : Hid (Row w9 a3 (ins (nat fa) k la x).length (fun i => ((nth (ins (nat fa) k la x) i : Nat) : Int))) := hr3
              have hlen := ins_len (fa := nat fa) (x := x) (show k ≤ la by omega)
              have enx : nat (fun i => ((nth (ins (nat fa) k la x) i : Nat) : Int)) = nth (ins (nat fa) k la x) := by funext q; simp [nat]
              have HEM : Hid (goesB (nat f) la (nat fa) (ins (nat fa) k la x).length (nat (fun i => ((nth (ins (nat fa) k la x) i : Nat) : Int))) = true) := by
                rw [enx, hlen]; exact goes_iff.2 (ins_emb _)
              have HNOB : Hid (goesB (nat f) (ins (nat fa) k la x).length (nat (fun i => ((nth (ins (nat fa) k la x) i : Nat) : Int))) la (nat fa) = false) := goes_len (by rw [hlen]; omega)
              have HLI : Hid (∀ i, i < (ins (nat fa) k la x).length → 0 ≤ ((nth (ins (nat fa) k la x) i : Nat) : Int) ∧ ((nth (ins (nat fa) k la x) i : Nat) : Int) < len) := fun i hi => by
                have := ins_lt (x := x) (show k ≤ la by omega) HFN.out hx i (by rw [hlen] at hi; exact hi)
                omega
              have hL12 : (ins (nat fa) k la x).length ≤ 12 := by omega
              clear hr3 hB9 l0 HSL HSR enx hlen
              generalize hgL : ins (nat fa) k la x = L at *
              have k0 := K9.out.c0
              have k1 := K9.out.c1
              go_wp2_with fail
              refine (into_ok len ao len co f (some ad) la ca fa a3 L.length cap3 _ w9 true HEM.out K9.out.row (HA.out.below HB9.out) HRL.out HCK.out hla2 hL12 HFA.out HLI.out).mono ?_
              rintro e w10 ⟨rfl, hb10⟩
              have HB11 : Hid (Below w.heap.size w w10) := Below.then HB9.out hb10
              have K11 : Hid (Held w10 w.heap.size len ao len co f) := K9.out.step hb10
              have HRL2 : Hid (Row w10 a3 L.length (fun i => ((nth L i : Nat) : Int))) := HRL.out.below hb10
              clear hb10 k0 k1 K9 HRL HB9
              have k0 := K11.out.c0
              have k1 := K11.out.c1
              go_wp2_with fail
              refine (into_ok len ao len co f a3 L.length cap3 _ (some ad) la ca fa w10 false HNOB.out K11.out.row HRL2.out (HA.out.below HB11.out) HCK.out hL12 hla2 HLI.out HFA.out).mono ?_
              rintro e w11 ⟨rfl, hb11⟩
              have HB12 : Hid (Below w.heap.size w w11) := Below.then HB11.out hb11
              clear hb11 k0 k1
              go_wp2_with fail
              go_ret
              exact ⟨rfl, HB12.out⟩
      · cases vq
        · clear HPQ
          by_cases hN : len = 0
          · have hz : ((len : Int) == 0) = true := by simp; omega
            clear hN
            go_wp2_with fail
            go_ret
            exact ⟨rfl, HB5.out⟩
          · have hz : ((len : Int) == 0) = false := by simp; omega
            by_cases h12 : 12 ≤ la
            · have h12' : (12 : Int) ≤ (la : Int) := by omega
              go_wp2_with fail
              go_ret
              exact ⟨rfl, HB5.out⟩
            · have h12' : ¬ (12 : Int) ≤ (la : Int) := by omega
              have hch : Calls Tryd.prog 13 #[.int .i64 p, .int .i64 ((la : Int) + 1)] w4 fun e w' => (∃ k : Nat, k < la + 1 ∧ e = .returned (.int .i64 (k : Nat))) ∧ w4 = w' := choose_any p (la + 1) w4 (by omega) (by omega) hp1 hp2
              have HCHO : Hid (Calls Tryd.prog 13 #[.int .i64 p, .int .i64 ((la : Int) + 1)] w4 fun e w' => (∃ k : Nat, k < la + 1 ∧ e = .returned (.int .i64 (k : Nat))) ∧ w4 = w') := hch
              clear hch
              go_wp2_with fail
              refine HCHO.out.mono ?_
              rintro e w5 ⟨⟨k, hk, rfl⟩, hw5⟩
              subst hw5
              clear HCHO
              obtain ⟨i0, hi, hz0, hz1, hz2⟩ := info_parts Tryd.info3
              have HRA : Hid (∀ w', Below w4.heap.size w4 w' → Row w' a la (fun k => ((nat fa k : Nat) : Int))) := fun w' h => row_nat (HA.out.below (Below.then HB5.out h)) (fun k hk => (HFA.out k hk).1)
              have l0 : ∀ w', Below w4.heap.size w4 w' → w'.cell? ⟨w.heap.size, 0, none⟩ = some (.int .i64 (len : Int)) := fun w' h => (K5.out.step h).c0
              have HSz : Hid (Below w.heap.size w w4) := HB5.out
              have hk0 : (0 : Int) ≤ (k : Int) := by omega
              have hkla : (k : Int) ≤ (la : Int) := by omega
              have hkca : (k : Int) ≤ (ca : Int) := by have := HCA.out.1; omega
              have hlaca : (la : Int) ≤ (ca : Int) := by have := HCA.out.1; omega
              clear k0 k1
              rcases a with _ | ad
              · have hca0 : ca = 0 := HCA.out.2 rfl
                have hla0 : la = 0 := by have := HCA.out.1; omega
                have hk00 : k = 0 := by omega
                subst hca0 hla0 hk00
                have HSL : Hid (∀ w', Below w4.heap.size w4 w' → Src2 w' (.slice none 0 0) (tk (nat fa) 0)) := fun _ _ => .inl ⟨rfl, rfl⟩
                have HSR : Hid (∀ w', Below w4.heap.size w4 w' → Src2 w' (.slice none 0 0) (dr (nat fa) 0 0)) := fun _ _ => .inl ⟨rfl, rfl⟩
                generalize hW : w4 = W at *
                have KK : Below W.heap.size W W.drew := (Below.refl _ _).drew
                go_wp2_with fail
                refine wp_region_held_drew (S := (fun w' => Below W.heap.size W w')) (by kernel_rfl) (KK) (fun hHeld => ?_)
                refine wpAnyH_take (i := 1) (oi := { dst := some 94, op := Go.Op.move (Go.Operand.tmp 1), type := 22, pos := "embed.go:159", after := #[], guard := none }) (v := ?_) rfl (by kernel_rfl) (by kernel_rfl) (by kernel_rfl) (fun _ _ _ h => h) (Or.inl ⟨by rfl, ?hy⟩) (by assumption) ?_
                case hy => (intro w9 hSw; (try dsimp only at hSw); go_simp; try with_reducible rfl)
                try simp only [Act.put, List.setIfInBounds_toArray, List.set_cons_zero, List.set_cons_succ]
                refine wpAnyH_take (i := 2) (oi := { dst := some 95, op := Go.Op.move (Go.Operand.tmp 20), type := 3, pos := "embed.go:159", after := #[], guard := none }) (v := ?_) rfl (by kernel_rfl) (by kernel_rfl) (by kernel_rfl) (fun _ _ _ h => h) (Or.inl ⟨by rfl, ?hy⟩) (by assumption) ?_
                case hy => (intro w9 hSw; (try dsimp only at hSw); go_simp; try with_reducible rfl)
                try simp only [Act.put, List.setIfInBounds_toArray, List.set_cons_zero, List.set_cons_succ]
                refine wpAnyH_take (i := 3) (oi := { dst := some 96, op := Go.Op.slice 22 (Go.Operand.tmp 94) none (some (Go.Operand.tmp 95)) none, type := 22, pos := "embed.go:159", after := #[{ on := 1, ground := Go.Ground.data }, { on := 2, ground := Go.Ground.data }], guard := none }) (v := ?_) rfl (by kernel_rfl) (by kernel_rfl) (by kernel_rfl) (fun _ _ _ h => h) (Or.inl ⟨by rfl, ?hy⟩) (by assumption) ?_
                case hy => (intro w9 hSw; (try dsimp only at hSw); go_simp; try with_reducible rfl)
                try simp only [Act.put, List.setIfInBounds_toArray, List.set_cons_zero, List.set_cons_succ]
                refine wpAnyH_take (i := 5) (oi := { dst := some 98, op := Go.Op.move (Go.Operand.tmp 5), type := 3, pos := "embed.go:159", after := #[], guard := none }) (v := ?_) rfl (by kernel_rfl) (by kernel_rfl) (by kernel_rfl) (fun _ _ _ h => h) (Or.inl ⟨by rfl, ?hy⟩) (by assumption) ?_
                case hy => (intro w9 hSw; (try dsimp only at hSw); go_simp; try with_reducible rfl)
                try simp only [Act.put, List.setIfInBounds_toArray, List.set_cons_zero, List.set_cons_succ]
                refine wpAnyH_take (i := 6) (oi := { dst := some 99, op := Go.Op.fieldAddr 24 (Go.Operand.tmp 6) 0, type := 0, pos := "embed.go:159", after := #[], guard := none }) (v := ?_) rfl (by kernel_rfl) (by kernel_rfl) (by kernel_rfl) (fun _ _ _ h => h) (Or.inl ⟨by rfl, ?hy⟩) (by assumption) ?_
                case hy => (intro w9 hSw; (try dsimp only at hSw); go_simp; try with_reducible rfl)
                try simp only [Act.put, List.setIfInBounds_toArray, List.set_cons_zero, List.set_cons_succ]
                refine wpAnyH_take (i := 7) (oi := { dst := some 100, op := Go.Op.load 3 (Go.Operand.tmp 99), type := 3, pos := "embed.go:159", after := #[{ on := 6, ground := Go.Ground.data }], guard := none }) (v := ?_) rfl (by kernel_rfl) (by kernel_rfl) (by kernel_rfl) (fun _ _ _ h => h) (Or.inl ⟨by rfl, ?hy⟩) (by assumption) ?_
                case hy => (intro w9 hSw; (try dsimp only at hSw); go_simp; try with_reducible rfl)
                try simp only [Act.put, List.setIfInBounds_toArray, List.set_cons_zero, List.set_cons_succ]
                refine wpAnyH_take (i := 11) (oi := { dst := some 104, op := Go.Op.move (Go.Operand.tmp 1), type := 22, pos := "embed.go:159", after := #[], guard := none }) (v := ?_) rfl (by kernel_rfl) (by kernel_rfl) (by kernel_rfl) (fun _ _ _ h => h) (Or.inl ⟨by rfl, ?hy⟩) (by assumption) ?_
                case hy => (intro w9 hSw; (try dsimp only at hSw); go_simp; try with_reducible rfl)
                try simp only [Act.put, List.setIfInBounds_toArray, List.set_cons_zero, List.set_cons_succ]
                refine wpAnyH_take (i := 12) (oi := { dst := some 105, op := Go.Op.move (Go.Operand.tmp 20), type := 3, pos := "embed.go:159", after := #[], guard := none }) (v := ?_) rfl (by kernel_rfl) (by kernel_rfl) (by kernel_rfl) (fun _ _ _ h => h) (Or.inl ⟨by rfl, ?hy⟩) (by assumption) ?_
                case hy => (intro w9 hSw; (try dsimp only at hSw); go_simp; try with_reducible rfl)
                try simp only [Act.put, List.setIfInBounds_toArray, List.set_cons_zero, List.set_cons_succ]
                refine wpAnyH_take (i := 13) (oi := { dst := some 106, op := Go.Op.slice 22 (Go.Operand.tmp 104) (some (Go.Operand.tmp 105)) none none, type := 22, pos := "embed.go:159", after := #[{ on := 11, ground := Go.Ground.data }, { on := 12, ground := Go.Ground.data }], guard := none }) (v := ?_) rfl (by kernel_rfl) (by kernel_rfl) (by kernel_rfl) (fun _ _ _ h => h) (Or.inl ⟨by rfl, ?hy⟩) (by assumption) ?_
                case hy => (intro w9 hSw; (try dsimp only at hSw); go_simp; try with_reducible rfl)
                try simp only [Act.put, List.setIfInBounds_toArray, List.set_cons_zero, List.set_cons_succ]
                refine wpAnyH_ready (rs := [0]) (by kernel_rfl) (by simp) ?_
                refine AllReadyH.cons (o := { dst := some 93, op := Go.Op.buildSlice 22 0 #[], type := 22, pos := "embed.go:159", after := #[], guard := none }) rfl (fun K hK => ?_) AllReadyH.nil
                go_simp
                skip
                refine hK.out _ _ ?_ (fun hHeld => ?_)
                · exact KK.alloc KK.size _
                clear hK K
                try simp only [Act.put, List.setIfInBounds_toArray, List.set_cons_zero, List.set_cons_succ]
                refine wpAnyH_ready (rs := [4]) (by kernel_rfl) (by simp) ?_
                refine AllReadyH.cons (o := { dst := some 97, op := Go.Op.call { callee := Go.Callee.builtin Go.Builtin.append, args := #[Go.Operand.tmp 93, Go.Operand.tmp 96], argTypes := #[22, 22] }, type := 22, pos := "embed.go:159", after := #[{ on := 0, ground := Go.Ground.data }, { on := 3, ground := Go.Ground.data }], guard := none }) rfl (fun K hK => ?_) AllReadyH.nil
                rw [if_pos (by rfl)]
                refine wp_apnd _ _ _ rfl W.heap.size W.heap.size 0 0 [] (tk (nat fa) 0) _ rfl (World.ownsRow_made W.drew #[] 0 (Nat.le_refl _) (by unfold maxLen; omega) (by simp)) (Nat.le_refl _) (HSL.out _ (KK.alloc KK.size _)) rfl (by rw [tk_len]; omega) (by simp) ?_
                intro v1 w6 hown1 hg1
                have hB6 : Below W.heap.size W w6 := (KK.alloc KK.size _).grown hg1 (by simp) (by intro kk hkk; injection hkk with hkk; omega)
                have how1 : w6.ownsRow W.heap.size 3 1 v1 0 (natVals (tk (nat fa) 0)) := by
                  have h := hown1
                  rw [List.nil_append, Nat.zero_add, tk_len] at h
                  exact h
                clear hown1 hg1
                refine hK.out _ _ ?_ (fun hHeld => ?_)
                · exact hB6
                clear hK K
                try simp only [Act.put, List.setIfInBounds_toArray, List.set_cons_zero, List.set_cons_succ]
                refine wpAnyH_ready (rs := [8]) (by kernel_rfl) (by simp) ?_
                refine AllReadyH.cons (o := { dst := some 101, op := Go.Op.call { callee := Go.Callee.value (Go.Operand.func 13), args := #[Go.Operand.tmp 98, Go.Operand.tmp 100], argTypes := #[3, 3] }, type := 3, pos := "embed.go:159", after := #[{ on := 5, ground := Go.Ground.data }, { on := 7, ground := Go.Ground.data }, { on := 4, ground := Go.Ground.chain }], guard := none }) rfl (fun K hK => ?_) AllReadyH.nil
                go_simp
                refine (choose_any q len _ (by omega) (by omega) hq1 hq2).mono ?_
                rintro e w7 ⟨⟨x, hx, rfl⟩, hw7⟩
                subst hw7
                refine hK.out _ _ ?_ (fun hHeld => ?_)
                · exact hB6
                clear hK K
                try simp only [Act.put, List.setIfInBounds_toArray, List.set_cons_zero, List.set_cons_succ]
                refine wpAnyH_ready (rs := [9]) (by kernel_rfl) (by simp) ?_
                refine AllReadyH.cons (o := { dst := some 102, op := Go.Op.buildSlice 22 1 #[(0, Go.Operand.tmp 101)], type := 22, pos := "embed.go:159", after := #[{ on := 8, ground := Go.Ground.data }], guard := none }) rfl (fun K hK => ?_) AllReadyH.nil
                go_simp
                skip
                refine hK.out _ _ ?_ (fun hHeld => ?_)
                · exact hB6.alloc hB6.size _
                clear hK K
                try simp only [Act.put, List.setIfInBounds_toArray, List.set_cons_zero, List.set_cons_succ]
                refine wpAnyH_ready (rs := [10]) (by kernel_rfl) (by simp) ?_
                refine AllReadyH.cons (o := { dst := some 103, op := Go.Op.call { callee := Go.Callee.builtin Go.Builtin.append, args := #[Go.Operand.tmp 97, Go.Operand.tmp 102], argTypes := #[22, 22] }, type := 22, pos := "embed.go:159", after := #[{ on := 4, ground := Go.Ground.data }, { on := 9, ground := Go.Ground.data }, { on := 8, ground := Go.Ground.chain }], guard := none }) rfl (fun K hK => ?_) AllReadyH.nil
                rw [if_pos (by rfl)]
                refine wp_append_own _ _ _ 22 rfl W.heap.size 3 i0 (.int .i64 0) 1 8 Tryd.underlying22 hi hz0 hz1 hz2 rfl (by decide) v1 0 (natVals (tk (nat fa) 0)) rfl (how1.alloc _) ⟨w6.heap.size, 0, none⟩ 1 1 [.int .i64 (x : Nat)] rfl rfl ?c1 ?c2 (by unfold maxLen; omega) (by omega) (by have := hB6.size; simp; omega) ?_
                case c1 =>
                  intro j u hj
                  match j, hj with
                  | 0, hj => simp at hj; subst hj; simp [Addr.add]
                case c2 => intro u hu; simp at hu; subst hu; rfl
                intro v2 w8 hown2 hg2 _
                have hB8 : Below W.heap.size W w8 := below_append3 hB6 how1 hg2
                obtain ⟨B2, cap2, rfl, hBB2, hle2⟩ : ∃ B2 cap2, v2 = .slice (some ⟨B2, 0, none⟩) (0 + 1) cap2 ∧ W.heap.size ≤ B2 ∧ 0 + 1 ≤ cap2 := by
                  rcases hown2.2 with ⟨_, h⟩ | ⟨g, cap, cur, h1, h2, _, h3, _⟩
                  · omega
                  · exact ⟨g, cap, h1, h2, h3⟩
                clear hg2 how1
                refine hK.out _ _ ?_ (fun hHeld => ?_)
                · exact hB8
                clear hK K
                try simp only [Act.put, List.setIfInBounds_toArray, List.set_cons_zero, List.set_cons_succ]
                refine wpAnyH_ready (rs := [14]) (by kernel_rfl) (by simp) ?_
                refine AllReadyH.cons (o := { dst := some 107, op := Go.Op.call { callee := Go.Callee.builtin Go.Builtin.append, args := #[Go.Operand.tmp 103, Go.Operand.tmp 106], argTypes := #[22, 22] }, type := 22, pos := "embed.go:159", after := #[{ on := 10, ground := Go.Ground.data }, { on := 13, ground := Go.Ground.data }, { on := 10, ground := Go.Ground.chain }], guard := none }) rfl (fun K hK => ?_) AllReadyH.nil
                rw [if_pos (by rfl)]
                refine wp_apnd _ _ _ rfl W.heap.size B2 (0 + 1) cap2 (natVals (tk (nat fa) 0) ++ [.int .i64 (x : Nat)]) (dr (nat fa) 0 0) _ rfl hown2 hle2 (HSR.out _ hB8) rfl (by rw [dr_len]; omega) hB8.size ?_
                intro v3 w9 hown3 hg3
                have hB9 : Below W.heap.size W w9 := hB8.grown hg3 hB8.size (by intro kk hkk; injection hkk with hkk; omega)
                have how3 : w9.ownsRow W.heap.size 3 1 v3 (ins (nat fa) 0 0 x).length (natVals (ins (nat fa) 0 0 x)) := by
                  have e1 : natVals (ins (nat fa) 0 0 x) = natVals (tk (nat fa) 0) ++ [.int .i64 (x : Nat)] ++ natVals (dr (nat fa) 0 0) := by
                    unfold ins
                    rw [natVals_append, natVals_append]; rfl
                  rw [e1, ins_len (by omega)]
                  rw [dr_len, show 0 + 1 + (0 - 0) = 0 + 1 by omega] at hown3
                  exact hown3
                obtain ⟨a3, cap3, rfl, hr3⟩ := owns_nats how3
                clear hown3 hg3 hown2 hBB2 hle2 how3
                refine hK.out _ _ ?_ (fun hHeld => ?_)
                · exact hB9
                clear hK K
                try simp only [Act.put, List.setIfInBounds_toArray, List.set_cons_zero, List.set_cons_succ]
                refine wpAnyH_take (i := 15) (oi := { dst := some 21, op := Go.Op.assign (Go.Operand.tmp 107), type := 22, pos := "embed.go:159", after := #[{ on := 14, ground := Go.Ground.data }, { on := 14, ground := Go.Ground.chain }, { on := 0, ground := Go.Ground.phase }, { on := 1, ground := Go.Ground.phase }, { on := 2, ground := Go.Ground.phase }, { on := 3, ground := Go.Ground.phase }, { on := 4, ground := Go.Ground.phase }, { on := 5, ground := Go.Ground.phase }, { on := 6, ground := Go.Ground.phase }, { on := 7, ground := Go.Ground.phase }, { on := 8, ground := Go.Ground.phase }, { on := 9, ground := Go.Ground.phase }, { on := 10, ground := Go.Ground.phase }, { on := 11, ground := Go.Ground.phase }, { on := 12, ground := Go.Ground.phase }, { on := 13, ground := Go.Ground.phase }, { on := 14, ground := Go.Ground.phase }], guard := none }) (v := ?_) rfl (by kernel_rfl) (by kernel_rfl) (by kernel_rfl) (fun _ _ _ h => h) (Or.inl ⟨by rfl, ?hy⟩) (by assumption) ?_
                case hy => (intro w9 hSw; (try dsimp only at hSw); go_simp; try with_reducible rfl)
                try simp only [Act.put, List.setIfInBounds_toArray, List.set_cons_zero, List.set_cons_succ]
                refine wpAnyH_done (by kernel_rfl) ?_ _
                try simp only [Act.put, List.setIfInBounds_toArray, List.set_cons_zero, List.set_cons_succ]
                have HB9 : Hid (Below w.heap.size w w9) := Below.then HSz.out hB9
                have K9 : Hid (Held w9 w.heap.size len ao len co f) := K5.out.step hB9
                have HRL : Hid (Row w9 a3 (ins (nat fa) 0 0 x).length (fun i => ((nth (ins (nat fa) 0 0 x) i : Nat) : Int))) := hr3
                have hlen := ins_len (fa := nat fa) (x := x) (show 0 ≤ 0 by omega)
                have enx : nat (fun i => ((nth (ins (nat fa) 0 0 x) i : Nat) : Int)) = nth (ins (nat fa) 0 0 x) := by funext q; simp [nat]
                have HEM : Hid (goesB (nat f) 0 (nat fa) (ins (nat fa) 0 0 x).length (nat (fun i => ((nth (ins (nat fa) 0 0 x) i : Nat) : Int))) = true) := by
                  rw [enx, hlen]; exact goes_iff.2 (ins_emb _)
                have HNOB : Hid (goesB (nat f) (ins (nat fa) 0 0 x).length (nat (fun i => ((nth (ins (nat fa) 0 0 x) i : Nat) : Int))) 0 (nat fa) = false) := goes_len (by rw [hlen]; omega)
                have HLI : Hid (∀ i, i < (ins (nat fa) 0 0 x).length → 0 ≤ ((nth (ins (nat fa) 0 0 x) i : Nat) : Int) ∧ ((nth (ins (nat fa) 0 0 x) i : Nat) : Int) < len) := fun i hi => by
                  have := ins_lt (x := x) (show 0 ≤ 0 by omega) HFN.out hx i (by rw [hlen] at hi; exact hi)
                  omega
                have hL12 : (ins (nat fa) 0 0 x).length ≤ 12 := by omega
                clear hr3 hB9 l0 HSL HSR enx hlen
                generalize hgL : ins (nat fa) 0 0 x = L at *
                have k0 := K9.out.c0
                have k1 := K9.out.c1
                go_wp2_with fail
                refine (into_ok len ao len co f none 0 0 fa a3 L.length cap3 _ w9 true HEM.out K9.out.row (HA.out.below HB9.out) HRL.out HCK.out hla2 hL12 HFA.out HLI.out).mono ?_
                rintro e w10 ⟨rfl, hb10⟩
                have HB11 : Hid (Below w.heap.size w w10) := Below.then HB9.out hb10
                have K11 : Hid (Held w10 w.heap.size len ao len co f) := K9.out.step hb10
                have HRL2 : Hid (Row w10 a3 L.length (fun i => ((nth L i : Nat) : Int))) := HRL.out.below hb10
                clear hb10 k0 k1 K9 HRL HB9
                have k0 := K11.out.c0
                have k1 := K11.out.c1
                go_wp2_with fail
                refine (into_ok len ao len co f a3 L.length cap3 _ none 0 0 fa w10 false HNOB.out K11.out.row HRL2.out (HA.out.below HB11.out) HCK.out hL12 hla2 HLI.out HFA.out).mono ?_
                rintro e w11 ⟨rfl, hb11⟩
                have HB12 : Hid (Below w.heap.size w w11) := Below.then HB11.out hb11
                clear hb11 k0 k1
                go_wp2_with fail
                go_ret
                exact ⟨rfl, HB12.out⟩
              · obtain ⟨aq, haq, HAQ⟩ : ∃ aq : Addr, (if ca = k then some ad else some (ad.add k)) = some aq ∧ Hid (k < la → aq = ad.add k) := by
                  have := HCA.out.1
                  by_cases h : ca = k
                  · exact ⟨ad, by rw [if_pos h], fun h2 => by omega⟩
                  · exact ⟨ad.add k, by rw [if_neg h], fun _ => rfl⟩
                have HSL : Hid (∀ w', Below w4.heap.size w4 w' → Src2 w' (.slice (some ad) k ca) (tk (nat fa) k)) := fun w' h => by
                  refine .inr ⟨ad, ca, by rw [tk_len], fun j u hj => ?_⟩
                  have hjk : j < k := by
                    rcases Nat.lt_or_ge j k with h | h
                    · exact h
                    · rw [List.getElem?_eq_none (by simp [natVals, tk_len]; omega)] at hj; cases hj
                  rw [natVals_at _ _ (by rw [tk_len]; exact hjk)] at hj
                  cases hj
                  obtain ⟨b1, o1, e1, hc1⟩ := HRA.out w' h j (by omega)
                  simp at e1
                  subst e1
                  rw [addr_flatG, hc1]
                  simp [nth, tk, hjk]
                have HSR : Hid (∀ w', Below w4.heap.size w4 w' → Src2 w' (.slice (some aq) (la - k) (ca - k)) (dr (nat fa) k la)) := fun w' h => by
                  refine .inr ⟨aq, ca - k, by rw [dr_len], fun j u hj => ?_⟩
                  have hjk : j < la - k := by
                    rcases Nat.lt_or_ge j (la - k) with h | h
                    · exact h
                    · rw [List.getElem?_eq_none (by simp [natVals, dr_len]; omega)] at hj; cases hj
                  rw [natVals_at _ _ (by rw [dr_len]; exact hjk)] at hj
                  cases hj
                  obtain ⟨b1, o1, e1, hc1⟩ := HRA.out w' h (k + j) (by omega)
                  simp at e1
                  subst e1
                  rw [HAQ.out (by omega), addr_flatG, addr_flatG, Nat.add_assoc, hc1]
                  simp [nth, dr, hjk]
                generalize hW : w4 = W at *
                have KK : Below W.heap.size W W.drew := (Below.refl _ _).drew
                go_wp2_with fail
                refine wp_region_held_drew (S := (fun w' => Below W.heap.size W w')) (by kernel_rfl) (KK) (fun hHeld => ?_)
                refine wpAnyH_take (i := 1) (oi := { dst := some 94, op := Go.Op.move (Go.Operand.tmp 1), type := 22, pos := "embed.go:159", after := #[], guard := none }) (v := ?_) rfl (by kernel_rfl) (by kernel_rfl) (by kernel_rfl) (fun _ _ _ h => h) (Or.inl ⟨by rfl, ?hy⟩) (by assumption) ?_
                case hy => (intro w9 hSw; (try dsimp only at hSw); go_simp; try with_reducible rfl)
                try simp only [Act.put, List.setIfInBounds_toArray, List.set_cons_zero, List.set_cons_succ]
                refine wpAnyH_take (i := 2) (oi := { dst := some 95, op := Go.Op.move (Go.Operand.tmp 20), type := 3, pos := "embed.go:159", after := #[], guard := none }) (v := ?_) rfl (by kernel_rfl) (by kernel_rfl) (by kernel_rfl) (fun _ _ _ h => h) (Or.inl ⟨by rfl, ?hy⟩) (by assumption) ?_
                case hy => (intro w9 hSw; (try dsimp only at hSw); go_simp; try with_reducible rfl)
                try simp only [Act.put, List.setIfInBounds_toArray, List.set_cons_zero, List.set_cons_succ]
                refine wpAnyH_take (i := 3) (oi := { dst := some 96, op := Go.Op.slice 22 (Go.Operand.tmp 94) none (some (Go.Operand.tmp 95)) none, type := 22, pos := "embed.go:159", after := #[{ on := 1, ground := Go.Ground.data }, { on := 2, ground := Go.Ground.data }], guard := none }) (v := ?_) rfl (by kernel_rfl) (by kernel_rfl) (by kernel_rfl) (fun _ _ _ h => h) (Or.inl ⟨by rfl, ?hy⟩) (by assumption) ?_
                case hy => (intro w9 hSw; (try dsimp only at hSw); go_simp; try with_reducible rfl)
                try simp only [Act.put, List.setIfInBounds_toArray, List.set_cons_zero, List.set_cons_succ]
                refine wpAnyH_take (i := 5) (oi := { dst := some 98, op := Go.Op.move (Go.Operand.tmp 5), type := 3, pos := "embed.go:159", after := #[], guard := none }) (v := ?_) rfl (by kernel_rfl) (by kernel_rfl) (by kernel_rfl) (fun _ _ _ h => h) (Or.inl ⟨by rfl, ?hy⟩) (by assumption) ?_
                case hy => (intro w9 hSw; (try dsimp only at hSw); go_simp; try with_reducible rfl)
                try simp only [Act.put, List.setIfInBounds_toArray, List.set_cons_zero, List.set_cons_succ]
                refine wpAnyH_take (i := 6) (oi := { dst := some 99, op := Go.Op.fieldAddr 24 (Go.Operand.tmp 6) 0, type := 0, pos := "embed.go:159", after := #[], guard := none }) (v := ?_) rfl (by kernel_rfl) (by kernel_rfl) (by kernel_rfl) (fun _ _ _ h => h) (Or.inl ⟨by rfl, ?hy⟩) (by assumption) ?_
                case hy => (intro w9 hSw; (try dsimp only at hSw); go_simp; try with_reducible rfl)
                try simp only [Act.put, List.setIfInBounds_toArray, List.set_cons_zero, List.set_cons_succ]
                refine wpAnyH_take (i := 7) (oi := { dst := some 100, op := Go.Op.load 3 (Go.Operand.tmp 99), type := 3, pos := "embed.go:159", after := #[{ on := 6, ground := Go.Ground.data }], guard := none }) (v := ?_) rfl (by kernel_rfl) (by kernel_rfl) (by kernel_rfl) (fun _ _ _ h => h) (Or.inl ⟨by rfl, ?hy⟩) (by assumption) ?_
                case hy => (intro w9 hSw; (try dsimp only at hSw); go_simp; try with_reducible rfl)
                try simp only [Act.put, List.setIfInBounds_toArray, List.set_cons_zero, List.set_cons_succ]
                refine wpAnyH_take (i := 11) (oi := { dst := some 104, op := Go.Op.move (Go.Operand.tmp 1), type := 22, pos := "embed.go:159", after := #[], guard := none }) (v := ?_) rfl (by kernel_rfl) (by kernel_rfl) (by kernel_rfl) (fun _ _ _ h => h) (Or.inl ⟨by rfl, ?hy⟩) (by assumption) ?_
                case hy => (intro w9 hSw; (try dsimp only at hSw); go_simp; try with_reducible rfl)
                try simp only [Act.put, List.setIfInBounds_toArray, List.set_cons_zero, List.set_cons_succ]
                refine wpAnyH_take (i := 12) (oi := { dst := some 105, op := Go.Op.move (Go.Operand.tmp 20), type := 3, pos := "embed.go:159", after := #[], guard := none }) (v := ?_) rfl (by kernel_rfl) (by kernel_rfl) (by kernel_rfl) (fun _ _ _ h => h) (Or.inl ⟨by rfl, ?hy⟩) (by assumption) ?_
                case hy => (intro w9 hSw; (try dsimp only at hSw); go_simp; try with_reducible rfl)
                try simp only [Act.put, List.setIfInBounds_toArray, List.set_cons_zero, List.set_cons_succ]
                refine wpAnyH_take (i := 13) (oi := { dst := some 106, op := Go.Op.slice 22 (Go.Operand.tmp 104) (some (Go.Operand.tmp 105)) none none, type := 22, pos := "embed.go:159", after := #[{ on := 11, ground := Go.Ground.data }, { on := 12, ground := Go.Ground.data }], guard := none }) (v := ?_) rfl (by kernel_rfl) (by kernel_rfl) (by kernel_rfl) (fun _ _ _ h => h) (Or.inl ⟨by rfl, ?hy⟩) (by assumption) ?_
                case hy => (intro w9 hSw; (try dsimp only at hSw); go_simp; try with_reducible rfl)
                try simp only [Act.put, List.setIfInBounds_toArray, List.set_cons_zero, List.set_cons_succ]
                refine wpAnyH_ready (rs := [0]) (by kernel_rfl) (by simp) ?_
                refine AllReadyH.cons (o := { dst := some 93, op := Go.Op.buildSlice 22 0 #[], type := 22, pos := "embed.go:159", after := #[], guard := none }) rfl (fun K hK => ?_) AllReadyH.nil
                go_simp
                skip
                refine hK.out _ _ ?_ (fun hHeld => ?_)
                · exact KK.alloc KK.size _
                clear hK K
                try simp only [Act.put, List.setIfInBounds_toArray, List.set_cons_zero, List.set_cons_succ]
                refine wpAnyH_ready (rs := [4]) (by kernel_rfl) (by simp) ?_
                refine AllReadyH.cons (o := { dst := some 97, op := Go.Op.call { callee := Go.Callee.builtin Go.Builtin.append, args := #[Go.Operand.tmp 93, Go.Operand.tmp 96], argTypes := #[22, 22] }, type := 22, pos := "embed.go:159", after := #[{ on := 0, ground := Go.Ground.data }, { on := 3, ground := Go.Ground.data }], guard := none }) rfl (fun K hK => ?_) AllReadyH.nil
                rw [if_pos (by rfl)]
                refine wp_apnd _ _ _ rfl W.heap.size W.heap.size 0 0 [] (tk (nat fa) k) _ rfl (World.ownsRow_made W.drew #[] 0 (Nat.le_refl _) (by unfold maxLen; omega) (by simp)) (Nat.le_refl _) (HSL.out _ (KK.alloc KK.size _)) rfl (by rw [tk_len]; omega) (by simp) ?_
                intro v1 w6 hown1 hg1
                have hB6 : Below W.heap.size W w6 := (KK.alloc KK.size _).grown hg1 (by simp) (by intro k hk; injection hk with hk; omega)
                have how1 : w6.ownsRow W.heap.size 3 1 v1 k (natVals (tk (nat fa) k)) := by
                  have h := hown1
                  rw [List.nil_append, Nat.zero_add, tk_len] at h
                  exact h
                clear hown1 hg1
                refine hK.out _ _ ?_ (fun hHeld => ?_)
                · exact hB6
                clear hK K
                try simp only [Act.put, List.setIfInBounds_toArray, List.set_cons_zero, List.set_cons_succ]
                refine wpAnyH_ready (rs := [8]) (by kernel_rfl) (by simp) ?_
                refine AllReadyH.cons (o := { dst := some 101, op := Go.Op.call { callee := Go.Callee.value (Go.Operand.func 13), args := #[Go.Operand.tmp 98, Go.Operand.tmp 100], argTypes := #[3, 3] }, type := 3, pos := "embed.go:159", after := #[{ on := 5, ground := Go.Ground.data }, { on := 7, ground := Go.Ground.data }, { on := 4, ground := Go.Ground.chain }], guard := none }) rfl (fun K hK => ?_) AllReadyH.nil
                go_simp
                refine (choose_any q len _ (by omega) (by omega) hq1 hq2).mono ?_
                rintro e w7 ⟨⟨x, hx, rfl⟩, hw7⟩
                subst hw7
                refine hK.out _ _ ?_ (fun hHeld => ?_)
                · exact hB6
                clear hK K
                try simp only [Act.put, List.setIfInBounds_toArray, List.set_cons_zero, List.set_cons_succ]
                refine wpAnyH_ready (rs := [9]) (by kernel_rfl) (by simp) ?_
                refine AllReadyH.cons (o := { dst := some 102, op := Go.Op.buildSlice 22 1 #[(0, Go.Operand.tmp 101)], type := 22, pos := "embed.go:159", after := #[{ on := 8, ground := Go.Ground.data }], guard := none }) rfl (fun K hK => ?_) AllReadyH.nil
                go_simp
                skip
                refine hK.out _ _ ?_ (fun hHeld => ?_)
                · exact hB6.alloc hB6.size _
                clear hK K
                try simp only [Act.put, List.setIfInBounds_toArray, List.set_cons_zero, List.set_cons_succ]
                refine wpAnyH_ready (rs := [10]) (by kernel_rfl) (by simp) ?_
                refine AllReadyH.cons (o := { dst := some 103, op := Go.Op.call { callee := Go.Callee.builtin Go.Builtin.append, args := #[Go.Operand.tmp 97, Go.Operand.tmp 102], argTypes := #[22, 22] }, type := 22, pos := "embed.go:159", after := #[{ on := 4, ground := Go.Ground.data }, { on := 9, ground := Go.Ground.data }, { on := 8, ground := Go.Ground.chain }], guard := none }) rfl (fun K hK => ?_) AllReadyH.nil
                rw [if_pos (by rfl)]
                refine wp_append_own _ _ _ 22 rfl W.heap.size 3 i0 (.int .i64 0) 1 8 Tryd.underlying22 hi hz0 hz1 hz2 rfl (by decide) v1 k (natVals (tk (nat fa) k)) rfl (how1.alloc _) ⟨w6.heap.size, 0, none⟩ 1 1 [.int .i64 (x : Nat)] rfl rfl ?c1 ?c2 (by unfold maxLen; omega) (by omega) (by have := hB6.size; simp; omega) ?_
                case c1 =>
                  intro j u hj
                  match j, hj with
                  | 0, hj => simp at hj; subst hj; simp [Addr.add]
                case c2 => intro u hu; simp at hu; subst hu; rfl
                intro v2 w8 hown2 hg2 _
                have hB8 : Below W.heap.size W w8 := below_append3 hB6 how1 hg2
                obtain ⟨B2, cap2, rfl, hBB2, hle2⟩ : ∃ B2 cap2, v2 = .slice (some ⟨B2, 0, none⟩) (k + 1) cap2 ∧ W.heap.size ≤ B2 ∧ k + 1 ≤ cap2 := by
                  rcases hown2.2 with ⟨_, h⟩ | ⟨g, cap, cur, h1, h2, _, h3, _⟩
                  · omega
                  · exact ⟨g, cap, h1, h2, h3⟩
                clear hg2 how1
                refine hK.out _ _ ?_ (fun hHeld => ?_)
                · exact hB8
                clear hK K
                try simp only [Act.put, List.setIfInBounds_toArray, List.set_cons_zero, List.set_cons_succ]
                refine wpAnyH_ready (rs := [14]) (by kernel_rfl) (by simp) ?_
                refine AllReadyH.cons (o := { dst := some 107, op := Go.Op.call { callee := Go.Callee.builtin Go.Builtin.append, args := #[Go.Operand.tmp 103, Go.Operand.tmp 106], argTypes := #[22, 22] }, type := 22, pos := "embed.go:159", after := #[{ on := 10, ground := Go.Ground.data }, { on := 13, ground := Go.Ground.data }, { on := 10, ground := Go.Ground.chain }], guard := none }) rfl (fun K hK => ?_) AllReadyH.nil
                rw [if_pos (by rfl)]
                refine wp_apnd _ _ _ rfl W.heap.size B2 (k + 1) cap2 (natVals (tk (nat fa) k) ++ [.int .i64 (x : Nat)]) (dr (nat fa) k la) _ rfl hown2 hle2 (HSR.out _ hB8) rfl (by rw [dr_len]; omega) hB8.size ?_
                intro v3 w9 hown3 hg3
                have hB9 : Below W.heap.size W w9 := hB8.grown hg3 hB8.size (by intro k hk; injection hk with hk; omega)
                have how3 : w9.ownsRow W.heap.size 3 1 v3 (ins (nat fa) k la x).length (natVals (ins (nat fa) k la x)) := by
                  have e1 : natVals (ins (nat fa) k la x) = natVals (tk (nat fa) k) ++ [.int .i64 (x : Nat)] ++ natVals (dr (nat fa) k la) := by
                    unfold ins
                    rw [natVals_append, natVals_append]; rfl
                  rw [e1, ins_len (by omega)]
                  rw [dr_len, show k + 1 + (la - k) = la + 1 by omega] at hown3
                  exact hown3
                obtain ⟨a3, cap3, rfl, hr3⟩ := owns_nats how3
                clear hown3 hg3 hown2 hBB2 hle2 how3
                refine hK.out _ _ ?_ (fun hHeld => ?_)
                · exact hB9
                clear hK K
                try simp only [Act.put, List.setIfInBounds_toArray, List.set_cons_zero, List.set_cons_succ]
                refine wpAnyH_take (i := 15) (oi := { dst := some 21, op := Go.Op.assign (Go.Operand.tmp 107), type := 22, pos := "embed.go:159", after := #[{ on := 14, ground := Go.Ground.data }, { on := 14, ground := Go.Ground.chain }, { on := 0, ground := Go.Ground.phase }, { on := 1, ground := Go.Ground.phase }, { on := 2, ground := Go.Ground.phase }, { on := 3, ground := Go.Ground.phase }, { on := 4, ground := Go.Ground.phase }, { on := 5, ground := Go.Ground.phase }, { on := 6, ground := Go.Ground.phase }, { on := 7, ground := Go.Ground.phase }, { on := 8, ground := Go.Ground.phase }, { on := 9, ground := Go.Ground.phase }, { on := 10, ground := Go.Ground.phase }, { on := 11, ground := Go.Ground.phase }, { on := 12, ground := Go.Ground.phase }, { on := 13, ground := Go.Ground.phase }, { on := 14, ground := Go.Ground.phase }], guard := none }) (v := ?_) rfl (by kernel_rfl) (by kernel_rfl) (by kernel_rfl) (fun _ _ _ h => h) (Or.inl ⟨by rfl, ?hy⟩) (by assumption) ?_
                case hy => (intro w9 hSw; (try dsimp only at hSw); go_simp; try with_reducible rfl)
                try simp only [Act.put, List.setIfInBounds_toArray, List.set_cons_zero, List.set_cons_succ]
                refine wpAnyH_done (by kernel_rfl) ?_ _
                try simp only [Act.put, List.setIfInBounds_toArray, List.set_cons_zero, List.set_cons_succ]
                have HB9 : Hid (Below w.heap.size w w9) := Below.then HSz.out hB9
                have K9 : Hid (Held w9 w.heap.size len ao len co f) := K5.out.step hB9
                have HRL : Hid (Row w9 a3 (ins (nat fa) k la x).length (fun i => ((nth (ins (nat fa) k la x) i : Nat) : Int))) := hr3
                have hlen := ins_len (fa := nat fa) (x := x) (show k ≤ la by omega)
                have enx : nat (fun i => ((nth (ins (nat fa) k la x) i : Nat) : Int)) = nth (ins (nat fa) k la x) := by funext q; simp [nat]
                have HEM : Hid (goesB (nat f) la (nat fa) (ins (nat fa) k la x).length (nat (fun i => ((nth (ins (nat fa) k la x) i : Nat) : Int))) = true) := by
                  rw [enx, hlen]; exact goes_iff.2 (ins_emb _)
                have HNOB : Hid (goesB (nat f) (ins (nat fa) k la x).length (nat (fun i => ((nth (ins (nat fa) k la x) i : Nat) : Int))) la (nat fa) = false) := goes_len (by rw [hlen]; omega)
                have HLI : Hid (∀ i, i < (ins (nat fa) k la x).length → 0 ≤ ((nth (ins (nat fa) k la x) i : Nat) : Int) ∧ ((nth (ins (nat fa) k la x) i : Nat) : Int) < len) := fun i hi => by
                  have := ins_lt (x := x) (show k ≤ la by omega) HFN.out hx i (by rw [hlen] at hi; exact hi)
                  omega
                have hL12 : (ins (nat fa) k la x).length ≤ 12 := by omega
                clear hr3 hB9 l0 HSL HSR enx hlen
                generalize hgL : ins (nat fa) k la x = L at *
                have k0 := K9.out.c0
                have k1 := K9.out.c1
                go_wp2_with fail
                refine (into_ok len ao len co f (some ad) la ca fa a3 L.length cap3 _ w9 true HEM.out K9.out.row (HA.out.below HB9.out) HRL.out HCK.out hla2 hL12 HFA.out HLI.out).mono ?_
                rintro e w10 ⟨rfl, hb10⟩
                have HB11 : Hid (Below w.heap.size w w10) := Below.then HB9.out hb10
                have K11 : Hid (Held w10 w.heap.size len ao len co f) := K9.out.step hb10
                have HRL2 : Hid (Row w10 a3 L.length (fun i => ((nth L i : Nat) : Int))) := HRL.out.below hb10
                clear hb10 k0 k1 K9 HRL HB9
                have k0 := K11.out.c0
                have k1 := K11.out.c1
                go_wp2_with fail
                refine (into_ok len ao len co f a3 L.length cap3 _ (some ad) la ca fa w10 false HNOB.out K11.out.row HRL2.out (HA.out.below HB11.out) HCK.out hL12 hla2 HLI.out HFA.out).mono ?_
                rintro e w11 ⟨rfl, hb11⟩
                have HB12 : Hid (Below w.heap.size w w11) := Below.then HB11.out hb11
                clear hb11 k0 k1
                go_wp2_with fail
                go_ret
                exact ⟨rfl, HB12.out⟩
        · obtain rfl : vr = true := HPQ.out rfl rfl
          clear HPQ
          by_cases hN : len = 0
          · have hz : ((len : Int) == 0) = true := by simp; omega
            clear hN
            go_wp2_with fail
            go_ret
            exact ⟨rfl, HB5.out⟩
          · have hz : ((len : Int) == 0) = false := by simp; omega
            by_cases h12 : 12 ≤ la
            · have h12' : (12 : Int) ≤ (la : Int) := by omega
              go_wp2_with fail
              go_ret
              exact ⟨rfl, HB5.out⟩
            · have h12' : ¬ (12 : Int) ≤ (la : Int) := by omega
              have hch : Calls Tryd.prog 13 #[.int .i64 p, .int .i64 ((la : Int) + 1)] w4 fun e w' => (∃ k : Nat, k < la + 1 ∧ e = .returned (.int .i64 (k : Nat))) ∧ w4 = w' := choose_any p (la + 1) w4 (by omega) (by omega) hp1 hp2
              have HCHO : Hid (Calls Tryd.prog 13 #[.int .i64 p, .int .i64 ((la : Int) + 1)] w4 fun e w' => (∃ k : Nat, k < la + 1 ∧ e = .returned (.int .i64 (k : Nat))) ∧ w4 = w') := hch
              clear hch
              go_wp2_with fail
              refine HCHO.out.mono ?_
              rintro e w5 ⟨⟨k, hk, rfl⟩, hw5⟩
              subst hw5
              clear HCHO
              obtain ⟨i0, hi, hz0, hz1, hz2⟩ := info_parts Tryd.info3
              have HRA : Hid (∀ w', Below w4.heap.size w4 w' → Row w' a la (fun k => ((nat fa k : Nat) : Int))) := fun w' h => row_nat (HA.out.below (Below.then HB5.out h)) (fun k hk => (HFA.out k hk).1)
              have l0 : ∀ w', Below w4.heap.size w4 w' → w'.cell? ⟨w.heap.size, 0, none⟩ = some (.int .i64 (len : Int)) := fun w' h => (K5.out.step h).c0
              have HSz : Hid (Below w.heap.size w w4) := HB5.out
              have hk0 : (0 : Int) ≤ (k : Int) := by omega
              have hkla : (k : Int) ≤ (la : Int) := by omega
              have hkca : (k : Int) ≤ (ca : Int) := by have := HCA.out.1; omega
              have hlaca : (la : Int) ≤ (ca : Int) := by have := HCA.out.1; omega
              clear k0 k1
              rcases a with _ | ad
              · have hca0 : ca = 0 := HCA.out.2 rfl
                have hla0 : la = 0 := by have := HCA.out.1; omega
                have hk00 : k = 0 := by omega
                subst hca0 hla0 hk00
                have HSL : Hid (∀ w', Below w4.heap.size w4 w' → Src2 w' (.slice none 0 0) (tk (nat fa) 0)) := fun _ _ => .inl ⟨rfl, rfl⟩
                have HSR : Hid (∀ w', Below w4.heap.size w4 w' → Src2 w' (.slice none 0 0) (dr (nat fa) 0 0)) := fun _ _ => .inl ⟨rfl, rfl⟩
                generalize hW : w4 = W at *
                have KK : Below W.heap.size W W.drew := (Below.refl _ _).drew
                go_wp2_with fail
                refine wp_region_held_drew (S := (fun w' => Below W.heap.size W w')) (by kernel_rfl) (KK) (fun hHeld => ?_)
                refine wpAnyH_take (i := 1) (oi := { dst := some 94, op := Go.Op.move (Go.Operand.tmp 1), type := 22, pos := "embed.go:159", after := #[], guard := none }) (v := ?_) rfl (by kernel_rfl) (by kernel_rfl) (by kernel_rfl) (fun _ _ _ h => h) (Or.inl ⟨by rfl, ?hy⟩) (by assumption) ?_
                case hy => (intro w9 hSw; (try dsimp only at hSw); go_simp; try with_reducible rfl)
                try simp only [Act.put, List.setIfInBounds_toArray, List.set_cons_zero, List.set_cons_succ]
                refine wpAnyH_take (i := 2) (oi := { dst := some 95, op := Go.Op.move (Go.Operand.tmp 20), type := 3, pos := "embed.go:159", after := #[], guard := none }) (v := ?_) rfl (by kernel_rfl) (by kernel_rfl) (by kernel_rfl) (fun _ _ _ h => h) (Or.inl ⟨by rfl, ?hy⟩) (by assumption) ?_
                case hy => (intro w9 hSw; (try dsimp only at hSw); go_simp; try with_reducible rfl)
                try simp only [Act.put, List.setIfInBounds_toArray, List.set_cons_zero, List.set_cons_succ]
                refine wpAnyH_take (i := 3) (oi := { dst := some 96, op := Go.Op.slice 22 (Go.Operand.tmp 94) none (some (Go.Operand.tmp 95)) none, type := 22, pos := "embed.go:159", after := #[{ on := 1, ground := Go.Ground.data }, { on := 2, ground := Go.Ground.data }], guard := none }) (v := ?_) rfl (by kernel_rfl) (by kernel_rfl) (by kernel_rfl) (fun _ _ _ h => h) (Or.inl ⟨by rfl, ?hy⟩) (by assumption) ?_
                case hy => (intro w9 hSw; (try dsimp only at hSw); go_simp; try with_reducible rfl)
                try simp only [Act.put, List.setIfInBounds_toArray, List.set_cons_zero, List.set_cons_succ]
                refine wpAnyH_take (i := 5) (oi := { dst := some 98, op := Go.Op.move (Go.Operand.tmp 5), type := 3, pos := "embed.go:159", after := #[], guard := none }) (v := ?_) rfl (by kernel_rfl) (by kernel_rfl) (by kernel_rfl) (fun _ _ _ h => h) (Or.inl ⟨by rfl, ?hy⟩) (by assumption) ?_
                case hy => (intro w9 hSw; (try dsimp only at hSw); go_simp; try with_reducible rfl)
                try simp only [Act.put, List.setIfInBounds_toArray, List.set_cons_zero, List.set_cons_succ]
                refine wpAnyH_take (i := 6) (oi := { dst := some 99, op := Go.Op.fieldAddr 24 (Go.Operand.tmp 6) 0, type := 0, pos := "embed.go:159", after := #[], guard := none }) (v := ?_) rfl (by kernel_rfl) (by kernel_rfl) (by kernel_rfl) (fun _ _ _ h => h) (Or.inl ⟨by rfl, ?hy⟩) (by assumption) ?_
                case hy => (intro w9 hSw; (try dsimp only at hSw); go_simp; try with_reducible rfl)
                try simp only [Act.put, List.setIfInBounds_toArray, List.set_cons_zero, List.set_cons_succ]
                refine wpAnyH_take (i := 7) (oi := { dst := some 100, op := Go.Op.load 3 (Go.Operand.tmp 99), type := 3, pos := "embed.go:159", after := #[{ on := 6, ground := Go.Ground.data }], guard := none }) (v := ?_) rfl (by kernel_rfl) (by kernel_rfl) (by kernel_rfl) (fun _ _ _ h => h) (Or.inl ⟨by rfl, ?hy⟩) (by assumption) ?_
                case hy => (intro w9 hSw; (try dsimp only at hSw); go_simp; try with_reducible rfl)
                try simp only [Act.put, List.setIfInBounds_toArray, List.set_cons_zero, List.set_cons_succ]
                refine wpAnyH_take (i := 11) (oi := { dst := some 104, op := Go.Op.move (Go.Operand.tmp 1), type := 22, pos := "embed.go:159", after := #[], guard := none }) (v := ?_) rfl (by kernel_rfl) (by kernel_rfl) (by kernel_rfl) (fun _ _ _ h => h) (Or.inl ⟨by rfl, ?hy⟩) (by assumption) ?_
                case hy => (intro w9 hSw; (try dsimp only at hSw); go_simp; try with_reducible rfl)
                try simp only [Act.put, List.setIfInBounds_toArray, List.set_cons_zero, List.set_cons_succ]
                refine wpAnyH_take (i := 12) (oi := { dst := some 105, op := Go.Op.move (Go.Operand.tmp 20), type := 3, pos := "embed.go:159", after := #[], guard := none }) (v := ?_) rfl (by kernel_rfl) (by kernel_rfl) (by kernel_rfl) (fun _ _ _ h => h) (Or.inl ⟨by rfl, ?hy⟩) (by assumption) ?_
                case hy => (intro w9 hSw; (try dsimp only at hSw); go_simp; try with_reducible rfl)
                try simp only [Act.put, List.setIfInBounds_toArray, List.set_cons_zero, List.set_cons_succ]
                refine wpAnyH_take (i := 13) (oi := { dst := some 106, op := Go.Op.slice 22 (Go.Operand.tmp 104) (some (Go.Operand.tmp 105)) none none, type := 22, pos := "embed.go:159", after := #[{ on := 11, ground := Go.Ground.data }, { on := 12, ground := Go.Ground.data }], guard := none }) (v := ?_) rfl (by kernel_rfl) (by kernel_rfl) (by kernel_rfl) (fun _ _ _ h => h) (Or.inl ⟨by rfl, ?hy⟩) (by assumption) ?_
                case hy => (intro w9 hSw; (try dsimp only at hSw); go_simp; try with_reducible rfl)
                try simp only [Act.put, List.setIfInBounds_toArray, List.set_cons_zero, List.set_cons_succ]
                refine wpAnyH_ready (rs := [0]) (by kernel_rfl) (by simp) ?_
                refine AllReadyH.cons (o := { dst := some 93, op := Go.Op.buildSlice 22 0 #[], type := 22, pos := "embed.go:159", after := #[], guard := none }) rfl (fun K hK => ?_) AllReadyH.nil
                go_simp
                skip
                refine hK.out _ _ ?_ (fun hHeld => ?_)
                · exact KK.alloc KK.size _
                clear hK K
                try simp only [Act.put, List.setIfInBounds_toArray, List.set_cons_zero, List.set_cons_succ]
                refine wpAnyH_ready (rs := [4]) (by kernel_rfl) (by simp) ?_
                refine AllReadyH.cons (o := { dst := some 97, op := Go.Op.call { callee := Go.Callee.builtin Go.Builtin.append, args := #[Go.Operand.tmp 93, Go.Operand.tmp 96], argTypes := #[22, 22] }, type := 22, pos := "embed.go:159", after := #[{ on := 0, ground := Go.Ground.data }, { on := 3, ground := Go.Ground.data }], guard := none }) rfl (fun K hK => ?_) AllReadyH.nil
                rw [if_pos (by rfl)]
                refine wp_apnd _ _ _ rfl W.heap.size W.heap.size 0 0 [] (tk (nat fa) 0) _ rfl (World.ownsRow_made W.drew #[] 0 (Nat.le_refl _) (by unfold maxLen; omega) (by simp)) (Nat.le_refl _) (HSL.out _ (KK.alloc KK.size _)) rfl (by rw [tk_len]; omega) (by simp) ?_
                intro v1 w6 hown1 hg1
                have hB6 : Below W.heap.size W w6 := (KK.alloc KK.size _).grown hg1 (by simp) (by intro kk hkk; injection hkk with hkk; omega)
                have how1 : w6.ownsRow W.heap.size 3 1 v1 0 (natVals (tk (nat fa) 0)) := by
                  have h := hown1
                  rw [List.nil_append, Nat.zero_add, tk_len] at h
                  exact h
                clear hown1 hg1
                refine hK.out _ _ ?_ (fun hHeld => ?_)
                · exact hB6
                clear hK K
                try simp only [Act.put, List.setIfInBounds_toArray, List.set_cons_zero, List.set_cons_succ]
                refine wpAnyH_ready (rs := [8]) (by kernel_rfl) (by simp) ?_
                refine AllReadyH.cons (o := { dst := some 101, op := Go.Op.call { callee := Go.Callee.value (Go.Operand.func 13), args := #[Go.Operand.tmp 98, Go.Operand.tmp 100], argTypes := #[3, 3] }, type := 3, pos := "embed.go:159", after := #[{ on := 5, ground := Go.Ground.data }, { on := 7, ground := Go.Ground.data }, { on := 4, ground := Go.Ground.chain }], guard := none }) rfl (fun K hK => ?_) AllReadyH.nil
                go_simp
                refine (choose_any q len _ (by omega) (by omega) hq1 hq2).mono ?_
                rintro e w7 ⟨⟨x, hx, rfl⟩, hw7⟩
                subst hw7
                refine hK.out _ _ ?_ (fun hHeld => ?_)
                · exact hB6
                clear hK K
                try simp only [Act.put, List.setIfInBounds_toArray, List.set_cons_zero, List.set_cons_succ]
                refine wpAnyH_ready (rs := [9]) (by kernel_rfl) (by simp) ?_
                refine AllReadyH.cons (o := { dst := some 102, op := Go.Op.buildSlice 22 1 #[(0, Go.Operand.tmp 101)], type := 22, pos := "embed.go:159", after := #[{ on := 8, ground := Go.Ground.data }], guard := none }) rfl (fun K hK => ?_) AllReadyH.nil
                go_simp
                skip
                refine hK.out _ _ ?_ (fun hHeld => ?_)
                · exact hB6.alloc hB6.size _
                clear hK K
                try simp only [Act.put, List.setIfInBounds_toArray, List.set_cons_zero, List.set_cons_succ]
                refine wpAnyH_ready (rs := [10]) (by kernel_rfl) (by simp) ?_
                refine AllReadyH.cons (o := { dst := some 103, op := Go.Op.call { callee := Go.Callee.builtin Go.Builtin.append, args := #[Go.Operand.tmp 97, Go.Operand.tmp 102], argTypes := #[22, 22] }, type := 22, pos := "embed.go:159", after := #[{ on := 4, ground := Go.Ground.data }, { on := 9, ground := Go.Ground.data }, { on := 8, ground := Go.Ground.chain }], guard := none }) rfl (fun K hK => ?_) AllReadyH.nil
                rw [if_pos (by rfl)]
                refine wp_append_own _ _ _ 22 rfl W.heap.size 3 i0 (.int .i64 0) 1 8 Tryd.underlying22 hi hz0 hz1 hz2 rfl (by decide) v1 0 (natVals (tk (nat fa) 0)) rfl (how1.alloc _) ⟨w6.heap.size, 0, none⟩ 1 1 [.int .i64 (x : Nat)] rfl rfl ?c1 ?c2 (by unfold maxLen; omega) (by omega) (by have := hB6.size; simp; omega) ?_
                case c1 =>
                  intro j u hj
                  match j, hj with
                  | 0, hj => simp at hj; subst hj; simp [Addr.add]
                case c2 => intro u hu; simp at hu; subst hu; rfl
                intro v2 w8 hown2 hg2 _
                have hB8 : Below W.heap.size W w8 := below_append3 hB6 how1 hg2
                obtain ⟨B2, cap2, rfl, hBB2, hle2⟩ : ∃ B2 cap2, v2 = .slice (some ⟨B2, 0, none⟩) (0 + 1) cap2 ∧ W.heap.size ≤ B2 ∧ 0 + 1 ≤ cap2 := by
                  rcases hown2.2 with ⟨_, h⟩ | ⟨g, cap, cur, h1, h2, _, h3, _⟩
                  · omega
                  · exact ⟨g, cap, h1, h2, h3⟩
                clear hg2 how1
                refine hK.out _ _ ?_ (fun hHeld => ?_)
                · exact hB8
                clear hK K
                try simp only [Act.put, List.setIfInBounds_toArray, List.set_cons_zero, List.set_cons_succ]
                refine wpAnyH_ready (rs := [14]) (by kernel_rfl) (by simp) ?_
                refine AllReadyH.cons (o := { dst := some 107, op := Go.Op.call { callee := Go.Callee.builtin Go.Builtin.append, args := #[Go.Operand.tmp 103, Go.Operand.tmp 106], argTypes := #[22, 22] }, type := 22, pos := "embed.go:159", after := #[{ on := 10, ground := Go.Ground.data }, { on := 13, ground := Go.Ground.data }, { on := 10, ground := Go.Ground.chain }], guard := none }) rfl (fun K hK => ?_) AllReadyH.nil
                rw [if_pos (by rfl)]
                refine wp_apnd _ _ _ rfl W.heap.size B2 (0 + 1) cap2 (natVals (tk (nat fa) 0) ++ [.int .i64 (x : Nat)]) (dr (nat fa) 0 0) _ rfl hown2 hle2 (HSR.out _ hB8) rfl (by rw [dr_len]; omega) hB8.size ?_
                intro v3 w9 hown3 hg3
                have hB9 : Below W.heap.size W w9 := hB8.grown hg3 hB8.size (by intro kk hkk; injection hkk with hkk; omega)
                have how3 : w9.ownsRow W.heap.size 3 1 v3 (ins (nat fa) 0 0 x).length (natVals (ins (nat fa) 0 0 x)) := by
                  have e1 : natVals (ins (nat fa) 0 0 x) = natVals (tk (nat fa) 0) ++ [.int .i64 (x : Nat)] ++ natVals (dr (nat fa) 0 0) := by
                    unfold ins
                    rw [natVals_append, natVals_append]; rfl
                  rw [e1, ins_len (by omega)]
                  rw [dr_len, show 0 + 1 + (0 - 0) = 0 + 1 by omega] at hown3
                  exact hown3
                obtain ⟨a3, cap3, rfl, hr3⟩ := owns_nats how3
                clear hown3 hg3 hown2 hBB2 hle2 how3
                refine hK.out _ _ ?_ (fun hHeld => ?_)
                · exact hB9
                clear hK K
                try simp only [Act.put, List.setIfInBounds_toArray, List.set_cons_zero, List.set_cons_succ]
                refine wpAnyH_take (i := 15) (oi := { dst := some 21, op := Go.Op.assign (Go.Operand.tmp 107), type := 22, pos := "embed.go:159", after := #[{ on := 14, ground := Go.Ground.data }, { on := 14, ground := Go.Ground.chain }, { on := 0, ground := Go.Ground.phase }, { on := 1, ground := Go.Ground.phase }, { on := 2, ground := Go.Ground.phase }, { on := 3, ground := Go.Ground.phase }, { on := 4, ground := Go.Ground.phase }, { on := 5, ground := Go.Ground.phase }, { on := 6, ground := Go.Ground.phase }, { on := 7, ground := Go.Ground.phase }, { on := 8, ground := Go.Ground.phase }, { on := 9, ground := Go.Ground.phase }, { on := 10, ground := Go.Ground.phase }, { on := 11, ground := Go.Ground.phase }, { on := 12, ground := Go.Ground.phase }, { on := 13, ground := Go.Ground.phase }, { on := 14, ground := Go.Ground.phase }], guard := none }) (v := ?_) rfl (by kernel_rfl) (by kernel_rfl) (by kernel_rfl) (fun _ _ _ h => h) (Or.inl ⟨by rfl, ?hy⟩) (by assumption) ?_
                case hy => (intro w9 hSw; (try dsimp only at hSw); go_simp; try with_reducible rfl)
                try simp only [Act.put, List.setIfInBounds_toArray, List.set_cons_zero, List.set_cons_succ]
                refine wpAnyH_done (by kernel_rfl) ?_ _
                try simp only [Act.put, List.setIfInBounds_toArray, List.set_cons_zero, List.set_cons_succ]
                have HB9 : Hid (Below w.heap.size w w9) := Below.then HSz.out hB9
                have K9 : Hid (Held w9 w.heap.size len ao len co f) := K5.out.step hB9
                have HRL : Hid (Row w9 a3 (ins (nat fa) 0 0 x).length (fun i => ((nth (ins (nat fa) 0 0 x) i : Nat) : Int))) := hr3
                have hlen := ins_len (fa := nat fa) (x := x) (show 0 ≤ 0 by omega)
                have enx : nat (fun i => ((nth (ins (nat fa) 0 0 x) i : Nat) : Int)) = nth (ins (nat fa) 0 0 x) := by funext q; simp [nat]
                have HEM : Hid (goesB (nat f) 0 (nat fa) (ins (nat fa) 0 0 x).length (nat (fun i => ((nth (ins (nat fa) 0 0 x) i : Nat) : Int))) = true) := by
                  rw [enx, hlen]; exact goes_iff.2 (ins_emb _)
                have HNOB : Hid (goesB (nat f) (ins (nat fa) 0 0 x).length (nat (fun i => ((nth (ins (nat fa) 0 0 x) i : Nat) : Int))) 0 (nat fa) = false) := goes_len (by rw [hlen]; omega)
                have HLI : Hid (∀ i, i < (ins (nat fa) 0 0 x).length → 0 ≤ ((nth (ins (nat fa) 0 0 x) i : Nat) : Int) ∧ ((nth (ins (nat fa) 0 0 x) i : Nat) : Int) < len) := fun i hi => by
                  have := ins_lt (x := x) (show 0 ≤ 0 by omega) HFN.out hx i (by rw [hlen] at hi; exact hi)
                  omega
                have hL12 : (ins (nat fa) 0 0 x).length ≤ 12 := by omega
                clear hr3 hB9 l0 HSL HSR enx hlen
                generalize hgL : ins (nat fa) 0 0 x = L at *
                have k0 := K9.out.c0
                have k1 := K9.out.c1
                go_wp2_with fail
                refine (into_ok len ao len co f none 0 0 fa a3 L.length cap3 _ w9 true HEM.out K9.out.row (HA.out.below HB9.out) HRL.out HCK.out hla2 hL12 HFA.out HLI.out).mono ?_
                rintro e w10 ⟨rfl, hb10⟩
                have HB11 : Hid (Below w.heap.size w w10) := Below.then HB9.out hb10
                have K11 : Hid (Held w10 w.heap.size len ao len co f) := K9.out.step hb10
                have HRL2 : Hid (Row w10 a3 L.length (fun i => ((nth L i : Nat) : Int))) := HRL.out.below hb10
                clear hb10 k0 k1 K9 HRL HB9
                have k0 := K11.out.c0
                have k1 := K11.out.c1
                go_wp2_with fail
                refine (into_ok len ao len co f a3 L.length cap3 _ none 0 0 fa w10 false HNOB.out K11.out.row HRL2.out (HA.out.below HB11.out) HCK.out hL12 hla2 HLI.out HFA.out).mono ?_
                rintro e w11 ⟨rfl, hb11⟩
                have HB12 : Hid (Below w.heap.size w w11) := Below.then HB11.out hb11
                clear hb11 k0 k1
                go_wp2_with fail
                go_ret
                exact ⟨rfl, HB12.out⟩
              · obtain ⟨aq, haq, HAQ⟩ : ∃ aq : Addr, (if ca = k then some ad else some (ad.add k)) = some aq ∧ Hid (k < la → aq = ad.add k) := by
                  have := HCA.out.1
                  by_cases h : ca = k
                  · exact ⟨ad, by rw [if_pos h], fun h2 => by omega⟩
                  · exact ⟨ad.add k, by rw [if_neg h], fun _ => rfl⟩
                have HSL : Hid (∀ w', Below w4.heap.size w4 w' → Src2 w' (.slice (some ad) k ca) (tk (nat fa) k)) := fun w' h => by
                  refine .inr ⟨ad, ca, by rw [tk_len], fun j u hj => ?_⟩
                  have hjk : j < k := by
                    rcases Nat.lt_or_ge j k with h | h
                    · exact h
                    · rw [List.getElem?_eq_none (by simp [natVals, tk_len]; omega)] at hj; cases hj
                  rw [natVals_at _ _ (by rw [tk_len]; exact hjk)] at hj
                  cases hj
                  obtain ⟨b1, o1, e1, hc1⟩ := HRA.out w' h j (by omega)
                  simp at e1
                  subst e1
                  rw [addr_flatG, hc1]
                  simp [nth, tk, hjk]
                have HSR : Hid (∀ w', Below w4.heap.size w4 w' → Src2 w' (.slice (some aq) (la - k) (ca - k)) (dr (nat fa) k la)) := fun w' h => by
                  refine .inr ⟨aq, ca - k, by rw [dr_len], fun j u hj => ?_⟩
                  have hjk : j < la - k := by
                    rcases Nat.lt_or_ge j (la - k) with h | h
                    · exact h
                    · rw [List.getElem?_eq_none (by simp [natVals, dr_len]; omega)] at hj; cases hj
                  rw [natVals_at _ _ (by rw [dr_len]; exact hjk)] at hj
                  cases hj
                  obtain ⟨b1, o1, e1, hc1⟩ := HRA.out w' h (k + j) (by omega)
                  simp at e1
                  subst e1
                  rw [HAQ.out (by omega), addr_flatG, addr_flatG, Nat.add_assoc, hc1]
                  simp [nth, dr, hjk]
                generalize hW : w4 = W at *
                have KK : Below W.heap.size W W.drew := (Below.refl _ _).drew
                go_wp2_with fail
                refine wp_region_held_drew (S := (fun w' => Below W.heap.size W w')) (by kernel_rfl) (KK) (fun hHeld => ?_)
                refine wpAnyH_take (i := 1) (oi := { dst := some 94, op := Go.Op.move (Go.Operand.tmp 1), type := 22, pos := "embed.go:159", after := #[], guard := none }) (v := ?_) rfl (by kernel_rfl) (by kernel_rfl) (by kernel_rfl) (fun _ _ _ h => h) (Or.inl ⟨by rfl, ?hy⟩) (by assumption) ?_
                case hy => (intro w9 hSw; (try dsimp only at hSw); go_simp; try with_reducible rfl)
                try simp only [Act.put, List.setIfInBounds_toArray, List.set_cons_zero, List.set_cons_succ]
                refine wpAnyH_take (i := 2) (oi := { dst := some 95, op := Go.Op.move (Go.Operand.tmp 20), type := 3, pos := "embed.go:159", after := #[], guard := none }) (v := ?_) rfl (by kernel_rfl) (by kernel_rfl) (by kernel_rfl) (fun _ _ _ h => h) (Or.inl ⟨by rfl, ?hy⟩) (by assumption) ?_
                case hy => (intro w9 hSw; (try dsimp only at hSw); go_simp; try with_reducible rfl)
                try simp only [Act.put, List.setIfInBounds_toArray, List.set_cons_zero, List.set_cons_succ]
                refine wpAnyH_take (i := 3) (oi := { dst := some 96, op := Go.Op.slice 22 (Go.Operand.tmp 94) none (some (Go.Operand.tmp 95)) none, type := 22, pos := "embed.go:159", after := #[{ on := 1, ground := Go.Ground.data }, { on := 2, ground := Go.Ground.data }], guard := none }) (v := ?_) rfl (by kernel_rfl) (by kernel_rfl) (by kernel_rfl) (fun _ _ _ h => h) (Or.inl ⟨by rfl, ?hy⟩) (by assumption) ?_
                case hy => (intro w9 hSw; (try dsimp only at hSw); go_simp; try with_reducible rfl)
                try simp only [Act.put, List.setIfInBounds_toArray, List.set_cons_zero, List.set_cons_succ]
                refine wpAnyH_take (i := 5) (oi := { dst := some 98, op := Go.Op.move (Go.Operand.tmp 5), type := 3, pos := "embed.go:159", after := #[], guard := none }) (v := ?_) rfl (by kernel_rfl) (by kernel_rfl) (by kernel_rfl) (fun _ _ _ h => h) (Or.inl ⟨by rfl, ?hy⟩) (by assumption) ?_
                case hy => (intro w9 hSw; (try dsimp only at hSw); go_simp; try with_reducible rfl)
                try simp only [Act.put, List.setIfInBounds_toArray, List.set_cons_zero, List.set_cons_succ]
                refine wpAnyH_take (i := 6) (oi := { dst := some 99, op := Go.Op.fieldAddr 24 (Go.Operand.tmp 6) 0, type := 0, pos := "embed.go:159", after := #[], guard := none }) (v := ?_) rfl (by kernel_rfl) (by kernel_rfl) (by kernel_rfl) (fun _ _ _ h => h) (Or.inl ⟨by rfl, ?hy⟩) (by assumption) ?_
                case hy => (intro w9 hSw; (try dsimp only at hSw); go_simp; try with_reducible rfl)
                try simp only [Act.put, List.setIfInBounds_toArray, List.set_cons_zero, List.set_cons_succ]
                refine wpAnyH_take (i := 7) (oi := { dst := some 100, op := Go.Op.load 3 (Go.Operand.tmp 99), type := 3, pos := "embed.go:159", after := #[{ on := 6, ground := Go.Ground.data }], guard := none }) (v := ?_) rfl (by kernel_rfl) (by kernel_rfl) (by kernel_rfl) (fun _ _ _ h => h) (Or.inl ⟨by rfl, ?hy⟩) (by assumption) ?_
                case hy => (intro w9 hSw; (try dsimp only at hSw); go_simp; try with_reducible rfl)
                try simp only [Act.put, List.setIfInBounds_toArray, List.set_cons_zero, List.set_cons_succ]
                refine wpAnyH_take (i := 11) (oi := { dst := some 104, op := Go.Op.move (Go.Operand.tmp 1), type := 22, pos := "embed.go:159", after := #[], guard := none }) (v := ?_) rfl (by kernel_rfl) (by kernel_rfl) (by kernel_rfl) (fun _ _ _ h => h) (Or.inl ⟨by rfl, ?hy⟩) (by assumption) ?_
                case hy => (intro w9 hSw; (try dsimp only at hSw); go_simp; try with_reducible rfl)
                try simp only [Act.put, List.setIfInBounds_toArray, List.set_cons_zero, List.set_cons_succ]
                refine wpAnyH_take (i := 12) (oi := { dst := some 105, op := Go.Op.move (Go.Operand.tmp 20), type := 3, pos := "embed.go:159", after := #[], guard := none }) (v := ?_) rfl (by kernel_rfl) (by kernel_rfl) (by kernel_rfl) (fun _ _ _ h => h) (Or.inl ⟨by rfl, ?hy⟩) (by assumption) ?_
                case hy => (intro w9 hSw; (try dsimp only at hSw); go_simp; try with_reducible rfl)
                try simp only [Act.put, List.setIfInBounds_toArray, List.set_cons_zero, List.set_cons_succ]
                refine wpAnyH_take (i := 13) (oi := { dst := some 106, op := Go.Op.slice 22 (Go.Operand.tmp 104) (some (Go.Operand.tmp 105)) none none, type := 22, pos := "embed.go:159", after := #[{ on := 11, ground := Go.Ground.data }, { on := 12, ground := Go.Ground.data }], guard := none }) (v := ?_) rfl (by kernel_rfl) (by kernel_rfl) (by kernel_rfl) (fun _ _ _ h => h) (Or.inl ⟨by rfl, ?hy⟩) (by assumption) ?_
                case hy => (intro w9 hSw; (try dsimp only at hSw); go_simp; try with_reducible rfl)
                try simp only [Act.put, List.setIfInBounds_toArray, List.set_cons_zero, List.set_cons_succ]
                refine wpAnyH_ready (rs := [0]) (by kernel_rfl) (by simp) ?_
                refine AllReadyH.cons (o := { dst := some 93, op := Go.Op.buildSlice 22 0 #[], type := 22, pos := "embed.go:159", after := #[], guard := none }) rfl (fun K hK => ?_) AllReadyH.nil
                go_simp
                skip
                refine hK.out _ _ ?_ (fun hHeld => ?_)
                · exact KK.alloc KK.size _
                clear hK K
                try simp only [Act.put, List.setIfInBounds_toArray, List.set_cons_zero, List.set_cons_succ]
                refine wpAnyH_ready (rs := [4]) (by kernel_rfl) (by simp) ?_
                refine AllReadyH.cons (o := { dst := some 97, op := Go.Op.call { callee := Go.Callee.builtin Go.Builtin.append, args := #[Go.Operand.tmp 93, Go.Operand.tmp 96], argTypes := #[22, 22] }, type := 22, pos := "embed.go:159", after := #[{ on := 0, ground := Go.Ground.data }, { on := 3, ground := Go.Ground.data }], guard := none }) rfl (fun K hK => ?_) AllReadyH.nil
                rw [if_pos (by rfl)]
                refine wp_apnd _ _ _ rfl W.heap.size W.heap.size 0 0 [] (tk (nat fa) k) _ rfl (World.ownsRow_made W.drew #[] 0 (Nat.le_refl _) (by unfold maxLen; omega) (by simp)) (Nat.le_refl _) (HSL.out _ (KK.alloc KK.size _)) rfl (by rw [tk_len]; omega) (by simp) ?_
                intro v1 w6 hown1 hg1
                have hB6 : Below W.heap.size W w6 := (KK.alloc KK.size _).grown hg1 (by simp) (by intro k hk; injection hk with hk; omega)
                have how1 : w6.ownsRow W.heap.size 3 1 v1 k (natVals (tk (nat fa) k)) := by
                  have h := hown1
                  rw [List.nil_append, Nat.zero_add, tk_len] at h
                  exact h
                clear hown1 hg1
                refine hK.out _ _ ?_ (fun hHeld => ?_)
                · exact hB6
                clear hK K
                try simp only [Act.put, List.setIfInBounds_toArray, List.set_cons_zero, List.set_cons_succ]
                refine wpAnyH_ready (rs := [8]) (by kernel_rfl) (by simp) ?_
                refine AllReadyH.cons (o := { dst := some 101, op := Go.Op.call { callee := Go.Callee.value (Go.Operand.func 13), args := #[Go.Operand.tmp 98, Go.Operand.tmp 100], argTypes := #[3, 3] }, type := 3, pos := "embed.go:159", after := #[{ on := 5, ground := Go.Ground.data }, { on := 7, ground := Go.Ground.data }, { on := 4, ground := Go.Ground.chain }], guard := none }) rfl (fun K hK => ?_) AllReadyH.nil
                go_simp
                refine (choose_any q len _ (by omega) (by omega) hq1 hq2).mono ?_
                rintro e w7 ⟨⟨x, hx, rfl⟩, hw7⟩
                subst hw7
                refine hK.out _ _ ?_ (fun hHeld => ?_)
                · exact hB6
                clear hK K
                try simp only [Act.put, List.setIfInBounds_toArray, List.set_cons_zero, List.set_cons_succ]
                refine wpAnyH_ready (rs := [9]) (by kernel_rfl) (by simp) ?_
                refine AllReadyH.cons (o := { dst := some 102, op := Go.Op.buildSlice 22 1 #[(0, Go.Operand.tmp 101)], type := 22, pos := "embed.go:159", after := #[{ on := 8, ground := Go.Ground.data }], guard := none }) rfl (fun K hK => ?_) AllReadyH.nil
                go_simp
                skip
                refine hK.out _ _ ?_ (fun hHeld => ?_)
                · exact hB6.alloc hB6.size _
                clear hK K
                try simp only [Act.put, List.setIfInBounds_toArray, List.set_cons_zero, List.set_cons_succ]
                refine wpAnyH_ready (rs := [10]) (by kernel_rfl) (by simp) ?_
                refine AllReadyH.cons (o := { dst := some 103, op := Go.Op.call { callee := Go.Callee.builtin Go.Builtin.append, args := #[Go.Operand.tmp 97, Go.Operand.tmp 102], argTypes := #[22, 22] }, type := 22, pos := "embed.go:159", after := #[{ on := 4, ground := Go.Ground.data }, { on := 9, ground := Go.Ground.data }, { on := 8, ground := Go.Ground.chain }], guard := none }) rfl (fun K hK => ?_) AllReadyH.nil
                rw [if_pos (by rfl)]
                refine wp_append_own _ _ _ 22 rfl W.heap.size 3 i0 (.int .i64 0) 1 8 Tryd.underlying22 hi hz0 hz1 hz2 rfl (by decide) v1 k (natVals (tk (nat fa) k)) rfl (how1.alloc _) ⟨w6.heap.size, 0, none⟩ 1 1 [.int .i64 (x : Nat)] rfl rfl ?c1 ?c2 (by unfold maxLen; omega) (by omega) (by have := hB6.size; simp; omega) ?_
                case c1 =>
                  intro j u hj
                  match j, hj with
                  | 0, hj => simp at hj; subst hj; simp [Addr.add]
                case c2 => intro u hu; simp at hu; subst hu; rfl
                intro v2 w8 hown2 hg2 _
                have hB8 : Below W.heap.size W w8 := below_append3 hB6 how1 hg2
                obtain ⟨B2, cap2, rfl, hBB2, hle2⟩ : ∃ B2 cap2, v2 = .slice (some ⟨B2, 0, none⟩) (k + 1) cap2 ∧ W.heap.size ≤ B2 ∧ k + 1 ≤ cap2 := by
                  rcases hown2.2 with ⟨_, h⟩ | ⟨g, cap, cur, h1, h2, _, h3, _⟩
                  · omega
                  · exact ⟨g, cap, h1, h2, h3⟩
                clear hg2 how1
                refine hK.out _ _ ?_ (fun hHeld => ?_)
                · exact hB8
                clear hK K
                try simp only [Act.put, List.setIfInBounds_toArray, List.set_cons_zero, List.set_cons_succ]
                refine wpAnyH_ready (rs := [14]) (by kernel_rfl) (by simp) ?_
                refine AllReadyH.cons (o := { dst := some 107, op := Go.Op.call { callee := Go.Callee.builtin Go.Builtin.append, args := #[Go.Operand.tmp 103, Go.Operand.tmp 106], argTypes := #[22, 22] }, type := 22, pos := "embed.go:159", after := #[{ on := 10, ground := Go.Ground.data }, { on := 13, ground := Go.Ground.data }, { on := 10, ground := Go.Ground.chain }], guard := none }) rfl (fun K hK => ?_) AllReadyH.nil
                rw [if_pos (by rfl)]
                refine wp_apnd _ _ _ rfl W.heap.size B2 (k + 1) cap2 (natVals (tk (nat fa) k) ++ [.int .i64 (x : Nat)]) (dr (nat fa) k la) _ rfl hown2 hle2 (HSR.out _ hB8) rfl (by rw [dr_len]; omega) hB8.size ?_
                intro v3 w9 hown3 hg3
                have hB9 : Below W.heap.size W w9 := hB8.grown hg3 hB8.size (by intro k hk; injection hk with hk; omega)
                have how3 : w9.ownsRow W.heap.size 3 1 v3 (ins (nat fa) k la x).length (natVals (ins (nat fa) k la x)) := by
                  have e1 : natVals (ins (nat fa) k la x) = natVals (tk (nat fa) k) ++ [.int .i64 (x : Nat)] ++ natVals (dr (nat fa) k la) := by
                    unfold ins
                    rw [natVals_append, natVals_append]; rfl
                  rw [e1, ins_len (by omega)]
                  rw [dr_len, show k + 1 + (la - k) = la + 1 by omega] at hown3
                  exact hown3
                obtain ⟨a3, cap3, rfl, hr3⟩ := owns_nats how3
                clear hown3 hg3 hown2 hBB2 hle2 how3
                refine hK.out _ _ ?_ (fun hHeld => ?_)
                · exact hB9
                clear hK K
                try simp only [Act.put, List.setIfInBounds_toArray, List.set_cons_zero, List.set_cons_succ]
                refine wpAnyH_take (i := 15) (oi := { dst := some 21, op := Go.Op.assign (Go.Operand.tmp 107), type := 22, pos := "embed.go:159", after := #[{ on := 14, ground := Go.Ground.data }, { on := 14, ground := Go.Ground.chain }, { on := 0, ground := Go.Ground.phase }, { on := 1, ground := Go.Ground.phase }, { on := 2, ground := Go.Ground.phase }, { on := 3, ground := Go.Ground.phase }, { on := 4, ground := Go.Ground.phase }, { on := 5, ground := Go.Ground.phase }, { on := 6, ground := Go.Ground.phase }, { on := 7, ground := Go.Ground.phase }, { on := 8, ground := Go.Ground.phase }, { on := 9, ground := Go.Ground.phase }, { on := 10, ground := Go.Ground.phase }, { on := 11, ground := Go.Ground.phase }, { on := 12, ground := Go.Ground.phase }, { on := 13, ground := Go.Ground.phase }, { on := 14, ground := Go.Ground.phase }], guard := none }) (v := ?_) rfl (by kernel_rfl) (by kernel_rfl) (by kernel_rfl) (fun _ _ _ h => h) (Or.inl ⟨by rfl, ?hy⟩) (by assumption) ?_
                case hy => (intro w9 hSw; (try dsimp only at hSw); go_simp; try with_reducible rfl)
                try simp only [Act.put, List.setIfInBounds_toArray, List.set_cons_zero, List.set_cons_succ]
                refine wpAnyH_done (by kernel_rfl) ?_ _
                try simp only [Act.put, List.setIfInBounds_toArray, List.set_cons_zero, List.set_cons_succ]
                have HB9 : Hid (Below w.heap.size w w9) := Below.then HSz.out hB9
                have K9 : Hid (Held w9 w.heap.size len ao len co f) := K5.out.step hB9
                have HRL : Hid (Row w9 a3 (ins (nat fa) k la x).length (fun i => ((nth (ins (nat fa) k la x) i : Nat) : Int))) := hr3
                have hlen := ins_len (fa := nat fa) (x := x) (show k ≤ la by omega)
                have enx : nat (fun i => ((nth (ins (nat fa) k la x) i : Nat) : Int)) = nth (ins (nat fa) k la x) := by funext q; simp [nat]
                have HEM : Hid (goesB (nat f) la (nat fa) (ins (nat fa) k la x).length (nat (fun i => ((nth (ins (nat fa) k la x) i : Nat) : Int))) = true) := by
                  rw [enx, hlen]; exact goes_iff.2 (ins_emb _)
                have HNOB : Hid (goesB (nat f) (ins (nat fa) k la x).length (nat (fun i => ((nth (ins (nat fa) k la x) i : Nat) : Int))) la (nat fa) = false) := goes_len (by rw [hlen]; omega)
                have HLI : Hid (∀ i, i < (ins (nat fa) k la x).length → 0 ≤ ((nth (ins (nat fa) k la x) i : Nat) : Int) ∧ ((nth (ins (nat fa) k la x) i : Nat) : Int) < len) := fun i hi => by
                  have := ins_lt (x := x) (show k ≤ la by omega) HFN.out hx i (by rw [hlen] at hi; exact hi)
                  omega
                have hL12 : (ins (nat fa) k la x).length ≤ 12 := by omega
                clear hr3 hB9 l0 HSL HSR enx hlen
                generalize hgL : ins (nat fa) k la x = L at *
                have k0 := K9.out.c0
                have k1 := K9.out.c1
                go_wp2_with fail
                refine (into_ok len ao len co f (some ad) la ca fa a3 L.length cap3 _ w9 true HEM.out K9.out.row (HA.out.below HB9.out) HRL.out HCK.out hla2 hL12 HFA.out HLI.out).mono ?_
                rintro e w10 ⟨rfl, hb10⟩
                have HB11 : Hid (Below w.heap.size w w10) := Below.then HB9.out hb10
                have K11 : Hid (Held w10 w.heap.size len ao len co f) := K9.out.step hb10
                have HRL2 : Hid (Row w10 a3 L.length (fun i => ((nth L i : Nat) : Int))) := HRL.out.below hb10
                clear hb10 k0 k1 K9 HRL HB9
                have k0 := K11.out.c0
                have k1 := K11.out.c1
                go_wp2_with fail
                refine (into_ok len ao len co f a3 L.length cap3 _ (some ad) la ca fa w10 false HNOB.out K11.out.row HRL2.out (HA.out.below HB11.out) HCK.out hL12 hla2 HLI.out HFA.out).mono ?_
                rintro e w11 ⟨rfl, hb11⟩
                have HB12 : Hid (Below w.heap.size w w11) := Below.then HB11.out hb11
                clear hb11 k0 k1
                go_wp2_with fail
                go_ret
                exact ⟨rfl, HB12.out⟩
    · subst h1
      have hne2 : (c2 != 0) = true := by simpa using h2
      clear h2
      go_wp2_with fail
      go_ret
      exact ⟨rfl, HB4.out⟩
  · have hne1 : (c1 != 0) = true := by simpa using h1
    clear h1
    go_wp2_with fail
    go_ret
    exact ⟨rfl, HB4.out⟩
end Go.Proofs.YtimpgcmkdcmhkabDoor
