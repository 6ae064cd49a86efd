/-
  What quotient.All answers, whatever it is handed. No condition but that slices read as slices of rows.
-/
import Derived.Test.YthhnngmfbbljaaaGreatCmpP
import Derived.Test.YthhnngmfbbljaaaGreatSrtL
import Derived.Test.YthhnngmfbbljaaaGreatSrtP
namespace Go.Proofs.YthhnngmfbbljaaaGreat
open Go.RowKit Go.Maps Go.WideMaps
set_option maxRecDepth 100000
set_option linter.unusedSimpArgs false

theorem prs_in (q : Nat) (g h : Nat → Nat) : ∀ p, p ∈ prsL q g ++ prsL q h → p.1 < q ∧ p.2 < q := fun p hp => by
  have key : ∀ f : Nat → Nat, p ∈ prsL q f → p.1 < q ∧ p.2 < q := fun f hf => by
    obtain ⟨x, hx, rfl⟩ := List.mem_map.1 hf
    have hx' := List.mem_range.1 hx
    exact ⟨Nat.lt_of_le_of_lt (fstC_le f x) hx', hx'⟩
  exact (List.mem_append.1 hp).elim (key g) (key h)
theorem prow_of {w : World} {B q : Nat} {g : Nat → Nat} (h : POwn w B q (fstC g) (fun x => x)) : PRow w (some ⟨B, 0, none⟩) (prsL q g).length (pairAt (prsL q g)) := fun k hk => by
  have hk' : k < q := by rw [prsL_len] at hk; exact hk
  refine ⟨B, 0, rfl, ?_, ?_⟩
  · rw [Nat.zero_add, (h k hk').1.1]; simp [pairAt, prsL, hk']
  · rw [Nat.zero_add, (h k hk').1.2]; simp [pairAt, prsL, hk']
/-- What All must answer: the error and the lists. -/
def AlIs (n : Int) (la : Nat) (SA : Nat → Option Addr × Nat × Nat) (FA : Nat → Nat → Int) (lb : Nat) (SB : Nat → Option Addr × Nat × Nat) (FB : Nat → Nat → Int) (base : Nat) (w' : World) (c : Int) (v : Value) : Prop :=
  (c ≠ 0 ∧ LCk n la SA FA lb SB FB c ∧ v = .slice none 0 0) ∨ (LCk n la SA FA lb SB FB 0 ∧
    ((c = 2 ∧ v = .slice none 0 0 ∧ ∃ (k : Nat) (G : Nat → Nat → Nat), 40 < k ∧ (∀ a, a < k → Cg n.toNat (nat2 FA) (nat2 FB) (G a)) ∧ ∀ a b, a < b → b < k → ¬ ∀ i, i < n.toNat → G a i = G b i) ∨
     (c = 0 ∧ ∃ (r : Nat → Nat) (k : Nat) (G : Nat → Nat → Nat), CR w' base v r k n.toNat G ∧ k ≤ 40 ∧ (∀ a, a < k → Cg n.toNat (nat2 FA) (nat2 FB) (G a)) ∧ (∀ a b, a < b → b < k → cmpF (G a) (G b) n.toNat 0 < 0) ∧ ∀ d, Con n.toNat (nat2 FA) (nat2 FB) d → ∃ a, a < k ∧ ∀ i, i < n.toNat → G a i = nbr d i)))
theorem CR.at {w : World} {base : Nat} {v : Value} {r : Nat → Nat} {n q : Nat} {G : Nat → Nat → Nat} (h : CR w base v r n q G) {i : Nat} (hi : i < n) : ∃ g cap, v = .slice (some ⟨g, 0, none⟩) n cap ∧ w.cell? ⟨g, i, none⟩ = some (.slice (some ⟨r i, 0, none⟩) q q) := by
  obtain ⟨g, cap, rfl⟩ := owns_form h.own (by omega)
  refine ⟨g, cap, rfl, ?_⟩
  rw [h.own.cellAt i (by omega)]
  simp [slv, hi]
set_option maxHeartbeats 8000000 in
theorem qall_any (n : Int) (a : Option Addr) (la ca : Nat) (SA : Nat → Option Addr × Nat × Nat) (FA : Nat → Nat → Int) (b : Option Addr) (lb cb : Nat) (SC : Nat → Option Addr × Nat × Nat) (FB : Nat → Nat → Int) (w : World) (hla : la ≤ maxLen) (hlb : lb ≤ maxLen) (hra : RR w a la SA FA) (hrb : RR w b lb SC FB) :
    Calls Tryz.prog 29 #[.agg #[.int .i64 n, .slice a la ca, .slice b lb cb]] w fun e w' => (∃ c v, e = .returned (.tuple #[v, .int .i64 c]) ∧ AlIs n la SA FA lb SC FB w.heap.size w' c v) ∧ Below w.heap.size w w' := by
  have hb0 : Below w.heap.size w (w.alloc (.cells #[.int .i64 n, .slice a la ca, .slice b lb cb] 27)) := (Below.refl _ _).alloc (Nat.le_refl _) _
  have HC := (show Hid _ from lCheck_any n a la ca SA FA b lb cb SC FB _ hla hlb (hra.below hb0) (hrb.below hb0))
  have HB0 : Hid (Below w.heap.size w (w.alloc (.cells #[.int .i64 n, .slice a la ca, .slice b lb cb] 27))) := hb0
  have HK0 : Hid (LB (w.alloc (.cells #[.int .i64 n, .slice a la ca, .slice b lb cb] 27)) w.heap.size n a la ca b lb cb) := LB.new _ _ _ _ _ _ _ _
  have HRA : Hid (RR w a la SA FA) := hra
  have HRB : Hid (RR w b lb SC FB) := hrb
  clear hra hrb hb0
  go_enter Tryz.func29, Tryz.ntmps29
  go_wp2_with fail
  refine Calls.mono HC.out ?_
  rintro e w1 ⟨⟨c, rfl, hc⟩, hb1⟩
  have HK1 : Hid (LB w1 w.heap.size n a la ca b lb cb) := HK0.out.step hb1
  have HB1 : Hid (Below w.heap.size w w1) := Below.then HB0.out hb1
  have HCK : Hid (LCk n la SA FA lb SC FB c) := hc
  have HWL : Hid (w.heap.size < w1.heap.size) := World.block_lt_of_cell? _ _ HK1.out.1
  clear hc hb1 HC HB0 HK0
  by_cases h0 : c = 0
  · subst h0
    obtain ⟨q, rfl, h1, h40, rfl, rfl, hsa, hsb, hga, hgb, _⟩ := HCK.out.good
    obtain ⟨bA, oA, rfl, hta, hia⟩ := HRA.out.tb h1 hsa hga
    obtain ⟨bB, oB, rfl, htb, hib⟩ := HRB.out.tb h1 hsb hgb
    have HIA := (show Hid _ from hia)
    have HIB := (show Hid _ from hib)
    have HTA := (show Hid _ from hta)
    have HTC := (show Hid _ from htb)
    have k0 := HK1.out.1
    have k1 := HK1.out.2.1
    have k2 := HK1.out.2.2
    have HQ := (show Hid _ from ofPairs_any _ bA oA ca bB oB cb _ _ (nat2 FA) (nat2 FB) w1 h1 h40 hia hib (Tb.step hta HB1.out) (Tb.step htb HB1.out))
    clear hsa hsb hga hgb hta htb hia hib HRA HRB
    go_wp2_with fail
    refine Calls.mono HQ.out ?_
    rintro e W0 ⟨⟨vs, rs, ns, Gs, rfl, hcr, hop⟩, hb2⟩
    have HCS : Hid (CR W0 w1.heap.size vs rs ns lb Gs) := hcr
    have HOP : Hid (OP lb (nat2 FA) (nat2 FB) lb 0 ns Gs) := hop
    have hns : ns ≤ 780 := by have e1 := hop.le; have e2 := tri_le h40; omega
    have HBW : Hid (Below w.heap.size w W0) := Below.then HB1.out hb2
    have HKW : Hid (LB W0 w.heap.size (lb : Int) (some ⟨bA, oA, none⟩) lb ca (some ⟨bB, oB, none⟩) lb cb) := HK1.out.step hb2
    have HWS : Hid (w.heap.size < W0.heap.size) := Nat.lt_of_lt_of_le HWL.out hb2.size
    clear hcr hop hb2 HQ k0 k1 k2 HK1 HB1 HWL
    obtain ⟨W1, HW1⟩ : ∃ W1, Hid (W0.alloc (.cells #[.map none, .slice none 0 0] 90) = W1) := ⟨_, rfl⟩
    have HBW1 : Hid (Below W0.heap.size W0 W1) := by rw [← HW1.out]; exact (Below.refl _ _).alloc (Nat.le_refl _) _
    have HS0 : Hid (SB W1 W0.heap.size W0.heap.size none (.map []) (.slice none 0 0) (fun _ => 0) 0 lb (fun _ _ => 0)) := by
      rw [← HW1.out]
      exact SB.new lb (Nat.le_refl _) (by simp) (by simp) (by simp) (by simp) _
    have HKX : Hid (∀ wx, Below W0.heap.size W0 wx → LB wx w.heap.size (lb : Int) (some ⟨bA, oA, none⟩) lb ca (some ⟨bB, oB, none⟩) lb cb) := fun wx h => HKW.out.step h
    go_upto_region 6 with fail
    rw [HW1.out]
    clear HW1
    have k0 := (HKX.out W1 HBW1.out).1
    have k1 := (HKX.out W1 HBW1.out).2.1
    have k2 := (HKX.out W1 HBW1.out).2.2
    have HTX : Hid (∀ wx, Below W0.heap.size W0 wx → Tb wx bA oA lb _ (nat2 FA) ∧ Tb wx bB oB lb _ (nat2 FB)) := fun wx h => ⟨Tb.step HTA.out (HBW.out.trans (h.mono HBW.out.size)), Tb.step HTC.out (HBW.out.trans (h.mono HBW.out.size))⟩
    go_wp2_with fail
    refine (together_any lb bA oA ca bB oB cb _ _ (nat2 FA) (nat2 FB) _ [] _ h1 h40 HIA.out HIB.out (HTX.out _ HBW1.out).1 (HTX.out _ HBW1.out).2 (.inl ⟨rfl, rfl⟩) (by simp) (fun p hp => by cases hp)).mono ?_
    rintro e W2 ⟨⟨B, d, rfl, hd, ho2, hB2⟩, hb2⟩
    have HB2 : Hid (Below W1.heap.size W1 W2) := hb2
    have HKN : Hid (Kn lb (nat2 FA) (nat2 FB) [] (nbr d)) := ⟨d, hd, fun _ _ => rfl⟩
    have HO2 : Hid (Own W2 B lb (nbr d)) := ho2
    have HBB : Hid (W1.heap.size ≤ B) := hB2
    clear hd ho2 hB2 hb2 k0 k1 k2
    go_wp2_with fail
    refine (put_new B (nbr d) h40 h1 (by omega) (fun i hi => Nat.le_trans (nbr_le' d i) (by omega)) HS0.out HB2.out HBB.out HO2.out).mono ?_
    rintro e W3 ⟨rfl, ⟨m3, D3, v3, r3, n3, G3, hs3, hp3⟩, hb3⟩
    obtain ⟨rfl, HG3⟩ : n3 = 1 ∧ Hid (AShf lb (nat2 FA) (nat2 FB) ns Gs 1 G3 0 0) := by
      rcases hp3 with ⟨_, _, j, hj, _⟩ | ⟨rfl, rfl, _⟩
      · exact absurd hj (Nat.not_lt_zero _)
      · exact ⟨rfl, AShf.start (by simpa using HKN.out)⟩
    have HS3 : Hid (SB W3 W0.heap.size W0.heap.size m3 D3 v3 r3 1 lb G3) := hs3
    have HB3 : Hid (Below W0.heap.size W0 W3) := HBW1.out.trans ((HB2.out.mono HBW1.out.size).trans hb3)
    clear hs3 hp3 hb3 HB2 HKN HO2 HBB HS0
    obtain ⟨vsa, vsc, rfl⟩ := slice_of HCS.out.own
    go_wp2_with fail
    go_loopw [7] (fun t wx => ∃ (i : Nat) (mm : Option Nat) (D : DataW Unit) (v : Value) (r : Nat → Nat) (n : Nat) (G : Nat → Nat → Nat), i ≤ n ∧ n ≤ 40 ∧ t = .int .i64 i ∧ Hid (SB wx W0.heap.size W0.heap.size mm D v r n lb G) ∧ Hid (AShf lb (nat2 FA) (nat2 FB) ns Gs n G i 0) ∧ Hid (Below W0.heap.size W0 wx)) (fun t _ => 41 - (intOf t).toNat)
    case atStart => exact ⟨0, _, _, _, _, _, _, Nat.zero_le _, by omega, rfl, HS3.out, HG3.out, HB3.out⟩
    case round =>
      obtain ⟨i, mm, D, v, r, n, G, hi, hn, rfl, HS, HA, HB⟩ := hrel
      clear HS3 HG3 HB3
      obtain ⟨av, cv, rfl⟩ := slice_of HS.out.rows.own
      have l1 := HS.out.c1
      by_cases hlt : i < n
      · have hlt' : (i : Int) < (n : Int) := by omega
        go_wp2_with fail
        clear l1
        go_loopw [29] (fun t wx => ∃ (s : Nat) (mm : Option Nat) (D : DataW Unit) (v : Value) (r : Nat → Nat) (n : Nat) (G : Nat → Nat → Nat), i < n ∧ n ≤ 40 ∧ s ≤ ns ∧ t = .int .i64 s ∧ Hid (SB wx W0.heap.size W0.heap.size mm D v r n lb G) ∧ Hid (AShf lb (nat2 FA) (nat2 FB) ns Gs n G i s) ∧ Hid (Below W0.heap.size W0 wx)) (fun t _ => ns - (intOf t).toNat)
        case atStart => exact ⟨0, _, _, _, _, _, _, hlt, hn, Nat.zero_le _, rfl, HS.out, HA.out, HB.out⟩
        case round =>
          clear HS HA HB hlt hn hi hlt'
          obtain ⟨s, mm, D, v, r, n, G, hin, hn, hs, rfl, HS, HA, HB⟩ := hrel
          by_cases hsl : s < ns
          · have hsl' : (s : Int) < (ns : Int) := by omega
            obtain ⟨gs, cs, hvs, hrs⟩ := (HCS.out.step HB.out).at hsl
            obtain ⟨gv, cv, rfl, hrv⟩ := HS.out.rows.at hin
            have hin' : (i : Int) < (n : Int) := by omega
            injection hvs with hvs1 hvs2 hvs3
            subst hvs1
            have HRS0 : Hid (Row wr (some ⟨rs s, 0, none⟩) lb (fun k => (Gs s k : Nat))) := ((HCS.out.step HB.out).rows s hsl).row
            have HRI : Hid (Row wr.drew (some ⟨r i, 0, none⟩) lb (fun k => (G i k : Nat))) := (HS.out.rows.rows i hin).row
            have HRS : Hid (∀ wx, Below wr.heap.size wr.drew wx → Row wx (some ⟨rs s, 0, none⟩) lb (fun k => (Gs s k : Nat))) := fun wx h => HRS0.out.below ((Below.refl _ _).drew.trans h)
            have HSX : Hid (SB wr.drew W0.heap.size W0.heap.size mm D (.slice (some ⟨gv, 0, none⟩) n cv) r n lb G) := HS.out.step (Below.refl _ _).drew
            have HXS : Hid (W0.heap.size ≤ wr.heap.size) := HB.out.size
            have HTB : Hid (∀ wx, Below wr.heap.size wr.drew wx → Tb wx bA oA lb _ (nat2 FA) ∧ Tb wx bB oB lb _ (nat2 FB)) := fun wx h => HTX.out wx (HB.out.trans ((Below.refl _ _).drew.trans (h.mono HB.out.size)))
            have hn999 : n ≤ 999 := by omega
            have l1 := HS.out.c1
            have k0 : ∀ w', Below W0.heap.size wr w' → w'.cell? ⟨w.heap.size, 0, none⟩ = some (.int .i64 (lb : Int)) := fun w' h => (HKX.out w' (HB.out.trans h)).1
            have k1 : ∀ w', Below W0.heap.size wr w' → w'.cell? ⟨w.heap.size, 1, none⟩ = some (.slice (some ⟨bA, oA, none⟩) lb ca) := fun w' h => (HKX.out w' (HB.out.trans h)).2.1
            have k2 : ∀ w', Below W0.heap.size wr w' → w'.cell? ⟨w.heap.size, 2, none⟩ = some (.slice (some ⟨bB, oB, none⟩) lb cb) := fun w' h => (HKX.out w' (HB.out.trans h)).2.2
            go_upto_region 13 with fail
            generalize wr = X at *
            refine wp_region_held_drew (S := (fun w' => Below W0.heap.size X w')) (by kernel_rfl) ((Below.refl _ _).drew) (fun hHeld => ?_)
            refine wpAnyH_take (i := 0) (oi := { dst := some 33, op := Go.Op.load 27 (Go.Operand.tmp 1), type := 27, pos := "quotient.go:63", after := #[], guard := none }) (v := ?_) rfl (by kernel_rfl) (by kernel_rfl) (by kernel_rfl) (fun _ _ _ h => h) (Or.inl ⟨by rfl, ?hy⟩) (by assumption) ?_
            case hy => (intro w9 hSw; (try dsimp only at hSw); go_simp; try with_reducible rfl)
            try simp only [Act.put, List.setIfInBounds_toArray, List.set_cons_zero, List.set_cons_succ]
            refine wpAnyH_take (i := 1) (oi := { dst := some 34, op := Go.Op.fieldAddr 90 (Go.Operand.tmp 6) 1, type := 0, pos := "quotient.go:63", after := #[], guard := none }) (v := ?_) rfl (by kernel_rfl) (by kernel_rfl) (by kernel_rfl) (fun _ _ _ h => h) (Or.inl ⟨by rfl, ?hy⟩) (by assumption) ?_
            case hy => (intro w9 hSw; (try dsimp only at hSw); go_simp; try with_reducible rfl)
            try simp only [Act.put, List.setIfInBounds_toArray, List.set_cons_zero, List.set_cons_succ]
            refine wpAnyH_take (i := 3) (oi := { dst := some 36, op := Go.Op.move (Go.Operand.tmp 7), type := 3, pos := "quotient.go:63", after := #[], guard := none }) (v := ?_) rfl (by kernel_rfl) (by kernel_rfl) (by kernel_rfl) (fun _ _ _ h => h) (Or.inl ⟨by rfl, ?hy⟩) (by assumption) ?_
            case hy => (intro w9 hSw; (try dsimp only at hSw); go_simp; try with_reducible rfl)
            try simp only [Act.put, List.setIfInBounds_toArray, List.set_cons_zero, List.set_cons_succ]
            refine wpAnyH_take (i := 7) (oi := { dst := some 40, op := Go.Op.move (Go.Operand.tmp 9), type := 22, pos := "quotient.go:63", after := #[], guard := none }) (v := ?_) rfl (by kernel_rfl) (by kernel_rfl) (by kernel_rfl) (fun _ _ _ h => h) (Or.inl ⟨by rfl, ?hy⟩) (by assumption) ?_
            case hy => (intro w9 hSw; (try dsimp only at hSw); go_simp; try with_reducible rfl)
            try simp only [Act.put, List.setIfInBounds_toArray, List.set_cons_zero, List.set_cons_succ]
            refine wpAnyH_ready (rs := [2]) (by kernel_rfl) (by simp) ?_
            refine AllReadyH.cons (o := { dst := some 35, op := Go.Op.load 25 (Go.Operand.tmp 34), type := 25, pos := "quotient.go:63", after := #[{ on := 1, ground := Go.Ground.data }], guard := none }) rfl (fun K hK => ?_) AllReadyH.nil
            go_simp
            skip
            refine hK.out _ _ ?_ (fun hHeld => ?_)
            · exact hHeld
            clear hK K
            try simp only [Act.put, List.setIfInBounds_toArray, List.set_cons_zero, List.set_cons_succ]
            refine wpAnyH_take (i := 4) (oi := { dst := some 37, op := Go.Op.indexAddr 25 (Go.Operand.tmp 35) (Go.Operand.tmp 36), type := 0, pos := "quotient.go:63", after := #[{ on := 2, ground := Go.Ground.data }, { on := 3, ground := Go.Ground.data }], guard := none }) (v := ?_) rfl (by kernel_rfl) (by kernel_rfl) (by kernel_rfl) (fun _ _ _ h => h) (Or.inl ⟨by rfl, ?hy⟩) (by assumption) ?_
            case hy => (intro w9 hSw; (try dsimp only at hSw); go_simp; try with_reducible rfl)
            try simp only [Act.put, List.setIfInBounds_toArray, List.set_cons_zero, List.set_cons_succ]
            refine wpAnyH_ready (rs := [5]) (by kernel_rfl) (by simp) ?_
            refine AllReadyH.cons (o := { dst := some 38, op := Go.Op.load 22 (Go.Operand.tmp 37), type := 22, pos := "quotient.go:63", after := #[{ on := 4, ground := Go.Ground.data }], guard := none }) rfl (fun K hK => ?_) AllReadyH.nil
            go_simp
            skip
            refine hK.out _ _ ?_ (fun hHeld => ?_)
            · exact hHeld
            clear hK K
            try simp only [Act.put, List.setIfInBounds_toArray, List.set_cons_zero, List.set_cons_succ]
            refine wpAnyH_ready (rs := [6]) (by kernel_rfl) (by simp) ?_
            refine AllReadyH.cons (o := { dst := some 39, op := Go.Op.call { callee := Go.Callee.value (Go.Operand.func 62), args := #[Go.Operand.tmp 38], argTypes := #[22] }, type := 92, pos := "quotient.go:63", after := #[{ on := 5, ground := Go.Ground.data }], guard := none }) rfl (fun K hK => ?_) AllReadyH.nil
            go_simp
            refine (pairsOf_any lb _ _ (G i) _ h40 HRI.out).mono ?_
            rintro e w1 ⟨⟨B1, rfl, ho1, hB1⟩, hb1⟩
            refine hK.out _ _ ?_ (fun hHeld => ?_)
            · exact (Below.refl _ _).drew.trans (hb1.mono HXS.out)
            clear hK K
            try simp only [Act.put, List.setIfInBounds_toArray, List.set_cons_zero, List.set_cons_succ]
            refine wpAnyH_ready (rs := [8]) (by kernel_rfl) (by simp) ?_
            refine AllReadyH.cons (o := { dst := some 41, op := Go.Op.call { callee := Go.Callee.value (Go.Operand.func 62), args := #[Go.Operand.tmp 40], argTypes := #[22] }, type := 92, pos := "quotient.go:63", after := #[{ on := 7, ground := Go.Ground.data }, { on := 6, ground := Go.Ground.chain }], guard := none }) rfl (fun K hK => ?_) AllReadyH.nil
            go_simp
            refine (pairsOf_any lb _ _ (Gs s) _ h40 (HRS.out _ hb1)).mono ?_
            rintro e w2 ⟨⟨B2, rfl, ho2, hB2⟩, hb2⟩
            refine hK.out _ _ ?_ (fun hHeld => ?_)
            · exact hHeld.trans (hb2.mono (Nat.le_trans HXS.out hb1.size))
            clear hK K
            try simp only [Act.put, List.setIfInBounds_toArray, List.set_cons_zero, List.set_cons_succ]
            refine wpAnyH_ready (rs := [9]) (by kernel_rfl) (by simp) ?_
            refine AllReadyH.cons (o := { dst := some 42, op := Go.Op.buildSlice 115 2 #[(0, Go.Operand.tmp 39), (1, Go.Operand.tmp 41)], type := 115, pos := "quotient.go:63", after := #[{ on := 6, ground := Go.Ground.data }, { on := 8, ground := Go.Ground.data }], guard := none }) rfl (fun K hK => ?_) AllReadyH.nil
            go_simp
            skip
            refine hK.out _ _ ?_ (fun hHeld => ?_)
            · exact hHeld.alloc (Nat.le_trans HXS.out (Nat.le_trans hb1.size hb2.size)) _
            clear hK K
            try simp only [Act.put, List.setIfInBounds_toArray, List.set_cons_zero, List.set_cons_succ]
            refine wpAnyH_ready (rs := [10]) (by kernel_rfl) (by simp) ?_
            refine AllReadyH.cons (o := { dst := some 43, op := Go.Op.call { callee := Go.Callee.value (Go.Operand.func 61), args := #[Go.Operand.tmp 42], argTypes := #[115] }, type := 92, pos := "quotient.go:63", after := #[{ on := 9, ground := Go.Ground.data }, { on := 8, ground := Go.Ground.chain }], guard := none }) rfl (fun K hK => ?_) AllReadyH.nil
            go_simp
            refine (concat_any lb _ _ B1 B2 lb lb (prsL lb (G i)) (prsL lb (Gs s)) _ h1 (by omega) (prsL_len _ _) (prsL_len _ _) (by simp) (by simp) ((prow_of ho1).below (hb2.alloc hb2.size _)) ((prow_of ho2).below ((Below.refl _ _).alloc (Nat.le_refl _) _))).mono ?_
            rintro e w4 ⟨⟨pv, rfl, hpv⟩, hb4⟩
            have hb14 : Below w1.heap.size w1 w4 := Below.then hb2 (Below.then ((Below.refl _ _).alloc (Nat.le_refl _) _) hb4)
            refine hK.out _ _ ?_ (fun hHeld => ?_)
            · exact (Below.refl _ _).drew.trans ((Below.then hb1 hb14).mono HXS.out)
            clear hK K
            try simp only [Act.put, List.setIfInBounds_toArray, List.set_cons_zero, List.set_cons_succ]
            refine wpAnyH_ready (rs := [11]) (by kernel_rfl) (by simp) ?_
            refine AllReadyH.cons (o := { dst := some 44, op := Go.Op.call { callee := Go.Callee.value (Go.Operand.func 60), args := #[Go.Operand.tmp 33, Go.Operand.tmp 43], argTypes := #[27, 92] }, type := 22, pos := "quotient.go:63", after := #[{ on := 0, ground := Go.Ground.data }, { on := 10, ground := Go.Ground.data }, { on := 10, ground := Go.Ground.chain }], guard := none }) rfl (fun K hK => ?_) AllReadyH.nil
            go_simp
            refine (together_any lb bA oA ca bB oB cb _ _ (nat2 FA) (nat2 FB) pv (prsL lb (G i) ++ prsL lb (Gs s)) _ h1 h40 HIA.out HIB.out (HTB.out _ (Below.then hb1 hb14)).1 (HTB.out _ (Below.then hb1 hb14)).2 hpv (by rw [List.length_append, prsL_len, prsL_len]; omega) (prs_in lb (G i) (Gs s))).mono ?_
            rintro e w5 ⟨⟨B, d, rfl, hd, ho5, hB5⟩, hb5⟩
            have hb15 : Below X.heap.size X.drew w5 := Below.then hb1 (Below.then hb14 hb5)
            refine hK.out _ _ ?_ (fun hHeld => ?_)
            · exact (Below.refl _ _).drew.trans (hb15.mono HXS.out)
            clear hK K
            try simp only [Act.put, List.setIfInBounds_toArray, List.set_cons_zero, List.set_cons_succ]
            refine wpAnyH_ready (rs := [12]) (by kernel_rfl) (by simp) ?_
            refine AllReadyH.cons (o := { dst := some 45, op := Go.Op.call { callee := Go.Callee.value (Go.Operand.func 59), args := #[Go.Operand.tmp 6, Go.Operand.tmp 44], argTypes := #[90, 22] }, type := 0, pos := "quotient.go:63", after := #[{ on := 11, ground := Go.Ground.data }, { on := 11, ground := Go.Ground.chain }], guard := none }) rfl (fun K hK => ?_) AllReadyH.nil
            go_simp
            refine (put_new B (nbr d) h40 h1 hn999 (fun x hx => Nat.le_trans (nbr_le' d x) (by omega)) HSX.out hb15 (Nat.le_trans (Below.then hb1 hb14).size hB5) ho5).mono ?_
            rintro e w6 ⟨rfl, ⟨m6, D6, v6, r6, n6, G6, hs6, hp6⟩, hb6⟩
            refine hK.out _ _ ?_ (fun hHeld => ?_)
            · exact ((Below.refl _ _).drew.trans (hb15.mono HXS.out)).trans hb6
            clear hK K
            try simp only [Act.put, List.setIfInBounds_toArray, List.set_cons_zero, List.set_cons_succ]
            refine wpAnyH_done (by kernel_rfl) ?_ _
            try simp only [Act.put, List.setIfInBounds_toArray, List.set_cons_zero, List.set_cons_succ]
            have HS6 : Hid (SB w6 W0.heap.size W0.heap.size m6 D6 v6 r6 n6 lb G6) := hs6
            have HA6 : Hid (AShf lb (nat2 FA) (nat2 FB) ns Gs n6 G6 i (s + 1)) := HA.out.put hin ⟨d, hd, fun _ _ => rfl⟩ hp6
            have HB6 : Hid (Below W0.heap.size W0 w6) := HB.out.trans hHeld
            have hn6 : n ≤ n6 := by rcases hp6 with ⟨h, _⟩ | ⟨h, _⟩ <;> omega
            have hn7 : n6 ≤ 41 := by rcases hp6 with ⟨h, _⟩ | ⟨h, _⟩ <;> omega
            obtain ⟨a6, c6, rfl⟩ := slice_of hs6.rows.own
            have l6 := hs6.c1
            clear hs6 hp6 hd ho5 hb6 hpv hB5 hb15 hb14 hb4 hb5 ho1 ho2 hb1 hb2 hB1 hB2 HS HA HB HSX HRS HRI HRS0 HTB l1 k0 k1 k2 hrs hrv hHeld
            by_cases hmany : n6 ≤ 40
            · have hmany' : ¬ (40 < (n6 : Int)) := by omega
              go_wp2_with fail
              go_roundw
              case rel => exact ⟨_, _, _, .int .i64 ((s + 1 : Nat) : Int), ⟨s + 1, m6, D6, _, r6, n6, by omega, hmany, by omega, rfl, G6, HS6, HA6⟩, rfl, rfl, rfl, by go_num⟩
              case measure => simp [intOf]; omega
            · have hmany' : 40 < (n6 : Int) := by omega
              have HF : Hid (AlIs (lb : Int) lb SA FA lb SC FB w.heap.size w6 2 (.slice none 0 0)) := .inr ⟨HCK.out, .inl ⟨rfl, rfl, n6, G6, by omega, HA6.out.cg, HA6.out.diff⟩⟩
              have HBF : Hid (Below w.heap.size w w6) := HBW.out.trans (HB6.out.mono HBW.out.size)
              go_wp2_with fail
              go_ret2
              exact ⟨⟨_, _, rfl, HF.out⟩, HBF.out⟩
          · obtain rfl : s = ns := by omega
            have hno : ¬ ((s : Int) < (s : Int)) := by omega
            go_wp2_with fail
            go_roundw
            case rel => exact ⟨i + 1, mm, D, v, r, n, G, by omega, hn, by go_num, HS.out, HA.out.next, HB.out⟩
            case measure => simp [intOf]; omega
      · obtain rfl : i = n := by omega
        have hno : ¬ ((i : Int) < (i : Int)) := by omega
        have hi0 : 0 < i := by obtain ⟨a, ha, _⟩ := HA.out.one; omega
        obtain ⟨gv, cw, hv, _⟩ := HS.out.rows.at hi0
        injection hv with hv1 hv2 hv3
        subst hv1
        subst hv3
        clear hv2
        have HQ := (show Hid _ from sort_any wr h40 hi0 hn HS.out.rows)
        go_wp2_with fail
        refine Calls.mono HQ.out ?_
        rintro e w7 ⟨rfl, p, hp, hcr, hso, hgr⟩
        have l7 : w7.cell? ⟨W0.heap.size, 1, none⟩ = some (.slice (some ⟨gv, 0, none⟩) i cv) := hgr.cell HS.out.c1 (fun e => HS.out.sv e)
        have hgb : W0.heap.size ≤ gv := owns_block HS.out.rows.own gv rfl
        have hB7 : Below W0.heap.size wr w7 := ⟨hgr.os, hgr.tape, hgr.output, hgr.size, fun b hb => hgr.block b (Nat.lt_of_lt_of_le hb HB.out.size) (fun e => by have := Option.some.inj e; omega)⟩
        have HBF : Hid (Below w.heap.size w w7) := HBW.out.trans ((HB.out.trans hB7).mono HBW.out.size)
        have HF : Hid (AlIs (lb : Int) lb SA FA lb SC FB w.heap.size w7 0 (.slice (some ⟨gv, 0, none⟩) i cv)) := by
          refine .inr ⟨HCK.out, .inr ⟨rfl, _, i, _, hcr.base HBW.out.size, hn, fun a ha => HA.out.cg _ (hp.lt a ha), fun a b hab hb => ?_, fun d hd => ?_⟩⟩
          · rcases cmp_tri (G (p a)) (G (p b)) lb with h | h | h
            · exact h
            · have h9 := hso a b hab hb; omega
            · exfalso
              have ha' := hp.lt a (by omega)
              have hb' := hp.lt b hb
              rcases Nat.lt_trichotomy (p a) (p b) with hh | hh | hh
              · exact HA.out.diff _ _ hh hb' h
              · exact hp.ne a b hab hb hh
              · exact HA.out.diff _ _ hh ha' (fun i hi => (h i hi).symm)
          · obtain ⟨a, ha, e⟩ := HA.out.all HOP.out d hd
            obtain ⟨k, hk, ek⟩ := hp.all a ha
            exact ⟨k, hk, fun i hi => by rw [ek]; exact e i hi⟩
        clear hp hcr hso hgr hgb hB7 HQ l1
        go_wp2_with fail
        go_ret2
        exact ⟨⟨_, _, rfl, HF.out⟩, HBF.out⟩
  · have hne : (c != 0) = true := by simp [h0]
    have HF : Hid (AlIs n la SA FA lb SC FB w.heap.size w1 c (.slice none 0 0)) := .inl ⟨h0, HCK.out, rfl⟩
    clear HCK HRA HRB
    go_wp2_with fail
    go_ret2
    exact ⟨⟨_, _, rfl, HF.out⟩, HB1.out⟩
end Go.Proofs.YthhnngmfbbljaaaGreat
