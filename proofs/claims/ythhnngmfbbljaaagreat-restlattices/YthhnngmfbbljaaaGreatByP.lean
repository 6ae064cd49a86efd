/-
  What quotient.By answers, whatever it is handed. No condition but that slices read as slices of rows and of numbers.
-/
import Derived.Test.YthhnngmfbbljaaaGreatTbyP
import Derived.Deep.RegionHeld3
import Derived.Test.YthhnngmfbbljaaaGreatOfLat
namespace Go.Proofs.YthhnngmfbbljaaaGreat
set_option maxRecDepth 100000
open Go.RowKit

theorem LB.set3 {w : World} {X : Nat} {n : Int} {a : Option Addr} {la ca : Nat} {b : Option Addr} {lb cb : Nat} (h : LB w X n a la ca b lb cb) (u v y : Value) : LB (((w.setCell ⟨X + 1, 0, none⟩ u).setCell ⟨X + 1, 1, none⟩ v).setCell ⟨X + 1, 2, none⟩ y) X n a la ca b lb cb := by
  have ne : ∀ i k : Nat, (⟨X + 1, i, none⟩ : Addr) ≠ ⟨X, k, none⟩ := fun i k e => by injection e with e; omega
  refine ⟨?_, ?_, ?_⟩ <;> rw [World.cell?_setCell_other _ _ _ _ (ne _ _), World.cell?_setCell_other _ _ _ _ (ne _ _), World.cell?_setCell_other _ _ _ _ (ne _ _)]
  · exact h.1
  · exact h.2.1
  · exact h.2.2
/-- What lies lower is written: the rows stay. -/
theorem CM.low {w : World} {B : Nat} {r : Nat → Nat} {n Wn k : Nat} {G : Nat → Nat → Nat} {U : Nat} (h : CM w B r n Wn k G) (hU : U < B) (i : Nat) (v : Value) : CM (w.setCell ⟨U, i, none⟩ v) B r n Wn k G where
  cells j hj := by rw [World.cell?_setCell_other _ _ _ _ (fun e => by injection e with e; omega)]; exact h.cells j hj
  rest j h1 h2 := by rw [World.cell?_setCell_other _ _ _ _ (fun e => by injection e with e; omega)]; exact h.rest j h1 h2
  froz j hj := by rw [World.frozen?_setCell]; exact h.froz j hj
  rows j hj q hq := by
    have := (h.lt j hj).1
    rw [World.frozen?_setCell, World.cell?_setCell_other _ _ _ _ (fun e => by injection e with e; omega)]
    exact h.rows j hj q hq
  lt j hj := by simp only [World.size_setCell]; exact h.lt j hj
  inj := h.inj
  ltB := by simp only [World.size_setCell]; exact h.ltB
theorem goes_con {q : Nat} {m j : Nat → Nat → Nat} {c : Nat → Nat} (hL : Lat q m j) (hc : Con q m j c) : Goes q m c ∧ Goes q j c := by
  have cm : ∀ x y, x < q → y < q → m x y = m y x := fun x y hx hy => (hL.lm.at hx hy hx).2.1
  have cj : ∀ x y, x < q → y < q → j x y = j y x := fun x y hx hy => (hL.lj.at hx hy hx).2.1
  refine ⟨fun x x' y y' hx hx' hy hy' e e' => ?_, fun x x' y y' hx hx' hy hy' e e' => ?_⟩
  · rw [(hc x x' y hx hx' hy e).1, cm x' y hx' hy, (hc y y' x' hy hy' hx' e').1, cm y' x' hy' hx']
  · rw [(hc x x' y hx hx' hy e).2, cj x' y hx' hy, (hc y y' x' hy hy' hx' e').2, cj y' x' hy' hx']
/-- What the region keeps. -/
def KpB (w : World) (q : Nat) (A : Option Addr) (ca : Nat) (A' : Option Addr) (cb : Nat) (w' : World) : Prop := LB w' w.heap.size q A q ca A' q cb ∧ Below w.heap.size w w'
/-- What By must answer. -/
def ByIs (n : Int) (la : Nat) (SA : Nat → Option Addr × Nat × Nat) (FA : Nat → Nat → Int) (lb : Nat) (SB : Nat → Option Addr × Nat × Nat) (FB : Nat → Nat → Int) (m : Nat) (f : Nat → Int) (K0 : Nat) (w' : World) (c : Int) (v : Value) : Prop :=
  (c ≠ 0 ∧ QCk n la SA FA lb SB FB m f c ∧ v = noLat) ∨ (QCk n la SA FA lb SB FB m f 0 ∧ ((c = 4 ∧ ¬ Con m (nat2 FA) (nat2 FB) (natF f) ∧ v = noLat) ∨
    (c = 0 ∧ Con m (nat2 FA) (nat2 FB) (natF f) ∧ ∃ B1 r1 G1 B2 r2 G2, v = .agg #[.int .i64 (numK f m : Nat), .slice (some ⟨B1, 0, none⟩) (numK f m) (numK f m), .slice (some ⟨B2, 0, none⟩) (numK f m) (numK f m)] ∧
      CM w' B1 r1 (numK f m) (numK f m) (numK f m) G1 ∧ CM w' B2 r2 (numK f m) (numK f m) (numK f m) G2 ∧ TabTo m (nat2 FA) (natF f) G1 m 0 ∧ TabTo m (nat2 FB) (natF f) G2 m 0 ∧ (K0 ≤ B1 ∧ K0 ≤ B2) ∧ ∀ j, j < numK f m → r1 j < B2)))

set_option maxHeartbeats 4000000 in
theorem by_any (n : Int) (a : Option Addr) (la ca : Nat) (SA : Nat → Option Addr × Nat × Nat) (FA : Nat → Nat → Int) (b : Option Addr) (lb cb : Nat) (SB : Nat → Option Addr × Nat × Nat) (FB : Nat → Nat → Int) (p : Option Addr) (m cm : Nat) (f : Nat → Int) (w : World) (hla : la ≤ maxLen) (hlb : lb ≤ maxLen) (hra : RR w a la SA FA) (hrb : RR w b lb SB FB) (hrp : Row w p m f) :
    Calls Tryz.prog 13 #[.agg #[.int .i64 n, .slice a la ca, .slice b lb cb], .slice p m cm] w fun e w' => (∃ c v, e = .returned (.tuple #[v, .int .i64 c]) ∧ ByIs n la SA FA lb SB FB m f w.heap.size w' c v) ∧ Below w.heap.size w w' := by
  obtain ⟨W, HW⟩ : ∃ W, Hid (W = (w.alloc (.cells #[.int .i64 n, .slice a la ca, .slice b lb cb] 27)).alloc (.cells #[.int .i64 0, .slice none 0 0, .slice none 0 0] 27)) := ⟨_, rfl⟩
  have HB0 : Hid (Below w.heap.size w W) := by rw [HW.out]; exact ((Below.refl _ _).alloc (Nat.le_refl _) _).alloc (by simp) _
  have HL0 : Hid (LB W w.heap.size n a la ca b lb cb) := by rw [HW.out]; exact (LB.new w n a la ca b lb cb).step ((Below.refl _ _).alloc (Nat.le_refl _) _)
  have HZ0 : Hid (ZL W (w.heap.size + 1)) := by
    rw [HW.out]
    have := ZL.new (w.alloc (.cells #[.int .i64 n, .slice a la ca, .slice b lb cb] 27))
    rw [World.size_alloc] at this; exact this
  have HRA : Hid (RR w a la SA FA) := hra
  have HRB : Hid (RR w b lb SB FB) := hrb
  have HRP : Hid (Row w p m f) := hrp
  clear hra hrb hrp
  have k0 := HL0.out.1
  have k1 := HL0.out.2.1
  have k2 := HL0.out.2.2
  go_enter Tryz.func13, Tryz.ntmps13
  go_wp2_with fail
  rw [← HW.out]
  go_wp2_with fail
  refine (congruent_any n a la ca SA FA b lb cb SB FB p m cm f _ hla hlb (HRA.out.below HB0.out) (HRB.out.below HB0.out) (HRP.out.below HB0.out)).mono ?_
  rintro e w1 ⟨⟨c, v, rfl, hc, hv⟩, hb1⟩
  have HBW : Hid (Below w.heap.size w w1) := Below.then HB0.out hb1
  have HL1 : Hid (LB w1 w.heap.size n a la ca b lb cb) := HL0.out.step hb1
  have HZ1 : Hid (ZL w1 (w.heap.size + 1)) := HZ0.out.step hb1
  have HX1 : Hid (w.heap.size + 1 < w1.heap.size) := World.block_lt_of_cell? _ _ HZ1.out.1.1
  have HQ : Hid (QCk n la SA FA lb SB FB m f c) := hc
  have HV : Hid ((c ≠ 0 ∧ v = false) ∨ (c = 0 ∧ (v = true ↔ Con m (nat2 FA) (nat2 FB) (natF f)))) := hv
  clear hc hv hb1 HW HB0 HL0 HZ0 k0 k1 k2
  by_cases h0 : c = 0
  · subst h0
    have HVV : Hid (v = true ↔ Con m (nat2 FA) (nat2 FB) (natF f)) := by
      rcases HV.out with ⟨h, _⟩ | ⟨_, h⟩
      · exact absurd rfl h
      · exact h
    clear HV
    cases v
    · have HF : Hid (∀ w', ByIs n la SA FA lb SB FB m f w.heap.size w' 4 noLat) := fun w' => .inr ⟨HQ.out, .inl ⟨rfl, (fun h => by have := HVV.out.2 h; cases this), rfl⟩⟩
      obtain ⟨⟨z0, z1, z2⟩, f0, f1, f2⟩ := HZ1.out
      clear HVV HRA HRB HRP HL1 HZ1
      go_wp2_with fail
      refine bodyPost_ret (v := .tuple #[noLat, .int .i64 4]) ?_ rfl ⟨⟨4, _, rfl, HF.out _⟩, ?_⟩
      · simp [results, Tryz.results13, go_sem, noLat, z0, z1, z2]
      · first | exact HBW.out | exact set3B HBW.out (Nat.le_succ _)
    · have HCON : Hid (Con m (nat2 FA) (nat2 FB) (natF f)) := HVV.out.1 rfl
      obtain ⟨hlk, hmn, hri⟩ := HQ.out.good
      subst hmn
      obtain ⟨q, hq, h1, h40, rfl, rfl, hsa, hsb, hga, hgb, hLat⟩ := hlk.good
      obtain rfl : m = lb := by omega
      obtain ⟨bA, oA, rfl, hta, hia⟩ := (HRA.out.below HBW.out).tb h1 hsa hga
      obtain ⟨bB, oB, rfl, htb, hib⟩ := (HRB.out.below HBW.out).tb h1 hsb hgb
      have hrp := HRP.out.below HBW.out
      obtain ⟨bp, op, rfl, hcc⟩ := hrp.at (show 0 < m by omega)
      have HRF : Hid (Row w1 (some ⟨bp, op, none⟩) m f) := hrp
      have HTA := (show Hid _ from hta)
      have HTC := (show Hid _ from htb)
      have HIA : Hid (Inn m (nat2 FA)) := hia
      have HIB : Hid (Inn m (nat2 FB)) := hib
      have HRI : Hid (RisC f m) := hri
      have HGA : Hid (Goes m (nat2 FA) (natF f)) := (goes_con hLat HCON.out).1
      have HGB : Hid (Goes m (nat2 FB) (natF f)) := (goes_con hLat HCON.out).2
      have h0f : ∀ i, i < m → 0 ≤ f i := fun i hi => by
        have : 0 ≤ f i ∧ f i < bgI f i + 1 := by simpa [pnt] using hri i hi
        exact this.1
      have hmx := mx_nat h1 h0f
      have hKm : numK f m ≤ m := natF_le h1 hri
      obtain ⟨K, HKE⟩ : ∃ K, Hid (numK f m = K) := ⟨_, rfl⟩
      obtain ⟨M, HME⟩ : ∃ M, Hid (mxI f (m - 1) = M) := ⟨_, rfl⟩
      have hMK : M + 1 = (K : Int) := by
        have := HKE.out
        unfold numK at this
        rw [HME.out] at hmx this
        omega
      have hM40 : 0 ≤ M ∧ M < 40 := by rw [HKE.out] at hKm; rw [HME.out] at hmx; omega
      have hwr : IntKind.i64.wrap (M + 1) = (K : Int) := by rw [hMK]; exact wrap_i64_small _ (by omega) (by omega)
      have f1' : ∀ w' : World, KpB w m (some ⟨bA, oA, none⟩) ca (some ⟨bB, oB, none⟩) cb w' → w'.cell? ⟨w.heap.size, 1, none⟩ = some (.slice (some ⟨bA, oA, none⟩) m ca) := fun _ h => h.1.2.1
      have f2' : ∀ w' : World, KpB w m (some ⟨bA, oA, none⟩) ca (some ⟨bB, oB, none⟩) cb w' → w'.cell? ⟨w.heap.size, 2, none⟩ = some (.slice (some ⟨bB, oB, none⟩) m cb) := fun _ h => h.1.2.2
      have KK : KpB w m (some ⟨bA, oA, none⟩) ca (some ⟨bB, oB, none⟩) cb w1.drew := ⟨HL1.out, HBW.out.drew⟩
      clear hlk hri hq hsa hsb hga hgb hta htb hia hib hLat hcc hrp HRA HRB HRP HVV h0f hmx hKm hMK
      go_wp2_with fail
      refine wp_region_held_drew (S := (fun w' => KpB w m (some ⟨bA, oA, none⟩) ca (some ⟨bB, oB, none⟩) cb w')) (by kernel_rfl) (KK) (fun hHeld => ?_)
      refine wpAnyH_take (i := 0) (oi := { dst := some 21, op := Go.Op.move (Go.Operand.tmp 1), type := 22, pos := "quotient.go:82", after := #[], guard := none }) (v := ?_) rfl (by kernel_rfl) (by kernel_rfl) (by kernel_rfl) (fun _ _ _ h => h) (Or.inl ⟨by rfl, ?hy⟩) (by assumption) ?_
      case hy => (intro w9 hSw; (try dsimp only at hSw); go_simp; try with_reducible rfl)
      try simp only [Act.put, List.setIfInBounds_toArray, List.set_cons_zero, List.set_cons_succ]
      refine wpAnyH_take (i := 3) (oi := { dst := some 24, op := Go.Op.fieldAddr 27 (Go.Operand.tmp 2) 1, type := 0, pos := "quotient.go:82", after := #[], guard := none }) (v := ?_) rfl (by kernel_rfl) (by kernel_rfl) (by kernel_rfl) (fun _ _ _ h => h) (Or.inl ⟨by rfl, ?hy⟩) (by assumption) ?_
      case hy => (intro w9 hSw; (try dsimp only at hSw); go_simp; try with_reducible rfl)
      try simp only [Act.put, List.setIfInBounds_toArray, List.set_cons_zero, List.set_cons_succ]
      refine wpAnyH_take (i := 4) (oi := { dst := some 25, op := Go.Op.load 25 (Go.Operand.tmp 24), type := 25, pos := "quotient.go:82", after := #[{ on := 3, ground := Go.Ground.data }], guard := none }) (v := ?_) rfl (by kernel_rfl) (by kernel_rfl) (by kernel_rfl) (fun _ _ _ h => h) (Or.inl ⟨by rfl, ?hy⟩) (by assumption) ?_
      case hy => (intro w9 hSw; (try dsimp only at hSw); go_simp; try with_reducible rfl)
      try simp only [Act.put, List.setIfInBounds_toArray, List.set_cons_zero, List.set_cons_succ]
      refine wpAnyH_take (i := 5) (oi := { dst := some 26, op := Go.Op.move (Go.Operand.tmp 1), type := 22, pos := "quotient.go:82", after := #[], guard := none }) (v := ?_) rfl (by kernel_rfl) (by kernel_rfl) (by kernel_rfl) (fun _ _ _ h => h) (Or.inl ⟨by rfl, ?hy⟩) (by assumption) ?_
      case hy => (intro w9 hSw; (try dsimp only at hSw); go_simp; try with_reducible rfl)
      try simp only [Act.put, List.setIfInBounds_toArray, List.set_cons_zero, List.set_cons_succ]
      refine wpAnyH_take (i := 7) (oi := { dst := some 28, op := Go.Op.fieldAddr 27 (Go.Operand.tmp 2) 2, type := 0, pos := "quotient.go:82", after := #[], guard := none }) (v := ?_) rfl (by kernel_rfl) (by kernel_rfl) (by kernel_rfl) (fun _ _ _ h => h) (Or.inl ⟨by rfl, ?hy⟩) (by assumption) ?_
      case hy => (intro w9 hSw; (try dsimp only at hSw); go_simp; try with_reducible rfl)
      try simp only [Act.put, List.setIfInBounds_toArray, List.set_cons_zero, List.set_cons_succ]
      refine wpAnyH_take (i := 8) (oi := { dst := some 29, op := Go.Op.load 25 (Go.Operand.tmp 28), type := 25, pos := "quotient.go:82", after := #[{ on := 7, ground := Go.Ground.data }], guard := none }) (v := ?_) rfl (by kernel_rfl) (by kernel_rfl) (by kernel_rfl) (fun _ _ _ h => h) (Or.inl ⟨by rfl, ?hy⟩) (by assumption) ?_
      case hy => (intro w9 hSw; (try dsimp only at hSw); go_simp; try with_reducible rfl)
      try simp only [Act.put, List.setIfInBounds_toArray, List.set_cons_zero, List.set_cons_succ]
      refine wpAnyH_take (i := 9) (oi := { dst := some 30, op := Go.Op.move (Go.Operand.tmp 1), type := 22, pos := "quotient.go:82", after := #[], guard := none }) (v := ?_) rfl (by kernel_rfl) (by kernel_rfl) (by kernel_rfl) (fun _ _ _ h => h) (Or.inl ⟨by rfl, ?hy⟩) (by assumption) ?_
      case hy => (intro w9 hSw; (try dsimp only at hSw); go_simp; try with_reducible rfl)
      try simp only [Act.put, List.setIfInBounds_toArray, List.set_cons_zero, List.set_cons_succ]
      refine wpAnyH_ready (rs := [1]) (by kernel_rfl) (by simp) ?_
      refine AllReadyH.cons (o := { dst := some 22, op := Go.Op.call { callee := Go.Callee.value (Go.Operand.func 44), args := #[Go.Operand.tmp 21], argTypes := #[22] }, type := 3, pos := "quotient.go:82", after := #[{ on := 0, ground := Go.Ground.data }], guard := none }) rfl (fun K hK => ?_) AllReadyH.nil
      go_simp
      refine (max_any (some ⟨bp, op, none⟩) m cm f w1.drew h1 h40 (HRF.out.below (Below.refl _ _).drew)).mono ?_
      rintro e w2 ⟨rfl, rfl⟩
      rw [HME.out]
      refine hK.out _ _ ?_ (fun hHeld => ?_)
      · exact hHeld
      clear hK K
      try simp only [Act.put, List.setIfInBounds_toArray, List.set_cons_zero, List.set_cons_succ]
      refine wpAnyH_take (i := 2) (oi := { dst := some 23, op := Go.Op.binOp Go.BinOp.add 3 (Go.Operand.tmp 22) (Go.Operand.const (Go.Value.int Go.IntKind.i64 1)) 3, type := 3, pos := "quotient.go:82", after := #[{ on := 1, ground := Go.Ground.data }], guard := none }) (v := .int .i64 (K : Nat)) rfl (by kernel_rfl) (by kernel_rfl) (by kernel_rfl) (fun _ _ _ h => h) (Or.inl ⟨by rfl, ?hy⟩) (by assumption) ?_
      case hy => (intro w9 hSw; (try dsimp only at hSw); go_simp <;> (first | with_reducible rfl | (simp; omega) | omega))
      try simp only [Act.put, List.setIfInBounds_toArray, List.set_cons_zero, List.set_cons_succ]
      refine wpAnyH_ready (rs := [6]) (by kernel_rfl) (by simp) ?_
      refine AllReadyH.cons (o := { dst := some 27, op := Go.Op.call { callee := Go.Callee.value (Go.Operand.func 45), args := #[Go.Operand.tmp 25, Go.Operand.tmp 26], argTypes := #[25, 22] }, type := 25, pos := "quotient.go:82", after := #[{ on := 4, ground := Go.Ground.data }, { on := 5, ground := Go.Ground.data }, { on := 1, ground := Go.Ground.chain }], guard := none }) rfl (fun K hK => ?_) AllReadyH.nil
      go_simp
      refine (tableBy_any m bA oA ca bp op cm _ (nat2 FA) f w1.drew h1 h40 HIA.out (Tb.step HTA.out (Below.refl _ _).drew) (HRF.out.below (Below.refl _ _).drew) HRI.out HGA.out).mono ?_
      rintro e w3 ⟨⟨B1, r1, G1, rfl, hM1, hT1, hB1⟩, hb3⟩
      have HB3 : Hid (Below w1.heap.size w1 w3) := Below.then ((Below.refl _ _).drew) hb3
      have HRF3 : Hid (Row w3 (some ⟨bp, op, none⟩) m f) := HRF.out.below HB3.out
      refine hK.out _ _ ?_ (fun hHeld => ?_)
      · exact ⟨HL1.out.step HB3.out, Below.then HBW.out HB3.out⟩
      clear hK K
      try simp only [Act.put, List.setIfInBounds_toArray, List.set_cons_zero, List.set_cons_succ]
      refine wpAnyH_ready (rs := [10]) (by kernel_rfl) (by simp) ?_
      refine AllReadyH.cons (o := { dst := some 31, op := Go.Op.call { callee := Go.Callee.value (Go.Operand.func 45), args := #[Go.Operand.tmp 29, Go.Operand.tmp 30], argTypes := #[25, 22] }, type := 25, pos := "quotient.go:82", after := #[{ on := 8, ground := Go.Ground.data }, { on := 9, ground := Go.Ground.data }, { on := 6, ground := Go.Ground.chain }], guard := none }) rfl (fun K hK => ?_) AllReadyH.nil
      go_simp
      refine (tableBy_any m bB oB cb bp op cm _ (nat2 FB) f _ h1 h40 HIB.out (Tb.step HTC.out HB3.out) HRF3.out HRI.out HGB.out).mono ?_
      rintro e w4 ⟨⟨B2, r2, G2, rfl, hM2, hT2, hB2⟩, hb4⟩
      refine hK.out _ _ ?_ (fun hHeld => ?_)
      · exact ⟨HL1.out.step (Below.then HB3.out hb4), Below.then HBW.out (Below.then HB3.out hb4)⟩
      clear hK K
      try simp only [Act.put, List.setIfInBounds_toArray, List.set_cons_zero, List.set_cons_succ]
      have HB4 : Hid (Below w1.heap.size w1 w4) := Below.then HB3.out hb4
      have HCM1 : Hid (CM w4 B1 r1 (numK f m) (numK f m) (numK f m) G1) := hM1.step hb4
      have HCM2 : Hid (CM w4 B2 r2 (numK f m) (numK f m) (numK f m) G2) := hM2
      have HTT1 : Hid (TabTo m (nat2 FA) (natF f) G1 m 0) := hT1
      have HTT2 : Hid (TabTo m (nat2 FB) (natF f) G2 m 0) := hT2
      have HBX1 : Hid (w.heap.size + 1 < B1) := Nat.lt_of_lt_of_le HX1.out hB1
      have HBX2 : Hid (w.heap.size + 1 < B2) := Nat.lt_of_lt_of_le HX1.out (Nat.le_trans HB3.out.size hB2)
      have HR12 : Hid (∀ j, j < numK f m → r1 j < B2) := fun j hj => Nat.lt_of_lt_of_le (hM1.lt j hj).2 hB2
      obtain ⟨⟨z0, z1, z2⟩, f0, f1, f2⟩ := HZ1.out.step HB4.out
      clear hM1 hM2 hT1 hT2 hB1 hB2 hb3 hb4
      rw [HKE.out] at HCM1 HCM2
      rw [HKE.out]
      refine wpAnyH_take (i := 11) (oi := { dst := some 32, op := Go.Op.build 27 #[(0, Go.Operand.tmp 23), (1, Go.Operand.tmp 27), (2, Go.Operand.tmp 31)], type := 27, pos := "quotient.go:82", after := #[{ on := 2, ground := Go.Ground.data }, { on := 6, ground := Go.Ground.data }, { on := 10, ground := Go.Ground.data }], guard := none }) (v := ?_) rfl (by kernel_rfl) (by kernel_rfl) (by kernel_rfl) (fun _ _ _ h => h) (Or.inl ⟨by rfl, ?hy⟩) (by assumption) ?_
      case hy => (intro w9 hSw; (try dsimp only at hSw); go_simp; try with_reducible rfl)
      try simp only [Act.put, List.setIfInBounds_toArray, List.set_cons_zero, List.set_cons_succ]
      refine wpAnyH_ready (rs := [12]) (by kernel_rfl) (by simp) ?_
      refine AllReadyH.cons (o := { dst := none, op := Go.Op.store 27 (Go.Operand.tmp 4) (Go.Operand.tmp 32), type := 0, pos := "quotient.go:82", after := #[{ on := 11, ground := Go.Ground.data }, { on := 10, ground := Go.Ground.chain }, { on := 0, ground := Go.Ground.phase }, { on := 1, ground := Go.Ground.phase }, { on := 2, ground := Go.Ground.phase }, { on := 3, ground := Go.Ground.phase }, { on := 4, ground := Go.Ground.phase }, { on := 5, ground := Go.Ground.phase }, { on := 6, ground := Go.Ground.phase }, { on := 7, ground := Go.Ground.phase }, { on := 8, ground := Go.Ground.phase }, { on := 9, ground := Go.Ground.phase }, { on := 10, ground := Go.Ground.phase }, { on := 11, ground := Go.Ground.phase }], guard := none }) rfl (fun K hK => ?_) AllReadyH.nil
      go_simp
      skip
      refine hK.out _ _ ?_ (fun hHeld => ?_)
      · exact ⟨(HL1.out.step HB4.out).set3 _ _ _, set3B (Below.then HBW.out HB4.out) (Nat.le_succ _)⟩
      clear hK K
      try simp only [Act.put, List.setIfInBounds_toArray, List.set_cons_zero, List.set_cons_succ]
      refine wpAnyH_take (i := 13) (oi := { dst := some 5, op := Go.Op.assign (Go.Operand.const (Go.Value.int Go.IntKind.i64 0)), type := 33, pos := "quotient.go:82", after := #[{ on := 12, ground := Go.Ground.chain }, { on := 0, ground := Go.Ground.phase }, { on := 1, ground := Go.Ground.phase }, { on := 2, ground := Go.Ground.phase }, { on := 3, ground := Go.Ground.phase }, { on := 4, ground := Go.Ground.phase }, { on := 5, ground := Go.Ground.phase }, { on := 6, ground := Go.Ground.phase }, { on := 7, ground := Go.Ground.phase }, { on := 8, ground := Go.Ground.phase }, { on := 9, ground := Go.Ground.phase }, { on := 10, ground := Go.Ground.phase }, { on := 11, ground := Go.Ground.phase }, { on := 12, ground := Go.Ground.phase }], guard := none }) (v := ?_) rfl (by kernel_rfl) (by kernel_rfl) (by kernel_rfl) (fun _ _ _ h => h) (Or.inl ⟨by rfl, ?hy⟩) (by assumption) ?_
      case hy => (intro w9 hSw; (try dsimp only at hSw); go_simp; try with_reducible rfl)
      try simp only [Act.put, List.setIfInBounds_toArray, List.set_cons_zero, List.set_cons_succ]
      refine wpAnyH_done (by kernel_rfl) ?_ _
      try simp only [Act.put, List.setIfInBounds_toArray, List.set_cons_zero, List.set_cons_succ]
      have HF : Hid (ByIs (m : Int) m SA FA m SB FB m f w.heap.size (((w4.setCell ⟨w.heap.size + 1, 0, none⟩ (.int .i64 (K : Nat))).setCell ⟨w.heap.size + 1, 1, none⟩ (.slice (some ⟨B1, 0, none⟩) K K)).setCell ⟨w.heap.size + 1, 2, none⟩ (.slice (some ⟨B2, 0, none⟩) K K)) 0 (.agg #[.int .i64 (K : Nat), .slice (some ⟨B1, 0, none⟩) K K, .slice (some ⟨B2, 0, none⟩) K K])) := by
        refine .inr ⟨HQ.out, .inr ⟨rfl, HCON.out, B1, r1, G1, B2, r2, G2, ?_, ?_, ?_, HTT1.out, HTT2.out, ⟨by have := HBX1.out; omega, by have := HBX2.out; omega⟩, HR12.out⟩⟩
        · rw [HKE.out]
        · rw [HKE.out]; exact ((HCM1.out.low HBX1.out _ _).low HBX1.out _ _).low HBX1.out _ _
        · rw [HKE.out]; exact ((HCM2.out.low HBX2.out _ _).low HBX2.out _ _).low HBX2.out _ _
      have HBF : Hid (Below w.heap.size w (((w4.setCell ⟨w.heap.size + 1, 0, none⟩ (.int .i64 (K : Nat))).setCell ⟨w.heap.size + 1, 1, none⟩ (.slice (some ⟨B1, 0, none⟩) K K)).setCell ⟨w.heap.size + 1, 2, none⟩ (.slice (some ⟨B2, 0, none⟩) K K))) := set3B (Below.then HBW.out HB4.out) (Nat.le_succ _)
      go_wp2_with fail
      refine bodyPost_ret (v := .tuple #[.agg #[.int .i64 (K : Nat), .slice (some ⟨B1, 0, none⟩) K K, .slice (some ⟨B2, 0, none⟩) K K], .int .i64 0]) ?_ rfl ⟨⟨0, _, rfl, HF.out⟩, HBF.out⟩
      simp [results, Tryz.results13, go_sem, z0, z1, z2]
  · have hne : (c != 0) = true := by simp [h0]
    have HF : Hid (∀ w', ByIs n la SA FA lb SB FB m f w.heap.size w' c noLat) := fun w' => .inl ⟨h0, HQ.out, rfl⟩
    obtain ⟨⟨z0, z1, z2⟩, f0, f1, f2⟩ := HZ1.out
    clear HV HRA HRB HRP HL1 HZ1
    go_wp2_with fail
    refine bodyPost_ret (v := .tuple #[noLat, .int .i64 c]) ?_ rfl ⟨⟨c, _, rfl, HF.out _⟩, ?_⟩
    · simp [results, Tryz.results13, go_sem, noLat, z0, z1, z2]
    · first | exact HBW.out | exact set3B HBW.out (Nat.le_succ _)
end Go.Proofs.YthhnngmfbbljaaaGreat
