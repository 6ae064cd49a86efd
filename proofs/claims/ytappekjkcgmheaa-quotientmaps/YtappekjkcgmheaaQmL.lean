/-
  hasselaw.QuotientMaps returns true for every lattice and two numbers. No condition but that slices read as slices of rows.
-/
import Derived.Test.YtappekjkcgmheaaLFrame
import Derived.Test.YtappekjkcgmheaaByP
import Derived.Test.YtappekjkcgmheaaShkM
import Derived.Test.YtappekjkcgmheaaTruth
import Derived.Deep.Cut
import Derived.BigQuiet
namespace Go.Proofs.Ytappekjkcgmheaa
open Go.RowKit
set_option maxRecDepth 100000

theorem bgI_nbr (c : Nat → Nat) : ∀ k, bgI (fun i => ((nbr c i : Nat) : Int)) k = ((clsN c k : Nat) : Int)
  | 0 => rfl
  | k + 1 => by
    rw [bgI, bgI_nbr c k]
    cases h : frst c k
    · obtain ⟨a, ha, ea, fa⟩ := first_of c (c k) k rfl
      have hak : a < k := by
        rcases Nat.lt_or_eq_of_le ha with h' | h'
        · exact h'
        · subst h'; rw [h] at fa; cases fa
      have h1 := nbr_first fa ha ea
      have h2 := cls_less fa hak
      have h3 : clsN c (k + 1) = clsN c k := cntB_no h
      rw [if_neg (by omega), h3]
    · have h1 := nbr_new h
      have h3 : clsN c (k + 1) = clsN c k + 1 := cntB_yes h
      rw [if_pos (by omega), h1, h3]
      simp
theorem ris_nbr (c : Nat → Nat) (q : Nat) : RisC (fun i => ((nbr c i : Nat) : Int)) q := fun k _ => by
  have := nbr_rise c k
  rw [bgI_nbr]
  simp [pnt]
  omega
theorem natF_nbr (c : Nat → Nat) : natF (fun i => ((nbr c i : Nat) : Int)) = nbr c := by
  funext i; simp [natF]
theorem con_nbr {q : Nat} {m j : Nat → Nat → Nat} {c : Nat → Nat} (h : Con q m j c) : Con q m j (nbr c) := fun x y z hx hy hz e => by
  have := h x y z hx hy hz (nbr_ker.1 e)
  exact ⟨nbr_ker.2 this.1, nbr_ker.2 this.2⟩
/-- The tables of classes are a lattice. -/
theorem lat_by {q K : Nat} {m j : Nat → Nat → Nat} {c : Nat → Nat} {G H : Nat → Nat → Nat} (hL : Lat q m j) (hK : ∀ x, x < q → c x < K) (hit : ∀ a, a < K → ∃ x, x < q ∧ c x = a) (hG : TabTo q m c G q 0) (hH : TabTo q j c H q 0) : Lat K G H := by
  have g : ∀ x y, x < q → y < q → G (c x) (c y) = c (m x y) := fun x y hx hy => hG x y hx hy (.inl hx)
  have h : ∀ x y, x < q → y < q → H (c x) (c y) = c (j x y) := fun x y hx hy => hH x y hx hy (.inl hx)
  refine ⟨fun a b ha hb => ?_, fun a b ha hb => ?_, lws_iff.2 fun a b d ha hb hd => ?_, lws_iff.2 fun a b d ha hb hd => ?_⟩
  · obtain ⟨x, hx, rfl⟩ := hit a ha
    obtain ⟨y, hy, rfl⟩ := hit b hb
    rw [g x y hx hy]; exact hK _ (hL.im x y hx hy)
  · obtain ⟨x, hx, rfl⟩ := hit a ha
    obtain ⟨y, hy, rfl⟩ := hit b hb
    rw [h x y hx hy]; exact hK _ (hL.ij x y hx hy)
  · obtain ⟨x, hx, rfl⟩ := hit a ha
    obtain ⟨y, hy, rfl⟩ := hit b hb
    obtain ⟨z, hz, rfl⟩ := hit d hd
    obtain ⟨l1, l2, l3, l4⟩ := hL.lm.at hx hy hz
    have i1 := hL.im y z hy hz
    have i2 := hL.im x y hx hy
    have i3 := hL.ij x y hx hy
    rw [g x x hx hx, g x y hx hy, g y x hy hx, g y z hy hz, g x _ hx i1, g _ z i2 hz, h x y hx hy, g x _ hx i3, l1, l2, l3, l4]
    refine ⟨rfl, rfl, ?_, rfl⟩
    rw [← l2]
  · obtain ⟨x, hx, rfl⟩ := hit a ha
    obtain ⟨y, hy, rfl⟩ := hit b hb
    obtain ⟨z, hz, rfl⟩ := hit d hd
    obtain ⟨l1, l2, l3, l4⟩ := hL.lj.at hx hy hz
    have i1 := hL.ij y z hy hz
    have i2 := hL.ij x y hx hy
    have i3 := hL.im x y hx hy
    rw [h x x hx hx, h x y hx hy, h y x hy hx, h y z hy hz, h x _ hx i1, h _ z i2 hz, g x y hx hy, h x _ hx i3, l1, l2, l3, l4]
    refine ⟨rfl, rfl, ?_, rfl⟩
    rw [← l2]

set_option maxHeartbeats 8000000 in
theorem quotientMaps_any (n : Int) (a : Option Addr) (la ca : Nat) (SA : Nat → Option Addr × Nat × Nat) (FA : Nat → Nat → Int) (b : Option Addr) (lb cb : Nat) (SB : Nat → Option Addr × Nat × Nat) (FB : Nat → Nat → Int) (x y : Int) (w : World) (hla : la ≤ maxLen) (hlb : lb ≤ maxLen) (hra : RR w a la SA FA) (hrb : RR w b lb SB FB) :
    Calls Try.prog 7 #[.agg #[.int .i64 n, .slice a la ca, .slice b lb cb], .int .i64 x, .int .i64 y] w fun e w' => e = .returned (.bool true) ∧ Below w.heap.size w w' := by
  have HB0 : Hid (Below w.heap.size w (w.alloc (.cells #[.int .i64 n, .slice a la ca, .slice b lb cb] 24))) := (Below.refl _ _).alloc (Nat.le_refl _) _
  have HS : Hid (QS n a la ca SA FA b lb cb SB FB none 0 (fun _ => 0) w.heap.size (w.alloc (.cells #[.int .i64 n, .slice a la ca, .slice b lb cb] 24))) := QS.new hra hrb (fun k hk => absurd hk (Nat.not_lt_zero _))
  clear hra hrb
  go_enter Try.func7, Try.ntmps7
  go_wp2_with fail
  refine (quotientBegun_any _).mono ?_
  rintro e w1 ⟨rfl, hb1⟩
  have HB1 : Hid (Below w.heap.size w w1) := Below.then HB0.out hb1
  have HS1 : Hid (QS n a la ca SA FA b lb cb SB FB none 0 (fun _ => 0) w.heap.size w1) := HS.out.step hb1
  clear hb1 HB0 HS
  obtain ⟨k0, k1, k2⟩ := HS1.out.bx
  go_wp2_with fail
  refine (least_any n a la ca SA FA b lb cb SB FB x y _ hla hlb HS1.out.ra HS1.out.rb).mono ?_
  rintro e w2 ⟨⟨c, v, rfl, hc⟩, hb2⟩
  have HB2 : Hid (Below w.heap.size w w2) := Below.then HB1.out hb2
  have HS2 : Hid (QS n a la ca SA FA b lb cb SB FB none 0 (fun _ => 0) w.heap.size w2) := HS1.out.step hb2
  have HL : Hid (LsIs n la SA FA lb SB FB x y w1.heap.size w2 c v) := hc
  clear hc hb2 HB1 HS1 k0 k1 k2
  by_cases c0 : c = 0
  rotate_left
  · skip
    have g1 : (c != 0) = true := by simpa using c0
    go_wp2_with fail
    go_ret
    exact ⟨rfl, HB2.out⟩
  subst c0
  rcases HL.out with ⟨h, _⟩ | ⟨hlk, ⟨h, _⟩ | ⟨_, ⟨hx, hy⟩, B, cc, rfl, hlc, how, hB⟩⟩
  · exact absurd rfl h
  · cases h
  obtain ⟨q, rfl, h1, h40, rfl, rfl, hsa, hsb, hga, hgb, hLat⟩ := hlk.good
  have px : 0 ≤ x ∧ x < (lb : Int) := by simpa [pnt] using hx
  have py : 0 ≤ y ∧ y < (lb : Int) := by simpa [pnt] using hy
  obtain ⟨X, rfl⟩ := Int.eq_ofNat_of_zero_le px.1
  obtain ⟨Y, rfl⟩ := Int.eq_ofNat_of_zero_le py.1
  have hX : X < lb := by omega
  have hY : Y < lb := by omega
  simp only [Int.toNat_natCast] at hlc how ⊢
  have HQ : Hid (QCk (lb : Int) lb SA FA lb SB FB lb (fun i => ((nbr cc i : Nat) : Int)) 0) := .inr ⟨hlk, .inr ⟨rfl, .inr ⟨rfl, ris_nbr cc lb⟩⟩⟩
  have HCON : Hid (Con lb (nat2 FA) (nat2 FB) (natF (fun i => ((nbr cc i : Nat) : Int)))) := by rw [Hid, natF_nbr]; exact con_nbr hlc.1
  have HXY : Hid (nbr cc X = nbr cc Y) := nbr_ker.2 (hlc.2.1 (X, Y) (by simp))
  have HROW : Hid (Row w2 (some ⟨B, 0, none⟩) lb (fun i => ((nbr cc i : Nat) : Int))) := how.row
  have HLAT : Hid (Lat lb (nat2 FA) (nat2 FB)) := hLat
  have HSQ : Hid (Sq (lb : Int) lb SA ∧ Sq (lb : Int) lb SB ∧ Rg (lb : Int) lb SA FA ∧ Rg (lb : Int) lb SB FB) := ⟨hsa, hsb, hga, hgb⟩
  have hXi : (X : Int) < (lb : Int) := px.2
  have hYi : (Y : Int) < (lb : Int) := py.2
  clear HL hlk hlc how hB hx hy px py hsa hsb hga hgb hLat
  obtain ⟨k0, k1, k2⟩ := HS2.out.bx
  go_wp2_with fail
  refine (congruent_any lb a lb ca SA FA b lb cb SB FB (some ⟨B, 0, none⟩) lb lb _ _ hla hlb HS2.out.ra HS2.out.rb HROW.out).mono ?_
  rintro e w3 ⟨⟨d, u, rfl, hd, hu⟩, hb3⟩
  obtain rfl := hd.one HQ.out
  obtain rfl : u = true := by
    rcases hu with ⟨h, _⟩ | ⟨_, h⟩
    · exact absurd rfl h
    · exact h.2 HCON.out
  have HB3 : Hid (Below w.heap.size w w3) := Below.then HB2.out hb3
  have HS3 : Hid (QS (lb : Int) a lb ca SA FA b lb cb SB FB none 0 (fun _ => 0) w.heap.size w3) := HS2.out.step hb3
  have HROW3 : Hid (Row w3 (some ⟨B, 0, none⟩) lb (fun i => ((nbr cc i : Nat) : Int))) := HROW.out.below hb3
  clear hd hu hb3 HB2 HS2 HROW k0 k1 k2
  obtain ⟨k0, k1, k2⟩ := HS3.out.bx
  go_wp2_with fail
  refine (by_any lb a lb ca SA FA b lb cb SB FB (some ⟨B, 0, none⟩) lb lb _ _ hla hlb HS3.out.ra HS3.out.rb HROW3.out).mono ?_
  rintro e w3' ⟨⟨c, v, rfl, hv⟩, hb4⟩
  rcases hv with ⟨h, hh, _⟩ | ⟨_, ⟨_, h, _⟩ | ⟨rfl, _, B1, r1, G1, B2, r2, G2, rfl, hM1, hM2, hT1, hT2⟩⟩
  · exact absurd (hh.one HQ.out) h
  · exact absurd HCON.out h
  have hm1 : 1 ≤ lb := h1
  have hri : RisC (fun i => ((nbr cc i : Nat) : Int)) lb := ris_nbr cc lb
  have hK40 : numK (fun i => ((nbr cc i : Nat) : Int)) lb ≤ 40 := Nat.le_trans (natF_le h1 hri) h40
  have hKlt : ∀ i, i < lb → nbr cc i < numK (fun i => ((nbr cc i : Nat) : Int)) lb := fun i hi => by
    have := natF_lt (f := fun i => ((nbr cc i : Nat) : Int)) (q := lb) hi (fun _ _ => by omega)
    rw [natF_nbr] at this
    exact this
  have hKit : ∀ u, u < numK (fun i => ((nbr cc i : Nat) : Int)) lb → ∃ i, i < lb ∧ nbr cc i = u := fun u hu => by
    have := natF_hit h1 hri hu
    rw [natF_nbr] at this
    exact this
  rw [natF_nbr] at hT1 hT2
  have HK1 : 1 ≤ numK (fun i => ((nbr cc i : Nat) : Int)) lb := by unfold numK; omega
  obtain ⟨kq, HKE⟩ : ∃ kq, Hid (numK (fun i => ((nbr cc i : Nat) : Int)) lb = kq) := ⟨_, rfl⟩
  rw [HKE.out] at hK40 hKlt hKit hM1 hM2 HK1
  rw [HKE.out]
  have HLT : Hid (∀ i, i < lb → nbr cc i < kq) := hKlt
  have HLK : Hid (LCk kq kq (fun j => (some ⟨r1 j, 0, none⟩, kq, kq)) (fun j u => (G1 j u : Nat)) kq (fun j => (some ⟨r2 j, 0, none⟩, kq, kq)) (fun j u => (G2 j u : Nat)) 0) := LCk.of HK1 hK40 (fun _ _ => rfl) (fun _ _ => rfl) (lat_by HLAT.out hKlt hKit hT1 hT2)
  have HTT1 : Hid (TabTo lb (nat2 FA) (nbr cc) G1 lb 0) := hT1
  have HTT2 : Hid (TabTo lb (nat2 FB) (nbr cc) G2 lb 0) := hT2
  have hKl : kq ≤ maxLen := by unfold maxLen; omega
  obtain ⟨w4, HW4⟩ : ∃ w4, Hid (w4 = w3'.alloc (.cells #[.int .i64 (kq : Nat), .slice (some ⟨B1, 0, none⟩) kq kq, .slice (some ⟨B2, 0, none⟩) kq kq] 24)) := ⟨_, rfl⟩
  obtain ⟨BQ, HBQ⟩ : ∃ BQ, Hid (BQ = w3'.heap.size) := ⟨_, rfl⟩
  have hb44 : Below w3'.heap.size w3' w4 := by rw [HW4.out]; exact (Below.refl _ _).alloc (Nat.le_refl _) _
  have HLQ : Hid (LB w4 BQ kq (some ⟨B1, 0, none⟩) kq kq (some ⟨B2, 0, none⟩) kq kq) := by rw [HW4.out, HBQ.out]; exact LB.new _ _ _ _ _ _ _ _
  have HRR1 : Hid (RR w4 (some ⟨B1, 0, none⟩) kq (fun j => (some ⟨r1 j, 0, none⟩, kq, kq)) (fun j u => (G1 j u : Nat))) := (hM1.step hb44).rr hKl
  have HRR2 : Hid (RR w4 (some ⟨B2, 0, none⟩) kq (fun j => (some ⟨r2 j, 0, none⟩, kq, kq)) (fun j u => (G2 j u : Nat))) := (hM2.step hb44).rr hKl
  have HCM1 : Hid (CM w4 B1 r1 kq kq kq G1) := hM1.step hb44
  have HCM2 : Hid (CM w4 B2 r2 kq kq kq G2) := hM2.step hb44
  have HB4 : Hid (Below w.heap.size w w4) := Below.then HB3.out (Below.then hb4 hb44)
  have HS4 : Hid (QS (lb : Int) a lb ca SA FA b lb cb SB FB none 0 (fun _ => 0) w.heap.size w4) := (HS3.out.step hb4).step hb44
  have HROW4 : Hid (Row w4 (some ⟨B, 0, none⟩) lb (fun i => ((nbr cc i : Nat) : Int))) := (HROW3.out.below hb4).below hb44
  clear hT1 hT2 hM1 hM2 hb4 hb44 hKlt hKit hri HB3 HS3 HROW3 k0 k1 k2 HCON HQ HK1
  go_upto_region 8 with fail
  rw [← HW4.out, ← HBQ.out]
  clear HW4 HBQ
  have HCL : Hid (∀ wx, Below w4.heap.size w4 wx → ∀ i, i < lb → wx.cell? ⟨B, i, none⟩ = some (.int .i64 (nbr cc i : Nat))) := fun wx h i hi => by
    obtain ⟨b1, o1, e, hc⟩ := (HROW4.out.below h) i hi
    cases e
    simpa using hc
  have g0 : (((nbr cc X : Nat) : Int) != ((nbr cc Y : Nat) : Int)) = false := by rw [HXY.out]; simp
  have s1 : ∀ w' : World, Below w4.heap.size w4 w' → w'.cell? ⟨B, X, none⟩ = some (.int .i64 (nbr cc X : Nat)) := fun w' h => HCL.out w' h X hX
  have s2 : ∀ w' : World, Below w4.heap.size w4 w' → w'.cell? ⟨B, Y, none⟩ = some (.int .i64 (nbr cc Y : Nat)) := fun w' h => HCL.out w' h Y hY
  have s3 : ∀ w' : World, Below w4.heap.size w4 w' → w'.cell? ⟨BQ, 0, none⟩ = some (.int .i64 (kq : Nat)) := fun w' h => (HLQ.out.step h).1
  have s4 : ∀ w' : World, Below w4.heap.size w4 w' → w'.cell? ⟨BQ, 1, none⟩ = some (.slice (some ⟨B1, 0, none⟩) kq kq) := fun w' h => (HLQ.out.step h).2.1
  have s5 : ∀ w' : World, Below w4.heap.size w4 w' → w'.cell? ⟨BQ, 2, none⟩ = some (.slice (some ⟨B2, 0, none⟩) kq kq) := fun w' h => (HLQ.out.step h).2.2
  go_wp2_with fail
  refine wp_region_held_drew (S := (fun w' => Below w4.heap.size w4 w')) (by kernel_rfl) ((Below.refl _ _).drew) (fun hHeld => ?_)
  refine wpAnyH_take (i := 0) (oi := { dst := some 37, op := Go.Op.move (Go.Operand.tmp 8), type := 26, pos := "quotient.go:95", after := #[], guard := none }) (v := ?_) rfl (by kernel_rfl) (by kernel_rfl) (by kernel_rfl) (fun _ _ _ h => h) (Or.inl ⟨by rfl, ?hy⟩) (by assumption) ?_
  case hy => (intro w9 hSw; (try dsimp only at hSw); go_simp; try with_reducible rfl)
  try simp only [Act.put, List.setIfInBounds_toArray, List.set_cons_zero, List.set_cons_succ]
  refine wpAnyH_take (i := 1) (oi := { dst := some 38, op := Go.Op.binOp Go.BinOp.neq 26 (Go.Operand.tmp 37) (Go.Operand.const (Go.Value.int Go.IntKind.i64 0)) 26, type := 4, pos := "quotient.go:95", after := #[{ on := 0, ground := Go.Ground.data }], guard := none }) (v := ?_) rfl (by kernel_rfl) (by kernel_rfl) (by kernel_rfl) (fun _ _ _ h => h) (Or.inl ⟨by rfl, ?hy⟩) (by assumption) ?_
  case hy => (intro w9 hSw; (try dsimp only at hSw); go_simp; try with_reducible rfl)
  try simp only [Act.put, List.setIfInBounds_toArray, List.set_cons_zero, List.set_cons_succ]
  refine wpAnyH_take (i := 2) (oi := { dst := some 39, op := Go.Op.move (Go.Operand.tmp 38), type := 4, pos := "quotient.go:95", after := #[{ on := 1, ground := Go.Ground.data }], guard := none }) (v := ?_) rfl (by kernel_rfl) (by kernel_rfl) (by kernel_rfl) (fun _ _ _ h => h) (Or.inl ⟨by rfl, ?hy⟩) (by assumption) ?_
  case hy => (intro w9 hSw; (try dsimp only at hSw); go_simp; try with_reducible rfl)
  try simp only [Act.put, List.setIfInBounds_toArray, List.set_cons_zero, List.set_cons_succ]
  refine wpAnyH_take (i := 3) (oi := { dst := some 40, op := Go.Op.move (Go.Operand.tmp 11), type := 26, pos := "quotient.go:95", after := #[{ on := 2, ground := Go.Ground.guard }], guard := some (2, false) }) (v := ?_) rfl (by kernel_rfl) (by kernel_rfl) (by kernel_rfl) (fun _ _ _ h => h) (Or.inl ⟨by rfl, ?hy⟩) (by assumption) ?_
  case hy => (intro w9 hSw; (try dsimp only at hSw); go_simp; try with_reducible rfl)
  try simp only [Act.put, List.setIfInBounds_toArray, List.set_cons_zero, List.set_cons_succ]
  refine wpAnyH_take (i := 4) (oi := { dst := some 41, op := Go.Op.binOp Go.BinOp.neq 26 (Go.Operand.tmp 40) (Go.Operand.const (Go.Value.int Go.IntKind.i64 0)) 26, type := 4, pos := "quotient.go:95", after := #[{ on := 3, ground := Go.Ground.data }, { on := 2, ground := Go.Ground.guard }], guard := some (2, false) }) (v := ?_) rfl (by kernel_rfl) (by kernel_rfl) (by kernel_rfl) (fun _ _ _ h => h) (Or.inl ⟨by rfl, ?hy⟩) (by assumption) ?_
  case hy => (intro w9 hSw; (try dsimp only at hSw); go_simp; try with_reducible rfl)
  try simp only [Act.put, List.setIfInBounds_toArray, List.set_cons_zero, List.set_cons_succ]
  refine wpAnyH_take (i := 5) (oi := { dst := some 42, op := Go.Op.pick (Go.Operand.tmp 39) (Go.Operand.const (Go.Value.bool true)) (Go.Operand.tmp 41), type := 4, pos := "quotient.go:95", after := #[{ on := 2, ground := Go.Ground.data }, { on := 4, ground := Go.Ground.data }], guard := none }) (v := ?_) rfl (by kernel_rfl) (by kernel_rfl) (by kernel_rfl) (fun _ _ _ h => h) (Or.inl ⟨by rfl, ?hy⟩) (by assumption) ?_
  case hy => (intro w9 hSw; (try dsimp only at hSw); go_simp; try with_reducible rfl)
  try simp only [Act.put, List.setIfInBounds_toArray, List.set_cons_zero, List.set_cons_succ]
  refine wpAnyH_take (i := 6) (oi := { dst := some 43, op := Go.Op.move (Go.Operand.tmp 42), type := 4, pos := "quotient.go:95", after := #[{ on := 5, ground := Go.Ground.data }, { on := 2, ground := Go.Ground.chain }], guard := none }) (v := ?_) rfl (by kernel_rfl) (by kernel_rfl) (by kernel_rfl) (fun _ _ _ h => h) (Or.inl ⟨by rfl, ?hy⟩) (by assumption) ?_
  case hy => (intro w9 hSw; (try dsimp only at hSw); go_simp; try with_reducible rfl)
  try simp only [Act.put, List.setIfInBounds_toArray, List.set_cons_zero, List.set_cons_succ]
  refine wpAnyH_take (i := 7) (oi := { dst := some 44, op := Go.Op.move (Go.Operand.tmp 9), type := 4, pos := "quotient.go:95", after := #[{ on := 6, ground := Go.Ground.guard }], guard := some (6, false) }) (v := ?_) rfl (by kernel_rfl) (by kernel_rfl) (by kernel_rfl) (fun _ _ _ h => h) (Or.inl ⟨by rfl, ?hy⟩) (by assumption) ?_
  case hy => (intro w9 hSw; (try dsimp only at hSw); go_simp; try with_reducible rfl)
  try simp only [Act.put, List.setIfInBounds_toArray, List.set_cons_zero, List.set_cons_succ]
  refine wpAnyH_take (i := 8) (oi := { dst := some 45, op := Go.Op.unOp Go.UnOp.not 4 (Go.Operand.tmp 44), type := 4, pos := "quotient.go:95", after := #[{ on := 7, ground := Go.Ground.data }, { on := 6, ground := Go.Ground.guard }], guard := some (6, false) }) (v := ?_) rfl (by kernel_rfl) (by kernel_rfl) (by kernel_rfl) (fun _ _ _ h => h) (Or.inl ⟨by rfl, ?hy⟩) (by assumption) ?_
  case hy => (intro w9 hSw; (try dsimp only at hSw); go_simp; try with_reducible rfl)
  try simp only [Act.put, List.setIfInBounds_toArray, List.set_cons_zero, List.set_cons_succ]
  refine wpAnyH_take (i := 9) (oi := { dst := some 46, op := Go.Op.pick (Go.Operand.tmp 43) (Go.Operand.const (Go.Value.bool true)) (Go.Operand.tmp 45), type := 4, pos := "quotient.go:95", after := #[{ on := 6, ground := Go.Ground.data }, { on := 8, ground := Go.Ground.data }], guard := none }) (v := ?_) rfl (by kernel_rfl) (by kernel_rfl) (by kernel_rfl) (fun _ _ _ h => h) (Or.inl ⟨by rfl, ?hy⟩) (by assumption) ?_
  case hy => (intro w9 hSw; (try dsimp only at hSw); go_simp; try with_reducible rfl)
  try simp only [Act.put, List.setIfInBounds_toArray, List.set_cons_zero, List.set_cons_succ]
  refine wpAnyH_take (i := 10) (oi := { dst := some 47, op := Go.Op.move (Go.Operand.tmp 46), type := 4, pos := "quotient.go:95", after := #[{ on := 9, ground := Go.Ground.data }, { on := 6, ground := Go.Ground.chain }], guard := none }) (v := ?_) rfl (by kernel_rfl) (by kernel_rfl) (by kernel_rfl) (fun _ _ _ h => h) (Or.inl ⟨by rfl, ?hy⟩) (by assumption) ?_
  case hy => (intro w9 hSw; (try dsimp only at hSw); go_simp; try with_reducible rfl)
  try simp only [Act.put, List.setIfInBounds_toArray, List.set_cons_zero, List.set_cons_succ]
  refine wpAnyH_take (i := 11) (oi := { dst := some 48, op := Go.Op.move (Go.Operand.tmp 7), type := 25, pos := "quotient.go:95", after := #[{ on := 10, ground := Go.Ground.guard }], guard := some (10, false) }) (v := ?_) rfl (by kernel_rfl) (by kernel_rfl) (by kernel_rfl) (fun _ _ _ h => h) (Or.inl ⟨by rfl, ?hy⟩) (by assumption) ?_
  case hy => (intro w9 hSw; (try dsimp only at hSw); go_simp; try with_reducible rfl)
  try simp only [Act.put, List.setIfInBounds_toArray, List.set_cons_zero, List.set_cons_succ]
  refine wpAnyH_take (i := 12) (oi := { dst := some 49, op := Go.Op.move (Go.Operand.tmp 1), type := 3, pos := "quotient.go:95", after := #[{ on := 10, ground := Go.Ground.guard }], guard := some (10, false) }) (v := ?_) rfl (by kernel_rfl) (by kernel_rfl) (by kernel_rfl) (fun _ _ _ h => h) (Or.inl ⟨by rfl, ?hy⟩) (by assumption) ?_
  case hy => (intro w9 hSw; (try dsimp only at hSw); go_simp; try with_reducible rfl)
  try simp only [Act.put, List.setIfInBounds_toArray, List.set_cons_zero, List.set_cons_succ]
  refine wpAnyH_take (i := 13) (oi := { dst := some 50, op := Go.Op.indexAddr 25 (Go.Operand.tmp 48) (Go.Operand.tmp 49), type := 0, pos := "quotient.go:95", after := #[{ on := 11, ground := Go.Ground.data }, { on := 12, ground := Go.Ground.data }, { on := 10, ground := Go.Ground.guard }], guard := some (10, false) }) (v := ?_) rfl (by kernel_rfl) (by kernel_rfl) (by kernel_rfl) (fun _ _ _ h => h) (Or.inl ⟨by rfl, ?hy⟩) (by assumption) ?_
  case hy => (intro w9 hSw; (try dsimp only at hSw); go_simp; try with_reducible rfl)
  try simp only [Act.put, List.setIfInBounds_toArray, List.set_cons_zero, List.set_cons_succ]
  refine wpAnyH_take (i := 14) (oi := { dst := some 51, op := Go.Op.load 3 (Go.Operand.tmp 50), type := 3, pos := "quotient.go:95", after := #[{ on := 13, ground := Go.Ground.data }, { on := 10, ground := Go.Ground.guard }], guard := some (10, false) }) (v := ?_) rfl (by kernel_rfl) (by kernel_rfl) (by kernel_rfl) (fun _ _ _ h => h) (Or.inl ⟨by rfl, ?hy⟩) (by assumption) ?_
  case hy => (intro w9 hSw; (try dsimp only at hSw); go_simp; try with_reducible rfl)
  try simp only [Act.put, List.setIfInBounds_toArray, List.set_cons_zero, List.set_cons_succ]
  refine wpAnyH_take (i := 15) (oi := { dst := some 52, op := Go.Op.move (Go.Operand.tmp 7), type := 25, pos := "quotient.go:95", after := #[{ on := 10, ground := Go.Ground.guard }], guard := some (10, false) }) (v := ?_) rfl (by kernel_rfl) (by kernel_rfl) (by kernel_rfl) (fun _ _ _ h => h) (Or.inl ⟨by rfl, ?hy⟩) (by assumption) ?_
  case hy => (intro w9 hSw; (try dsimp only at hSw); go_simp; try with_reducible rfl)
  try simp only [Act.put, List.setIfInBounds_toArray, List.set_cons_zero, List.set_cons_succ]
  refine wpAnyH_take (i := 16) (oi := { dst := some 53, op := Go.Op.move (Go.Operand.tmp 2), type := 3, pos := "quotient.go:95", after := #[{ on := 10, ground := Go.Ground.guard }], guard := some (10, false) }) (v := ?_) rfl (by kernel_rfl) (by kernel_rfl) (by kernel_rfl) (fun _ _ _ h => h) (Or.inl ⟨by rfl, ?hy⟩) (by assumption) ?_
  case hy => (intro w9 hSw; (try dsimp only at hSw); go_simp; try with_reducible rfl)
  try simp only [Act.put, List.setIfInBounds_toArray, List.set_cons_zero, List.set_cons_succ]
  refine wpAnyH_take (i := 17) (oi := { dst := some 54, op := Go.Op.indexAddr 25 (Go.Operand.tmp 52) (Go.Operand.tmp 53), type := 0, pos := "quotient.go:95", after := #[{ on := 15, ground := Go.Ground.data }, { on := 16, ground := Go.Ground.data }, { on := 10, ground := Go.Ground.guard }], guard := some (10, false) }) (v := ?_) rfl (by kernel_rfl) (by kernel_rfl) (by kernel_rfl) (fun _ _ _ h => h) (Or.inl ⟨by rfl, ?hy⟩) (by assumption) ?_
  case hy => (intro w9 hSw; (try dsimp only at hSw); go_simp; try with_reducible rfl)
  try simp only [Act.put, List.setIfInBounds_toArray, List.set_cons_zero, List.set_cons_succ]
  refine wpAnyH_take (i := 18) (oi := { dst := some 55, op := Go.Op.load 3 (Go.Operand.tmp 54), type := 3, pos := "quotient.go:95", after := #[{ on := 17, ground := Go.Ground.data }, { on := 10, ground := Go.Ground.guard }], guard := some (10, false) }) (v := ?_) rfl (by kernel_rfl) (by kernel_rfl) (by kernel_rfl) (fun _ _ _ h => h) (Or.inl ⟨by rfl, ?hy⟩) (by assumption) ?_
  case hy => (intro w9 hSw; (try dsimp only at hSw); go_simp; try with_reducible rfl)
  try simp only [Act.put, List.setIfInBounds_toArray, List.set_cons_zero, List.set_cons_succ]
  refine wpAnyH_take (i := 19) (oi := { dst := some 56, op := Go.Op.binOp Go.BinOp.neq 3 (Go.Operand.tmp 51) (Go.Operand.tmp 55) 3, type := 4, pos := "quotient.go:95", after := #[{ on := 14, ground := Go.Ground.data }, { on := 18, ground := Go.Ground.data }, { on := 10, ground := Go.Ground.guard }], guard := some (10, false) }) (v := ?_) rfl (by kernel_rfl) (by kernel_rfl) (by kernel_rfl) (fun _ _ _ h => h) (Or.inl ⟨by rfl, ?hy⟩) (by assumption) ?_
  case hy => (intro w9 hSw; (try dsimp only at hSw); go_simp; try with_reducible rfl)
  try simp only [Act.put, List.setIfInBounds_toArray, List.set_cons_zero, List.set_cons_succ]
  refine wpAnyH_take (i := 20) (oi := { dst := some 57, op := Go.Op.pick (Go.Operand.tmp 47) (Go.Operand.const (Go.Value.bool true)) (Go.Operand.tmp 56), type := 4, pos := "quotient.go:95", after := #[{ on := 10, ground := Go.Ground.data }, { on := 19, ground := Go.Ground.data }], guard := none }) (v := ?_) rfl (by kernel_rfl) (by kernel_rfl) (by kernel_rfl) (fun _ _ _ h => h) (Or.inl ⟨by rfl, ?hy⟩) (by assumption) ?_
  case hy => (intro w9 hSw; (try dsimp only at hSw); go_simp; try with_reducible rfl)
  try simp only [Act.put, List.setIfInBounds_toArray, List.set_cons_zero, List.set_cons_succ]
  refine wpAnyH_take (i := 21) (oi := { dst := some 58, op := Go.Op.move (Go.Operand.tmp 57), type := 4, pos := "quotient.go:95", after := #[{ on := 20, ground := Go.Ground.data }, { on := 10, ground := Go.Ground.chain }], guard := none }) (v := ?_) rfl (by kernel_rfl) (by kernel_rfl) (by kernel_rfl) (fun _ _ _ h => h) (Or.inl ⟨by rfl, ?hy⟩) (by assumption) ?_
  case hy => (intro w9 hSw; (try dsimp only at hSw); go_simp; try with_reducible rfl)
  try simp only [Act.put, List.setIfInBounds_toArray, List.set_cons_zero, List.set_cons_succ]
  refine wpAnyH_take (i := 22) (oi := { dst := some 59, op := Go.Op.load 24 (Go.Operand.tmp 10), type := 24, pos := "quotient.go:95", after := #[{ on := 21, ground := Go.Ground.guard }], guard := some (21, false) }) (v := ?_) rfl (by kernel_rfl) (by kernel_rfl) (by kernel_rfl) (fun _ _ _ h => h) (Or.inl ⟨by rfl, ?hy⟩) (by assumption) ?_
  case hy => (intro w9 hSw; (try dsimp only at hSw); go_simp; try with_reducible rfl)
  try simp only [Act.put, List.setIfInBounds_toArray, List.set_cons_zero, List.set_cons_succ]
  refine wpAnyH_ready (rs := [23]) (by kernel_rfl) (by simp) ?_
  refine AllReadyH.cons (o := { dst := some 60, op := Go.Op.call { callee := Go.Callee.value (Go.Operand.func 27), args := #[Go.Operand.tmp 59], argTypes := #[24] }, type := 26, pos := "quotient.go:95", after := #[{ on := 22, ground := Go.Ground.data }, { on := 21, ground := Go.Ground.chain }, { on := 21, ground := Go.Ground.guard }], guard := some (21, false) }) rfl (fun K hK => ?_) AllReadyH.nil
  go_simp
  refine (lCheck_any kq (some ⟨B1, 0, none⟩) kq kq _ _ (some ⟨B2, 0, none⟩) kq kq _ _ _ hKl hKl (HRR1.out.below hHeld) (HRR2.out.below hHeld)).mono ?_
  rintro e w5 ⟨⟨c5, rfl, hc5⟩, hb5⟩
  obtain rfl := hc5.one HLK.out
  refine hK.out _ _ ?_ (fun hHeld => ?_)
  · exact Below.then hHeld hb5
  clear hK K
  try simp only [Act.put, List.setIfInBounds_toArray, List.set_cons_zero, List.set_cons_succ]
  refine wpAnyH_take (i := 24) (oi := { dst := some 61, op := Go.Op.binOp Go.BinOp.neq 26 (Go.Operand.tmp 60) (Go.Operand.const (Go.Value.int Go.IntKind.i64 0)) 26, type := 4, pos := "quotient.go:95", after := #[{ on := 23, ground := Go.Ground.data }, { on := 21, ground := Go.Ground.guard }], guard := some (21, false) }) (v := ?_) rfl (by kernel_rfl) (by kernel_rfl) (by kernel_rfl) (fun _ _ _ h => h) (Or.inl ⟨by rfl, ?hy⟩) (by assumption) ?_
  case hy => (intro w9 hSw; (try dsimp only at hSw); go_simp; try with_reducible rfl)
  try simp only [Act.put, List.setIfInBounds_toArray, List.set_cons_zero, List.set_cons_succ]
  refine wpAnyH_take (i := 25) (oi := { dst := some 62, op := Go.Op.pick (Go.Operand.tmp 58) (Go.Operand.const (Go.Value.bool true)) (Go.Operand.tmp 61), type := 4, pos := "quotient.go:95", after := #[{ on := 21, ground := Go.Ground.data }, { on := 24, ground := Go.Ground.data }], guard := none }) (v := ?_) rfl (by kernel_rfl) (by kernel_rfl) (by kernel_rfl) (fun _ _ _ h => h) (Or.inl ⟨by rfl, ?hy⟩) (by assumption) ?_
  case hy => (intro w9 hSw; (try dsimp only at hSw); go_simp; try with_reducible rfl)
  try simp only [Act.put, List.setIfInBounds_toArray, List.set_cons_zero, List.set_cons_succ]
  refine wpAnyH_done (by kernel_rfl) ?_ _
  try simp only [Act.put, List.setIfInBounds_toArray, List.set_cons_zero, List.set_cons_succ]
  have HW5 : Hid (Below w4.heap.size w4 w5) := Below.then ((Below.refl _ _).drew) hb5
  clear hb5 hc5 hHeld s1 s2 s3 s4 s5 g0 HRR1 HRR2 HLK
  obtain ⟨hsa, hsb, hga, hgb⟩ := HSQ.out
  obtain ⟨bA, oA, rfl, hta, hia⟩ := HS4.out.ra.tb h1 hsa hga
  obtain ⟨bB, oB, rfl, htb, hib⟩ := HS4.out.rb.tb h1 hsb hgb
  have HTA : Hid (∀ wx, Below w4.heap.size w4 wx → Tb wx bA oA lb (fun k => rAt (SA k)) (nat2 FA)) := fun wx h => Tb.step hta h
  have HTC : Hid (∀ wx, Below w4.heap.size w4 wx → Tb wx bB oB lb (fun k => rAt (SB k)) (nat2 FB)) := fun wx h => Tb.step htb h
  have HIA : Hid (Inn lb (nat2 FA)) := hia
  have HIB : Hid (Inn lb (nat2 FB)) := hib
  have HLL : Hid (∀ wx, Below w4.heap.size w4 wx → LB wx w.heap.size lb (some ⟨bA, oA, none⟩) lb ca (some ⟨bB, oB, none⟩) lb cb) := fun wx h => HS4.out.bx.step h
  have HLQ2 : Hid (∀ wx, Below w4.heap.size w4 wx → LB wx BQ kq (some ⟨B1, 0, none⟩) kq kq (some ⟨B2, 0, none⟩) kq kq) := fun wx h => HLQ.out.step h
  have HCC1 : Hid (∀ wx, Below w4.heap.size w4 wx → CM wx B1 r1 kq kq kq G1) := fun wx h => HCM1.out.step h
  have HCC2 : Hid (∀ wx, Below w4.heap.size w4 wx → CM wx B2 r2 kq kq kq G2) := fun wx h => HCM2.out.step h
  clear hsa hsb hga hgb hta htb hia hib HSQ HS4 HLQ HCM1 HCM2 HROW4
  generalize (fun k => rAt (SA k)) = RA at *
  generalize (fun k => rAt (SB k)) = RB at *
  generalize nat2 FA = m at *
  generalize nat2 FB = j at *
  generalize nbr cc = nb at *
  go_wp2_with fail
  go_loopw [12] (fun i wx => ∃ s : Nat, s ≤ lb ∧ i = .int .i64 s ∧ Hid (Below w4.heap.size w4 wx)) (fun i _ => lb - (intOf i).toNat)
  case atStart => exact ⟨0, Nat.zero_le _, rfl, HW5.out⟩
  case round =>
    clear HW5
    obtain ⟨s, hs, rfl, HW⟩ := hrel
    have l0 := (HLL.out _ HW.out).1
    by_cases hsl : s < lb
    · have hsi : (s : Int) < (lb : Int) := by omega
      go_wp2_with fail
      clear l0
      go_loopw [13] (fun i wx => ∃ t : Nat, t ≤ lb ∧ i = .int .i64 t ∧ Hid (Below w4.heap.size w4 wx)) (fun i _ => lb - (intOf i).toNat)
      case atStart => exact ⟨0, Nat.zero_le _, rfl, HW.out⟩
      case round =>
        clear HW
        obtain ⟨t, ht, rfl, HW⟩ := hrel
        obtain ⟨l0, l1, l2⟩ := HLL.out _ HW.out
        by_cases htl : t < lb
        · have hti : (t : Int) < (lb : Int) := by omega
          obtain ⟨p0, p1, p2⟩ := HLQ2.out _ HW.out
          have us := HLT.out s hsl
          have ut := HLT.out t htl
          have usi : ((nb s : Nat) : Int) < (kq : Int) := by omega
          have uti : ((nb t : Nat) : Int) < (kq : Int) := by omega
          have gs : decide ((kq : Int) ≤ ((nb s : Nat) : Int)) = false := by simp; omega
          have gs2 : decide (kq ≤ nb s) = false := by simp; omega
          have gt2 : decide (kq ≤ nb t) = false := by simp; omega
          have gt : decide ((kq : Int) ≤ ((nb t : Nat) : Int)) = false := by simp; omega
          have c1 := HCL.out _ HW.out s hsl
          have c2 := HCL.out _ HW.out t htl
          have im := HIA.out s t hsl htl
          have ij := HIB.out s t hsl htl
          have imi : ((m s t : Nat) : Int) < (lb : Int) := by omega
          have iji : ((j s t : Nat) : Int) < (lb : Int) := by omega
          have c3 := HCL.out _ HW.out _ im
          have c4 := HCL.out _ HW.out _ ij
          have r1' := ((HTA.out _ HW.out) s hsl).1
          have r2' := ((HTC.out _ HW.out) s hsl).1
          have e1 := ((HTA.out _ HW.out) s hsl).2 t htl
          have e2 := ((HTC.out _ HW.out) s hsl).2 t htl
          have q1 := (HCC1.out _ HW.out).cells _ us
          have q2 := (HCC2.out _ HW.out).cells _ us
          have q3 := ((HCC1.out _ HW.out).rows _ us _ ut).1
          have q4 := ((HCC2.out _ HW.out).rows _ us _ ut).1
          rw [HTT1.out s t hsl htl (.inl hsl)] at q3
          rw [HTT2.out s t hsl htl (.inl hsl)] at q4
          have gm : (((nb (m s t) : Nat) : Int) != ((nb (m s t) : Nat) : Int)) = false := by simp
          have gj : (((nb (j s t) : Nat) : Int) != ((nb (j s t) : Nat) : Int)) = false := by simp
          go_wp2_with fail
          try simp only [List.append_eq, List.cons_append, List.nil_append]
          go_big_quiet (fail)
          go_wp2_with fail
          go_roundw
          case rel => exact ⟨t + 1, by omega, by go_num, below_drewN HW.out _⟩
          case measure => simp [intOf]; omega
        · obtain rfl : t = lb := by omega
          go_wp2_with fail
          go_roundw
          case rel => exact ⟨s + 1, by omega, by go_num, HW.out⟩
          case measure => simp [intOf]; omega
    · obtain rfl : s = lb := by omega
      go_wp2_with fail
      go_ret
      exact ⟨rfl, Below.then HB4.out HW.out⟩
end Go.Proofs.Ytappekjkcgmheaa
