/-
  The law ScalesPlays. Condition: slices read as slices of numbers.
-/
import Derived.Test.YtipgojoiakbaiaaWoK
import Derived.Test.YtipgojoiakbaiaaWoG
import Derived.Test.YtipgojoiakbaiaaWoI
namespace Go.Proofs.Ytipgojoiakbaiaa
open Go.RowKit
set_option maxRecDepth 100000

theorem place_lt {u : Nat → Nat} {n : Nat} {f : Nat → Int} (h : RowTo u n f n) {p q : Nat} (hq : q < n) (ha : Ahd f n p q) {rp rq : Int} (hp : PlaceAt f n p rp) (hqq : PlaceAt f n q rq) : rp < rq := by
  obtain ⟨i, hi, hfi, hno⟩ := ha
  obtain ⟨jq, hjq, rfl, hfq, _⟩ : ∃ j : Nat, j < n ∧ rq = j ∧ f j = q ∧ ∀ i, i < j → f i ≠ q := by
    rcases hqq with h1 | ⟨_, h1⟩
    · exact h1
    · obtain ⟨j, hj, e⟩ := row_all h hq
      exact absurd (by rw [(row_lt h hj).2, e]) (h1 j hj)
  obtain ⟨jp, hjp, rfl, hfp, hfirst⟩ : ∃ j : Nat, j < n ∧ rp = j ∧ f j = p ∧ ∀ i, i < j → f i ≠ p := by
    rcases hp with h1 | ⟨_, h1⟩
    · exact h1
    · exact absurd hfi (h1 i hi)
  have h1 : jp ≤ i := by
    rcases Nat.lt_or_ge i jp with h2 | h2
    · exact absurd hfi (hfirst i h2)
    · exact h2
  have h2 : i < jq := by
    rcases Nat.lt_or_ge i jq with h2 | h2
    · exact h2
    · exact absurd hfq (hno jq h2)
  omega
theorem prow_set2 {X : World} {B : Nat} {a : Option Addr} {n : Nat} {p : Nat → Int × Int} {u v : Value} (h : PRow X a n p) (hb : Fresh (B + 1) a n) : PRow ((X.setCell ⟨B, 0, none⟩ u).setCell ⟨B, 1, none⟩ v) a n p := by
  intro k hk
  obtain ⟨b, off, rfl, hc, hd⟩ := h k hk
  obtain ⟨b', off', e, hlt⟩ := hb (by omega)
  simp at e
  have hne : b ≠ B := by omega
  exact ⟨b, off, rfl, by rw [cell_off hne, cell_off hne]; exact hc, by rw [cell_off hne, cell_off hne]; exact hd⟩
/-- What lies while the pairs of a play are looked at. -/
structure PI (n : Nat) (r : Nat → Int) (w : World) (L : List (Nat × Nat)) (ax ay : Option Addr) (gE : Nat → Nat) (wx : World) (i : Nat) (g : Nat → Nat) (a : Option Addr) (cap : Nat) : Prop where
  below : Below w.heap.size w wx
  c0 : wx.cell? ⟨w.heap.size, 0, none⟩ = some (.int .i64 (n : Nat))
  c1 : wx.cell? ⟨w.heap.size, 1, none⟩ = some (.slice a n cap)
  f0 : wx.frozen? ⟨w.heap.size, 0, none⟩ = false
  f1 : wx.frozen? ⟨w.heap.size, 1, none⟩ = false
  row : Row wx a n (fun k => (g k : Nat))
  px : PRow wx ax L.length (pairAt L)
  py : Row wx ay n r
  pl : Pl n r g (L.drop i) gE
  ok : WOk n g
theorem PI.step {n : Nat} {r : Nat → Int} {w : World} {L : List (Nat × Nat)} {ax ay : Option Addr} {gE : Nat → Nat} {wx wy : World} {i : Nat} {g : Nat → Nat} {a : Option Addr} {cap : Nat} (h : PI n r w L ax ay gE wx i g a cap) (hb : Below wx.heap.size wx wy) : PI n r w L ax ay gE wy i g a cap := by
  have hB : w.heap.size < wx.heap.size := World.block_lt_of_cell? _ _ h.c0
  exact ⟨Below.then h.below hb, (hb.cell (p := ⟨w.heap.size, 0, none⟩) hB).trans h.c0, (hb.cell (p := ⟨w.heap.size, 1, none⟩) hB).trans h.c1, (hb.frozen (p := ⟨w.heap.size, 0, none⟩) hB).trans h.f0, (hb.frozen (p := ⟨w.heap.size, 1, none⟩) hB).trans h.f1, h.row.below hb, h.px.below hb, h.py.below hb, h.pl, h.ok⟩
theorem PI.also {n : Nat} {r : Nat → Int} {w : World} {L : List (Nat × Nat)} {ax ay : Option Addr} {gE : Nat → Nat} {wx : World} {i : Nat} {g g' : Nat → Nat} {a a' : Option Addr} {cap cap' : Nat} (h : PI n r w L ax ay gE wx i g a cap) (hfx : Fresh (w.heap.size + 1) ax L.length) (hfy : Fresh (w.heap.size + 1) ay n) (hr : Row wx a' n (fun k => (g' k : Nat))) (hf : Fresh (w.heap.size + 1) a' n) (hp : Pl n r g' (L.drop (i + 1)) gE) (ho : WOk n g') :
    PI n r w L ax ay gE ((wx.setCell ⟨w.heap.size, 0, none⟩ (.int .i64 (n : Nat))).setCell ⟨w.heap.size, 1, none⟩ (.slice a' n cap')) (i + 1) g' a' cap' := by
  have n01 : (⟨w.heap.size, 0, none⟩ : Addr) ≠ ⟨w.heap.size, 1, none⟩ := by simp
  have a1 : (wx.setCell ⟨w.heap.size, 0, none⟩ (.int .i64 (n : Nat))).cell? ⟨w.heap.size, 1, none⟩ = some (.slice a n cap) := by rw [World.cell?_setCell_other _ _ _ _ n01]; exact h.c1
  refine ⟨set2B h.below (Nat.le_refl _), ?_, World.cell?_setCell_same _ _ _ a1, by simp only [World.frozen?_setCell]; exact h.f0, by simp only [World.frozen?_setCell]; exact h.f1, row_set2 hr hf, prow_set2 h.px hfx, row_set2 h.py hfy, hp, ho⟩
  rw [World.cell?_setCell_other _ _ _ _ n01.symm]; exact World.cell?_setCell_same _ _ _ h.c0
theorem drop_at {L : List (Nat × Nat)} {i : Nat} (h : i < L.length) : L.drop i = L.getD i (0, 0) :: L.drop (i + 1) := by
  rw [List.drop_eq_getElem_cons h]; simp [h]
set_option maxHeartbeats 8000000 in
theorem scalesPlays_any (n : Int) (a : Option Addr) (len cap : Nat) (f : Nat → Int) (ar : Option Addr) (lr cr : Nat) (r : Nat → Int) (w : World) (hl : len ≤ maxLen) (hlr : lr ≤ maxLen) (hr : Row w a len f) (hrr : Row w ar lr r) :
    Calls Try.prog 5 #[.agg #[.int .i64 n, .slice a len cap], .slice ar lr cr] w fun e w' => e = .returned (.bool true) ∧ Below w.heap.size w w' := by
  have K0 : Held (w.alloc (.cells #[.int .i64 n, .slice a len cap] 24)) w.heap.size n a len cap f := Held.box hr
  have F0 : (w.alloc (.cells #[.int .i64 n, .slice a len cap] 24)).frozen? ⟨w.heap.size, 0, none⟩ = false ∧ (w.alloc (.cells #[.int .i64 n, .slice a len cap] 24)).frozen? ⟨w.heap.size, 1, none⟩ = false := ⟨World.frozen?_alloc_at _ _ _ _ rfl, World.frozen?_alloc_at _ _ _ _ rfl⟩
  have HB0 : Hid (Below w.heap.size w (w.alloc (.cells #[.int .i64 n, .slice a len cap] 24))) := (Below.refl _ _).alloc (Nat.le_refl _) _
  have HRR : Hid (∀ wx, Below w.heap.size w wx → Row wx ar lr r) := fun wx h => hrr.below h
  have HSZ : Hid ((w.alloc (.cells #[.int .i64 n, .slice a len cap] 24)).heap.size = w.heap.size + 1) := by show _ = _; simp
  clear hr hrr
  obtain ⟨W0, HW0⟩ : ∃ W0, Hid (w.alloc (.cells #[.int .i64 n, .slice a len cap] 24) = W0) := ⟨_, rfl⟩
  rw [HW0.out] at K0 F0 HB0 HSZ
  have k0 := K0.c0
  have k1 := K0.c1
  go_enter Try.func5, Try.ntmps5
  generalize hC : Code.region 1 _ false = C
  go_wp2_with fail
  rw [HW0.out, ← hC]
  clear hC C HW0
  go_wp2_with fail
  refine (play_any n a len cap f ar lr cr r _ hl hlr K0.row (HRR.out _ HB0.out)).mono ?_
  rintro e w1 ⟨⟨c, x, y, rfl, hc, hxy⟩, hb1⟩
  rw [HSZ.out] at hxy
  have hB1 : w.heap.size < W0.heap.size := by rw [HSZ.out]; omega
  have K1 := K0.step hb1
  have F1 : w1.frozen? ⟨w.heap.size, 0, none⟩ = false ∧ w1.frozen? ⟨w.heap.size, 1, none⟩ = false := ⟨(hb1.frozen (p := ⟨w.heap.size, 0, none⟩) hB1).trans F0.1, (hb1.frozen (p := ⟨w.heap.size, 1, none⟩) hB1).trans F0.2⟩
  have HB1 : Hid (Below w.heap.size w w1) := Below.then HB0.out hb1
  have HC : Hid (PlCk n len f lr r c) := hc
  have m0 := K1.c0
  have m1 := K1.c1
  clear k0 k1 K0 F0 HB0 hc
  have HF1 : Hid (w1.frozen? ⟨w.heap.size, 0, none⟩ = false ∧ w1.frozen? ⟨w.heap.size, 1, none⟩ = false) := F1
  clear F1 hb1
  rcases HC.out with ⟨h0, hck⟩ | ⟨hck, ⟨rfl, hno⟩ | ⟨rfl, hyes⟩⟩
  · obtain ⟨rfl, rfl⟩ : x = .slice none 0 0 ∧ y = .slice none 0 0 := by
      rcases hxy with ⟨_, h⟩ | ⟨h, _⟩
      · exact h
      · exact absurd h h0
    have HCK : Hid (WCk n len f c) := hck
    have hcd : (c == 0) = false := by simpa using h0
    have hcn : (c != 0) = true := by simpa using h0
    clear hxy hck h0
    go_wp2_with fail
    refine (weighed_any n a len cap f _ hl K1.row).mono ?_
    rintro e w2 ⟨⟨c', rfl, hc'⟩, hb2⟩
    obtain rfl := WCk.unique hc' HCK.out
    have HB2 : Hid (Below w.heap.size w w2) := Below.then HB1.out hb2
    clear hb2 hc' K1 m0 m1
    go_wp2_with fail
    refine (scalesBegun_any _).mono ?_
    rintro e w3 ⟨rfl, hb3⟩
    have HB3 : Hid (Below w.heap.size w w3) := Below.then HB2.out hb3
    clear hb3
    go_wp2_with fail
    refine (scalesBegun_any _).mono ?_
    rintro e w4 ⟨rfl, hb4⟩
    have HB4 : Hid (Below w.heap.size w w4) := Below.then HB3.out hb4
    clear hb4
    go_wp2_with fail
    go_ret
    exact ⟨rfl, HB4.out⟩
  · obtain ⟨rfl, rfl⟩ : x = .slice none 0 0 ∧ y = .slice none 0 0 := by
      rcases hxy with ⟨_, h⟩ | ⟨h, _⟩
      · exact h
      · cases h
    have HCK : Hid (WCk n len f 0) := hck
    obtain ⟨rfl, h5, hrng, _⟩ := hck.good
    have HNO : Hid (¬ IsRw (nat f) len lr r) := hno
    have HSM : Hid (Sm len len (nat f)) := hrng.small
    have HRW : Hid (∀ wx, Below w1.heap.size w1 wx → Row wx a len (fun k => (nat f k : Nat))) := fun wx h => hrng.row (K1.step h).row
    clear hxy hck hno hrng
    go_wp2_with fail
    refine (weighed_any len a len cap f _ hl K1.row).mono ?_
    rintro e w2 ⟨⟨c', rfl, hc'⟩, hb2⟩
    obtain rfl := WCk.unique hc' HCK.out
    have HB2 : Hid (Below w.heap.size w w2) := Below.then HB1.out hb2
    have K2 := K1.step hb2
    have k0 := K2.c0
    have k1 := K2.c1
    clear hc' m0 m1
    go_wp2_with fail
    refine (isRow_any len a cap (nat f) ar lr cr r _ (by omega) HSM.out hlr (HRW.out _ hb2) (HRR.out _ HB2.out)).mono ?_
    rintro e w3 ⟨⟨b, rfl, hb⟩, hb3⟩
    obtain rfl : b = false := by
      cases b
      · rfl
      · exact absurd (hb.1 rfl) HNO.out
    have HB3 : Hid (Below w.heap.size w w3) := Below.then HB2.out hb3
    clear hb hb3 hb2 K1 K2 k0 k1
    go_wp2_with fail
    refine (scalesBegun_any _).mono ?_
    rintro e w4 ⟨rfl, hb4⟩
    have HB4 : Hid (Below w.heap.size w w4) := Below.then HB3.out hb4
    clear hb4
    go_wp2_with fail
    refine (scalesBegun_any _).mono ?_
    rintro e w5 ⟨rfl, hb5⟩
    have HB5 : Hid (Below w.heap.size w w5) := Below.then HB4.out hb5
    clear hb5
    go_wp2_with fail
    go_ret
    exact ⟨rfl, HB5.out⟩
  · obtain ⟨L, g, ⟨ax, cx, rfl, hpx, hfx⟩, hL10, hpl, hcz, ay, cy, rfl, hry, hfy⟩ := (hxy.resolve_left (fun h => h.1 rfl)).2
    obtain rfl : lr = len := hyes.1
    obtain ⟨rfl, h5, hrng, _⟩ := hck.good
    have HCK : Hid (WCk (lr : Int) lr f 0) := hck
    have HYES : Hid (IsRw (nat f) lr lr r) := hyes
    have HSM : Hid (Sm lr lr (nat f)) := hrng.small
    have HRW : Hid (∀ wx, Below w1.heap.size w1 wx → Row wx a lr (fun k => (nat f k : Nat))) := fun wx h => hrng.row (K1.step h).row
    have HFX : Hid (Fresh (w.heap.size + 1) ax L.length) := hfx.mono (by omega)
    have HFY : Hid (Fresh (w.heap.size + 1) ay lr) := hfy.mono (by omega)
    have HCZ : Hid (cst lr g = 0) := hcz
    have HPI : Hid (PI lr r w L ax ay g w1 0 (knw (nat f) lr) a cap) := ⟨HB1.out, K1.c0, K1.c1, HF1.out.1, HF1.out.2, knw_row (hrng.row K1.row), hpx, hry, hpl, hck.wok⟩
    clear hxy hck hyes hrng hpx hfx hpl hcz hry hfy
    go_wp2_with fail
    refine (weighed_any lr a lr cap f _ hl K1.row).mono ?_
    rintro e w2 ⟨⟨c', rfl, hc'⟩, hb2⟩
    obtain rfl := WCk.unique hc' HCK.out
    have HB2 : Hid (Below w.heap.size w w2) := Below.then HB1.out hb2
    have K2 := K1.step hb2
    have k0 := K2.c0
    have k1 := K2.c1
    clear hc' m0 m1
    go_wp2_with fail
    refine (isRow_any lr a cap (nat f) ar lr cr r _ (by omega) HSM.out hlr (HRW.out _ hb2) (HRR.out _ HB2.out)).mono ?_
    rintro e w3 ⟨⟨b, rfl, hb⟩, hb3⟩
    obtain rfl : b = true := hb.2 HYES.out
    have HPI3 : Hid (PI lr r w L ax ay g w3 0 (knw (nat f) lr) a cap) := (HPI.out.step hb2).step hb3
    clear hb hb3 hb2 K1 K2 k0 k1 HPI HB1 HB2 HF1 HRW
    go_wp2_with fail
    refine (scalesBegun_any _).mono ?_
    rintro e w4 ⟨rfl, hb4⟩
    have HPI4 : Hid (PI lr r w L ax ay g w4 0 (knw (nat f) lr) a cap) := HPI3.out.step hb4
    clear hb4 HPI3
    go_wp2_with fail
    have hnp := neq_pair
    go_loopw [9] (fun z wx => ∃ (i : Nat) (gi : Nat → Nat) (ai : Option Addr) (ci : Nat), i ≤ L.length ∧ z = .int .i64 i ∧ Hid (PI lr r w L ax ay g wx i gi ai ci)) (fun z _ => L.length - (intOf z).toNat)
    case atStart => exact ⟨0, _, _, _, Nat.zero_le _, rfl, HPI4⟩
    case round =>
      clear HPI4
      obtain ⟨i, gi, ai, ci, hi, rfl, HPI⟩ := hrel
      have c0 := HPI.out.c0
      have c1 := HPI.out.c1
      by_cases hil : i < L.length
      · have hili : (i : Int) < (L.length : Int) := by omega
        have hpl := HPI.out.pl
        rw [drop_at hil] at hpl
        obtain ⟨hcn, hpq, hah, hnext⟩ := hpl
        obtain ⟨p, q, hLi⟩ : ∃ p q, L.getD i (0, 0) = (p, q) := ⟨_, _, rfl⟩
        rw [hLi] at hpq hah hnext
        dsimp only at hpq hah hnext
        have hbp := best_pts HPI.out.ok hcn hpq
        have HPN' : Hid (p < lr) := hbp.1
        have HQN' : Hid (q < lr) := hbp.2.1
        have HNE' : Hid (p ≠ q) := hbp.2.2.1
        have HOP' : Hid (opn gi p q = true) := hbp.2.2.2.1
        have HPLN' : Hid (Pl lr r (wth gi p q) (L.drop (i + 1)) g) := hnext
        have HAH : Hid (Ahd r lr p q) := hah
        have hdt : decide (0 < cst lr gi) = true := decide_eq_true (by omega)
        have HBP : Hid (Calls Try.prog 15 #[.agg #[.int .i64 (lr : Nat), .slice ai lr ci]] wr fun e w' => e = .returned (.tuple #[.int .i64 ((nx lr gi).a : Nat), .int .i64 ((nx lr gi).b : Nat), .bool true]) ∧ Below wr.heap.size wr w') := by
          rw [← hdt]; exact bestPair_any lr ai ci gi wr HPI.out.ok HPI.out.row
        have HPAT : Hid (pairAt L i = ((p : Int), (q : Int))) := by show _ = _; unfold pairAt; rw [hLi]
        obtain ⟨bx, ox, rfl⟩ : ∃ bx ox, ax = some ⟨bx, ox, none⟩ := by
          obtain ⟨b, off, e, _⟩ := HPI.out.px i hil
          exact ⟨b, off, e⟩
        have HPX : Hid (∀ W, PRow W (some ⟨bx, ox, none⟩) L.length (pairAt L) → W.cell? ⟨bx, ox + i * 2, none⟩ = some (.int .i64 (p : Nat)) ∧ W.cell? ⟨bx, ox + i * 2 + 1, none⟩ = some (.int .i64 (q : Nat))) := fun W h => by
          obtain ⟨b, off, e, h1, h2⟩ := h i hil
          simp at e
          obtain ⟨rfl, rfl⟩ := e
          rw [HPAT.out] at h1 h2
          exact ⟨h1, h2⟩
        have HPLT : Hid (∀ rp rq, PlaceAt r lr p rp → PlaceAt r lr q rq → rp < rq) := fun rp rq h1 h2 => place_lt HYES.out.2 HQN'.out HAH.out h1 h2
        clear hah hnext hbp hdt hcn hLi
        rcases hpq with ⟨hp, hq⟩ | ⟨hp, hq⟩
        · rw [← hp, ← hq] at HBP
          clear hp hq
          go_wp2_with fail
          refine (Calls.mono HBP.out) ?_
          rintro e w2 ⟨rfl, hb2⟩
          have HPI2 : Hid (PI lr r w L (some ⟨bx, ox, none⟩) ay g w2 i gi ai ci) := HPI.out.step hb2
          clear hb2 HBP c0 c1 HPI
          go_wp2_with fail
          refine (placeR_any ar lr cr r p _ hlr (HRR.out _ HPI2.out.below)).mono ?_
          rintro e w3 ⟨⟨rp, rfl, hrp⟩, rfl⟩
          go_wp2_with fail
          refine (placeR_any ar lr cr r q _ hlr (HRR.out _ HPI2.out.below)).mono ?_
          rintro e w4 ⟨⟨rq, rfl, hrq⟩, rfl⟩
          have hlt := HPLT.out rp rq hrp hrq
          have hle : rp ≤ rq := by omega
          clear hrp hrq
          have HPI3 : Hid (PI lr r w L (some ⟨bx, ox, none⟩) ay g w2 i gi ai ci) := HPI2.out
          have px := HPX.out w2 HPI2.out.px
          have d0 := HPI2.out.c0
          have d1 := HPI2.out.c1
          obtain ⟨px0, px1⟩ := px
          clear HPI2
          go_wp2_with fail
          refine (also_any lr ai ci gi p q _ HPI3.out.ok HPI3.out.row HPN'.out HQN'.out HNE'.out HOP'.out).mono ?_
          rintro e w5 ⟨⟨a5, cap5, rfl, hr5, hf5⟩, hb5⟩
          have HPI5 : Hid (PI lr r w L (some ⟨bx, ox, none⟩) ay g w5 i gi ai ci) := HPI3.out.step hb5
          have HSW : w.heap.size + 1 ≤ w2.heap.size := World.block_lt_of_cell? _ _ HPI3.out.c0
          have HNX : Hid (PI lr r w L (some ⟨bx, ox, none⟩) ay g ((w5.setCell ⟨w.heap.size, 0, none⟩ (.int .i64 (lr : Nat))).setCell ⟨w.heap.size, 1, none⟩ (.slice a5 lr cap5)) (i + 1) (wth gi p q) a5 cap5) := HPI5.out.also HFX.out HFY.out hr5 (hf5.mono HSW) HPLN'.out (HPI3.out.ok.wth HPN'.out HQN'.out HNE'.out HOP'.out)
          have e0 := HPI5.out.c0
          have e1 := HPI5.out.c1
          have f0 := HPI5.out.f0
          have f1 := HPI5.out.f1
          clear hb5 hr5 hf5 HPI3 HPI5 d0 d1 px0 px1 HSW
          go_wp2_with fail
          go_roundw
          case rel => exact ⟨i + 1, _, _, _, by omega, by go_num, HNX⟩
          case measure => simp [intOf]; omega
        · rw [← hp, ← hq] at HBP
          clear hp hq
          go_wp2_with fail
          refine (Calls.mono HBP.out) ?_
          rintro e w2 ⟨rfl, hb2⟩
          have HPI2 : Hid (PI lr r w L (some ⟨bx, ox, none⟩) ay g w2 i gi ai ci) := HPI.out.step hb2
          clear hb2 HBP c0 c1 HPI
          go_wp2_with fail
          refine (placeR_any ar lr cr r q _ hlr (HRR.out _ HPI2.out.below)).mono ?_
          rintro e w3 ⟨⟨rq, rfl, hrq⟩, rfl⟩
          go_wp2_with fail
          refine (placeR_any ar lr cr r p _ hlr (HRR.out _ HPI2.out.below)).mono ?_
          rintro e w4 ⟨⟨rp, rfl, hrp⟩, rfl⟩
          have hlt := HPLT.out rp rq hrp hrq
          clear hrp hrq
          have HPI3 : Hid (PI lr r w L (some ⟨bx, ox, none⟩) ay g w2 i gi ai ci) := HPI2.out
          have px := HPX.out w2 HPI2.out.px
          have d0 := HPI2.out.c0
          have d1 := HPI2.out.c1
          obtain ⟨px0, px1⟩ := px
          clear HPI2
          go_wp2_with fail
          refine (also_any lr ai ci gi p q _ HPI3.out.ok HPI3.out.row HPN'.out HQN'.out HNE'.out HOP'.out).mono ?_
          rintro e w5 ⟨⟨a5, cap5, rfl, hr5, hf5⟩, hb5⟩
          have HPI5 : Hid (PI lr r w L (some ⟨bx, ox, none⟩) ay g w5 i gi ai ci) := HPI3.out.step hb5
          have HSW : w.heap.size + 1 ≤ w2.heap.size := World.block_lt_of_cell? _ _ HPI3.out.c0
          have HNX : Hid (PI lr r w L (some ⟨bx, ox, none⟩) ay g ((w5.setCell ⟨w.heap.size, 0, none⟩ (.int .i64 (lr : Nat))).setCell ⟨w.heap.size, 1, none⟩ (.slice a5 lr cap5)) (i + 1) (wth gi p q) a5 cap5) := HPI5.out.also HFX.out HFY.out hr5 (hf5.mono HSW) HPLN'.out (HPI3.out.ok.wth HPN'.out HQN'.out HNE'.out HOP'.out)
          have e0 := HPI5.out.c0
          have e1 := HPI5.out.c1
          have f0 := HPI5.out.f0
          have f1 := HPI5.out.f1
          clear hb5 hr5 hf5 HPI3 HPI5 d0 d1 px0 px1 HSW
          go_wp2_with fail
          go_roundw
          case rel => exact ⟨i + 1, _, _, _, by omega, by go_num, HNX⟩
          case measure => simp [intOf]; omega
      · obtain rfl : i = L.length := by omega
        have hge : (L.length : Int) ≤ (L.length : Int) := Int.le_refl _
        have hpl := HPI.out.pl
        rw [List.drop_length] at hpl
        have hgg : g = gi := hpl
        subst hgg
        have HLN : Hid (Lin lr g) := (cst_zero HPI.out.ok).1 HCZ.out
        clear hpl
        go_wp2_with fail
        refine (isLine_any lr ai ci g _ HPI.out.ok HPI.out.row).mono ?_
        rintro e w2 ⟨⟨b, rfl, hb⟩, hb2⟩
        obtain rfl : b = true := hb.2 HLN.out
        have HPI2 : Hid (PI lr r w L ax ay g w2 L.length g ai ci) := HPI.out.step hb2
        clear hb hb2 HPI c0 c1
        go_wp2_with fail
        refine (same_any ay ar lr cy lr cr r r _ hlr hlr HPI2.out.py (HRR.out _ HPI2.out.below)).mono ?_
        rintro e w3 ⟨⟨b, rfl, hb⟩, hb3⟩
        obtain rfl : b = true := hb.2 ⟨rfl, fun _ _ => rfl⟩
        have HB3 : Hid (Below w.heap.size w w3) := Below.then HPI2.out.below hb3
        clear hb hb3 HPI2
        go_wp2_with fail
        go_ret
        exact ⟨rfl, HB3.out⟩
end Go.Proofs.Ytipgojoiakbaiaa
