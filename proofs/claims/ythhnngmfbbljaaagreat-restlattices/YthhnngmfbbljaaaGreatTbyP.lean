/-
  What quotient.tableBy answers: the table of the classes. Conditions: a table of at most forty elements, classes that begin in their turn and go with the table.
-/
import Derived.Test.YthhnngmfbbljaaaGreatCgrQ
namespace Go.Proofs.YthhnngmfbbljaaaGreat
set_option maxRecDepth 100000
open Go.RowKit

/-- How many classes there are. -/
def numK (f : Nat → Int) (q : Nat) : Nat := (mxI f (q - 1)).toNat + 1
theorem mx_nat {f : Nat → Int} {q : Nat} (hq : 1 ≤ q) (h : ∀ i, i < q → 0 ≤ f i) : mxI f (q - 1) = ((mxI f (q - 1)).toNat : Int) := by
  obtain ⟨i, hi, e⟩ := mxI_is f (q - 1)
  have := h i (by omega)
  rw [e]
  omega
theorem natF_lt {f : Nat → Int} {q i : Nat} (hi : i < q) (h : ∀ i, i < q → 0 ≤ f i) : natF f i < numK f q := by
  have h1 := mxI_ge (f := f) (k := q - 1) (i := i) (by omega)
  have := h i hi
  unfold numK natF
  omega
theorem natF_le {f : Nat → Int} {q : Nat} (hq : 1 ≤ q) (h : RisC f q) : numK f q ≤ q := by
  obtain ⟨i, hi, e⟩ := mxI_is f (q - 1)
  have h1 := bgI_range (f := f) (k := i) (fun k hk => h k (by omega))
  have hp : 0 ≤ f i ∧ f i < bgI f i + 1 := by simpa [pnt] using h i (by omega)
  unfold numK
  rw [e]
  omega
/-- Each class is met. -/
theorem bgI_hit {f : Nat → Int} : ∀ {k : Nat} {v : Nat}, RisC f k → (v : Int) < bgI f k → ∃ i, i < k ∧ f i = v
  | 0, v, _, h => by simp [bgI] at h; omega
  | k + 1, v, hr, h => by
    have ih := bgI_hit (f := f) (k := k) (v := v) (fun i hi => hr i (by omega))
    have hp : 0 ≤ f k ∧ f k < bgI f k + 1 := by simpa [pnt] using hr k (by omega)
    rw [bgI] at h
    by_cases e : (v : Int) < bgI f k
    · obtain ⟨i, hi, e'⟩ := ih e
      exact ⟨i, by omega, e'⟩
    · split at h
      · exact ⟨k, by omega, by omega⟩
      · omega
theorem bgI_ge {f : Nat → Int} : ∀ {k i : Nat}, i < k → f i < bgI f k
  | 0, _, h => absurd h (Nat.not_lt_zero _)
  | k + 1, i, h => by
    rw [bgI]
    by_cases e : i = k
    · subst e; split <;> omega
    · have := bgI_ge (f := f) (k := k) (i := i) (by omega)
      split <;> omega
theorem natF_hit {f : Nat → Int} {q u : Nat} (hq : 1 ≤ q) (h : RisC f q) (hu : u < numK f q) : ∃ i, i < q ∧ natF f i = u := by
  obtain ⟨i, hi, e⟩ := mxI_is f (q - 1)
  have h2 := bgI_ge (f := f) (k := q) (i := i) (by omega)
  have h0 : 0 ≤ f i := by have : 0 ≤ f i ∧ f i < bgI f i + 1 := by simpa [pnt] using h i (by omega)
                          exact this.1
  unfold numK at hu
  rw [e] at hu
  obtain ⟨k, hk, e'⟩ := bgI_hit (f := f) (k := q) (v := u) h (by omega)
  exact ⟨k, hk, by unfold natF; rw [e']; simp⟩
/-- What goes with a table. -/
def Goes (q : Nat) (m : Nat → Nat → Nat) (c : Nat → Nat) : Prop := ∀ x x' y y', x < q → x' < q → y < q → y' < q → c x = c x' → c y = c y' → c (m x y) = c (m x' y')
/-- The table of classes so far: what is ahead of x and y has been laid. -/
def TabTo (q : Nat) (m : Nat → Nat → Nat) (c : Nat → Nat) (G : Nat → Nat → Nat) (x y : Nat) : Prop := ∀ s t, s < q → t < q → (s < x ∨ (s = x ∧ t < y)) → G (c s) (c t) = c (m s t)
theorem TabTo.set {q : Nat} {m : Nat → Nat → Nat} {c : Nat → Nat} {G : Nat → Nat → Nat} {x y : Nat} (h : TabTo q m c G x y) (hg : Goes q m c) (hx : x < q) (hy : y < q) : TabTo q m c (fun j => if j = c x then upd (G (c x)) (c y) (c (m x y)) else G j) x (y + 1) := fun s t hs ht hst => by
  by_cases e1 : c s = c x
  · simp only [e1, if_true]
    by_cases e2 : c t = c y
    · rw [e2, upd_same]
      exact hg x s y t hx hs hy ht e1.symm e2.symm
    · rw [upd_other _ _ _ _ e2]
      have : ¬ (s = x ∧ t = y) := fun e => e2 (by rw [e.2])
      rw [← e1]
      exact h s t hs ht (by omega)
  · simp only [e1, if_false]
    have : ¬ (s = x ∧ t = y) := fun e => e1 (by rw [e.1])
    exact h s t hs ht (by omega)
theorem TabTo.next {q : Nat} {m : Nat → Nat → Nat} {c : Nat → Nat} {G : Nat → Nat → Nat} {x : Nat} (h : TabTo q m c G x q) : TabTo q m c G (x + 1) 0 := fun s t hs ht hst => h s t hs ht (by omega)

set_option maxHeartbeats 4000000 in
theorem tableBy_any (q b off ca p o cm : Nat) (R : Nat → Nat × Nat × Nat) (m : Nat → Nat → Nat) (f : Nat → Int) (w : World) (h1 : 1 ≤ q) (h40 : q ≤ 40) (hm : Inn q m) (ht : Tb w b off q R m) (hr : Row w (some ⟨p, o, none⟩) q f) (hf : RisC f q) (hg : Goes q m (natF f)) :
    Calls Tryz.prog 45 #[.slice (some ⟨b, off, none⟩) q ca, .slice (some ⟨p, o, none⟩) q cm] w fun e w' => (∃ B r G, e = .returned (.slice (some ⟨B, 0, none⟩) (numK f q) (numK f q)) ∧ CM w' B r (numK f q) (numK f q) (numK f q) G ∧ TabTo q m (natF f) G q 0 ∧ w.heap.size ≤ B) ∧ Below w.heap.size w w' := by
  have h0 : ∀ i, i < q → 0 ≤ f i := fun i hi => by
    have : 0 ≤ f i ∧ f i < bgI f i + 1 := by simpa [pnt] using hf i hi
    exact this.1
  have HMX : Hid (mxI f (q - 1) + 1 = ((numK f q : Nat) : Int)) := by unfold Hid; rw [mx_nat h1 h0]; unfold numK; simp
  have HLT : Hid (∀ i, i < q → natF f i < numK f q) := fun i hi => natF_lt hi h0
  have hK : numK f q ≤ q := natF_le h1 hf
  have hM : 0 ≤ mxI f (q - 1) ∧ mxI f (q - 1) < 40 := by have := HMX.out; have := mx_nat h1 h0; omega
  have HRF : Hid (Row w (some ⟨p, o, none⟩) q f) := hr
  have HC : Hid (∀ wx, Below w.heap.size w wx → ∀ i, i < q → wx.cell? ⟨p, o + i, none⟩ = some (.int .i64 (natF f i : Nat))) := fun wx hb i hi => by
    obtain ⟨b1, o1, e, hc⟩ := (hr.below hb) i hi
    cases e
    rw [hc, show ((natF f i : Nat) : Int) = f i from Int.toNat_of_nonneg (h0 i hi)]
  have HT : Hid (Tb w b off q R m) := ht
  have HI : Hid (Inn q m) := hm
  have HG : Hid (Goes q m (natF f)) := hg
  clear hr ht hm hg hf h0
  obtain ⟨i5, hi5, hz0, hz1, hz2⟩ := info_parts Tryz.infoL
  obtain ⟨i0, hi0, hy0, hy1, hy2⟩ := info_parts Tryz.info3
  obtain ⟨K, HKE⟩ : ∃ K, Hid (numK f q = K) := ⟨_, rfl⟩
  obtain ⟨c, HCE⟩ : ∃ c, Hid (natF f = c) := ⟨_, rfl⟩
  obtain ⟨M, HME⟩ : ∃ M, Hid (mxI f (q - 1) = M) := ⟨_, rfl⟩
  rw [HKE.out, HCE.out]
  rw [HKE.out, HME.out] at HMX
  rw [HKE.out, HCE.out] at HLT
  rw [HCE.out] at HC HG
  rw [HKE.out] at hK
  rw [HME.out] at hM
  have hMK := HMX.out
  go_enter Tryz.func45, Tryz.ntmps45
  go_wp2_with fail
  refine (max_any (some ⟨p, o, none⟩) q cm f _ h1 h40 HRF.out).mono ?_
  rintro e w1 ⟨rfl, rfl⟩
  rw [HME.out]
  obtain rfl : M = ((K - 1 : Nat) : Int) := by omega
  have hK1 : 1 ≤ K := by omega
  have hwr : (((K - 1 : Nat) : Int)) + 1 = (K : Int) := by omega
  clear hMK hM HMX HME HRF
  generalize (((K - 1 : Nat) : Int)) = M at *
  go_wp2_with (at_make; refine wpList_make_full _ rfl _ _ 25 rfl w.heap.size 22 i5 (.slice none 0 0) 1 Tryz.underlying25 hi5 hz0 hz1 .i64 .i64 _ _ K rfl rfl (by first | rfl | exact hwr | (rw [hwr])) (by first | rfl | exact hwr) (by rw [hz2]; omega) (by unfold maxLen; omega) (Nat.le_refl _) ?_; intro w2 hown2 hgrow2)
  have hb2 : Below w.heap.size w w2 := (Below.refl _ _).grown hgrow2 (Nat.le_refl _) (by simp)
  have HCM : Hid (CM w2 w.heap.size (fun _ => 0) K K 0 (fun _ _ => 0)) := ⟨fun j hj => absurd hj (Nat.not_lt_zero _), fun j _ hj => (rowsl_made hown2 j hj).1, fun j hj => (rowsl_made hown2 j hj).2, fun j hj => absurd hj (Nat.not_lt_zero _), fun j hj => absurd hj (Nat.not_lt_zero _), fun i j hi => absurd hi (Nat.not_lt_zero _), (hown2.lt _ rfl).2⟩
  have HB2 : Hid (Below w.heap.size w w2) := hb2
  clear hown2 hgrow2 hb2
  obtain ⟨B, HBE⟩ : ∃ B, Hid (w.heap.size = B) := ⟨_, rfl⟩
  rw [HBE.out] at HCM
  rw [HBE.out] at HB2 HC
  rw [HBE.out]
  have HTB : Hid (∀ wx, Below B w wx → Tb wx b off q R m) := fun wx h => HT.out.step (by rw [HBE.out]; exact h)
  go_wp2_with fail
  go_loopw [19] (fun t wx => ∃ (i : Nat) (r : Nat → Nat) (G : Nat → Nat → Nat), i ≤ K ∧ t = .int .i64 i ∧ Hid (CM wx B r K K i G) ∧ Hid (Below B w wx)) (fun t _ => K - (intOf t).toNat)
  case atStart => exact ⟨0, _, _, Nat.zero_le _, rfl, HCM.out, HB2.out⟩
  case round =>
    obtain ⟨i, r, G, hi, rfl, hM, hB⟩ := hrel
    clear HCM HB2
    by_cases hlt : i < K
    · have hlt' : (i : Int) < (K : Int) := by omega
      have hfz := hM.out.froz i hlt
      have hcz := hM.out.rest i (Nat.le_refl _) hlt
      have HBL : Hid (B < wr.heap.size) := hM.out.ltB
      go_wp2_with (at_make; refine wpList_make_full _ rfl _ _ 22 rfl wr.heap.size 3 i0 (.int .i64 0) 1 Tryz.underlying22 hi0 hy0 hy1 .i64 .i64 _ _ K rfl rfl rfl rfl (by rw [hy2]; omega) (by unfold maxLen; omega) (Nat.le_refl _) ?_; intro w3 hown3 hgrow3; have hb3 : Below wr.heap.size wr w3 := (Below.refl _ _).grown hgrow3 (Nat.le_refl _) (by simp); have s0 := (hb3.cell (p := ⟨B, i, none⟩) HBL.out).trans hcz; have s1 := (hb3.frozen (p := ⟨B, i, none⟩) HBL.out).trans hfz; have HB3 : Hid (Below wr.heap.size wr w3) := hb3; have HOW : Hid (Own w3 wr.heap.size K (fun _ => 0)) := own_made hown3; have HLT3 : Hid (wr.heap.size < w3.heap.size) := (hown3.lt _ rfl).2; clear hown3 hgrow3 hb3)
      have HM4 : Hid (CM (w3.setCell ⟨B, i, none⟩ (.slice (some ⟨wr.heap.size, 0, none⟩) K K)) B (fun j => if j = i then wr.heap.size else r j) K K (i + 1) (fun j => if j = i then fun _ => 0 else G j)) := hM.out.row HB3.out hlt HOW.out HLT3.out
      have HB4 : Hid (Below B w (w3.setCell ⟨B, i, none⟩ (.slice (some ⟨wr.heap.size, 0, none⟩) K K))) := (hB.out.trans (HB3.out.mono (Nat.le_of_lt HBL.out))).setCell (p := ⟨B, i, none⟩) (Nat.le_refl _) _
      clear s0 s1 hfz hcz HB3 HOW HLT3 hM hB HBL
      go_wp2_with fail
      go_roundw
      case rel => exact ⟨i + 1, _, _, by omega, by go_num, HM4.out, HB4.out⟩
      case measure => simp [intOf]; omega
    · obtain rfl : i = K := by omega
      clear hlt hi
      have HT0 : Hid (TabTo q m c G 0 0) := fun s t _ _ h => by omega
      go_wp2_with fail
      go_loopw [30] (fun t wx => ∃ (x : Nat) (G : Nat → Nat → Nat), x ≤ q ∧ t = .int .i64 x ∧ Hid (CM wx B r i i i G) ∧ Hid (TabTo q m c G x 0) ∧ Hid (Below B w wx)) (fun t _ => q - (intOf t).toNat)
      case atStart => exact ⟨0, G, Nat.zero_le _, rfl, hM.out, HT0.out, hB.out⟩
      case round =>
        clear hM HT0 hB
        obtain ⟨x, G, hx, rfl, hM, HTX, hB⟩ := hrel
        by_cases hxl : x < q
        · have hxi : (x : Int) < (q : Int) := by omega
          have r1 := ((HTB.out _ hB.out) x hxl).1
          go_wp2_with fail
          clear r1
          go_loopw [37] (fun t wx => ∃ (y : Nat) (G : Nat → Nat → Nat), y ≤ q ∧ t = .int .i64 y ∧ Hid (CM wx B r i i i G) ∧ Hid (TabTo q m c G x y) ∧ Hid (Below B w wx)) (fun t _ => q - (intOf t).toNat)
          case atStart => exact ⟨0, G, Nat.zero_le _, rfl, hM.out, HTX.out, hB.out⟩
          case round =>
            clear hM HTX hB
            obtain ⟨y, G, hy, rfl, hM, HTX, hB⟩ := hrel
            by_cases hyl : y < q
            · have hyi : (y : Int) < (q : Int) := by omega
              have hz := HI.out x y hxl hyl
              have hzi : ((m x y : Nat) : Int) < (q : Int) := by omega
              have r2 := ((HTB.out _ hB.out) x hxl).2 y hyl
              have c1 := HC.out _ hB.out x hxl
              have c2 := HC.out _ hB.out y hyl
              have c3 := HC.out _ hB.out _ hz
              have u1 := HLT.out x hxl
              have u2 := HLT.out y hyl
              have v1 := hM.out.cells _ u1
              have v2 := (hM.out.rows _ u1 _ u2).1
              have v3 := (hM.out.rows _ u1 _ u2).2
              have u1i : ((c x : Nat) : Int) < (i : Int) := by omega
              have u2i : ((c y : Nat) : Int) < (i : Int) := by omega
              have HTN : Hid (TabTo q m c (fun j => if j = c x then upd (G (c x)) (c y) (c (m x y)) else G j) x (y + 1)) := HTX.out.set HG.out hxl hyl
              have hset := hM.out.set (x := c (m x y)) u1 u2
              have HMN : Hid (CM (wr.setCell ⟨r (c x), c y, none⟩ (.int .i64 (c (m x y) : Nat))).drew B r i i i (fun j => if j = c x then upd (G (c x)) (c y) (c (m x y)) else G j)) := ⟨hset.cells, hset.rest, hset.froz, hset.rows, hset.lt, hset.inj, hset.ltB⟩
              have HBN : Hid (Below B w (wr.setCell ⟨r (c x), c y, none⟩ (.int .i64 (c (m x y) : Nat))).drew) := (hB.out.setCell (p := ⟨r (c x), c y, none⟩) (Nat.le_of_lt (hM.out.lt _ u1).1) _).drew
              clear hset
              clear hM HTX hB
              go_wp2_with fail
              go_region
              generalize (wr.setCell ⟨r (c x), c y, none⟩ (.int .i64 (c (m x y) : Nat))).drew = W5 at *
              clear v1 v2 v3 c1 c2 c3 r2
              go_wp2_with fail
              go_roundw
              case rel => exact ⟨y + 1, _, by omega, by go_num, HMN.out, HTN.out, HBN.out⟩
              case measure => simp [intOf]; omega
            · obtain rfl : y = q := by omega
              have HTN : Hid (TabTo y m c G (x + 1) 0) := HTX.out.next
              clear HTX
              go_wp2_with fail
              go_roundw
              case rel => exact ⟨x + 1, G, by omega, by go_num, hM.out, HTN.out, hB.out⟩
              case measure => simp [intOf]; omega
        · obtain rfl : x = q := by omega
          go_wp2_with fail
          go_ret
          exact ⟨⟨B, r, G, rfl, hM.out, HTX.out, by rw [HBE.out]; exact Nat.le_refl _⟩, by rw [HBE.out]; exact hB.out⟩
end Go.Proofs.YthhnngmfbbljaaaGreat
