/-
  What the reference's QuotientOf answers: the tables of the classes. Conditions: tables of at most forty elements, classes that begin in their turn and go with the tables.
-/
import Derived.Test.YtappekjkcgmheaaQfR
import Derived.Test.YtappekjkcgmheaaByP
import Derived.Test.YtappekjkcgmheaaPlcP
import Derived.Test.YtappekjkcgmheaaTogM
namespace Go.Proofs.Ytappekjkcgmheaa
open Go.RowKit
set_option maxRecDepth 100000

theorem PlaceAt.one {f : Nat → Int} {m x : Nat} {r r' : Int} (h : PlaceAt f m x r) (h' : PlaceAt f m x r') : r = r' := by
  rcases h with ⟨j, hj, rfl, e, hn⟩ | ⟨rfl, hn⟩ <;> rcases h' with ⟨j', hj', rfl, e', hn'⟩ | ⟨rfl, hn'⟩
  · rcases Nat.lt_trichotomy j j' with h | h | h
    · exact absurd e (hn' j h)
    · rw [h]
    · exact absurd e' (hn j' h)
  · exact absurd e (hn' j hj)
  · exact absurd e' (hn j' hj')
  · rfl
theorem place_ex (f : Nat → Int) (x : Nat) : ∀ m, (∃ i, i < m ∧ f i = x) → ∃ j : Nat, j < m ∧ f j = x ∧ PlaceAt f m x j
  | 0, h => by obtain ⟨i, hi, _⟩ := h; omega
  | m + 1, h => by
    by_cases h' : ∃ i, i < m ∧ f i = x
    · obtain ⟨j, hj, e, hp⟩ := place_ex f x m h'
      refine ⟨j, by omega, e, ?_⟩
      rcases hp with ⟨j', hj', e', e2, hn⟩ | ⟨e', _⟩
      · exact .inl ⟨j', by omega, e', e2, hn⟩
      · omega
    · obtain ⟨i, hi, e⟩ := h
      have : i = m := by
        rcases Nat.lt_or_ge i m with hl | hl
        · exact absurd ⟨i, hl, e⟩ h'
        · omega
      subst this
      exact ⟨i, by omega, e, .inl ⟨i, by omega, rfl, e, fun k hk ek => h' ⟨k, hk, ek⟩⟩⟩
theorem bgI_num {f : Nat → Int} {q : Nat} (hq : 1 ≤ q) (h : RisC f q) : bgI f q = ((numK f q : Nat) : Int) := by
  obtain ⟨i, hi, e⟩ := mxI_is f (q - 1)
  have h2 := bgI_ge (f := f) (k := q) (i := i) (by omega)
  have h0 : 0 ≤ f i ∧ f i < bgI f i + 1 := by simpa [pnt] using h i (by omega)
  obtain ⟨k, hk, e'⟩ := bgI_hit (f := f) (k := q) (v := (bgI f q - 1).toNat) h (by omega)
  have h3 := mxI_ge (f := f) (k := q - 1) (i := k) (by omega)
  unfold numK
  rw [e]
  rw [e] at h3
  omega
theorem Tb.set {w : World} {b off n : Nat} {R : Nat → Nat × Nat × Nat} {m : Nat → Nat → Nat} (h : Tb w b off n R m) {p : Addr} (v : Value) (h1 : p.block ≠ b) (h2 : ∀ x, x < n → p.block ≠ (R x).1) : Tb (w.setCell p v) b off n R m := fun x hx =>
  ⟨by rw [World.cell?_setCell_other _ _ _ _ (fun e => h1 (by rw [e]))]; exact (h x hx).1, fun y hy => by rw [World.cell?_setCell_other _ _ _ _ (fun e => h2 x hx (by rw [e]))]; exact (h x hx).2 y hy⟩
theorem Tb.set3 {w : World} {b off n X : Nat} {R : Nat → Nat × Nat × Nat} {m : Nat → Nat → Nat} (h : Tb w b off n R m) (u v y : Value) (h1 : X ≠ b) (h2 : ∀ x, x < n → X ≠ (R x).1) : Tb (((w.setCell ⟨X, 0, none⟩ u).setCell ⟨X, 1, none⟩ v).setCell ⟨X, 2, none⟩ y) b off n R m :=
  ((h.set (p := ⟨X, 0, none⟩) u h1 h2).set (p := ⟨X, 1, none⟩) v h1 h2).set (p := ⟨X, 2, none⟩) y h1 h2
theorem tb_own {w : World} {T B H n b cp : Nat} {R : Nat → Nat × Nat} {m : Nat → Nat → Nat} (ho : w.ownsRow B 25 1 (.slice (some ⟨b, 0, none⟩) n cp) n (sv n R n)) (hd : Done T H n n R m w) : Tb w b 0 n (fun k => ((R k).1, 0, (R k).2)) m := fun x hx => by
  refine ⟨?_, fun y hy => ?_⟩
  · rw [Nat.zero_add, ho.cellAt x (by omega), sv_at _ _ _ _ hx]
  · rw [Nat.zero_add]; exact (hd x hx).2 y hy
theorem ZL.keep {X X' : World} {B C : Nat} (h : ZL X B) (hb : Below C X X') (hlt : B < C) : ZL X' B := by
  obtain ⟨⟨h1, h2, h3⟩, h4, h5, h6⟩ := h
  exact ⟨⟨(hb.cell (p := ⟨B, 0, none⟩) hlt).trans h1, (hb.cell (p := ⟨B, 1, none⟩) hlt).trans h2, (hb.cell (p := ⟨B, 2, none⟩) hlt).trans h3⟩, (hb.frozen (p := ⟨B, 0, none⟩) hlt).trans h4, (hb.frozen (p := ⟨B, 1, none⟩) hlt).trans h5, (hb.frozen (p := ⟨B, 2, none⟩) hlt).trans h6⟩
/-- The tables of classes by one element of each. -/
def byF (m : Nat → Nat → Nat) (c fs : Nat → Nat) (a b : Nat) : Nat := c (m (fs a) (fs b))
theorem byF_to {q K : Nat} {m : Nat → Nat → Nat} {c fs : Nat → Nat} (hg : Goes q m c) (hK : ∀ x, x < q → c x < K) (hf : ∀ a, a < K → fs a < q ∧ c (fs a) = a) : TabTo q m c (byF m c fs) q 0 := fun s t hs ht _ => by
  have h1 := hf _ (hK s hs)
  have h2 := hf _ (hK t ht)
  exact hg _ _ _ _ h1.1 hs h2.1 ht h1.2 h2.2

set_option maxHeartbeats 8000000 in
theorem quotientOf_any (q bA oA ca bB oB cb bp op cp : Nat) (R R' : Nat → Nat × Nat × Nat) (m j : Nat → Nat → Nat) (f : Nat → Int) (w : World) (h1 : 1 ≤ q) (h40 : q ≤ 40) (hm : Inn q m) (hj : Inn q j)
    (ht : Tb w bA oA q R m) (ho : Tb w bB oB q R' j) (hr : Row w (some ⟨bp, op, none⟩) q f) (hf : RisC f q) (hg : Goes q m (natF f)) (hg' : Goes q j (natF f)) :
    Calls Try.prog 25 #[.agg #[.int .i64 q, .slice (some ⟨bA, oA, none⟩) q ca, .slice (some ⟨bB, oB, none⟩) q cb], .slice (some ⟨bp, op, none⟩) q cp] w fun e w' => (∃ T1 c1 T2 c2 R1 R2 G1 G2, e = .returned (.agg #[.int .i64 (numK f q : Nat), .slice (some ⟨T1, 0, none⟩) (numK f q) c1, .slice (some ⟨T2, 0, none⟩) (numK f q) c2]) ∧ Tb w' T1 0 (numK f q) R1 G1 ∧ Tb w' T2 0 (numK f q) R2 G2 ∧ TabTo q m (natF f) G1 q 0 ∧ TabTo q j (natF f) G2 q 0 ∧ (w.heap.size ≤ T1 ∧ w.heap.size ≤ T2) ∧ ∀ k, k < numK f q → w.heap.size ≤ (R1 k).1 ∧ w.heap.size ≤ (R2 k).1) ∧ Below w.heap.size w w' := by
  obtain ⟨i0, hi, hz0, hz1, hz2⟩ := info_parts Try.info3
  have h0 : ∀ i, i < q → 0 ≤ f i := fun i hi => by
    have : 0 ≤ f i ∧ f i < bgI f i + 1 := by simpa [pnt] using hf i hi
    exact this.1
  have HBG : Hid (bgI f q = ((numK f q : Nat) : Int)) := bgI_num h1 hf
  have hKq : numK f q ≤ q := natF_le h1 hf
  have HLT : Hid (∀ i, i < q → natF f i < numK f q) := fun i hi => natF_lt hi h0
  have hK1 : 1 ≤ numK f q := by unfold numK; omega
  have hex : ∀ a, ∃ k : Nat, a < numK f q → (k < q ∧ natF f k = a ∧ PlaceAt f q a k) := fun a => by
    by_cases ha : a < numK f q
    · obtain ⟨i, hi, e⟩ := natF_hit h1 hf ha
      have e' : f i = (a : Int) := by have := h0 i hi; unfold natF at e; omega
      obtain ⟨k, hk, ek, hp⟩ := place_ex f a q ⟨i, hi, e'⟩
      exact ⟨k, fun _ => ⟨hk, by unfold natF; rw [ek]; simp, hp⟩⟩
    · exact ⟨0, fun h => absurd h ha⟩
  obtain ⟨fs, hfs⟩ := Classical.axiomOfChoice hex
  have HTT1 : Hid (TabTo q m (natF f) (byF m (natF f) fs) q 0) := byF_to hg HLT.out (fun a ha => ⟨(hfs a ha).1, (hfs a ha).2.1⟩)
  have HTT2 : Hid (TabTo q j (natF f) (byF j (natF f) fs) q 0) := byF_to hg' HLT.out (fun a ha => ⟨(hfs a ha).1, (hfs a ha).2.1⟩)
  have HFS : Hid (∀ a, a < numK f q → fs a < q ∧ PlaceAt f q a (fs a)) := fun a ha => ⟨(hfs a ha).1, (hfs a ha).2.2⟩
  have HRF : Hid (Row w (some ⟨bp, op, none⟩) q f) := hr
  have HRG : Hid (∀ k, k ≤ q → 0 ≤ bgI f k ∧ bgI f k ≤ k) := fun k hk => bgI_range (fun i hi => hf i (by omega))
  have HC : Hid (∀ wx, Below w.heap.size w wx → ∀ i, i < q → wx.cell? ⟨bp, op + i, none⟩ = some (.int .i64 (natF f i : Nat))) := fun wx hb i hi => by
    obtain ⟨b1, o1, e, hc⟩ := (hr.below hb) i hi
    cases e
    rw [hc, show ((natF f i : Nat) : Int) = f i from Int.toNat_of_nonneg (h0 i hi)]
  have HNF : Hid (∀ i, i < q → f i = ((natF f i : Nat) : Int)) := fun i hi => (Int.toNat_of_nonneg (h0 i hi)).symm
  have HT1 : Hid (Tb w bA oA q R m) := ht
  have HT2 : Hid (Tb w bB oB q R' j) := ho
  have HI1 : Hid (Inn q m) := hm
  have HI2 : Hid (Inn q j) := hj
  obtain ⟨W1, HW1⟩ : ∃ W1, Hid (W1 = (w.alloc (.cells #[.int .i64 q, .slice (some ⟨bA, oA, none⟩) q ca, .slice (some ⟨bB, oB, none⟩) q cb] 24)).alloc (.cells #[.int .i64 0, .slice none 0 0, .slice none 0 0] 24)) := ⟨_, rfl⟩
  have hs1 : W1.heap.size = w.heap.size + 2 := by rw [HW1.out]; simp
  have HB1 : Hid (Below w.heap.size w W1) := by rw [HW1.out]; exact ((Below.refl _ _).alloc (Nat.le_refl _) _).alloc (by simp) _
  have HL1 : Hid (LB W1 w.heap.size q (some ⟨bA, oA, none⟩) q ca (some ⟨bB, oB, none⟩) q cb) := by rw [HW1.out]; exact (LB.new w q (some ⟨bA, oA, none⟩) q ca (some ⟨bB, oB, none⟩) q cb).step ((Below.refl _ _).alloc (Nat.le_refl _) _)
  have HZ1 : Hid (ZL W1 (w.heap.size + 1)) := by
    rw [HW1.out]
    have := ZL.new (w.alloc (.cells #[.int .i64 q, .slice (some ⟨bA, oA, none⟩) q ca, .slice (some ⟨bB, oB, none⟩) q cb] 24))
    rw [World.size_alloc] at this; exact this
  clear hr ht ho hm hj hg hg' hf h0 hex hfs
  obtain ⟨c, HCE⟩ : ∃ c, Hid (natF f = c) := ⟨_, rfl⟩
  obtain ⟨K, HKE⟩ : ∃ K, Hid (numK f q = K) := ⟨_, rfl⟩
  rw [HCE.out, HKE.out]
  rw [HCE.out] at HC HNF HTT1 HTT2
  rw [HKE.out] at hKq HBG HFS hK1
  rw [HCE.out, HKE.out] at HLT
  go_enter Try.func25, Try.ntmps25
  go_wp2_with fail
  rw [← HW1.out]
  clear HW1
  go_loopw [6, 5] (fun i s wx => ∃ k : Nat, k ≤ q ∧ i = .int .i64 k ∧ s = .int .i64 (bgI f k) ∧ W1 = wx) (fun i _ _ => q - (intOf i).toNat)
  case atStart => exact ⟨0, Nat.zero_le _, rfl, rfl, rfl⟩
  case round =>
    obtain ⟨k, hk, rfl, rfl, rfl⟩ := hrel
    by_cases hkl : k < q
    · have hki : (k : Int) < (q : Int) := by omega
      have ck := HC.out _ HB1.out k hkl
      have hrg := HRG.out k hk
      have hck : c k < q := Nat.lt_of_lt_of_le (HLT.out k hkl) hKq
      by_cases hge : bgI f k ≤ ((c k : Nat) : Int)
      · have HE : Hid (bgI f (k + 1) = ((c k : Nat) : Int) + 1) := by
          have := HNF.out k hkl
          show bgI f (k + 1) = _
          rw [bgI, if_pos (by omega), this]
        generalize bgI f k = G at *
        generalize c k = C at *
        go_wp2_with fail
        go_roundw
        case rel => exact ⟨k + 1, by omega, by go_num, by rw [HE.out], by trivial⟩
        case measure => simp [intOf]; omega
      · have HE : Hid (bgI f (k + 1) = bgI f k) := by
          have := HNF.out k hkl
          show bgI f (k + 1) = _
          rw [bgI, if_neg (by omega)]
        go_wp2_with fail
        go_roundw
        case rel => exact ⟨k + 1, by omega, by go_num, by rw [HE.out], by trivial⟩
        case measure => simp [intOf]; omega
    · obtain rfl : k = q := by omega
      rw [HBG.out]
      clear hkl hk HBG HRG
      obtain ⟨B, HBE⟩ : ∃ B, Hid (B = w.heap.size + 2) := ⟨_, rfl⟩
      obtain ⟨W2, HW2⟩ : ∃ W2, Hid (W2 = W1.alloc (.cells #[.int .i64 (K : Int), .slice none 0 0, .slice none 0 0] 24)) := ⟨_, rfl⟩
      have hB1 : W1.heap.size = B := by rw [HBE.out]; exact hs1
      have HB1E : Hid (W1.heap.size = B) := hB1
      have hbo : Bo W2 W1.heap.size K (.slice none 0 0) (.slice none 0 0) := by
        rw [HW2.out]
        exact ⟨by simp, by simp, by simp, World.frozen?_alloc_at _ _ _ _ rfl, World.frozen?_alloc_at _ _ _ _ rfl⟩
      have hb12 : Below W1.heap.size W1 W2 := by rw [HW2.out]; exact (Below.refl _ _).alloc (Nat.le_refl _) _
      have hs2 : W2.heap.size = W1.heap.size + 1 := by rw [HW2.out]; simp
      have HL0 : Hid (Lof W1 B B W2.heap.size K 0 (fun _ => (0, 0)) (fun _ => (0, 0)) (byF m c fs) (byF j c fs) (.slice none 0 0) (.slice none 0 0) W2) :=
        ⟨by rw [← hB1]; exact hb12, Nat.le_refl _, by omega, Nat.le_refl _, by rw [← hB1]; exact hbo, World.ownsRow_nil _ _ _ _, World.ownsRow_nil _ _ _ _, .inl rfl, fun k hk => (by cases hk), fun k hk => (by cases hk), fun k hk => absurd hk (Nat.not_lt_zero _), fun k hk => absurd hk (Nat.not_lt_zero _), fun k hk => absurd hk (Nat.not_lt_zero _), fun k hk => absurd hk (Nat.not_lt_zero _)⟩
      have HBW : Hid (∀ wx, Below B W1 wx → Below w.heap.size w wx) := fun wx h => HB1.out.trans (h.mono (by rw [HBE.out]; omega))
      have HLL : Hid (∀ wx, Below B W1 wx → LB wx w.heap.size k (some ⟨bA, oA, none⟩) k ca (some ⟨bB, oB, none⟩) k cb) := fun wx h => LB.keep HL1.out h (by rw [HBE.out]; omega)
      have HZZ : Hid (∀ wx, Below B W1 wx → ZL wx (w.heap.size + 1)) := fun wx h => HZ1.out.keep h (by rw [HBE.out]; omega)
      clear hb12 hbo hs2 hB1 hs1 HB1 HL1 HZ1
      go_wp2_with fail
      rw [← HW2.out]
      rw [HB1E.out]
      clear HW2
      go_loopw [8] (fun i wx => ∃ x : Nat, x ≤ K ∧ i = .int .i64 x ∧ (∃ R1 R2 H vM vJ, Hid (Lof W1 B B H K x R1 R2 (byF m c fs) (byF j c fs) vM vJ wx))) (fun i _ => K - (intOf i).toNat)
      case atStart => exact ⟨0, Nat.zero_le _, rfl, ⟨_, _, _, _, _, HL0⟩⟩
      case round =>
        clear HL0
        obtain ⟨x, hx, rfl, ⟨R1, R2, H0, vM, vJ, HL⟩⟩ := hrel
        by_cases hxn : x < K
        · have hxi : (x : Int) < (K : Int) := by omega
          obtain ⟨H, HH⟩ : ∃ H, Hid (H = wr.heap.size) := ⟨_, rfl⟩
          have HLU : Hid (Lof W1 B B H K x R1 R2 (byF m c fs) (byF j c fs) vM vJ wr) := by rw [HH.out]; exact HL.out.up
          have HRW : Hid (Rw H (.slice none 0 0) (.slice none 0 0) 0 0 (byF m c fs x) (byF j c fs x) wr) := ⟨World.ownsRow_nil _ _ _ _, World.ownsRow_nil _ _ _ _, .inl rfl⟩
          clear HL HH
          go_wp2_with fail
          go_loopw [9, 10, 11] (fun v1 v2 i wx => ∃ y : Nat, y ≤ K ∧ i = .int .i64 y ∧ Hid (Lof W1 B B H K x R1 R2 (byF m c fs) (byF j c fs) vM vJ wx) ∧ Hid (Rw H v1 v2 y y (byF m c fs x) (byF j c fs x) wx)) (fun _ _ i _ => K - (intOf i).toNat)
          case atStart => exact ⟨0, Nat.zero_le _, rfl, HLU, HRW⟩
          case round =>
            clear HLU HRW
            obtain ⟨y, hy, rfl, HL, HR⟩ := hrel
            by_cases hyn : y < K
            · have hyi : (y : Int) < (K : Int) := by omega
              have HBX : Hid (Below w.heap.size w wr) := HBW.out _ HL.out.bel
              have HRX : Hid (Row wr (some ⟨bp, op, none⟩) k f) := HRF.out.below HBX.out
              obtain ⟨px, hpx⟩ := HFS.out x hxn
              obtain ⟨py, hpy⟩ := HFS.out y hyn
              have HPX : Hid (PlaceAt f k x (fs x)) := hpx
              have HPY : Hid (PlaceAt f k y (fs y)) := hpy
              clear hpx hpy
              go_wp2_with fail
              refine (placeR_any (some ⟨bp, op, none⟩) k cp f x wr (by unfold maxLen; omega) HRX.out).mono ?_
              rintro e w3 ⟨⟨r, rfl, hp⟩, rfl⟩
              obtain rfl := hp.one HPX.out
              clear hp HPX
              go_wp2_with fail
              refine (placeR_any (some ⟨bp, op, none⟩) k cp f y wr (by unfold maxLen; omega) HRX.out).mono ?_
              rintro e w3 ⟨⟨r, rfl, hp⟩, rfl⟩
              obtain rfl := hp.one HPY.out
              clear hp HPY
              have hpxi : ((fs x : Nat) : Int) < (k : Int) := by omega
              have hpyi : ((fs y : Nat) : Int) < (k : Int) := by omega
              have hz1' := HI1.out _ _ px py
              have hz2' := HI2.out _ _ px py
              have hz1i : ((m (fs x) (fs y) : Nat) : Int) < (k : Int) := by omega
              have hz2i : ((j (fs x) (fs y) : Nat) : Int) < (k : Int) := by omega
              obtain ⟨l0, l1, l2⟩ := HLL.out _ HL.out.bel
              have T1 := HT1.out.step HBX.out
              have T2 := HT2.out.step HBX.out
              have r1 := (T1 _ px).1
              have e1 := (T1 _ px).2 _ py
              have c1 := HC.out _ HBX.out _ hz1'
              have HMV : Hid (byF m c fs x y = c (m (fs x) (fs y))) := rfl
              have HJV : Hid (byF j c fs x y = c (j (fs x) (fs y))) := rfl
              clear T1 T2
              have hR3 := HR.out
              have hown := hR3.r1
              have hsz := HL.out.hs
              go_wp2_with (at_builtin; refine wpList_append_own_at _ rfl _ _ 25 rfl H 3 i0 (.int .i64 0) 1 8 Try.underlying25 hi hz0 hz1 hz2 rfl (by decide) _ _ _ rfl (hown.alloc _) ⟨wr.heap.size, 0, none⟩ 1 1 [.int .i64 (c (m (fs x) (fs y)) : Nat)] rfl rfl ?c1 ?c2 ?c3 ?c4 ?c5 ?_)
              case c1 =>
                intro i u hj
                match i, hj with
                | 0, hj => simp at hj; subst hj; simp [Addr.add]
              case c2 => intro u hu; simp at hu; subst hu; rfl
              case c3 => unfold maxLen; omega
              case c4 => omega
              case c5 => simp; omega
              intro v3 w3 ho3 hg3 _ hk3
              have hR3a := hR3.step ((Below.refl wr.heap.size wr).alloc (Nat.le_refl _) (.cells #[.int .i64 (c (m (fs x) (fs y)) : Nat)] 3))
              have HL3a := HL.out.step ((Below.refl wr.heap.size wr).alloc (Nat.le_refl _) (.cells #[.int .i64 (c (m (fs x) (fs y)) : Nat)] 3))
              have hR4 := hR3a.grow1 (by rw [HMV.out]; exact ho3) hg3 (by rw [World.size_alloc]; exact hk3)
              have hb4 := (Below.refl H _).grown hg3 HL3a.hs (fun k hk => own_ge hR3a.r1 hk)
              have HL4 : Hid (Lof W1 B B H K x R1 R2 (byF m c fs) (byF j c fs) vM vJ w3) := HL3a.keep hb4
              have HR4 : Hid (Rw H v3 u10 (y + 1) y (byF m c fs x) (byF j c fs x) w3) := hR4
              clear ho3 hg3 hk3 hR3a HL3a hb4 hR3 hR4 hown hsz HL HR HBX HRX l0 l1 l2 r1 e1 c1
              have HBX : Hid (Below w.heap.size w w3) := HBW.out _ HL4.out.bel
              obtain ⟨l0, l1, l2⟩ := HLL.out _ HL4.out.bel
              have T2 := HT2.out.step HBX.out
              have r2 := (T2 _ px).1
              have e2 := (T2 _ px).2 _ py
              have c2 := HC.out _ HBX.out _ hz2'
              clear T2
              have hown4 := HR4.out.r2
              have hsz4 := HL4.out.hs
              go_wp2_with (at_builtin; refine wpList_append_own_at _ rfl _ _ 25 rfl H 3 i0 (.int .i64 0) 1 8 Try.underlying25 hi hz0 hz1 hz2 rfl (by decide) _ _ _ rfl (hown4.alloc _) ⟨w3.heap.size, 0, none⟩ 1 1 [.int .i64 (c (j (fs x) (fs y)) : Nat)] rfl rfl ?c1 ?c2 ?c3 ?c4 ?c5 ?_)
              case c1 =>
                intro i u hj
                match i, hj with
                | 0, hj => simp at hj; subst hj; simp [Addr.add]
              case c2 => intro u hu; simp at hu; subst hu; rfl
              case c3 => unfold maxLen; omega
              case c4 => omega
              case c5 => simp; omega
              intro v5 w5 ho5 hg5 _ hk5
              have hR5a := HR4.out.step ((Below.refl w3.heap.size w3).alloc (Nat.le_refl _) (.cells #[.int .i64 (c (j (fs x) (fs y)) : Nat)] 3))
              have HL5a := HL4.out.step ((Below.refl w3.heap.size w3).alloc (Nat.le_refl _) (.cells #[.int .i64 (c (j (fs x) (fs y)) : Nat)] 3))
              have HR6 : Hid (Rw H v3 v5 (y + 1) (y + 1) (byF m c fs x) (byF j c fs x) w5) := hR5a.grow2 (by rw [HJV.out]; exact ho5) hg5 (by rw [World.size_alloc]; exact hk5)
              have hb6 := (Below.refl H _).grown hg5 HL5a.hs (fun k hk => own_ge hR5a.r2 hk)
              have HL6 : Hid (Lof W1 B B H K x R1 R2 (byF m c fs) (byF j c fs) vM vJ w5) := HL5a.keep hb6
              clear ho5 hg5 hk5 hR5a HL5a hb6 HR4 HL4 hown4 hsz4 HBX l0 l1 l2 r2 e2 c2
              go_wp2_with fail
              go_roundw
              case rel => exact ⟨y + 1, by omega, by go_num, HL6, HR6⟩
              case measure => simp [intOf]; omega
            · obtain rfl : y = K := by omega
              obtain ⟨b1, c1, hv1⟩ := owns_form HR.out.r1 (by omega)
              obtain ⟨b2, c2, hv2⟩ := owns_form HR.out.r2 (by omega)
              subst hv1
              subst hv2
              go_wp2_with fail
              refine reg18 (by omega) HL HR (fun _ _ _ _ _ h => h) ?_
              intro vM' vJ' R1' R2' H' w6 hL6 z77 z78 z79 z80 z81 z82 z83 z84 z85 z86 z87 z88
              have HL6 : Hid (Lof W1 B B H' y (x + 1) R1' R2' (byF m c fs) (byF j c fs) vM' vJ' w6) := hL6
              clear hL6 HL HR
              go_wp2_with fail
              go_roundw
              case rel => exact ⟨x + 1, by omega, by go_num, ⟨_, _, _, _, _, HL6⟩⟩
              case measure => simp [intOf]; omega
        · obtain rfl : x = K := by omega
          obtain ⟨T1, cp1, hv1⟩ := owns_form HL.out.M (by omega)
          obtain ⟨T2, cp2, hv2⟩ := owns_form HL.out.J (by omega)
          subst hv1
          subst hv2
          obtain ⟨⟨c0, c1, c2⟩, f0, f1, f2⟩ := HZZ.out _ HL.out.bel
          have HBX : Hid (Below w.heap.size w wr) := HBW.out _ HL.out.bel
          have HTB1 : Hid (Tb wr T1 0 x (fun k => ((R1 k).1, 0, (R1 k).2)) (byF m c fs)) := tb_own HL.out.M HL.out.d1
          have HTB2 : Hid (Tb wr T2 0 x (fun k => ((R2 k).1, 0, (R2 k).2)) (byF j c fs)) := tb_own HL.out.J HL.out.d2
          have HQ : Hid (w.heap.size + 1 < T1 ∧ w.heap.size + 1 < T2) := by
            have q1 := own_ge HL.out.M (k := T1) rfl
            have q2 := own_ge HL.out.J (k := T2) rfl
            have q3 := HBE.out
            rw [Hid]; omega
          have HRR : Hid (∀ k, k < x → w.heap.size + 1 < (R1 k).1 ∧ w.heap.size + 1 < (R2 k).1) := fun k hk => by
            have q1 := (HL.out.d1 k hk).1.1
            have q2 := (HL.out.d2 k hk).1.1
            have q3 := HBE.out
            omega
          have p0 := HL.out.bo.c0
          have p1 := HL.out.bo.c1
          have p2 := HL.out.bo.c2
          clear HL
          go_wp2_with fail
          refine bodyPost_ret (v := .agg #[.int .i64 (x : Int), .slice (some ⟨T1, 0, none⟩) x cp1, .slice (some ⟨T2, 0, none⟩) x cp2]) ?_ rfl ⟨⟨T1, cp1, T2, cp2, (fun k => ((R1 k).1, 0, (R1 k).2)), (fun k => ((R2 k).1, 0, (R2 k).2)), byF m c fs, byF j c fs, rfl, ?_, ?_, HTT1.out, HTT2.out, ⟨by have := HQ.out; omega, by have := HQ.out; omega⟩, fun k hk => by have := HRR.out k hk; exact ⟨by simp; omega, by simp; omega⟩⟩, ?_⟩
          · simp [results, Try.results25, go_sem, c0, c1, c2]
          · exact HTB1.out.set3 _ _ _ (by have := HQ.out; omega) (fun k hk => by have := HRR.out k hk; simp; omega)
          · exact HTB2.out.set3 _ _ _ (by have := HQ.out; omega) (fun k hk => by have := HRR.out k hk; simp; omega)
          · exact set3B HBX.out (Nat.le_succ _)
end Go.Proofs.Ytappekjkcgmheaa
