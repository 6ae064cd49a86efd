/-
  What hasselaw.latticeIs answers; hasselaw.ConceptLattices returns true for every context. No condition but that a slice reads as a slice of numbers.
-/
import Derived.Test.YtpmgengddnafeaaRefCL
import Derived.Test.YtpmgengddnafeaaConB
import Derived.Test.YtpmgengddnafeaaSameL
namespace Go.Proofs.Ytpmgengddnafeaa
open Go.RowKit

set_option maxHeartbeats 2000000 in
theorem latticeIs_ok (n : Int) (a b a' b' : Option Addr) (la lb ca cb ca' cb' : Nat) (w : World) (hla : la ≤ maxLen) (hlb : lb ≤ maxLen) (h1 : EqT w a a' la) (h2 : EqT w b b' lb) :
    Calls Try.prog 23 #[.agg #[.int .i64 n, .slice a la ca, .slice b lb cb], .int .i64 0, .int .i64 0, .agg #[.int .i64 n, .slice a' la ca', .slice b' lb cb']] w fun e w' => e = .returned (.bool true) ∧ Below w.heap.size w w' := by
  obtain ⟨W, HW⟩ : ∃ W, Hid (W = (w.alloc (.cells #[.int .i64 n, .slice a la ca, .slice b lb cb] 42)).alloc (.cells #[.int .i64 n, .slice a' la ca', .slice b' lb cb'] 42)) := ⟨_, rfl⟩
  have B1 : Below w.heap.size w (w.alloc (.cells #[.int .i64 n, .slice a la ca, .slice b lb cb] 42)) := (Below.refl _ _).alloc (Nat.le_refl _) _
  have B2 : Below w.heap.size w W := by rw [HW.out]; exact B1.alloc (by simp) _
  have HE1 : Hid (EqT W a a' la) := h1.step B2
  have HE2 : Hid (EqT W b b' lb) := h2.step B2
  have HB : Hid (Below w.heap.size w W) := B2
  have L0 := (LB.new w n a la ca b lb cb).step ((Below.refl (w.alloc (.cells #[.int .i64 n, .slice a la ca, .slice b lb cb] 42)).heap.size (w.alloc (.cells #[.int .i64 n, .slice a la ca, .slice b lb cb] 42))).alloc (Nat.le_refl _) (.cells #[.int .i64 n, .slice a' la ca', .slice b' lb cb'] 42))
  have L1 := LB.new (w.alloc (.cells #[.int .i64 n, .slice a la ca, .slice b lb cb] 42)) n a' la ca' b' lb cb'
  rw [World.size_alloc] at L1
  have k0 := L0.1
  have k1 := L0.2.1
  have k2 := L0.2.2
  have m0 := L1.1
  have m1 := L1.2.1
  have m2 := L1.2.2
  clear h1 h2 B1 B2 L0 L1
  go_enter Try.func23, Try.ntmps23
  go_wp2_with fail
  rw [← HW.out]
  clear HW k0 k1 k2 m0 m1 m2
  refine (sameLattice_true n a b a' b' la lb ca cb ca' cb' _ hla hlb HE1.out HE2.out).mono ?_
  rintro e w2 ⟨rfl, hb2⟩
  have HB2 : Hid (Below w.heap.size w w2) := Below.then HB.out hb2
  clear hb2
  go_wp2_with fail
  go_ret
  exact ⟨rfl, HB2.out⟩
set_option maxHeartbeats 2000000 in
theorem latticeIs_err (c : Int) (n' : Int) (a' b' : Option Addr) (la lb ca' cb' : Nat) (w : World) (h0 : c ≠ 0) :
    Calls Try.prog 23 #[noLat, .int .i64 c, .int .i64 c, .agg #[.int .i64 n', .slice a' la ca', .slice b' lb cb']] w fun e w' => e = .returned (.bool true) ∧ Below w.heap.size w w' := by
  have hne : (c != 0) = true := by simpa using h0
  have hcc : (c == c) = true := beq_self_eq_true _
  have L0 := (LB.new w 0 none 0 0 none 0 0).step ((Below.refl (w.alloc (.cells #[.int .i64 0, .slice none 0 0, .slice none 0 0] 42)).heap.size (w.alloc (.cells #[.int .i64 0, .slice none 0 0, .slice none 0 0] 42))).alloc (Nat.le_refl _) (.cells #[.int .i64 n', .slice a' la ca', .slice b' lb cb'] 42))
  have k0 := L0.1
  have k1 := L0.2.1
  have k2 := L0.2.2
  have HB : Hid (∀ o1 o2 : Obj, Below w.heap.size w ((w.alloc o1).alloc o2)) := fun o1 o2 => ((Below.refl _ _).alloc (Nat.le_refl _) _).alloc (by simp) _
  clear L0
  unfold noLat
  go_enter Try.func23, Try.ntmps23
  go_wp2_with fail
  refine (sameLattice_true 0 none none none none 0 0 0 0 0 0 _ (by unfold maxLen; omega) (by unfold maxLen; omega) (EqT.nil _) (EqT.nil _)).mono ?_
  rintro e w2 ⟨rfl, hb2⟩
  have HB2 : Hid (Below w.heap.size w w2) := Below.then (by first | exact HB.out _ _ | exact set3B (HB.out _ _) (by simp)) hb2
  clear hb2 HB
  go_wp2_with fail
  go_ret
  exact ⟨rfl, HB2.out⟩

/-- What concept.Lattice hands back, as the law asks it: an errno with nothing; or the tables. -/
def CnV (L R : Int) (len r : Nat) (f : Nat → Int) (c vk : Int) (va : Option Addr) (vl : Nat) (vb : Option Addr) (vl2 : Nat) (w : World) : Prop :=
  ((c ≠ 0 ∧ GChk L R len f c ∨ c = 2 ∧ (GChk L R len f 0 ∧ R = (r : Int)) ∧ 40 < (tsets (nat f) len r).length) ∧ vk = 0 ∧ va = none ∧ vl = 0 ∧ vb = none ∧ vl2 = 0) ∨
  ((c = 0 ∧ (GChk L R len f 0 ∧ R = (r : Int)) ∧ (tsets (nat f) len r).length ≤ 40) ∧ ∃ T1 T2 R1 R2, (vk = ((tsets (nat f) len r).length : Int) ∧ va = some ⟨T1, 0, none⟩ ∧ vl = (tsets (nat f) len r).length ∧ vb = some ⟨T2, 0, none⟩ ∧ vl2 = (tsets (nat f) len r).length) ∧ Tb w T1 0 (tsets (nat f) len r).length R1 (cnm (nat f) len r) ∧ Tb w T2 0 (tsets (nat f) len r).length R2 (cnj (nat f) len r))
theorem CLat.form {L R : Int} {len : Nat} {f : Nat → Int} {B : Nat} {e : Ending} {w : World} (h : CLat L R len f B e w) : ∃ r c vk va vl vc vb vl2 vc2, e = .returned (.tuple #[.agg #[.int .i64 vk, .slice va vl vc, .slice vb vl2 vc2], .int .i64 c]) ∧ CnV L R len r f c vk va vl vb vl2 w ∧ (c ≠ 0 → vc = 0 ∧ vc2 = 0) := by
  rcases h with ⟨c, h0, hc, rfl⟩ | ⟨r, hc, _, hR, _, _, _, ⟨hq, rfl⟩ | ⟨hq, T1, T2, R1, R2, rfl, ht1, ht2, _, _⟩⟩
  · exact ⟨0, c, 0, none, 0, 0, none, 0, 0, rfl, .inl ⟨.inl ⟨h0, hc⟩, rfl, rfl, rfl, rfl, rfl⟩, fun _ => ⟨rfl, rfl⟩⟩
  · exact ⟨r, 2, 0, none, 0, 0, none, 0, 0, rfl, .inl ⟨.inr ⟨rfl, ⟨hc, hR⟩, hq⟩, rfl, rfl, rfl, rfl, rfl⟩, fun _ => ⟨rfl, rfl⟩⟩
  · exact ⟨r, 0, _, _, _, _, _, _, _, rfl, .inr ⟨⟨rfl, ⟨hc, hR⟩, hq⟩, T1, T2, R1, R2, ⟨rfl, rfl, rfl, rfl, rfl⟩, ht1, ht2⟩, fun h => absurd rfl h⟩
theorem Tb.set3 {w : World} {b off n X : Nat} {R : Nat → Nat × Nat × Nat} {m : Nat → Nat → Nat} (h : Tb w b off n R m) (u v y : Value) (h1 : X ≠ b) (h2 : ∀ x, x < n → X ≠ (R x).1) : Tb (((w.setCell ⟨X, 0, none⟩ u).setCell ⟨X, 1, none⟩ v).setCell ⟨X, 2, none⟩ y) b off n R m :=
  ((h.set (p := ⟨X, 0, none⟩) u h1 h2).set (p := ⟨X, 1, none⟩) v h1 h2).set (p := ⟨X, 2, none⟩) y h1 h2
theorem Tb.low {w : World} {b off n : Nat} {R : Nat → Nat × Nat × Nat} {m : Nat → Nat → Nat} (h : Tb w b off n R m) (hn : 1 ≤ n) : b < w.heap.size ∧ ∀ x, x < n → (R x).1 < w.heap.size :=
  ⟨World.block_lt_of_cell? _ _ (h 0 (by omega)).1, fun x hx => World.block_lt_of_cell? _ _ ((h x hx).2 0 (by omega))⟩
theorem LB.other {w : World} {B X : Nat} {n : Int} {a : Option Addr} {la ca : Nat} {b : Option Addr} {lb cb : Nat} (h : LB w B n a la ca b lb cb) (u v y : Value) (hne : X ≠ B) : LB (((w.setCell ⟨X, 0, none⟩ u).setCell ⟨X, 1, none⟩ v).setCell ⟨X, 2, none⟩ y) B n a la ca b lb cb := by
  have e : ∀ k, (((w.setCell ⟨X, 0, none⟩ u).setCell ⟨X, 1, none⟩ v).setCell ⟨X, 2, none⟩ y).cell? ⟨B, k, none⟩ = w.cell? ⟨B, k, none⟩ := fun k => by
    rw [World.cell?_setCell_other _ _ _ _ (fun q => hne (by injection q)), World.cell?_setCell_other _ _ _ _ (fun q => hne (by injection q)), World.cell?_setCell_other _ _ _ _ (fun q => hne (by injection q))]
  exact ⟨(e 0).trans h.1, (e 1).trans h.2.1, (e 2).trans h.2.2⟩
theorem ZL.set3 {w : World} {B : Nat} (h : ZL w B) (n : Int) (a : Option Addr) (la ca : Nat) (b : Option Addr) (lb cb : Nat) : LB (((w.setCell ⟨B, 0, none⟩ (.int .i64 n)).setCell ⟨B, 1, none⟩ (.slice a la ca)).setCell ⟨B, 2, none⟩ (.slice b lb cb)) B n a la ca b lb cb := by
  have ne : ∀ {i k : Nat}, i ≠ k → (⟨B, i, none⟩ : Addr) ≠ ⟨B, k, none⟩ := fun h e => h (by injection e)
  obtain ⟨⟨h0, h1, h2⟩, _⟩ := h
  refine ⟨?_, ?_, ?_⟩
  · rw [World.cell?_setCell_other _ _ _ _ (ne (by decide)), World.cell?_setCell_other _ _ _ _ (ne (by decide))]; exact World.cell?_setCell_same _ _ _ h0
  · rw [World.cell?_setCell_other _ _ _ _ (ne (by decide))]
    exact World.cell?_setCell_same _ _ _ (show _ = some (Value.slice none 0 0) from by rw [World.cell?_setCell_other _ _ _ _ (ne (by decide))]; exact h1)
  · exact World.cell?_setCell_same _ _ _ (show _ = some (Value.slice none 0 0) from by rw [World.cell?_setCell_other _ _ _ _ (ne (by decide)), World.cell?_setCell_other _ _ _ _ (ne (by decide))]; exact h2)
theorem ZL.toLB {w : World} {B : Nat} (h : ZL w B) : LB w B 0 none 0 0 none 0 0 := ⟨h.1.1, h.1.2.1, h.1.2.2⟩

set_option maxHeartbeats 4000000 in
theorem conceptLattices_any (L R : Int) (a : Option Addr) (len cap : Nat) (f : Nat → Int) (w : World) (hl : len ≤ maxLen) (hr : Row w a len f) :
    Calls Try.prog 6 #[.agg #[.int .i64 L, .int .i64 R, .slice a len cap]] w fun e w' => e = .returned (.bool true) ∧ Below w.heap.size w w' := by
  have K0 : GHeld (w.alloc (.cells #[.int .i64 L, .int .i64 R, .slice a len cap] 24)) w.heap.size L R a len cap f := GHeld.box hr
  have HB0 : Hid (Below w.heap.size w (w.alloc (.cells #[.int .i64 L, .int .i64 R, .slice a len cap] 24))) := (Below.refl _ _).alloc (Nat.le_refl _) _
  clear hr
  go_enter Try.func6, Try.ntmps6
  go_wp2_with fail
  refine (cLattice_any L R a len cap f _ hl K0.row).mono ?_
  rintro e w1 ⟨hI, hb1⟩
  obtain ⟨r, c, vk, va, vl, vc, vb, vl2, vc2, rfl, hV, hz⟩ := hI.form
  obtain ⟨w2, HW2⟩ : ∃ w2, Hid (w2 = w1.alloc (.cells #[.int .i64 vk, .slice va vl vc, .slice vb vl2 vc2] 42)) := ⟨_, rfl⟩
  have hb2 : Below w1.heap.size w1 w2 := by rw [HW2.out]; exact (Below.refl _ _).alloc (Nat.le_refl _) _
  have X2 : LB w2 w1.heap.size vk va vl vc vb vl2 vc2 := by rw [HW2.out]; exact LB.new _ _ _ _ _ _ _ _
  have K2 := (K0.step hb1).step hb2
  have HB2 : Hid (Below w.heap.size w w2) := Below.then (Below.then HB0.out hb1) hb2
  have H12 : Hid (Below w1.heap.size w1 w2) := hb2
  have K2e := K2
  rw [HW2.out] at K2e
  have k0 := K2e.c0
  have k1 := K2e.c1
  have k2 := K2e.c2
  clear hb1 hb2 K0 HB0 hI
  go_wp2_with fail
  rw [← HW2.out]
  clear HW2 K2e k0 k1 k2
  refine (checkContext_any L R a len cap f _ hl K2.row).mono ?_
  rintro e w3 ⟨⟨c3, rfl, hc3⟩, hb3⟩
  obtain ⟨w4, HW4⟩ : ∃ w4, Hid (w4 = w3.alloc (.cells #[.int .i64 0, .slice none 0 0, .slice none 0 0] 42)) := ⟨_, rfl⟩
  have hb4 : Below w3.heap.size w3 w4 := by rw [HW4.out]; exact (Below.refl _ _).alloc (Nat.le_refl _) _
  have hb34 := Below.then hb3 hb4
  have HZ4 : Hid (ZL w4 w3.heap.size) := by rw [Hid, HW4.out]; exact ZL.new _
  have HX4 : Hid (LB w4 w1.heap.size vk va vl vc vb vl2 vc2) := X2.step hb34
  have K4 := K2.step hb34
  have HB4 : Hid (Below w.heap.size w w4) := Below.then HB2.out hb34
  have H14 : Hid (Below w1.heap.size w1 w4) := Below.then H12.out hb34
  have HLT : Hid (w1.heap.size < w3.heap.size) := by
    have h1 : w1.heap.size < w2.heap.size := World.block_lt_of_cell? _ _ X2.1
    have h2 := hb3.size
    rw [Hid]; omega
  have HLW : Hid (w.heap.size ≤ w3.heap.size) := by
    have h1 := HB2.out.size
    have h2 := hb3.size
    rw [Hid]; omega
  have K4e := K4
  rw [HW4.out] at K4e
  have m0 := K4e.c0
  have m1 := K4e.c1
  have m2 := K4e.c2
  have HK4 : Hid (GHeld w4 w.heap.size L R a len cap f) := K4
  clear hb3 hb4 hb34 K2 X2 HB2 H12 K4
  rcases hV with ⟨⟨h0, hc⟩ | ⟨rfl, ⟨hc, hRr⟩, hq⟩, rfl, rfl, rfl, rfl, rfl⟩ | ⟨⟨rfl, ⟨hc, hRr⟩, hq⟩, T1, T2, R1, R2, ⟨rfl, rfl, rfl, rfl, rfl⟩, ht1, ht2⟩
  · obtain rfl := hc3.unique hc
    obtain ⟨rfl, rfl⟩ := hz h0
    have hne2 : (c3 == 0) = false := by simpa using h0
    clear hc hc3 hz
    go_wp2_with fail
    rw [← HW4.out]
    clear HW4 K4e m0 m1 m2
    refine (conceptBegun_any _).mono ?_
    rintro e w5 ⟨rfl, hb5⟩
    have X5 := HX4.out.step hb5
    have Y5 := (HZ4.out.step hb5).toLB
    have x0 := X5.1
    have x1 := X5.2.1
    have x2 := X5.2.2
    have y0 := Y5.1
    have y1 := Y5.2.1
    have y2 := Y5.2.2
    have HB5 : Hid (Below w.heap.size w w5) := Below.then HB4.out hb5
    clear hb5 X5 Y5
    go_wp2_with fail
    refine (latticeIs_err c3 0 none none 0 0 0 0 _ h0).mono ?_
    rintro e w6 ⟨rfl, hb6⟩
    have HB6 : Hid (Below w.heap.size w w6) := Below.then HB5.out hb6
    clear hb6 HB5 x0 x1 x2 y0 y1 y2
    go_wp2_with fail
    go_ret
    exact ⟨rfl, HB6.out⟩
  · obtain rfl := hc3.unique hc
    obtain ⟨rfl, rfl⟩ := hz (by decide)
    obtain ⟨r', rfl, hR', h10, r10', hrng⟩ := hc.good
    subst hRr
    obtain rfl : r' = r := by omega
    have HG : Hid (∀ k, k < len → nat f k < 1024) := hrng.small2 r10'
    have HR4 : Hid (Row w4 a len (fun k => ((nat f k : Nat) : Int))) := hrng.row HK4.out.row
    obtain ⟨q, HQ⟩ : ∃ q, Hid (q = (tsets (nat f) len r').length) := ⟨_, rfl⟩
    rw [← HQ.out] at hq
    have hq1 : ¬ ((q : Int) ≤ 40) := by omega
    clear hc hc3 hz hrng
    go_wp2_with fail
    rw [← HW4.out]
    clear HW4 K4e m0 m1 m2
    refine (conceptsOf_any a len r' cap (nat f) _ h10 r10' HG.out HR4.out).mono ?_
    rintro e w5 ⟨⟨v5, rfl, va5, vc5, rfl, _⟩, hb5⟩
    rw [cons_length, ← HQ.out]
    have HX5 : Hid (LB w5 w1.heap.size 0 none 0 0 none 0 0) := HX4.out.step hb5
    have HZ5 : Hid (ZL w5 w3.heap.size) := HZ4.out.step hb5
    have HB5 : Hid (Below w.heap.size w w5) := Below.then HB4.out hb5
    clear hb5
    go_wp2_with fail
    refine (conceptBegun_any _).mono ?_
    rintro e w6 ⟨rfl, hb6⟩
    have X5 := HX5.out.step hb6
    have Y5 := (HZ5.out.step hb6).toLB
    have x0 := X5.1
    have x1 := X5.2.1
    have x2 := X5.2.2
    have y0 := Y5.1
    have y1 := Y5.2.1
    have y2 := Y5.2.2
    have HB6 : Hid (Below w.heap.size w w6) := Below.then HB5.out hb6
    clear hb6 X5 Y5 HB5
    go_wp2_with fail
    refine (latticeIs_err 2 0 none none 0 0 0 0 _ (by decide)).mono ?_
    rintro e w7 ⟨rfl, hb7⟩
    have HB7 : Hid (Below w.heap.size w w7) := Below.then HB6.out hb7
    clear hb7 HB6 x0 x1 x2 y0 y1 y2
    go_wp2_with fail
    go_ret
    exact ⟨rfl, HB7.out⟩
  · obtain rfl := hc3.unique hc
    obtain ⟨r', rfl, hR', h10, r10', hrng⟩ := hc.good
    subst hRr
    obtain rfl : r' = r := by omega
    have hg := hrng.small2 r10'
    have hpw := pw_le len h10
    have HG : Hid (∀ k, k < len → nat f k < 1024) := hg
    have HR4 : Hid (Row w4 a len (fun k => ((nat f k : Nat) : Int))) := hrng.row HK4.out.row
    have HSS : Hid (∀ k, k < (tsets (nat f) len r').length → nth (tsets (nat f) len r') k < 1024) := fun k hk => tsets_1024 h10 hk
    have HALL : Hid (∀ x y, x < (tsets (nat f) len r').length → y < (tsets (nat f) len r').length → 0 ≤ mZ (insB (tsets (nat f) len r')) (tsets (nat f) len r').length x y ∧ 0 ≤ jZ (insB (tsets (nat f) len r')) (tsets (nat f) len r').length x y) := fun x y hx hy => by
      rw [cnm_great h10 r10' hg hx hy, cnj_least h10 r10' hg hx hy]; exact ⟨Int.natCast_nonneg _, Int.natCast_nonneg _⟩
    have HEM : Hid (∀ x y, x < (tsets (nat f) len r').length → y < (tsets (nat f) len r').length → cnm (nat f) len r' x y = mT (insB (tsets (nat f) len r')) (tsets (nat f) len r').length x y) := fun x y hx hy => by
      unfold mT; rw [cnm_great h10 r10' hg hx hy]; rfl
    have HEJ : Hid (∀ x y, x < (tsets (nat f) len r').length → y < (tsets (nat f) len r').length → cnj (nat f) len r' x y = jT (insB (tsets (nat f) len r')) (tsets (nat f) len r').length x y) := fun x y hx hy => by
      unfold jT; rw [cnj_least h10 r10' hg hx hy]; rfl
    have HPOS : Hid (1 ≤ (tsets (nat f) len r').length) := tsets_pos h10 r10' hg
    obtain ⟨l, HLE⟩ : ∃ l, Hid (l = tsets (nat f) len r') := ⟨_, rfl⟩
    rw [← HLE.out] at hq ht1 ht2 HSS HALL HEM HEJ HPOS HX4
    obtain ⟨q, HQ⟩ : ∃ q, Hid (q = l.length) := ⟨_, rfl⟩
    rw [← HQ.out] at hq ht1 ht2 HX4
    have hq1 : (q : Int) ≤ 40 := by omega
    have HT1 : Hid (Tb w1 T1 0 q R1 (cnm (nat f) len r')) := ht1
    have HT2 : Hid (Tb w1 T2 0 q R2 (cnj (nat f) len r')) := ht2
    clear hc hc3 hz hrng hg ht1 ht2 hpw
    go_wp2_with fail
    rw [← HW4.out]
    clear HW4 K4e m0 m1 m2
    refine (conceptsOf_any a len r' cap (nat f) _ h10 r10' HG.out HR4.out).mono ?_
    rintro e w5 ⟨⟨v5, rfl, va5, vc5, rfl, _⟩, hb5⟩
    rw [cons_length, ← HLE.out, ← HQ.out]
    have HX5 : Hid (LB w5 w1.heap.size (q : Int) (some ⟨T1, 0, none⟩) q vc (some ⟨T2, 0, none⟩) q vc2) := HX4.out.step hb5
    have HZ5 : Hid (ZL w5 w3.heap.size) := HZ4.out.step hb5
    have HB5 : Hid (Below w.heap.size w w5) := Below.then HB4.out hb5
    have H15 : Hid (Below w1.heap.size w1 w5) := Below.then H14.out hb5
    have HK5 : Hid (GHeld w5 w.heap.size len r' a len cap f) := HK4.out.step hb5
    have HR5 : Hid (Row w5 a len (fun k => ((nat f k : Nat) : Int))) := HR4.out.below hb5
    have p0 := HK5.out.c0
    have p1 := HK5.out.c1
    have p2 := HK5.out.c2
    clear hb5 HX4 HZ4 HB4 H14 HK4 HR4
    go_wp2_with fail
    refine (cLatticeR_any a len r' cap (nat f) _ h10 r10' HG.out HR5.out l HLE.out HPOS.out (by rw [← HQ.out]; exact hq) HSS.out HALL.out).mono ?_
    rintro e w6 ⟨⟨U1, d1, U2, d2, Q1, Q2, rfl, hu1, hu2, hU, hQ⟩, hb6⟩
    rw [← HQ.out] at hu1 hu2 hQ ⊢
    have X6 := HX5.out.step hb6
    have hZ6 := HZ5.out.step hb6
    have hlt := HLT.out
    have hbl : w3.heap.size < w5.heap.size := World.block_lt_of_cell? _ _ HZ5.out.1.1
    obtain ⟨w7, HW7⟩ : ∃ w7, Hid (w7 = ((w6.setCell ⟨w3.heap.size, 0, none⟩ (.int .i64 (q : Int))).setCell ⟨w3.heap.size, 1, none⟩ (.slice (some ⟨U1, 0, none⟩) q d1)).setCell ⟨w3.heap.size, 2, none⟩ (.slice (some ⟨U2, 0, none⟩) q d2)) := ⟨_, rfl⟩
    have hq1' : 1 ≤ q := by rw [HQ.out]; exact HPOS.out
    obtain ⟨g1, g2⟩ := HT1.out.low hq1'
    obtain ⟨g3, g4⟩ := HT2.out.low hq1'
    have H16 := Below.then H15.out hb6
    have HX7 : Hid (LB w7 w1.heap.size (q : Int) (some ⟨T1, 0, none⟩) q vc (some ⟨T2, 0, none⟩) q vc2) := by rw [Hid, HW7.out]; exact X6.other _ _ _ (by omega)
    have HY7 : Hid (LB w7 w3.heap.size (q : Int) (some ⟨U1, 0, none⟩) q d1 (some ⟨U2, 0, none⟩) q d2) := by rw [Hid, HW7.out]; exact hZ6.set3 _ _ _ _ _ _ _
    have HB7 : Hid (Below w.heap.size w w7) := by rw [Hid, HW7.out]; exact set3B (Below.then HB5.out hb6) HLW.out
    have HT17 : Hid (Tb w7 T1 0 q R1 (cnm (nat f) len r')) := by rw [Hid, HW7.out]; exact (HT1.out.step H16).set3 _ _ _ (by omega) (fun x hx => by have := g2 x hx; omega)
    have HT27 : Hid (Tb w7 T2 0 q R2 (cnj (nat f) len r')) := by rw [Hid, HW7.out]; exact (HT2.out.step H16).set3 _ _ _ (by omega) (fun x hx => by have := g4 x hx; omega)
    have HU17 : Hid (Tb w7 U1 0 q Q1 (mT (insB l) q)) := by rw [Hid, HW7.out]; exact hu1.set3 _ _ _ (by omega) (fun x hx => by have := (hQ x hx).1; omega)
    have HU27 : Hid (Tb w7 U2 0 q Q2 (jT (insB l) q)) := by rw [Hid, HW7.out]; exact hu2.set3 _ _ _ (by omega) (fun x hx => by have := (hQ x hx).2; omega)
    rw [← HQ.out] at HEM HEJ
    obtain ⟨⟨z0, z1, z2⟩, z3, z4, z5⟩ := hZ6
    clear X6 hlt hbl g1 g2 g3 g4 H16 hb6 hu1 hu2 hU hQ HX5 HZ5 HB5 H15 HK5 HR5 p0 p1 p2 HT1 HT2
    go_wp2_with fail
    rw [← HW7.out]
    clear HW7 z0 z1 z2 z3 z4 z5
    refine (conceptBegun_any _).mono ?_
    rintro e w8 ⟨rfl, hb8⟩
    have X8 := HX7.out.step hb8
    have Y8 := HY7.out.step hb8
    have x0 := X8.1
    have x1 := X8.2.1
    have x2 := X8.2.2
    have y0 := Y8.1
    have y1 := Y8.2.1
    have y2 := Y8.2.2
    have HE1 : Hid (EqT w8 (some ⟨T1, 0, none⟩) (some ⟨U1, 0, none⟩) q) := EqT.of (HT17.out.step hb8) (HU17.out.step hb8) (by unfold maxLen; omega) HEM.out
    have HE2 : Hid (EqT w8 (some ⟨T2, 0, none⟩) (some ⟨U2, 0, none⟩) q) := EqT.of (HT27.out.step hb8) (HU27.out.step hb8) (by unfold maxLen; omega) HEJ.out
    have HB8 : Hid (Below w.heap.size w w8) := Below.then HB7.out hb8
    clear hb8 X8 Y8 HX7 HY7 HB7 HT17 HT27 HU17 HU27
    go_wp2_with fail
    refine (latticeIs_ok q (some ⟨T1, 0, none⟩) (some ⟨T2, 0, none⟩) (some ⟨U1, 0, none⟩) (some ⟨U2, 0, none⟩) q q vc vc2 d1 d2 _ (by unfold maxLen; omega) (by unfold maxLen; omega) HE1.out HE2.out).mono ?_
    rintro e w9 ⟨rfl, hb9⟩
    have HB9 : Hid (Below w.heap.size w w9) := Below.then HB8.out hb9
    clear hb9 HB8 x0 x1 x2 y0 y1 y2
    go_wp2_with fail
    go_ret
    exact ⟨rfl, HB9.out⟩
end Go.Proofs.Ytpmgengddnafeaa
