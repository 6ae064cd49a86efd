/-
  What the reference's Tables answers; hasselaw.LatticeTables returns true for every order. Conditions: the library's table lies in its variable; a slice reads as a slice of numbers.
-/
import Derived.Test.YtjcinkippaknnaaDoorLofB
import Derived.Test.YtjcinkippaknnaaDoorLBegun
import Derived.Test.YtjcinkippaknnaaDoorSameL
namespace Go.Proofs.YtjcinkippaknnaaDoor
open Go.RowKit

set_option maxHeartbeats 2000000 in
theorem latticeIs_ok (n : Int) (a b a' b' : Option Addr) (la lb ca cb ca' cb' : Nat) (w : World) (hla : la ≤ maxLen) (hlb : lb ≤ maxLen) (h1 : EqT w a a' la) (h2 : EqT w b b' lb) :
    Calls Tryd.prog 15 #[.agg #[.int .i64 n, .slice a la ca, .slice b lb cb], .int .i64 0, .int .i64 0, .agg #[.int .i64 n, .slice a' la ca', .slice b' lb cb']] w fun e w' => e = .returned (.bool true) ∧ Below w.heap.size w w' := by
  obtain ⟨W, HW⟩ : ∃ W, Hid (W = (w.alloc (.cells #[.int .i64 n, .slice a la ca, .slice b lb cb] 24)).alloc (.cells #[.int .i64 n, .slice a' la ca', .slice b' lb cb'] 24)) := ⟨_, rfl⟩
  have B1 : Below w.heap.size w (w.alloc (.cells #[.int .i64 n, .slice a la ca, .slice b lb cb] 24)) := (Below.refl _ _).alloc (Nat.le_refl _) _
  have B2 : Below w.heap.size w W := by rw [HW.out]; exact B1.alloc (by simp) _
  have HE1 : Hid (EqT W a a' la) := h1.step B2
  have HE2 : Hid (EqT W b b' lb) := h2.step B2
  have HB : Hid (Below w.heap.size w W) := B2
  have L0 := (LB.new w n a la ca b lb cb).step ((Below.refl (w.alloc (.cells #[.int .i64 n, .slice a la ca, .slice b lb cb] 24)).heap.size (w.alloc (.cells #[.int .i64 n, .slice a la ca, .slice b lb cb] 24))).alloc (Nat.le_refl _) (.cells #[.int .i64 n, .slice a' la ca', .slice b' lb cb'] 24))
  have L1 := LB.new (w.alloc (.cells #[.int .i64 n, .slice a la ca, .slice b lb cb] 24)) n a' la ca' b' lb cb'
  rw [World.size_alloc] at L1
  have k0 := L0.1
  have k1 := L0.2.1
  have k2 := L0.2.2
  have m0 := L1.1
  have m1 := L1.2.1
  have m2 := L1.2.2
  clear h1 h2 B1 B2 L0 L1
  go_enter Tryd.func15, Tryd.ntmps15
  go_wp2_with fail
  rw [← HW.out]
  clear HW k0 k1 k2 m0 m1 m2
  refine (sameLattice_true n a b a' b' la lb ca cb ca' cb' _ hla hlb HE1.out HE2.out).mono ?_
  rintro e w2 ⟨rfl, hb2⟩
  have HB2 : Hid (Below w.heap.size w w2) := Below.then HB.out hb2
  clear hb2
  go_wp2_with fail
  go_ret
  exact ⟨rfl, HB2.out⟩
set_option maxHeartbeats 2000000 in
theorem latticeIs_err (c : Int) (n' : Int) (a' b' : Option Addr) (la lb ca' cb' : Nat) (w : World) (h0 : c ≠ 0) :
    Calls Tryd.prog 15 #[noLat, .int .i64 c, .int .i64 c, .agg #[.int .i64 n', .slice a' la ca', .slice b' lb cb']] w fun e w' => e = .returned (.bool true) ∧ Below w.heap.size w w' := by
  have hne : (c != 0) = true := by simpa using h0
  have hcc : (c == c) = true := beq_self_eq_true _
  have L0 := (LB.new w 0 none 0 0 none 0 0).step ((Below.refl (w.alloc (.cells #[.int .i64 0, .slice none 0 0, .slice none 0 0] 24)).heap.size (w.alloc (.cells #[.int .i64 0, .slice none 0 0, .slice none 0 0] 24))).alloc (Nat.le_refl _) (.cells #[.int .i64 n', .slice a' la ca', .slice b' lb cb'] 24))
  have k0 := L0.1
  have k1 := L0.2.1
  have k2 := L0.2.2
  have HB : Hid (∀ o1 o2 : Obj, Below w.heap.size w ((w.alloc o1).alloc o2)) := fun o1 o2 => ((Below.refl _ _).alloc (Nat.le_refl _) _).alloc (by simp) _
  clear L0
  unfold noLat
  go_enter Tryd.func15, Tryd.ntmps15
  go_wp2_with fail
  refine (sameLattice_true 0 none none none none 0 0 0 0 0 0 _ (by unfold maxLen; omega) (by unfold maxLen; omega) (EqT.nil _) (EqT.nil _)).mono ?_
  rintro e w2 ⟨rfl, hb2⟩
  have HB2 : Hid (Below w.heap.size w w2) := Below.then (by first | exact HB.out _ _ | exact set3B (HB.out _ _) (by simp)) hb2
  clear hb2 HB
  go_wp2_with fail
  go_ret
  exact ⟨rfl, HB2.out⟩

theorem Tb.set3 {w : World} {b off n X : Nat} {R : Nat → Nat × Nat × Nat} {m : Nat → Nat → Nat} (h : Tb w b off n R m) (u v y : Value) (h1 : X ≠ b) (h2 : ∀ x, x < n → X ≠ (R x).1) : Tb (((w.setCell ⟨X, 0, none⟩ u).setCell ⟨X, 1, none⟩ v).setCell ⟨X, 2, none⟩ y) b off n R m :=
  ((h.set (p := ⟨X, 0, none⟩) u h1 h2).set (p := ⟨X, 1, none⟩) v h1 h2).set (p := ⟨X, 2, none⟩) y h1 h2
theorem Tb.low {w : World} {b off n : Nat} {R : Nat → Nat × Nat × Nat} {m : Nat → Nat → Nat} (h : Tb w b off n R m) (hn : 1 ≤ n) : b < w.heap.size ∧ ∀ x, x < n → (R x).1 < w.heap.size :=
  ⟨World.block_lt_of_cell? _ _ (h 0 (by omega)).1, fun x hx => World.block_lt_of_cell? _ _ ((h x hx).2 0 (by omega))⟩
theorem LB.other {w : World} {B X : Nat} {n : Int} {a : Option Addr} {la ca : Nat} {b : Option Addr} {lb cb : Nat} (h : LB w B n a la ca b lb cb) (u v y : Value) (hne : X ≠ B) : LB (((w.setCell ⟨X, 0, none⟩ u).setCell ⟨X, 1, none⟩ v).setCell ⟨X, 2, none⟩ y) B n a la ca b lb cb := by
  have e : ∀ k, (((w.setCell ⟨X, 0, none⟩ u).setCell ⟨X, 1, none⟩ v).setCell ⟨X, 2, none⟩ y).cell? ⟨B, k, none⟩ = w.cell? ⟨B, k, none⟩ := fun k => by
    rw [World.cell?_setCell_other _ _ _ _ (fun q => hne (by injection q)), World.cell?_setCell_other _ _ _ _ (fun q => hne (by injection q)), World.cell?_setCell_other _ _ _ _ (fun q => hne (by injection q))]
  exact ⟨(e 0).trans h.1, (e 1).trans h.2.1, (e 2).trans h.2.2⟩
theorem ZL.set3 {w : World} {B : Nat} (h : ZL w B) (n : Int) (a : Option Addr) (la ca : Nat) (b : Option Addr) (lb cb : Nat) : LB (((w.setCell ⟨B, 0, none⟩ (.int .i64 n)).setCell ⟨B, 1, none⟩ (.slice a la ca)).setCell ⟨B, 2, none⟩ (.slice b lb cb)) B n a la ca b lb cb := by
  have ne : ∀ {i k : Nat}, i ≠ k → (⟨B, i, none⟩ : Addr) ≠ ⟨B, k, none⟩ := fun h e => h (by injection e)
  obtain ⟨⟨h0, h1, h2⟩, _⟩ := h
  refine ⟨?_, ?_, ?_⟩
  · rw [World.cell?_setCell_other _ _ _ _ (ne (by decide)), World.cell?_setCell_other _ _ _ _ (ne (by decide))]; exact World.cell?_setCell_same _ _ _ h0
  · rw [World.cell?_setCell_other _ _ _ _ (ne (by decide))]
    exact World.cell?_setCell_same _ _ _ (show _ = some (Value.slice none 0 0) from by rw [World.cell?_setCell_other _ _ _ _ (ne (by decide))]; exact h1)
  · exact World.cell?_setCell_same _ _ _ (show _ = some (Value.slice none 0 0) from by rw [World.cell?_setCell_other _ _ _ _ (ne (by decide)), World.cell?_setCell_other _ _ _ _ (ne (by decide))]; exact h2)
theorem ZL.toLB {w : World} {B : Nat} (h : ZL w B) : LB w B 0 none 0 0 none 0 0 := ⟨h.1.1, h.1.2.1, h.1.2.2⟩

section
variable {g : Nat → Nat} {n x y : Nat}
theorem mZ_mt (hn : n ≤ 10) (hg : Sm n n g) (ho : Ord n g) (hx : x < n) (h : ∃ p, Mt g x y p) : mZ (upB g) n x y = (mF g x y : Nat) := by
  have hm := mF_is h
  have hlt := Mt.lt hg hx hm
  refine lst_is _ _ hlt ((lo_mt hg hx).2 hm) (fun z hz hI => ?_)
  exact (mF_eq hn hg ho hx ((lo_mt hg hx).1 hI)).symm
theorem mZ_none (hg : Sm n n g) (hx : x < n) (h : ¬ ∃ p, Mt g x y p) : mZ (upB g) n x y = -1 := by
  refine lst_neg _ (fun z _ => ?_)
  cases e : loB (upB g) x y z n
  · rfl
  · exact absurd ⟨z, (lo_mt hg hx).1 e⟩ h
theorem jZ_mt (hn : n ≤ 10) (hg : Sm n n g) (ho : Ord n g) (hx : x < n) (h : ∃ p, Mt (trn g n) x y p) : jZ (upB g) n x y = (mF (trn g n) x y : Nat) := by
  have hm := mF_is h
  have hlt := Mt.lt (trn_sm g n) hx hm
  refine lst_is _ _ hlt ((hg_mt hx hlt).2 hm) (fun z hz hI => ?_)
  exact (mF_eq hn (trn_sm g n) (trn_ord hn hg ho) hx ((hg_mt hx hz).1 hI)).symm
theorem jZ_none (hx : x < n) (h : ¬ ∃ p, Mt (trn g n) x y p) : jZ (upB g) n x y = -1 := by
  refine lst_neg _ (fun z hz => ?_)
  cases e : hgB (upB g) x y z n
  · rfl
  · exact absurd ⟨z, (hg_mt hx hz).1 e⟩ h
end
/-- What the reference's Tables must answer. -/
def RtIs (len B : Nat) (g : Nat → Nat) (e : Ending) (w' : World) : Prop :=
  ∃ (x : Value) (ok : Bool), e = .returned (.tuple #[x, .bool ok]) ∧ ((ok = false ∧ x = noLat ∧ ¬ (1 ≤ len ∧ AllMt g len ∧ AllMt (trn g len) len)) ∨
    (ok = true ∧ (1 ≤ len ∧ AllMt g len ∧ AllMt (trn g len) len) ∧ ∃ b cb R b' cb' R', x = .agg #[.int .i64 (len : Nat), .slice (some ⟨b, 0, none⟩) len cb, .slice (some ⟨b', 0, none⟩) len cb'] ∧ Tb w' b 0 len R (mF g) ∧ Tb w' b' 0 len R' (mF (trn g len)) ∧ (B ≤ b ∧ B ≤ b') ∧ ∀ k, k < len → B ≤ (R k).1 ∧ B ≤ (R' k).1))
set_option maxHeartbeats 2000000 in
theorem latticeOf_zero (F : Nat) (caps : Array Value) (w : World) :
    Calls Tryd.prog 37 #[.int .i64 0, .func (.func F) #[] caps] w fun e w' => e = .returned (.tuple #[noLat, .bool false]) ∧ Below w.heap.size w w' := by
  have HB : Hid (∀ o1 o2 : Obj, Below w.heap.size w ((w.alloc o1).alloc o2)) := fun o1 o2 => ((Below.refl _ _).alloc (Nat.le_refl _) _).alloc (by simp) _
  go_enter Tryd.func37, Tryd.ntmps37
  go_wp2_with fail
  go_loopw [7] (fun i wx => i = .int .i64 0 ∧ Hid (wx = (w.alloc (.cells #[.int .i64 0, .slice none 0 0, .slice none 0 0] 24)).alloc (.cells #[.int .i64 0, .slice none 0 0, .slice none 0 0] 24))) (fun i _ => 0)
  case atStart => exact ⟨rfl, rfl⟩
  case round =>
    obtain ⟨rfl, HW⟩ := hrel
    have hww := HW.out.symm
    subst hww
    clear HW
    go_wp2_with fail
    refine bodyPost_ret (v := .tuple #[noLat, .bool false]) ?_ rfl ⟨rfl, ?_⟩
    · simp [results, Tryd.results37, go_sem, noLat]
    · first | exact HB.out _ _ | exact set3B (HB.out _ _) (Nat.le_refl _)
set_option maxHeartbeats 4000000 in
theorem refTables_any (a : Option Addr) (len cap : Nat) (g : Nat → Nat) (w : World) (h10 : len ≤ 10) (hg : Sm len len g) (ho : Ord len g) (hr : Row w a len (fun k => (g k : Nat))) :
    Calls Tryd.prog 14 #[.agg #[.int .i64 (len : Int), .slice a len cap]] w fun e w' => RtIs len w.heap.size g e w' ∧ Below w.heap.size w w' := by
  obtain ⟨W, HW⟩ : ∃ W, Hid (W = (w.alloc (.cells #[.int .i64 (len : Int), .slice a len cap] 31)).alloc (.cells #[.int .i64 0, .slice none 0 0, .slice none 0 0] 24)) := ⟨_, rfl⟩
  have B1 : Below w.heap.size w (w.alloc (.cells #[.int .i64 (len : Int), .slice a len cap] 31)) := (Below.refl _ _).alloc (Nat.le_refl _) _
  have B2 : Below w.heap.size w W := by rw [HW.out]; exact B1.alloc (by simp) _
  have K0 : Held W w.heap.size len a len cap (fun k => (g k : Nat)) := by rw [HW.out]; exact (Held.box hr).step ((Below.refl _ _).alloc (Nat.le_refl _) _)
  have Z0 : ZL W (w.heap.size + 1) := by
    rw [HW.out]
    have := ZL.new (w.alloc (.cells #[.int .i64 (len : Int), .slice a len cap] 31))
    rw [World.size_alloc] at this; exact this
  have HSZ : Hid (W.heap.size = w.heap.size + 2) := by rw [Hid, HW.out]; simp
  have HB0 : Hid (Below w.heap.size w W) := B2
  have HZ : Hid (ZL W (w.heap.size + 1)) := Z0
  have HCL : Hid (Clo2 len 38 #[.pointer (some ⟨w.heap.size, 0, none⟩)] (upB g) W) := tab1_any len w.heap.size a cap g W h10 (fun k hk => Nat.lt_of_lt_of_le (hg k hk) (pw_le len h10)) K0
  have HGG : Hid (Sm len len g) := hg
  have HOO : Hid (Ord len g) := ho
  have k0 := K0.c0
  have k1 := K0.c1
  clear hr B1 B2 K0 Z0 hg ho
  by_cases h1 : 1 ≤ len
  · have HMT : Hid ((∀ x y, x < len → y < len → 0 ≤ mZ (upB g) len x y ∧ 0 ≤ jZ (upB g) len x y) ↔ (AllMt g len ∧ AllMt (trn g len) len)) := by
      constructor
      · intro h
        refine ⟨fun x y hx hy => ?_, fun x y hx hy => ?_⟩
        · apply Classical.byContradiction
          intro hno
          have := (h x y hx hy).1
          rw [mZ_none HGG.out hx hno] at this; omega
        · apply Classical.byContradiction
          intro hno
          have := (h x y hx hy).2
          rw [jZ_none hx hno] at this; omega
      · rintro ⟨hA, hD⟩ x y hx hy
        rw [mZ_mt h10 HGG.out HOO.out hx (hA x y hx hy), jZ_mt h10 HGG.out HOO.out hx (hD x y hx hy)]
        exact ⟨Int.natCast_nonneg _, Int.natCast_nonneg _⟩
    go_enter Tryd.func14, Tryd.ntmps14
    go_wp2_with fail
    rw [← HW.out]
    go_wp2_with fail
    refine (latticeOf_any len 38 _ (upB g) _ h1 (by omega) ent_tab1 HCL.out).mono ?_
    rintro e w3 ⟨hI, hb3⟩
    have HZ3 : Hid (ZL w3 (w.heap.size + 1)) := HZ.out.step hb3
    have HB3 : Hid (Below w.heap.size w w3) := Below.then HB0.out hb3
    clear hb3 HW k0 k1 HCL
    rcases hI with ⟨⟨x, y, hx, hy, hbad⟩, rfl⟩ | ⟨hall, T1, c1, T2, c2, R1, R2, rfl, ht1, ht2, hT, hR⟩
    · have HNO : Hid (¬ (1 ≤ len ∧ AllMt g len ∧ AllMt (trn g len) len)) := fun h => by have := HMT.out.2 h.2 x y hx hy; omega
      obtain ⟨⟨d0, d1, d2⟩, f0, f1, f2⟩ := HZ3.out.step ((Below.refl w3.heap.size w3).alloc (Nat.le_refl _) (.cells #[.int .i64 0, .slice none 0 0, .slice none 0 0] 24))
      have HBA : Hid (Below w.heap.size w (w3.alloc (.cells #[.int .i64 0, .slice none 0 0, .slice none 0 0] 24))) := HB3.out.alloc HB3.out.size _
      unfold noLat
      go_wp2_with fail
      refine bodyPost_ret (v := .tuple #[noLat, .bool false]) ?_ rfl ⟨⟨noLat, false, rfl, .inl ⟨rfl, rfl, HNO.out⟩⟩, ?_⟩
      · simp [results, Tryd.results14, go_sem, noLat, d0, d1, d2]
      · first | exact HBA.out | exact set3B HBA.out (Nat.le_succ _)
    · obtain ⟨hA, hD⟩ := HMT.out.1 hall
      obtain ⟨w4, HW4⟩ : ∃ w4, Hid (w4 = w3.alloc (.cells #[.int .i64 (len : Int), .slice (some ⟨T1, 0, none⟩) len c1, .slice (some ⟨T2, 0, none⟩) len c2] 24)) := ⟨_, rfl⟩
      have hb4 : Below w3.heap.size w3 w4 := by rw [HW4.out]; exact (Below.refl _ _).alloc (Nat.le_refl _) _
      have L4 : LB w4 w3.heap.size (len : Int) (some ⟨T1, 0, none⟩) len c1 (some ⟨T2, 0, none⟩) len c2 := by rw [HW4.out]; exact LB.new _ _ _ _ _ _ _ _
      have HB4 : Hid (Below w.heap.size w w4) := Below.then HB3.out hb4
      have hZ4 := HZ3.out.step hb4
      have HT1 : Hid (Tb w4 T1 0 len R1 (mF g)) := fun x hx => ⟨((ht1.step hb4) x hx).1, fun y hy => by have := ((ht1.step hb4) x hx).2 y hy; unfold mT at this; rw [mZ_mt h10 HGG.out HOO.out hx (hA x y hx hy)] at this; exact this⟩
      have HT2 : Hid (Tb w4 T2 0 len R2 (mF (trn g len))) := fun x hx => ⟨((ht2.step hb4) x hx).1, fun y hy => by have := ((ht2.step hb4) x hx).2 y hy; unfold jT at this; rw [jZ_mt h10 HGG.out HOO.out hx (hD x y hx hy)] at this; exact this⟩
      have HTT : Hid (W.heap.size ≤ T1 ∧ W.heap.size ≤ T2) := hT
      have HRR : Hid (∀ k, k < len → W.heap.size ≤ (R1 k).1 ∧ W.heap.size ≤ (R2 k).1) := hR
      have HYES : Hid (1 ≤ len ∧ AllMt g len ∧ AllMt (trn g len) len) := ⟨h1, hA, hD⟩
      obtain ⟨⟨d0, d1, d2⟩, f0, f1, f2⟩ := hZ4
      rw [HW4.out] at L4 d0 d1 d2 f0 f1 f2
      have m0 := L4.1
      have m1 := L4.2.1
      have m2 := L4.2.2
      clear hb4 ht1 ht2 hT hR L4 hall hA hD HMT
      go_wp2_with fail
      rw [← HW4.out]
      rw [← HW4.out] at d0 d1 d2 f0 f1 f2
      have hsz := HSZ.out
      have htt := HTT.out
      refine bodyPost_ret (v := .tuple #[.agg #[.int .i64 (len : Int), .slice (some ⟨T1, 0, none⟩) len c1, .slice (some ⟨T2, 0, none⟩) len c2], .bool true]) ?_ rfl ⟨⟨.agg #[.int .i64 (len : Int), .slice (some ⟨T1, 0, none⟩) len c1, .slice (some ⟨T2, 0, none⟩) len c2], true, rfl, .inr ⟨rfl, HYES.out, T1, c1, R1, T2, c2, R2, rfl, ?_, ?_, ⟨by omega, by omega⟩, fun k hk => (by have := HRR.out k hk; exact ⟨by omega, by omega⟩)⟩⟩, ?_⟩
      · simp [results, Tryd.results14, go_sem, d0, d1, d2]
      · exact HT1.out.set3 _ _ _ (by omega) (fun x hx => by have := HRR.out x hx; omega)
      · exact HT2.out.set3 _ _ _ (by omega) (fun x hx => by have := HRR.out x hx; omega)
      · exact set3B HB4.out (Nat.le_succ _)
  · obtain rfl : len = 0 := by omega
    have HNO : Hid (¬ (1 ≤ 0 ∧ AllMt g 0 ∧ AllMt (trn g 0) 0)) := fun h => h1 h.1
    go_enter Tryd.func14, Tryd.ntmps14
    go_wp2_with fail
    have HWz : Hid (W = (w.alloc (.cells #[.int .i64 0, .slice a 0 cap] 31)).alloc (.cells #[.int .i64 0, .slice none 0 0, .slice none 0 0] 24)) := HW
    rw [← HWz.out]
    clear HWz
    refine (latticeOf_zero 38 _ _).mono ?_
    rintro e w3 ⟨rfl, hb3⟩
    have HZ3 : Hid (ZL w3 (w.heap.size + 1)) := HZ.out.step hb3
    have HB3 : Hid (Below w.heap.size w w3) := Below.then HB0.out hb3
    clear hb3 HW k0 k1 HCL
    obtain ⟨⟨d0, d1, d2⟩, f0, f1, f2⟩ := HZ3.out.step ((Below.refl w3.heap.size w3).alloc (Nat.le_refl _) (.cells #[.int .i64 0, .slice none 0 0, .slice none 0 0] 24))
    have HBA : Hid (Below w.heap.size w (w3.alloc (.cells #[.int .i64 0, .slice none 0 0, .slice none 0 0] 24))) := HB3.out.alloc HB3.out.size _
    unfold noLat
    go_wp2_with fail
    refine bodyPost_ret (v := .tuple #[noLat, .bool false]) ?_ rfl ⟨⟨noLat, false, rfl, .inl ⟨rfl, rfl, HNO.out⟩⟩, ?_⟩
    · simp [results, Tryd.results14, go_sem, noLat, d0, d1, d2]
    · first | exact HBA.out | exact set3B HBA.out (Nat.le_succ _)
end Go.Proofs.YtjcinkippaknnaaDoor
