/-
  What hasselaw.LatticeOrders answers: true. Conditions: the library's table lies in its variable; slices read as slices of rows.
-/
import Derived.Test.YtjcinkippaknnaaDoorRefLat
import Derived.Test.YtjcinkippaknnaaDoorRefOrd
namespace Go.Proofs.YtjcinkippaknnaaDoor
open Go.RowKit

set_option maxHeartbeats 4000000 in
theorem latticeOrders_any (n : Int) (a : Option Addr) (la ca : Nat) (SA : Nat → Option Addr × Nat × Nat) (FA : Nat → Nat → Int) (b : Option Addr) (lb cb : Nat) (SB : Nat → Option Addr × Nat × Nat) (FB : Nat → Nat → Int) (w : World) (hla : la ≤ maxLen) (hlb : lb ≤ maxLen) (hra : RR w a la SA FA) (hrb : RR w b lb SB FB) (hT : Tab w) :
    Calls Tryd.prog 5 #[.agg #[.int .i64 n, .slice a la ca, .slice b lb cb]] w fun e w' => e = .returned (.bool true) ∧ Below w.heap.size w w' := by
  have B1 : Below w.heap.size w (w.alloc (.cells #[.int .i64 n, .slice a la ca, .slice b lb cb] 24)) := (Below.refl _ _).alloc (Nat.le_refl _) _
  have L0 := LB.new w n a la ca b lb cb
  have HRA : Hid (RR w a la SA FA) := hra
  have HRB : Hid (RR w b lb SB FB) := hrb
  have HT : Hid (Tab w) := hT
  have HB0 : Hid (Below w.heap.size w (w.alloc (.cells #[.int .i64 n, .slice a la ca, .slice b lb cb] 24))) := B1
  have l0 := L0.1
  have l1 := L0.2.1
  have l2 := L0.2.2
  clear hra hrb B1 hT
  go_enter Tryd.func5, Tryd.ntmps5
  go_wp2_with fail
  refine (orderL_any n a la ca SA FA b lb cb SB FB _ hla hlb (HRA.out.below HB0.out) (HRB.out.below HB0.out)).mono ?_
  rintro e w1 ⟨⟨c0, c, x, hc0, hoc, rfl, hx⟩, hb1⟩
  have HB1 : Hid (Below w.heap.size w w1) := Below.then HB0.out hb1
  have L1 := L0.step hb1
  clear hb1 HB0 L0 l0 l1 l2
  by_cases hcz : c = 0
  · subst hcz
    rcases hx with ⟨k, _⟩ | ⟨_, a1, cap1, rfl, hr1⟩
    · exact absurd rfl k
    rcases hoc with ⟨k, k'⟩ | ⟨rfl, ⟨k, _⟩ | ⟨_, hn⟩⟩
    · exact absurd k'.symm k
    · omega
    obtain ⟨q, rfl, h1, h40, e1, e2, hs1, hs2, hg1, hg2, hlat⟩ := hc0.good
    obtain rfl := e1.symm
    obtain rfl := e2.symm
    have hq10 : q ≤ 10 := by omega
    have hn' : decide ((10 : Int) < (q : Int)) = false := by simp; omega
    have hql : q ≤ maxLen := by unfold maxLen; omega
    have hqn : ((q : Int).toNat) = q := by omega
    rw [hqn] at hr1
    have HR1 : Hid (Row w1 a1 q (fun k => (trn (upF (nat2 FA) q) q k : Nat))) := hr1
    have BA : Below w1.heap.size w1 (w1.alloc (.cells #[.int .i64 (q : Int), .slice a1 q cap1] 31)) := (Below.refl _ _).alloc (Nat.le_refl _) _
    have HB2 : Hid (Below w.heap.size w (w1.alloc (.cells #[.int .i64 (q : Int), .slice a1 q cap1] 31))) := Below.then HB1.out BA
    have L2 := L1.step BA
    have P2 : Box (w1.alloc (.cells #[.int .i64 (q : Int), .slice a1 q cap1] 31)) w1.heap.size (q : Int) a1 q cap1 := Box.new w1 (q : Int) a1 q cap1
    have R2 := hr1.below BA
    have m0 := L2.1
    have m1 := L2.2.1
    have m2 := L2.2.2
    clear BA HB1 L1 hr1 hqn
    go_wp2_with fail
    refine (checkLattice_any q a q ca SA FA b q cb SB FB _ hla hlb (HRA.out.below HB2.out) (HRB.out.below HB2.out)).mono ?_
    rintro e w3 ⟨⟨c', rfl, hc'⟩, hb3⟩
    obtain rfl := LCk.one hc' hc0
    have BB : Below w3.heap.size w3 (w3.alloc (.cells #[.int .i64 0, .slice none 0 0] 31)) := (Below.refl _ _).alloc (Nat.le_refl _) _
    have h34 := Below.then hb3 BB
    have HB4 : Hid (Below w.heap.size w (w3.alloc (.cells #[.int .i64 0, .slice none 0 0] 31))) := Below.then HB2.out h34
    have L4 := L2.step h34
    have P4 := P2.step h34
    have R4 := R2.below h34
    have Z4 : ZBox (w3.alloc (.cells #[.int .i64 0, .slice none 0 0] 31)) w3.heap.size := ZBox.new w3
    have hbs : w1.heap.size < w3.heap.size := by have := P2.step hb3; exact this.lt
    have hbw : w.heap.size ≤ w3.heap.size := (Below.then HB2.out hb3).size
    obtain ⟨b1, o1, rfl, ht1, _⟩ := (HRA.out.below HB4.out).tb h1 hs1 hg1
    have HT1 : Hid (Tb (w3.alloc (.cells #[.int .i64 0, .slice none 0 0] 31)) b1 o1 q (fun x => rAt (SA x)) (nat2 FA)) := ht1
    have p0 := L4.1
    have p1 := L4.2.1
    have p2 := L4.2.2
    have HBS : Hid (w1.heap.size < w3.heap.size ∧ w.heap.size ≤ w3.heap.size) := ⟨hbs, hbw⟩
    clear hb3 BB h34 HB2 L2 P2 R2 m0 m1 m2 hc' hc0 hs1 hs2 hg1 hg2 hlat ht1 hbs hbw
    go_wp2_with fail
    refine (latticeOrder_any q b1 o1 ca b q cb _ (nat2 FA) _ hq10 HT1.out).mono ?_
    rintro e w5 ⟨⟨a5, cap5, rfl, hr5, hf5⟩, hb5⟩
    rw [World.size_alloc] at hf5
    have HB5 : Hid (Below w.heap.size w w5) := Below.then HB4.out hb5
    have P5 := P4.step hb5
    have R5 := R4.below hb5
    obtain ⟨z0, z1, z2, z3⟩ := Z4.step hb5
    have hZ := Z4.step hb5
    have HB6 : Hid (Below w.heap.size w ((w5.setCell ⟨w3.heap.size, 0, none⟩ (.int .i64 (q : Int))).setCell ⟨w3.heap.size, 1, none⟩ (.slice a5 q cap5))) := set2B HB5.out HBS.out.2
    have HR6 : Hid (Row ((w5.setCell ⟨w3.heap.size, 0, none⟩ (.int .i64 (q : Int))).setCell ⟨w3.heap.size, 1, none⟩ (.slice a5 q cap5)) a5 q (fun k => (trn (upF (nat2 FA) q) q k : Nat))) := row_set2 hr5 hf5
    have HR7 : Hid (Row ((w5.setCell ⟨w3.heap.size, 0, none⟩ (.int .i64 (q : Int))).setCell ⟨w3.heap.size, 1, none⟩ (.slice a5 q cap5)) a1 q (fun k => (trn (upF (nat2 FA) q) q k : Nat))) := fun k hk => by
      obtain ⟨bb, off, e, hc⟩ := HR1.out k hk
      have hlt := World.block_lt_of_cell? _ _ hc
      obtain ⟨bb2, off2, e', hc5⟩ := R5 k hk
      rw [e] at e'
      cases e'
      refine ⟨bb, off, e, ?_⟩
      have hne := HBS.out.1
      simp only at hlt
      rw [World.cell?_setCell_other _ _ _ _ (fun e => by injection e with e1; omega), World.cell?_setCell_other _ _ _ _ (fun e => by injection e with e1; omega)]
      exact hc5
    have P6 : Box ((w5.setCell ⟨w3.heap.size, 0, none⟩ (.int .i64 (q : Int))).setCell ⟨w3.heap.size, 1, none⟩ (.slice a5 q cap5)) w3.heap.size (q : Int) a5 q cap5 := Box.set2 hZ
    have P7 : Box ((w5.setCell ⟨w3.heap.size, 0, none⟩ (.int .i64 (q : Int))).setCell ⟨w3.heap.size, 1, none⟩ (.slice a5 q cap5)) w1.heap.size (q : Int) a1 q cap1 := by
      have hne := HBS.out.1
      exact ⟨by rw [World.cell?_setCell_other _ _ _ _ (fun e => by injection e with e1; omega), World.cell?_setCell_other _ _ _ _ (fun e => by injection e with e1; omega)]; exact P5.1, by rw [World.cell?_setCell_other _ _ _ _ (fun e => by injection e with e1; omega), World.cell?_setCell_other _ _ _ _ (fun e => by injection e with e1; omega)]; exact P5.2⟩
    have HP6 := (show Hid _ from P6)
    have HP7 := (show Hid _ from P7)
    clear hb5 hr5 hf5 P4 R4 P5 R5 P6 P7 hZ p0 p1 p2 L4 HB4 HB5
    go_wp2_with fail
    refine (latticeBegun_any _ (HT.out.step HB6.out)).mono ?_
    rintro e w7 ⟨rfl, hb7⟩
    have HB7 : Hid (Below w.heap.size w w7) := Below.then HB6.out hb7
    obtain ⟨u0, u1⟩ := Box.step HP6.out hb7
    obtain ⟨v0, v1⟩ := Box.step HP7.out hb7
    have HR8 : Hid (Row w7 a5 q (fun k => (trn (upF (nat2 FA) q) q k : Nat))) := HR6.out.below hb7
    have HR9 : Hid (Row w7 a1 q (fun k => (trn (upF (nat2 FA) q) q k : Nat))) := HR7.out.below hb7
    clear hb7 HR6 HR7 HP6 HP7 z0 z1 z2 z3
    go_wp2_with fail
    refine (given_any 0 (q : Int) q _ _ _ _ hql (.inr ⟨rfl, a1, cap1, rfl, HR9.out⟩) (.inl (.inr ⟨rfl, a5, cap5, rfl, HR8.out⟩))).mono ?_
    rintro e w8 ⟨rfl, hb8⟩
    have HB8 : Hid (Below w.heap.size w w8) := Below.then HB7.out hb8
    clear hb8 u0 u1 v0 v1 HR8 HR9
    go_wp2_with fail
    go_ret
    exact ⟨rfl, HB8.out⟩
  · obtain rfl : x = noOrder := by
      rcases hx with ⟨_, h⟩ | ⟨k, _⟩
      · exact h
      · exact absurd k hcz
    unfold noOrder
    have BA : Below w1.heap.size w1 (w1.alloc (.cells #[.int .i64 0, .slice none 0 0] 31)) := (Below.refl _ _).alloc (Nat.le_refl _) _
    have HB2 : Hid (Below w.heap.size w (w1.alloc (.cells #[.int .i64 0, .slice none 0 0] 31))) := Below.then HB1.out BA
    have L2 := L1.step BA
    have P2 : Box (w1.alloc (.cells #[.int .i64 0, .slice none 0 0] 31)) w1.heap.size 0 none 0 0 := Box.new w1 0 none 0 0
    have m0 := L2.1
    have m1 := L2.2.1
    have m2 := L2.2.2
    clear BA HB1 L1 hx
    go_wp2_with fail
    refine (checkLattice_any n a la ca SA FA b lb cb SB FB _ hla hlb (HRA.out.below HB2.out) (HRB.out.below HB2.out)).mono ?_
    rintro e w3 ⟨⟨c', rfl, hc'⟩, hb3⟩
    obtain rfl := LCk.one hc' hc0
    have BB : Below w3.heap.size w3 (w3.alloc (.cells #[.int .i64 0, .slice none 0 0] 31)) := (Below.refl _ _).alloc (Nat.le_refl _) _
    have h34 := Below.then hb3 BB
    have HB4 : Hid (Below w.heap.size w (w3.alloc (.cells #[.int .i64 0, .slice none 0 0] 31))) := Below.then HB2.out h34
    have L4 := L2.step h34
    have P4 := P2.step h34
    have Z4 : Box (w3.alloc (.cells #[.int .i64 0, .slice none 0 0] 31)) w3.heap.size 0 none 0 0 := Box.new w3 0 none 0 0
    have p0 := L4.1
    have HP4 := (show Hid _ from P4)
    have HZ4 := (show Hid _ from Z4)
    clear hb3 BB h34 HB2 L2 P2 m0 m1 m2 hc' hc0 L4 P4 Z4
    rcases hoc with ⟨k0, rfl⟩ | ⟨rfl, ⟨rfl, hn⟩ | ⟨k, _⟩⟩
    · have hne : (c == 0) = false := by simpa using k0
      go_wp2_with fail
      refine (latticeBegun_any _ (HT.out.step HB4.out)).mono ?_
      rintro e w7 ⟨rfl, hb7⟩
      have HB7 : Hid (Below w.heap.size w w7) := Below.then HB4.out hb7
      obtain ⟨u0, u1⟩ := Box.step HP4.out hb7
      obtain ⟨v0, v1⟩ := Box.step HZ4.out hb7
      clear hb7 HP4 HZ4 p0
      go_wp2_with fail
      refine (given_any c 0 0 (fun _ => 0) noOrder noOrder _ (Nat.zero_le _) (.inl ⟨k0, rfl⟩) (.inl (.inl ⟨k0, rfl⟩))).mono ?_
      rintro e w8 ⟨rfl, hb8⟩
      have HB8 : Hid (Below w.heap.size w w8) := Below.then HB7.out hb8
      clear hb8 u0 u1 v0 v1
      go_wp2_with fail
      go_ret
      exact ⟨rfl, HB8.out⟩
    · have hn' : decide ((10 : Int) < n) = true := by simpa using hn
      clear hn
      go_wp2_with fail
      refine (latticeBegun_any _ (HT.out.step HB4.out)).mono ?_
      rintro e w7 ⟨rfl, hb7⟩
      have HB7 : Hid (Below w.heap.size w w7) := Below.then HB4.out hb7
      obtain ⟨u0, u1⟩ := Box.step HP4.out hb7
      obtain ⟨v0, v1⟩ := Box.step HZ4.out hb7
      clear hb7 HP4 HZ4 p0
      go_wp2_with fail
      refine (given_any 2 0 0 (fun _ => 0) noOrder noOrder _ (Nat.zero_le _) (.inl ⟨by decide, rfl⟩) (.inl (.inl ⟨by decide, rfl⟩))).mono ?_
      rintro e w8 ⟨rfl, hb8⟩
      have HB8 : Hid (Below w.heap.size w w8) := Below.then HB7.out hb8
      clear hb8 u0 u1 v0 v1
      go_wp2_with fail
      go_ret
      exact ⟨rfl, HB8.out⟩
    · exact absurd k hcz
end Go.Proofs.YtjcinkippaknnaaDoor
