/-
  What lattice.Pentagon answers, whatever it is handed. No condition but that slices read as slices of rows.
-/
import Derived.Test.YtjcinkippaknnaaDoorBoth
namespace Go.Proofs.YtjcinkippaknnaaDoor
open Go.RowKit

/-- What such a call must answer. -/
def ListPost (P : (Nat → Nat → Nat) → (Nat → Nat → Nat) → Nat → Nat → Nat → Bool) (n : Int) (la : Nat) (SA : Nat → Option Addr × Nat × Nat) (FA : Nat → Nat → Int) (lb : Nat) (SB : Nat → Option Addr × Nat × Nat) (FB : Nat → Nat → Int) (e : Ending) (w' : World) : Prop :=
  ∃ (c : Int) (v : Value) (l : List Nat) (ok : Bool), LCk n la SA FA lb SB FB c ∧ e = .returned (.tuple #[v, .bool ok, .int .i64 c]) ∧ ((c ≠ 0 ∧ ok = false ∧ v = .slice none 0 0) ∨ (c = 0 ∧ First3 n.toNat (P (nat2 FA) (nat2 FB)) l ok ∧ NSl w' v l))

theorem ent_pent2 : Ent 55 := fun _ _ => rfl
set_option maxHeartbeats 2000000 in
theorem pent2_any (n b off cap c0 c1 c2 : Nat) (R : Nat → Nat × Nat × Nat) (m : Nat → Nat → Nat) (x y z : Nat) (w : World) (hx : x < n) (hy : y < n) (hz : z < n)
    (h0 : w.cell? ⟨c0, 0, none⟩ = some (.int .i64 (x : Nat))) (h1 : w.cell? ⟨c1, 0, none⟩ = some (.int .i64 (z : Nat))) (h2 : w.cell? ⟨c2, 0, none⟩ = some (.int .i64 (y : Nat))) (ht : Tb w b off n R m) :
    Clo1 55 #[.pointer (some ⟨c0, 0, none⟩), .pointer (some ⟨c1, 0, none⟩), .pointer (some ⟨c2, 0, none⟩)] (.slice (some ⟨b, off, none⟩) n cap) (m x z == m y z) w := fun W hW => by
  show Calls Tryd.prog 55 #[.slice (some ⟨b, off, none⟩) n cap, .pointer (some ⟨c0, 0, none⟩), .pointer (some ⟨c1, 0, none⟩), .pointer (some ⟨c2, 0, none⟩)] W _
  have k0 := cell_step hW h0
  have k1 := cell_step hW h1
  have k2 := cell_step hW h2
  have HT := ht.step hW
  have r1 := (HT x hx).1
  have r2 := (HT y hy).1
  have e0 := (HT x hx).2 z hz
  have e1 := (HT y hy).2 z hz
  have ix : (x : Int) < (n : Int) := by omega
  have iy : (y : Int) < (n : Int) := by omega
  have iz : (z : Int) < (n : Int) := by omega
  have hKK : Hid (Below W.heap.size W W) := Below.refl _ _
  clear HT ht h0 h1 h2 hW
  obtain ⟨v0, hv0⟩ : ∃ v, (m x z == m y z) = v := ⟨_, rfl⟩
  rw [hv0]
  rw [← int_beq] at hv0
  rcases v0 with _ | _
  · go_enter Tryd.func55, Tryd.ntmps55
    go_wp2
    go_big_quiet (fail)
    go_wp2
    go_ret
    exact ⟨rfl, below_drewN hKK.out _⟩
  · go_enter Tryd.func55, Tryd.ntmps55
    go_wp2
    go_big_quiet (fail)
    go_wp2
    go_ret
    exact ⟨rfl, below_drewN hKK.out _⟩

theorem ent_pent1 : Ent 53 := fun _ _ => rfl
def box3 (W : World) (x y z : Nat) : World := ((W.alloc (.cells #[.int .i64 (x : Nat)] 3)).alloc (.cells #[.int .i64 (y : Nat)] 3)).alloc (.cells #[.int .i64 (z : Nat)] 3)
set_option maxHeartbeats 2000000 in
theorem pent1_any (n B b off cap b' off' cap' : Nat) (R R' : Nat → Nat × Nat × Nat) (m j : Nat → Nat → Nat) (w : World) (hL : LB w B (n : Nat) (some ⟨b, off, none⟩) n cap (some ⟨b', off', none⟩) n cap') (ht : Tb w b off n R m) (ho : Tb w b' off' n R' j) :
    Clo n 53 #[.pointer (some ⟨B, 0, none⟩)] (penB m j) w := fun x y z hx hy hz W hW => by
  show Calls Tryd.prog 53 #[.int .i64 (x : Nat), .int .i64 (y : Nat), .int .i64 (z : Nat), .pointer (some ⟨B, 0, none⟩)] W _
  have BX : Below W.heap.size W (box3 W x y z) := ((((Below.refl _ _).alloc (Nat.le_refl _) _).alloc (by simp) _).alloc (by simp; omega) _)
  have HBX : Hid (Below W.heap.size W (box3 W x y z)) := BX
  have x0 : (box3 W x y z).cell? ⟨W.heap.size, 0, none⟩ = some (.int .i64 (x : Nat)) := by simp [box3, go_sem]
  have x1 : (box3 W x y z).cell? ⟨W.heap.size + 1, 0, none⟩ = some (.int .i64 (y : Nat)) := by simp [box3, go_sem]
  have x2 : (box3 W x y z).cell? ⟨W.heap.size + 1 + 1, 0, none⟩ = some (.int .i64 (z : Nat)) := by simp [box3, go_sem]
  have LL := (hL.step hW).step BX
  have l0 := LL.1
  have l1 := LL.2.1
  have l2 := LL.2.2
  have T1 := (ht.step hW).step BX
  have T2 := (ho.step hW).step BX
  have HT1 : Hid (Tb (box3 W x y z) b off n R m) := T1
  have HT2 : Hid (Tb (box3 W x y z) b' off' n R' j) := T2
  have HCA : Hid (Clo1 55 #[.pointer (some ⟨W.heap.size, 0, none⟩), .pointer (some ⟨W.heap.size + 1 + 1, 0, none⟩), .pointer (some ⟨W.heap.size + 1, 0, none⟩)] (.slice (some ⟨b, off, none⟩) n cap) (m x z == m y z) (box3 W x y z)) := pent2_any n b off cap _ _ _ R m x y z _ hx hy hz x0 x2 x1 T1
  have HCB : Hid (Clo1 55 #[.pointer (some ⟨W.heap.size, 0, none⟩), .pointer (some ⟨W.heap.size + 1 + 1, 0, none⟩), .pointer (some ⟨W.heap.size + 1, 0, none⟩)] (.slice (some ⟨b', off', none⟩) n cap') (j x z == j y z) (box3 W x y z)) := pent2_any n b' off' cap' _ _ _ R' j x y z _ hx hy hz x0 x2 x1 T2
  have HLL : Hid (LB (box3 W x y z) B (n : Nat) (some ⟨b, off, none⟩) n cap (some ⟨b', off', none⟩) n cap') := LL
  clear T1 T2 BX LL ht ho hL hW
  unfold penB
  obtain ⟨v1, hv1⟩ : ∃ v, (!(x == y) && m x y == x) = v := ⟨_, rfl⟩
  have HI := isBelow_any n b off cap (some ⟨b', off', none⟩) n cap' R m x y (box3 W x y z) HT1.out hx hy
  rw [hv1] at HI ⊢
  unfold box3 at *
  rcases v1 with _ | _
  · go_enter Tryd.func53, Tryd.ntmps53
    go_wp2_with fail
    refine HI.mono ?_
    rintro e w1 ⟨rfl, hb1⟩
    have HB2 : Hid (Below W.heap.size W w1) := Below.then HBX.out hb1
    clear hb1 HI l0 l1 l2
    go_wp2_with fail
    go_ret
    exact ⟨rfl, HB2.out⟩
  · go_enter Tryd.func53, Tryd.ntmps53
    go_wp2_with fail
    refine HI.mono ?_
    rintro e w1 ⟨rfl, hb1⟩
    have HB2 : Hid (Below W.heap.size W w1) := Below.then HBX.out hb1
    have L2 := HLL.out.step hb1
    have q0 := L2.1
    have q1 := L2.2.1
    have q2 := L2.2.2
    have HCA2 := (show Hid _ from HCA.out.step hb1)
    have HCB2 := (show Hid _ from HCB.out.step hb1)
    clear hb1 HI l0 l1 l2 HCA HCB
    go_wp2_with fail
    refine (inBoth_any n _ _ _ _ _ _ 55 _ _ _ _ ent_pent2 HCA2.out HCB2.out).mono ?_
    rintro e w2 ⟨rfl, hb2⟩
    have HB3 : Hid (Below W.heap.size W w2) := Below.then HB2.out hb2
    clear hb2 HB2 q0 q1 q2
    go_wp2_with fail
    go_ret
    exact ⟨rfl, HB3.out⟩

set_option maxHeartbeats 2000000 in
theorem pent_any (n : Int) (a : Option Addr) (la ca : Nat) (SA : Nat → Option Addr × Nat × Nat) (FA : Nat → Nat → Int) (b : Option Addr) (lb cb : Nat) (SB : Nat → Option Addr × Nat × Nat) (FB : Nat → Nat → Int) (w : World) (hla : la ≤ maxLen) (hlb : lb ≤ maxLen) (hra : RR w a la SA FA) (hrb : RR w b lb SB FB) :
    Calls Tryd.prog 24 #[.agg #[.int .i64 n, .slice a la ca, .slice b lb cb]] w fun e w' => ListPost penB n la SA FA lb SB FB e w' ∧ Below w.heap.size w w' := by
  have B1 : Below w.heap.size w (w.alloc (.cells #[.int .i64 n, .slice a la ca, .slice b lb cb] 24)) := (Below.refl _ _).alloc (Nat.le_refl _) _
  have L0 := LB.new w n a la ca b lb cb
  have HRA : Hid (RR (w.alloc (.cells #[.int .i64 n, .slice a la ca, .slice b lb cb] 24)) a la SA FA) := hra.below B1
  have HRB : Hid (RR (w.alloc (.cells #[.int .i64 n, .slice a la ca, .slice b lb cb] 24)) b lb SB FB) := hrb.below B1
  have HB1 : Hid (Below w.heap.size w (w.alloc (.cells #[.int .i64 n, .slice a la ca, .slice b lb cb] 24))) := B1
  clear hra hrb B1
  go_enter Tryd.func24, Tryd.ntmps24
  go_wp2_with fail
  refine (lCheck_any n a la ca SA FA b lb cb SB FB _ hla hlb HRA.out HRB.out).mono ?_
  rintro e w1 ⟨⟨c, rfl, hc⟩, hb1⟩
  have HB2 : Hid (Below w.heap.size w w1) := Below.then HB1.out hb1
  have L1 := L0.step hb1
  have HC : Hid (LCk n la SA FA lb SB FB c) := hc
  by_cases h0 : c = 0
  · subst h0
    obtain ⟨q, rfl, h1, h40, e1, e2, hs1, hs2, hg1, hg2, hlat⟩ := hc.good
    obtain rfl := e1.symm
    obtain rfl := e2.symm
    obtain ⟨b1, o1, rfl, ht1, _⟩ := (HRA.out.below hb1).tb h1 hs1 hg1
    obtain ⟨b2, o2, rfl, ht2, _⟩ := (HRB.out.below hb1).tb h1 hs2 hg2
    have HQ : Hid (Clo q 53 #[.pointer (some ⟨w.heap.size, 0, none⟩)] (penB (nat2 FA) (nat2 FB)) w1) := pent1_any q w.heap.size b1 o1 ca b2 o2 cb _ _ (nat2 FA) (nat2 FB) w1 L1 ht1 ht2
    have l0 := L1.1
    clear hs1 hs2 hg1 hg2 hlat ht1 ht2 hb1 HB1 hc L0
    go_wp2_with fail
    refine (three_any q 53 _ _ _ h40 ent_pent1 HQ.out).mono ?_
    rintro e w2 ⟨⟨v, l, ok, rfl, hf, hn⟩, hb2⟩
    have HB3 : Hid (Below w.heap.size w w2) := Below.then HB2.out hb2
    have HV : Hid (First3 (q : Int).toNat (penB (nat2 FA) (nat2 FB)) l ok) := hf
    have HN : Hid (NSl w2 v l) := hn
    clear hb2 hf hn HB2
    go_wp2_with fail
    go_ret3
    exact ⟨⟨0, v, l, ok, HC.out, rfl, .inr ⟨rfl, HV.out, HN.out⟩⟩, HB3.out⟩
  · have hne : (c != 0) = true := by simpa using h0
    clear hb1 HB1 hc L0
    go_wp2_with fail
    go_ret3
    exact ⟨⟨c, _, [], false, HC.out, rfl, .inl ⟨h0, rfl, rfl⟩⟩, HB2.out⟩
end Go.Proofs.YtjcinkippaknnaaDoor
