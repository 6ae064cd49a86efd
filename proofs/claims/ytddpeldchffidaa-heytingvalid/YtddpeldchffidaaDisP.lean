/-
  What lattice.Distributive and the reference's IsDistributive answer. No condition but that slices read as slices of rows.
-/
import Derived.Deep.RegionHeld3
import Derived.Test.YtddpeldchffidaaGal0
namespace Go.Proofs.Ytddpeldchffidaa
set_option maxRecDepth 100000
open Go.RowKit

theorem ent_dis : Ent 42 := fun _ _ => rfl
set_option maxHeartbeats 4000000 in
theorem dis1_any (n B b off cap b' off' cap' : Nat) (R R' : Nat → Nat × Nat × Nat) (m j : Nat → Nat → Nat) (w : World) (hm : Inn n m) (hj : Inn n j)
    (hc : w.cell? ⟨B, 1, none⟩ = some (.slice (some ⟨b, off, none⟩) n cap)) (hd : w.cell? ⟨B, 2, none⟩ = some (.slice (some ⟨b', off', none⟩) n cap')) (ht : Tb w b off n R m) (ho : Tb w b' off' n R' j) :
    Clo n 42 #[.pointer (some ⟨B, 0, none⟩)] (disB m j) w := fun x y z hx hy hz W hW => by
  show Calls Try.prog 42 #[.int .i64 (x : Nat), .int .i64 (y : Nat), .int .i64 (z : Nat), .pointer (some ⟨B, 0, none⟩)] W _
  have cT := cell_step hW hc
  have cO := cell_step hW hd
  have HT := ht.step hW
  have HO := ho.step hW
  have hxy := hm x y hx hy
  have hxz := hm x z hx hz
  have hyz := hj y z hy hz
  have r1 := (HT x hx).1
  have r2 := (HO y hy).1
  have r3 := (HO _ hxy).1
  have e1 := (HO y hy).2 z hz
  have e2 := (HT x hx).2 _ hyz
  have e3 := (HT x hx).2 y hy
  have e4 := (HT x hx).2 z hz
  have e5 := (HO _ hxy).2 _ hxz
  have ix : (x : Int) < (n : Int) := by omega
  have iy : (y : Int) < (n : Int) := by omega
  have iz : (z : Int) < (n : Int) := by omega
  have i4 : ((m x y : Nat) : Int) < (n : Int) := by omega
  have i5 : ((m x z : Nat) : Int) < (n : Int) := by omega
  have i6 : ((j y z : Nat) : Int) < (n : Int) := by omega
  clear HT HO ht ho hc hd hm hj hW
  have hKK : Hid (Below W.heap.size W W) := Below.refl _ _
  unfold disB
  obtain ⟨v0, hv0⟩ : ∃ v, (m x (j y z) == j (m x y) (m x z)) = v := ⟨_, rfl⟩
  rw [hv0]
  rw [← int_beq] at hv0
  rcases v0 with _ | _
  · go_enter Try.func42, Try.ntmps42
    go_wp2
    go_big_quiet (fail)
    go_wp2
    go_ret
    exact ⟨rfl, below_drewN hKK.out _⟩
  · go_enter Try.func42, Try.ntmps42
    go_wp2
    go_big_quiet (fail)
    go_wp2
    go_ret
    exact ⟨rfl, below_drewN hKK.out _⟩
set_option maxHeartbeats 2000000 in
theorem distr_any (n : Int) (a : Option Addr) (la ca : Nat) (SA : Nat → Option Addr × Nat × Nat) (FA : Nat → Nat → Int) (b : Option Addr) (lb cb : Nat) (SB : Nat → Option Addr × Nat × Nat) (FB : Nat → Nat → Int) (w : World) (hla : la ≤ maxLen) (hlb : lb ≤ maxLen) (hra : RR w a la SA FA) (hrb : RR w b lb SB FB) :
    Calls Try.prog 27 #[.agg #[.int .i64 n, .slice a la ca, .slice b lb cb]] w fun e w' => LawPost disB n la SA FA lb SB FB e ∧ Below w.heap.size w w' := by
  have B1 : Below w.heap.size w (w.alloc (.cells #[.int .i64 n, .slice a la ca, .slice b lb cb] 24)) := (Below.refl _ _).alloc (Nat.le_refl _) _
  have L0 := LB.new w n a la ca b lb cb
  have HRA : Hid (RR (w.alloc (.cells #[.int .i64 n, .slice a la ca, .slice b lb cb] 24)) a la SA FA) := hra.below B1
  have HRB : Hid (RR (w.alloc (.cells #[.int .i64 n, .slice a la ca, .slice b lb cb] 24)) b lb SB FB) := hrb.below B1
  have HB1 : Hid (Below w.heap.size w (w.alloc (.cells #[.int .i64 n, .slice a la ca, .slice b lb cb] 24))) := B1
  clear hra hrb B1
  go_enter Try.func27, Try.ntmps27
  go_wp2_with fail
  refine (lCheck_any n a la ca SA FA b lb cb SB FB _ hla hlb HRA.out HRB.out).mono ?_
  rintro e w1 ⟨⟨c, rfl, hc⟩, hb1⟩
  have HB2 : Hid (Below w.heap.size w w1) := Below.then HB1.out hb1
  have L1 := L0.step hb1
  have l0 := L1.1
  have l1 := L1.2.1
  have l2 := L1.2.2
  have HC : Hid (LCk n la SA FA lb SB FB c) := hc
  by_cases h0 : c = 0
  · subst h0
    obtain ⟨q, rfl, h1, h40, e1, e2, hs1, hs2, hg1, hg2, hlat⟩ := hc.good
    obtain rfl := e1.symm
    obtain rfl := e2.symm
    obtain ⟨b1, o1, rfl, ht1, _⟩ := (HRA.out.below hb1).tb h1 hs1 hg1
    obtain ⟨b2, o2, rfl, ht2, _⟩ := (HRB.out.below hb1).tb h1 hs2 hg2
    have HQ := (show Hid _ from dis1_any q w.heap.size b1 o1 ca b2 o2 cb _ _ (nat2 FA) (nat2 FB) w1 hlat.im hlat.ij l1 l2 ht1 ht2)
    clear hs1 hs2 hg1 hg2 hlat ht1 ht2 hb1 HB1 hc L0
    go_wp2_with fail
    refine (always_any q 42 _ _ _ h40 ent_dis HQ.out).mono ?_
    rintro e w2 ⟨⟨v, rfl, hv⟩, hb2⟩
    have HB3 : Hid (Below w.heap.size w w2) := Below.then HB2.out hb2
    have HV : Hid (v = true ↔ All3 (q : Int).toNat (disB (nat2 FA) (nat2 FB))) := hv
    clear hb2 hv HB2
    go_wp2_with fail
    go_ret2
    exact ⟨⟨0, v, HC.out, rfl, .inr ⟨rfl, HV.out⟩⟩, HB3.out⟩
  · have hne : (c != 0) = true := by simpa using h0
    clear hb1 HB1 hc L0
    go_wp2_with fail
    go_ret2
    exact ⟨⟨c, false, HC.out, rfl, .inl ⟨h0, rfl⟩⟩, HB2.out⟩
set_option maxHeartbeats 2000000 in
theorem triple_any (n F : Nat) (caps : Array Value) (P : Nat → Nat → Nat → Bool) (w : World) (h40 : n ≤ 40) (hF : Ent F) (hcl : Clo n F caps P w) :
    Calls Try.prog 30 #[.int .i64 n, .func (.func F) #[] caps] w fun e w' => (∃ v l ok, e = .returned (.tuple #[v, .bool ok]) ∧ First3 n P l ok ∧ NSl w' v l) ∧ Below w.heap.size w w' := by
  have HCL : Hid (Clo n F caps P w) := hcl
  clear hcl
  go_enter Try.func30, Try.ntmps30
  go_wp2_with fail
  go_loopw [6] (fun i wx => ∃ a : Nat, a ≤ n ∧ i = .int .i64 a ∧ Hid (No3 n P a 0 0) ∧ Hid (Below w.heap.size w wx)) (fun i _ => n - (intOf i).toNat)
  case atStart => exact ⟨0, Nat.zero_le _, rfl, No3.zero n P, Below.refl _ _⟩
  case round =>
    obtain ⟨a, ha, rfl, HU, HW⟩ := hrel
    by_cases hal : a < n
    · go_wp2_with fail
      go_loopw [7] (fun i wx => ∃ b : Nat, b ≤ n ∧ i = .int .i64 b ∧ Hid (No3 n P a b 0) ∧ Hid (Below w.heap.size w wx)) (fun i _ => n - (intOf i).toNat)
      case atStart => exact ⟨0, Nat.zero_le _, rfl, HU.out, HW.out⟩
      case round =>
        clear HU HW
        obtain ⟨b, hb, rfl, HU, HW⟩ := hrel
        by_cases hbl : b < n
        · go_wp2_with fail
          go_loopw [8] (fun i wx => ∃ c : Nat, c ≤ n ∧ i = .int .i64 c ∧ Hid (No3 n P a b c) ∧ Hid (Below w.heap.size w wx)) (fun i _ => n - (intOf i).toNat)
          case atStart => exact ⟨0, Nat.zero_le _, rfl, HU.out, HW.out⟩
          case round =>
            clear HU HW
            obtain ⟨c, hc, rfl, HU, HW⟩ := hrel
            by_cases hcl : c < n
            · have HC := HCL.out a b c hal hbl hcl _ HW.out
              rcases (Bool.eq_false_or_eq_true (P a b c)).symm with hp | hp
              · have HN : Hid (No3 n P a b (c + 1)) := HU.out.next hp
                rw [hp] at HC
                clear HU hp
                go_wp2_with fail
                rw [hF, Oper.upon_enter]
                refine HC.mono ?_
                rintro e w' ⟨rfl, hbw⟩
                have HW2 : Hid (Below w.heap.size w w') := Below.then HW.out hbw
                clear HC hbw HW
                go_wp2_with fail
                go_roundw
                case rel => exact ⟨c + 1, by omega, by go_num, HN.out, HW2.out⟩
                case measure => simp [intOf]; omega
              · have HF : Hid (First3 n P [a, b, c] true) := .inl ⟨rfl, a, b, c, ⟨hal, hbl, hcl⟩, hp, HU.out, rfl⟩
                rw [hp] at HC
                clear HU hp
                go_wp2_with fail
                rw [hF, Oper.upon_enter]
                refine HC.mono ?_
                rintro e w' ⟨rfl, hbw⟩
                have HW2 : Hid (Below w.heap.size w w') := Below.then HW.out hbw
                have hsz := HW2.out.size
                clear HC hbw HW
                have HN3 := (show Hid _ from row3 w' a b c)
                have HB3 : Hid (Below w.heap.size w (w'.alloc (.cells #[.int .i64 (a : Nat), .int .i64 (b : Nat), .int .i64 (c : Nat)] 3))) := HW2.out.alloc hsz _
                clear hsz
                go_wp2_with fail
                go_ret2
                exact ⟨⟨_, _, _, rfl, HF.out, HN3.out⟩, HB3.out⟩
            · obtain rfl : c = n := by omega
              have HN : Hid (No3 c P a (b + 1) 0) := HU.out.y
              clear HU
              go_wp2_with fail
              go_roundw
              case rel => exact ⟨b + 1, by omega, by go_num, HN.out, HW.out⟩
              case measure => simp [intOf]; omega
        · obtain rfl : b = n := by omega
          have HN : Hid (No3 b P (a + 1) 0 0) := HU.out.x
          clear HU
          go_wp2_with fail
          go_roundw
          case rel => exact ⟨a + 1, by omega, by go_num, HN.out, HW.out⟩
          case measure => simp [intOf]; omega
    · obtain rfl : a = n := by omega
      have HF : Hid (First3 a P [] false) := .inr ⟨rfl, rfl, fun x y z hx hy hz => HU.out x y z hx hy hz (.inl hx)⟩
      clear HU
      go_wp2_with fail
      go_ret2
      exact ⟨⟨_, _, _, rfl, HF.out, none, 0, rfl, fun k hk => absurd hk (Nat.not_lt_zero _)⟩, HW.out⟩
theorem ent_rdis : Ent 31 := fun _ _ => rfl
set_option maxHeartbeats 4000000 in
theorem rdis1_any (n B b off cap b' off' cap' : Nat) (R R' : Nat → Nat × Nat × Nat) (m j : Nat → Nat → Nat) (w : World) (hm : Inn n m) (hj : Inn n j) (hL : LB w B (n : Nat) (some ⟨b, off, none⟩) n cap (some ⟨b', off', none⟩) n cap') (ht : Tb w b off n R m) (ho : Tb w b' off' n R' j) :
    Clo n 31 #[.pointer (some ⟨B, 0, none⟩)] (fun x y z => !(disB m j x y z)) w := fun x y z hx hy hz W hW => by
  show Calls Try.prog 31 #[.int .i64 (x : Nat), .int .i64 (y : Nat), .int .i64 (z : Nat), .pointer (some ⟨B, 0, none⟩)] W _
  have LL := hL.step hW
  have HT := ht.step hW
  have HO := ho.step hW
  have hxy := hm x y hx hy
  have hxz := hm x z hx hz
  have hyz := hj y z hy hz
  have c1 := LL.2.1
  have c2 := LL.2.2
  have r1 := (HT x hx).1
  have r2 := (HO y hy).1
  have r3 := (HO _ hxy).1
  have e1 := (HO y hy).2 z hz
  have e2 := (HT x hx).2 _ hyz
  have e3 := (HT x hx).2 y hy
  have e4 := (HT x hx).2 z hz
  have e5 := (HO _ hxy).2 _ hxz
  have ix : (x : Int) < (n : Int) := by omega
  have iy : (y : Int) < (n : Int) := by omega
  have iz : (z : Int) < (n : Int) := by omega
  have i4 : ((m x y : Nat) : Int) < (n : Int) := by omega
  have i5 : ((m x z : Nat) : Int) < (n : Int) := by omega
  have i6 : ((j y z : Nat) : Int) < (n : Int) := by omega
  clear HT HO ht ho hm hj hW LL hL
  have hKK : Hid (Below W.heap.size W W) := Below.refl _ _
  show Calls _ _ _ _ fun e w' => e = .returned (.bool (!(m x (j y z) == j (m x y) (m x z)))) ∧ _
  obtain ⟨v0, hv0⟩ : ∃ v, (m x (j y z) == j (m x y) (m x z)) = v := ⟨_, rfl⟩
  rw [hv0]
  rw [← int_beq] at hv0
  rcases v0 with _ | _
  · have hq : (((m x (j y z) : Nat) : Int) != ((j (m x y) (m x z) : Nat) : Int)) = true := by simp only [bne, hv0, Bool.not_false]
    go_enter Try.func31, Try.ntmps31
    go_wp2
    go_big_quiet (fail)
    go_wp2
    go_ret
    exact ⟨rfl, below_drewN hKK.out _⟩
  · have hq : (((m x (j y z) : Nat) : Int) != ((j (m x y) (m x z) : Nat) : Int)) = false := by simp only [bne, hv0, Bool.not_true]
    go_enter Try.func31, Try.ntmps31
    go_wp2
    go_big_quiet (fail)
    go_wp2
    go_ret
    exact ⟨rfl, below_drewN hKK.out _⟩
set_option maxHeartbeats 1000000 in
theorem refIsDistributive_any (q b off cap b' off' cap' : Nat) (R R' : Nat → Nat × Nat × Nat) (m j : Nat → Nat → Nat) (w : World) (h40 : q ≤ 40) (hm : Inn q m) (hj : Inn q j) (ht : Tb w b off q R m) (ho : Tb w b' off' q R' j) :
    Calls Try.prog 17 #[.agg #[.int .i64 (q : Nat), .slice (some ⟨b, off, none⟩) q cap, .slice (some ⟨b', off', none⟩) q cap']] w fun e w' => BIs e (All3 q (disB m j)) ∧ Below w.heap.size w w' := by
  have B1 : Below w.heap.size w (w.alloc (.cells #[.int .i64 (q : Nat), .slice (some ⟨b, off, none⟩) q cap, .slice (some ⟨b', off', none⟩) q cap'] 24)) := (Below.refl _ _).alloc (Nat.le_refl _) _
  have HB1 : Hid (Below w.heap.size w (w.alloc (.cells #[.int .i64 (q : Nat), .slice (some ⟨b, off, none⟩) q cap, .slice (some ⟨b', off', none⟩) q cap'] 24))) := B1
  have L0 := LB.new w (q : Nat) (some ⟨b, off, none⟩) q cap (some ⟨b', off', none⟩) q cap'
  have HQ : Hid (Clo q 31 #[.pointer (some ⟨w.heap.size, 0, none⟩)] (fun x y z => !(disB m j x y z)) _) := rdis1_any q w.heap.size b off cap b' off' cap' R R' m j _ hm hj L0 (ht.step B1) (ho.step B1)
  clear B1 L0 ht ho hm hj
  go_enter Try.func17, Try.ntmps17
  go_wp2_with fail
  refine (triple_any q 31 _ _ _ h40 ent_rdis HQ.out).mono ?_
  rintro e w2 ⟨⟨v, l, ok, rfl, hf, hn⟩, hb2⟩
  have HB3 : Hid (Below w.heap.size w w2) := Below.then HB1.out hb2
  have HE : Hid ((!ok) = true ↔ All3 q (disB m j)) := by
    rcases ok with _ | _
    · refine ⟨fun _ x y z hx hy hz => ?_, fun _ => rfl⟩
      rcases hf with ⟨h, _⟩ | ⟨_, _, h⟩
      · cases h
      · have := h x y z hx hy hz; simpa using this
    · refine ⟨fun h => (by cases h), fun h => ?_⟩
      obtain ⟨x, y, z, hx, hy, hz, hp⟩ := hf.ok.mp rfl
      have := h x y z hx hy hz
      rw [this] at hp; cases hp
  clear hb2 hf hn HB1 HQ
  go_wp2_with fail
  go_ret
  exact ⟨⟨_, rfl, HE.out⟩, HB3.out⟩
end Go.Proofs.Ytddpeldchffidaa
