/-
  What lattice.inBoth and lattice.isBelow answer. Conditions: the closure answers so of either table, in each world that leaves the first one as it was; at most forty elements.
  What tables.End, ideal.joinBelow and ideal.Irreducible answer. Conditions: of Irreducible none but that slices read as slices of rows.
-/
import Derived.Test.YthhnngmfbbljaaaGreatLaws
import Derived.Test.YthhnngmfbbljaaaGreatIrrM
namespace Go.Proofs.YthhnngmfbbljaaaGreat
set_option maxRecDepth 100000
open Go.RowKit

/-- A closure that answers p of a table. -/
def Clo1 (F : Nat) (caps : Array Value) (V : Value) (p : Bool) (w : World) : Prop :=
  ∀ W : World, Below w.heap.size w W → Calls Tryz.prog F (#[V] ++ caps) W fun e w' => e = .returned (.bool p) ∧ Below W.heap.size W w'
theorem Clo1.step {F : Nat} {caps : Array Value} {V : Value} {p : Bool} {w W : World} (h : Clo1 F caps V p w) (hb : Below w.heap.size w W) : Clo1 F caps V p W :=
  fun W' hW => h W' (Below.then hb hW)

set_option maxHeartbeats 1000000 in
theorem isUpTo_any (q b off cap : Nat) (b' : Option Addr) (lb cb : Nat) (R : Nat → Nat × Nat × Nat) (m : Nat → Nat → Nat) (x y : Nat) (w : World) (v : Bool) (hv : (m x y == x) = v) (ht1 : Tb w b off q R m) (hx : x < q) (hy : y < q) :
    Calls Tryz.prog 74 #[.agg #[.int .i64 (q : Nat), .slice (some ⟨b, off, none⟩) q cap, .slice b' lb cb], .int .i64 (x : Nat), .int .i64 (y : Nat)] w fun e w' => e = .returned (.bool v) ∧ Below w.heap.size w w' := by
  have B1 : Below w.heap.size w (w.alloc (.cells #[.int .i64 (q : Nat), .slice (some ⟨b, off, none⟩) q cap, .slice b' lb cb] 27)) := (Below.refl _ _).alloc (Nat.le_refl _) _
  have ht := ht1.step B1
  have HB : Hid (Below w.heap.size w (w.alloc (.cells #[.int .i64 (q : Nat), .slice (some ⟨b, off, none⟩) q cap, .slice b' lb cb] 27))) := B1
  have r1 := (ht x hx).1
  have r2 := (ht x hx).2 y hy
  have i1 : (x : Int) < (q : Int) := by omega
  have i2 : (y : Int) < (q : Int) := by omega
  have hq : (((m x y : Nat) : Int) == ((x : Nat) : Int)) = v := by rw [int_beq]; exact hv
  clear ht ht1 B1 hv
  go_enter Tryz.func74, Tryz.ntmps74
  go_wp2_with fail
  go_ret
  exact ⟨rfl, HB.out⟩

set_option maxHeartbeats 1000000 in
theorem isBelow_any (q b off cap : Nat) (b' : Option Addr) (lb cb : Nat) (R : Nat → Nat × Nat × Nat) (m : Nat → Nat → Nat) (x y : Nat) (w : World) (ht : Tb w b off q R m) (hx : x < q) (hy : y < q) :
    Calls Tryz.prog 94 #[.agg #[.int .i64 (q : Nat), .slice (some ⟨b, off, none⟩) q cap, .slice b' lb cb], .int .i64 (x : Nat), .int .i64 (y : Nat)] w fun e w' => e = .returned (.bool (!(x == y) && m x y == x)) ∧ Below w.heap.size w w' := by
  have B1 : Below w.heap.size w (w.alloc (.cells #[.int .i64 (q : Nat), .slice (some ⟨b, off, none⟩) q cap, .slice b' lb cb] 27)) := (Below.refl _ _).alloc (Nat.le_refl _) _
  have HB1 : Hid (Below w.heap.size w (w.alloc (.cells #[.int .i64 (q : Nat), .slice (some ⟨b, off, none⟩) q cap, .slice b' lb cb] 27))) := B1
  have HT : Hid (Tb (w.alloc (.cells #[.int .i64 (q : Nat), .slice (some ⟨b, off, none⟩) q cap, .slice b' lb cb] 27)) b off q R m) := ht.step B1
  clear B1 ht
  obtain ⟨v1, hv1⟩ : ∃ v, (x == y) = v := ⟨_, rfl⟩
  obtain ⟨v2, hv2⟩ : ∃ v, (m x y == x) = v := ⟨_, rfl⟩
  rw [hv1, hv2]
  rw [← int_beq] at hv1
  rcases v1 with _ | _
  · have hq : ((x : Int) != (y : Int)) = true := by simp only [bne, hv1, Bool.not_false]
    go_enter Tryz.func94, Tryz.ntmps94
    go_wp2_with fail
    refine (isUpTo_any q b off cap b' lb cb R m x y _ v2 hv2 HT.out hx hy).mono ?_
    rintro e w1 ⟨rfl, hb1⟩
    have HB2 : Hid (Below w.heap.size w w1) := Below.then HB1.out hb1
    clear hb1 HB1 HT
    go_wp2_with fail
    go_ret
    exact ⟨rfl, HB2.out⟩
  · have hq : ((x : Int) != (y : Int)) = false := by simp only [bne, hv1, Bool.not_true]
    go_enter Tryz.func94, Tryz.ntmps94
    go_wp2_with fail
    go_ret
    exact ⟨rfl, HB1.out⟩
end Go.Proofs.YthhnngmfbbljaaaGreat
namespace Go.Proofs.YthhnngmfbbljaaaGreat
set_option maxRecDepth 100000
open Go.RowKit

set_option maxHeartbeats 1000000 in
theorem end_any (n b off cap : Nat) (R : Nat → Nat × Nat × Nat) (m : Nat → Nat → Nat) (w : World) (h1 : 1 ≤ n) (h40 : n ≤ 40) (hi : Inn n m) (ht : Tb w b off n R m) :
    Calls Tryz.prog 93 #[.slice (some ⟨b, off, none⟩) n cap] w fun e w' => e = .returned (.int .i64 (en m n : Nat)) ∧ w' = w := by
  have HT : Hid (Tb w b off n R m) := ht
  have HI : Hid (∀ k, k ≤ n → en m k < n) := en_lt h1 hi
  clear ht hi
  go_enter Tryz.func93, Tryz.ntmps93
  go_wp2_with fail
  go_loopw [3, 7] (fun x i wx => ∃ k : Nat, k ≤ n ∧ i = .int .i64 k ∧ x = .int .i64 (en m k : Nat) ∧ wx = w) (fun _ i _ => n - (intOf i).toNat)
  case atStart => exact ⟨0, Nat.zero_le _, rfl, rfl, rfl⟩
  case round =>
    obtain ⟨k, hk, rfl, rfl, rfl⟩ := hrel
    by_cases hlt : k < n
    · have he := HI.out k hk
      have r1 := (HT.out _ he).1
      have e1 := (HT.out _ he).2 k hlt
      have i1 : ((en m k : Nat) : Int) < (n : Int) := by omega
      have i2 : (k : Int) < (n : Int) := by omega
      have HN : Hid (m (en m k) k = en m (k + 1)) := rfl
      go_wp2_with fail
      go_roundw
      case rel => exact ⟨k + 1, by omega, by go_num, by rw [← HN.out], by first | rfl | trivial⟩
      case measure => simp [intOf]; omega
    · obtain rfl : k = n := by omega
      go_wp2_with fail
      go_ret
      exact ⟨rfl, rfl⟩
set_option maxHeartbeats 2000000 in
theorem joinBelow_any (n b1 o1 ca b2 o2 cb : Nat) (R1 R2 : Nat → Nat × Nat × Nat) (m j : Nat → Nat → Nat) (x : Nat) (w : World) (h1 : 1 ≤ n) (h40 : n ≤ 40) (hm : Inn n m) (hj : Inn n j) (hx : x < n) (ht1 : Tb w b1 o1 n R1 m) (ht2 : Tb w b2 o2 n R2 j) :
    Calls Tryz.prog 73 #[.agg #[.int .i64 (n : Int), .slice (some ⟨b1, o1, none⟩) n ca, .slice (some ⟨b2, o2, none⟩) n cb], .int .i64 (x : Nat)] w fun e w' => e = .returned (.int .i64 (jbl m j n x n : Nat)) ∧ Below w.heap.size w w' := by
  obtain ⟨W, HWE⟩ : ∃ W, Hid (W = w.alloc (.cells #[.int .i64 (n : Int), .slice (some ⟨b1, o1, none⟩) n ca, .slice (some ⟨b2, o2, none⟩) n cb] 27)) := ⟨_, rfl⟩
  have B1 : Below w.heap.size w W := by rw [HWE.out]; exact (Below.refl _ _).alloc (Nat.le_refl _) _
  have L0 : LB W w.heap.size (n : Int) (some ⟨b1, o1, none⟩) n ca (some ⟨b2, o2, none⟩) n cb := by rw [HWE.out]; exact LB.new w _ _ _ _ _ _ _
  have HT1 : Hid (∀ wx, Below W.heap.size W wx → Tb wx b1 o1 n R1 m) := fun wx h => (ht1.step B1).step h
  have HT2 : Hid (∀ wx, Below W.heap.size W wx → Tb wx b2 o2 n R2 j) := fun wx h => (ht2.step B1).step h
  have HL : Hid (∀ wx, Below W.heap.size W wx → LB wx w.heap.size (n : Int) (some ⟨b1, o1, none⟩) n ca (some ⟨b2, o2, none⟩) n cb) := fun wx h => L0.step h
  have HB0 : Hid (Below w.heap.size w W) := B1
  have HI : Hid (∀ k, k ≤ n → jbl m j n x k < n) := fun k hk => jbl_lt h1 hm hj k hk
  have HIM : Hid (Inn n m) := hm
  have l0 := L0.1
  have l1 := L0.2.1
  have l2 := L0.2.2
  clear ht1 ht2 B1 L0 hm hj
  go_enter Tryz.func73, Tryz.ntmps73
  go_wp2_with fail
  rw [← HWE.out]
  go_wp2_with (go_at_call 93; refine (end_any n b1 o1 ca R1 m _ h1 h40 HIM.out (HT1.out _ (Below.refl _ _))).mono ?_; rintro e w' ⟨rfl, hww⟩; have hw2 := hww.symm; subst hw2)
  clear HWE l0 l1 l2
  go_loopw [5, 12] (fun v i wx => ∃ k : Nat, k ≤ n ∧ i = .int .i64 k ∧ v = .int .i64 (jbl m j n x k : Nat) ∧ Hid (Below W.heap.size W wx)) (fun _ i _ => n - (intOf i).toNat)
  case atStart => exact ⟨0, Nat.zero_le _, rfl, rfl, Below.refl _ _⟩
  case round =>
    obtain ⟨k, hk, rfl, rfl, HW⟩ := hrel
    by_cases hlt : k < n
    · have L1 := HL.out _ HW.out
      have l0 := L1.1
      have l1 := L1.2.1
      have l2 := L1.2.2
      rcases hb : ltB m k x with _ | _
      · have HE : Hid (jbl m j n x (k + 1) = jbl m j n x k) := jbl_no hb
        go_wp2_with fail
        refine (isBelow_any n b1 o1 ca (some ⟨b2, o2, none⟩) n cb R1 m k x _ (HT1.out _ HW.out) hlt hx).mono ?_
        rintro e w2 ⟨rfl, hb2⟩
        rw [show (!(k == x) && m k x == k) = false from hb]
        have HW2 : Hid (Below W.heap.size W w2) := Below.then HW.out hb2
        clear hb2 HW L1 l0 l1 l2
        go_wp2_with fail
        go_roundw
        case rel => exact ⟨k + 1, by omega, by go_num, by rw [HE.out], HW2⟩
        case measure => simp [intOf]; omega
      · have HE : Hid (jbl m j n x (k + 1) = j (jbl m j n x k) k) := jbl_yes hb
        have hq := HI.out k hk
        go_wp2_with fail
        refine (isBelow_any n b1 o1 ca (some ⟨b2, o2, none⟩) n cb R1 m k x _ (HT1.out _ HW.out) hlt hx).mono ?_
        rintro e w2 ⟨rfl, hb2⟩
        rw [show (!(k == x) && m k x == k) = true from hb]
        have HW2 : Hid (Below W.heap.size W w2) := Below.then HW.out hb2
        have L2 := HL.out _ HW2.out
        have p0 := L2.1
        have p1 := L2.2.1
        have p2 := L2.2.2
        have r1 := (HT2.out _ HW2.out _ hq).1
        have r2 := (HT2.out _ HW2.out _ hq).2 k hlt
        have i1 : ((jbl m j n x k : Nat) : Int) < (n : Int) := by omega
        have i2 : (k : Int) < (n : Int) := by omega
        clear hb2 HW L1 l0 l1 l2 L2
        go_wp2_with fail
        go_roundw
        case rel => exact ⟨k + 1, by omega, by go_num, by rw [HE.out], HW2⟩
        case measure => simp [intOf]; omega
    · obtain rfl : k = n := by omega
      go_wp2_with fail
      go_ret
      exact ⟨rfl, Below.then HB0.out HW.out⟩

def IrrPost (n : Int) (la : Nat) (SA : Nat → Option Addr × Nat × Nat) (FA : Nat → Nat → Int) (lb : Nat) (SB : Nat → Option Addr × Nat × Nat) (FB : Nat → Nat → Int) (e : Ending) (w' : World) : Prop :=
  ∃ (c : Int) (v : Value), LCk n la SA FA lb SB FB c ∧ e = .returned (.tuple #[v, .int .i64 c]) ∧ ((c ≠ 0 ∧ v = .slice none 0 0) ∨ (c = 0 ∧ NSl w' v (irrs (nat2 FA) (nat2 FB) n.toNat)))

set_option maxHeartbeats 4000000 in
theorem irr_any (n : Int) (a : Option Addr) (la ca : Nat) (SA : Nat → Option Addr × Nat × Nat) (FA : Nat → Nat → Int) (b : Option Addr) (lb cb : Nat) (SB : Nat → Option Addr × Nat × Nat) (FB : Nat → Nat → Int) (w : World) (hla : la ≤ maxLen) (hlb : lb ≤ maxLen) (hra : RR w a la SA FA) (hrb : RR w b lb SB FB) :
    Calls Tryz.prog 46 #[.agg #[.int .i64 n, .slice a la ca, .slice b lb cb]] w fun e w' => IrrPost n la SA FA lb SB FB e w' ∧ Below w.heap.size w w' := by
  obtain ⟨i0, hi, hz0, hz1, hz2⟩ := info_parts Tryz.info3
  have B1 : Below w.heap.size w (w.alloc (.cells #[.int .i64 n, .slice a la ca, .slice b lb cb] 27)) := (Below.refl _ _).alloc (Nat.le_refl _) _
  have L0 := LB.new w n a la ca b lb cb
  have HB1 : Hid (Below w.heap.size w (w.alloc (.cells #[.int .i64 n, .slice a la ca, .slice b lb cb] 27))) := B1
  have HRA : Hid (RR _ a la SA FA) := hra.below HB1.out
  have HRB : Hid (RR _ b lb SB FB) := hrb.below HB1.out
  clear hra hrb B1
  have l0 := L0.1
  have l1 := L0.2.1
  have l2 := L0.2.2
  go_enter Tryz.func46, Tryz.ntmps46
  go_wp2_with fail
  refine (lCheck_any n a la ca SA FA b lb cb SB FB _ hla hlb HRA.out HRB.out).mono ?_
  rintro e w1 ⟨⟨c, rfl, hc⟩, hb1⟩
  have HB2 : Hid (Below w.heap.size w w1) := Below.then HB1.out hb1
  have L1 := L0.step hb1
  have k0 := L1.1
  have HC : Hid (LCk n la SA FA lb SB FB c) := hc
  by_cases h0 : c = 0
  · subst h0
    obtain ⟨q, rfl, h1, h40, e1, e2, hs1, hs2, hg1, hg2, hlat⟩ := hc.good
    obtain rfl := e1.symm
    obtain rfl := e2.symm
    obtain ⟨b1, o1, rfl, ht1, _⟩ := (HRA.out.below hb1).tb h1 hs1 hg1
    obtain ⟨b2, o2, rfl, ht2, _⟩ := (HRB.out.below hb1).tb h1 hs2 hg2
    have HT1 : Hid (Tb w1 b1 o1 q (fun x => rAt (SA x)) (nat2 FA)) := ht1
    have HT2 : Hid (Tb w1 b2 o2 q (fun x => rAt (SB x)) (nat2 FB)) := ht2
    have HI1 : Hid (Inn q (nat2 FA)) := hlat.im
    have HI2 : Hid (Inn q (nat2 FB)) := hlat.ij
    have HL1 : Hid (LB w1 w.heap.size (q : Nat) (some ⟨b1, o1, none⟩) q ca (some ⟨b2, o2, none⟩) q cb) := L1
    obtain ⟨I, HI⟩ : ∃ I, Hid (I = irrB (nat2 FA) (nat2 FB) q) := ⟨_, rfl⟩
    have HIA : Hid (∀ x, (!(jbl (nat2 FA) (nat2 FB) q x q == x)) = I x) := fun x => by rw [HI.out]; rfl
    have HEQ : Hid (irrs (nat2 FA) (nat2 FB) (q : Int).toNat = filt I q) := by rw [HI.out]; rfl
    clear hb1 HB1 hc L0 l0 l1 l2 hs1 hs2 hg1 hg2 hlat ht1 ht2
    go_wp2_with fail
    clear k0 L1
    go_loopw [5, 14] (fun v i wx => ∃ k : Nat, k ≤ q ∧ i = .int .i64 k ∧ Hid (wx.ownsRow w1.heap.size 3 1 v (filt I k).length (natVals (filt I k))) ∧ Hid (Below w1.heap.size w1 wx)) (fun _ i _ => q - (intOf i).toNat)
    case atStart => exact ⟨0, Nat.zero_le _, rfl, World.ownsRow_nil _ _ _ _, Below.refl _ _⟩
    case round =>
      obtain ⟨k, hk, rfl, HOW, HW⟩ := hrel
      by_cases hlt : k < q
      · have L2 := HL1.out.step HW.out
        have l0 := L2.1
        have l1 := L2.2.1
        have l2 := L2.2.2
        have hlen := filt_len I k
        go_wp2_with fail
        refine (joinBelow_any q b1 o1 ca b2 o2 cb _ _ (nat2 FA) (nat2 FB) k _ h1 h40 HI1.out HI2.out hlt (HT1.out.step HW.out) (HT2.out.step HW.out)).mono ?_
        rintro e w5 ⟨rfl, hb5⟩
        have HW5 : Hid (Below w1.heap.size w1 w5) := Below.then HW.out hb5
        have HO5 : Hid (w5.ownsRow w1.heap.size 3 1 u5 (filt I k).length (natVals (filt I k))) := owns_below HOW.out hb5
        have hcmp : (((jbl (nat2 FA) (nat2 FB) q k q : Nat) : Int) != ((k : Nat) : Int)) = I k := by
          rw [← HIA.out k]
          rw [Bool.eq_iff_iff]; simp; omega
        clear hb5 l0 l1 l2 HW HOW L2
        rcases ho : I k with _ | _
        · have HN : Hid (filt I (k + 1) = filt I k) := filt_no ho
          rw [ho] at hcmp
          go_wp2_with fail
          go_roundw
          case rel => exact ⟨k + 1, by omega, by go_num, by rw [HN.out]; exact HO5.out, HW5.out⟩
          case measure => simp [intOf]; omega
        · have HN : Hid (filt I (k + 1) = filt I k ++ [k]) := filt_yes ho
          rw [ho] at hcmp
          have hown := HO5.out
          have hsz := HW5.out.size
          generalize filt I k = P at *
          go_wp2_with (at_builtin; refine wpList_append_own _ rfl _ _ 22 rfl w1.heap.size 3 i0 (.int .i64 0) 1 8 Tryz.underlying22 hi hz0 hz1 hz2 rfl (by decide) _ _ _ rfl (hown.alloc _) ⟨w5.heap.size, 0, none⟩ 1 1 [.int .i64 (k : Nat)] rfl rfl ?c1 ?c2 ?c3 ?c4 ?c5 ?_)
          case c1 =>
            intro j u hj
            match j, hj with
            | 0, hj => simp at hj; subst hj; simp [Addr.add]
          case c2 => intro u hu; simp at hu; subst hu; rfl
          case c3 => unfold maxLen; omega
          case c4 => omega
          case c5 => simp; omega
          intro v' w6 hown' hgrow _
          have HW6 : Hid (Below w1.heap.size w1 w6) := (HW5.out.alloc hsz _).grown hgrow (by simp; omega) (owns_block hown)
          have HO6 : Hid (w6.ownsRow w1.heap.size 3 1 v' (P ++ [k]).length (natVals (P ++ [k]))) := by
            rw [natVals_append, List.length_append]; exact hown'
          clear hown' hgrow hown HO5 HW5
          go_wp2_with fail
          go_roundw
          case rel => exact ⟨k + 1, by omega, by go_num, by rw [HN.out]; exact HO6.out, HW6.out⟩
          case measure => simp [intOf]; omega
      · obtain rfl : k = q := by omega
        have HF : Hid (NSl wr u5 (irrs (nat2 FA) (nat2 FB) (k : Int).toNat)) := by rw [HEQ.out]; exact owns_nats HOW.out
        clear HOW
        go_wp2_with fail
        go_ret2
        exact ⟨⟨0, _, HC.out, rfl, .inr ⟨rfl, HF.out⟩⟩, Below.then HB2.out HW.out⟩
  · have hne : (c != 0) = true := by simpa using h0
    clear hc
    go_wp2_with fail
    go_ret2
    exact ⟨⟨c, _, HC.out, rfl, .inl ⟨h0, rfl⟩⟩, HB2.out⟩
end Go.Proofs.YthhnngmfbbljaaaGreat
