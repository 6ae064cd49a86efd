/-
  What lattice.Others answers. No condition but that slices read as slices of rows.
-/
import Derived.Deep.RegionHeld3
import Derived.Test.YtmehncflaipldaaGal0
namespace Go.Proofs.Ytmehncflaipldaa
set_option maxRecDepth 100000
open Go.RowKit

set_option maxHeartbeats 2000000 in
theorem inBoth_any (n : Int) (a : Option Addr) (la ca : Nat) (b : Option Addr) (lb cb F : Nat) (caps : Array Value) (p q : Bool) (w : World) (hF : Ent F)
    (hA : Clo1 F caps (.slice a la ca) p w) (hB : Clo1 F caps (.slice b lb cb) q w) :
    Calls Try.prog 32 #[.agg #[.int .i64 n, .slice a la ca, .slice b lb cb], .func (.func F) #[] caps] w fun e w' => e = .returned (.bool (p && q)) ∧ Below w.heap.size w w' := by
  have HA : Hid (Clo1 F caps (.slice a la ca) p w) := hA
  have HB : Hid (Clo1 F caps (.slice b lb cb) q w) := hB
  have HB1 : Hid (Below w.heap.size w (w.alloc (.cells #[.int .i64 n, .slice a la ca, .slice b lb cb] 24))) := (Below.refl _ _).alloc (Nat.le_refl _) _
  clear hA hB
  have ix0 := index2_0 (.slice a la ca) (.slice b lb cb)
  have ix1 := index2_1 (.slice a la ca) (.slice b lb cb)
  go_enter Try.func32, Try.ntmps32
  go_wp2_with fail
  refine (tables_any n a b la ca lb cb _).mono ?_
  rintro e w1 ⟨rfl, hb1⟩
  have HB2 : Hid (Below w.heap.size w w1) := Below.then HB1.out hb1
  clear hb1 HB1
  go_wp2_with fail
  go_loopw [9] (fun i wx => ∃ k : Nat, k ≤ 2 ∧ i = .int .i64 k ∧ Hid (Below w.heap.size w wx) ∧ Hid ((0 < k → p = true) ∧ (1 < k → q = true))) (fun i _ => 2 - (intOf i).toNat)
  case atStart => exact ⟨0, Nat.zero_le _, rfl, HB2.out, fun h => absurd h (Nat.lt_irrefl _), fun h => absurd h (by omega)⟩
  case round =>
    clear HB2
    obtain ⟨k, hk, rfl, HW, HK⟩ := hrel
    rcases (by omega : k = 0 ∨ k = 1 ∨ k = 2) with rfl | rfl | rfl
    · have HC := HA.out _ HW.out
      rcases p with _ | _
      · go_wp2_with fail
        rw [hF, Oper.upon_enter]
        refine HC.mono ?_
        rintro e w' ⟨rfl, hbw⟩
        have HW2 : Hid (Below w.heap.size w w') := Below.then HW.out hbw
        clear HC hbw
        go_wp2_with fail
        go_ret
        exact ⟨by rw [Bool.false_and]; rfl, HW2.out⟩
      · go_wp2_with fail
        rw [hF, Oper.upon_enter]
        refine HC.mono ?_
        rintro e w' ⟨rfl, hbw⟩
        have HW2 : Hid (Below w.heap.size w w') := Below.then HW.out hbw
        clear HC hbw
        go_wp2_with fail
        go_roundw
        case rel => exact ⟨1, by omega, rfl, HW2.out, fun _ => by first | rfl | trivial, fun h => absurd h (by omega)⟩
        case measure => simp [intOf]
    · have HC := HB.out _ HW.out
      obtain rfl : p = true := HK.out.1 (by omega)
      rcases q with _ | _
      · go_wp2_with fail
        rw [hF, Oper.upon_enter]
        refine HC.mono ?_
        rintro e w' ⟨rfl, hbw⟩
        have HW2 : Hid (Below w.heap.size w w') := Below.then HW.out hbw
        clear HC hbw
        go_wp2_with fail
        go_ret
        exact ⟨rfl, HW2.out⟩
      · go_wp2_with fail
        rw [hF, Oper.upon_enter]
        refine HC.mono ?_
        rintro e w' ⟨rfl, hbw⟩
        have HW2 : Hid (Below w.heap.size w w') := Below.then HW.out hbw
        clear HC hbw
        go_wp2_with fail
        go_roundw
        case rel => exact ⟨2, by omega, rfl, HW2.out, fun _ => by first | rfl | trivial, fun _ => by first | rfl | trivial⟩
        case measure => simp [intOf]
    · obtain rfl : p = true := HK.out.1 (by omega)
      obtain rfl : q = true := HK.out.2 (by omega)
      go_wp2_with fail
      go_ret
      exact ⟨rfl, HW.out⟩
theorem ent_oth1 : Ent 33 := fun _ _ => rfl
set_option maxHeartbeats 1000000 in
theorem oth1_any (n b off cap c0 c1 : Nat) (R : Nat → Nat × Nat × Nat) (m : Nat → Nat → Nat) (x y : Nat) (w : World) (h1 : 1 ≤ n) (h40 : n ≤ 40) (hi : Inn n m) (hx : x < n) (hy : y < n)
    (h0 : w.cell? ⟨c0, 0, none⟩ = some (.int .i64 (x : Nat))) (h2 : w.cell? ⟨c1, 0, none⟩ = some (.int .i64 (y : Nat))) (ht : Tb w b off n R m) :
    Clo1 33 #[.pointer (some ⟨c0, 0, none⟩), .pointer (some ⟨c1, 0, none⟩)] (.slice (some ⟨b, off, none⟩) n cap) (m x y == en m n) w := fun W hW => by
  show Calls Try.prog 33 #[.slice (some ⟨b, off, none⟩) n cap, .pointer (some ⟨c0, 0, none⟩), .pointer (some ⟨c1, 0, none⟩)] W _
  have k0 := cell_step hW h0
  have k1 := cell_step hW h2
  have HT := ht.step hW
  have HTT : Hid (∀ k, Tb (W.drewN k) b off n R m) := fun k => HT.step (below_drewN (Below.refl _ _) k)
  have r1 := (HT x hx).1
  have e1 := (HT x hx).2 y hy
  have ix : (x : Int) < (n : Int) := by omega
  have iy : (y : Int) < (n : Int) := by omega
  have hKK : Hid (Below W.heap.size W W) := Below.refl _ _
  have HI : Hid (Inn n m) := hi
  clear HT ht h0 h2 hW hi
  obtain ⟨v0, hv0⟩ : ∃ v, (m x y == en m n) = v := ⟨_, rfl⟩
  rw [hv0]
  rw [← int_beq] at hv0
  rcases v0 with _ | _
  · go_enter Try.func33, Try.ntmps33
    go_wp2
    go_big_quiet ((go_at_call 34; exact Calls.quiet_of_same (end_any n b off cap R m _ h1 h40 HI.out (HTT.out _))))
    go_wp2
    go_ret
    exact ⟨rfl, below_drewN hKK.out _⟩
  · go_enter Try.func33, Try.ntmps33
    go_wp2
    go_big_quiet ((go_at_call 34; exact Calls.quiet_of_same (end_any n b off cap R m _ h1 h40 HI.out (HTT.out _))))
    go_wp2
    go_ret
    exact ⟨rfl, below_drewN hKK.out _⟩
/-- What Others must answer. -/
def OCk (n : Int) (x : Int) (c0 c : Int) : Prop := (c0 ≠ 0 ∧ c = c0) ∨ (c0 = 0 ∧ ((c = 3 ∧ ¬ (0 ≤ x ∧ x < n)) ∨ (c = 0 ∧ 0 ≤ x ∧ x < n)))
def OthPost (n : Int) (la : Nat) (SA : Nat → Option Addr × Nat × Nat) (FA : Nat → Nat → Int) (lb : Nat) (SB : Nat → Option Addr × Nat × Nat) (FB : Nat → Nat → Int) (x : Int) (e : Ending) (w' : World) : Prop :=
  ∃ (c0 c : Int) (v : Value), LCk n la SA FA lb SB FB c0 ∧ OCk n x c0 c ∧ e = .returned (.tuple #[v, .int .i64 c]) ∧ ((c ≠ 0 ∧ v = .slice none 0 0) ∨ (c = 0 ∧ NSl w' v (oths n.toNat (nat2 FA) (nat2 FB) x.toNat n.toNat)))
set_option maxHeartbeats 4000000 in
theorem others_any (n : Int) (a : Option Addr) (la ca : Nat) (SA : Nat → Option Addr × Nat × Nat) (FA : Nat → Nat → Int) (b : Option Addr) (lb cb : Nat) (SB : Nat → Option Addr × Nat × Nat) (FB : Nat → Nat → Int) (x : Int) (w : World) (hla : la ≤ maxLen) (hlb : lb ≤ maxLen) (hra : RR w a la SA FA) (hrb : RR w b lb SB FB) :
    Calls Try.prog 20 #[.agg #[.int .i64 n, .slice a la ca, .slice b lb cb], .int .i64 x] w fun e w' => OthPost n la SA FA lb SB FB x e w' ∧ Below w.heap.size w w' := by
  obtain ⟨i0, hi, hz0, hz1, hz2⟩ := info_parts Try.info3
  have B1 : Below w.heap.size w (w.alloc (.cells #[.int .i64 n, .slice a la ca, .slice b lb cb] 24)) := (Below.refl _ _).alloc (Nat.le_refl _) _
  have B2 : Below (w.alloc (.cells #[.int .i64 n, .slice a la ca, .slice b lb cb] 24)).heap.size (w.alloc (.cells #[.int .i64 n, .slice a la ca, .slice b lb cb] 24)) ((w.alloc (.cells #[.int .i64 n, .slice a la ca, .slice b lb cb] 24)).alloc (.cells #[.int .i64 x] 3)) := (Below.refl _ _).alloc (Nat.le_refl _) _
  have L0 := (LB.new w n a la ca b lb cb).step B2
  have x0 : ((w.alloc (.cells #[.int .i64 n, .slice a la ca, .slice b lb cb] 24)).alloc (.cells #[.int .i64 x] 3)).cell? ⟨w.heap.size + 1, 0, none⟩ = some (.int .i64 x) := by simp
  have HB1 : Hid (Below w.heap.size w ((w.alloc (.cells #[.int .i64 n, .slice a la ca, .slice b lb cb] 24)).alloc (.cells #[.int .i64 x] 3))) := Below.then B1 B2
  have HRA : Hid (RR _ a la SA FA) := hra.below HB1.out
  have HRB : Hid (RR _ b lb SB FB) := hrb.below HB1.out
  clear hra hrb B1 B2
  have l0 := L0.1
  have l1 := L0.2.1
  have l2 := L0.2.2
  go_enter Try.func20, Try.ntmps20
  go_wp2_with fail
  refine (lCheck_any n a la ca SA FA b lb cb SB FB _ hla hlb HRA.out HRB.out).mono ?_
  rintro e w1 ⟨⟨c, rfl, hc⟩, hb1⟩
  have HB2 : Hid (Below w.heap.size w w1) := Below.then HB1.out hb1
  have L1 := L0.step hb1
  have x1 := cell_step hb1 x0
  have k0 := L1.1
  have HC : Hid (LCk n la SA FA lb SB FB c) := hc
  by_cases h0 : c = 0
  · subst h0
    obtain ⟨p, hp⟩ : ∃ p, pnt x n = p := ⟨_, rfl⟩
    rcases p with _ | _
    · have HO : Hid (OCk n x 0 3) := .inr ⟨rfl, .inl ⟨rfl, by simp [pnt] at hp; omega⟩⟩
      clear hb1 HB1 hc L0 l0 l1 l2 x0
      go_wp2_with (go_at_call 22; refine (isPoint_as _ _ _ _ hp).mono ?_; rintro e w' ⟨rfl, hww⟩; subst hww)
      go_ret2
      exact ⟨⟨0, 3, _, HC.out, HO.out, rfl, .inl ⟨by decide, rfl⟩⟩, HB2.out⟩
    · have hx : 0 ≤ x ∧ x < n := by simp [pnt] at hp; exact hp
      have HO : Hid (OCk n x 0 0) := .inr ⟨rfl, .inr ⟨rfl, hx⟩⟩
      obtain ⟨q, rfl, h1, h40, e1, e2, hs1, hs2, hg1, hg2, hlat⟩ := hc.good
      obtain rfl := e1.symm
      obtain rfl := e2.symm
      obtain ⟨b1, o1, rfl, ht1, _⟩ := (HRA.out.below hb1).tb h1 hs1 hg1
      obtain ⟨b2, o2, rfl, ht2, _⟩ := (HRB.out.below hb1).tb h1 hs2 hg2
      obtain ⟨y, rfl⟩ := Int.eq_ofNat_of_zero_le hx.1
      have hyq : y < q := by omega
      have HT1 : Hid (Tb w1 b1 o1 q (fun x => rAt (SA x)) (nat2 FA)) := ht1
      have HT2 : Hid (Tb w1 b2 o2 q (fun x => rAt (SB x)) (nat2 FB)) := ht2
      have HI1 : Hid (Inn q (nat2 FA)) := hlat.im
      have HI2 : Hid (Inn q (nat2 FB)) := hlat.ij
      have HL1 : Hid (LB w1 w.heap.size (q : Nat) (some ⟨b1, o1, none⟩) q ca (some ⟨b2, o2, none⟩) q cb) := L1
      have HX1 : Hid (w1.cell? ⟨w.heap.size + 1, 0, none⟩ = some (.int .i64 (y : Nat))) := x1
      have HEQ : Hid (oths q (nat2 FA) (nat2 FB) y q = oths (q : Int).toNat (nat2 FA) (nat2 FB) (y : Int).toNat (q : Int).toNat) := rfl
      clear hb1 HB1 hc L0 l0 l1 l2 x0 hs1 hs2 hg1 hg2 hlat ht1 ht2 hx
      go_wp2_with (go_at_call 22; refine (isPoint_as _ _ _ _ hp).mono ?_; rintro e w' ⟨rfl, hww⟩; subst hww)
      clear k0 x1 L1 hp
      go_loopw [7, 21] (fun v i wx => ∃ k : Nat, k ≤ q ∧ i = .int .i64 k ∧ Hid (wx.ownsRow w1.heap.size 3 1 v (oths q (nat2 FA) (nat2 FB) y k).length (natVals (oths q (nat2 FA) (nat2 FB) y k))) ∧ Hid (Below w1.heap.size w1 wx)) (fun _ i _ => q - (intOf i).toNat)
      case atStart => exact ⟨0, Nat.zero_le _, rfl, World.ownsRow_nil _ _ _ _, Below.refl _ _⟩
      case round =>
        obtain ⟨k, hk, rfl, HOW, HW⟩ := hrel
        by_cases hlt : k < q
        · have BA : Below wr.heap.size wr (wr.alloc (.cells #[.int .i64 (k : Nat)] 3)) := (Below.refl _ _).alloc (Nat.le_refl _) _
          have hW := Below.then HW.out BA
          have L2 := HL1.out.step hW
          have l0 := L2.1
          have l1 := L2.2.1
          have l2 := L2.2.2
          have y0 := cell_step hW HX1.out
          have y1 : (wr.alloc (.cells #[.int .i64 (k : Nat)] 3)).cell? ⟨wr.heap.size, 0, none⟩ = some (.int .i64 (k : Nat)) := by simp
          have HCA : Hid (Clo1 33 #[.pointer (some ⟨w.heap.size + 1, 0, none⟩), .pointer (some ⟨wr.heap.size, 0, none⟩)] (.slice (some ⟨b1, o1, none⟩) q ca) (nat2 FA y k == en (nat2 FA) q) (wr.alloc (.cells #[.int .i64 (k : Nat)] 3))) := oth1_any q b1 o1 ca _ _ _ _ y k _ h1 h40 HI1.out hyq hlt y0 y1 (HT1.out.step hW)
          have HCB : Hid (Clo1 33 #[.pointer (some ⟨w.heap.size + 1, 0, none⟩), .pointer (some ⟨wr.heap.size, 0, none⟩)] (.slice (some ⟨b2, o2, none⟩) q cb) (nat2 FB y k == en (nat2 FB) q) (wr.alloc (.cells #[.int .i64 (k : Nat)] 3))) := oth1_any q b2 o2 cb _ _ _ _ y k _ h1 h40 HI2.out hyq hlt y0 y1 (HT2.out.step hW)
          have HWA : Hid (Below w1.heap.size w1 (wr.alloc (.cells #[.int .i64 (k : Nat)] 3))) := hW
          have HOA : Hid ((wr.alloc (.cells #[.int .i64 (k : Nat)] 3)).ownsRow w1.heap.size 3 1 u7 (oths q (nat2 FA) (nat2 FB) y k).length (natVals (oths q (nat2 FA) (nat2 FB) y k))) := owns_below HOW.out BA
          have HY1 : Hid ((wr.alloc (.cells #[.int .i64 (k : Nat)] 3)).cell? ⟨wr.heap.size, 0, none⟩ = some (.int .i64 (k : Nat))) := y1
          have HTR : Hid (othB q (nat2 FA) (nat2 FB) y k = (nat2 FA y k == en (nat2 FA) q && nat2 FB y k == en (nat2 FB) q)) := rfl
          have hlen := oths_len q (nat2 FA) (nat2 FB) y k
          clear hW L2 BA
          go_wp2_with fail
          refine (inBoth_any q _ _ _ _ _ _ 33 _ _ _ _ ent_oth1 HCA.out HCB.out).mono ?_
          rintro e w5 ⟨rfl, hb5⟩
          rw [← HTR.out]
          have HW5 : Hid (Below w1.heap.size w1 w5) := Below.then HWA.out hb5
          have HO5 : Hid (w5.ownsRow w1.heap.size 3 1 u7 (oths q (nat2 FA) (nat2 FB) y k).length (natVals (oths q (nat2 FA) (nat2 FB) y k))) := owns_below HOA.out hb5
          have y5 := cell_step hb5 HY1.out
          clear HCA HCB HTR hb5 l0 l1 l2 y0 y1 HWA HOA HW HOW
          rcases ho : othB q (nat2 FA) (nat2 FB) y k with _ | _
          · have HN : Hid (oths q (nat2 FA) (nat2 FB) y (k + 1) = oths q (nat2 FA) (nat2 FB) y k) := oths_no ho
            go_wp2_with fail
            go_roundw
            case rel => exact ⟨k + 1, by omega, by go_num, by rw [HN.out]; exact HO5.out, HW5.out⟩
            case measure => simp [intOf]; omega
          · have HN : Hid (oths q (nat2 FA) (nat2 FB) y (k + 1) = oths q (nat2 FA) (nat2 FB) y k ++ [k]) := oths_yes ho
            have hown := HO5.out
            have hsz := HW5.out.size
            generalize oths q (nat2 FA) (nat2 FB) y k = P at *
            go_wp2_with (at_builtin; refine wpList_append_own _ rfl _ _ 33 rfl w1.heap.size 3 i0 (.int .i64 0) 1 8 Try.underlying33 hi hz0 hz1 hz2 rfl (by decide) _ _ _ rfl (hown.alloc _) ⟨w5.heap.size, 0, none⟩ 1 1 [.int .i64 (k : Nat)] rfl rfl ?c1 ?c2 ?c3 ?c4 ?c5 ?_)
            case c1 =>
              intro j u hj
              match j, hj with
              | 0, hj => simp at hj; subst hj; simp [Addr.add]
            case c2 => intro u hu; simp at hu; subst hu; rfl
            case c3 => unfold maxLen; omega
            case c4 => omega
            case c5 => simp; omega
            intro v' w6 hown' hgrow _
            have HW6 : Hid (Below w1.heap.size w1 w6) := (HW5.out.alloc hsz _).grown hgrow (by simp; omega) (owns_block hown)
            have HO6 : Hid (w6.ownsRow w1.heap.size 3 1 v' (P ++ [k]).length (natVals (P ++ [k]))) := by
              rw [natVals_append, List.length_append]; exact hown'
            clear hown' hgrow hown HO5 HW5
            go_wp2_with fail
            go_roundw
            case rel => exact ⟨k + 1, by omega, by go_num, by rw [HN.out]; exact HO6.out, HW6.out⟩
            case measure => simp [intOf]; omega
        · obtain rfl : k = q := by omega
          have HF : Hid (NSl wr u7 (oths (k : Int).toNat (nat2 FA) (nat2 FB) (y : Int).toNat (k : Int).toNat)) := by rw [← HEQ.out]; exact owns_nats HOW.out
          clear HOW
          go_wp2_with fail
          go_ret2
          exact ⟨⟨0, 0, _, HC.out, HO.out, rfl, .inr ⟨rfl, HF.out⟩⟩, Below.then HB2.out HW.out⟩
  · have hne : (c != 0) = true := by simpa using h0
    have HO : Hid (OCk n x c c) := .inl ⟨h0, rfl⟩
    clear hb1 HB1 hc L0 l0 l1 l2 x0
    go_wp2_with fail
    go_ret2
    exact ⟨⟨c, c, _, HC.out, HO.out, rfl, .inl ⟨h0, rfl⟩⟩, HB2.out⟩
end Go.Proofs.Ytmehncflaipldaa
