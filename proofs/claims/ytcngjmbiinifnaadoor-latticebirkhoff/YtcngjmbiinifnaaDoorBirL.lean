/-
  What hasselaw.LatticeBirkhoff answers: true. Conditions: the library's table lies in its variable; slices read as slices of rows.
-/
import Derived.Test.YtcngjmbiinifnaaDoorDedL
namespace Go.Proofs.YtcngjmbiinifnaaDoor
open Go.RowKit

set_option maxHeartbeats 4000000 in
theorem latticeBirkhoff_any (n : Int) (a : Option Addr) (la ca : Nat) (SA : Nat → Option Addr × Nat × Nat) (FA : Nat → Nat → Int) (b : Option Addr) (lb cb : Nat) (SB : Nat → Option Addr × Nat × Nat) (FB : Nat → Nat → Int) (w : World) (hla : la ≤ maxLen) (hlb : lb ≤ maxLen) (hra : RR w a la SA FA) (hrb : RR w b lb SB FB) (hT : Tab w) :
    Calls Tryd.prog 7 #[.agg #[.int .i64 n, .slice a la ca, .slice b lb cb]] w fun e w' => e = .returned (.bool true) ∧ Below w.heap.size w w' := by
  have B1 : Below w.heap.size w (w.alloc (.cells #[.int .i64 n, .slice a la ca, .slice b lb cb] 24)) := (Below.refl _ _).alloc (Nat.le_refl _) _
  have L0 := LB.new w n a la ca b lb cb
  have HRA : Hid (RR w a la SA FA) := hra
  have HRB : Hid (RR w b lb SB FB) := hrb
  have HT : Hid (Tab w) := hT
  have HB0 : Hid (Below w.heap.size w (w.alloc (.cells #[.int .i64 n, .slice a la ca, .slice b lb cb] 24))) := B1
  clear hra hrb B1 hT
  go_enter Tryd.func7, Tryd.ntmps7
  go_wp2_with fail
  refine (latticeBegun_any _ (HT.out.step HB0.out)).mono ?_
  rintro e w1 ⟨rfl, hb1⟩
  have L1 := L0.step hb1
  have HB1 : Hid (Below w.heap.size w w1) := Below.then HB0.out hb1
  have l0 := L1.1
  have l1 := L1.2.1
  have l2 := L1.2.2
  clear hb1 HB0 L0
  go_wp2_with fail
  refine (distr_any n a la ca SA FA b lb cb SB FB _ hla hlb (HRA.out.below HB1.out) (HRB.out.below HB1.out)).mono ?_
  rintro e w2 ⟨⟨c, va, hc, rfl, hva⟩, hb2⟩
  have L2 := L1.step hb2
  have HB2 : Hid (Below w.heap.size w w2) := Below.then HB1.out hb2
  have m20 := L2.1
  have m21 := L2.2.1
  have m25 := L2.2.2
  clear hb2 HB1 L1 l0 l1 l2
  have HVA := (show Hid _ from hva)
  clear hva
  go_wp2_with fail
  refine (pent_any n a la ca SA FA b lb cb SB FB _ hla hlb (HRA.out.below HB2.out) (HRB.out.below HB2.out)).mono ?_
  rintro e w3 ⟨⟨c3, v3, l3, five, hc3, rfl, hp⟩, hb3⟩
  have L3 := L2.step hb3
  have HB3 : Hid (Below w.heap.size w w3) := Below.then HB2.out hb3
  have m30 := L3.1
  have m31 := L3.2.1
  have m32 := L3.2.2
  clear hb3 HB2 L2 m20 m21 m25
  obtain rfl := LCk.one hc3 hc
  have HP := (show Hid _ from hp)
  clear hp hc3
  go_wp2_with fail
  refine (diam_any n a la ca SA FA b lb cb SB FB _ hla hlb (HRA.out.below HB3.out) (HRB.out.below HB3.out)).mono ?_
  rintro e w4 ⟨⟨c4, v4, l4, three, hc4, rfl, hd⟩, hb4⟩
  have L4 := L3.step hb4
  have HB4 : Hid (Below w.heap.size w w4) := Below.then HB3.out hb4
  have m40 := L4.1
  have m41 := L4.2.1
  have m42 := L4.2.2
  clear hb4 HB3 L3 m30 m31 m32
  obtain rfl := LCk.one hc4 hc
  have HD := (show Hid _ from hd)
  clear hd hc4
  go_wp2_with fail
  refine (modular_any n a la ca SA FA b lb cb SB FB _ hla hlb (HRA.out.below HB4.out) (HRB.out.below HB4.out)).mono ?_
  rintro e w5 ⟨⟨c5, vm, hc5, rfl, hm⟩, hb5⟩
  have L5 := L4.step hb5
  have HB5 : Hid (Below w.heap.size w w5) := Below.then HB4.out hb5
  have m50 := L5.1
  have m51 := L5.2.1
  have m52 := L5.2.2
  clear hb5 HB4 L4 m40 m41 m42
  obtain rfl := LCk.one hc5 hc
  have HM := (show Hid _ from hm)
  clear hm hc5
  go_wp2_with fail
  refine (distr_any n b lb cb SB FB a la ca SA FA _ hlb hla (HRB.out.below HB5.out) (HRA.out.below HB5.out)).mono ?_
  rintro e w6 ⟨⟨c6, vd, hc6, rfl, hvd⟩, hb6⟩
  have L6 := L5.step hb6
  have HB6 : Hid (Below w.heap.size w w6) := Below.then HB5.out hb6
  have m60 := L6.1
  have m61 := L6.2.1
  have m62 := L6.2.2
  clear hb6 HB5 L5 m50 m51 m52
  have HVD := (show Hid _ from hvd)
  clear hvd m60 m61 m62 L6
  by_cases h0 : c5 = 0
  · subst h0
    obtain rfl := LCk.one hc6 hc.turn
    obtain ⟨q, rfl, h1, h40, e1, e2, _, _, _, _, hlat⟩ := hc.good
    rcases HVA.out with ⟨k, _⟩ | ⟨_, hva⟩
    · exact absurd rfl k
    rcases HVD.out with ⟨k, _⟩ | ⟨_, hvd⟩
    · exact absurd rfl k
    rcases HM.out with ⟨k, _⟩ | ⟨_, hm⟩
    · exact absurd rfl k
    rcases HP.out with ⟨k, _⟩ | ⟨_, hf, _⟩
    · exact absurd rfl k
    rcases HD.out with ⟨k, _⟩ | ⟨_, hg, _⟩
    · exact absurd rfl k
    have hq : ((q : Int).toNat) = q := by omega
    rw [hq] at hva hvd hm hf hg
    have E1 : vd = va := bool_iff hvd (hva.trans hlat.dis_turn)
    have E2 : va = (!five && !three) := by
      refine bool_iff hva ?_
      rw [hlat.birkhoff, ← hf.some, ← hg.some]
      rcases five with _ | _ <;> rcases three with _ | _ <;> simp
    have E3 : va = true → vm = true := fun h => hm.2 (hlat.dis_mod (hva.1 h))
    subst E1
    clear hva hvd hm hf hg HVA HVD HM HP HD hlat hc hc6 e1 e2 hq h1 h40
    rcases five with _ | _ <;> rcases three with _ | _
    · obtain rfl : vd = true := E2
      obtain rfl : vm = true := E3 rfl
      clear E3
      go_wp2_with fail
      go_ret
      exact ⟨rfl, HB6.out⟩
    · obtain rfl : vd = false := E2
      clear E3
      rcases vm with _ | _
      · go_wp2_with fail
        go_ret
        exact ⟨rfl, HB6.out⟩
      · go_wp2_with fail
        go_ret
        exact ⟨rfl, HB6.out⟩
    · obtain rfl : vd = false := E2
      clear E3
      rcases vm with _ | _
      · go_wp2_with fail
        go_ret
        exact ⟨rfl, HB6.out⟩
      · go_wp2_with fail
        go_ret
        exact ⟨rfl, HB6.out⟩
    · obtain rfl : vd = false := E2
      clear E3
      rcases vm with _ | _
      · go_wp2_with fail
        go_ret
        exact ⟨rfl, HB6.out⟩
      · go_wp2_with fail
        go_ret
        exact ⟨rfl, HB6.out⟩
  · have hne : (c5 != 0) = true := by simpa using h0
    have hee : (c5 == c5) = true := by simp
    clear HVA HVD HM HP HD hc hc6
    go_wp2_with fail
    go_ret
    exact ⟨by first | rfl | simp, HB6.out⟩
end Go.Proofs.YtcngjmbiinifnaaDoor
