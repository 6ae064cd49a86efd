/-
  What the reference's NthRow answers. Conditions: an order of at most ten points that lies in a slice of numbers; a number below that of its rows.
-/
import Derived.Test.YtbgdjhfaegohpaaNth
namespace Go.Proofs.Ytbgdjhfaegohpaa
open Go.RowKit

def slen : Value → Nat
  | .slice _ l _ => l
  | _ => 0

set_option maxHeartbeats 2000000 in
theorem refNth_any (n : Nat) (a : Option Addr) (cap : Nat) (g : Nat → Nat) (k : Nat) (w : World) (h10 : n ≤ 10) (hg : Sm n n g) (hr : Row w a n (fun k => (g k : Nat))) (hk : k < ways g n 0) :
    Calls Try.prog 15 #[.agg #[.int .i64 (n : Int), .slice a n cap], .int .i64 (k : Nat)] w fun e w' => (∃ a' cap', e = .returned (.slice a' n cap') ∧ Row w' a' n (fun j => (nP g n k j : Nat))) ∧ Below w.heap.size w w' := by
  have K0 : Held (w.alloc (.cells #[.int .i64 n, .slice a n cap] 24)) w.heap.size n a n cap (fun k => (g k : Nat)) := Held.box hr
  have HB0 : Hid (Below w.heap.size w (w.alloc (.cells #[.int .i64 n, .slice a n cap] 24))) := (Below.refl _ _).alloc (Nat.le_refl _) _
  have HG : Hid (∀ k, k < n → g k < 1024) := fun k hk => Nat.lt_of_lt_of_le (hg k hk) (pw_le n h10)
  have HOK : Hid (∀ t, t ≤ n → NOk g n k t) := nok hk
  have hws := ways_small (u := g) h10 (pw_pos n)
  have HKS : Hid (k ≤ 10000000000) := by show k ≤ 10000000000; omega
  have HPL : Hid (∀ s i, s < pw n → i < n → goes g n s i ≤ 10000000000) := fun s i h1 h2 => goes_small h10 h1 h2
  have hpn := pw_le n h10
  clear hr hws hk
  go_enter Try.func15, Try.ntmps15
  go_wp2_with fail
  refine (refRows_any n a cap g _ h10 hg K0.row).mono ?_
  rintro e w3 ⟨⟨b, rfl, htab⟩, hb⟩
  have HK3 : Hid (Held w3 w.heap.size n a n cap (fun k => (g k : Nat))) := K0.step hb
  have HB3 : Hid (Below w.heap.size w w3) := Below.then HB0.out hb
  have HT : Hid (Tabl w3 b n 0 g) := htab
  clear hb K0 HB0 htab hg
  obtain ⟨i0, hi, hz0, hz1, hz2⟩ := info_parts Try.info3
  obtain ⟨P, HP⟩ : ∃ P, Hid (P = nP g n k) := ⟨_, rfl⟩
  go_wp2_with fail
  go_loopw [1, 6, 7] (fun y v z wx => ∃ t : Nat, t ≤ n ∧ y = .int .i64 (nK g n k t : Nat) ∧ z = .int .i64 (nS g n k t : Nat) ∧ Hid (wx.ownsRow w3.heap.size 3 1 v t (rowVals P t)) ∧ Hid (Below w3.heap.size w3 wx) ∧ ∃ a' cap', v = .slice a' t cap') (fun _ v _ _ => n - slen v)
  case atStart => exact ⟨0, Nat.zero_le _, rfl, rfl, World.ownsRow_nil _ _ _ _, Below.refl _ _, none, 0, rfl⟩
  case round =>
    obtain ⟨t, ht, rfl, rfl, hown, hB, av, capv, rfl⟩ := hrel
    have hH := HK3.out.step hB.out
    have x0 := hH.c0
    have x1 := hH.c1
    by_cases htl : t < n
    · have ok := HOK.out t ht
      have pt := ok.pt htl
      have hKk : nK g n k t ≤ 10000000000 := Nat.le_trans (nK_le t) HKS.out
      have hS := ok.lt
      have HSL : Hid (nS g n k t < pw n) := ok.lt
      have HKN : Hid (nK g n k (t + 1) = nK g n k t - sumTo (goes g n (nS g n k t)) (nP g n k t)) := nK_succ g n k t
      have HSN : Hid (nS g n k (t + 1) = nS g n k t + pw (nP g n k t)) := nS_succ g n k t
      have HPE : Hid (rowVals P (t + 1) = rowVals P t ++ [.int .i64 (P t : Nat)]) := rowVals_succ P t
      have HPQ : Hid (P t = nP g n k t) := congrFun HP.out t
      have HALL : Hid (nK g n k t < sumTo (goes g n (nS g n k t)) n) := pt.all
      have HPK : Hid (∀ j, sumTo (goes g n (nS g n k t)) j ≤ nK g n k t → nK g n k t < sumTo (goes g n (nS g n k t)) (j + 1) → nP g n k t = j) := fun j h1 h2 => pick_uniq h1 h2 (search_in pt.all h1)
      have htli : (t : Int) < (n : Int) := by omega
      clear ok pt hH
      obtain ⟨S, HS⟩ : ∃ S, Hid (S = nS g n k t) := ⟨_, rfl⟩
      rw [← HS.out] at hS HSL HKN HSN HALL HPK ⊢
      obtain ⟨k0, HK0⟩ : ∃ k0, Hid (k0 = nK g n k t) := ⟨_, rfl⟩
      rw [← HK0.out] at hKk HKN HALL HPK ⊢
      clear HS HK0
      go_wp2_with fail
      clear x0 x1
      go_loopw [1, 8] (fun y p wx => ∃ j : Nat, sumTo (goes g n S) j ≤ k0 ∧ y = .int .i64 (k0 - sumTo (goes g n S) j : Nat) ∧ p = .int .i64 j ∧ Hid (wx.ownsRow w3.heap.size 3 1 (.slice av t capv) t (rowVals P t)) ∧ Hid (Below w3.heap.size w3 wx)) (fun _ p _ => n - (intOf p).toNat)
      case atStart => exact ⟨0, Nat.zero_le _, rfl, rfl, hown.out, hB.out⟩
      case round =>
        clear hown hB
        obtain ⟨j, hj, rfl, rfl, hown, hB⟩ := hrel
        have hjl : j < n := search_in HALL.out hj
        have hH := HK3.out.step hB.out
        have x0 := hH.c0
        have x1 := hH.c1
        have HGJ : Hid (goes g n S j ≤ 10000000000) := HPL.out S j HSL.out hjl
        have HSJ : Hid (sumTo (goes g n S) (j + 1) = sumTo (goes g n S) j + goes g n S j) := rfl
        have hS2 : S < 1024 := by omega
        obtain ⟨s0, HS0⟩ : ∃ s0, Hid (s0 = sumTo (goes g n S) j) := ⟨_, rfl⟩
        rw [← HS0.out] at hj HSJ ⊢
        cases hm : may g S j
        · have HG0 : Hid (goes g n S j = 0) := goes_no hm
          have HE1 : Hid (k0 - sumTo (goes g n S) (j + 1) = k0 - s0) := by
            have e : k0 - sumTo (goes g n S) (j + 1) = k0 - s0 := by have := HSJ.out; have := HG0.out; omega
            exact e
          have HL1 : Hid (sumTo (goes g n S) (j + 1) ≤ k0) := by
            have e : sumTo (goes g n S) (j + 1) ≤ k0 := by have := HSJ.out; have := HG0.out; omega
            exact e
          have hk9 : k0 - s0 ≤ 10000000000 := by omega
          generalize k0 - s0 = Y at *
          go_wp2_with fail
          refine (may_as n a cap g S j false _ hm HG.out hS2 hH.row hjl h10).mono ?_
          rintro e w5 ⟨rfl, hb5⟩
          have HB5 : Hid (Below w3.heap.size w3 w5) := Below.then hB.out hb5
          have HO5 : Hid (w5.ownsRow w3.heap.size 3 1 (.slice av t capv) t (rowVals P t)) := owns_below hown.out hb5
          have hH5 := hH.step hb5
          clear hb5 hown hB hH x0 x1
          have x0 := hH5.c0
          have x1 := hH5.c1
          go_wp2_with fail
          refine (may_as n a cap g S j false _ hm HG.out hS2 hH5.row hjl h10).mono ?_
          rintro e w6 ⟨rfl, hb6⟩
          have HB6 : Hid (Below w3.heap.size w3 w6) := Below.then HB5.out hb6
          have HO6 : Hid (w6.ownsRow w3.heap.size 3 1 (.slice av t capv) t (rowVals P t)) := owns_below HO5.out hb6
          clear hb6 HB5 HO5 hH5 x0 x1
          go_wp2_with fail
          go_roundw
          case rel => exact ⟨j + 1, HL1.out, by rw [HE1.out], by go_num, HO6.out, HB6.out⟩
          case measure => simp [intOf]; omega
        · have HGY : Hid (goes g n S j = ways g n (S + pw j)) := goes_yes hm
          have hsb := may_out hm
          have hlt := add_lt hS hjl hsb
          have hpj := pw_small j (by omega)
          by_cases hge : goes g n S j ≤ k0 - s0
          · have HE1 : Hid (k0 - sumTo (goes g n S) (j + 1) = k0 - s0 - ways g n (S + pw j)) := by
              have e : k0 - sumTo (goes g n S) (j + 1) = k0 - s0 - ways g n (S + pw j) := by have := HSJ.out; have := HGY.out; omega
              exact e
            have HL1 : Hid (sumTo (goes g n S) (j + 1) ≤ k0) := by
              have e : sumTo (goes g n S) (j + 1) ≤ k0 := by have := HSJ.out; omega
              exact e
            have hgi : ((ways g n (S + pw j) : Nat) : Int) ≤ ((k0 - s0 : Nat) : Int) := by have := HGY.out; omega
            have hwl : ways g n (S + pw j) ≤ 10000000000 := by have h1 := HGJ.out; have h2 := HGY.out; omega
            have HTA : Hid (∀ wx, Below w3.heap.size w3 wx → wx.cell? ⟨b, S + pw j, none⟩ = some (.int .i64 (ways g n (S + pw j) : Nat))) := fun wx h => (HT.out.step h) _ hlt (Nat.zero_le _)
            have hk9 : k0 - s0 ≤ 10000000000 := by omega
            have hQi : ((S : Int) + (pw j : Nat)) < ((pw n : Nat) : Int) := by omega
            clear hge hsb
            generalize k0 - s0 = Y at *
            generalize ways g n (S + pw j) = G at *
            go_wp2_with fail
            refine (may_as n a cap g S j true _ hm HG.out hS2 hH.row hjl h10).mono ?_
            rintro e w5 ⟨rfl, hb5⟩
            have HB5 : Hid (Below w3.heap.size w3 w5) := Below.then hB.out hb5
            have HO5 : Hid (w5.ownsRow w3.heap.size 3 1 (.slice av t capv) t (rowVals P t)) := owns_below hown.out hb5
            have hH5 := hH.step hb5
            have hcell := HTA.out w5 HB5.out
            clear hb5 hown hB hH x0 x1
            have x0 := hH5.c0
            have x1 := hH5.c1
            go_wp2_with (go_at_call 28; refine (bit_any j _ (by omega)).mono ?_; rintro e w' ⟨rfl, rfl⟩)
            refine (may_as n a cap g S j true _ hm HG.out hS2 hH5.row hjl h10).mono ?_
            rintro e w6 ⟨rfl, hb6⟩
            have HB6 : Hid (Below w3.heap.size w3 w6) := Below.then HB5.out hb6
            have HO6 : Hid (w6.ownsRow w3.heap.size 3 1 (.slice av t capv) t (rowVals P t)) := owns_below HO5.out hb6
            have hcell6 := HTA.out w6 HB6.out
            clear hb6 HB5 HO5 hH5 x0 x1 hcell
            go_wp2_with (go_at_call 28; refine (bit_any j _ (by omega)).mono ?_; rintro e w' ⟨rfl, rfl⟩)
            go_roundw
            case rel => exact ⟨j + 1, HL1.out, by rw [HE1.out]; go_num, by go_num, HO6.out, HB6.out⟩
            case measure => simp [intOf]; omega
          · have hlt2 : k0 < sumTo (goes g n S) (j + 1) := by have := HSJ.out; omega
            have hPj := HPK.out j (by rw [← HS0.out]; exact hj) hlt2
            have hgi : ((k0 - s0 : Nat) : Int) < ((ways g n (S + pw j) : Nat) : Int) := by have := HGY.out; omega
            have HKN2 : Hid (nK g n k (t + 1) = k0 - s0) := by have := HKN.out; rw [hPj, ← HS0.out] at this; exact this
            have HSN2 : Hid (nS g n k (t + 1) = S + pw j) := by have := HSN.out; rw [hPj] at this; exact this
            have HPT2 : Hid (P t = j) := HPQ.out.trans hPj
            have HOE : Hid (∀ (wx : World) v', wx.ownsRow w3.heap.size 3 1 v' (t + 1) (rowVals P t ++ [.int .i64 (j : Nat)]) → wx.ownsRow w3.heap.size 3 1 v' (t + 1) (rowVals P (t + 1))) := fun wx v' h => by rw [HPE.out, HPT2.out]; exact h
            have HTA : Hid (∀ wx, Below w3.heap.size w3 wx → wx.cell? ⟨b, S + pw j, none⟩ = some (.int .i64 (ways g n (S + pw j) : Nat))) := fun wx h => (HT.out.step h) _ hlt (Nat.zero_le _)
            have hQi : ((S : Int) + (pw j : Nat)) < ((pw n : Nat) : Int) := by omega
            clear hlt2 hPj hsb hge HKN HSN HPK HALL HPQ HPE HGJ HSJ HGY
            generalize ways g n (S + pw j) = G at *
            generalize k0 - s0 = Y at *
            go_wp2_with fail
            refine (may_as n a cap g S j true _ hm HG.out hS2 hH.row hjl h10).mono ?_
            rintro e w5 ⟨rfl, hb5⟩
            have HB5 : Hid (Below w3.heap.size w3 w5) := Below.then hB.out hb5
            have HO5 : Hid (w5.ownsRow w3.heap.size 3 1 (.slice av t capv) t (rowVals P t)) := owns_below hown.out hb5
            have hcell := HTA.out w5 HB5.out
            have hown2 := HO5.out
            have hsz := HB5.out.size
            clear hb5 hown hB hH x0 x1 hm
            go_wp2_with (first | (go_at_call 28; refine (bit_any j _ (by omega)).mono ?_; rintro e w' ⟨rfl, rfl⟩) | (at_builtin; refine wpList_append_own _ rfl _ _ 22 rfl w3.heap.size 3 i0 (.int .i64 0) 1 8 Try.underlying22 hi hz0 hz1 hz2 rfl (by decide) _ _ _ rfl (hown2.alloc _) ⟨w5.heap.size, 0, none⟩ 1 1 [.int .i64 (j : Nat)] rfl rfl ?c1 ?c2 ?c3 ?c4 ?c5 ?_))
            case c1 =>
              intro q u hq
              match q, hq with
              | 0, hq => simp at hq; subst hq; simp [Addr.add]
            case c2 => intro u hu; simp at hu; subst hu; rfl
            case c3 => unfold maxLen; omega
            case c4 => omega
            case c5 => simp; omega
            intro v' w6 hown' hgrow _
            have HB6 : Hid (Below w3.heap.size w3 w6) := below_append3 HB5.out hown2 hgrow
            have HO6 : Hid (w6.ownsRow w3.heap.size 3 1 v' (t + 1) (rowVals P (t + 1))) := HOE.out _ _ hown'
            have HV : Hid (∃ a' cap', v' = .slice a' (t + 1) cap') := by
              obtain ⟨a', cap', e, _⟩ := owns_row HO6.out
              exact ⟨a', cap', e⟩
            clear hown' hgrow hown2 HB5 hsz HOE hcell HTA HO5
            obtain ⟨a', cap', rfl⟩ := HV.out
            go_wp2_with (go_at_call 28; refine (bit_any j _ (by omega)).mono ?_; rintro e w' ⟨rfl, rfl⟩)
            go_roundw
            case rel => exact ⟨t + 1, by omega, by rw [HKN2.out], by rw [HSN2.out]; go_num, HO6.out, HB6.out, a', cap', rfl⟩
            case measure => simp [slen]; omega
    · have htn : t = n := by omega
      subst htn
      have HRR : Hid (∃ a' cap', Value.slice av t capv = .slice a' t cap' ∧ Row wr a' t (fun j => (P j : Nat))) := owns_row hown.out
      have HZ : Hid (∃ a' cap', (Ending.returned (.slice av t capv)) = .returned (.slice a' t cap') ∧ Row wr a' t (fun j => (nP g t k j : Nat))) := by
        obtain ⟨a', cap', e, hrow⟩ := HRR.out
        rw [HP.out] at hrow
        exact ⟨a', cap', by rw [e], hrow⟩
      clear HRR hown x1 hH
      go_wp2_with fail
      go_ret
      exact ⟨HZ.out, Below.then HB3.out hB.out⟩
end Go.Proofs.Ytbgdjhfaegohpaa
