/-
  What level.Chains answers. No condition but that a slice reads as a slice of numbers.
-/
import Derived.Test.YtncjlfhgenmheabDoorLonger
namespace Go.Proofs.YtncjlfhgenmheabDoor
open Go.RowKit

def chTo (g : Nat → Nat) (n k : Nat) : List Nat := 1 :: mapTo (tot g n) k
/-- How many chains there are of each length. -/
def chs (g : Nat → Nat) (n : Nat) : List Nat := chTo g n (tops g n)
theorem chTo_succ (g : Nat → Nat) (n k : Nat) : chTo g n (k + 1) = chTo g n k ++ [tot g n k] := by simp [chTo, mapTo_succ]
theorem chTo_len (g : Nat → Nat) (n k : Nat) : (chTo g n k).length = k + 1 := by simp [chTo, mapTo_len]

theorem heap_two (w : World) (o o' : Obj) : ((w.alloc o).alloc o').heap[w.heap.size]? = some o := by
  have e1 : ((w.alloc o).alloc o').heap = (w.heap.push o).push o' := rfl
  rw [e1, Array.getElem?_push, if_neg (by rw [Array.size_push]; omega), Array.getElem?_push, if_pos rfl]
theorem cell_two (w : World) (o : Obj) : ((w.alloc o).alloc (.cells #[.int .i64 1] 3)).cell? ⟨w.heap.size + 1, 0, none⟩ = some (.int .i64 1) := by simp

set_option maxHeartbeats 1000000 in
theorem chains_any (n : Int) (a : Option Addr) (len cap : Nat) (f : Nat → Int) (w : World) (hl : len ≤ maxLen) (hr : Row w a len f) :
    Calls Tryd.prog 24 #[.agg #[.int .i64 n, .slice a len cap]] w fun e w' => ListPostC chs n len f e w' ∧ Below w.heap.size w w' := by
  have K0 : Held (w.alloc (.cells #[.int .i64 n, .slice a len cap] 24)) w.heap.size n a len cap f := Held.box hr
  have HB0 : Hid (Below w.heap.size w (w.alloc (.cells #[.int .i64 n, .slice a len cap] 24))) := (Below.refl _ _).alloc (Nat.le_refl _) _
  clear hr
  go_enter Tryd.func24, Tryd.ntmps24
  go_wp2_with fail
  refine (check_any n a len cap f _ hl K0.row).mono ?_
  rintro e w1 ⟨⟨c, rfl, hc⟩, hb⟩
  have K1 := K0.step hb
  have HB1 : Hid (Below w.heap.size w w1) := Below.then HB0.out hb
  clear hb K0 HB0
  by_cases h0 : c = 0
  · subst h0
    obtain ⟨rfl, h10, hrng, hord⟩ := hc.good
    have HC : Hid (Chk (len : Int) len f 0) := hc
    have H1 : Hid (Held w1 w.heap.size len a len cap (fun k => (nat f k : Nat))) := ⟨K1.c0, K1.c1, hrng.row K1.row⟩
    have HG : Hid (Sm len len (nat f)) := hrng.small
    have HO : Hid (Ord len (nat f)) := hord
    obtain ⟨g, HGF⟩ : ∃ g, Hid (g = nat f) := ⟨_, rfl⟩
    have HEQ : Hid (∀ (wx : World) (v : Value), NSc wx v (chs g len) → NSc wx v (chs (nat f) len)) := fun wx v h => by rw [← HGF.out]; exact h
    rw [← HGF.out] at H1 HG HO
    have HEN : Hid (∀ s u, u < len → en g len s u ≤ 1024) := fun s u hu => en_le h10 HG.out HO.out s u hu
    have K3 : Hid (∀ wx, Below w1.heap.size w1 wx → Held wx w.heap.size len a len cap (fun k => (g k : Nat))) := fun wx h => H1.out.step h
    have hA2 : Below w1.heap.size w1 ((w1.alloc (.cells #[.int .i64 1] 3)).alloc (.cells #[.int .i64 1] 3)) := ((Below.refl _ _).alloc (Nat.le_refl _) _).alloc (by simp) _
    have j0 := (K3.out _ hA2).c0
    have j00 := H1.out.c0
    clear hc hrng hord K1
    go_wp2_with fail
    obtain ⟨W2, HW2⟩ : ∃ W2, Hid (W2 = (w1.alloc (.cells #[.int .i64 1] 3)).alloc (.cells #[.int .i64 1] 3)) := ⟨_, rfl⟩
    have hszW : W2.heap.size = w1.heap.size + 2 := by rw [HW2.out]; simp
    have HOW : Hid (W2.ownsRow w1.heap.size 3 1 (.slice (some ⟨w1.heap.size, 0, none⟩) 1 1) 1 (natVals (chTo g len 0))) := by
      rw [HW2.out]
      exact row_made (by omega) (Nat.le_refl _) rfl (heap_two _ _ _)
    have HCL : Hid (W2.cell? ⟨w1.heap.size + 1, 0, none⟩ = some (.int .i64 1)) := by rw [HW2.out]; exact cell_two _ _
    have HA2 : Hid (Below w1.heap.size w1 W2) := by rw [HW2.out]; exact hA2
    rw [← HW2.out]
    clear hA2 HW2 j0 j00
    refine (repeat_any len 1 ⟨w1.heap.size + 1, 0, none⟩ 1 _ h10 HCL.out).mono ?_
    rintro e w2 ⟨⟨rfl, hown2⟩, hb2⟩
    have HOW2 : Hid (w2.ownsRow w1.heap.size 3 1 (.slice (some ⟨w1.heap.size, 0, none⟩) 1 1) 1 (natVals (chTo g len 0))) := owns_below HOW.out hb2
    have HEND : Hid (Row w2 (some ⟨W2.heap.size, 0, none⟩) len (fun k => (en g len 0 k : Nat))) := fun k hk => ⟨W2.heap.size, 0, rfl, by
      rw [Nat.zero_add, hown2.cellAt k (by omega), List.getElem?_replicate, if_pos hk]; rfl⟩
    have HB2 : Hid (Below w1.heap.size w1 w2) := Below.then HA2.out hb2
    have k0 := (K3.out _ HB2.out).c0
    have k1 := (K3.out _ HB2.out).c1
    clear hown2 hb2 HOW HCL HA2
    go_wp2_with fail
    refine (peel_any len a cap g _ h10 HG.out HO.out (K3.out _ HB2.out).row).mono ?_
    rintro e w3 ⟨⟨v3, rfl, hv3⟩, hb3⟩
    obtain ⟨a3, cap3, rfl, _⟩ := hv3
    rw [levs_len]
    have HOW3 : Hid (w3.ownsRow w1.heap.size 3 1 (.slice (some ⟨w1.heap.size, 0, none⟩) 1 1) 1 (natVals (chTo g len 0))) := owns_below HOW2.out hb3
    have HE3 : Hid (Row w3 (some ⟨W2.heap.size, 0, none⟩) len (fun k => (en g len 0 k : Nat))) := HEND.out.below hb3
    have HB3 : Hid (Below w1.heap.size w1 w3) := Below.then HB2.out hb3
    have HTL : Hid (tops g len ≤ 1025) := tops_le g h10
    clear hb3 HOW2 HEND HB2 k0 k1
    obtain ⟨i0, hi, hz0, hz1, hz2⟩ := info_parts Tryd.info3
    go_wp2_with fail
    have HFIN : Hid (∀ k, k = tops g len → chTo g len k = chs g len) := fun k hk => by rw [hk]; rfl
    have HLEN : Hid (∀ k, (chTo g len k).length = k + 1) := fun k => chTo_len g len k
    have HSUC : Hid (∀ k, chTo g len (k + 1) = chTo g len k ++ [tot g len k]) := fun k => chTo_succ g len k
    have HENS : Hid (∀ k, en g len (k + 1) = nx g len (en g len k)) := fun k => en_succ g len k
    have HTOT : Hid (∀ k, tot g len k = sumTo (en g len k) len) := fun k => rfl
    generalize tops g len = T at *
    go_loopw [5, 6, 22] (fun v e x wx => ∃ k : Nat, k ≤ T ∧ x = .int .i64 k ∧ wx.ownsRow w1.heap.size 3 1 v (chTo g len k).length (natVals (chTo g len k)) ∧ (∃ b : Nat, e = .slice (some ⟨b, 0, none⟩) len len ∧ Hid (Row wx (some ⟨b, 0, none⟩) len (fun i => (en g len k i : Nat))) ∧ Hid (∀ q, v.ownBlock = some q → q ≠ b)) ∧ Hid (Below w1.heap.size w1 wx)) (fun _ _ x _ => T - (intOf x).toNat)
    case atStart =>
      have HE4 : Hid (Row w3 (some ⟨w1.heap.size + 2, 0, none⟩) len (fun k => (en g len 0 k : Nat))) := by rw [← hszW]; exact HE3.out
      exact ⟨0, Nat.zero_le _, rfl, HOW3.out, ⟨_, rfl, HE4.out, fun q hq => by simp [Value.ownBlock] at hq; omega⟩, HB3.out⟩
    case round =>
      clear HOW3 HE3 HB3
      obtain ⟨k, hk, rfl, hown, ⟨be, rfl, hE, hNE⟩, hB⟩ := hrel
      have hTL := HTL.out
      have hH := K3.out _ hB.out
      have c0 := hH.c0
      have c1 := hH.c1
      by_cases hkT : k < T
      · have HO1 : Hid (wr.ownsRow w1.heap.size 3 1 u5 (chTo g len k).length (natVals (chTo g len k))) := hown
        obtain ⟨Ek, HEk⟩ : ∃ Ek, Hid (Ek = en g len k) := ⟨_, rfl⟩
        have HEb : Hid (∀ u, u < len → Ek u ≤ 1024) := fun u hu => by rw [HEk.out]; exact HEN.out k u hu
        have HT : Hid (tot g len k = sumTo Ek len) := by rw [HEk.out]; exact HTOT.out k
        have HS2 : Hid (en g len (k + 1) = nx g len Ek) := by rw [HEk.out]; exact HENS.out k
        rw [← HEk.out] at hE
        have HSB : Hid (∀ l, l ≤ len → sumTo Ek l ≤ 10240) := fun l hl => by
          have h := sumTo_le (φ := Ek) (B := 1024) l (fun j hj => HEb.out j (by omega))
          have : l * 1024 ≤ 10 * 1024 := Nat.mul_le_mul (by omega) (Nat.le_refl _)
          omega
        have HLK : Hid ((chTo g len k).length = k + 1) := HLEN.out k
        have HSK : Hid (chTo g len (k + 1) = chTo g len k ++ [tot g len k]) := HSUC.out k
        clear hown HEk hH
        generalize chTo g len k = C at *
        go_wp2_with fail
        go_loop [7, 26] (fun t x => ∃ p : Nat, p ≤ len ∧ x = .int .i64 p ∧ t = .int .i64 (sumTo Ek p : Nat)) (fun _ x => len - (intOf x).toNat)
        case atStart => exact ⟨0, Nat.zero_le _, rfl, rfl⟩
        case round =>
          obtain ⟨p, hp, rfl, rfl⟩ := hrel
          have hsp := HSB.out p hp
          by_cases hpl : p < len
          · obtain ⟨b', off', e1, hcc⟩ := hE.out.at hpl
            have hcp := hcc p hpl
            simp only [Option.some.injEq, Addr.mk.injEq] at e1
            obtain ⟨rfl, rfl, _⟩ := e1
            rw [Nat.zero_add] at hcp
            have hep := HEb.out p hpl
            have hlp : (p : Int) < (len : Int) := by omega
            have HSS : Hid (sumTo Ek (p + 1) = sumTo Ek p + Ek p) := rfl
            clear hcc
            generalize sumTo Ek p = X at *
            generalize Ek p = Y at *
            go_wp2_with fail
            go_round
            case rel => exact ⟨p + 1, by omega, by go_num, by rw [HSS.out]; go_num⟩
            case measure => simp [intOf]; omega
          · have hpn : p = len := by omega
            have HTP : Hid (sumTo Ek p = tot g len k) := by rw [hpn]; exact HT.out.symm
            rw [HTP.out] at hsp ⊢
            have hown := HO1.out
            have hsz := hB.out.size
            have hlen : C.length ≤ 1026 := by have := HLK.out; omega
            clear HO1 HTP
            generalize tot g len k = TT at *
            go_wp2_with (at_builtin; refine wpList_append_own _ rfl _ _ 22 rfl w1.heap.size 3 i0 (.int .i64 0) 1 8 Tryd.underlying22 hi hz0 hz1 hz2 rfl (by decide) _ _ _ rfl (hown.alloc _) ⟨wr.heap.size, 0, none⟩ 1 1 [.int .i64 (TT : Nat)] rfl rfl ?c1 ?c2 ?c3 ?c4 ?c5 ?_)
            case c2 => rfl
            case c3 => unfold maxLen; omega
            case c4 => omega
            case c5 => omega
            intro v' w4 hown' hgrow _
            have HB4 : Hid (Below w1.heap.size w1 w4) := below_append3 hB.out hown hgrow
            have HE4 : Hid (Row w4 (some ⟨be, 0, none⟩) len (fun i => (Ek i : Nat))) := fun i hi => by
              obtain ⟨b', off', e1, hc'⟩ := hE.out i hi
              simp only [Option.some.injEq, Addr.mk.injEq] at e1
              obtain ⟨rfl, rfl, _⟩ := e1
              refine ⟨be, 0, rfl, ?_⟩
              have hlt : be < wr.heap.size := World.block_lt_of_cell? _ _ hc'
              have hc2 : (wr.alloc (.cells #[.int .i64 (TT : Int)] 3)).cell? ⟨be, 0 + i, none⟩ = some (.int .i64 (Ek i : Nat)) := (World.cell?_alloc_lt _ _ _ hlt).trans hc'
              exact hgrow.cell hc2 (fun e => hNE.out be e.symm rfl)
            have HO4 : Hid (w4.ownsRow w1.heap.size 3 1 v' (chTo g len (k + 1)).length (natVals (chTo g len (k + 1)))) := by
              rw [HSK.out, natVals_append, List.length_append]; exact hown'
            have H4 := K3.out _ HB4.out
            have d0 := H4.c0
            have d1 := H4.c1
            clear hown' hgrow hown hB hE hNE hsz c0 c1
            go_wp2_with fail
            refine (longer_any len a cap g _ len Ek _ h10 HG.out H4.row HE4.out HEb.out).mono ?_
            rintro e w5 ⟨⟨b5, rfl, ho5, hge5⟩, hb5⟩
            have HO5 : Hid (w5.ownsRow w1.heap.size 3 1 v' (chTo g len (k + 1)).length (natVals (chTo g len (k + 1)))) := owns_below HO4.out hb5
            have HE5 : Hid (Row w5 (some ⟨b5, 0, none⟩) len (fun i => (en g len (k + 1) i : Nat))) := by rw [HS2.out]; exact ho5.row
            have HNE5 : Hid (∀ q, v'.ownBlock = some q → q ≠ b5) := fun q hq => by have := HO4.out.lt q hq; omega
            have HB5 : Hid (Below w1.heap.size w1 w5) := Below.then HB4.out hb5
            clear ho5 hge5 hb5 HO4 HE4 HB4 H4 d0 d1
            go_wp2_with fail
            go_roundw
            case rel => exact ⟨k + 1, by omega, by go_num, HO5.out, ⟨_, rfl, HE5.out, HNE5.out⟩, HB5.out⟩
            case measure => simp [intOf]; omega
      · have hkn : k = T := by omega
        have HF : Hid (NSc wr u5 (chs g len)) := by rw [← HFIN.out k hkn]; exact owns_natc hown
        clear hown hH hkn
        go_wp2_with fail
        go_ret2
        exact ⟨⟨0, _, HC.out, rfl, .inr ⟨rfl, HEQ.out _ _ HF.out⟩⟩, Below.then HB1.out hB.out⟩
  · have hne : (c != 0) = true := by simpa using h0
    have HC : Hid (Chk n len f c) := hc
    clear hc
    go_wp2_with fail
    go_ret2
    exact ⟨⟨c, _, HC.out, rfl, .inl ⟨h0, rfl⟩⟩, HB1.out⟩
end Go.Proofs.YtncjlfhgenmheabDoor
