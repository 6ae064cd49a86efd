/-
  What the reference's CountsOf answers. Conditions: at most ten events in which nothing is wrong.
-/
import Derived.Test.YtomoodpgmkjacaaDoorCtP
import Derived.Test.YtomoodpgmkjacaaDoorClF
import Derived.Maps.AppendAt
namespace Go.Proofs.YtomoodpgmkjacaaDoor
set_option maxRecDepth 100000
open Go.RowKit

/-- Rows as values. -/
def slv (r : Nat → Nat) (Wn n : Nat) : List Value := (List.range n).map fun j => .slice (some ⟨r j, 0, none⟩) Wn Wn
theorem slv_len (r : Nat → Nat) (Wn n : Nat) : (slv r Wn n).length = n := by simp [slv]
theorem slv_snoc (r : Nat → Nat) (Wn n R : Nat) : slv (fun j => if j = n then R else r j) Wn (n + 1) = slv r Wn n ++ [.slice (some ⟨R, 0, none⟩) Wn Wn] := by
  unfold slv
  rw [List.range_succ, List.map_append]
  congr 1
  · apply List.map_congr_left
    intro j hj
    have := List.mem_range.1 hj
    simp [show ¬ j = n by omega]
  · simp
/-- A row of rows that is the call's own and grows. -/
structure CR (w : World) (base : Nat) (v : Value) (r : Nat → Nat) (n Wn : Nat) (G : Nat → Nat → Nat) : Prop where
  own : w.ownsRow base 32 1 v n (slv r Wn n)
  rows : ∀ j, j < n → Own w (r j) Wn (G j)
  lt : ∀ j, j < n → base ≤ r j ∧ r j < w.heap.size ∧ some (r j) ≠ v.ownBlock
theorem CR.step {w w' : World} {base : Nat} {v : Value} {r : Nat → Nat} {n Wn : Nat} {G : Nat → Nat → Nat} (h : CR w base v r n Wn G) (hb : Below w.heap.size w w') : CR w' base v r n Wn G where
  own := owns_below h.own hb
  rows j hj := (h.rows j hj).keep hb (h.lt j hj).2.1
  lt j hj := ⟨(h.lt j hj).1, Nat.lt_of_lt_of_le (h.lt j hj).2.1 hb.size, (h.lt j hj).2.2⟩
theorem CR.app {w w1 : World} {base : Nat} {v v' x : Value} {r : Nat → Nat} {n Wn R : Nat} {G : Nat → Nat → Nat} {t : TypeId} (h : CR w base v r n Wn G) (hR : base ≤ R ∧ R < w.heap.size) (hRv : some R ≠ v.ownBlock) (hO : Own w R Wn (G n))
    (hown : w1.ownsRow base 32 1 v' (n + 1) (slv r Wn n ++ [.slice (some ⟨R, 0, none⟩) Wn Wn])) (hg : (w.alloc (.cells #[x] t)).grownBy w1 v.ownBlock) (hat : v'.ownBlock = v.ownBlock ∨ v'.ownBlock = some (w.heap.size + 1)) :
    CR w1 base v' (fun j => if j = n then R else r j) (n + 1) Wn G where
  own := by rw [slv_snoc]; exact hown
  rows j hj := by
    have key : ∀ b, b < w.heap.size → some b ≠ v.ownBlock → ∀ g, Own w b Wn g → Own w1 b Wn g := fun b hb hne g hO q hq => by
      have e1 : w1.heap[b]? = (w.alloc (.cells #[x] t)).heap[b]? := hg.block b (by simp; omega) hne
      have e2 : (w.alloc (.cells #[x] t)).heap[b]? = w.heap[b]? := ((Below.refl w.heap.size w).alloc (Nat.le_refl _) _).block b hb
      have e3 : w1.heap[b]? = w.heap[b]? := e1.trans e2
      exact ⟨(World.cell?_of_block (a := ⟨b, q, none⟩) e3).trans (hO q hq).1, (World.frozen?_of_block (a := ⟨b, q, none⟩) e3).trans (hO q hq).2⟩
    by_cases e : j = n
    · subst e; simp only [if_true]; exact key R hR.2 hRv _ hO
    · simp only [e, if_false]
      have hl := h.lt j (by omega)
      exact key (r j) hl.2.1 hl.2.2 _ (h.rows j (by omega))
  lt j hj := by
    have hs : w.heap.size + 1 ≤ w1.heap.size := by have := hg.size; simpa using this
    have key : ∀ b, b < w.heap.size → some b ≠ v.ownBlock → some b ≠ v'.ownBlock := fun b hb hne => by
      rcases hat with e | e
      · rw [e]; exact hne
      · rw [e]; intro x; injection x with x; omega
    by_cases e : j = n
    · subst e; simp only [if_true]; exact ⟨hR.1, by omega, key R hR.2 hRv⟩
    · simp only [e, if_false]
      have hl := h.lt j (by omega)
      exact ⟨hl.1, by omega, key (r j) hl.2.1 hl.2.2⟩
theorem CR.rr {w : World} {base : Nat} {v : Value} {r : Nat → Nat} {n Wn : Nat} {G : Nat → Nat → Nat} (h : CR w base v r n Wn G) (hW : Wn ≤ maxLen) : ∃ a cap, v = .slice a n cap ∧ RR w a n (fun j => (some ⟨r j, 0, none⟩, Wn, Wn)) (fun j u => (G j u : Nat)) := by
  by_cases hn : 0 < n
  · obtain ⟨g, cap, rfl⟩ := owns_form h.own hn
    refine ⟨_, cap, rfl, fun k hk => ⟨g, 0, rfl, ?_, hW, (h.rows k hk).row⟩⟩
    rw [Nat.zero_add, h.own.cellAt k (by omega)]
    simp [slv, hk]
  · obtain rfl : n = 0 := by omega
    rcases h.own.2 with ⟨rfl, _⟩ | ⟨g, cap, cur, rfl, _⟩
    · exact ⟨none, 0, rfl, fun k hk => absurd hk (Nat.not_lt_zero _)⟩
    · exact ⟨_, cap, rfl, fun k hk => absurd hk (Nat.not_lt_zero _)⟩
theorem upt_upto {E : Nat → Int × Int × Int} {n i : Nat} (hi : i < n) : pts (upto (ahd E n) i) 10 = pts (upto (ahd E n) i) (i + 1) ∨ 10 < i + 1 := by
  by_cases h : 10 < i + 1
  · exact .inr h
  · refine .inl ?_
    have hlt : upto (ahd E n) i < pw (i + 1) := by
      refine Nat.or_lt_two_pow ?_ (Nat.pow_lt_pow_right (by decide) (Nat.lt_succ_self _))
      refine Nat.lt_pow_two_of_testBit _ fun k hk => ?_
      cases hb : (ahd E n i).testBit k
      · rfl
      · have := ahd_lt hi hb; omega
    have := pts_more hlt (10 - (i + 1))
    rw [show i + 1 + (10 - (i + 1)) = 10 by omega] at this
    exact this
set_option maxHeartbeats 4000000 in
theorem countsOf_any (Wn : Nat) (a : Option Addr) (len cap : Nat) (E : Nat → Int × Int × Int) (w : World) (h10 : len ≤ 10) (hW4 : Wn ≤ 4) (hev : ∀ j, j < len → EvIs (Wn : Int) E j 0) (hr : ERow w a len E) :
    Calls Tryd.prog 6 #[.int .i64 (Wn : Int), .slice a len cap] w fun e w' => (∃ v base r, e = .returned v ∧ CR w' base v r len Wn (cts E len)) ∧ Below w.heap.size w w' := by
  have HR : Hid (ERow w a len E) := hr
  have HWK : Hid (∀ j, j < len → (E j).2.1 = (wrk E j : Nat) ∧ wrk E j < Wn) := fun j hj => by
    have := (hev j hj).good.2.1
    unfold wrk; omega
  have HSM : Hid (∀ k, k < len → ahd E len k < 1024) := fun k hk => Nat.lt_of_lt_of_le (ahd_sm E len k hk) (pw_le len h10)
  clear hr hev
  go_enter Tryd.func6, Tryd.ntmps6
  go_wp2_with fail
  refine (aheadOf_any a len cap E _ h10 HR.out).mono ?_
  rintro e w1 ⟨⟨ao, co, rfl, hro, _⟩, hb1⟩
  obtain ⟨W, HW⟩ : ∃ W, Hid (w1.alloc (.cells #[.int .i64 (len : Int), .slice ao len co] 34) = W) := ⟨_, rfl⟩
  obtain ⟨X, HXE⟩ : ∃ X, Hid (w1.heap.size = X) := ⟨_, rfl⟩
  have HH : Hid (Held W X (len : Int) ao len co (fun k => (ahd E len k : Nat))) := by rw [← HW.out, ← HXE.out]; exact Held.box hro
  have HB2 : Hid (Below w.heap.size w W) := by rw [← HW.out]; exact hb1.alloc hb1.size _
  clear hro hb1
  obtain ⟨i5, hi5, hz0, hz1, hz2⟩ := info_parts Tryd.infoL
  obtain ⟨i0, hi0, hy0, hy1, hy2⟩ := info_parts Tryd.info3
  go_upto_region 2 with fail
  rw [HW.out, HXE.out]
  clear HW HXE
  go_wp2_with fail
  have HCR : Hid (CR W W.heap.size (.slice none 0 0) (fun _ => 0) 0 Wn (cts E len)) := ⟨World.ownsRow_nil _ _ _ _, fun j hj => absurd hj (Nat.not_lt_zero _), fun j hj => absurd hj (Nat.not_lt_zero _)⟩
  go_loopw [6, 7] (fun v t wx => ∃ (i : Nat) (r : Nat → Nat), i ≤ len ∧ t = .int .i64 i ∧ Hid (CR wx W.heap.size v r i Wn (cts E len)) ∧ Hid (Below W.heap.size W wx)) (fun _ t _ => len - (intOf t).toNat)
  case atStart => exact ⟨0, _, Nat.zero_le _, rfl, HCR.out, Below.refl _ _⟩
  case round =>
    obtain ⟨i, r, hi, rfl, hM, hB⟩ := hrel
    clear HCR
    by_cases hlt : i < len
    · have hlt' : (i : Int) < (len : Int) := by omega
      go_upto_region 7 with (at_make; refine wpList_make_full _ rfl _ _ 32 rfl wr.heap.size 3 i0 (.int .i64 0) 1 Tryd.underlying32 hi0 hy0 hy1 .i64 .i64 _ _ Wn rfl rfl rfl rfl (by rw [hy2]; omega) (by unfold maxLen; omega) (Nat.le_refl _) ?_; intro w3 hown3 hgrow3)
      have HB3 : Hid (Below wr.heap.size wr w3) := (Below.refl _ _).grown hgrow3 (Nat.le_refl _) (by simp)
      have HOW : Hid (Own w3 wr.heap.size Wn (cntL E (pts (upto (ahd E len) i) 0))) := by
        have h : Own w3 wr.heap.size Wn (fun _ => 0) := own_made hown3
        rw [show pts (upto (ahd E len) i) 0 = [] from rfl, cntL_nil]; exact h
      have HLT : Hid (wr.heap.size < w3.heap.size) := (hown3.lt _ rfl).2
      clear hown3 hgrow3
      have HMW : Hid (CR wr W.heap.size u6 r i Wn (cts E len)) := hM
      have HBW : Hid (Below W.heap.size W wr) := hB
      clear hM hB
      generalize wr = V at *
      obtain ⟨R, HRE⟩ : ∃ R, Hid (V.heap.size = R) := ⟨_, rfl⟩
      rw [HRE.out] at HOW HLT
      rw [HRE.out]
      go_wp2_with fail
      go_loopw [9] (fun t wx => ∃ k : Nat, k ≤ i + 1 ∧ t = .int .i64 k ∧ Hid (Own wx R Wn (cntL E (pts (upto (ahd E len) i) k))) ∧ Hid (Below R V wx) ∧ Hid (R < wx.heap.size)) (fun t _ => i + 1 - (intOf t).toNat)
      case atStart => exact ⟨0, Nat.zero_le _, rfl, HOW.out, by rw [← HRE.out]; exact HB3.out, HLT.out⟩
      case round =>
        obtain ⟨k, hk, rfl, hO, hBy, hRl⟩ := hrel
        clear HB3 HOW HLT
        have HBB : Hid (Below W.heap.size W wr) := HBW.out.trans (hBy.out.mono (by rw [← HRE.out]; exact HBW.out.size))
        by_cases hki : k ≤ i
        · have hki' : (k : Int) ≤ (i : Int) := by omega
          have hkl : k < len := by omega
          have hkl' : (k : Int) < (len : Int) := by omega
          have k0 := (HH.out.step HBB.out).c0
          have k1 := (HH.out.step HBB.out).c1
          have hbit := upto_bit (ahd E len) i k
          rcases (Bool.eq_false_or_eq_true (upt (ahd E len) k i)).symm with hv | hv
          · have HN : Hid (pts (upto (ahd E len) i) (k + 1) = pts (upto (ahd E len) i) k) := pts_no (hbit.trans hv)
            clear hbit
            go_wp2_with fail
            refine (refUpto_any (len : Int) ao len co (ahd E len) k i _ false hv h10 HSM.out (HH.out.step HBB.out).row (by omega) hlt).mono ?_
            rintro e w5 ⟨rfl, hb5⟩
            have HO5 : Hid (Own w5 R Wn (cntL E (pts (upto (ahd E len) i) (k + 1)))) := by rw [HN.out]; exact hO.out.keep hb5 hRl.out
            have HB5 : Hid (Below R V w5) := Below.trans hBy.out (hb5.mono (Nat.le_of_lt hRl.out))
            have HL5 : Hid (R < w5.heap.size) := Nat.lt_of_lt_of_le hRl.out hb5.size
            clear hO hBy hRl hb5 HBB k0 k1
            go_wp2_with fail
            go_roundw
            case rel => exact ⟨k + 1, by omega, by go_num, HO5.out, HB5.out, HL5.out⟩
            case measure => simp [intOf]; omega
          · have HN : Hid (pts (upto (ahd E len) i) (k + 1) = pts (upto (ahd E len) i) k ++ [k]) := pts_yes (hbit.trans hv)
            clear hbit
            go_wp2_with fail
            refine (refUpto_any (len : Int) ao len co (ahd E len) k i _ true hv h10 HSM.out (HH.out.step HBB.out).row (by omega) hlt).mono ?_
            rintro e w5 ⟨rfl, hb5⟩
            have HO5 : Own w5 R Wn (cntL E (pts (upto (ahd E len) i) k)) := hO.out.keep hb5 hRl.out
            have HB5 : Below R V w5 := Below.trans hBy.out (hb5.mono (Nat.le_of_lt hRl.out))
            have HL5 : R < w5.heap.size := Nat.lt_of_lt_of_le hRl.out hb5.size
            obtain ⟨be, oe, rfl, e1, e2, e3⟩ := (HR.out.below (HB2.out.trans ((HBB.out.mono HB2.out.size).trans (hb5.mono (Nat.le_trans HB2.out.size HBB.out.size))))) k hkl
            obtain ⟨hw1, hw2⟩ := HWK.out k hkl
            rw [hw1] at e2
            obtain ⟨ru, rf⟩ := HO5 (wrk E k) hw2
            have HO6 : Hid (Own (w5.setCell ⟨R, wrk E k, none⟩ (.int .i64 ((cntL E (pts (upto (ahd E len) i) k) (wrk E k) + 1 : Nat) : Int))) R Wn (cntL E (pts (upto (ahd E len) i) (k + 1)))) := by
              rw [HN.out, cntL_snoc]; exact HO5.set _ _ hw2
            have HB6 : Hid (∀ x, Below R V (w5.setCell ⟨R, wrk E k, none⟩ x)) := fun x => HB5.setCell (p := ⟨R, wrk E k, none⟩) (Nat.le_refl _) _
            have HL6 : Hid (∀ x, R < (w5.setCell ⟨R, wrk E k, none⟩ x).heap.size) := fun x => by simp only [World.size_setCell]; exact HL5
            have hle : cntL E (pts (upto (ahd E len) i) k) (wrk E k) ≤ 10 := Nat.le_trans (cntL_le _ _ _) (Nat.le_trans (pts_len _ _) (by omega))
            clear hO hBy hRl hb5 HBB k0 k1 HO5 HB5 HL5 hw1 e1 e3
            generalize cntL E (pts (upto (ahd E len) i) k) (wrk E k) = cv at *
            generalize wrk E k = u at *
            have hu' : (u : Int) < (Wn : Int) := by omega
            go_wp2_with fail
            go_roundw
            case rel => exact ⟨k + 1, by omega, by go_num, (by have h := HO6.out; rw [Int.natCast_add] at h; exact h), HB6.out _, HL6.out _⟩
            case measure => simp [intOf]; omega
        · obtain rfl : k = i + 1 := by omega
          have HOF : Own wr R Wn (cts E len i) := by
            have h := hO.out
            rcases upt_upto (E := E) hlt with e | e
            · unfold cts; rw [e]; exact h
            · omega
          have HCV : CR wr W.heap.size u6 r i Wn (cts E len) := HMW.out.step (by rw [HRE.out]; exact hBy.out)
          have hbase : W.heap.size ≤ R := by rw [← HRE.out]; exact HBW.out.size
          have hRv : some R ≠ u6.ownBlock := fun e => by
            have := (HMW.out.own.lt R e.symm).2
            rw [HRE.out] at this; omega
          have hown6 := HCV.own
          have hsz : W.heap.size ≤ wr.heap.size := HBB.out.size
          have hno : ¬ ((i : Int) + 1 ≤ (i : Int)) := by omega
          have HRL : Hid (R < wr.heap.size) := hRl.out
          have HBC : Hid (Below W.heap.size W wr) := HBB.out
          have HCV2 : Hid (CR wr W.heap.size u6 r i Wn (cts E len)) := HCV
          have HOF2 : Hid (Own wr R Wn (cts E len i)) := HOF
          clear hO hBy hRl HCV HOF HBB
          go_wp2_with (at_builtin; refine wpList_append_own_at _ rfl _ _ 23 rfl W.heap.size 32 i5 (.slice none 0 0) 1 24 Tryd.underlying23 hi5 hz0 hz1 hz2 rfl (by decide) _ _ _ rfl (hown6.alloc _) ⟨wr.heap.size, 0, none⟩ 1 1 [.slice (some ⟨R, 0, none⟩) Wn Wn] rfl rfl ?c1 ?c2 ?c3 ?c4 ?c5 ?_)
          case c2 => rfl
          case c3 => unfold maxLen; omega
          case c4 => omega
          case c5 => first | omega | (simp; omega)
          intro v' w7 hown' hgrow _ hat
          have HCF : Hid (CR w7 W.heap.size v' (fun j => if j = i then R else r j) (i + 1) Wn (cts E len)) := HCV2.out.app ⟨hbase, HRL.out⟩ hRv HOF2.out hown' hgrow (by simpa using hat)
          have HB7 : Hid (Below W.heap.size W w7) := below_append2 HBC.out hown6 hgrow
          clear hown' hgrow hat hown6 hRv
          go_wp2_with fail
          go_roundw
          case rel => exact ⟨i + 1, _, by omega, by go_num, HCF.out, HB7.out⟩
          case measure => simp [intOf]; omega
    · obtain rfl : i = len := by omega
      have HBF : Hid (Below w.heap.size w wr) := Below.then HB2.out hB.out
      go_wp2_with fail
      go_ret
      exact ⟨⟨_, _, r, rfl, hM.out⟩, HBF.out⟩
end Go.Proofs.YtomoodpgmkjacaaDoor
