/-
  What the reference's Heights and LevelSets answer. Conditions: an order of at most ten points that lies in a slice of numbers.
-/
import Derived.Test.YtliajgcobhjidaaRefLevel
namespace Go.Proofs.Ytliajgcobhjidaa
open Go.RowKit

def mapTo (F : Nat → Nat) (k : Nat) : List Nat := (List.range k).map F
theorem mapTo_succ (F : Nat → Nat) (k : Nat) : mapTo F (k + 1) = mapTo F k ++ [F k] := by simp [mapTo, List.range_succ]
theorem mapTo_len (F : Nat → Nat) (k : Nat) : (mapTo F k).length = k := by simp [mapTo]
/-- The heights. -/
def hts (g : Nat → Nat) (n : Nat) : List Nat := mapTo (ht g n) n

set_option maxHeartbeats 1000000 in
theorem refHeights_any (a : Option Addr) (n cap : Nat) (g : Nat → Nat) (w : World) (h10 : n ≤ 10) (hg : Sm n n g) (ho : Ord n g) (hr : Row w a n (fun k => (g k : Nat))) :
    Calls Try.prog 9 #[.agg #[.int .i64 (n : Int), .slice a n cap]] w fun e w' => (∃ v, e = .returned v ∧ NSl w' v (hts g n)) ∧ Below w.heap.size w w' := by
  have HG : Hid (Sm n n g) := hg
  have HO : Hid (Ord n g) := ho
  have HR : Hid (Row w a n (fun k => (g k : Nat))) := hr
  clear hr hg ho
  have HCV : Hid (hts g n = mapTo (ht g n) n) := rfl
  obtain ⟨F, HF⟩ : ∃ F, Hid (F = ht g n) := ⟨_, rfl⟩
  rw [← HF.out] at HCV
  obtain ⟨i0, hi, hz0, hz1, hz2⟩ := info_parts Try.info3
  go_enter Try.func9, Try.ntmps9
  go_wp2
  go_loopw [3, 4] (fun v i wx => ∃ s : Nat, s ≤ n ∧ i = .int .i64 s ∧ wx.ownsRow (w.heap.size + 1) 3 1 v (mapTo F s).length (natVals (mapTo F s)) ∧ Hid (Below (w.heap.size + 1) (w.alloc (.cells #[.int .i64 (n : Int), .slice a n cap] 24)) wx)) (fun _ i _ => n - (intOf i).toNat)
  case atStart => exact ⟨0, Nat.zero_le _, rfl, World.ownsRow_nil _ _ _ _, Below.refl _ _⟩
  case round =>
    obtain ⟨s, hs, rfl, hown, hB⟩ := hrel
    have hH := Held.kept HR.out hB.out
    have c0 := hH.c0
    have c1 := hH.c1
    by_cases hlt : s < n
    · have HE : Hid (mapTo F (s + 1) = mapTo F s ++ [F s]) := mapTo_succ F s
      have hlen : (mapTo F s).length ≤ n := by rw [mapTo_len]; omega
      go_wp2_with fail
      refine (ht_any n a cap g s _ h10 HG.out HO.out hlt hH.row).mono ?_
      rintro e w1 ⟨rfl, hb1⟩
      rw [← HF.out]
      have HB2 : Hid (Below (w.heap.size + 1) (w.alloc (.cells #[.int .i64 (n : Int), .slice a n cap] 24)) w1) := below_call hB.out hb1
      have hown2 := owns_below hown hb1
      have hsz : w.heap.size + 1 ≤ w1.heap.size := by have := HB2.out.size; simpa using this
      clear hown hb1 hH c0 c1 hB
      obtain ⟨L, HL⟩ : ∃ L, Hid (L = mapTo F s) := ⟨_, rfl⟩
      rw [← HL.out] at hown2 hlen
      go_wp2_with (at_builtin; refine wpList_append_own _ rfl _ _ 22 rfl (w.heap.size + 1) 3 i0 (.int .i64 0) 1 8 Try.underlying22 hi hz0 hz1 hz2 rfl (by decide) _ _ _ rfl (hown2.alloc _) ⟨w1.heap.size, 0, none⟩ 1 1 [.int .i64 (F s : Nat)] rfl rfl ?c1 ?c2 ?c3 ?c4 ?c5 ?_)
      case c1 =>
        intro j u hj
        match j, hj with
        | 0, hj => simp at hj; subst hj; simp [Addr.add]
      case c2 => intro u hu; simp at hu; subst hu; rfl
      case c3 => unfold maxLen; omega
      case c4 => omega
      case c5 => simp; omega
      intro v' w2 hown' hgrow _
      have HB3 : Hid (Below (w.heap.size + 1) (w.alloc (.cells #[.int .i64 (n : Int), .slice a n cap] 24)) w2) := below_append HB2.out hown2 hgrow
      have HO3 : Hid (w2.ownsRow (w.heap.size + 1) 3 1 v' (mapTo F (s + 1)).length (natVals (mapTo F (s + 1)))) := by
        rw [HE.out, ← HL.out, natVals_append, List.length_append]; exact hown'
      clear hown' hgrow hown2 HB2 hlen hsz HL
      go_wp2_with fail
      go_roundw
      case rel => exact ⟨s + 1, by omega, by go_num, HO3.out, HB3.out⟩
      case measure => simp [intOf]; omega
    · have hsn : s = n := by omega
      have HFN : Hid (NSl wr u3 (hts g n)) := by rw [HCV.out, ← hsn]; exact owns_nats hown
      have hle : (n : Int) ≤ (s : Int) := by omega
      clear hown hH hsn hlt
      go_wp2_with fail
      go_ret
      exact ⟨⟨_, rfl, HFN.out⟩, out_below hB.out⟩

set_option maxHeartbeats 1000000 in
theorem refLevelSets_any (a : Option Addr) (n cap : Nat) (g : Nat → Nat) (w : World) (h10 : n ≤ 10) (hg : Sm n n g) (ho : Ord n g) (hr : Row w a n (fun k => (g k : Nat))) :
    Calls Try.prog 13 #[.agg #[.int .i64 (n : Int), .slice a n cap]] w fun e w' => (∃ v, e = .returned v ∧ NSl w' v (levs g n)) ∧ Below w.heap.size w w' := by
  have HG : Hid (Sm n n g) := hg
  have HO : Hid (Ord n g) := ho
  have HR : Hid (Row w a n (fun k => (g k : Nat))) := hr
  have HTN : Hid (∀ h, lvS g n h = 0 ↔ tops g n ≤ h) := fun h => lvS_none h10 hg ho h
  have HLV : Hid (∀ h, lvS g n h < pw n) := fun h => lvS_lt g n h
  have hpw := pw_le n h10
  have HTL : Hid (tops g n ≤ 1025) := tops_le g h10
  have HSM : Hid (∀ j, ht g n j ≤ 1024) := fun j => ht_small g h10 j
  clear hr hg ho
  obtain ⟨F, HF⟩ : ∃ F, Hid (F = ht g n) := ⟨_, rfl⟩
  have HLS : Hid (∀ h, setBy (fun i => F i == h) n = lvS g n h) := fun h => by rw [HF.out]; rfl
  rw [← HF.out] at HSM
  obtain ⟨i0, hi, hz0, hz1, hz2⟩ := info_parts Try.info3
  go_enter Try.func13, Try.ntmps13
  go_wp2
  go_loopw [3, 4] (fun v i wx => ∃ h : Nat, h ≤ tops g n ∧ i = .int .i64 h ∧ wx.ownsRow (w.heap.size + 1) 3 1 v (levTo g n h).length (natVals (levTo g n h)) ∧ Hid (Below (w.heap.size + 1) (w.alloc (.cells #[.int .i64 (n : Int), .slice a n cap] 24)) wx)) (fun _ i _ => tops g n - (intOf i).toNat)
  case atStart => exact ⟨0, Nat.zero_le _, rfl, World.ownsRow_nil _ _ _ _, Below.refl _ _⟩
  case round =>
    obtain ⟨h, hh, rfl, hown, hB⟩ := hrel
    have HO0 : Hid (wr.ownsRow (w.heap.size + 1) 3 1 u3 (levTo g n h).length (natVals (levTo g n h))) := hown
    have hhl := HTL.out
    clear hown
    go_wp2_with fail
    have HLN : Hid ((levTo g n h).length = h) := levTo_len g n h
    have HE : Hid (levTo g n (h + 1) = levTo g n h ++ [lvS g n h]) := levTo_succ g n h
    have HLH : Hid (setBy (fun i => F i == h) n = lvS g n h) := HLS.out h
    have HTH : Hid (lvS g n h = 0 ↔ tops g n ≤ h) := HTN.out h
    have HLL : Hid (lvS g n h < pw n) := HLV.out h
    have HEQ : Hid (tops g n ≤ h → levTo g n h = levs g n) := fun h1 => by unfold levs; rw [show h = tops g n from by omega]
    obtain ⟨L, HL⟩ : ∃ L, Hid (L = levTo g n h) := ⟨_, rfl⟩
    rw [← HL.out] at HO0 HLN HE HEQ
    clear HL HTN HLV
    generalize lvS g n h = V at *
    go_loopw [5, 6] (fun t x wx => ∃ k : Nat, k ≤ n ∧ x = .int .i64 k ∧ t = .int .i64 (setBy (fun i => F i == h) k : Nat) ∧ Hid (Below (w.heap.size + 1) (w.alloc (.cells #[.int .i64 (n : Int), .slice a n cap] 24)) wx) ∧ Hid (wx.ownsRow (w.heap.size + 1) 3 1 u3 L.length (natVals L))) (fun _ x _ => n - (intOf x).toNat)
    case atStart => exact ⟨0, Nat.zero_le _, rfl, rfl, hB.out, HO0.out⟩
    case round =>
      clear hB HO0
      obtain ⟨k, hk, rfl, rfl, hB, HO0⟩ := hrel
      have hH := Held.kept HR.out hB.out
      have c0 := hH.c0
      have c1 := hH.c1
      have hSl := Nat.lt_of_lt_of_le (setBy_lt (fun i => F i == h) k) (Nat.pow_le_pow_right (by decide : 0 < 2) hk)
      by_cases hkl : k < n
      · have hFk := HSM.out k
        by_cases he : F k = h
        · have HY : Hid (setBy (fun i => F i == h) (k + 1) = setBy (fun i => F i == h) k + pw k) := setBy_yes (P := fun i => F i == h) (by simp [he])
          have hpk := pw_small k (by omega)
          have hq : (((F k : Nat) : Int) == (h : Int)) = true := by simp [he]
          have hSl2 : setBy (fun i => F i == h) k < 1024 := Nat.lt_of_lt_of_le hSl hpw
          clear he hSl
          generalize setBy (fun i => F i == h) k = S at *
          go_wp2_with fail
          refine (ht_any n a cap g k _ h10 HG.out HO.out hkl hH.row).mono ?_
          rintro e w1 ⟨rfl, hb1⟩
          rw [← HF.out]
          have HB2 : Hid (Below (w.heap.size + 1) (w.alloc (.cells #[.int .i64 (n : Int), .slice a n cap] 24)) w1) := below_call hB.out hb1
          have HO2 : Hid (w1.ownsRow (w.heap.size + 1) 3 1 u3 L.length (natVals L)) := owns_below HO0.out hb1
          clear hB HO0 hb1 hH c0 c1
          go_wp2_with (go_at_call 20; refine (bit_any k _ (by omega)).mono ?_; rintro e w' ⟨rfl, rfl⟩)
          go_roundw
          case rel => exact ⟨k + 1, by omega, by go_num, by rw [HY.out]; go_num, HB2.out, HO2.out⟩
          case measure => simp [intOf]; omega
        · have HY : Hid (setBy (fun i => F i == h) (k + 1) = setBy (fun i => F i == h) k) := setBy_no (P := fun i => F i == h) (by simpa using he)
          have hq : (((F k : Nat) : Int) == (h : Int)) = false := by simp; omega
          clear he hSl
          generalize setBy (fun i => F i == h) k = S at *
          go_wp2_with fail
          refine (ht_any n a cap g k _ h10 HG.out HO.out hkl hH.row).mono ?_
          rintro e w1 ⟨rfl, hb1⟩
          rw [← HF.out]
          have HB2 : Hid (Below (w.heap.size + 1) (w.alloc (.cells #[.int .i64 (n : Int), .slice a n cap] 24)) w1) := below_call hB.out hb1
          have HO2 : Hid (w1.ownsRow (w.heap.size + 1) 3 1 u3 L.length (natVals L)) := owns_below HO0.out hb1
          clear hB HO0 hb1 hH c0 c1
          go_wp2_with fail
          go_roundw
          case rel => exact ⟨k + 1, by omega, by go_num, by rw [HY.out], HB2.out, HO2.out⟩
          case measure => simp [intOf]; omega
      · have hkn : k = n := by omega
        have HSV : Hid (setBy (fun i => F i == h) k = V) := by rw [hkn]; exact HLH.out
        rw [HSV.out]
        have hle : (n : Int) ≤ (k : Int) := by omega
        have hVl := HLL.out
        clear hSl HSV hH c1
        by_cases hz : V = 0
        · have hzt : (((V : Nat) : Int) == 0) = true := by simp [hz]
          have HFN : Hid (NSl wr u3 (levs g n)) := by rw [← HEQ.out (HTH.out.1 hz)]; exact owns_nats HO0.out
          clear hz hVl
          go_wp2
          go_ret
          exact ⟨⟨_, rfl, HFN.out⟩, out_below hB.out⟩
        · have hzt : (((V : Nat) : Int) == 0) = false := by simpa using hz
          have hlt : h < tops g n := Nat.lt_of_not_le fun h1 => hz (HTH.out.2 h1)
          have hown := HO0.out
          have hsz := hB.out.size
          simp at hsz
          have hlen : L.length ≤ 1025 := by have h1 := HLN.out; omega
          clear hz HO0
          go_wp2_with (at_builtin; refine wpList_append_own _ rfl _ _ 22 rfl (w.heap.size + 1) 3 i0 (.int .i64 0) 1 8 Try.underlying22 hi hz0 hz1 hz2 rfl (by decide) _ _ _ rfl (hown.alloc _) ⟨wr.heap.size, 0, none⟩ 1 1 [.int .i64 (V : Nat)] rfl rfl ?c1 ?c2 ?c3 ?c4 ?c5 ?_)
          case c1 =>
            intro j u hj
            match j, hj with
            | 0, hj => simp at hj; subst hj; simp [Addr.add]
          case c2 => intro u hu; simp at hu; subst hu; rfl
          case c3 => unfold maxLen; omega
          case c4 => omega
          case c5 => simp; omega
          intro v' w2 hown' hgrow _
          have HB5 : Hid (Below (w.heap.size + 1) (w.alloc (.cells #[.int .i64 (n : Int), .slice a n cap] 24)) w2) := below_append hB.out hown hgrow
          have HO5 : Hid (w2.ownsRow (w.heap.size + 1) 3 1 v' (levTo g n (h + 1)).length (natVals (levTo g n (h + 1)))) := by
            rw [HE.out, natVals_append, List.length_append]; exact hown'
          clear hown' hgrow hown hB hsz
          go_wp2_with fail
          go_roundw
          case rel => exact ⟨h + 1, by omega, by go_num, HO5.out, HB5.out⟩
          case measure => simp [intOf]; omega
end Go.Proofs.Ytliajgcobhjidaa
