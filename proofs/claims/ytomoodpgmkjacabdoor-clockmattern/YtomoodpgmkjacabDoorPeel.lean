/-
  What level.peel answers: the levels of an order. Conditions: an order of at most ten points that lies in a slice of numbers.
-/
import Derived.Test.YtomoodpgmkjacabDoorLevelM
import Derived.Test.YtomoodpgmkjacabDoorCovB
import Derived.Test.YtomoodpgmkjacabDoorKeptB
import Derived.Test.YtomoodpgmkjacabDoorNats
import Derived.Deep.LoopGhost
namespace Go.Proofs.YtomoodpgmkjacabDoor
open Go.RowKit

/-- The test by which peel takes a point. -/
def pt (g : Nat → Nat) (R p : Nat) : Bool := R.testBit p && (g p &&& R == 0)
theorem pt_no1 {g : Nat → Nat} {R p : Nat} (h : R.testBit p = false) : pt g R p = false := by simp [pt, h]
theorem pt_eq {g : Nat → Nat} {R p : Nat} (h : R.testBit p = true) : pt g R p = (g p &&& R == 0) := by simp [pt, h]

set_option maxHeartbeats 1000000 in
theorem peel_any (n : Nat) (a : Option Addr) (cap : Nat) (g : Nat → Nat) (w : World) (h10 : n ≤ 10) (hg : Sm n n g) (ho : Ord n g) (hr : Row w a n (fun k => (g k : Nat))) :
    Calls Tryd.prog 36 #[.agg #[.int .i64 (n : Int), .slice a n cap]] w fun e w' => (∃ v, e = .returned v ∧ NSl w' v (levs g n)) ∧ Below w.heap.size w w' := by
  have HG : Hid (∀ k, k < n → g k < 1024) := fun k hk => Nat.lt_of_lt_of_le (hg k hk) (pw_le n h10)
  have HSET : Hid (∀ h, setBy (pt g (geS g n h)) n = lvS g n h) := fun h => peel_set h10 hg ho h
  have HREST : Hid (∀ h, lack (geS g n h) (lvS g n h) = geS g n (h + 1)) := fun h => peel_rest h10 h
  have HR : Hid (Row w a n (fun k => (g k : Nat))) := hr
  clear hg ho hr
  have HZ : Hid (geS g n 0 = pw n - 1) := geS_zero g n
  have hcast : Hid ((((pw n : Nat) : Int) - 1) = ((geS g n 0 : Nat) : Int)) := by
    have e : (((pw n : Nat) : Int) - 1) = ((geS g n 0 : Nat) : Int) := by rw [HZ.out]; have := pw_pos n; omega
    exact e
  have HLT : Hid (∀ h, geS g n h < pw n) := fun h => geS_lt g n h
  have HLV : Hid (∀ h, lvS g n h < pw n) := fun h => lvS_lt g n h
  have hpw := pw_le n h10
  have HTN : Hid (∀ h, geS g n h = 0 ↔ tops g n ≤ h) := fun h => geS_none g n h
  have HTL : Hid (tops g n ≤ 1025) := tops_le g h10
  obtain ⟨i0, hi, hz0, hz1, hz2⟩ := info_parts Tryd.info3
  go_enter Tryd.func36, Tryd.ntmps36
  go_wp2_with (go_at_call 54; refine (all_any _ _ h10).mono ?_; rintro e w' ⟨rfl, rfl⟩)
  go_loopg [3, 4] (tops g n) (fun m v t wx => ∃ h : Nat, h ≤ tops g n ∧ tops g n - h ≤ m ∧ t = .int .i64 (geS g n h : Nat) ∧ wx.ownsRow (w.heap.size + 1) 3 1 v (levTo g n h).length (natVals (levTo g n h)) ∧ Hid (Below (w.heap.size + 1) (w.alloc (.cells #[.int .i64 (n : Int), .slice a n cap] 26)) wx))
  case atStart => exact ⟨0, Nat.zero_le _, Nat.sub_le _ _, by rw [hcast.out], World.ownsRow_nil _ _ _ _, Below.refl _ _⟩
  case round =>
    obtain ⟨h, hh, hm, rfl, hown, hB⟩ := hrel
    have hH := Held.kept HR.out hB.out
    have c0 := hH.c0
    clear hH
    by_cases hz : geS g n h = 0
    · have hzt : (((geS g n h : Nat) : Int) != 0) = false := by simp [hz]
      have HF : Hid (NSl wr u3 (levs g n)) := by
        have e : levTo g n h = levs g n := by unfold levs; rw [show h = tops g n from by have := (HTN.out h).1 hz; omega]
        rw [← e]; exact owns_nats hown
      clear hown hz
      go_wp2
      go_ret
      exact ⟨⟨_, rfl, HF.out⟩, out_below hB.out⟩
    · have hzt : (((geS g n h : Nat) : Int) != 0) = true := by simpa using hz
      have hlt : h < tops g n := by
        rcases Nat.lt_or_ge h (tops g n) with h1 | h1
        · exact h1
        · exact absurd ((HTN.out h).2 h1) hz
      have hRl := HLT.out h
      have hS := HSET.out h
      have hRS := HREST.out h
      have hLl := HLV.out h
      have HE : Hid (levTo g n (h + 1) = levTo g n h ++ [lvS g n h]) := levTo_succ g n h
      have HLN : Hid ((levTo g n h).length = h) := levTo_len g n h
      obtain ⟨L, HL⟩ : ∃ L, Hid (L = levTo g n h) := ⟨_, rfl⟩
      rw [← HL.out] at hown HLN HE
      have HS : Hid (setBy (pt g (geS g n h)) n = lvS g n h) := hS
      have HRS : Hid (lack (geS g n h) (lvS g n h) = geS g n (h + 1)) := hRS
      clear hS hRS hz
      generalize geS g n h = R at *
      generalize lvS g n h = V at *
      have HO : Hid (wr.ownsRow (w.heap.size + 1) 3 1 u3 L.length (natVals L)) := hown
      clear hown
      go_wp2
      clear c0
      go_loopw [5, 14] (fun t i wx => ∃ k : Nat, k ≤ n ∧ i = .int .i64 k ∧ t = .int .i64 (setBy (pt g R) k : Nat) ∧ Hid (Below (w.heap.size + 1) (w.alloc (.cells #[.int .i64 (n : Int), .slice a n cap] 26)) wx) ∧ Hid (wx.ownsRow (w.heap.size + 1) 3 1 u3 L.length (natVals L))) (fun _ i _ => n - (intOf i).toNat)
      case atStart => exact ⟨0, Nat.zero_le _, rfl, rfl, hB.out, HO.out⟩
      case round =>
        clear hB HO
        obtain ⟨k, hk, rfl, rfl, hB, HO⟩ := hrel
        have hSl := Nat.lt_of_lt_of_le (setBy_lt (pt g R) k) (Nat.pow_le_pow_right (by decide : 0 < 2) hk)
        by_cases hkl : k < n
        · have hH := Held.kept HR.out hB.out
          have c0 := hH.c0
          have c1 := hH.c1
          obtain ⟨b, off, rfl, hcc⟩ := hH.row.at hkl
          have hck := hcc k hkl
          have hgk := HG.out k hkl
          have hlk : (k : Int) < (n : Int) := by omega
          clear hcc hH
          rcases (Bool.eq_false_or_eq_true (R.testBit k)).symm with hb | hb
          · have HY : Hid (setBy (pt g R) (k + 1) = setBy (pt g R) k) := setBy_no (pt_no1 hb)
            generalize setBy (pt g R) k = S at *
            go_wp2_with (go_at_call 28; refine (has_as _ _ _ _ hb (by omega) (by omega)).mono ?_; rintro e w' ⟨rfl, rfl⟩)
            go_roundw
            case rel => exact ⟨k + 1, by omega, by go_num, by rw [HY.out], hB.out, HO.out⟩
            case measure => simp [intOf]; omega
          · have hand := i64_and (g k) R (by omega) (by omega)
            have HPT : Hid (pt g R k = (g k &&& R == 0)) := pt_eq hb
            generalize hAD : g k &&& R = AD at *
            clear hAD
            by_cases hz : AD = 0
            · have hzt2 : (((AD : Nat) : Int) == 0) = true := by simp [hz]
              have HY : Hid (setBy (pt g R) (k + 1) = setBy (pt g R) k + pw k) := setBy_yes (by rw [HPT.out]; simp [hz])
              have hsh := wrap_pow k (Nat.lt_of_lt_of_le hkl (Nat.le_trans h10 (by decide)))
              have hor := or_pw (b := k) h10 hSl hkl
              have HAD : Hid (setBy (pt g R) k ||| pw k = setBy (pt g R) k + pw k) := or_pw_add (setBy_lt (pt g R) k)
              clear hz
              generalize setBy (pt g R) k = S at *
              go_wp2_with (go_at_call 28; refine (has_as _ _ _ _ hb (by omega) (by omega)).mono ?_; rintro e w' ⟨rfl, rfl⟩)
              go_roundw
              case rel => exact ⟨k + 1, by omega, by go_num, by rw [HY.out, ← HAD.out], hB.out, HO.out⟩
              case measure => simp [intOf]; omega
            · have hzt2 : (((AD : Nat) : Int) == 0) = false := by simp; exact hz
              have HY : Hid (setBy (pt g R) (k + 1) = setBy (pt g R) k) := setBy_no (by rw [HPT.out]; simpa using hz)
              clear hz
              generalize setBy (pt g R) k = S at *
              go_wp2_with (go_at_call 28; refine (has_as _ _ _ _ hb (by omega) (by omega)).mono ?_; rintro e w' ⟨rfl, rfl⟩)
              go_roundw
              case rel => exact ⟨k + 1, by omega, by go_num, by rw [HY.out], hB.out, HO.out⟩
              case measure => simp [intOf]; omega
        · have hkn : k = n := by omega
          have HSV : Hid (setBy (pt g R) k = V) := by rw [hkn]; exact HS.out
          have hown := HO.out
          have hsz := hB.out.size
          simp at hsz
          have hlen : L.length ≤ 1025 := by have h1 := HLN.out; have h2 := HTL.out; omega
          rw [HSV.out]
          have hno := i64_andNot R V (by omega) (by omega)
          clear hSl HO HSV
          go_wp2_with (at_builtin; refine wpList_append_own _ rfl _ _ 24 rfl (w.heap.size + 1) 3 i0 (.int .i64 0) 1 8 Tryd.underlying24 hi hz0 hz1 hz2 rfl (by decide) _ _ _ rfl (hown.alloc _) ⟨wr.heap.size, 0, none⟩ 1 1 [.int .i64 (V : Nat)] rfl rfl ?c1 ?c2 ?c3 ?c4 ?c5 ?_)
          case c1 =>
            intro j u hj
            match j, hj with
            | 0, hj => simp at hj; subst hj; simp [Addr.add]
          case c2 => intro u hu; simp at hu; subst hu; rfl
          case c3 => unfold maxLen; omega
          case c4 => omega
          case c5 => simp; omega
          intro v' w2 hown' hgrow _
          have HB5 : Hid (Below (w.heap.size + 1) (w.alloc (.cells #[.int .i64 (n : Int), .slice a n cap] 26)) w2) := below_append hB.out hown hgrow
          have HO5 : Hid (w2.ownsRow (w.heap.size + 1) 3 1 v' (levTo g n (h + 1)).length (natVals (levTo g n (h + 1)))) := by
            rw [HE.out, natVals_append, List.length_append]; exact hown'
          clear hown' hgrow hown hB hsz
          go_wp2_with fail
          go_roundg (gk - 1)
          case rel => exact ⟨h + 1, by omega, by omega, by rw [← HRS.out], HO5.out, HB5.out⟩
          case measure => omega
end Go.Proofs.YtomoodpgmkjacabDoor
