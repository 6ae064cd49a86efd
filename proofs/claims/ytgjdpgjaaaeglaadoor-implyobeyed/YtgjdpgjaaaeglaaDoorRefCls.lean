/-
  What the reference's Closes and BaseOf answer. Conditions: as each theorem says.
-/
import Derived.Test.YtgjdpgjaaaeglaaDoorFolL
namespace Go.Proofs.YtgjdpgjaaaeglaaDoor
open Go.RowKit

/-- z with the first j points of t. -/
def zb (z t j : Nat) : Nat := z ||| setBy (fun i => t.testBit i) j
theorem zb_bit (z t j i : Nat) : (zb z t j).testBit i = (z.testBit i || (decide (i < j) && t.testBit i)) := by
  unfold zb; rw [Nat.testBit_or, setBy_bit]
theorem zb_zero (z t : Nat) : zb z t 0 = z := by unfold zb; simp [setBy]
theorem zb_same {z t j : Nat} (h : t.testBit j = false ∨ (zb z t j).testBit j = true) : zb z t (j + 1) = zb z t j := by
  apply Nat.eq_of_testBit_eq
  intro i
  rw [zb_bit, zb_bit]
  by_cases e : i = j
  · subst e
    rcases h with h | h
    · simp [h]
    · rw [zb_bit] at h
      simp at h
      simp [h]
  · have : decide (i < j + 1) = decide (i < j) := by simp; omega
    rw [this]
theorem or_free' {x k : Nat} (h : x.testBit k = false) : x ||| pw k = x + pw k := by
  have hm : x % 2 ^ (k + 1) < 2 ^ k := by
    rw [Nat.mod_pow_succ]
    have h2 : x / 2 ^ k % 2 = 0 := by
      rw [Nat.testBit_eq_decide_div_mod_eq] at h
      have : ¬ (x / 2 ^ k % 2 = 1) := by simpa using h
      omega
    rw [h2, Nat.mul_zero, Nat.add_zero]
    exact Nat.mod_lt _ (Nat.two_pow_pos k)
  have hlt : x % 2 ^ (k + 1) < 2 ^ (k + 1) := Nat.mod_lt _ (Nat.two_pow_pos _)
  have hx : x = 2 ^ (k + 1) * (x / 2 ^ (k + 1)) + x % 2 ^ (k + 1) := (Nat.div_add_mod x (2 ^ (k + 1))).symm
  have h1 := Nat.two_pow_add_eq_or_of_lt hlt (x / 2 ^ (k + 1))
  have h2 : x % 2 ^ (k + 1) + 2 ^ k < 2 ^ (k + 1) := by rw [Nat.pow_succ] at *; omega
  have h3 := Nat.two_pow_add_eq_or_of_lt h2 (x / 2 ^ (k + 1))
  have h4 : x % 2 ^ (k + 1) ||| pw k = x % 2 ^ (k + 1) + pw k := or_pw_add hm
  have e : x ||| pw k = 2 ^ (k + 1) * (x / 2 ^ (k + 1)) + (x % 2 ^ (k + 1) + 2 ^ k) := by
    rw [h3, show x % 2 ^ (k + 1) + 2 ^ k = x % 2 ^ (k + 1) ||| pw k from h4.symm, ← Nat.or_assoc, ← h1, ← hx]
  rw [e]
  show _ = x + 2 ^ k
  omega
theorem zb_more {z t j : Nat} (h1 : t.testBit j = true) (h2 : (zb z t j).testBit j = false) : zb z t (j + 1) = zb z t j + pw j := by
  rw [← or_free' h2]
  apply Nat.eq_of_testBit_eq
  intro i
  rw [Nat.testBit_or, zb_bit, zb_bit, pw_bit]
  by_cases e : i = j
  · subst e; simp [h1]
  · have : decide (i < j + 1) = decide (i < j) := by simp; omega
    rw [this]
    have : decide (j = i) = false := by simp; omega
    rw [this, Bool.or_false]
theorem zb_end {z t n : Nat} (ht : t < pw n) : zb z t n = z ||| t := by
  apply Nat.eq_of_testBit_eq
  intro i
  rw [zb_bit, Nat.testBit_or]
  cases e : t.testBit i
  · simp
  · simp [bit_of_lt ht e]
theorem zb_lt {z t n j : Nat} (hz : z < pw n) (hj : j ≤ n) : zb z t j < pw n :=
  Nat.or_lt_two_pow hz (Nat.lt_of_lt_of_le (setBy_lt _ j) (Nat.pow_le_pow_right (by decide) hj))
/-- How far it still is, with one more round to come. -/
def mzb (a : Int) (b : Bool) : Nat := 2 * (1024 - a.toNat) + if b = true then 1 else 0
theorem mzb_step {x z : Nat} {b : Bool} (h1 : b = true → x < z) (h2 : b = false → z = x) (h3 : z < 1024) : mzb (z : Int) b < mzb (x : Int) true := by
  unfold mzb
  cases b
  · rw [h2 rfl]; simp
  · have := h1 rfl
    simp; omega
def boolOf : Value → Bool
  | .bool b => b
  | _ => false

set_option maxHeartbeats 4000000 in
theorem closes_any (n : Nat) (R : List (Nat × Nat)) (a : Option Addr) (q cap : Nat) (w : World) (h10 : n ≤ 10) (hR : RIn n R) (hq : q = R.length) (h60 : q ≤ 60) (hr : PRow w a q (pairAt R)) :
    Calls Tryd.prog 10 #[.int .i64 (n : Nat), .slice a q cap] w fun e w' => (∃ b cp, e = .returned (.slice b (pw n) cp) ∧ Row w' b (pw n) (fun k => (clo R n k : Nat))) ∧ Below w.heap.size w w' := by
  have HR : Hid (∀ w', Below w.heap.size w w' → PRow w' a q (pairAt R)) := fun w' h => hr.below h
  have HRI : Hid (∀ k, k < q → (R.getD k (0, 0)).1 < pw n ∧ (R.getD k (0, 0)).2 < pw n) := fun k hk => hR _ (getD_mem (0, 0) (by rw [← hq]; exact hk))
  have HQ : Hid (q = R.length) := hq
  have HRD : Hid (RIn n R) := hR
  have hpn := pw_le n h10
  obtain ⟨i0, hi, hz0, hz1, hz2⟩ := info_parts Tryd.info3
  obtain ⟨C, HC⟩ : ∃ C, Hid (C = clo R n) := ⟨_, rfl⟩
  rw [← HC.out]
  have HCA : Hid (∀ s, C s = clo R n s) := fun s => by rw [HC.out]
  have HCL : Hid (∀ s, C s < pw n) := fun s => by rw [HC.out]; exact clo_lt
  clear hr hR hq
  go_enter Tryd.func10, Tryd.ntmps10
  go_wp2_with fail
  go_loopw [5, 6] (fun v i wx => ∃ s : Nat, s ≤ pw n ∧ i = .int .i64 s ∧ wx.ownsRow w.heap.size 3 1 v s (rowVals C s) ∧ Hid (Below w.heap.size w wx)) (fun _ i _ => pw n - (intOf i).toNat)
  case atStart => exact ⟨0, Nat.zero_le _, rfl, World.ownsRow_nil _ _ _ _, Below.refl _ _⟩
  case round =>
    obtain ⟨s, hs, rfl, hown, hB⟩ := hrel
    by_cases hlt : s < pw n
    · have hlt' : (s : Int) < ((pw n : Nat) : Int) := by omega
      have HS0 : Hid (Sb s (clo R n s)) := (clo_is h10 HRD.out hlt).2.1
      have HO : Hid (wr.ownsRow w.heap.size 3 1 u5 s (rowVals C s)) := hown
      clear hown
      go_wp2_with fail
      refine (bit_any n _ (by omega)).mono ?_
      rintro e w' ⟨rfl, rfl⟩
      go_wp2_with fail
      go_loopw [7, 8] (fun t b wx => ∃ (x : Nat) (ag : Bool), t = .int .i64 (x : Nat) ∧ b = .bool ag ∧ x < pw n ∧ Hid (Sb s x) ∧ Hid (Sb x (clo R n s)) ∧ Hid (ag = false → x = clo R n s) ∧ Hid (wx.ownsRow w.heap.size 3 1 u5 s (rowVals C s)) ∧ Hid (Below w.heap.size w wx)) (fun t b _ => mzb (intOf t) (boolOf b))
      case atStart => exact ⟨s, true, rfl, rfl, hlt, Sb.refl s, HS0.out, fun h => (by cases h), HO, hB⟩
      case round =>
        clear HO hB
        obtain ⟨x, ag, rfl, rfl, hx, h1, h2, h3, HO, hB⟩ := hrel
        cases ag
        · have HE : Hid (x = C s) := by rw [Hid, HCA.out]; exact h3.out rfl
          have hsz : w.heap.size ≤ wr.heap.size := hB.out.size
          have hown := HO.out
          clear HO h3
          go_wp2_with (at_builtin; refine wpList_append_own _ rfl _ _ 23 rfl w.heap.size 3 i0 (.int .i64 0) 1 8 Tryd.underlying23 hi hz0 hz1 hz2 rfl (by decide) _ _ _ rfl (hown.alloc _) ⟨wr.heap.size, 0, none⟩ 1 1 [.int .i64 (x : Nat)] rfl rfl ?c1 ?c2 ?c3 ?c4 ?c5 ?_)
          case c1 =>
            intro j u hj
            match j, hj with
            | 0, hj => simp at hj; subst hj; simp [Addr.add]
          case c2 => intro u hu; simp at hu; subst hu; rfl
          case c3 => unfold maxLen; omega
          case c4 => omega
          case c5 => simp; omega
          intro v' w3 hown' hgrow _
          have HB3 : Hid (Below w.heap.size w w3) := below_append3 hB.out hown hgrow
          have HO3 : Hid (w3.ownsRow w.heap.size 3 1 v' (s + 1) (rowVals C (s + 1))) := by
            rw [rowVals_succ, ← HE.out]; exact hown'
          clear hown' hgrow hown hB hsz
          go_wp2_with fail
          go_roundw
          case rel => exact ⟨s + 1, by omega, by go_num, HO3.out, HB3⟩
          case measure => simp [intOf]; omega
        · have HR0 : Hid (Rnd R n s x x 0) := Rnd.start hx h1.out h2.out
          clear h3
          go_wp2_with fail
          go_loopw [7, 8, 9] (fun t b i wy => ∃ (z k : Nat) (bg : Bool), k ≤ q ∧ t = .int .i64 (z : Nat) ∧ b = .bool bg ∧ i = .int .i64 (k : Nat) ∧ Hid (Rnd R n s x z k) ∧ Hid (bg = true → x < z) ∧ Hid (bg = false → z = x) ∧ Hid (wy.ownsRow w.heap.size 3 1 u5 s (rowVals C s)) ∧ Hid (Below w.heap.size w wy)) (fun _ _ i _ => q - (intOf i).toNat)
          case atStart => exact ⟨x, 0, false, Nat.zero_le _, rfl, rfl, rfl, HR0, fun h => (by cases h), fun _ => rfl, HO, hB⟩
          case round =>
            clear HR0 hB HO
            obtain ⟨z, k, bg, hk, rfl, rfl, rfl, hN, hb1, hb2, HO, hB⟩ := hrel
            have hz : z < pw n := hN.out.2.1
            by_cases hlt2 : k < q
            · obtain ⟨b, off, rfl, c1, c2⟩ := HR.out _ hB.out k hlt2
              have hlt2' : (k : Int) < (q : Int) := by omega
              obtain ⟨r, HRR⟩ : ∃ r, Hid (r = R.getD k (0, 0)) := ⟨_, rfl⟩
              obtain ⟨g1, g2⟩ := HRI.out k hlt2
              rw [← HRR.out] at g1 g2
              have d1 : wr.cell? ⟨b, off + k * 2, none⟩ = some (.int .i64 (r.1 : Nat)) := by rw [c1, HRR.out]; rfl
              have d2 : wr.cell? ⟨b, off + k * 2 + 1, none⟩ = some (.int .i64 (r.2 : Nat)) := by rw [c2, HRR.out]; rfl
              have hbo := obe_iff (s := z) (r := r) (by omega) (by omega) (by omega)
              clear c1 c2
              rcases (Bool.eq_false_or_eq_true (obe z r)).symm with ho | ho
              · have HA := (show Hid _ from hN.out.add h10 HRD.out hlt (by rw [← HQ.out]; exact hlt2) (by rw [← HRR.out, ← hbo, ho]; decide))
                rw [← HRR.out] at HA
                have HXZ : Hid (x ≤ z) := sb_le hN.out.2.2.2.1
                have HOB := (show Hid (Calls Tryd.prog 24 #[.int .i64 (z : Nat), .agg #[.int .i64 (r.1 : Nat), .int .i64 (r.2 : Nat)]] wr _) from obeysR_any z r.1 r.2 wr (by omega) (by omega) (by omega))
                clear hbo hN hb1 hb2
                go_wp2_with fail
                refine HOB.out.mono ?_
                rintro e w2 ⟨rfl, hbw⟩
                rw [show obe z (r.1, r.2) = false from ho]
                have HB2 : Hid (Below w.heap.size w w2) := Below.then hB.out hbw
                have HO2 : Hid (w2.ownsRow w.heap.size 3 1 u5 s (rowVals C s)) := owns_below HO.out hbw
                have d3 : w2.cell? ⟨b, off + k * 2 + 1, none⟩ = some (.int .i64 (r.2 : Nat)) := (hbw.cell (World.block_lt_of_cell? _ _ d2)).trans d2
                clear hbw d1 d2 hB HO HOB
                go_wp2_with fail
                go_loop [7, 10] (fun t i => ∃ j : Nat, j ≤ n ∧ i = .int .i64 (j : Nat) ∧ t = .int .i64 (zb z r.2 j : Nat)) (fun _ i => n - (intOf i).toNat)
                case atStart => exact ⟨0, Nat.zero_le _, rfl, by rw [zb_zero]⟩
                case round =>
                  obtain ⟨j, hj, rfl, rfl⟩ := hrel
                  have hzl := zb_lt (t := r.2) hz hj
                  by_cases hjn : j < n
                  · have hjn' : (j : Int) < (n : Int) := by omega
                    have hpj := pw_le j (by omega)
                    rcases (Bool.eq_false_or_eq_true (r.2.testBit j)).symm with hb | hb
                    · have HE : Hid (zb z r.2 (j + 1) = zb z r.2 j) := zb_same (.inl hb)
                      go_wp2_with fail
                      refine (in_any r.2 j _ (by omega) (by omega)).mono ?_
                      rintro e w' ⟨rfl, rfl⟩
                      rw [hb]
                      go_wp2_with fail
                      go_round
                      case rel => exact ⟨j + 1, by omega, by go_num, by rw [HE.out]⟩
                      case measure => simp [intOf]; omega
                    · rcases (Bool.eq_false_or_eq_true ((zb z r.2 j).testBit j)).symm with hb3 | hb3
                      · have HE : Hid (zb z r.2 (j + 1) = zb z r.2 j + pw j) := zb_more hb hb3
                        generalize zb z r.2 j = y at *
                        go_wp2_with fail
                        refine (in_any r.2 j _ (by omega) (by omega)).mono ?_
                        rintro e w' ⟨rfl, rfl⟩
                        rw [hb]
                        go_wp2_with fail
                        refine (in_any y j _ (by omega) (by omega)).mono ?_
                        rintro e w' ⟨rfl, rfl⟩
                        rw [hb3]
                        go_wp2_with fail
                        refine (bit_any j _ (by omega)).mono ?_
                        rintro e w' ⟨rfl, rfl⟩
                        go_wp2_with fail
                        go_round
                        case rel => exact ⟨j + 1, by omega, by go_num, by rw [HE.out]; go_num⟩
                        case measure => simp [intOf]; omega
                      · have HE : Hid (zb z r.2 (j + 1) = zb z r.2 j) := zb_same (.inr hb3)
                        generalize zb z r.2 j = y at *
                        go_wp2_with fail
                        refine (in_any r.2 j _ (by omega) (by omega)).mono ?_
                        rintro e w' ⟨rfl, rfl⟩
                        rw [hb]
                        go_wp2_with fail
                        refine (in_any y j _ (by omega) (by omega)).mono ?_
                        rintro e w' ⟨rfl, rfl⟩
                        rw [hb3]
                        go_wp2_with fail
                        go_round
                        case rel => exact ⟨j + 1, by omega, by go_num, by rw [HE.out]⟩
                        case measure => simp [intOf]; omega
                  · obtain rfl : j = n := by omega
                    have hE := zb_end (z := z) (t := r.2) g2
                    have HX1 : Hid (x < z ||| r.2) := Nat.lt_of_le_of_lt HXZ.out HA.out.2
                    rw [hE]
                    clear hE hzl
                    go_wp2_with fail
                    go_roundw
                    case rel => exact ⟨z ||| r.2, k + 1, true, by omega, rfl, rfl, by go_num, HA.out.1, fun _ => HX1.out, fun h => (by cases h), HO2, HB2⟩
                    case measure => simp [intOf]; omega
              · have HA : Hid (Rnd R n s x z (k + 1)) := hN.out.keep (by rw [← HRR.out]; exact hbo.1 ho)
                have HOB := (show Hid (Calls Tryd.prog 24 #[.int .i64 (z : Nat), .agg #[.int .i64 (r.1 : Nat), .int .i64 (r.2 : Nat)]] wr _) from obeysR_any z r.1 r.2 wr (by omega) (by omega) (by omega))
                clear hbo hN
                go_wp2_with fail
                refine HOB.out.mono ?_
                rintro e w2 ⟨rfl, hbw⟩
                rw [show obe z (r.1, r.2) = true from ho]
                have HB2 : Hid (Below w.heap.size w w2) := Below.then hB.out hbw
                have HO2 : Hid (w2.ownsRow w.heap.size 3 1 u5 s (rowVals C s)) := owns_below HO.out hbw
                clear hbw d1 d2 hB HO HOB
                go_wp2_with fail
                go_roundw
                case rel => exact ⟨z, k + 1, bg, by omega, rfl, rfl, by go_num, HA, hb1, hb2, HO2, HB2⟩
                case measure => simp [intOf]; omega
            · obtain rfl : k = q := by omega
              obtain ⟨_, m2, m3, m4, m5, _⟩ := hN.out
              have HSS : Hid (Sb s z) := m3.trans m4
              have HZC : Hid (Sb z (clo R n s)) := m5
              have HD : Hid (bg = false → z = clo R n s) := fun e => by
                have hzx := hb2.out e
                subst hzx
                exact Rnd.done h10 HRD.out hlt (by rw [← HQ.out]; exact hN.out)
              have HMS : Hid (mzb (z : Int) bg < mzb (x : Int) true) := mzb_step hb1.out hb2.out (by omega)
              clear m3 m4 m5 hN hb1 hb2
              go_wp2_with fail
              go_roundw
              case rel => exact ⟨z, bg, rfl, rfl, m2, HSS, HZC, HD, HO, hB⟩
              case measure =>
                simp only [intOf, boolOf]
                exact HMS.out
    · obtain rfl : s = pw n := by omega
      obtain ⟨pa, pc', e', hrow⟩ := owns_row hown
      subst e'
      have HF : Hid (Row wr pa (pw n) (fun k => (C k : Nat))) := hrow
      have hle : ((pw n : Nat) : Int) ≤ ((pw n : Nat) : Int) := Int.le_refl _
      clear hown hrow
      go_wp2_with fail
      refine (bit_any n _ (by omega)).mono ?_
      rintro e w' ⟨rfl, rfl⟩
      go_wp2_with fail
      go_ret
      exact ⟨⟨pa, pc', rfl, HF.out⟩, hB.out⟩
end Go.Proofs.YtgjdpgjaaaeglaaDoor
