/-
  For every number of workers, list of events and two numbers hasselaw.ClockMeets returns true, and writes nothing that was there. Conditions: a slice that reads as a slice of events, and has room for them; the numbers are those of the machine.
-/
import Derived.Test.YtomoodpgmkjacabClG
import Derived.Deep.RegionHeld3
import Derived.Deep.Cut
namespace Go.Proofs.Ytomoodpgmkjacab
set_option maxRecDepth 100000
open Go.RowKit

set_option maxHeartbeats 4000000 in
theorem clockMeets_any (Wk : Int) (a : Option Addr) (len cap : Nat) (E : Nat → Int × Int × Int) (p q : Int) (w : World) (hl : len ≤ maxLen) (hc : len ≤ cap) (hp1 : -9223372036854775808 ≤ p) (hp2 : p ≤ 9223372036854775807) (hq1 : -9223372036854775808 ≤ q) (hq2 : q ≤ 9223372036854775807) (hr : ERow w a len E) :
    Calls Try.prog 4 #[.int .i64 Wk, .slice a len cap, .int .i64 p, .int .i64 q] w fun e w' => e = .returned (.bool true) ∧ Below w.heap.size w w' := by
  have HR : Hid (ERow w a len E) := hr
  have HL : Hid (len ≤ maxLen) := hl
  clear hr hl
  go_enter Try.func4, Try.ntmps4
  go_wp2_with fail
  refine (clockBegun_any _).mono ?_
  rintro e w0 ⟨rfl, hb0⟩
  have HB0 : Hid (Below w.heap.size w w0) := hb0
  clear hb0
  go_wp2_with fail
  refine (ahead_any Wk a len cap E _ HL.out hc (HR.out.below HB0.out)).mono ?_
  rintro e w1 ⟨⟨c, x, hck, rfl, hx⟩, hb1⟩
  have HB1 : Hid (Below w.heap.size w w1) := Below.then HB0.out hb1
  have HC : Hid (CkE Wk len E c) := hck
  clear hb1 hck HB0
  rcases hx with ⟨h0, rfl⟩ | ⟨rfl, b, hbs, rfl, hO⟩
  · have HB2 : Hid (∀ o, Below w.heap.size w (w1.alloc o)) := fun o => HB1.out.alloc HB1.out.size o
    have h0' : (c != 0) = true := by simpa using h0
    unfold noOrder
    go_wp2_with fail
    go_ret
    exact ⟨rfl, HB2.out _⟩
  · obtain ⟨⟨_, _, h10⟩, hev⟩ := HC.out.good
    have HEV : Hid (∀ j, j < len → EvIs Wk E j 0) := hev
    clear hev
    have bA := (Below.refl w1.heap.size w1).alloc (Nat.le_refl _) (.cells #[.int .i64 (len : Int), .slice (some ⟨b, 0, none⟩) len len] 26)
    have HRow : Hid (Row (w1.alloc (.cells #[.int .i64 (len : Int), .slice (some ⟨b, 0, none⟩) len len] 26)) (some ⟨b, 0, none⟩) len (fun k => (ahd E len k : Nat))) := hO.row.below bA
    have HB2 : Hid (Below w.heap.size w (w1.alloc (.cells #[.int .i64 (len : Int), .slice (some ⟨b, 0, none⟩) len len] 26))) := Below.then HB1.out bA
    have HCH : Hid (Chk (len : Int) len (fun k => (ahd E len k : Nat)) 0) := ahd_chk h10
    clear hO bA HB1
    go_wp2_with fail
    refine (ideals_any (len : Int) _ len len _ _ HL.out HRow.out).mono ?_
    rintro e w2 ⟨⟨c2, v, hc2, rfl, hv⟩, hb2⟩
    obtain rfl : c2 = 0 := hc2.unique HCH.out
    have HB3 : Hid (Below w.heap.size w w2) := Below.then HB2.out hb2
    rcases hv with ⟨h, _⟩ | ⟨_, hv, _⟩
    · exact absurd rfl h
    rw [nat_cast] at hv
    obtain ⟨a2, cap2, rfl, hle2, hrow2⟩ := hv
    have HR2 : Hid (Row w2 a2 (idls (ahd E len) len).length (fun k => (nth (idls (ahd E len) len) k : Nat))) := by first | exact hrow2 | exact hle2
    clear hb2 HB2 HRow hc2 HCH hle2 hrow2
    go_wp2_with fail
    refine (cuts_any Wk a len cap E _ HL.out hc (HR.out.below HB3.out)).mono ?_
    rintro e w3 ⟨⟨c3, y3, hck3, rfl, hy3⟩, hb3⟩
    obtain rfl : c3 = 0 := hck3.unique HC.out
    obtain rfl : y3 = ((idls (ahd E len) len).length : Nat) := by
      rcases hy3 with ⟨h, _⟩ | ⟨_, h⟩
      · exact absurd rfl h
      · exact h
    have HB4 : Hid (Below w.heap.size w w3) := Below.then HB3.out hb3
    have HR3 : Hid (Row w3 a2 (idls (ahd E len) len).length (fun k => (nth (idls (ahd E len) len) k : Nat))) := HR2.out.below hb3
    have hpos := idl_pos (g := ahd E len) (n := len)
    have hlen := idls_len (ahd E len) len h10
    have HAT : Hid (∀ k, k < (idls (ahd E len) len).length → nth (idls (ahd E len) len) k < pw len ∧ idlTo (ahd E len) (nth (idls (ahd E len) len) k) len = true) := fun k hk => idl_at hk
    have HPL : Hid (∀ (z : Nat) (r : Int), PlaceAt (fun k => ((nth (idls (ahd E len) len) k : Nat) : Int)) (idls (ahd E len) len).length z r → z ∈ idls (ahd E len) len → 0 ≤ r) := fun z r h hm => place_ge h hm
    have HOR : Hid (∀ x y, x < pw len → y < pw len → idlTo (ahd E len) x len = true → idlTo (ahd E len) y len = true → (x ||| y) ∈ idls (ahd E len) len ∧ (x &&& y) ∈ idls (ahd E len) len) := fun x y h1 h2 h3 h4 => ⟨idl_or h10 (ahd_sm E len) h1 h2 h3 h4, idl_and h10 (ahd_sm E len) h1 h2 h3 h4⟩
    clear hb3 hck3 hy3 HR2 HB3
    obtain ⟨L, HLL⟩ : ∃ L, Hid (idls (ahd E len) len = L) := ⟨_, rfl⟩
    rw [HLL.out] at HR3 hpos hlen HAT HPL HOR
    rw [HLL.out]
    clear HLL
    obtain ⟨m, HM⟩ : ∃ m, Hid (L.length = m) := ⟨_, rfl⟩
    rw [HM.out] at HR3 hpos hlen HAT HPL
    rw [HM.out]
    have hm0 : ((m : Int) == 0) = false := by simp; omega
    have hk1 := chv_lt p hpos
    have hk2 := chv_lt q hpos
    obtain ⟨x, HX⟩ : ∃ x, Hid (nth L (chv p m) = x) := ⟨_, rfl⟩
    obtain ⟨y, HY⟩ : ∃ y, Hid (nth L (chv q m) = y) := ⟨_, rfl⟩
    obtain ⟨hx1, hx2⟩ := HAT.out (chv p m) hk1
    obtain ⟨hy1, hy2⟩ := HAT.out (chv q m) hk2
    rw [HX.out] at hx1 hx2
    rw [HY.out] at hy1 hy2
    obtain ⟨bs, os, rfl, hcs⟩ := HR3.out.at hk1
    have hcx := hcs (chv p m) hk1
    have hcy := hcs (chv q m) hk2
    rw [HX.out] at hcx
    rw [HY.out] at hcy
    have hpw := pw_le len h10
    have hx10 : x < 1024 := by omega
    have hy10 : y < 1024 := by omega
    have HORX := HOR.out x y hx1 hy1 hx2 hy2
    have HORY : Hid ((x ||| y) ∈ L ∧ (x &&& y) ∈ L) := HORX
    have HREC : Hid (∀ i k, i < len → k < len → x.testBit i = true → (E i).1 = 3 → (E k).1 = 2 → (E k).2.2 = (E i).2.2 → x.testBit k = true) := fun i k hi hk h1 h3 h2 hm => recv_in h10 HEV.out hx1 hx2 hi hk h1 h3 h2 hm
    have hk1' : ((chv p m : Nat) : Int) < (m : Int) := by omega
    have hk2' : ((chv q m : Nat) : Int) < (m : Int) := by omega
    clear hcs HAT HOR HORX hx1 hx2 hy1 hy2 hpw
    go_wp2_with fail
    go_big_quiet ((go_at_call 11; exact Calls.quiet_of_same (choose_is _ m _ hpos (by omega) (by assumption) (by assumption))))
    have HB5 : Hid (Below w.heap.size w (w3.drewN nq)) := below_drewN HB4.out _
    have HR5 : Hid (Row (w3.drewN nq) (some ⟨bs, os, none⟩) m (fun k => (nth L k : Nat))) := HR3.out
    clear hcx hcy HR3 HB4
    generalize w3.drewN nq = w4 at *
    go_wp2_with fail
    go_loopw [16] (fun t wx => ∃ i : Nat, i ≤ len ∧ t = .int .i64 i ∧ Hid (Below w4.heap.size w4 wx)) (fun t _ => len - (intOf t).toNat)
    case atStart => exact ⟨0, Nat.zero_le _, rfl, Below.refl _ _⟩
    case round =>
      obtain ⟨i, hi, rfl, hB⟩ := hrel
      by_cases hlt : i < len
      · have hlt' : (i : Int) < (len : Int) := by omega
        go_wp2_with fail
        go_loopw [17] (fun t wx => ∃ k : Nat, k ≤ len ∧ t = .int .i64 k ∧ Hid (Below w4.heap.size w4 wx)) (fun t _ => len - (intOf t).toNat)
        case atStart => exact ⟨0, Nat.zero_le _, rfl, hB.out⟩
        case round =>
          obtain ⟨k, hk, rfl, hBy⟩ := hrel
          clear hB
          by_cases hkl : k < len
          · have hkl' : (k : Int) < (len : Int) := by omega
            obtain ⟨b1, o1, rfl, c1, c2, c3⟩ := (HR.out.below (Below.then HB5.out hBy.out)) i hlt
            obtain ⟨b2, o2, hbo, d1, d2, d3⟩ := (HR.out.below (Below.then HB5.out hBy.out)) k hkl
            simp at hbo
            obtain ⟨rfl, rfl⟩ := hbo
            rcases (Bool.eq_false_or_eq_true (x.testBit i)).symm with a1 | a1
            · go_wp2_with fail
              go_big_quiet ((go_at_call 12; exact Calls.quiet_of_same (in_q _ _ _ _ a1 (by omega) (by omega))))
              go_wp2_with fail
              go_roundw
              case rel => exact ⟨k + 1, by omega, by go_num, below_drewN hBy.out _⟩
              case measure => simp [intOf]; omega
            · rcases (Bool.eq_false_or_eq_true (x.testBit k)).symm with a2 | a2
              · rcases (Bool.eq_false_or_eq_true ((E i).1 == 3)).symm with a3 | a3
                · go_wp2_with fail
                  go_big_quiet ((go_at_call 12; first | exact Calls.quiet_of_same (in_q _ _ _ _ a1 (by omega) (by omega)) | exact Calls.quiet_of_same (in_q _ _ _ _ a2 (by omega) (by omega))))
                  go_wp2_with fail
                  go_roundw
                  case rel => exact ⟨k + 1, by omega, by go_num, below_drewN hBy.out _⟩
                  case measure => simp [intOf]; omega
                · rcases (Bool.eq_false_or_eq_true ((E k).1 == 2)).symm with a4 | a4
                  · go_wp2_with fail
                    go_big_quiet ((go_at_call 12; first | exact Calls.quiet_of_same (in_q _ _ _ _ a1 (by omega) (by omega)) | exact Calls.quiet_of_same (in_q _ _ _ _ a2 (by omega) (by omega))))
                    go_wp2_with fail
                    go_roundw
                    case rel => exact ⟨k + 1, by omega, by go_num, below_drewN hBy.out _⟩
                    case measure => simp [intOf]; omega
                  · rcases (Bool.eq_false_or_eq_true ((E k).2.2 == (E i).2.2)).symm with a5 | a5
                    · go_wp2_with fail
                      go_big_quiet ((go_at_call 12; first | exact Calls.quiet_of_same (in_q _ _ _ _ a1 (by omega) (by omega)) | exact Calls.quiet_of_same (in_q _ _ _ _ a2 (by omega) (by omega))))
                      go_wp2_with fail
                      go_roundw
                      case rel => exact ⟨k + 1, by omega, by go_num, below_drewN hBy.out _⟩
                      case measure => simp [intOf]; omega
                    · have := HREC.out i k hlt hkl a1 (by simpa using a3) (by simpa using a4) (by simpa using a5)
                      rw [a2] at this
                      cases this
              · go_wp2_with fail
                go_big_quiet ((go_at_call 12; first | exact Calls.quiet_of_same (in_q _ _ _ _ a1 (by omega) (by omega)) | exact Calls.quiet_of_same (in_q _ _ _ _ a2 (by omega) (by omega))))
                go_wp2_with fail
                go_roundw
                case rel => exact ⟨k + 1, by omega, by go_num, below_drewN hBy.out _⟩
                case measure => simp [intOf]; omega
          · obtain rfl : k = len := by omega
            go_wp2_with fail
            go_roundw
            case rel => exact ⟨i + 1, by omega, by go_num, hBy.out⟩
            case measure => simp [intOf]; omega
      · obtain rfl : i = len := by omega
        have HBE : Hid (Below w.heap.size w wr) := Below.then HB5.out hB.out
        have HRE : Hid (Row wr (some ⟨bs, os, none⟩) m (fun k => (nth L k : Nat))) := HR5.out.below hB.out
        have HMX : Hid (m ≤ maxLen) := by show m ≤ maxLen; unfold maxLen; omega
        clear hB
        go_wp2_with fail
        refine (together_any x y _ hx10 hy10).mono ?_
        rintro e w6 ⟨rfl, hw⟩
        subst hw
        go_wp2_with fail
        refine (placeR_any _ m _ _ (x ||| y) _ HMX.out HRE.out).mono ?_
        rintro e w6 ⟨⟨r1, rfl, hr1⟩, hw⟩
        subst hw
        have hr1' : 0 ≤ r1 := HPL.out _ _ hr1 HORY.out.1
        clear hr1
        go_wp2_with fail
        refine (common_any x y _ hx10 hy10).mono ?_
        rintro e w6 ⟨rfl, hw⟩
        subst hw
        go_wp2_with fail
        refine (placeR_any _ m _ _ (x &&& y) _ HMX.out HRE.out).mono ?_
        rintro e w6 ⟨⟨r2, rfl, hr2⟩, hw⟩
        subst hw
        have hr2' : 0 ≤ r2 := HPL.out _ _ hr2 HORY.out.2
        clear hr2
        go_wp2_with fail
        go_ret
        exact ⟨rfl, HBE.out⟩
end Go.Proofs.Ytomoodpgmkjacab
