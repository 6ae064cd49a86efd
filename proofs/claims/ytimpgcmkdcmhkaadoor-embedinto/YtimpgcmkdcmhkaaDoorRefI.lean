/-
  What the reference's IsLighter answers. Conditions: a good order and heaps of its letters.
-/
import Derived.Test.YtimpgcmkdcmhkaaDoorRefL
namespace Go.Proofs.YtimpgcmkdcmhkaaDoor
set_option maxRecDepth 100000
open Go.RowKit

set_option maxHeartbeats 4000000 in
theorem isLighter_any (ao : Option Addr) (n co : Nat) (g : Nat → Nat) (a : Option Addr) (la ca : Nat) (fa : Nat → Nat) (b : Option Addr) (lb cb : Nat) (fb : Nat → Nat) (w : World) (h10 : n ≤ 10) (hg : ∀ k, k < n → g k < 1024)
    (ho : Row w ao n (fun k => (g k : Nat))) (ha : Row w a la (fun k => (fa k : Nat))) (hb : Row w b lb (fun k => (fb k : Nat))) (hla : la ≤ 12) (hlb : lb ≤ 12) :
    Calls Tryd.prog 20 #[.agg #[.int .i64 (n : Int), .slice ao n co], .slice a la ca, .slice b lb cb] w fun e w' => e = .returned (.bool (lightB g n (tms la fa) (tms lb fb))) ∧ Below w.heap.size w w' := by
  have HB0 : Hid (Below w.heap.size w (w.alloc (.cells #[.int .i64 (n : Int), .slice ao n co] 24))) := bel_one w _
  have K0 : Hid (Held (w.alloc (.cells #[.int .i64 (n : Int), .slice ao n co] 24)) w.heap.size n ao n co (fun k => (g k : Nat))) := Held.box ho
  have HG : Hid (∀ k, k < n → g k < 1024) := hg
  have HA0 : Hid (Row w a la (fun k => (fa k : Nat))) := ha
  have HBW0 : Hid (Row w b lb (fun k => (fb k : Nat))) := hb
  have HNO : Hid (¬ Light g n (tms la fa) (tms lb fb) → lightB g n (tms la fa) (tms lb fb) = false) := fun h => by
    cases e : lightB g n (tms la fa) (tms lb fb)
    · rfl
    · exact absurd ((light_iff h10 hg).1 e) h
  have HYES : Hid (Light g n (tms la fa) (tms lb fb) → lightB g n (tms la fa) (tms lb fb) = true) := fun h => (light_iff h10 hg).2 h
  have HZ : Hid (BP false (Two (tms la fa) (tms lb fb) 0)) := BP.not (fun ⟨x, h, _⟩ => absurd h (Nat.not_lt_zero _))
  have HAB : Hid (∀ x, tms la fa x ≤ 12 ∧ tms lb fb x ≤ 12) := fun x => by have := tms_le la fa x; have := tms_le lb fb x; omega
  clear ho hg ha hb
  go_enter Tryd.func20, Tryd.ntmps20
  go_wp2_with fail
  go_loopw [8, 7] (fun t u wx => ∃ (k : Nat) (v : Bool), k ≤ n ∧ t = .int .i64 k ∧ u = .bool v ∧ Hid (BP v (Two (tms la fa) (tms lb fb) k)) ∧ Hid (∀ x, x < k → tms lb fb x < tms la fa x → Und g (tms la fa) (tms lb fb) x n) ∧ Hid (Held wx w.heap.size n ao n co (fun k => (g k : Nat))) ∧ Hid (Below w.heap.size w wx)) (fun t _ _ => n - (intOf t).toNat)
  case atStart => exact ⟨0, false, Nat.zero_le _, rfl, rfl, HZ.out, upto_zero, K0.out, HB0.out⟩
  case round =>
    clear HZ K0 HB0
    obtain ⟨k, v, hk, rfl, rfl, HV, HU, hH, hB⟩ := hrel
    have c0 := hH.out.c0
    have c1 := hH.out.c1
    have HA : Hid (Row wr a la (fun k => (fa k : Nat))) := HA0.out.below hB.out
    have HBW : Hid (Row wr b lb (fun k => (fb k : Nat))) := HBW0.out.below hB.out
    obtain ⟨hA12, hB12⟩ := HAB.out k
    by_cases hlt : k < n
    · rcases Nat.lt_trichotomy (tms la fa k) (tms lb fb k) with h | h | h
      · have HN : Hid (BP true (Two (tms la fa) (tms lb fb) (k + 1))) := BP.of ⟨k, by omega, by omega⟩
        have HU2 : Hid (∀ x, x < k + 1 → tms lb fb x < tms la fa x → Und g (tms la fa) (tms lb fb) x n) := upto_succ HU.out (fun h2 => by omega)
        have d1 : (((tms la fa k : Nat) : Int) != ((tms lb fb k : Nat) : Int)) = true := by simp; omega
        have d2 : decide (((tms la fa k : Nat) : Int) ≤ ((tms lb fb k : Nat) : Int)) = true := by simp; omega
        clear HV HU
        go_wp2_with fail
        refine (times_any a la ca fa k wr hla HA.out).mono ?_
        rintro e w' ⟨rfl, hw⟩
        subst hw
        go_wp2_with fail
        refine (times_any b lb cb fb k wr hlb HBW.out).mono ?_
        rintro e w' ⟨rfl, hw⟩
        subst hw
        go_wp2_with fail
        refine (times_any a la ca fa k wr hla HA.out).mono ?_
        rintro e w' ⟨rfl, hw⟩
        subst hw
        go_wp2_with fail
        refine (times_any b lb cb fb k wr hlb HBW.out).mono ?_
        rintro e w' ⟨rfl, hw⟩
        subst hw
        go_wp2_with fail
        go_roundw
        case rel => exact ⟨k + 1, true, by omega, by go_num, by first | rfl | trivial, HN.out, HU2.out, hH.out, hB.out⟩
        case measure => simp [intOf]; omega
      · have HN : Hid (BP v (Two (tms la fa) (tms lb fb) (k + 1))) := Two.skip HV.out h
        have HU2 : Hid (∀ x, x < k + 1 → tms lb fb x < tms la fa x → Und g (tms la fa) (tms lb fb) x n) := upto_succ HU.out (fun h2 => by omega)
        have d1 : (((tms la fa k : Nat) : Int) != ((tms lb fb k : Nat) : Int)) = false := by simp; omega
        have d2 : decide (((tms la fa k : Nat) : Int) ≤ ((tms lb fb k : Nat) : Int)) = true := by simp; omega
        clear HV HU
        go_wp2_with fail
        refine (times_any a la ca fa k wr hla HA.out).mono ?_
        rintro e w' ⟨rfl, hw⟩
        subst hw
        go_wp2_with fail
        refine (times_any b lb cb fb k wr hlb HBW.out).mono ?_
        rintro e w' ⟨rfl, hw⟩
        subst hw
        go_wp2_with fail
        refine (times_any a la ca fa k wr hla HA.out).mono ?_
        rintro e w' ⟨rfl, hw⟩
        subst hw
        go_wp2_with fail
        refine (times_any b lb cb fb k wr hlb HBW.out).mono ?_
        rintro e w' ⟨rfl, hw⟩
        subst hw
        go_wp2_with fail
        go_roundw
        case rel => exact ⟨k + 1, v, by omega, by go_num, by first | rfl | trivial, HN.out, HU2.out, hH.out, hB.out⟩
        case measure => simp [intOf]; omega
      · have HN : Hid (BP true (Two (tms la fa) (tms lb fb) (k + 1))) := BP.of ⟨k, by omega, by omega⟩
        have d1 : (((tms la fa k : Nat) : Int) != ((tms lb fb k : Nat) : Int)) = true := by simp; omega
        have d2 : decide (((tms la fa k : Nat) : Int) ≤ ((tms lb fb k : Nat) : Int)) = false := by simp; omega
        have HH : Hid (tms lb fb k < tms la fa k) := h
        have HUZ : Hid (BP false (Und g (tms la fa) (tms lb fb) k 0)) := BP.not (fun ⟨x, h, _⟩ => absurd h (Nat.not_lt_zero _))
        clear HV
        go_wp2_with fail
        refine (times_any a la ca fa k wr hla HA.out).mono ?_
        rintro e w' ⟨rfl, hw⟩
        subst hw
        go_wp2_with fail
        refine (times_any b lb cb fb k wr hlb HBW.out).mono ?_
        rintro e w' ⟨rfl, hw⟩
        subst hw
        go_wp2_with fail
        refine (times_any a la ca fa k wr hla HA.out).mono ?_
        rintro e w' ⟨rfl, hw⟩
        subst hw
        go_wp2_with fail
        refine (times_any b lb cb fb k wr hlb HBW.out).mono ?_
        rintro e w' ⟨rfl, hw⟩
        subst hw
        go_wp2_with fail
        rw [show decide (tms la fa k ≤ tms lb fb k) = false by simp; omega]
        clear c0 c1 HA HBW
        go_loopw [10, 9] (fun t u wx => ∃ (q : Nat) (v : Bool), q ≤ n ∧ t = .int .i64 q ∧ u = .bool v ∧ Hid (BP v (Und g (tms la fa) (tms lb fb) k q)) ∧ Hid (Held wx w.heap.size n ao n co (fun k => (g k : Nat))) ∧ Hid (Below w.heap.size w wx)) (fun t _ _ => n - (intOf t).toNat)
        case atStart => exact ⟨0, false, Nat.zero_le _, rfl, rfl, HUZ.out, hH.out, hB.out⟩
        case round =>
          clear HUZ hH hB
          obtain ⟨q, v9, hq, rfl, rfl, HV, hH, hB⟩ := hrel
          have c0 := hH.out.c0
          have c1 := hH.out.c1
          by_cases hqlt : q < n
          · cases v9
            · rcases (Bool.eq_false_or_eq_true ((g q).testBit k)).symm with hb | hb
              · have HN2 : Hid (BP false (Und g (tms la fa) (tms lb fb) k (q + 1))) := Und.skip HV.out (fun h => by rw [hb] at h; cases h.1)
                clear HV
                go_wp2_with fail
                refine (less_any n ao n co g k q wr h10 HG.out hH.out.row (by omega) hqlt).mono ?_
                rintro e w1 ⟨rfl, hb1⟩
                rw [hb]
                have HH1 : Hid (Held w1 w.heap.size n ao n co (fun k => (g k : Nat))) := hH.out.step hb1
                have HB1 : Hid (Below w.heap.size w w1) := Below.then hB.out hb1
                clear hb1 hH hB c0 c1 hb
                go_wp2_with fail
                go_roundw
                case rel => exact ⟨q + 1, false, by omega, by go_num, by first | rfl | trivial, HN2.out, HH1.out, HB1.out⟩
                case measure => simp [intOf]; omega
              · obtain ⟨v2, hv2, HN2⟩ : ∃ v2, decide (((tms la fa q : Nat) : Int) < ((tms lb fb q : Nat) : Int)) = v2 ∧ Hid (BP v2 (Und g (tms la fa) (tms lb fb) k (q + 1))) := by
                  by_cases h : tms la fa q < tms lb fb q
                  · exact ⟨true, by simp; omega, BP.of ⟨q, by omega, hb, h⟩⟩
                  · exact ⟨false, by simp; omega, Und.skip HV.out (fun h2 => h h2.2)⟩
                clear HV
                go_wp2_with fail
                refine (less_any n ao n co g k q wr h10 HG.out hH.out.row (by omega) hqlt).mono ?_
                rintro e w1 ⟨rfl, hb1⟩
                rw [hb]
                have HH1 : Hid (Held w1 w.heap.size n ao n co (fun k => (g k : Nat))) := hH.out.step hb1
                have HB1 : Hid (Below w.heap.size w w1) := Below.then hB.out hb1
                have HA : Hid (Row w1 a la (fun k => (fa k : Nat))) := HA0.out.below HB1.out
                have HBW : Hid (Row w1 b lb (fun k => (fb k : Nat))) := HBW0.out.below HB1.out
                clear hb1 hH hB c0 c1 hb
                go_wp2_with fail
                refine (times_any b lb cb fb q w1 hlb HBW.out).mono ?_
                rintro e w' ⟨rfl, hw⟩
                subst hw
                go_wp2_with fail
                refine (times_any a la ca fa q w1 hla HA.out).mono ?_
                rintro e w' ⟨rfl, hw⟩
                subst hw
                go_wp2_with fail
                go_roundw
                case rel => exact ⟨q + 1, v2, by omega, by go_num, by first | rfl | (rw [← hv2]; simp), HN2.out, HH1.out, HB1.out⟩
                case measure => simp [intOf]; omega
            · have HN2 : Hid (BP true (Und g (tms la fa) (tms lb fb) k (q + 1))) := by
                obtain ⟨y, h1, h2⟩ := HV.out.yes
                exact BP.of ⟨y, by omega, h2⟩
              clear HV
              go_wp2_with fail
              go_roundw
              case rel => exact ⟨q + 1, true, by omega, by go_num, by first | rfl | trivial, HN2.out, hH.out, hB.out⟩
              case measure => simp [intOf]; omega
          · obtain rfl : q = n := by omega
            cases v9
            · have HF : Hid (lightB g q (tms la fa) (tms lb fb) = false) := HNO.out (fun h => HV.out.no (h.2 k hlt HH.out))
              clear HV
              go_wp2_with fail
              go_ret
              exact ⟨by rw [HF.out]; rfl, hB.out⟩
            · have HU2 : Hid (∀ x, x < k + 1 → tms lb fb x < tms la fa x → Und g (tms la fa) (tms lb fb) x q) := upto_succ HU.out (fun _ => HV.out.yes)
              clear HV HU
              go_wp2_with fail
              go_roundw
              case rel => exact ⟨k + 1, true, by omega, by go_num, by first | rfl | trivial, HN.out, HU2.out, hH.out, hB.out⟩
              case measure => simp [intOf]; omega
    · obtain rfl : k = n := by omega
      have HF : Hid (lightB g k (tms la fa) (tms lb fb) = v) := by
        cases v
        · exact HNO.out (fun h => HV.out.no h.1)
        · exact HYES.out ⟨HV.out.yes, HU.out⟩
      clear HV HU HA HBW
      go_wp2_with fail
      go_ret
      exact ⟨by rw [HF.out]; rfl, hB.out⟩
end Go.Proofs.YtimpgcmkdcmhkaaDoor
