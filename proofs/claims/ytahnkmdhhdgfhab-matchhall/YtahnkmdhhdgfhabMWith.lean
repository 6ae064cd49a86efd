/-
  Who goes with some of a set: what match.partners and the reference's With answer. Conditions: a graph of at most ten points on either side that lies in a slice of numbers.
-/
import Derived.Test.YtahnkmdhhdgfhabMSize
import Derived.Deep.RegionHeld3
namespace Go.Proofs.Ytahnkmdhhdgfhab
open Go.RowKit

/-- All with whom those of the first k in s may go. -/
def orTo (t : Nat → Nat) (s : Nat) : Nat → Nat
  | 0 => 0
  | k + 1 => if s.testBit k = true then orTo t s k ||| t k else orTo t s k
theorem orTo_yes {t : Nat → Nat} {s k : Nat} (h : s.testBit k = true) : orTo t s (k + 1) = orTo t s k ||| t k := by simp [orTo, h]
theorem orTo_no {t : Nat → Nat} {s k : Nat} (h : s.testBit k = false) : orTo t s (k + 1) = orTo t s k := by simp [orTo, h]
theorem orTo_lt {t : Nat → Nat} {s l r : Nat} (ht : Sm r l t) : ∀ k, k ≤ l → orTo t s k < pw r
  | 0, _ => pw_pos r
  | k + 1, hk => by
    have ih := orTo_lt (s := s) ht k (by omega)
    cases h : s.testBit k
    · rw [orTo_no h]; exact ih
    · rw [orTo_yes h]; exact Nat.or_lt_two_pow ih (ht k (by omega))
def anyTo (t : Nat → Nat) (s x : Nat) : Nat → Bool
  | 0 => false
  | k + 1 => anyTo t s x k || (s.testBit k && (t k).testBit x)
theorem orTo_bit (t : Nat → Nat) (s x : Nat) : ∀ k, (orTo t s k).testBit x = anyTo t s x k
  | 0 => by simp [orTo, anyTo]
  | k + 1 => by
    have ih := orTo_bit t s x k
    cases h : s.testBit k
    · rw [orTo_no h, anyTo, h, ih]; simp
    · rw [orTo_yes h, anyTo, h, Nat.testBit_or, ih]; simp
theorem with_eq {t : Nat → Nat} {s l r : Nat} (ht : Sm r l t) : setBy (fun x => anyTo t s x l) r = orTo t s l := by
  refine eq_of_bits (n := r) (setBy_lt _ r) (orTo_lt ht l (Nat.le_refl _)) fun i hi => ?_
  rw [setBy_bit, orTo_bit]; simp [hi]
theorem has_as (s p : Nat) (w : World) (b : Bool) (h : s.testBit p = b) (hs : s < 9223372036854775808) (hp : p < 63) :
    Calls Try.prog 24 #[.int .i64 s, .int .i64 p] w fun e w' => e = .returned (.bool b) ∧ w' = w :=
  (has_any s p w hs hp).mono fun _ _ ⟨h1, h2⟩ => ⟨by rw [← h]; exact h1, h2.symm⟩
theorem in_as (s p : Nat) (w : World) (b : Bool) (h : s.testBit p = b) (hs : s < 9223372036854775808) (hp : p < 63) :
    Calls Try.prog 17 #[.int .i64 s, .int .i64 p] w fun e w' => e = .returned (.bool b) ∧ w' = w :=
  (in_any s p w hs hp).mono fun _ _ ⟨h1, h2⟩ => ⟨by rw [← h]; exact h1, h2.symm⟩

set_option maxHeartbeats 1000000 in
theorem partners_any (l r : Nat) (a : Option Addr) (cap : Nat) (t : Nat → Nat) (s : Nat) (w : World) (hl : l ≤ 10) (hr10 : r ≤ 10) (ht : Sm r l t) (hs : s < 1024) (hr : Row w a l (fun k => (t k : Nat))) :
    Calls Try.prog 15 #[.agg #[.int .i64 (l : Int), .int .i64 (r : Int), .slice a l cap], .int .i64 s] w fun e w' => e = .returned (.int .i64 (orTo t s l : Nat)) ∧ Below w.heap.size w w' := by
  have K0 : GHeld (w.alloc (.cells #[.int .i64 (l : Int), .int .i64 (r : Int), .slice a l cap] 24)) w.heap.size l r a l cap (fun k => (t k : Nat)) := GHeld.box hr
  have HB0 : Hid (Below w.heap.size w (w.alloc (.cells #[.int .i64 (l : Int), .int .i64 (r : Int), .slice a l cap] 24))) := (Below.refl _ _).alloc (Nat.le_refl _) _
  have HT : Hid (Sm r l t) := ht
  have hpr := pw_le r hr10
  have HOL : Hid (∀ k, k ≤ l → orTo t s k < pw r) := fun k hk => orTo_lt ht k hk
  clear hr ht
  go_enter Try.func15, Try.ntmps15
  go_wp2_with fail
  have c2 := K0.c2
  have HRW : Hid (Row (w.alloc (.cells #[.int .i64 (l : Int), .int .i64 (r : Int), .slice a l cap] 24)) a l (fun k => (t k : Nat))) := K0.row
  clear K0
  go_loop [5, 9] (fun x i => ∃ k : Nat, k ≤ l ∧ i = .int .i64 k ∧ x = .int .i64 (orTo t s k : Nat)) (fun _ i => l - (intOf i).toNat)
  case atStart => exact ⟨0, Nat.zero_le _, rfl, rfl⟩
  case round =>
    obtain ⟨k, hk, rfl, rfl⟩ := hrel
    have hol := HOL.out k hk
    by_cases hlt : k < l
    · obtain ⟨b, off, rfl, hcc⟩ := HRW.out.at hlt
      have hck := hcc k hlt
      have htk := HT.out k hlt
      have hlk : (k : Int) < (l : Int) := by omega
      clear hcc
      rcases (Bool.eq_false_or_eq_true (s.testBit k)).symm with hb | hb
      · have HY : Hid (orTo t s (k + 1) = orTo t s k) := orTo_no hb
        generalize orTo t s k = S at *
        go_wp2_with (go_at_call 24; refine (has_as _ _ _ _ hb (by omega) (by omega)).mono ?_; rintro e w' ⟨rfl, rfl⟩)
        go_round
        case rel => exact ⟨k + 1, by omega, by go_num, by rw [HY.out]⟩
        case measure => simp [intOf]; omega
      · have HY : Hid (orTo t s (k + 1) = orTo t s k ||| t k) := orTo_yes hb
        have hor := i64_or (orTo t s k) (t k) (by omega) (by omega)
        generalize orTo t s k = S at *
        go_wp2_with (go_at_call 24; refine (has_as _ _ _ _ hb (by omega) (by omega)).mono ?_; rintro e w' ⟨rfl, rfl⟩)
        go_round
        case rel => exact ⟨k + 1, by omega, by go_num, by rw [HY.out]⟩
        case measure => simp [intOf]; omega
    · have hkn : k = l := by omega
      subst hkn
      go_wp2
      go_ret
      exact ⟨rfl, HB0.out⟩

set_option maxHeartbeats 1000000 in
theorem with_any (l r : Nat) (a : Option Addr) (cap : Nat) (t : Nat → Nat) (s : Nat) (w : World) (hl : l ≤ 10) (hr10 : r ≤ 10) (ht : Sm r l t) (hs : s < 1024) (hr : Row w a l (fun k => (t k : Nat))) :
    Calls Try.prog 11 #[.agg #[.int .i64 (l : Int), .int .i64 (r : Int), .slice a l cap], .int .i64 s] w fun e w' => e = .returned (.int .i64 (orTo t s l : Nat)) ∧ Below w.heap.size w w' := by
  have K0 : GHeld (w.alloc (.cells #[.int .i64 (l : Int), .int .i64 (r : Int), .slice a l cap] 24)) w.heap.size l r a l cap (fun k => (t k : Nat)) := GHeld.box hr
  have HB0 : Hid (Below w.heap.size w (w.alloc (.cells #[.int .i64 (l : Int), .int .i64 (r : Int), .slice a l cap] 24))) := (Below.refl _ _).alloc (Nat.le_refl _) _
  have HT : Hid (Sm r l t) := ht
  have hpr := pw_le r hr10
  have HEQ : Hid (setBy (fun x => anyTo t s x l) r = orTo t s l) := with_eq ht
  obtain ⟨P, HP⟩ : ∃ P, Hid (P = fun x => anyTo t s x l) := ⟨_, rfl⟩
  have HPA : Hid (∀ x, P x = anyTo t s x l) := fun x => by rw [HP.out]
  rw [← HP.out] at HEQ
  clear hr ht
  go_enter Try.func11, Try.ntmps11
  go_wp2_with fail
  go_loopw [5, 6] (fun x i wx => ∃ k : Nat, k ≤ r ∧ i = .int .i64 k ∧ x = .int .i64 (setBy P k : Nat) ∧ GHeld wx w.heap.size l r a l cap (fun k => (t k : Nat)) ∧ Hid (Below w.heap.size w wx)) (fun _ i _ => r - (intOf i).toNat)
  case atStart => exact ⟨0, Nat.zero_le _, rfl, rfl, K0, HB0.out⟩
  case round =>
    clear K0 HB0
    obtain ⟨k, hk, rfl, rfl, hH, hB⟩ := hrel
    have c1 := hH.c1
    have hSl := Nat.lt_of_lt_of_le (setBy_lt P k) (Nat.pow_le_pow_right (by decide : 0 < 2) hk)
    have hSl2 : setBy P k < 1024 := Nat.lt_of_lt_of_le hSl hpr
    by_cases hkl : k < r
    · have hlk : (k : Int) < (r : Int) := by omega
      have HH : Hid (GHeld wr w.heap.size l r a l cap (fun k => (t k : Nat))) := hH
      have HYES : Hid (anyTo t s k l = true → setBy P (k + 1) = setBy P k + pw k) := fun h => setBy_yes (by rw [HPA.out]; exact h)
      have HNO : Hid (anyTo t s k l = false → setBy P (k + 1) = setBy P k) := fun h => setBy_no (by rw [HPA.out]; exact h)
      have hpk := pw_small k (by omega)
      clear hH hSl
      generalize setBy P k = S at *
      go_wp2_with fail
      clear c1
      go_loopw [7, 8] (fun x i wx => ∃ j : Nat, j ≤ l ∧ i = .int .i64 j ∧ x = .bool (anyTo t s k j) ∧ GHeld wx w.heap.size l r a l cap (fun k => (t k : Nat)) ∧ Hid (Below w.heap.size w wx)) (fun _ i _ => l - (intOf i).toNat)
      case atStart => exact ⟨0, Nat.zero_le _, rfl, rfl, HH.out, hB.out⟩
      case round =>
        clear HH hB
        obtain ⟨j, hj, rfl, rfl, hH, hB⟩ := hrel
        have c0 := hH.c0
        have c2 := hH.c2
        by_cases hjl : j < l
        · have hlj : (j : Int) < (l : Int) := by omega
          obtain ⟨b, off, rfl, hcc⟩ := hH.row.at hjl
          have hcj := hcc j hjl
          have htj := HT.out j hjl
          clear hcc
          rcases (Bool.eq_false_or_eq_true (anyTo t s k j)).symm with hm | hm
          · rcases (Bool.eq_false_or_eq_true (s.testBit j)).symm with hb | hb
            · have HY : Hid (anyTo t s k (j + 1) = false) := by rw [anyTo, hm, hb]; rfl
              rw [hm]
              go_wp2_with (go_at_call 17; refine (in_as _ _ _ _ hb (by omega) (by omega)).mono ?_; rintro e w' ⟨rfl, rfl⟩)
              go_roundw
              case rel => exact ⟨j + 1, by omega, by go_num, by rw [HY.out], hH, hB.out⟩
              case measure => simp [intOf]; omega
            · rcases (Bool.eq_false_or_eq_true ((t j).testBit k)).symm with hb2 | hb2
              · have HY : Hid (anyTo t s k (j + 1) = false) := by rw [anyTo, hm, hb, hb2]; rfl
                rw [hm]
                go_wp2_with (first
                  | (go_at_call_of 17 (Value.int IntKind.i64 (s : Int)); refine (in_as _ _ _ _ hb (by omega) (by omega)).mono ?_; rintro e w' ⟨rfl, rfl⟩)
                  | (go_at_call 17; refine (in_as _ _ _ _ hb2 (by omega) (by omega)).mono ?_; rintro e w' ⟨rfl, rfl⟩))
                go_roundw
                case rel => exact ⟨j + 1, by omega, by go_num, by rw [HY.out], hH, hB.out⟩
                case measure => simp [intOf]; omega
              · have HY : Hid (anyTo t s k (j + 1) = true) := by rw [anyTo, hm, hb, hb2]; rfl
                rw [hm]
                go_wp2_with (first
                  | (go_at_call_of 17 (Value.int IntKind.i64 (s : Int)); refine (in_as _ _ _ _ hb (by omega) (by omega)).mono ?_; rintro e w' ⟨rfl, rfl⟩)
                  | (go_at_call 17; refine (in_as _ _ _ _ hb2 (by omega) (by omega)).mono ?_; rintro e w' ⟨rfl, rfl⟩))
                go_roundw
                case rel => exact ⟨j + 1, by omega, by go_num, by rw [HY.out], hH, hB.out⟩
                case measure => simp [intOf]; omega
          · have HY : Hid (anyTo t s k (j + 1) = true) := by rw [anyTo, hm]; rfl
            rw [hm]
            go_wp2_with fail
            go_roundw
            case rel => exact ⟨j + 1, by omega, by go_num, by rw [HY.out], hH, hB.out⟩
            case measure => simp [intOf]; omega
        · have hjn : j = l := by omega
          have hle : (l : Int) ≤ (j : Int) := by omega
          rcases (Bool.eq_false_or_eq_true (anyTo t s k j)).symm with hm | hm
          · have HY : Hid (setBy P (k + 1) = S) := HNO.out (by rw [← hjn]; exact hm)
            rw [hm]
            go_wp2_with fail
            go_roundw
            case rel => exact ⟨k + 1, by omega, by go_num, by rw [HY.out], hH, hB.out⟩
            case measure => simp [intOf]; omega
          · have HY : Hid (setBy P (k + 1) = S + pw k) := HYES.out (by rw [← hjn]; exact hm)
            rw [hm]
            go_wp2_with (go_at_call 18; refine (bit_any k _ (by omega)).mono ?_; rintro e w' ⟨rfl, rfl⟩)
            go_roundw
            case rel => exact ⟨k + 1, by omega, by go_num, by rw [HY.out]; go_num, hH, hB.out⟩
            case measure => simp [intOf]; omega
    · have hkn : k = r := by omega
      have hle : (r : Int) ≤ (k : Int) := by omega
      have HE : Hid (setBy P k = orTo t s l) := by rw [hkn]; exact HEQ.out
      clear hkl hkn
      go_wp2_with fail
      go_ret
      exact ⟨ret_int (congrArg Int.ofNat HE.out), hB.out⟩
end Go.Proofs.Ytahnkmdhhdgfhab
