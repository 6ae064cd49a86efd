/-
  What the reference's Matchings answers. Conditions: a graph of at most ten points on either side that lies in a slice of numbers.
-/
import Derived.Test.YtahnkmdhhdgfhaaMCount
namespace Go.Proofs.Ytahnkmdhhdgfhaa
open Go.RowKit

theorem in_as2 (s p : Nat) (w : World) (b : Bool) (h : s.testBit p = b) (hs : s < 9223372036854775808) (hp : p < 63) :
    Calls Try.prog 27 #[.int .i64 s, .int .i64 p] w fun e w' => e = .returned (.bool b) ∧ w = w' :=
  (in_as s p w b h hs hp).mono fun _ _ ⟨h1, h2⟩ => ⟨h1, h2.symm⟩
/-- What one on the right brings. -/
def mone (t : Nat → Nat) (r d left taken k : Nat) : Nat := if fre t left taken k = true then mat t r d (left + 1) (taken + pw k) else 0
theorem mat_succ (t : Nat → Nat) (r d left taken : Nat) : mat t r (d + 1) left taken = sumTo (mone t r d left taken) r := rfl
theorem mone_yes {t : Nat → Nat} {r d left taken k : Nat} (h : fre t left taken k = true) : mone t r d left taken k = mat t r d (left + 1) (taken + pw k) := by simp [mone, h]
theorem mone_no {t : Nat → Nat} {r d left taken k : Nat} (h : fre t left taken k = false) : mone t r d left taken k = 0 := by simp [mone, h]
theorem add_lt {taken k r : Nat} (h : taken.testBit k = false) (ht : taken < pw r) (hk : k < r) : taken + pw k < pw r := by rw [← or_free h]; exact or_lt ht hk
theorem mone_sum_le (t : Nat → Nat) {r d left taken k : Nat} (hr : r ≤ 10) (hd : d ≤ 9) (hk : k ≤ r) : sumTo (mone t r d left taken) k ≤ 10000000000 := by
  have h := sumTo_le (φ := mone t r d left taken) (B := 1000000000) k (fun j _ => by
    have := mat_le t hr d (left + 1) (taken + pw j)
    have h2 : 10 ^ d ≤ 10 ^ 9 := Nat.pow_le_pow_right (by decide) hd
    unfold mone
    split
    · omega
    · exact Nat.zero_le _)
  have : k * 1000000000 ≤ 10 * 1000000000 := Nat.mul_le_mul (by omega) (Nat.le_refl _)
  omega

set_option maxHeartbeats 1000000 in
theorem matchings_any (l r : Nat) (a : Option Addr) (cap : Nat) (t : Nat → Nat) (hl : l ≤ 10) (hr10 : r ≤ 10) (ht : Sm r l t) : ∀ (d left taken : Nat) (w : World), left + d = l → taken < pw r → Row w a l (fun k => (t k : Nat)) →
    Calls Try.prog 22 #[.agg #[.int .i64 (l : Int), .int .i64 (r : Int), .slice a l cap], .int .i64 left, .int .i64 taken] w fun e w' => e = .returned (.int .i64 (mat t r d left taken : Nat)) ∧ Below w.heap.size w w' := by
  intro d
  induction d with
  | zero =>
    intro left taken w hld _ _
    have hq : ((left : Int) == (l : Int)) = true := by simp; omega
    have HE : Hid (mat t r 0 left taken = 1) := rfl
    go_enter Try.func22, Try.ntmps22
    go_wp2_with fail
    go_ret
    exact ⟨ret_int (congrArg Int.ofNat HE.out.symm), (Below.refl _ _).alloc (Nat.le_refl _) _⟩
  | succ d ih =>
    intro left taken w hld htk hr
    have IH : Hid (∀ (k : Nat) (X : Nat) (w : World), X = mat t r d (left + 1) (taken + pw k) → taken.testBit k = false → k < r → Row w a l (fun k => (t k : Nat)) →
        Calls Try.prog 22 #[.agg #[.int .i64 (l : Int), .int .i64 (r : Int), .slice a l cap], .int .i64 ((left : Int) + 1), .int .i64 ((taken : Int) + (pw k : Nat))] w fun e w' => e = .returned (.int .i64 (X : Nat)) ∧ Below w.heap.size w w') := fun k X w hX hb hk hr => by
      have h := ih (left + 1) (taken + pw k) w (by omega) (add_lt hb htk hk) hr
      rw [Int.natCast_add, Int.natCast_add] at h
      rw [hX]
      exact h
    have hq : ((left : Int) == (l : Int)) = false := by simp; omega
    have hleft : left < l := by omega
    have HEQ : Hid (mat t r (d + 1) left taken = sumTo (mone t r d left taken) r) := rfl
    have HSB : Hid (∀ k, k ≤ r → sumTo (mone t r d left taken) k ≤ 10000000000) := fun k hk => mone_sum_le t hr10 (by omega) hk
    have K0 : GHeld (w.alloc (.cells #[.int .i64 (l : Int), .int .i64 (r : Int), .slice a l cap] 24)) w.heap.size l r a l cap (fun k => (t k : Nat)) := GHeld.box hr
    have HB0 : Hid (Below w.heap.size w (w.alloc (.cells #[.int .i64 (l : Int), .int .i64 (r : Int), .slice a l cap] 24))) := (Below.refl _ _).alloc (Nat.le_refl _) _
    have htl : t left < 1024 := Nat.lt_of_lt_of_le (ht left hleft) (pw_le r hr10)
    have htk2 : taken < 1024 := Nat.lt_of_lt_of_le htk (pw_le r hr10)
    clear hr ih htk
    obtain ⟨F, HF⟩ : ∃ F, Hid (F = mone t r d left taken) := ⟨_, rfl⟩
    have HFY : Hid (∀ k, (t left).testBit k = true → taken.testBit k = false → F k = mat t r d (left + 1) (taken + pw k)) := fun k h1 h2 => by rw [HF.out]; exact mone_yes (fre_yes h1 h2)
    have HFN1 : Hid (∀ k, (t left).testBit k = false → F k = 0) := fun k h1 => by rw [HF.out]; exact mone_no (fre_no1 h1)
    have HFN2 : Hid (∀ k, taken.testBit k = true → F k = 0) := fun k h1 => by rw [HF.out]; exact mone_no (fre_no2 h1)
    rw [← HF.out] at HEQ HSB
    clear HF
    go_enter Try.func22, Try.ntmps22
    go_wp2_with fail
    go_loopw [7, 8] (fun x i wx => ∃ k : Nat, k ≤ r ∧ i = .int .i64 k ∧ x = .int .i64 (sumTo F k : Nat) ∧ GHeld wx w.heap.size l r a l cap (fun k => (t k : Nat)) ∧ Hid (Below w.heap.size w wx)) (fun _ i _ => r - (intOf i).toNat)
    case atStart => exact ⟨0, Nat.zero_le _, rfl, rfl, K0, HB0.out⟩
    case round =>
      clear K0 HB0
      obtain ⟨k, hk, rfl, rfl, hH, hB⟩ := hrel
      have c0 := hH.c0
      have c1 := hH.c1
      have c2 := hH.c2
      by_cases hkr : k < r
      · have hlk : (k : Int) < (r : Int) := by omega
        obtain ⟨b, off, rfl, hcc⟩ := hH.row.at hleft
        have hcl := hcc left hleft
        have hll : (left : Int) < (l : Int) := by omega
        have HSS : Hid (sumTo F (k + 1) = sumTo F k + F k) := rfl
        have hsb := HSB.out (k + 1) (by omega)
        rw [HSS.out] at hsb
        clear hcc
        rcases (Bool.eq_false_or_eq_true ((t left).testBit k)).symm with hb | hb
        · have HY : Hid (sumTo F (k + 1) = sumTo F k) := by rw [HSS.out, HFN1.out k hb]; rfl
          clear HSS
          generalize sumTo F k = X at *
          go_wp2_with (go_at_call 27; refine (in_as _ _ _ _ hb (by omega) (by omega)).mono ?_; rintro e w' ⟨rfl, rfl⟩)
          go_roundw
          case rel => exact ⟨k + 1, by omega, by go_num, by rw [HY.out], hH, hB.out⟩
          case measure => simp [intOf]; omega
        · rcases (Bool.eq_false_or_eq_true (taken.testBit k)).symm with hb2 | hb2
          · have HFK := HFY.out k hb hb2
            have hpk : pw k < 1024 := Nat.lt_of_lt_of_le (Nat.pow_lt_pow_right (by decide) hkr) (pw_le r hr10)
            obtain ⟨Y, HYY⟩ : ∃ Y, Hid (Y = F k) := ⟨_, rfl⟩
            have HIX : Hid (Y = mat t r d (left + 1) (taken + pw k)) := by rw [HYY.out]; exact HFK
            rw [← HYY.out] at hsb HSS
            clear HFK HYY
            generalize sumTo F k = X at *
            have hw1 : IntKind.i64.wrap ((left : Int) + 1) = (left : Int) + 1 := wrap_i64_small _ (by omega) (by omega)
            have hw2 : IntKind.i64.wrap ((taken : Int) + ((pw k : Nat) : Int)) = (taken : Int) + ((pw k : Nat) : Int) := wrap_i64_small _ (by omega) (by omega)
            have hw3 : IntKind.i64.wrap ((X : Int) + (Y : Int)) = (X : Int) + (Y : Int) := wrap_i64_small _ (by omega) (by omega)
            have l0 : ∀ w', Below wr.heap.size wr w' → w'.cell? ⟨w.heap.size, 0, none⟩ = some (.int .i64 (l : Int)) := fun w' h => (hH.step h).c0
            have l1 : ∀ w', Below wr.heap.size wr w' → w'.cell? ⟨w.heap.size, 1, none⟩ = some (.int .i64 (r : Int)) := fun w' h => (hH.step h).c1
            have l2 : ∀ w', Below wr.heap.size wr w' → w'.cell? ⟨w.heap.size, 2, none⟩ = some (.slice (some ⟨b, off, none⟩) l cap) := fun w' h => (hH.step h).c2
            have LR : Hid (∀ w', Below wr.heap.size wr w' → Row w' (some ⟨b, off, none⟩) l (fun k => (t k : Nat))) := fun w' h => (hH.step h).row
            have KK : Below wr.heap.size wr wr.drew := (Below.refl _ _).drew
            have HKEEP : Hid (∀ w', Below wr.heap.size wr w' → GHeld w' w.heap.size l r (some ⟨b, off, none⟩) l cap (fun k => (t k : Nat)) ∧ Below w.heap.size w w') := fun w' h => ⟨hH.step h, Below.then hB.out h⟩
            clear hH hB
            go_wp2_with (first
              | (go_at_call_of 27 (Value.int IntKind.i64 (taken : Int)); refine (in_as2 _ _ _ _ hb2 (by omega) (by omega)).mono ?_; rintro e w' ⟨rfl, rfl⟩)
              | (go_at_call 27; refine (in_as2 _ _ _ _ hb (by omega) (by omega)).mono ?_; rintro e w' ⟨rfl, rfl⟩))
            go_region_held3 (fun w' => Below wr.heap.size wr w')
              (first | exact KK | assumption | exact Below.then (by assumption) (by assumption))
              (first
                | (go_at_call 25; refine (bit_any k _ (by omega)).mono ?_; rintro e w1 ⟨rfl, rfl⟩)
                | (go_at_call 22; refine (IH.out k Y _ HIX.out hb2 hkr (LR.out _ (by assumption))).mono ?_; rintro e w1 ⟨rfl, hb1⟩))
            all_goals go_wp2_with fail
            all_goals go_roundw
            case rel => exact ⟨k + 1, by omega, by go_num, by rw [HSS.out]; go_num, (HKEEP.out _ (by assumption)).1, (HKEEP.out _ (by assumption)).2⟩
            case measure => simp [intOf]; omega
          · have HY : Hid (sumTo F (k + 1) = sumTo F k) := by rw [HSS.out, HFN2.out k hb2]; rfl
            clear HSS
            generalize sumTo F k = X at *
            go_wp2_with (first
              | (go_at_call_of 27 (Value.int IntKind.i64 (taken : Int)); refine (in_as _ _ _ _ hb2 (by omega) (by omega)).mono ?_; rintro e w' ⟨rfl, rfl⟩)
              | (go_at_call 27; refine (in_as _ _ _ _ hb (by omega) (by omega)).mono ?_; rintro e w' ⟨rfl, rfl⟩))
            go_roundw
            case rel => exact ⟨k + 1, by omega, by go_num, by rw [HY.out], hH, hB.out⟩
            case measure => simp [intOf]; omega
      · have hkn : k = r := by omega
        have hge : (r : Int) ≤ (k : Int) := by omega
        have HE : Hid (mat t r (d + 1) left taken = sumTo F k) := by rw [hkn]; exact HEQ.out
        clear hkn
        go_wp2_with fail
        go_ret
        exact ⟨ret_int (congrArg Int.ofNat HE.out.symm), hB.out⟩
end Go.Proofs.Ytahnkmdhhdgfhaa
