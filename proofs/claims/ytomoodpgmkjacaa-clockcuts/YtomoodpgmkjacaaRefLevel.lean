/-
  What the reference's Height answers. Conditions: an order of at most ten points that lies in a slice of numbers.
-/
import Derived.Test.YtomoodpgmkjacaaLevelM
import Derived.Test.YtomoodpgmkjacaaCovB
import Derived.Test.YtomoodpgmkjacaaNats
import Derived.Deep.LoopGhost
namespace Go.Proofs.Ytomoodpgmkjacaa
open Go.RowKit

set_option maxHeartbeats 1000000 in
theorem height_any (n : Nat) (a : Option Addr) (cap : Nat) (g : Nat → Nat) (h10 : n ≤ 10) (hg : Sm n n g) (ho : Ord n g) : ∀ (m i : Nat) (w : World), i < n → g i < m → Row w a n (fun k => (g k : Nat)) →
    Calls Try.prog 15 #[.agg #[.int .i64 (n : Int), .slice a n cap], .int .i64 i] w fun e w' => e = .returned (.int .i64 (ht g n i : Nat)) ∧ Below w.heap.size w w' := by
  intro m
  induction m with
  | zero => intro i w _ h; exact absurd h (Nat.not_lt_zero _)
  | succ m ih =>
    intro i w hi hm hr
    have IH : Hid (∀ (j : Nat) (w : World), (g i).testBit j = true → Row w a n (fun k => (g k : Nat)) →
        Calls Try.prog 15 #[.agg #[.int .i64 (n : Int), .slice a n cap], .int .i64 j] w fun e w' => e = .returned (.int .i64 (ht g n j : Nat)) ∧ Below w.heap.size w w') := fun j w hb hr => by
      have := sub_lt h10 hg ho hi hb
      exact ih j w this.1 (by omega) hr
    have HEQ : Hid (ht g n i = maxTo (one g i (ht g n)) n) := ht_eq h10 hg ho hi
    have HSM : Hid (∀ j, ht g n j ≤ 1024) := fun j => ht_small g h10 j
    have HG : Hid (∀ k, k < n → g k < 1024) := fun k hk => Nat.lt_of_lt_of_le (hg k hk) (pw_le n h10)
    have K0 : Held (w.alloc (.cells #[.int .i64 (n : Int), .slice a n cap] 29)) w.heap.size n a n cap (fun k => (g k : Nat)) := Held.box hr
    have HB0 : Hid (Below w.heap.size w (w.alloc (.cells #[.int .i64 (n : Int), .slice a n cap] 29))) := (Below.refl _ _).alloc (Nat.le_refl _) _
    clear hr ih hg ho hm
    obtain ⟨H, HH⟩ : ∃ H, Hid (H = ht g n) := ⟨_, rfl⟩
    rw [← HH.out] at IH HEQ HSM ⊢
    go_enter Try.func15, Try.ntmps15
    go_wp2_with fail
    go_loopw [5, 6] (fun t x wx => ∃ k : Nat, k ≤ n ∧ x = .int .i64 k ∧ t = .int .i64 (maxTo (one g i H) k : Nat) ∧ Held wx w.heap.size n a n cap (fun k => (g k : Nat)) ∧ Hid (Below w.heap.size w wx)) (fun _ x _ => n - (intOf x).toNat)
    case atStart => exact ⟨0, Nat.zero_le _, rfl, rfl, K0, HB0.out⟩
    case round =>
      clear K0 HB0
      obtain ⟨k, hk, rfl, rfl, hH, hB⟩ := hrel
      have c0 := hH.c0
      have c1 := hH.c1
      by_cases hkl : k < n
      · have hml : maxTo (one g i H) k ≤ 1025 := (maxTo_le_iff _ _ k).2 fun j _ => by have := HSM.out j; unfold one; split <;> omega
        rcases (Bool.eq_false_or_eq_true ((g i).testBit k)).symm with hb | hb
        · have HY : Hid (maxTo (one g i H) (k + 1) = maxTo (one g i H) k) := maxTo_le (by rw [one_no hb]; exact Nat.zero_le _)
          generalize maxTo (one g i H) k = M at *
          go_wp2_with fail
          refine (less_any n a n cap g k i _ h10 HG.out hH.row (by omega) hi).mono ?_
          rintro e w2 ⟨rfl, hb2⟩
          have Hb2 : Hid (Below wr.heap.size wr w2) := hb2; clear hb2
          go_wp2_with fail
          go_roundw
          case rel => exact ⟨k + 1, by omega, by go_num, by rw [HY.out], hH.step Hb2.out, Below.then hB.out Hb2.out⟩
          case measure => simp [intOf]; omega
        · have hHk := HSM.out k
          by_cases hgt : maxTo (one g i H) k < H k + 1
          · have HY : Hid (maxTo (one g i H) (k + 1) = H k + 1) := by
              have e := maxTo_ge (φ := one g i H) (k := k) (by rw [one_yes hb]; exact hgt)
              rw [one_yes hb] at e; exact e
            generalize maxTo (one g i H) k = M at *
            go_wp2_with fail
            refine (less_any n a n cap g k i _ h10 HG.out hH.row (by omega) hi).mono ?_
            rintro e w2 ⟨rfl, hb2⟩
            have H2 := hH.step hb2
            have d0 := H2.c0
            have d1 := H2.c1
            have HB2 : Hid (Below w.heap.size w w2) := Below.then hB.out hb2
            clear hb2 hH hB c0 c1
            go_wp2_with fail
            refine (IH.out k _ hb H2.row).mono ?_
            rintro e w3 ⟨rfl, hb3⟩
            have H3 := H2.step hb3
            have e0 := H3.c0
            have e1 := H3.c1
            have HB3 : Hid (Below w.heap.size w w3) := Below.then HB2.out hb3
            clear hb3 H2 d0 d1 HB2
            go_wp2_with fail
            refine (IH.out k _ hb H3.row).mono ?_
            rintro e w4 ⟨rfl, hb4⟩
            have H4 := H3.step hb4
            have HB4 : Hid (Below w.heap.size w w4) := Below.then HB3.out hb4
            clear hb4 H3 e0 e1 HB3
            go_wp2_with fail
            go_roundw
            case rel => exact ⟨k + 1, by omega, by go_num, by rw [HY.out]; go_num, H4, HB4.out⟩
            case measure => simp [intOf]; omega
          · have HY : Hid (maxTo (one g i H) (k + 1) = maxTo (one g i H) k) := maxTo_le (by rw [one_yes hb]; omega)
            generalize maxTo (one g i H) k = M at *
            go_wp2_with fail
            refine (less_any n a n cap g k i _ h10 HG.out hH.row (by omega) hi).mono ?_
            rintro e w2 ⟨rfl, hb2⟩
            have H2 := hH.step hb2
            have d0 := H2.c0
            have d1 := H2.c1
            have HB2 : Hid (Below w.heap.size w w2) := Below.then hB.out hb2
            clear hb2 hH hB c0 c1
            go_wp2_with fail
            refine (IH.out k _ hb H2.row).mono ?_
            rintro e w3 ⟨rfl, hb3⟩
            have H3 := H2.step hb3
            have HB3 : Hid (Below w.heap.size w w3) := Below.then HB2.out hb3
            clear hb3 H2 d0 d1 HB2
            go_wp2_with fail
            go_roundw
            case rel => exact ⟨k + 1, by omega, by go_num, by rw [HY.out], H3, HB3.out⟩
            case measure => simp [intOf]; omega
      · have hkn : k = n := by omega
        subst hkn
        go_wp2
        go_ret
        exact ⟨ret_int (congrArg Int.ofNat HEQ.out.symm), hB.out⟩

theorem ht_any (n : Nat) (a : Option Addr) (cap : Nat) (g : Nat → Nat) (i : Nat) (w : World) (h10 : n ≤ 10) (hg : Sm n n g) (ho : Ord n g) (hi : i < n) (hr : Row w a n (fun k => (g k : Nat))) :
    Calls Try.prog 15 #[.agg #[.int .i64 (n : Int), .slice a n cap], .int .i64 i] w fun e w' => e = .returned (.int .i64 (ht g n i : Nat)) ∧ Below w.heap.size w w' :=
  height_any n a cap g h10 hg ho (g i + 1) i w hi (by omega) hr
end Go.Proofs.Ytomoodpgmkjacaa
