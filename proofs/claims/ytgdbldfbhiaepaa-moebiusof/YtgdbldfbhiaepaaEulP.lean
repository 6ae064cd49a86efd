/-
  What moebius.Euler and the reference's EulerOf answer. Condition: a slice reads as a slice of numbers.
-/
import Derived.Test.YtgdbldfbhiaepaaEulM
import Derived.Test.YtgdbldfbhiaepaaRefChain
namespace Go.Proofs.Ytgdbldfbhiaepaa
open Go.RowKit

theorem odd_is {k : Nat} (h : k % 2 = 1) : ((k : Int) % 2 == 1) = true := by simp; omega
theorem odd_not {k : Nat} (h : ¬ k % 2 = 1) : ((k : Int) % 2 == 1) = false := by simp; omega
/-- Chains with an odd number of points less the others. -/
def eul (g : Nat → Nat) (n : Nat) : Int := eulS g n (pw n)
def EuPost (n : Int) (len : Nat) (f : Nat → Int) (e : Ending) : Prop := ∃ (c : Int) (v : Value), Chk n len f c ∧ e = .returned (.tuple #[v, .int .i64 c]) ∧
  ((c ≠ 0 ∧ v = .int .i64 0) ∨ (c = 0 ∧ v = .int .i64 (wz (eul (nat f) len))))

set_option maxHeartbeats 1000000 in
theorem euler_any (n : Int) (a : Option Addr) (len cap : Nat) (f : Nat → Int) (w : World) (hl : len ≤ maxLen) (hr : Row w a len f) :
    Calls Try.prog 23 #[.agg #[.int .i64 n, .slice a len cap]] w fun e w' => EuPost n len f e ∧ Below w.heap.size w w' := by
  have K0 : Held (w.alloc (.cells #[.int .i64 n, .slice a len cap] 24)) w.heap.size n a len cap f := Held.box hr
  have HB0 : Hid (Below w.heap.size w (w.alloc (.cells #[.int .i64 n, .slice a len cap] 24))) := (Below.refl _ _).alloc (Nat.le_refl _) _
  clear hr
  go_enter Try.func23, Try.ntmps23
  go_wp2_with fail
  refine (chains_any n a len cap f _ hl K0.row).mono ?_
  rintro e w1 ⟨⟨c, v, hc, rfl, he⟩, hb⟩
  have HB1 : Hid (Below w.heap.size w w1) := Below.then HB0.out hb
  have HC : Hid (Chk n len f c) := hc
  clear hb K0 HB0 hc
  rcases he with ⟨h0, rfl⟩ | ⟨rfl, hp⟩
  · have hne : (c != 0) = true := by simpa using h0
    go_wp2_with fail
    go_ret2
    exact ⟨⟨c, _, HC.out, rfl, .inl ⟨h0, rfl⟩⟩, HB1.out⟩
  · obtain ⟨rfl, h10, hrng, hord⟩ := HC.out.good
    have HE : Hid (eulL (chs (nat f) len) (chs (nat f) len).length = eul (nat f) len) := eul_eq h10 hrng.small hord
    have HL : Hid ((chs (nat f) len).length ≤ 1026) := by
      show (chs (nat f) len).length ≤ 1026
      rw [chs, chTo_len]; have := tops_le (nat f) h10; omega
    obtain ⟨L, HLL⟩ : ∃ L, Hid (chs (nat f) len = L) := ⟨_, rfl⟩
    rw [HLL.out] at HE HL hp
    obtain ⟨aL, cL, rfl, hrL⟩ := hp
    have HR : Hid (Row w1 aL L.length (fun k => (nth L k : Nat))) := hrL
    have hlm := HL.out
    clear hrL hrng hord HLL
    go_wp2_with fail
    go_loop [6, 19] (fun x i => ∃ k : Nat, k ≤ L.length ∧ i = .int .i64 k ∧ x = .int .i64 (wz (eulL L k))) (fun _ i => L.length - (intOf i).toNat)
    case atStart => exact ⟨0, Nat.zero_le _, rfl, by simp [eulL, sumI, wz]⟩
    case round =>
      obtain ⟨k, hk, rfl, rfl⟩ := hrel
      by_cases hkl : k < L.length
      · obtain ⟨b', off', rfl, hcc⟩ := HR.out.at hkl
        have hck := hcc k hkl
        have hlr : (k : Int) < (L.length : Int) := by omega
        clear hcc
        by_cases hodd : k % 2 = 1
        · have HY : Hid (wrap64 (wz (eulL L k) + (nth L k : Nat)) = wz (eulL L (k + 1))) := by
            show _ = _
            rw [eulL_odd hodd, ← wz_is]
            obtain ⟨j, hj⟩ := wz_k (eulL L k)
            exact wz_eq (k := j) (by rw [hj]; omega)
          have ho := odd_is hodd
          clear hodd
          generalize nth L k = Y at *
          generalize wz (eulL L k) = X at *
          have hY : wrap64 (X + (Y : Int)) = wz (eulL L (k + 1)) := HY.out
          clear HY
          go_wp2_with fail
          go_round
          case rel => exact ⟨k + 1, by omega, by go_num, by rw [hY]⟩
          case measure => simp [intOf]; omega
        · have HY : Hid (wrap64 (wz (eulL L k) - (nth L k : Nat)) = wz (eulL L (k + 1))) := by
            show _ = _
            rw [eulL_even hodd, ← wz_is]
            obtain ⟨j, hj⟩ := wz_k (eulL L k)
            exact wz_eq (k := j) (by rw [hj]; omega)
          have ho := odd_not hodd
          clear hodd
          generalize nth L k = Y at *
          generalize wz (eulL L k) = X at *
          have hY : wrap64 (X - (Y : Int)) = wz (eulL L (k + 1)) := HY.out
          clear HY
          go_wp2_with fail
          go_round
          case rel => exact ⟨k + 1, by omega, by go_num, by rw [hY]⟩
          case measure => simp [intOf]; omega
      · obtain rfl : k = L.length := by omega
        rw [HE.out]
        go_wp2_with fail
        go_ret2
        exact ⟨⟨0, _, HC.out, rfl, .inr ⟨rfl, rfl⟩⟩, HB1.out⟩

theorem eulS_succ_no {g : Nat → Nat} {n k : Nat} (h : chB g n k = false) : eulS g n (k + 1) = eulS g n k := by
  unfold eulS; rw [sumI]; simp [h]
theorem eulS_succ_odd {g : Nat → Nat} {n k : Nat} (h : chB g n k = true) (ho : pc k % 2 = 1) : eulS g n (k + 1) = eulS g n k + 1 := by
  unfold eulS; rw [sumI]; simp [h, sg, ho]
theorem eulS_succ_even {g : Nat → Nat} {n k : Nat} (h : chB g n k = true) (ho : ¬ pc k % 2 = 1) : eulS g n (k + 1) = eulS g n k - 1 := by
  unfold eulS; rw [sumI]; simp [h, sg, ho]; omega
theorem pc_le (S : Nat) : pc S ≤ 10 := by
  have key : ∀ k, pcn S k ≤ k := fun k => by
    induction k with
    | zero => exact Nat.le_refl _
    | succ k ih => rw [pcn]; split <;> omega
  exact key 10

set_option maxHeartbeats 1000000 in
theorem eulerOf_any (n : Nat) (a : Option Addr) (cap : Nat) (g : Nat → Nat) (w : World) (h10 : n ≤ 10) (hg : ∀ j, j < n → g j < 1024) (hr : Row w a n (fun k => (g k : Nat))) :
    Calls Try.prog 24 #[.agg #[.int .i64 (n : Int), .slice a n cap]] w fun e w' => e = .returned (.int .i64 (wz (eul g n))) ∧ Below w.heap.size w w' := by
  have K0 : Held (w.alloc (.cells #[.int .i64 (n : Int), .slice a n cap] 24)) w.heap.size n a n cap (fun k => (g k : Nat)) := Held.box hr
  have HB0 : Hid (Below w.heap.size w (w.alloc (.cells #[.int .i64 (n : Int), .slice a n cap] 24))) := (Below.refl _ _).alloc (Nat.le_refl _) _
  have HG : Hid (∀ j, j < n → g j < 1024) := hg
  have hpn := pw_le n h10
  clear hr hg
  go_enter Try.func24, Try.ntmps24
  go_wp2_with fail
  go_loopw [3, 4] (fun x i wx => ∃ k : Nat, k ≤ pw n ∧ i = .int .i64 k ∧ x = .int .i64 (wz (eulS g n k)) ∧ Held wx w.heap.size n a n cap (fun k => (g k : Nat)) ∧ Hid (Below w.heap.size w wx)) (fun _ i _ => pw n - (intOf i).toNat)
  case atStart => exact ⟨0, Nat.zero_le _, rfl, by simp [eulS, sumI, wz], K0, HB0.out⟩
  case round =>
    clear K0 HB0
    obtain ⟨k, hk, rfl, rfl, hH, hB⟩ := hrel
    have c0 := hH.c0
    have c1 := hH.c1
    by_cases hkl : k < pw n
    · have hlr : (k : Int) < ((pw n : Nat) : Int) := by omega
      go_wp2_with (go_at_call 30; refine (bit_quiet n _ (by omega)).mono ?_; rintro e w' ⟨rfl, rfl⟩)
      refine (isChain_any n a cap g k _ h10 HG.out hH.row (by omega)).mono ?_
      rintro e w3 ⟨rfl, hb3⟩
      have HH : Hid (Held w3 w.heap.size n a n cap (fun k => (g k : Nat))) := hH.step hb3
      have HB3 : Hid (Below w.heap.size w w3) := Below.then hB.out hb3
      clear hH hB c0 c1 hb3
      cases hc : chB g n k
      · have HY : Hid (eulS g n (k + 1) = eulS g n k) := eulS_succ_no hc
        go_wp2_with fail
        go_roundw
        case rel => exact ⟨k + 1, by omega, by go_num, by rw [HY.out], HH.out, HB3.out⟩
        case measure => simp [intOf]; omega
      · have hpc := pc_le k
        go_wp2_with fail
        refine (refSize_any k _ (by omega)).mono ?_
        rintro e w4 ⟨rfl, rfl⟩
        by_cases ho : pc k % 2 = 1
        · have HY : Hid (wrap64 (wz (eulS g n k) + 1) = wz (eulS g n (k + 1))) := by
            show _ = _
            rw [eulS_succ_odd hc ho, ← wz_is]
            obtain ⟨j, hj⟩ := wz_k (eulS g n k)
            exact wz_eq (k := j) (by rw [hj]; omega)
          have hod := odd_is ho
          clear ho hc
          generalize pc k = P at *
          generalize wz (eulS g n k) = X at *
          have hY : wrap64 (X + 1) = wz (eulS g n (k + 1)) := HY.out
          clear HY
          go_wp2_with fail
          go_roundw
          case rel => exact ⟨k + 1, by omega, by go_num, by rw [hY], HH.out, HB3.out⟩
          case measure => simp [intOf]; omega
        · have HY : Hid (wrap64 (wz (eulS g n k) - 1) = wz (eulS g n (k + 1))) := by
            show _ = _
            rw [eulS_succ_even hc ho, ← wz_is]
            obtain ⟨j, hj⟩ := wz_k (eulS g n k)
            exact wz_eq (k := j) (by rw [hj]; omega)
          have hod := odd_not ho
          clear ho hc
          generalize pc k = P at *
          generalize wz (eulS g n k) = X at *
          have hY : wrap64 (X - 1) = wz (eulS g n (k + 1)) := HY.out
          clear HY
          go_wp2_with fail
          go_roundw
          case rel => exact ⟨k + 1, by omega, by go_num, by rw [hY], HH.out, HB3.out⟩
          case measure => simp [intOf]; omega
    · obtain rfl : k = pw n := by omega
      have HF : Hid (wz (eulS g n (pw n)) = wz (eul g n)) := rfl
      rw [HF.out]
      go_wp2_with (go_at_call 30; refine (bit_quiet n _ (by omega)).mono ?_; rintro e w' ⟨rfl, rfl⟩)
      go_ret
      exact ⟨rfl, hB.out⟩
end Go.Proofs.Ytgdbldfbhiaepaa
