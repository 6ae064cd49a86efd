/-
  What moebius.Euler and the reference's EulerOf answer. Condition: a slice reads as a slice of numbers.
-/
import Derived.Test.YtgdbldfbhiaepabDoorEulM
namespace Go.Proofs.YtgdbldfbhiaepabDoor
open Go.RowKit

theorem odd_is {k : Nat} (h : k % 2 = 1) : ((k : Int) % 2 == 1) = true := by simp; omega
theorem odd_not {k : Nat} (h : ¬ k % 2 = 1) : ((k : Int) % 2 == 1) = false := by simp; omega
/-- Chains with an odd number of points less the others. -/
def eul (g : Nat → Nat) (n : Nat) : Int := eulS g n (pw n)
def EuPost (n : Int) (len : Nat) (f : Nat → Int) (e : Ending) : Prop := ∃ (c : Int) (v : Value), Chk n len f c ∧ e = .returned (.tuple #[v, .int .i64 c]) ∧
  ((c ≠ 0 ∧ v = .int .i64 0) ∨ (c = 0 ∧ v = .int .i64 (wz (eul (nat f) len))))

set_option maxHeartbeats 1000000 in
theorem euler_any (n : Int) (a : Option Addr) (len cap : Nat) (f : Nat → Int) (w : World) (hl : len ≤ maxLen) (hr : Row w a len f) :
    Calls Tryd.prog 10 #[.agg #[.int .i64 n, .slice a len cap]] w fun e w' => EuPost n len f e ∧ Below w.heap.size w w' := by
  have K0 : Held (w.alloc (.cells #[.int .i64 n, .slice a len cap] 24)) w.heap.size n a len cap f := Held.box hr
  have HB0 : Hid (Below w.heap.size w (w.alloc (.cells #[.int .i64 n, .slice a len cap] 24))) := (Below.refl _ _).alloc (Nat.le_refl _) _
  clear hr
  go_enter Tryd.func10, Tryd.ntmps10
  go_wp2_with fail
  refine (chains_any n a len cap f _ hl K0.row).mono ?_
  rintro e w1 ⟨⟨c, v, hc, rfl, he⟩, hb⟩
  have HB1 : Hid (Below w.heap.size w w1) := Below.then HB0.out hb
  have HC : Hid (Chk n len f c) := hc
  clear hb K0 HB0 hc
  rcases he with ⟨h0, rfl⟩ | ⟨rfl, hp⟩
  · have hne : (c != 0) = true := by simpa using h0
    go_wp2_with fail
    go_ret2
    exact ⟨⟨c, _, HC.out, rfl, .inl ⟨h0, rfl⟩⟩, HB1.out⟩
  · obtain ⟨rfl, h10, hrng, hord⟩ := HC.out.good
    have HE : Hid (eulL (chs (nat f) len) (chs (nat f) len).length = eul (nat f) len) := eul_eq h10 hrng.small hord
    have HL : Hid ((chs (nat f) len).length ≤ 1026) := by
      show (chs (nat f) len).length ≤ 1026
      rw [chs, chTo_len]; have := tops_le (nat f) h10; omega
    obtain ⟨L, HLL⟩ : ∃ L, Hid (chs (nat f) len = L) := ⟨_, rfl⟩
    rw [HLL.out] at HE HL hp
    obtain ⟨aL, cL, rfl, hrL⟩ := hp
    have HR : Hid (Row w1 aL L.length (fun k => (nth L k : Nat))) := hrL
    have hlm := HL.out
    clear hrL hrng hord HLL
    go_wp2_with fail
    go_loop [6, 19] (fun x i => ∃ k : Nat, k ≤ L.length ∧ i = .int .i64 k ∧ x = .int .i64 (wz (eulL L k))) (fun _ i => L.length - (intOf i).toNat)
    case atStart => exact ⟨0, Nat.zero_le _, rfl, by simp [eulL, sumI, wz]⟩
    case round =>
      obtain ⟨k, hk, rfl, rfl⟩ := hrel
      by_cases hkl : k < L.length
      · obtain ⟨b', off', rfl, hcc⟩ := HR.out.at hkl
        have hck := hcc k hkl
        have hlr : (k : Int) < (L.length : Int) := by omega
        clear hcc
        by_cases hodd : k % 2 = 1
        · have HY : Hid (wrap64 (wz (eulL L k) + (nth L k : Nat)) = wz (eulL L (k + 1))) := by
            show _ = _
            rw [eulL_odd hodd, ← wz_is]
            obtain ⟨j, hj⟩ := wz_k (eulL L k)
            exact wz_eq (k := j) (by rw [hj]; omega)
          have ho := odd_is hodd
          clear hodd
          generalize nth L k = Y at *
          generalize wz (eulL L k) = X at *
          have hY : wrap64 (X + (Y : Int)) = wz (eulL L (k + 1)) := HY.out
          clear HY
          go_wp2_with fail
          go_round
          case rel => exact ⟨k + 1, by omega, by go_num, by rw [hY]⟩
          case measure => simp [intOf]; omega
        · have HY : Hid (wrap64 (wz (eulL L k) - (nth L k : Nat)) = wz (eulL L (k + 1))) := by
            show _ = _
            rw [eulL_even hodd, ← wz_is]
            obtain ⟨j, hj⟩ := wz_k (eulL L k)
            exact wz_eq (k := j) (by rw [hj]; omega)
          have ho := odd_not hodd
          clear hodd
          generalize nth L k = Y at *
          generalize wz (eulL L k) = X at *
          have hY : wrap64 (X - (Y : Int)) = wz (eulL L (k + 1)) := HY.out
          clear HY
          go_wp2_with fail
          go_round
          case rel => exact ⟨k + 1, by omega, by go_num, by rw [hY]⟩
          case measure => simp [intOf]; omega
      · obtain rfl : k = L.length := by omega
        rw [HE.out]
        go_wp2_with fail
        go_ret2
        exact ⟨⟨0, _, HC.out, rfl, .inr ⟨rfl, rfl⟩⟩, HB1.out⟩

theorem eulS_succ_no {g : Nat → Nat} {n k : Nat} (h : chB g n k = false) : eulS g n (k + 1) = eulS g n k := by
  unfold eulS; rw [sumI]; simp [h]
theorem eulS_succ_odd {g : Nat → Nat} {n k : Nat} (h : chB g n k = true) (ho : pc k % 2 = 1) : eulS g n (k + 1) = eulS g n k + 1 := by
  unfold eulS; rw [sumI]; simp [h, sg, ho]
theorem eulS_succ_even {g : Nat → Nat} {n k : Nat} (h : chB g n k = true) (ho : ¬ pc k % 2 = 1) : eulS g n (k + 1) = eulS g n k - 1 := by
  unfold eulS; rw [sumI]; simp [h, sg, ho]; omega
theorem pc_le (S : Nat) : pc S ≤ 10 := by
  have key : ∀ k, pcn S k ≤ k := fun k => by
    induction k with
    | zero => exact Nat.le_refl _
    | succ k ih => rw [pcn]; split <;> omega
  exact key 10

end Go.Proofs.YtgdbldfbhiaepabDoor
