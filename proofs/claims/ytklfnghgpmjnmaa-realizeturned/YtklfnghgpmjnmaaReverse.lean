/-
  What slices.Reverse does to a slice of the caller's own: it reads the other way round. Conditions: a slice of numbers that begins at its block's head.
-/
import Derived.Test.YtklfnghgpmjnmaaBegun
import Derived.Handy
namespace Go.Proofs.Ytklfnghgpmjnmaa
open Go.RowKit

/-- The other way round, as far as the first k pairs go. -/
def rvTo (g : Nat → Nat) (n k j : Nat) : Nat := if j < k ∨ n - k ≤ j then g (n - 1 - j) else g j
theorem rvTo_zero (g : Nat → Nat) (n : Nat) : ∀ j, j < n → rvTo g n 0 j = g j := fun j hj => by
  unfold rvTo; rw [if_neg (by omega)]
theorem rvTo_end {g : Nat → Nat} {n k : Nat} (h : n ≤ 2 * k + 1) (hk : 2 * k ≤ n) : ∀ j, j < n → rvTo g n k j = g (n - 1 - j) := fun j hj => by
  unfold rvTo
  split
  · rfl
  · rw [show n - 1 - j = j by omega]
theorem rvTo_next {g : Nat → Nat} {n k : Nat} (h : 2 * k + 1 < n) : ∀ j, j < n → rvTo g n (k + 1) j = upd (upd (rvTo g n k) k (rvTo g n k (n - 1 - k))) (n - 1 - k) (rvTo g n k k) j := fun j hj => by
  by_cases e1 : j = n - 1 - k
  · subst e1
    rw [upd_same]
    unfold rvTo
    rw [if_pos (by omega), if_neg (by omega)]
    congr 1; omega
  · rw [upd_other _ _ _ _ e1]
    by_cases e2 : j = k
    · subst e2
      rw [upd_same]
      unfold rvTo
      rw [if_pos (by omega), if_neg (by omega)]
    · rw [upd_other _ _ _ _ e2]
      unfold rvTo
      by_cases e3 : j < k ∨ n - k ≤ j
      · rw [if_pos (by omega), if_pos e3]
      · rw [if_neg (by omega), if_neg e3]

set_option maxHeartbeats 1000000 in
theorem reverse_any (b n cap : Nat) (g : Nat → Nat) (base : Nat) (w0 w : World) (hn : n ≤ 10) (hO : Own w b n g) (hB : Below base w0 w) (hb : base ≤ b) :
    Calls Try.prog 39 #[.slice (some ⟨b, 0, none⟩) n cap] w fun e w' => (∃ v, e = .returned v) ∧ Own w' b n (fun k => g (n - 1 - k)) ∧ Below base w0 w' := by
  go_enter Try.func39, Try.ntmps39
  go_wp2_with fail
  have HO : Hid (Own w b n (rvTo g n 0)) := hO.congr (fun k hk => (rvTo_zero g n k hk).symm)
  have HB0 : Hid (Below base w0 w) := hB
  clear hO hB
  go_loopw [2, 3] (fun i j wx => ∃ k : Nat, 2 * k ≤ n + 1 ∧ k ≤ n ∧ i = .int .i64 k ∧ j = .int .i64 ((n : Int) - 1 - k) ∧ Hid (Own wx b n (rvTo g n k)) ∧ Hid (Below base w0 wx)) (fun i _ _ => n - (intOf i).toNat)
  case atStart => exact ⟨0, by omega, Nat.zero_le _, rfl, by go_num, HO.out, HB0.out⟩
  case round =>
    clear HO HB0
    obtain ⟨k, hk, hkn, rfl, rfl, HO, HB⟩ := hrel
    by_cases hlt : 2 * k + 1 < n
    · have hd : decide ((k : Int) < (n : Int) - 1 - (k : Int)) = true := by simp; omega
      obtain ⟨m, hm⟩ : ∃ m : Nat, m = n - 1 - k := ⟨_, rfl⟩
      have hme : (n : Int) - 1 - (k : Int) = (m : Int) := by omega
      have c1 := (HO.out k (by omega))
      have c2 := (HO.out m (by omega))
      have HN : Hid (∀ j, j < n → rvTo g n (k + 1) j = upd (upd (rvTo g n k) k (rvTo g n k m)) m (rvTo g n k k) j) := by rw [hm]; exact rvTo_next hlt
      have c1a := c1.1
      have c1b := c1.2
      have c2a := c2.1
      have c2b := c2.2
      clear hd
      rw [hme]
      generalize rvTo g n k k = X at *
      generalize rvTo g n k m = Y at *
      have hkm : (k : Int) < (n : Int) := by omega
      have hmm : (m : Int) < (n : Int) := by omega
      have hkm' : k ≠ m := by omega
      have hlt2 : (k : Int) < (m : Int) := by omega
      have hlt3 : k < m := by omega
      have hm1 : m < n := by omega
      have HM : Hid (m + k + 1 = n) := by
        have h : m + k + 1 = n := by omega
        exact h
      have HLT : Hid (2 * k + 1 < n) := hlt
      clear c1 c2 hm hme hlt hk
      go_wp2_with fail
      have HS : Hid (Own (((wr.drew).setCell ⟨b, k, none⟩ (.int .i64 (Y : Nat))).setCell ⟨b, m, none⟩ (.int .i64 (X : Nat))) b n (rvTo g n (k + 1))) :=
        (((HO.out.drewN 1).set k Y (by omega)).set m X hm1).congr (fun j hj => (HN.out j hj).symm)
      have HBS : Hid (Below base w0 (((wr.drew).setCell ⟨b, k, none⟩ (.int .i64 (Y : Nat))).setCell ⟨b, m, none⟩ (.int .i64 (X : Nat)))) :=
        Below.setCell (p := ⟨b, m, none⟩) (Below.setCell (p := ⟨b, k, none⟩) (HB.out.drew) hb _) hb _
      go_region
      go_wp2
      go_roundw
      case rel =>
        refine ⟨k + 1, ?_, ?_, by go_num, ?_, ?_, ?_⟩
        · have := HLT.out; omega
        · have := HLT.out; omega
        · have := HM.out
          go_num
        · exact HS.out
        · exact HBS.out
      case measure => have := HLT.out; simp [intOf]; omega
    · have hd : decide ((k : Int) < (n : Int) - 1 - (k : Int)) = false := by simp; omega
      have HE : Hid (Own wr b n (fun k => g (n - 1 - k))) := HO.out.congr (fun j hj => by
        by_cases e : 2 * k ≤ n
        · exact rvTo_end (by omega) e j hj
        · unfold rvTo; rw [if_pos (by omega)])
      go_wp2_with fail
      first | go_returns | (refine bodyPost_end rfl rfl ?_) | (refine bodyPost_ret rfl rfl ?_)
      exact ⟨⟨_, rfl⟩, HE.out, HB.out⟩
theorem reverse_none (a : Option Addr) (cap : Nat) (w : World) :
    Calls Try.prog 39 #[.slice a 0 cap] w fun e w' => (∃ v, e = .returned v) ∧ w = w' := by
  go_enter Try.func39, Try.ntmps39
  go_wp2_with fail
  go_loopw [2, 3] (fun i j wx => i = .int .i64 0 ∧ j = .int .i64 (-1) ∧ w = wx) (fun _ _ _ => 0)
  case atStart => exact ⟨rfl, by go_num, rfl⟩
  case round =>
    obtain ⟨rfl, rfl, rfl⟩ := hrel
    go_wp2_with fail
    go_end0
    exact ⟨⟨_, rfl⟩, rfl⟩
end Go.Proofs.Ytklfnghgpmjnmaa
