/-
  What hasselaw.ends answers: true, where each number up to the greatest is a first one and a last one. Conditions: at most ten pairs, from 0 to 1000.
-/
import Derived.Deep.QuietTactic
import Derived.Test.YtkknfnjhpamfbaaFishM
namespace Go.Proofs.Ytkknfnjhpamfbaa
open Go.RowKit

/-- Of one of the first k is it so? -/
def anyTo (P : Nat → Bool) : Nat → Bool
  | 0 => false
  | k + 1 => anyTo P k || P k
theorem anyTo_yes {P : Nat → Bool} {i : Nat} (h : P i = true) : ∀ k, i < k → anyTo P k = true
  | k + 1, hk => by
    unfold anyTo
    by_cases e : i = k
    · subst e; rw [h, Bool.or_true]
    · rw [anyTo_yes h k (by omega)]; rfl
/-- What must be of pairs. -/
def EndsOk (p : Nat → Int × Int) (n : Nat) : Prop :=
  (∀ i, i < n → 0 ≤ (p i).1 ∧ (p i).1 ≤ (p i).2 ∧ (p i).2 ≤ 1000) ∧ ∀ t : Nat, (∃ i, i < n ∧ (t : Int) ≤ (p i).2) → (∃ i, i < n ∧ (p i).1 = t) ∧ ∃ i, i < n ∧ (p i).2 = t

theorem cn_or (P Q : Nat → Bool) : ∀ k, cn (fun s => P s || Q s) k ≤ cn P k + cn Q k
  | 0 => Nat.le_refl _
  | k + 1 => by
    have ih := cn_or P Q k
    rcases Bool.eq_false_or_eq_true (P k) with e1 | e1 <;> rcases Bool.eq_false_or_eq_true (Q k) with e2 | e2
    · rw [cn_yes e1, cn_yes e2, cn_yes (P := fun s => P s || Q s) (by simp [e1])]; omega
    · rw [cn_yes e1, cn_no e2, cn_yes (P := fun s => P s || Q s) (by simp [e1])]; omega
    · rw [cn_no e1, cn_yes e2, cn_yes (P := fun s => P s || Q s) (by simp [e2])]; omega
    · rw [cn_no e1, cn_no e2, cn_no (P := fun s => P s || Q s) (by simp [e1, e2])]; omega
theorem cn_one (c : Nat) : ∀ k, cn (fun s => c == s) k ≤ 1 ∧ (k ≤ c → cn (fun s => c == s) k = 0)
  | 0 => ⟨by simp [cn], fun _ => rfl⟩
  | k + 1 => by
    obtain ⟨h1, h2⟩ := cn_one c k
    by_cases e : c = k
    · subst e
      refine ⟨?_, fun h => by omega⟩
      rw [cn_yes (by simp), h2 (Nat.le_refl _)]; omega
    · rw [cn_no (by simpa using e)]
      exact ⟨h1, fun h => h2 (by omega)⟩
theorem kb_le (g : Nat → Nat) (T : Nat) : ∀ n, kb g n T ≤ n
  | 0 => by
    have : kb g 0 T = cn (fun _ => false) T := by unfold kb; exact cn_congr _ (fun j _ => by simp [inB])
    rw [this]
    have h : ∀ k, cn (fun _ => false) k = 0 := fun k => by
      induction k with
      | zero => rfl
      | succ k ih => rw [cn_no rfl]; exact ih
    rw [h]; exact Nat.le_refl _
  | n + 1 => by
    have ih := kb_le g T n
    have e : kb g (n + 1) T = cn (fun s => inB g n s || (g n == s)) T := by
      unfold kb
      exact cn_congr _ (fun j _ => by simp [inB, List.range_succ])
    rw [e]
    have h1 := cn_or (inB g n) (fun s => g n == s) T
    have h2 := (cn_one (g n) T).1
    unfold kb at ih
    omega
theorem ends_spn {g : Nat → Nat} {n : Nat} (hn : n ≤ 10) (hg : Sm n n g) (ho : Ord n g) (h : NoTwo g n) : EndsOk (spn g n) n := by
  have hk := kb_le g (pw n) n
  refine ⟨fun i hi => ⟨?_, spn_ok hn hg ho hi, ?_⟩, fun t ⟨i, hi, ht⟩ => ?_⟩
  · simp only [spn]; omega
  · have := la_le (g := g) (n := n) (i := i)
    simp only [spn]; omega
  · have h1 := la_le (g := g) (n := n) (i := i)
    have h2 : t < kb g n (pw n) := by simp only [spn] at ht; omega
    obtain ⟨u, hu, e1⟩ := first_all hn hg h h2
    obtain ⟨v, hv, e2⟩ := last_all hn hg ho h h2
    refine ⟨⟨u, hu, ?_⟩, v, hv, ?_⟩
    · simp only [spn]; rw [e1]
    · simp only [spn]; rw [e2]; omega

set_option maxHeartbeats 2000000 in
theorem ends_any (a : Option Addr) (n cap : Nat) (p : Nat → Int × Int) (w : World) (h10 : n ≤ 10) (hE : EndsOk p n) (hr : PRow w a n p) :
    Calls Try.prog 25 #[.slice a n cap] w fun e w' => e = .returned (.bool true) ∧ Below w.heap.size w w' := by
  have HR : Hid (PRow w a n p) := hr
  have HE : Hid (EndsOk p n) := hE
  clear hr hE
  go_enter Try.func25, Try.ntmps25
  go_wp2_with fail
  go_loopw [3, 4] (fun m i wx => ∃ (k : Nat) (M : Int), k ≤ n ∧ i = .int .i64 k ∧ m = .int .i64 M ∧ -1 ≤ M ∧ M ≤ 1000 ∧ Hid (M = -1 ∨ ∃ j, j < n ∧ M = (p j).2) ∧ Hid (PRow wx a n p) ∧ Hid (Below w.heap.size w wx)) (fun _ i _ => n - (intOf i).toNat)
  case atStart => exact ⟨0, -1, Nat.zero_le _, rfl, rfl, by omega, by omega, .inl rfl, HR.out, Below.refl _ _⟩
  case round =>
    obtain ⟨k, M, hk, rfl, rfl, hM1, hM2, HM, HP, HB⟩ := hrel
    by_cases hlt : k < n
    · obtain ⟨b, off, rfl, c0, c1⟩ := HP.out k hlt
      obtain ⟨q1, q2, q3⟩ := HE.out.1 k hlt
      obtain ⟨X, HX⟩ : ∃ X, Hid ((p k).1 = X) := ⟨_, rfl⟩
      obtain ⟨Y, HY⟩ : ∃ Y, Hid ((p k).2 = Y) := ⟨_, rfl⟩
      rw [HX.out] at c0 q1 q2
      rw [HY.out] at c1 q2 q3
      have d1 : decide (X < 0) = false := by simp; omega
      have d2 : decide (X > Y) = false := by simp; omega
      have d2' : decide (Y < X) = false := by simp; omega
      have d3 : decide (Y > 1000) = false := by simp; omega
      have d3' : decide (1000 < Y) = false := by simp; omega
      have HM2 : Hid (max M Y = -1 ∨ ∃ j, j < n ∧ max M Y = (p j).2) := by
        rcases Int.le_total M Y with h | h
        · rw [Int.max_eq_right h]; exact .inr ⟨k, hlt, HY.out.symm⟩
        · rw [Int.max_eq_left h]; exact HM.out
      have HPd : Hid (∀ nq, PRow (wr.drewN nq) (some ⟨b, off, none⟩) n p) := fun nq => HP.out
      have HBd : Hid (∀ nq, Below w.heap.size w (wr.drewN nq)) := fun nq => below_drewN HB.out _
      clear HM HP HB HX HY
      go_wp2_with fail
      go_quiet (fail)
      go_wp2_with fail
      go_roundw
      case rel => exact ⟨k + 1, max M Y, by omega, by go_num, by first | rfl | (simp; omega) | (congr 1), by omega, by omega, HM2.out, HPd.out nq, HBd.out nq⟩
      case measure => simp [intOf]; omega
    · obtain rfl : k = n := by omega
      go_wp2_with fail
      have HP0 : Hid (PRow wr a k p) := HP.out
      have HB0 : Hid (Below w.heap.size w wr) := HB.out
      clear HP HB
      go_loopw [5] (fun i wx => ∃ t : Nat, (t : Int) ≤ M + 1 ∧ i = .int .i64 t ∧ Hid (PRow wx a k p) ∧ Hid (Below w.heap.size w wx)) (fun i _ => (M + 1).toNat - (intOf i).toNat)
      case atStart => exact ⟨0, by omega, rfl, HP0.out, HB0.out⟩
      case round =>
        clear HP0 HB0
        obtain ⟨t, ht, rfl, HP, HB⟩ := hrel
        by_cases htl : (t : Int) ≤ M
        · have HY : Hid (anyTo (fun i => decide ((p i).1 = t)) k = true ∧ anyTo (fun i => decide ((p i).2 = t)) k = true) := by
            obtain ⟨⟨i, hi, h1⟩, j, hj, h2⟩ := HE.out.2 t (by
              rcases HM.out with e | ⟨j, hj, e⟩
              · omega
              · exact ⟨j, hj, by omega⟩)
            exact ⟨anyTo_yes (decide_eq_true h1) k hi, anyTo_yes (decide_eq_true h2) k hj⟩
          go_wp2_with fail
          have HP0 : Hid (PRow wr a k p) := HP.out
          have HB0 : Hid (Below w.heap.size w wr) := HB.out
          clear HP HB
          go_loopw [6, 7, 8] (fun x y i wx => ∃ j : Nat, j ≤ k ∧ i = .int .i64 j ∧ x = .bool (anyTo (fun i => decide ((p i).1 = t)) j) ∧ y = .bool (anyTo (fun i => decide ((p i).2 = t)) j) ∧ Hid (PRow wx a k p) ∧ Hid (Below w.heap.size w wx)) (fun _ _ i _ => k - (intOf i).toNat)
          case atStart => exact ⟨0, Nat.zero_le _, rfl, rfl, rfl, HP0.out, HB0.out⟩
          case round =>
            clear HP0 HB0
            obtain ⟨j, hj, rfl, rfl, rfl, HP, HB⟩ := hrel
            by_cases hjl : j < k
            · obtain ⟨b, off, rfl, c0, c1⟩ := HP.out j hjl
              have HS : Hid (anyTo (fun i => decide ((p i).1 = t)) (j + 1) = (anyTo (fun i => decide ((p i).1 = t)) j || decide ((p j).1 = t)) ∧ anyTo (fun i => decide ((p i).2 = t)) (j + 1) = (anyTo (fun i => decide ((p i).2 = t)) j || decide ((p j).2 = t))) := ⟨rfl, rfl⟩
              generalize anyTo (fun i => decide ((p i).1 = t)) j = x0 at *
              generalize anyTo (fun i => decide ((p i).2 = t)) j = y0 at *
              generalize (p j).1 = X at c0 HS
              generalize (p j).2 = Y at c1 HS
              have hX : (X == (t : Int)) = decide (X = t) := by rw [Bool.eq_iff_iff]; simp
              have hY : (Y == (t : Int)) = decide (Y = t) := by rw [Bool.eq_iff_iff]; simp
              generalize decide (X = t) = x1 at *
              generalize decide (Y = t) = y1 at *
              have HPx : Hid (PRow wr (some ⟨b, off, none⟩) k p) := HP.out
              clear HP
              rcases x0 with _ | _ <;> rcases y0 with _ | _
              all_goals
                go_wp2_with fail
                go_roundw
                case rel => exact ⟨j + 1, by omega, by go_num, by rw [HS.out.1]; simp [*], by rw [HS.out.2]; simp [*], HPx.out, HB.out⟩
                case measure => simp [intOf]; omega
            · obtain rfl : j = k := by omega
              rw [HY.out.1, HY.out.2]
              go_wp2_with fail
              go_roundw
              case rel => exact ⟨t + 1, by omega, by go_num, HP.out, HB.out⟩
              case measure => simp [intOf]; omega
        · have htl' : M < (t : Int) := by omega
          go_wp2_with fail
          go_ret
          exact ⟨rfl, HB.out⟩
end Go.Proofs.Ytkknfnjhpamfbaa
