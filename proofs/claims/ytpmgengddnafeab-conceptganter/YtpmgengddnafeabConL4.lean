/-
  What the reference's Lectic and NextMarks answer; for every context and set that are handed in hasselaw.ConceptNexts returns true, and writes nothing that was there. No condition on the last.
-/
import Derived.Test.YtpmgengddnafeabConB
import Derived.Test.YtpmgengddnafeabNxtM
namespace Go.Proofs.Ytpmgengddnafeab
open Go.RowKit

set_option maxHeartbeats 1000000 in
theorem lectic_any (a b : Nat) (w : World) (ha : a < 1024) (hb : b < 1024) :
    Calls Try.prog 11 #[.int .i64 a, .int .i64 b] w fun e w' => Ans e (Lec a b) ∧ w = w' := by
  go_enter Try.func11, Try.ntmps11
  go_wp2_with fail
  go_loop [5] (fun i => ∃ k : Nat, k ≤ 10 ∧ i = .int .i64 k ∧ Hid (∀ j, j < k → a.testBit j = b.testBit j)) (fun i => 10 - (intOf i).toNat)
  case atStart => exact ⟨0, Nat.zero_le _, rfl, upto_zero⟩
  case round =>
    obtain ⟨k, hk, rfl, hok⟩ := hrel
    by_cases hlt : k < 10
    · have hlt' : (k : Int) < 10 := by omega
      rcases (Bool.eq_false_or_eq_true (a.testBit k)).symm with h1 | h1
      · rcases (Bool.eq_false_or_eq_true (b.testBit k)).symm with h2 | h2
        · have HE : Hid (a.testBit k = b.testBit k) := by rw [Hid, h1, h2]
          go_wp2_with fail
          refine (in_any a k _ (by omega) (by omega)).mono ?_
          rintro e w' ⟨rfl, rfl⟩
          rw [h1]
          go_wp2_with fail
          refine (in_any b k _ (by omega) (by omega)).mono ?_
          rintro e w' ⟨rfl, rfl⟩
          rw [h2]
          go_wp2_with fail
          go_round
          case rel => exact ⟨k + 1, by omega, by go_num, upto_succ hok.out HE.out⟩
          case measure => simp [intOf]; omega
        · have HL : Hid (Lec a b) := ⟨k, hlt, hok.out, h1, h2⟩
          go_wp2_with fail
          refine (in_any a k _ (by omega) (by omega)).mono ?_
          rintro e w' ⟨rfl, rfl⟩
          rw [h1]
          go_wp2_with fail
          refine (in_any b k _ (by omega) (by omega)).mono ?_
          rintro e w' ⟨rfl, rfl⟩
          rw [h2]
          go_wp2_with fail
          refine (in_any b k _ (by omega) (by omega)).mono ?_
          rintro e w' ⟨rfl, rfl⟩
          rw [h2]
          go_wp2_with fail
          go_ret
          exact ⟨Ans.yes HL.out, rfl⟩
      · rcases (Bool.eq_false_or_eq_true (b.testBit k)).symm with h2 | h2
        · have HL : Hid (¬ Lec a b) := fun h => h.asymm ⟨k, hlt, fun j hj => (hok.out j hj).symm, h2, h1⟩
          go_wp2_with fail
          refine (in_any a k _ (by omega) (by omega)).mono ?_
          rintro e w' ⟨rfl, rfl⟩
          rw [h1]
          go_wp2_with fail
          refine (in_any b k _ (by omega) (by omega)).mono ?_
          rintro e w' ⟨rfl, rfl⟩
          rw [h2]
          go_wp2_with fail
          refine (in_any b k _ (by omega) (by omega)).mono ?_
          rintro e w' ⟨rfl, rfl⟩
          rw [h2]
          go_wp2_with fail
          go_ret
          exact ⟨Ans.no HL.out, rfl⟩
        · have HE : Hid (a.testBit k = b.testBit k) := by rw [Hid, h1, h2]
          go_wp2_with fail
          refine (in_any a k _ (by omega) (by omega)).mono ?_
          rintro e w' ⟨rfl, rfl⟩
          rw [h1]
          go_wp2_with fail
          refine (in_any b k _ (by omega) (by omega)).mono ?_
          rintro e w' ⟨rfl, rfl⟩
          rw [h2]
          go_wp2_with fail
          go_round
          case rel => exact ⟨k + 1, by omega, by go_num, upto_succ hok.out HE.out⟩
          case measure => simp [intOf]; omega
    · obtain rfl : k = 10 := by omega
      have HL : Hid (¬ Lec a b) := by
        rintro ⟨i, hi, _, h2, h3⟩
        have := hok.out i hi
        rw [h2, h3] at this; cases this
      go_wp2_with fail
      go_ret
      exact ⟨Ans.no HL.out, rfl⟩

/-- The best of the first k sets that come behind s. -/
def Bst (x : Nat → Nat) (s k : Nat) (v : Int) : Prop :=
  (v = -1 ∧ ∀ i, i < k → ¬ Lec s (x i)) ∨ ∃ i, i < k ∧ v = (x i : Nat) ∧ Lec s (x i) ∧ ∀ j, j < k → Lec s (x j) → ¬ Lec (x j) (x i)
theorem Bst.keep {x : Nat → Nat} {s k : Nat} {v : Int} (h : Bst x s k v) (hn : ¬ Lec s (x k)) : Bst x s (k + 1) v := by
  rcases h with ⟨rfl, h⟩ | ⟨i, hi, rfl, h1, h2⟩
  · exact .inl ⟨rfl, upto_succ h hn⟩
  · exact .inr ⟨i, by omega, rfl, h1, upto_succ h2 (fun h => absurd h hn)⟩
theorem Bst.first {x : Nat → Nat} {s k : Nat} (h : ∀ i, i < k → ¬ Lec s (x i)) (hn : Lec s (x k)) : Bst x s (k + 1) (x k : Nat) :=
  .inr ⟨k, by omega, rfl, hn, upto_succ (P := fun j => Lec s (x j) → ¬ Lec (x j) (x k)) (fun j hj h' => absurd h' (h j hj)) (fun _ h => h.irrefl)⟩
theorem Bst.better {x : Nat → Nat} {s k i : Nat} (h2 : ∀ j, j < k → Lec s (x j) → ¬ Lec (x j) (x i)) (hn : Lec s (x k)) (hb : Lec (x k) (x i)) : Bst x s (k + 1) (x k : Nat) :=
  .inr ⟨k, by omega, rfl, hn, upto_succ (P := fun j => Lec s (x j) → ¬ Lec (x j) (x k)) (fun j hj h' h'' => h2 j hj h' (h''.trans hb)) (fun _ h => h.irrefl)⟩
theorem Bst.worse {x : Nat → Nat} {s k i : Nat} (hi : i < k) (h1 : Lec s (x i)) (h2 : ∀ j, j < k → Lec s (x j) → ¬ Lec (x j) (x i)) (hb : ¬ Lec (x k) (x i)) : Bst x s (k + 1) (x i : Nat) :=
  .inr ⟨i, by omega, rfl, h1, upto_succ (P := fun j => Lec s (x j) → ¬ Lec (x j) (x i)) h2 (fun _ => hb)⟩

/-- The marks of the concepts, by their places. -/
def ints (h : Nat → Nat) (n m k : Nat) : Nat := ((cons h n m).getD k (0, 0)).2
theorem getD_mem {α : Type} {l : List α} {i : Nat} (d : α) (h : i < l.length) : l.getD i d ∈ l := by
  rw [List.getD_eq_getElem?_getD, List.getElem?_eq_getElem h]
  exact List.getElem_mem h
theorem ints_at {h : Nat → Nat} {n m k : Nat} (h10 : n ≤ 10) (m10 : m ≤ 10) (hh : ∀ k, k < n → h k < 1024) (hk : k < (cons h n m).length) : ints h n m k < pw m ∧ clm h n m (ints h n m k) = ints h n m k :=
  (intent_iff h10 m10 hh).1 ⟨((cons h n m).getD k (0, 0)).1, getD_mem _ hk⟩
theorem ints_all {h : Nat → Nat} {n m y : Nat} (h10 : n ≤ 10) (m10 : m ≤ 10) (hh : ∀ k, k < n → h k < 1024) (hy : y < pw m) (hc : clm h n m y = y) : ∃ k, k < (cons h n m).length ∧ ints h n m k = y := by
  obtain ⟨x, hx⟩ := (intent_iff h10 m10 hh).2 ⟨hy, hc⟩
  obtain ⟨k, hk, e⟩ := List.getElem_of_mem hx
  refine ⟨k, hk, ?_⟩
  unfold ints
  rw [List.getD_eq_getElem?_getD, List.getElem?_eq_getElem hk, e]; rfl
/-- The best of all is what nxt finds. -/
theorem bst_nxt {h : Nat → Nat} {n m s : Nat} {v : Int} (h10 : n ≤ 10) (m10 : m ≤ 10) (hh : ∀ k, k < n → h k < 1024) (hb : Bst (ints h n m) s (cons h n m).length v) :
    (nxt (clm h n m) s m = none ∧ v = -1) ∨ ∃ x : Nat, nxt (clm h n m) s m = some x ∧ v = (x : Nat) := by
  obtain ⟨hS, hN⟩ := nxt_is (s := s) (clm_closing h10 m10 hh) m10
  cases e : nxt (clm h n m) s m with
  | none =>
    refine .inl ⟨rfl, ?_⟩
    rcases hb with ⟨rfl, _⟩ | ⟨i, hi, _, h1, _⟩
    · rfl
    · obtain ⟨g1, g2⟩ := ints_at h10 m10 hh hi
      exact absurd h1 (hN e _ g1 g2)
  | some x =>
    obtain ⟨h1, h2, h3, h4⟩ := hS x e
    refine .inr ⟨x, rfl, ?_⟩
    obtain ⟨k, hk, rfl⟩ := ints_all h10 m10 hh h1 h2
    rcases hb with ⟨_, hb⟩ | ⟨i, hi, rfl, g1, g2⟩
    · exact absurd h3 (hb k hk)
    · obtain ⟨q1, q2⟩ := ints_at h10 m10 hh hi
      by_cases en : ints h n m i = ints h n m k
      · rw [en]
      · rcases Lec.total (set_1024 m10 q1) (set_1024 m10 h1) en with l | l
        · exact absurd l (h4 _ q1 q2 g1)
        · exact absurd l (g2 k hk h3)

end Go.Proofs.Ytpmgengddnafeab
