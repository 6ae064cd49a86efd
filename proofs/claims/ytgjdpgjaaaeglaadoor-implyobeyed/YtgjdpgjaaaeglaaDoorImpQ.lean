/-
  What the reference's Inside, Obeys, ObeysAll and CloseSet answer, and hasselaw.numberIs and isSet. Conditions: as each theorem says.
-/
import Derived.Test.YtgjdpgjaaaeglaaDoorImpB
namespace Go.Proofs.YtgjdpgjaaaeglaaDoor
open Go.RowKit

theorem hv_bits {a k : Nat} (h : hv a k = 0) (i : Nat) (hi : k ≤ i) : a.testBit i = false := by
  have h2 : hv a i = 0 := by
    obtain ⟨d, rfl⟩ : ∃ d, i = k + d := ⟨i - k, by omega⟩
    unfold hv at h ⊢
    rw [Nat.pow_add, ← Nat.div_div_eq_div_mul, h, Nat.zero_div]
  rw [hv_bit, h2]; rfl
theorem inside_any (a b : Nat) (w : World) (ha : a < 9223372036854775808) (hb : b < 9223372036854775808) :
    Calls Tryd.prog 32 #[.int .i64 a, .int .i64 b] w fun e w' => e = .returned (.bool (lack a b == 0)) ∧ w = w' := by
  have HZ : Hid (lack a b = 0 ↔ ∀ i, a.testBit i = true → b.testBit i = true) := lack_zero a b (by omega) (by omega)
  obtain ⟨Q, HQ⟩ : ∃ Q, Hid (Q = (lack a b == 0)) := ⟨_, rfl⟩
  rw [← HQ.out]
  go_enter Tryd.func32, Tryd.ntmps32
  go_wp2
  go_loop [0, 1] (fun s t => ∃ k : Nat, s = .int .i64 (hv a k : Nat) ∧ t = .int .i64 (hv b k : Nat) ∧ Hid (∀ i, i < k → a.testBit i = true → b.testBit i = true)) (fun s _ => (intOf s).toNat)
  case atStart => exact ⟨0, by rw [hv_zero], by rw [hv_zero], upto_zero⟩
  case round =>
    obtain ⟨k, rfl, rfl, hok⟩ := hrel
    have hl := hv_le a k
    have hl2 := hv_le b k
    have h1 : (((hv a k : Nat) : Int) % 2 == 1) = a.testBit k := by rw [hv_bit, Bool.eq_iff_iff]; simp; omega
    have h2 : (((hv b k : Nat) : Int) % 2 == 0) = !b.testBit k := by rw [hv_bit, Bool.eq_iff_iff]; simp; omega
    by_cases hp : 0 < hv a k
    · have HA : Hid (hv a (k + 1) = hv a k / 2) := hv_succ a k
      have HB : Hid (hv b (k + 1) = hv b k / 2) := hv_succ b k
      cases ba : a.testBit k
      · rw [ba] at h1
        clear h2
        go_wp2
        go_round
        case rel => exact ⟨k + 1, by rw [HA.out]; simp, by rw [HB.out]; simp, upto_succ hok.out (fun h => by rw [ba] at h; cases h)⟩
        case measure => simp [intOf]; omega
      · rw [ba] at h1
        cases bb : b.testBit k
        · rw [bb] at h2
          have hne : ¬ lack a b = 0 := fun h => by have := HZ.out.1 h k ba; rw [bb] at this; cases this
          have HN : Hid (Q = false) := HQ.out.trans (by simpa using hne)
          clear hne
          go_wp2
          go_ret
          exact ⟨ret_bool HN.out.symm, rfl⟩
        · rw [bb] at h2
          go_wp2
          go_round
          case rel => exact ⟨k + 1, by rw [HA.out]; simp, by rw [HB.out]; simp, upto_succ hok.out (fun _ => bb)⟩
          case measure => simp [intOf]; omega
    · have h0 : hv a k = 0 := by omega
      have hz : lack a b = 0 := HZ.out.2 fun i hi => by
        rcases Nat.lt_or_ge i k with h | h
        · exact hok.out i h hi
        · rw [hv_bits h0 i h] at hi; cases hi
      have HN : Hid (Q = true) := HQ.out.trans (by simp [hz])
      clear h1 h2 hz
      go_wp2
      go_ret
      exact ⟨ret_bool HN.out.symm, rfl⟩
theorem obeysR_any (s x y : Nat) (w : World) (hs : s < 1024) (hx : x < 1024) (hy : y < 1024) :
    Calls Tryd.prog 24 #[.int .i64 (s : Nat), .agg #[.int .i64 (x : Nat), .int .i64 (y : Nat)]] w fun e w' => e = .returned (.bool (obe s (x, y))) ∧ Below w.heap.size w w' := by
  have HB : Hid (∀ o, Below w.heap.size w (w.alloc o)) := fun o => (Below.refl _ _).alloc (Nat.le_refl _) o
  rcases (Bool.eq_false_or_eq_true (lack x s == 0)).symm with h | h
  · have HE : Hid (obe s (x, y) = true) := by simp [Hid, obe, h]
    go_enter Tryd.func24, Tryd.ntmps24
    go_wp2_with fail
    refine (inside_any x s _ (by omega) (by omega)).mono ?_
    rintro e w' ⟨rfl, rfl⟩
    rw [h]
    go_wp2_with fail
    go_ret
    exact ⟨by rw [HE.out]; rfl, HB.out _⟩
  · have HE : Hid (obe s (x, y) = (lack y s == 0)) := by simp [Hid, obe, h]
    go_enter Tryd.func24, Tryd.ntmps24
    go_wp2_with fail
    refine (inside_any x s _ (by omega) (by omega)).mono ?_
    rintro e w' ⟨rfl, rfl⟩
    rw [h]
    go_wp2_with fail
    refine (inside_any y s _ (by omega) (by omega)).mono ?_
    rintro e w' ⟨rfl, rfl⟩
    go_wp2_with fail
    go_ret
    exact ⟨by rw [HE.out]; rfl, HB.out _⟩

set_option maxHeartbeats 1000000 in
theorem obeysAll_any (s : Nat) (R : List (Nat × Nat)) (a : Option Addr) (q cap : Nat) (w : World) (hs : s < 1024) (hq : q = R.length) (h60 : q ≤ 60) (hR : ∀ k, k < q → (R.getD k (0, 0)).1 < 1024 ∧ (R.getD k (0, 0)).2 < 1024) (hr : PRow w a q (pairAt R)) :
    Calls Tryd.prog 23 #[.int .i64 (s : Nat), .slice a q cap] w fun e w' => e = .returned (.bool (R.all (obe s))) ∧ Below w.heap.size w w' := by
  have HR : Hid (∀ w', Below w.heap.size w w' → PRow w' a q (pairAt R)) := fun w' h => hr.below h
  have HRI : Hid (∀ k, k < q → (R.getD k (0, 0)).1 < 1024 ∧ (R.getD k (0, 0)).2 < 1024) := hR
  have HQ : Hid (q = R.length) := hq
  clear hr hR hq
  go_enter Tryd.func23, Tryd.ntmps23
  go_wp2_with fail
  go_loopw [5] (fun i wx => ∃ k : Nat, k ≤ q ∧ i = .int .i64 k ∧ Hid (∀ j, j < k → obe s (R.getD j (0, 0)) = true) ∧ Hid (Below w.heap.size w wx)) (fun i _ => q - (intOf i).toNat)
  case atStart => exact ⟨0, Nat.zero_le _, rfl, upto_zero, Below.refl _ _⟩
  case round =>
    obtain ⟨k, hk, rfl, hok, hB⟩ := hrel
    by_cases hlt : k < q
    · obtain ⟨b, off, rfl, c1, c2⟩ := HR.out _ hB.out k hlt
      have hlt' : (k : Int) < (q : Int) := by omega
      obtain ⟨r, HRR⟩ : ∃ r, Hid (r = R.getD k (0, 0)) := ⟨_, rfl⟩
      obtain ⟨g1, g2⟩ := HRI.out k hlt
      rw [← HRR.out] at g1 g2
      have d1 : wr.cell? ⟨b, off + k * 2, none⟩ = some (.int .i64 (r.1 : Nat)) := by rw [c1, HRR.out]; rfl
      have d2 : wr.cell? ⟨b, off + k * 2 + 1, none⟩ = some (.int .i64 (r.2 : Nat)) := by rw [c2, HRR.out]; rfl
      clear c1 c2
      rcases (Bool.eq_false_or_eq_true (obe s r)).symm with ho | ho
      · have HE : Hid (R.all (obe s) = false) := not_all_getD (by rw [← HQ.out]; exact hlt) (by rw [← HRR.out]; exact ho)
        go_wp2_with fail
        refine (obeysR_any s r.1 r.2 _ hs g1 g2).mono ?_
        rintro e w2 ⟨rfl, hb2⟩
        rw [show obe s (r.1, r.2) = false from ho]
        have HB2 : Hid (Below w.heap.size w w2) := Below.then hB.out hb2
        clear hb2 d1 d2
        go_wp2_with fail
        go_ret
        exact ⟨by rw [HE.out]; rfl, HB2.out⟩
      · have HOK : Hid (∀ j, j < k + 1 → obe s (R.getD j (0, 0)) = true) := upto_succ hok.out (by rw [← HRR.out]; exact ho)
        go_wp2_with fail
        refine (obeysR_any s r.1 r.2 _ hs g1 g2).mono ?_
        rintro e w2 ⟨rfl, hb2⟩
        rw [show obe s (r.1, r.2) = true from ho]
        have HB2 : Hid (Below w.heap.size w w2) := Below.then hB.out hb2
        clear hb2 d1 d2
        go_wp2_with fail
        go_roundw
        case rel => exact ⟨k + 1, by omega, by go_num, HOK, HB2⟩
        case measure => simp [intOf]; omega
    · have hkq : k = q := by omega
      have HE : Hid (R.all (obe s) = true) := all_getD (fun j hj => hok.out j (by rw [← HQ.out] at hj; omega))
      have hle : (q : Int) ≤ (k : Int) := by omega
      go_wp2_with fail
      go_ret
      exact ⟨by rw [HE.out]; rfl, hB.out⟩

theorem fil_mem (I : Nat → Bool) : ∀ k x, x ∈ fil I k ↔ x < k ∧ I x = true
  | 0, x => by simp [fil]
  | k + 1, x => by
    have ih := fil_mem I k x
    cases h : I k
    · rw [fil_no h, ih]
      constructor
      · rintro ⟨a, b⟩; exact ⟨by omega, b⟩
      · rintro ⟨a, b⟩
        have : x ≠ k := fun e => by rw [e, h] at b; cases b
        exact ⟨by omega, b⟩
    · rw [fil_yes h, List.mem_append, ih, List.mem_singleton]
      constructor
      · rintro (⟨a, b⟩ | rfl)
        · exact ⟨by omega, b⟩
        · exact ⟨by omega, h⟩
      · rintro ⟨a, b⟩
        by_cases e : x = k
        · exact .inr e
        · exact .inl ⟨by omega, b⟩
/-- The sets that have all of s and obey the rules. -/
def inB (R : List (Nat × Nat)) (s y : Nat) : Bool := (lack s y == 0) && R.all (obe y)
theorem clo_list (R : List (Nat × Nat)) (n s : Nat) : clo R n s = setBy (fun i => allB (fun k => (nth (fil (inB R s) (pw n)) k).testBit i) (fil (inB R s) (pw n)).length) n := by
  refine setBy_congr n (fun i _ => ?_)
  rw [Bool.eq_iff_iff, allB_iff, allB_iff]
  constructor
  · intro h k hk
    have hm : nth (fil (inB R s) (pw n)) k ∈ fil (inB R s) (pw n) := by unfold nth; exact getD_mem 0 hk
    obtain ⟨h1, h2⟩ := (fil_mem _ _ _).1 hm
    have h3 := h _ h1
    generalize nth (fil (inB R s) (pw n)) k = y at *
    unfold inB at h2
    rw [Bool.and_eq_true] at h2
    rw [h2.1, h2.2] at h3
    simpa using h3
  · intro h y hy
    cases e : inB R s y
    · unfold inB at e
      cases e1 : lack s y == 0
      · rfl
      · rw [e1, Bool.true_and] at e
        rw [e]; rfl
    · have hm : y ∈ fil (inB R s) (pw n) := (fil_mem _ _ _).2 ⟨hy, e⟩
      obtain ⟨k, hk, e2⟩ := List.getElem_of_mem hm
      have := h k hk
      have e3 : nth (fil (inB R s) (pw n)) k = y := by unfold nth; rw [List.getD_eq_getElem?_getD, List.getElem?_eq_getElem hk, e2]; rfl
      rw [e3] at this
      rw [this]; simp
theorem fil_lt {I : Nat → Bool} {K k : Nat} (hk : k < (fil I K).length) : nth (fil I K) k < K := ((fil_mem I K _).1 (by unfold nth; exact getD_mem 0 hk)).1

end Go.Proofs.YtgjdpgjaaaeglaaDoor
