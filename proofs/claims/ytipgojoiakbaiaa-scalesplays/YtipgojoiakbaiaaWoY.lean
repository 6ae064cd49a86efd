/-
  What scales.weigh and row answer. Conditions: at most five points; a row.
-/
import Derived.Test.YtipgojoiakbaiaaWoJ
import Derived.Test.YtipgojoiakbaiaaWoC
namespace Go.Proofs.Ytipgojoiakbaiaa
open Go.RowKit
set_option maxRecDepth 100000

set_option maxHeartbeats 2000000 in
theorem weigh_any (n : Nat) (ar : Option Addr) (cr : Nat) (f : Nat → Int) (u : Nat → Nat) (x y : Nat) (w : World) (hn : n ≤ 10) (hr : Row w ar n f) (hrow : RowTo u n f n) (hx : x < n) (hne : x ≠ y) :
    Calls Try.prog 36 #[.slice ar n cr, .int .i64 (x : Nat), .int .i64 (y : Nat)] w fun e w' => (∃ p q : Nat, e = .returned (.tuple #[.int .i64 (p : Nat), .int .i64 (q : Nat)]) ∧ ((p = x ∧ q = y) ∨ (p = y ∧ q = x)) ∧ Ahd f n p q) ∧ Below w.heap.size w w' := by
  have HRW : Hid (Row w ar n f) := hr
  have HEX : Hid (∃ j, j < n ∧ f j = (x : Int)) := by
    obtain ⟨j, hj, e⟩ := row_all hrow hx
    exact ⟨j, hj, by rw [(row_lt hrow hj).2, e]⟩
  clear hr hrow
  go_enter Try.func36, Try.ntmps36
  go_wp2_with fail
  go_loopw [12] (fun z wx => ∃ k : Nat, k ≤ n ∧ z = .int .i64 k ∧ Hid (∀ j, j < k → f j ≠ (x : Int) ∧ f j ≠ (y : Int)) ∧ wx = w) (fun z _ => n - (intOf z).toNat)
  case atStart => exact ⟨0, Nat.zero_le _, rfl, fun j hj => absurd hj (Nat.not_lt_zero _), rfl⟩
  case round =>
    obtain ⟨k, hk, rfl, hok, rfl⟩ := hrel
    by_cases hkn : k < n
    · have hkni : (k : Int) < (n : Int) := by omega
      obtain ⟨br, orr, rfl, hc⟩ := HRW.out.at hkn
      have ck := hc k hkn
      clear hc
      by_cases hy1 : f k = (y : Int)
      · have HA : Hid (Ahd f n y x) := ⟨k, hkn, hy1, fun j hj => by
          by_cases e : j = k
          · subst e; rw [hy1]; omega
          · exact (hok.out j (by omega)).1⟩
        rw [hy1] at ck
        clear hy1
        go_wp2_with fail
        go_ret2
        exact ⟨⟨y, x, rfl, .inr ⟨rfl, rfl⟩, HA.out⟩, Below.refl _ _⟩
      · have hyd : (f k == (y : Int)) = false := by simpa using hy1
        by_cases hx1 : f k = (x : Int)
        · have HA : Hid (Ahd f n x y) := ⟨k, hkn, hx1, fun j hj => by
            by_cases e : j = k
            · subst e; rw [hx1]; omega
            · exact (hok.out j (by omega)).2⟩
          rw [hx1] at ck hyd
          clear hx1 hy1
          go_wp2_with fail
          go_ret2
          exact ⟨⟨x, y, rfl, .inl ⟨rfl, rfl⟩, HA.out⟩, Below.refl _ _⟩
        · have hxd : (f k == (x : Int)) = false := by simpa using hx1
          have HO2 : Hid (∀ j, j < k + 1 → f j ≠ (x : Int) ∧ f j ≠ (y : Int)) := upto_succ hok.out ⟨hx1, hy1⟩
          clear hx1 hy1
          go_wp2_with fail
          go_roundw
          case rel => exact ⟨k + 1, by omega, by go_num, HO2, by trivial⟩
          case measure => simp [intOf]; omega
    · exfalso
      obtain ⟨j, hj, e⟩ := HEX.out
      exact (hok.out j (by omega)).1 e
set_option maxHeartbeats 2000000 in
theorem krow_any (n : Nat) (g : Nat → Nat) (f : Nat → Int) (w : World) (hg : WOk n g) (hl : Lin n g) (hr : IsRw g n n f) :
    Calls Try.prog 38 #[.agg (kva g), .int .i64 (n : Nat)] w fun e w' => (∃ a cap, e = .returned (.slice a n cap) ∧ Row w' a n f ∧ Fresh w.heap.size a n) ∧ Below w.heap.size w w' := by
  obtain ⟨i0, hi, hz0, hz1, hz2⟩ := info_parts Try.info3
  have hn5 := hg.n5
  have HKB : Hid (KB (w.alloc (.cells (kva g) 62)) w.heap.size g) := KB.box w g
  have HB0 : Hid (Below w.heap.size w (w.alloc (.cells (kva g) 62))) := (Below.refl _ _).alloc (Nat.le_refl _) _
  have HG : Hid (WOk n g) := hg
  have HL : Hid (Lin n g) := hl
  have HR : Hid (IsRw g n n f) := hr
  clear hg hl hr
  obtain ⟨W0, HW0⟩ : ∃ W0, Hid (w.alloc (.cells (kva g) 62) = W0) := ⟨_, rfl⟩
  have HS0 : Hid (W0.heap.size = w.heap.size + 1) := by rw [← HW0.out]; show _ = _; simp
  rw [HW0.out] at HKB HB0
  go_enter Try.func38, Try.ntmps38
  generalize hC : Code.region 1 _ false = C
  go_wp2_with fail
  rw [HW0.out, ← hC]
  clear hC C HW0
  go_wp2_with (at_make; refine wpList_make_full _ rfl _ _ 22 rfl W0.heap.size 3 i0 (.int .i64 0) 1 Try.underlying22 hi hz0 hz1 .i64 .i64 _ _ n rfl rfl rfl rfl (by rw [hz2]; omega) (by unfold maxLen; omega) (Nat.le_refl _) ?_; intro w1 hown1 hgrow1)
  have HB1 : Hid (Below W0.heap.size W0 w1) := (Below.refl _ _).grown hgrow1 (Nat.le_refl _) (by simp)
  have HO1 : Hid (Own w1 W0.heap.size n (rwm f 0)) := by rw [rwm_zero]; exact own_made hown1
  clear hown1 hgrow1 hi hz0 hz1 hz2
  go_loopw [10] (fun z wx => ∃ k : Nat, k ≤ n ∧ z = .int .i64 k ∧ Hid (Own wx W0.heap.size n (rwm f k)) ∧ Hid (Below W0.heap.size W0 wx)) (fun z _ => n - (intOf z).toNat)
  case atStart => exact ⟨0, Nat.zero_le _, rfl, HO1, HB1⟩
  case round =>
    clear HO1 HB1
    obtain ⟨k, hk, rfl, hO, hB⟩ := hrel
    by_cases hkn : k < n
    · have hkni : (k : Int) < (n : Int) := by omega
      have hk5 : k < 5 := by omega
      obtain ⟨j, hj, hjk⟩ := row_all HR.out.2 hkn
      have HPC : Hid (pc (g k) = j) := by rw [← hjk]; exact pc_told HG.out HL.out HR.out hj
      have hgk : g k < 1024 := Nat.lt_trans (HG.out.small k) (by decide)
      have ck := ((HKB.out.keep hB.out (by rw [HS0.out]; omega)) k hk5).1
      have oj := hO.out j hj
      have oc := oj.1
      have of := oj.2
      have HO2 : Hid (Own (wr.setCell ⟨W0.heap.size, j, none⟩ (.int .i64 (k : Nat))) W0.heap.size n (rwm f (k + 1))) := (hO.out.set j k hj).congr (rwm_step HR.out.2 hj hjk)
      have HB2 : Hid (Below W0.heap.size W0 (wr.setCell ⟨W0.heap.size, j, none⟩ (.int .i64 (k : Nat)))) := Below.setCell (p := ⟨W0.heap.size, j, none⟩) hB.out (Nat.le_refl _) _
      have hji : (j : Int) < (n : Int) := by omega
      clear hO hB oj hjk
      go_wp2_with fail
      refine (size_any (g k) _ hgk).mono ?_
      rintro e w2 ⟨rfl, rfl⟩
      rw [HPC.out]
      go_wp2_with fail
      go_roundw
      case rel => exact ⟨k + 1, by omega, by go_num, HO2, HB2⟩
      case measure => simp [intOf]; omega
    · obtain rfl : k = n := by omega
      have HRW : Hid (Row wr (some ⟨W0.heap.size, 0, none⟩) k f) := fun j hj => ⟨W0.heap.size, 0, rfl, by
        rw [Nat.zero_add, (hO.out j hj).1, rwm_full HR.out.2 hj, (row_lt HR.out.2 hj).2]⟩
      have HB2 : Hid (Below w.heap.size w wr) := Below.then HB0.out hB.out
      clear hO hB
      go_wp2_with fail
      go_ret
      exact ⟨⟨_, _, rfl, HRW.out, fun _ => ⟨_, _, rfl, by rw [HS0.out]; omega⟩⟩, HB2.out⟩
end Go.Proofs.Ytipgojoiakbaiaa
