/-
  What the reference's Place, IsPermutation, CheckTerm and SameTerm answer. Conditions: as each theorem says.
-/
import Derived.Test.YtjhpegjcknaioaaDoorRfT
import Derived.Test.YtjhpegjcknaioaaDoorTmG
namespace Go.Proofs.YtjhpegjcknaioaaDoor
set_option maxRecDepth 100000
open Go.RowKit

set_option maxHeartbeats 2000000 in
theorem placeI_any (a : Option Addr) (n cap : Nat) (f : Nat → Int) (x : Int) (w : World) (hn : n ≤ maxLen) (hr : Row w a n f) :
    Calls Tryd.prog 60 #[.slice a n cap, .int .i64 x] w fun e w' => (∃ r : Int, e = .returned (.int .i64 r) ∧ ((r < 0 ∧ ∀ i, i < n → f i ≠ x) ∨ (0 ≤ r ∧ ∃ i, i < n ∧ f i = x))) ∧ w = w' := by
  have HR : Hid (Row w a n f) := hr
  have hn' : n ≤ 9223372036854775807 := by unfold maxLen at hn; omega
  clear hr hn
  go_enter Tryd.func60, Tryd.ntmps60
  go_wp2_with fail
  go_loopw [5] (fun t wx => ∃ i : Nat, i ≤ n ∧ t = .int .i64 i ∧ Hid (∀ j, j < i → f j ≠ x) ∧ wx = w) (fun t _ => n - (intOf t).toNat)
  case atStart => exact ⟨0, Nat.zero_le _, rfl, fun j hj => absurd hj (Nat.not_lt_zero _), rfl⟩
  case round =>
    obtain ⟨i, hi, rfl, HN, rfl⟩ := hrel
    by_cases hlt : i < n
    · have hlI : (i : Int) < (n : Int) := by omega
      obtain ⟨b, off, rfl, q⟩ := HR.out i hlt
      by_cases he : f i = x
      · have HF : Hid (∃ i, i < n ∧ f i = x) := ⟨i, hlt, he⟩
        have heB : (f i == x) = true := by simpa using he
        clear he
        go_wp2_with fail
        go_ret
        exact ⟨⟨_, rfl, .inr ⟨by omega, HF.out⟩⟩, rfl⟩
      · have heB : (f i == x) = false := by simpa using he
        have HN2 : Hid (∀ j, j < i + 1 → f j ≠ x) := fun j hj => by
          by_cases e : j = i
          · subst e; exact he
          · exact HN.out j (by omega)
        clear he HN
        go_wp2_with fail
        go_roundw
        case rel => exact ⟨i + 1, by omega, by go_num, HN2.out, trivial⟩
        case measure => simp [intOf]; omega
    · obtain rfl : i = n := by omega
      go_wp2_with fail
      go_ret
      exact ⟨⟨_, rfl, .inl ⟨by omega, HN.out⟩⟩, rfl⟩
set_option maxHeartbeats 2000000 in
theorem isPerm_ok (a : Option Addr) (n cap : Nat) (f : Nat → Int) (w : World) (hn : n ≤ 10) (hr : Row w a n f) (hall : ∀ p, p < n → ∃ i, i < n ∧ f i = (p : Int)) :
    Calls Tryd.prog 34 #[.int .i64 n, .slice a n cap] w fun e w' => e = .returned (.bool true) ∧ w = w' := by
  have HR : Hid (Row w a n f) := hr
  have HA : Hid (∀ p, p < n → ∃ i, i < n ∧ f i = (p : Int)) := hall
  clear hr hall
  go_enter Tryd.func34, Tryd.ntmps34
  go_wp2_with fail
  go_loopw [5] (fun t wx => ∃ i : Nat, i ≤ n ∧ t = .int .i64 i ∧ wx = w) (fun t _ => n - (intOf t).toNat)
  case atStart => exact ⟨0, Nat.zero_le _, rfl, rfl⟩
  case round =>
    obtain ⟨i, hi, rfl, rfl⟩ := hrel
    by_cases hlt : i < n
    · have hlI : (i : Int) < (n : Int) := by omega
      go_wp2_with fail
      refine (placeI_any a n cap f i _ (by unfold maxLen; omega) HR.out).mono ?_
      rintro e w2 ⟨⟨r, rfl, hr⟩, rfl⟩
      have hr0 : ¬ r < 0 := by
        rcases hr with ⟨_, h⟩ | ⟨h, _⟩
        · obtain ⟨j, hj, e⟩ := HA.out i hlt
          exact absurd e (h j hj)
        · omega
      clear hr
      go_wp2_with fail
      go_roundw
      case rel => exact ⟨i + 1, by omega, by go_num, trivial⟩
      case measure => simp [intOf]; omega
    · obtain rfl : i = n := by omega
      go_wp2_with fail
      go_ret
      exact ⟨rfl, rfl⟩
/-- All points of a right term of all points are there. -/
theorem Ok.all {L : Nat → Nat → Bool} {T : TT} {n : Nat} (h : Ok L T) (hs : st T = pw n - 1) : ∀ p, p < n → ∃ i, i < (pl T).length ∧ nthI (pl T) i = (p : Int) := fun p hp => by
  have hm : (p : Int) ∈ pl T := (h.mem _).2 ⟨by omega, by rw [hs, full_bit]; simpa using hp⟩
  obtain ⟨i, hi, e⟩ := List.mem_iff_getElem.1 hm
  exact ⟨i, hi, by unfold nthI; rw [List.getD_eq_getElem?_getD, List.getElem?_eq_getElem hi]; exact e⟩
set_option maxHeartbeats 2000000 in
theorem checkTerm_ok {L : Nat → Nat → Bool} {n : Nat} (T : TT) (v : Value) (w : World) (hT : TRep 0 w T v) (hok : Ok L T) (hn : n ≤ 10) (hs : st T = pw n - 1) :
    Calls Tryd.prog 13 #[v] w fun e w' => e = .returned (.int .i64 0) ∧ Below w.heap.size w w' := by
  obtain ⟨hgt, hnp⟩ := hok.good hn hs
  have hln : (pl T).length = n := by rw [pl_np hgt.2.1]; exact hnp
  obtain ⟨k, x, a, m, c, rfl⟩ : ∃ k x a n c, v = .agg #[.int .i64 k, .int .i64 x, .slice a n c] := by
    induction T using TT.ind with
    | leaf => exact hT.elim
    | mk k x n kid _ => obtain ⟨a, cap, rfl, _⟩ := hT; exact ⟨k, x, a, n, cap, rfl⟩
  obtain ⟨W, HWE⟩ : ∃ W, Hid (W = w.alloc (.cells #[.int .i64 k, .int .i64 x, .slice a m c] 27)) := ⟨_, rfl⟩
  have HB1 : Hid (Below w.heap.size w W) := by rw [HWE.out]; exact (Below.refl _ _).alloc (Nat.le_refl _) _
  have HX : Hid (∀ w', Below W.heap.size W w' → (w'.cell? ⟨w.heap.size, 0, none⟩ = some (.int .i64 k) ∧ w'.cell? ⟨w.heap.size, 1, none⟩ = some (.int .i64 x)) ∧ w'.cell? ⟨w.heap.size, 2, none⟩ = some (.slice a m c)) := fun w' h =>
    ⟨⟨cell_stp h (by rw [HWE.out]; simp), cell_stp h (by rw [HWE.out]; simp)⟩, cell_stp h (by rw [HWE.out]; simp)⟩
  have HTW : Hid (TRep 0 W T (.agg #[.int .i64 k, .int .i64 x, .slice a m c])) := TRep.step HB1.out _ _ hT
  have HSZ : Hid (sz T ≤ 40) := hgt.1.1
  have hszI : ¬ (40 : Int) < ((sz T : Nat) : Int) := by have := HSZ.out; omega
  have HGD : Hid (Gd T ∧ sz T ≤ 40) := ⟨hgt.2.1, hgt.1.1⟩
  have HLN : Hid ((pl T).length = n) := hln
  have HPO : Hid (0 < (pl T).length) := hgt.2.1.pos
  have HAL : Hid (∀ p, p < n → ∃ i, i < n ∧ nthI (pl T) i = (p : Int)) := fun p hp => by have := hok.all hs p hp; rw [hln] at this; exact this
  have hnI : ¬ (10 : Int) < (n : Int) := by omega
  clear hT hok hs hgt hnp hln
  obtain ⟨Z, HZE⟩ : ∃ Z, Hid (sz T = Z) := ⟨_, rfl⟩
  rw [HZE.out] at hszI HSZ
  go_enter Tryd.func13, Tryd.ntmps13
  go_wp2_with fail
  rw [← HWE.out]
  refine (termCount_any T 40 _ _ (by rw [HZE.out]; exact HSZ.out) (by omega) HTW.out).mono ?_
  rw [HZE.out]
  rintro e w2 ⟨rfl, hb2⟩
  have HB2 : Hid (Below W.heap.size W w2) := hb2
  have HT2 : Hid (TRep 0 w2 T (.agg #[.int .i64 k, .int .i64 x, .slice a m c])) := TRep.step hb2 _ _ HTW.out
  obtain ⟨⟨y0, y1⟩, y2⟩ := HX.out _ hb2
  clear hb2
  go_wp2_with fail
  refine (termPoints_any T _ _ HGD.out HT2.out).mono ?_
  rintro e w3 ⟨⟨v3, rfl, hown3⟩, hb3⟩
  have HB3 : Hid (Below W.heap.size W w3) := Below.then HB2.out hb3
  obtain ⟨a3, c3, rfl, _, _⟩ := owns_ints hown3 HPO.out
  rw [HLN.out]
  have HT3 : Hid (TRep 0 w3 T (.agg #[.int .i64 k, .int .i64 x, .slice a m c])) := TRep.step HB3.out _ _ HTW.out
  clear hown3 hb3 HB2 HT2 y0 y1 y2
  obtain ⟨⟨y0, y1⟩, y2⟩ := HX.out _ HB3.out
  go_wp2_with fail
  refine (termWrong_any T _ _ HGD.out.1 HT3.out).mono ?_
  rintro e w4 ⟨rfl, hb4⟩
  have HB4 : Hid (Below W.heap.size W w4) := Below.then HB3.out hb4
  have HT4 : Hid (TRep 0 w4 T (.agg #[.int .i64 k, .int .i64 x, .slice a m c])) := TRep.step HB4.out _ _ HTW.out
  clear hb4 HB3 HT3 y0 y1 y2
  obtain ⟨⟨y0, y1⟩, y2⟩ := HX.out _ HB4.out
  go_wp2_with fail
  refine (termPoints_any T _ _ HGD.out HT4.out).mono ?_
  rintro e w5 ⟨⟨v5, rfl, hown5⟩, hb5⟩
  have HB5 : Hid (Below W.heap.size W w5) := Below.then HB4.out hb5
  obtain ⟨a5, c5, rfl, hr5, _⟩ := owns_ints hown5 HPO.out
  rw [HLN.out] at hr5 ⊢
  have HR5 : Hid (Row w5 a5 n (nthI (pl T))) := hr5
  clear hown5 hb5 HB4 HT4 y0 y1 y2 hr5
  go_wp2_with fail
  refine (isPerm_ok a5 n c5 (nthI (pl T)) _ hn HR5.out HAL.out).mono ?_
  rintro e w6 ⟨rfl, rfl⟩
  go_wp2_with fail
  go_ret
  exact ⟨rfl, Below.then HB1.out HB5.out⟩
set_option maxHeartbeats 2000000 in
theorem sameZero_any (w : World) : Calls Tryd.prog 12 #[zeroT, zeroT] w fun e w' => e = .returned (.bool true) ∧ Below w.heap.size w w' := by
  unfold zeroT
  have HB : Hid (Below w.heap.size w ((w.alloc (.cells #[.int .i64 0, .int .i64 0, .slice none 0 0] 27)).alloc (.cells #[.int .i64 0, .int .i64 0, .slice none 0 0] 27))) := ((Below.refl _ _).alloc (Nat.le_refl _) _).alloc (by simp) _
  go_enter Tryd.func12, Tryd.ntmps12
  go_wp2_with fail
  go_loopw [5] (fun t wx => t = .int .i64 0 ∧ wx = (w.alloc (.cells #[.int .i64 0, .int .i64 0, .slice none 0 0] 27)).alloc (.cells #[.int .i64 0, .int .i64 0, .slice none 0 0] 27)) (fun _ _ => 0)
  case atStart => exact ⟨rfl, rfl⟩
  case round =>
    obtain ⟨rfl, rfl⟩ := hrel
    go_wp2_with fail
    go_ret
    exact ⟨rfl, HB.out⟩
end Go.Proofs.YtjhpegjcknaioaaDoor
