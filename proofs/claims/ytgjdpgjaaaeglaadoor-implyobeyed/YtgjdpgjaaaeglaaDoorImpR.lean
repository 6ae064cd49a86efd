/-
  Lists of rules as slices; what sets.HasAll, imply.isOf, obeys and Check answer. Conditions: as each theorem says; of Check none but that a slice reads as a slice of rules.
-/
import Derived.Test.YtgjdpgjaaaeglaaDoorImpM
import Derived.Test.YtgjdpgjaaaeglaaDoorNats
import Derived.Laws.StructEq
namespace Go.Proofs.YtgjdpgjaaaeglaaDoor
open Go.RowKit

theorem Tryd.infoRU : (Tryd.prog.info? 47).map (fun i => (i.zero, i.size, i.bytes)) = some (some (.agg #[.int .i64 0, .int .i64 0]), 2, 16) := by kernel_rfl
def pairVals : List (Nat × Nat) → List Value
  | [] => []
  | p :: l => .int .i64 (p.1 : Nat) :: .int .i64 (p.2 : Nat) :: pairVals l
theorem pairVals_append : ∀ l m, pairVals (l ++ m) = pairVals l ++ pairVals m
  | [], _ => rfl
  | p :: l, m => by simp [pairVals, pairVals_append l m]
def pairAt (l : List (Nat × Nat)) (k : Nat) : Int × Int := (((l.getD k (0, 0)).1 : Nat), ((l.getD k (0, 0)).2 : Nat))
theorem pairVals_at : ∀ (l : List (Nat × Nat)) (k : Nat), k < l.length → (pairVals l)[k * 2]? = some (.int .i64 (pairAt l k).1) ∧ (pairVals l)[k * 2 + 1]? = some (.int .i64 (pairAt l k).2)
  | [], k, h => absurd h (Nat.not_lt_zero _)
  | p :: l, 0, _ => ⟨rfl, rfl⟩
  | p :: l, k + 1, h => by
    have ih := pairVals_at l k (by simpa using h)
    have e1 : (k + 1) * 2 = k * 2 + 1 + 1 := by omega
    rw [e1]
    simp only [pairVals, List.getElem?_cons_succ]
    exact ih
/-- A value that is a slice of the rules l. -/
def PSl (w : World) (v : Value) (l : List (Nat × Nat)) : Prop := ∃ a cap, v = .slice a l.length cap ∧ PRow w a l.length (pairAt l)
theorem PSl.below {w w' : World} {v : Value} {l : List (Nat × Nat)} (h : PSl w v l) (hb : Below w.heap.size w w') : PSl w' v l := by
  obtain ⟨a, cap, rfl, hr⟩ := h
  exact ⟨a, cap, rfl, hr.below hb⟩
theorem owns_pairs {w : World} {base : Nat} {v : Value} {l : List (Nat × Nat)} (h : w.ownsRow base 47 2 v l.length (pairVals l)) : PSl w v l := by
  by_cases hn : 0 < l.length
  · obtain ⟨g, cap, rfl⟩ := owns_form h hn
    refine ⟨_, cap, rfl, fun k hk => ⟨g, 0, rfl, ?_, ?_⟩⟩
    · rw [Nat.zero_add, h.cellAt _ (by omega)]; exact (pairVals_at l k hk).1
    · rw [Nat.zero_add, h.cellAt _ (by omega)]; exact (pairVals_at l k hk).2
  · have h0 : l.length = 0 := by omega
    rcases h.2 with ⟨rfl, _⟩ | ⟨g, cap, cur, rfl, _⟩
    · exact ⟨none, 0, by rw [h0], fun k hk => absurd (Nat.lt_of_le_of_lt (Nat.zero_le _) hk) hn⟩
    · exact ⟨_, cap, rfl, fun k hk => absurd (Nat.lt_of_le_of_lt (Nat.zero_le _) hk) hn⟩

/-- Are all rules of n marks? -/
def RIs (n len : Nat) (p : Nat → Int × Int) : Prop := ∀ k, k < len → (0 ≤ (p k).1 ∧ (p k).1 < (pw n : Nat)) ∧ (0 ≤ (p k).2 ∧ (p k).2 < (pw n : Nat))
/-- What Check must answer. -/
def RChk (N : Int) (len : Nat) (p : Nat → Int × Int) (c : Int) : Prop :=
  (c = 2 ∧ ¬ ((0 ≤ N ∧ N ≤ 10) ∧ len ≤ 60)) ∨ ∃ n : Nat, N = n ∧ n ≤ 10 ∧ len ≤ 60 ∧ ((c = 3 ∧ ¬ RIs n len p) ∨ (c = 0 ∧ RIs n len p))
theorem RChk.unique {N : Int} {len : Nat} {p : Nat → Int × Int} {c c' : Int} (h : RChk N len p c) (h' : RChk N len p c') : c = c' := by
  rcases h with ⟨rfl, h⟩ | ⟨n, rfl, hn, hl, h⟩
  · rcases h' with ⟨rfl, _⟩ | ⟨n, rfl, hn, hl, _⟩
    · rfl
    · exact absurd ⟨⟨by omega, by omega⟩, hl⟩ h
  · rcases h' with ⟨rfl, h'⟩ | ⟨n', e, _, _, h'⟩
    · exact absurd ⟨⟨by omega, by omega⟩, hl⟩ h'
    · obtain rfl : n' = n := by omega
      rcases h with ⟨rfl, h⟩ | ⟨rfl, h⟩ <;> rcases h' with ⟨rfl, h'⟩ | ⟨rfl, h'⟩ <;> first | rfl | (exact absurd h h') | (exact absurd h' h)
/-- The rules as a list. -/
def rls (p : Nat → Int × Int) (len : Nat) : List (Nat × Nat) := (List.range len).map fun k => ((p k).1.toNat, (p k).2.toNat)
theorem rls_len (p : Nat → Int × Int) (len : Nat) : (rls p len).length = len := by simp [rls]
theorem rls_getD {p : Nat → Int × Int} {len k : Nat} (hk : k < len) : (rls p len).getD k (0, 0) = ((p k).1.toNat, (p k).2.toNat) := by
  unfold rls
  rw [List.getD_eq_getElem?_getD, List.getElem?_map, List.getElem?_range hk]; rfl
theorem RIs.rin {n len : Nat} {p : Nat → Int × Int} (h : RIs n len p) : RIn n (rls p len) := fun r hr => by
  obtain ⟨k, hk, rfl⟩ := List.mem_map.1 hr
  have := h k (List.mem_range.1 hk)
  exact ⟨by show (p k).1.toNat < pw n; omega, by show (p k).2.toNat < pw n; omega⟩
theorem RIs.row {n len : Nat} {p : Nat → Int × Int} {w : World} {a : Option Addr} (h : RIs n len p) (hr : PRow w a len p) : PRow w a (rls p len).length (pairAt (rls p len)) := fun k hk => by
  rw [rls_len] at hk
  obtain ⟨b, off, e, h1, h2⟩ := hr k hk
  have hh := h k hk
  have e1 : (pairAt (rls p len) k).1 = (p k).1 := by unfold pairAt; rw [rls_getD hk]; show (((p k).1.toNat : Nat) : Int) = _; omega
  have e2 : (pairAt (rls p len) k).2 = (p k).2 := by unfold pairAt; rw [rls_getD hk]; show (((p k).2.toNat : Nat) : Int) = _; omega
  exact ⟨b, off, e, by rw [e1]; exact h1, by rw [e2]; exact h2⟩
theorem RChk.good {N : Int} {len : Nat} {p : Nat → Int × Int} (h : RChk N len p 0) : ∃ n : Nat, N = n ∧ n ≤ 10 ∧ len ≤ 60 ∧ RIs n len p := by
  rcases h with ⟨h, _⟩ | ⟨n, rfl, hn, hl, ⟨h, _⟩ | ⟨_, h⟩⟩
  · cases h
  · cases h
  · exact ⟨n, rfl, hn, hl, h⟩

theorem hasAll_any (s p : Nat) (w : World) (hs : s < 9223372036854775808) (hp : p < 9223372036854775808) :
    Calls Tryd.prog 46 #[.int .i64 s, .int .i64 p] w fun e w' => e = .returned (.bool (lack p s == 0)) ∧ w = w' := by
  have h := i64_andNot p s hp hs
  go_enter Tryd.func46, Tryd.ntmps46
  go_wp2
  go_ret
  refine ⟨ret_bool ?_, rfl⟩
  rw [Bool.eq_iff_iff]
  simp
/-- Is the rule one of n marks? -/
def riB (x y : Int) (n : Nat) : Bool := sts x n && sts y n
theorem riB_iff {x y : Int} {n : Nat} : riB x y n = true ↔ (0 ≤ x ∧ x < (pw n : Nat)) ∧ (0 ≤ y ∧ y < (pw n : Nat)) := by simp [riB, sts]
theorem isOf_any (n : Nat) (x y : Int) (w : World) (hn : n ≤ 10) :
    Calls Tryd.prog 36 #[.int .i64 (n : Nat), .agg #[.int .i64 x, .int .i64 y]] w fun e w' => e = .returned (.bool (riB x y n)) ∧ Below w.heap.size w w' := by
  have HB : Hid (∀ o, Below w.heap.size w (w.alloc o)) := fun o => (Below.refl _ _).alloc (Nat.le_refl _) o
  rcases (Bool.eq_false_or_eq_true (sts x n)).symm with h | h
  · have HE : Hid (riB x y n = false) := by simp [Hid, riB, h]
    go_enter Tryd.func36, Tryd.ntmps36
    go_wp2_with (go_at_call 42; refine (isSet_any _ _ _ hn).mono ?_; rintro e w' ⟨rfl, rfl⟩)
    go_ret
    exact ⟨by rw [HE.out]; rfl, HB.out _⟩
  · have HE : Hid (riB x y n = sts y n) := by simp [Hid, riB, h]
    go_enter Tryd.func36, Tryd.ntmps36
    go_wp2_with fail
    refine (isSet_any x n _ hn).mono ?_
    rintro e w' ⟨rfl, rfl⟩
    rw [h]
    go_wp2_with fail
    refine (isSet_any y n _ hn).mono ?_
    rintro e w' ⟨rfl, rfl⟩
    go_wp2_with fail
    go_ret
    exact ⟨by rw [HE.out]; rfl, HB.out _⟩
theorem obeys_any (s x y : Nat) (w : World) (hs : s < 1024) (hx : x < 1024) (hy : y < 1024) :
    Calls Tryd.prog 37 #[.int .i64 (s : Nat), .agg #[.int .i64 (x : Nat), .int .i64 (y : Nat)]] w fun e w' => e = .returned (.bool (obe s (x, y))) ∧ Below w.heap.size w w' := by
  have HB : Hid (∀ o, Below w.heap.size w (w.alloc o)) := fun o => (Below.refl _ _).alloc (Nat.le_refl _) o
  rcases (Bool.eq_false_or_eq_true (lack x s == 0)).symm with h | h
  · have HE : Hid (obe s (x, y) = true) := by simp [Hid, obe, h]
    go_enter Tryd.func37, Tryd.ntmps37
    go_wp2_with fail
    refine (hasAll_any s x _ (by omega) (by omega)).mono ?_
    rintro e w' ⟨rfl, rfl⟩
    rw [h]
    go_wp2_with fail
    go_ret
    exact ⟨by rw [HE.out]; rfl, HB.out _⟩
  · have HE : Hid (obe s (x, y) = (lack y s == 0)) := by simp [Hid, obe, h]
    go_enter Tryd.func37, Tryd.ntmps37
    go_wp2_with fail
    refine (hasAll_any s x _ (by omega) (by omega)).mono ?_
    rintro e w' ⟨rfl, rfl⟩
    rw [h]
    go_wp2_with fail
    refine (hasAll_any s y _ (by omega) (by omega)).mono ?_
    rintro e w' ⟨rfl, rfl⟩
    go_wp2_with fail
    go_ret
    exact ⟨by rw [HE.out]; rfl, HB.out _⟩

set_option maxHeartbeats 1000000 in
theorem iCheck_any (N : Int) (a : Option Addr) (len cap : Nat) (p : Nat → Int × Int) (w : World) (hl : len ≤ maxLen) (hr : PRow w a len p) :
    Calls Tryd.prog 26 #[.int .i64 N, .slice a len cap] w fun e w' => (∃ c : Int, e = .returned (.int .i64 c) ∧ RChk N len p c) ∧ Below w.heap.size w w' := by
  unfold maxLen at hl
  have HR : Hid (∀ w', Below w.heap.size w w' → PRow w' a len p) := fun w' h => hr.below h
  clear hr
  by_cases hn : 0 ≤ N ∧ N ≤ 10
  · have hd : cnt N = true := by simpa [cnt] using hn
    obtain ⟨n, rfl⟩ := Int.eq_ofNat_of_zero_le hn.1
    have hn10 : n ≤ 10 := by omega
    by_cases h60 : len ≤ 60
    · have h60' : ¬ ((60 : Int) < (len : Int)) := by omega
      clear hn
      go_enter Tryd.func26, Tryd.ntmps26
      go_wp2_with (go_at_call 38; refine (isCount_any _ _).mono ?_; rintro e w' ⟨rfl, rfl⟩)
      go_loopw [17] (fun i wx => ∃ k : Nat, k ≤ len ∧ i = .int .i64 k ∧ Hid (∀ j, j < k → (0 ≤ (p j).1 ∧ (p j).1 < (pw n : Nat)) ∧ (0 ≤ (p j).2 ∧ (p j).2 < (pw n : Nat))) ∧ Hid (Below w.heap.size w wx)) (fun i _ => len - (intOf i).toNat)
      case atStart => exact ⟨0, Nat.zero_le _, rfl, upto_zero, Below.refl _ _⟩
      case round =>
        obtain ⟨k, hk, rfl, hok, hB⟩ := hrel
        by_cases hlt : k < len
        · obtain ⟨b, off, rfl, c0, c1⟩ := HR.out _ hB.out k hlt
          have hlt' : (k : Int) < (len : Int) := by omega
          have HBA : Hid (∀ o, Below w.heap.size w (wr.alloc o)) := fun o => hB.out.alloc hB.out.size o
          obtain ⟨x, y, HXY⟩ : ∃ x y, Hid (p k = (x, y)) := ⟨_, _, rfl⟩
          rw [HXY.out] at c0 c1
          rcases (Bool.eq_false_or_eq_true (riB x y n)).symm with hs | hs
          · have HS : Hid (¬ ((0 ≤ (p k).1 ∧ (p k).1 < (pw n : Nat)) ∧ (0 ≤ (p k).2 ∧ (p k).2 < (pw n : Nat)))) := fun h => by
              rw [HXY.out] at h
              rw [riB_iff.2 h] at hs; cases hs
            go_wp2_with fail
            refine (isOf_any n x y _ hn10).mono ?_
            rintro e w2 ⟨rfl, hb2⟩
            rw [hs]
            have HB2 : Hid (Below w.heap.size w w2) := Below.then (HBA.out _) hb2
            clear hb2 c0 c1
            go_wp2_with fail
            go_ret
            exact ⟨⟨_, rfl, .inr ⟨n, rfl, hn10, h60, .inl ⟨rfl, fun h => HS.out (h k hlt)⟩⟩⟩, HB2.out⟩
          · have HS : Hid ((0 ≤ (p k).1 ∧ (p k).1 < (pw n : Nat)) ∧ (0 ≤ (p k).2 ∧ (p k).2 < (pw n : Nat))) := by rw [Hid, HXY.out]; exact riB_iff.1 hs
            go_wp2_with fail
            refine (isOf_any n x y _ hn10).mono ?_
            rintro e w2 ⟨rfl, hb2⟩
            rw [hs]
            have HB2 : Hid (Below w.heap.size w w2) := Below.then (HBA.out _) hb2
            clear hb2 c0 c1
            go_wp2_with fail
            go_roundw
            case rel => exact ⟨k + 1, by omega, by go_num, upto_succ hok.out HS.out, HB2⟩
            case measure => simp [intOf]; omega
        · obtain rfl : k = len := by omega
          go_wp2_with fail
          go_ret
          exact ⟨⟨_, rfl, .inr ⟨n, rfl, hn10, h60, .inr ⟨rfl, hok.out⟩⟩⟩, hB.out⟩
    · have h60' : (60 : Int) < (len : Int) := by omega
      clear hn
      go_enter Tryd.func26, Tryd.ntmps26
      go_wp2_with (go_at_call 38; refine (isCount_any _ _).mono ?_; rintro e w' ⟨rfl, rfl⟩)
      go_ret
      exact ⟨⟨_, rfl, .inl ⟨rfl, fun h => h60 h.2⟩⟩, Below.refl _ _⟩
  · have hd : cnt N = false := by simpa [cnt] using hn
    have HN : Hid (¬ (0 ≤ N ∧ N ≤ 10)) := hn
    clear hn
    go_enter Tryd.func26, Tryd.ntmps26
    go_wp2_with (go_at_call 38; refine (isCount_any _ _).mono ?_; rintro e w' ⟨rfl, rfl⟩)
    go_ret
    exact ⟨⟨_, rfl, .inl ⟨rfl, fun h => HN.out h.1⟩⟩, Below.refl _ _⟩
end Go.Proofs.YtgjdpgjaaaeglaaDoor
