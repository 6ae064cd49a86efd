/-
  Lists of pairs as slices: what is owned, what SamePairs answers of two slices of one list. Conditions: as each theorem says.
  What order.reach, order.Make, order.turn answer. Conditions: as each theorem says.
-/
import Derived.Test.YtklfnghgpmjnmaaDoorBuild
import Derived.Test.YtklfnghgpmjnmaaDoorGood
import Derived.Laws.StructEq
import Derived.Test.YtklfnghgpmjnmaaDoorIsPnt
namespace Go.Proofs.YtklfnghgpmjnmaaDoor
open Go.RowKit

theorem Tryd.info78 : (Tryd.prog.info? 78).map (fun i => (i.zero, i.size, i.bytes)) = some (some (.agg #[.int .i64 0, .int .i64 0]), 2, 16) := by kernel_rfl

def pairVals : List (Nat × Nat) → List Value
  | [] => []
  | p :: l => .int .i64 (p.1 : Nat) :: .int .i64 (p.2 : Nat) :: pairVals l
theorem pairVals_append : ∀ l m, pairVals (l ++ m) = pairVals l ++ pairVals m
  | [], _ => rfl
  | p :: l, m => by simp [pairVals, pairVals_append l m]
def pairAt (l : List (Nat × Nat)) (k : Nat) : Int × Int := (((l.getD k (0, 0)).1 : Nat), ((l.getD k (0, 0)).2 : Nat))
theorem pairVals_at : ∀ (l : List (Nat × Nat)) (k : Nat), k < l.length → (pairVals l)[k * 2]? = some (.int .i64 (pairAt l k).1) ∧ (pairVals l)[k * 2 + 1]? = some (.int .i64 (pairAt l k).2)
  | [], k, h => absurd h (Nat.not_lt_zero _)
  | p :: l, 0, _ => ⟨rfl, rfl⟩
  | p :: l, k + 1, h => by
    have ih := pairVals_at l k (by simpa using h)
    have e1 : (k + 1) * 2 = k * 2 + 1 + 1 := by omega
    rw [e1]
    simp only [pairVals, List.getElem?_cons_succ]
    exact ih

def rowPairs (C : Nat → Nat → Bool) (x : Nat) : Nat → List (Nat × Nat)
  | 0 => []
  | k + 1 => if C x k = true then rowPairs C x k ++ [(x, k)] else rowPairs C x k
def allPairs (C : Nat → Nat → Bool) (n : Nat) : Nat → List (Nat × Nat)
  | 0 => []
  | x + 1 => allPairs C n x ++ rowPairs C x n
theorem rowPairs_yes {C : Nat → Nat → Bool} {x k : Nat} (h : C x k = true) : rowPairs C x (k + 1) = rowPairs C x k ++ [(x, k)] := by simp [rowPairs, h]
theorem rowPairs_no {C : Nat → Nat → Bool} {x k : Nat} (h : C x k = false) : rowPairs C x (k + 1) = rowPairs C x k := by simp [rowPairs, h]
theorem rowPairs_len (C : Nat → Nat → Bool) (x : Nat) : ∀ k, (rowPairs C x k).length ≤ k
  | 0 => by simp [rowPairs]
  | k + 1 => by
    have ih := rowPairs_len C x k
    cases h : C x k
    · rw [rowPairs_no h]; omega
    · rw [rowPairs_yes h, List.length_append]; simp; exact ih
theorem allPairs_len (C : Nat → Nat → Bool) (n : Nat) (hn : n ≤ 10) : ∀ x, (allPairs C n x).length ≤ x * 10
  | 0 => by simp [allPairs]
  | x + 1 => by
    have ih := allPairs_len C n hn x
    have := rowPairs_len C x n
    rw [allPairs, List.length_append]; omega
theorem rowPairs_congr {C D : Nat → Nat → Bool} {x : Nat} : ∀ k, (∀ y, y < k → C x y = D x y) → rowPairs C x k = rowPairs D x k
  | 0, _ => rfl
  | k + 1, h => by
    have ih := rowPairs_congr k (fun y hy => h y (by omega))
    simp only [rowPairs, h k (by omega), ih]
theorem allPairs_congr {C D : Nat → Nat → Bool} {n : Nat} : ∀ x, (∀ z y, z < x → y < n → C z y = D z y) → allPairs C n x = allPairs D n x
  | 0, _ => rfl
  | x + 1, h => by
    rw [allPairs, allPairs, allPairs_congr x (fun z y hz hy => h z y (by omega) hy), rowPairs_congr n (fun y hy => h x y (by omega) hy)]

/-- A value that is a slice of the pairs l. -/
def PSl (w : World) (v : Value) (l : List (Nat × Nat)) : Prop := ∃ a cap, v = .slice a l.length cap ∧ PRow w a l.length (pairAt l)
theorem PSl.below {w w' : World} {v : Value} {l : List (Nat × Nat)} (h : PSl w v l) (hb : Below w.heap.size w w') : PSl w' v l := by
  obtain ⟨a, cap, rfl, hr⟩ := h
  exact ⟨a, cap, rfl, hr.below hb⟩
theorem owns_pairs {w : World} {base : Nat} {v : Value} {l : List (Nat × Nat)} (h : w.ownsRow base 78 2 v l.length (pairVals l)) : PSl w v l := by
  by_cases hn : 0 < l.length
  · obtain ⟨g, cap, rfl⟩ := owns_form h hn
    refine ⟨_, cap, rfl, fun k hk => ⟨g, 0, rfl, ?_, ?_⟩⟩
    · rw [Nat.zero_add, h.cellAt _ (by omega)]; exact (pairVals_at l k hk).1
    · rw [Nat.zero_add, h.cellAt _ (by omega)]; exact (pairVals_at l k hk).2
  · have h0 : l.length = 0 := by omega
    rcases h.2 with ⟨rfl, _⟩ | ⟨g, cap, cur, rfl, _⟩
    · exact ⟨none, 0, by rw [h0], fun k hk => absurd (Nat.lt_of_le_of_lt (Nat.zero_le _) hk) hn⟩
    · exact ⟨_, cap, rfl, fun k hk => absurd (Nat.lt_of_le_of_lt (Nat.zero_le _) hk) hn⟩

theorem eqIn_pair (d : Nat) (x y : Int) (w : World) : (Op.equalIn (d + 2) 78 (.agg #[.int .i64 x, .int .i64 y]) (.agg #[.int .i64 x, .int .i64 y])).run Tryd.prog w = .ok true w := by
  have hP2 : Tryd.prog.underlying 78 = some (.array 2 3) := Tryd.underlying78
  have h3 : Tryd.prog.underlying 3 = some (.int .i64) := Tryd.underlying3
  obtain ⟨i0, hi, _, hz1, _⟩ := info_parts Tryd.info3
  have hd : (d + 2) = (d + 1) + 1 := rfl
  rw [hd, Op.equalIn]
  simp only [Sem.run_bind, run_underlying hP2, Result.andThen_ok]
  simp [sizeOf, typeInfo, hi, hz1, Std.Legacy.Range.forIn_eq_forIn_range', show List.range' 0 2 = [0, 1] from rfl, part, isAgg, Op.equalIn, run_underlying h3]
theorem neq_pair (x y : Int) (w : World) : (binOp .neq 78 (.agg #[.int .i64 x, .int .i64 y]) (.agg #[.int .i64 x, .int .i64 y])).run Tryd.prog w = .ok (.bool false) w := by
  simp only [binOp]
  simp [Op.equal, Op.maxDepth, eqIn_pair 9998]

end Go.Proofs.YtklfnghgpmjnmaaDoor
namespace Go.Proofs.YtklfnghgpmjnmaaDoor
open Go.RowKit

set_option maxHeartbeats 1000000 in
theorem turn_any (n : Nat) (g : Nat → Nat) (a : Option Addr) (cap : Nat) (w : World) (hn : n ≤ 10) (hg : ∀ k, k < n → g k < 1024) (hr : Row w a n (fun k => (g k : Nat))) :
    Calls Tryd.prog 16 #[.slice a n cap] w fun e w' => e = .returned (.slice (some ⟨w.heap.size, 0, none⟩) n n) ∧ Own w' w.heap.size n (trn g n) ∧ Below w.heap.size w w' := by
  have HG := (show Hid (∀ k, k < n → g k < 1024) from hg)
  have HR := (show Hid (Row w a n (fun k => (g k : Nat))) from hr)
  clear hg hr
  obtain ⟨i0, hi, hz0, hz1, hz2⟩ := info_parts Tryd.info3
  go_enter Tryd.func16, Tryd.ntmps16
  go_wp2_with (at_make; refine wpList_make_full _ rfl _ _ 22 rfl w.heap.size 3 i0 (.int .i64 0) 1 Tryd.underlying22 hi hz0 hz1 .i64 .i64 _ _ n rfl rfl rfl rfl (by rw [hz2]; omega) (by unfold maxLen; omega) (Nat.le_refl _) ?_; intro w1 hown1 hgrow1)
  have HB1 : Hid (Below w.heap.size w w1) := (Below.refl _ _).grown hgrow1 (Nat.le_refl _) (by simp)
  have HO1 : Hid (Own w1 w.heap.size n (trn g 0)) := own_made hown1
  clear hown1 hgrow1 hi hz0 hz1 hz2
  go_loopw [12] (fun i wx => ∃ u : Nat, u ≤ n ∧ i = .int .i64 u ∧ Own wx w.heap.size n (trn g u) ∧ Hid (Below w.heap.size w wx)) (fun i _ => n - (intOf i).toNat)
  case atStart => exact ⟨0, Nat.zero_le _, rfl, HO1.out, HB1.out⟩
  case round =>
    obtain ⟨u, hu, rfl, hO, hB⟩ := hrel
    clear HO1 HB1
    by_cases hlt : u < n
    · obtain ⟨b, off, rfl, hc⟩ := (HR.out.below hB.out).at hlt
      have hcu := hc u hlt
      clear hc
      have hgu := HG.out u hlt
      go_wp2
      have HO1 : Hid (Own wr w.heap.size n (mix g u 0)) := by rw [mix_zero]; exact hO
      clear hO hcu
      go_loopw [19] (fun i wy => ∃ k : Nat, k ≤ n ∧ i = .int .i64 k ∧ Own wy w.heap.size n (mix g u k) ∧ Hid (Below w.heap.size w wy)) (fun i _ => n - (intOf i).toNat)
      case atStart => exact ⟨0, Nat.zero_le _, rfl, HO1.out, hB⟩
      case round =>
        obtain ⟨k, hk, rfl, hO, hBy⟩ := hrel
        clear HO1 hB
        by_cases hkl : k < n
        · rcases (Bool.eq_false_or_eq_true ((g u).testBit k)).symm with hb | hb
          · go_wp2_with (go_at_call 19; refine (has_any _ _ _ (by omega) (by omega)).mono ?_; rintro e w' ⟨rfl, rfl⟩)
            go_roundw
            case rel => exact ⟨k + 1, by omega, by go_num, by rw [mix_no hb]; exact hO, hBy⟩
            case measure => simp [intOf]; omega
          · have hck := (hO k hkl).1
            have hfk := (hO k hkl).2
            rw [mix_same] at hck
            have hsh := wrap_pow u (Nat.lt_of_lt_of_le hlt (Nat.le_trans hn (by decide)))
            have hor := or_pw (b := u) hn (trn_small g u k n hu) hlt
            have HOY := (show Hid _ from hO); clear hO
            go_wp2_with (go_at_call 19; refine (has_any _ _ _ (by omega) (by omega)).mono ?_; rintro e w' ⟨rfl, rfl⟩)
            go_region
            all_goals go_wp2
            all_goals go_roundw
            case rel => exact ⟨k + 1, by omega, by go_num, by rw [mix_yes hb]; exact Own.set HOY.out k _ hkl, Below.drew (Below.setCell (p := ⟨w.heap.size, k, none⟩) hBy.out (Nat.le_refl _) _)⟩
            case measure => simp [intOf]; omega
        · have hkn : k = n := by omega
          subst hkn
          go_wp2
          go_roundw
          case rel => exact ⟨u + 1, by omega, by go_num, hO.congr (fun l hl => by simp [mix, hl]), hBy⟩
          case measure => simp [intOf]; omega
    · have hun : u = n := by omega
      subst hun
      go_wp2
      go_ret
      exact ⟨rfl, hO, hB.out⟩
end Go.Proofs.YtklfnghgpmjnmaaDoor
