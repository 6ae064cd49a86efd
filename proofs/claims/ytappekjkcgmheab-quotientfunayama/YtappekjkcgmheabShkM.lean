/-
  What quotient.Least answers, whatever it is handed. No condition but that slices read as slices of rows.
  Keys that are arrays of numbers: what a map makes of them, and that different lists have different keys. Conditions: as each theorem says.
-/
import Derived.Test.YtappekjkcgmheabTogP
import Derived.Maps.OwnSet
import Derived.Laws.EntriesVeiled
import Derived.WideKeyArr
import Derived.Test.YtappekjkcgmheabNumP
namespace Go.Proofs.Ytappekjkcgmheab
open Go.RowKit
set_option maxRecDepth 100000

theorem prow_oneP {w : World} {t : TypeId} {x y : Nat} : PRow (w.alloc (.cells #[.int .i64 (x : Nat), .int .i64 (y : Nat)] t)) (some ⟨w.heap.size, 0, none⟩) [(x, y)].length (pairAt [(x, y)]) := fun k hk => by
  refine ⟨w.heap.size, 0, rfl, ?_, ?_⟩
  all_goals
    obtain rfl : k = 0 := by simp at hk; omega
    simp [pairAt]
/-- What Least must answer: the error and the list. -/
def LsIs (n : Int) (la : Nat) (SA : Nat → Option Addr × Nat × Nat) (FA : Nat → Nat → Int) (lb : Nat) (SB : Nat → Option Addr × Nat × Nat) (FB : Nat → Nat → Int) (x y : Int) (B0 : Nat) (w' : World) (c : Int) (v : Value) : Prop :=
  (c ≠ 0 ∧ LCk n la SA FA lb SB FB c ∧ v = .slice none 0 0) ∨ (LCk n la SA FA lb SB FB 0 ∧
    ((c = 3 ∧ ¬ (pnt x n = true ∧ pnt y n = true) ∧ v = .slice none 0 0) ∨
     (c = 0 ∧ (pnt x n = true ∧ pnt y n = true) ∧ ∃ B d, v = .slice (some ⟨B, 0, none⟩) n.toNat n.toNat ∧ LeastC n.toNat (nat2 FA) (nat2 FB) [(x.toNat, y.toNat)] d ∧ Own w' B n.toNat (nbr d) ∧ B0 ≤ B)))

end Go.Proofs.Ytappekjkcgmheab
namespace Go.Proofs.Ytappekjkcgmheab
open Go.RowKit Go.Maps Go.WideMaps
set_option maxRecDepth 100000

theorem mapM_some {α β : Type} {f : α → Option β} {h : α → β} : ∀ l : List α, (∀ i, i ∈ l → f i = some (h i)) → l.mapM f = some (l.map h)
  | [], _ => rfl
  | a :: l, H => by
    rw [List.mapM_cons, H a (by simp), mapM_some l (fun i hi => H i (by simp [hi]))]
    rfl
theorem keyOf_ints {P : Program} {k e : TypeId} {n : Nat} {q : IntKind} (A : ArrKey P k e n) (he : P.underlying e = some (.int q)) (hsz : ∃ m, P.types.size = m + 1) (g : Nat → Int) (hw : ∀ i, i < n → (Lit.int q (g i)).wf = true) :
    keyOf P k (.agg ((List.range n).map fun i => Value.int q (g i)).toArray) = some (.string (keyBytes ((List.range n).map fun i => Lit.int q (g i)))) := by
  have hkt := A.keyType hsz
  obtain ⟨m, hm⟩ := hsz
  unfold keyOf
  simp only [A.hu]
  rw [if_pos (by simp [hkt, Value.formed, A.hu, A.size]), hm]
  unfold Program.keyLits
  simp only [A.hu, Value.cells]
  rw [if_pos (by rw [A.size]; simp)]
  rw [mapM_some (h := fun i => [Lit.int q (g i)]) _ (fun i hi => ?_)]
  · have : ∀ l : List Nat, (l.map fun i => [Lit.int q (g i)]).flatten = l.map fun i => Lit.int q (g i) := fun l => by
      induction l with
      | nil => rfl
      | cons a l ih => simp [ih]
    simp [this]
  · have hi' : i < n := List.mem_range.1 hi
    rw [A.one, Nat.mul_one]
    have e1 : ((((List.range n).map fun i => Value.int q (g i)).toArray).toList.drop i).take 1 = [Value.int q (g i)] := by
      have hl : i < (((List.range n).map fun i => Value.int q (g i)).toArray).toList.length := by simpa using hi'
      rw [List.drop_eq_getElem_cons hl]
      simp
    rw [e1]
    unfold Program.keyLits
    simp [he, hw i hi']
theorem arrQ : ArrKey Try.prog 64 3 40 := ⟨Try.underlying64, by kernel_rfl, by kernel_rfl, by kernel_rfl⟩
theorem keyedQ : Keyed Try.prog 64 := Keyed.of_law arrQ.law
theorem types_pos : 0 < Try.prog.types.size := of_decide_eq_true (by kernel_rfl)
theorem types_some : ∃ m, Try.prog.types.size = m + 1 := ⟨Try.prog.types.size - 1, by have := types_pos; omega⟩
/-- Forty numbers, as an array. -/
def arV (g : Nat → Nat) : Array Value := ((List.range 40).map fun i => Value.int .i64 ((g i : Nat) : Int)).toArray
theorem arV_at (g : Nat → Nat) {i : Nat} (h : i < 40) : (arV g)[i]? = some (.int .i64 (g i : Nat)) := by simp [arV, h]
/-- The key of a list. -/
def kQ (g : Nat → Nat) : Lit := .string (keyBytes ((List.range 40).map fun i => Lit.int .i64 ((g i : Nat) : Int)))
theorem keyQ_of {g : Nat → Nat} (hg : ∀ i, i < 40 → g i ≤ 1000) : keyOf Try.prog 64 (.agg (arV g)) = some (kQ g) :=
  keyOf_ints arrQ Try.underlying3 types_some (fun i => ((g i : Nat) : Int)) (fun i hi => small_wf (hg i hi))
theorem kQ_inj {g h : Nat → Nat} (hg : ∀ i, i < 40 → g i ≤ 1000) (hh : ∀ i, i < 40 → h i ≤ 1000) (e : kQ g = kQ h) : ∀ i, i < 40 → g i = h i := fun i hi => by
  have k := keyedQ.inj (keyQ_of hg) (by rw [e]; exact keyQ_of hh)
  have k2 : arV g = arV h := by injection k
  have h1 := arV_at g hi
  rw [k2, arV_at h hi] at h1
  simp at h1
  omega
theorem kQ_congr {g h : Nat → Nat} (e : ∀ i, i < 40 → g i = h i) : kQ g = kQ h := by
  unfold kQ
  rw [List.map_congr_left (fun i hi => by rw [e i (List.mem_range.1 hi)])]
theorem kQ_key (g : Nat → Nat) : WideAt.IsKeyLit (kQ g) := trivial
end Go.Proofs.Ytappekjkcgmheab
