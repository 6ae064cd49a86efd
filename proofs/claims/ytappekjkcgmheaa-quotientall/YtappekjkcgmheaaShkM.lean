/-
  What quotient.Least answers, whatever it is handed. No condition but that slices read as slices of rows.
  Keys that are arrays of numbers: what a map makes of them, and that different lists have different keys. Conditions: as each theorem says.
-/
import Derived.Test.YtappekjkcgmheaaTogP
import Derived.Maps.OwnSet
import Derived.Laws.EntriesVeiled
import Derived.WideKeyArr
import Derived.Test.YtappekjkcgmheaaNumP
namespace Go.Proofs.Ytappekjkcgmheaa
open Go.RowKit
set_option maxRecDepth 100000

theorem prow_oneP {w : World} {t : TypeId} {x y : Nat} : PRow (w.alloc (.cells #[.int .i64 (x : Nat), .int .i64 (y : Nat)] t)) (some ⟨w.heap.size, 0, none⟩) [(x, y)].length (pairAt [(x, y)]) := fun k hk => by
  refine ⟨w.heap.size, 0, rfl, ?_, ?_⟩
  all_goals
    obtain rfl : k = 0 := by simp at hk; omega
    simp [pairAt]
/-- What Least must answer: the error and the list. -/
def LsIs (n : Int) (la : Nat) (SA : Nat → Option Addr × Nat × Nat) (FA : Nat → Nat → Int) (lb : Nat) (SB : Nat → Option Addr × Nat × Nat) (FB : Nat → Nat → Int) (x y : Int) (B0 : Nat) (w' : World) (c : Int) (v : Value) : Prop :=
  (c ≠ 0 ∧ LCk n la SA FA lb SB FB c ∧ v = .slice none 0 0) ∨ (LCk n la SA FA lb SB FB 0 ∧
    ((c = 3 ∧ ¬ (pnt x n = true ∧ pnt y n = true) ∧ v = .slice none 0 0) ∨
     (c = 0 ∧ (pnt x n = true ∧ pnt y n = true) ∧ ∃ B d, v = .slice (some ⟨B, 0, none⟩) n.toNat n.toNat ∧ LeastC n.toNat (nat2 FA) (nat2 FB) [(x.toNat, y.toNat)] d ∧ Own w' B n.toNat (nbr d) ∧ B0 ≤ B)))

set_option maxHeartbeats 4000000 in
theorem least_any (n : Int) (a : Option Addr) (la ca : Nat) (SA : Nat → Option Addr × Nat × Nat) (FA : Nat → Nat → Int) (b : Option Addr) (lb cb : Nat) (SB : Nat → Option Addr × Nat × Nat) (FB : Nat → Nat → Int) (x y : Int) (w : World) (hla : la ≤ maxLen) (hlb : lb ≤ maxLen) (hra : RR w a la SA FA) (hrb : RR w b lb SB FB) :
    Calls Try.prog 15 #[.agg #[.int .i64 n, .slice a la ca, .slice b lb cb], .int .i64 x, .int .i64 y] w fun e w' => (∃ c v, e = .returned (.tuple #[v, .int .i64 c]) ∧ LsIs n la SA FA lb SB FB x y w.heap.size w' c v) ∧ Below w.heap.size w w' := by
  have hb0 : Below w.heap.size w (w.alloc (.cells #[.int .i64 n, .slice a la ca, .slice b lb cb] 24)) := (Below.refl _ _).alloc (Nat.le_refl _) _
  have HC := (show Hid _ from lCheck_any n a la ca SA FA b lb cb SB FB _ hla hlb (hra.below hb0) (hrb.below hb0))
  have HB0 : Hid (Below w.heap.size w (w.alloc (.cells #[.int .i64 n, .slice a la ca, .slice b lb cb] 24))) := hb0
  have HK0 : Hid (LB (w.alloc (.cells #[.int .i64 n, .slice a la ca, .slice b lb cb] 24)) w.heap.size n a la ca b lb cb) := LB.new _ _ _ _ _ _ _ _
  have HRA : Hid (RR w a la SA FA) := hra
  have HRB : Hid (RR w b lb SB FB) := hrb
  clear hra hrb hb0
  go_enter Try.func15, Try.ntmps15
  go_wp2_with fail
  refine Calls.mono HC.out ?_
  rintro e w1 ⟨⟨c, rfl, hc⟩, hb1⟩
  have HK1 : Hid (LB w1 w.heap.size n a la ca b lb cb) := HK0.out.step hb1
  have HB1 : Hid (Below w.heap.size w w1) := Below.then HB0.out hb1
  have HCK : Hid (LCk n la SA FA lb SB FB c) := hc
  clear hc hb1 HC HB0 HK0
  by_cases h0 : c = 0
  · subst h0
    obtain ⟨q, rfl, h1, h40, rfl, rfl, hsa, hsb, hga, hgb, _⟩ := HCK.out.good
    obtain ⟨bA, oA, rfl, hta, hia⟩ := HRA.out.tb h1 hsa hga
    obtain ⟨bB, oB, rfl, htb, hib⟩ := HRB.out.tb h1 hsb hgb
    have HTA := (show Hid _ from hta)
    have HTC := (show Hid _ from htb)
    have HIA := (show Hid _ from hia)
    have HIB := (show Hid _ from hib)
    have k0 := HK1.out.1
    have k1 := HK1.out.2.1
    have k2 := HK1.out.2.2
    clear hsa hsb hga hgb hta htb hia hib HRA HRB
    cases hx : pnt x (lb : Int)
    · have HF := (show Hid (LsIs (lb : Int) lb SA FA lb SB FB x y w.heap.size w1 3 (.slice none 0 0)) from .inr ⟨HCK.out, .inl ⟨rfl, fun h => (by rw [hx] at h; cases h.1), rfl⟩⟩)
      go_wp2_with fail
      refine (isPoint_as x _ _ false hx).mono ?_
      rintro e w2 ⟨rfl, rfl⟩
      clear hx
      go_wp2_with fail
      go_ret2
      exact ⟨⟨_, _, rfl, HF.out⟩, HB1.out⟩
    · cases hy : pnt y (lb : Int)
      · have HF := (show Hid (LsIs (lb : Int) lb SA FA lb SB FB x y w.heap.size w1 3 (.slice none 0 0)) from .inr ⟨HCK.out, .inl ⟨rfl, fun h => (by rw [hy] at h; cases h.2), rfl⟩⟩)
        go_wp2_with fail
        refine (isPoint_as x _ _ true hx).mono ?_
        rintro e w2 ⟨rfl, rfl⟩
        clear hx
        go_wp2_with fail
        refine (isPoint_as y _ _ false hy).mono ?_
        rintro e w2 ⟨rfl, rfl⟩
        clear hy
        go_wp2_with fail
        go_ret2
        exact ⟨⟨_, _, rfl, HF.out⟩, HB1.out⟩
      · have px : 0 ≤ x ∧ x < (lb : Int) := by simpa [pnt] using hx
        have py : 0 ≤ y ∧ y < (lb : Int) := by simpa [pnt] using hy
        obtain ⟨X, rfl⟩ := Int.eq_ofNat_of_zero_le px.1
        obtain ⟨Y, rfl⟩ := Int.eq_ofNat_of_zero_le py.1
        have HPP : Hid (pnt (X : Int) (lb : Int) = true ∧ pnt (Y : Int) (lb : Int) = true) := ⟨hx, hy⟩
        have HX := (show Hid _ from px.2)
        have HY := (show Hid _ from py.2)
        clear px py
        go_wp2_with fail
        refine (isPoint_as (X : Int) _ _ true hx).mono ?_
        rintro e w2 ⟨rfl, rfl⟩
        clear hx
        go_wp2_with fail
        refine (isPoint_as (Y : Int) _ _ true hy).mono ?_
        rintro e w2 ⟨rfl, rfl⟩
        clear hy
        go_wp2_with fail
        have hb3 : Below w.heap.size w (w1.alloc (.cells #[.int .i64 (X : Nat), .int .i64 (Y : Nat)] 60)) := HB1.out.alloc HB1.out.size _
        refine (together_any _ bA oA ca bB oB cb _ _ (nat2 FA) (nat2 FB) _ [(X, Y)] _ h1 h40 HIA.out HIB.out (Tb.step HTA.out hb3) (Tb.step HTC.out hb3) (.inr ⟨_, _, _, rfl, prow_oneP⟩) (by simp) (fun p hp => by
          have hX := HX.out
          have hY := HY.out
          obtain rfl := List.mem_singleton.1 hp
          exact ⟨by omega, by omega⟩)).mono ?_
        rintro e w4 ⟨⟨B, d, rfl, hd, ho4, hB⟩, hb4⟩
        have HB4 : Hid (Below w.heap.size w w4) := Below.then hb3 hb4
        have HF := (show Hid (LsIs (lb : Int) lb SA FA lb SB FB (X : Int) (Y : Int) w.heap.size w4 0 _) from .inr ⟨HCK.out, .inr ⟨rfl, HPP.out, B, d, rfl, hd, ho4, Nat.le_trans hb3.size hB⟩⟩)
        clear hd ho4 hB hb4 hb3
        go_wp2_with fail
        go_ret2
        exact ⟨⟨_, _, rfl, HF.out⟩, HB4.out⟩
  · have hne : (c != 0) = true := by simp [h0]
    have HF : Hid (LsIs n la SA FA lb SB FB x y w.heap.size w1 c (.slice none 0 0)) := .inl ⟨h0, HCK.out, rfl⟩
    clear HCK HRA HRB
    go_wp2_with fail
    go_ret2
    exact ⟨⟨_, _, rfl, HF.out⟩, HB1.out⟩
end Go.Proofs.Ytappekjkcgmheaa
namespace Go.Proofs.Ytappekjkcgmheaa
open Go.RowKit Go.Maps Go.WideMaps
set_option maxRecDepth 100000

theorem mapM_some {α β : Type} {f : α → Option β} {h : α → β} : ∀ l : List α, (∀ i, i ∈ l → f i = some (h i)) → l.mapM f = some (l.map h)
  | [], _ => rfl
  | a :: l, H => by
    rw [List.mapM_cons, H a (by simp), mapM_some l (fun i hi => H i (by simp [hi]))]
    rfl
theorem keyOf_ints {P : Program} {k e : TypeId} {n : Nat} {q : IntKind} (A : ArrKey P k e n) (he : P.underlying e = some (.int q)) (hsz : ∃ m, P.types.size = m + 1) (g : Nat → Int) (hw : ∀ i, i < n → (Lit.int q (g i)).wf = true) :
    keyOf P k (.agg ((List.range n).map fun i => Value.int q (g i)).toArray) = some (.string (keyBytes ((List.range n).map fun i => Lit.int q (g i)))) := by
  have hkt := A.keyType hsz
  obtain ⟨m, hm⟩ := hsz
  unfold keyOf
  simp only [A.hu]
  rw [if_pos (by simp [hkt, Value.formed, A.hu, A.size]), hm]
  unfold Program.keyLits
  simp only [A.hu, Value.cells]
  rw [if_pos (by rw [A.size]; simp)]
  rw [mapM_some (h := fun i => [Lit.int q (g i)]) _ (fun i hi => ?_)]
  · have : ∀ l : List Nat, (l.map fun i => [Lit.int q (g i)]).flatten = l.map fun i => Lit.int q (g i) := fun l => by
      induction l with
      | nil => rfl
      | cons a l ih => simp [ih]
    simp [this]
  · have hi' : i < n := List.mem_range.1 hi
    rw [A.one, Nat.mul_one]
    have e1 : ((((List.range n).map fun i => Value.int q (g i)).toArray).toList.drop i).take 1 = [Value.int q (g i)] := by
      have hl : i < (((List.range n).map fun i => Value.int q (g i)).toArray).toList.length := by simpa using hi'
      rw [List.drop_eq_getElem_cons hl]
      simp
    rw [e1]
    unfold Program.keyLits
    simp [he, hw i hi']
theorem arrQ : ArrKey Try.prog 85 3 40 := ⟨Try.underlying85, by kernel_rfl, by kernel_rfl, by kernel_rfl⟩
theorem keyedQ : Keyed Try.prog 85 := Keyed.of_law arrQ.law
theorem types_pos : 0 < Try.prog.types.size := of_decide_eq_true (by kernel_rfl)
theorem types_some : ∃ m, Try.prog.types.size = m + 1 := ⟨Try.prog.types.size - 1, by have := types_pos; omega⟩
/-- Forty numbers, as an array. -/
def arV (g : Nat → Nat) : Array Value := ((List.range 40).map fun i => Value.int .i64 ((g i : Nat) : Int)).toArray
theorem arV_at (g : Nat → Nat) {i : Nat} (h : i < 40) : (arV g)[i]? = some (.int .i64 (g i : Nat)) := by simp [arV, h]
/-- The key of a list. -/
def kQ (g : Nat → Nat) : Lit := .string (keyBytes ((List.range 40).map fun i => Lit.int .i64 ((g i : Nat) : Int)))
theorem keyQ_of {g : Nat → Nat} (hg : ∀ i, i < 40 → g i ≤ 1000) : keyOf Try.prog 85 (.agg (arV g)) = some (kQ g) :=
  keyOf_ints arrQ Try.underlying3 types_some (fun i => ((g i : Nat) : Int)) (fun i hi => small_wf (hg i hi))
theorem kQ_inj {g h : Nat → Nat} (hg : ∀ i, i < 40 → g i ≤ 1000) (hh : ∀ i, i < 40 → h i ≤ 1000) (e : kQ g = kQ h) : ∀ i, i < 40 → g i = h i := fun i hi => by
  have k := keyedQ.inj (keyQ_of hg) (by rw [e]; exact keyQ_of hh)
  have k2 : arV g = arV h := by injection k
  have h1 := arV_at g hi
  rw [k2, arV_at h hi] at h1
  simp at h1
  omega
theorem kQ_congr {g h : Nat → Nat} (e : ∀ i, i < 40 → g i = h i) : kQ g = kQ h := by
  unfold kQ
  rw [List.map_congr_left (fun i hi => by rw [e i (List.mem_range.1 hi)])]
theorem kQ_key (g : Nat → Nat) : WideAt.IsKeyLit (kQ g) := trivial
end Go.Proofs.Ytappekjkcgmheaa
