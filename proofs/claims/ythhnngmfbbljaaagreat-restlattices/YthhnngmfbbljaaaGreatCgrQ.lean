/-
  Rows of numbers in a row of the call's own. Conditions: as each theorem says.
  What quotient.Check answers, whatever it is handed. No condition but that slices read as slices of rows and of numbers.
  What slices.Max answers of numbers. Conditions: at least one number, at most forty.
  What quotient.Congruent answers, whatever it is handed. No condition but that slices read as slices of rows and of numbers.
  What quotient.Congruent answers, whatever it is handed. No condition but that slices read as slices of rows and of numbers.
-/
import Derived.Test.YthhnngmfbbljaaaGreatShkM
import Derived.Test.YthhnngmfbbljaaaGreatLRows
import Derived.Test.YthhnngmfbbljaaaGreatTabs
import Derived.Deep.RegionHeld3
import Derived.BigQuiet
import Derived.Test.YthhnngmfbbljaaaGreatShfP
import Derived.Test.YthhnngmfbbljaaaGreatLaws
import Derived.Test.YthhnngmfbbljaaaGreatQuM
namespace Go.Proofs.YthhnngmfbbljaaaGreat
set_option maxRecDepth 100000
open Go.RowKit

/-- Rows of numbers in a row of the call's own: the first k of n are there. -/
structure CM (w : World) (B : Nat) (r : Nat → Nat) (n Wn k : Nat) (G : Nat → Nat → Nat) : Prop where
  cells : ∀ j, j < k → w.cell? ⟨B, j, none⟩ = some (.slice (some ⟨r j, 0, none⟩) Wn Wn)
  rest : ∀ j, k ≤ j → j < n → w.cell? ⟨B, j, none⟩ = some (.slice none 0 0)
  froz : ∀ j, j < n → w.frozen? ⟨B, j, none⟩ = false
  rows : ∀ j, j < k → Own w (r j) Wn (G j)
  lt : ∀ j, j < k → B < r j ∧ r j < w.heap.size
  inj : ∀ i j, i < k → j < k → i ≠ j → r i ≠ r j
  ltB : B < w.heap.size
theorem CM.step {w w' : World} {B : Nat} {r : Nat → Nat} {n Wn k : Nat} {G : Nat → Nat → Nat} (h : CM w B r n Wn k G) (hb : Below w.heap.size w w') : CM w' B r n Wn k G where
  cells j hj := (hb.cell (p := ⟨B, j, none⟩) h.ltB).trans (h.cells j hj)
  rest j h1 h2 := (hb.cell (p := ⟨B, j, none⟩) h.ltB).trans (h.rest j h1 h2)
  froz j hj := (hb.frozen (p := ⟨B, j, none⟩) h.ltB).trans (h.froz j hj)
  rows j hj := (h.rows j hj).keep hb (h.lt j hj).2
  lt j hj := ⟨(h.lt j hj).1, Nat.lt_of_lt_of_le (h.lt j hj).2 hb.size⟩
  inj := h.inj
  ltB := Nat.lt_of_lt_of_le h.ltB hb.size
theorem CM.row {w w2 : World} {B : Nat} {r : Nat → Nat} {n Wn k : Nat} {G : Nat → Nat → Nat} (h : CM w B r n Wn k G) (hb : Below w.heap.size w w2) (hk : k < n) (hO : Own w2 w.heap.size Wn (fun _ => 0)) (hlt : w.heap.size < w2.heap.size) :
    CM (w2.setCell ⟨B, k, none⟩ (.slice (some ⟨w.heap.size, 0, none⟩) Wn Wn)) B (fun j => if j = k then w.heap.size else r j) n Wn (k + 1) (fun j => if j = k then fun _ => 0 else G j) where
  cells j hj := by
    have h2 := h.step hb
    by_cases e : j = k
    · subst e; simp only [if_true]; exact World.cell?_setCell_same _ _ _ (h2.rest j (Nat.le_refl _) hk)
    · simp only [e, if_false]
      rw [World.cell?_setCell_other _ _ _ _ (fun x => by injection x with _ x2; omega)]
      exact h2.cells j (by omega)
  rest j h1 h3 := by
    rw [World.cell?_setCell_other _ _ _ _ (fun x => by injection x with _ x2; omega)]
    exact (h.step hb).rest j (by omega) h3
  froz j hj := by rw [World.frozen?_setCell]; exact (h.step hb).froz j hj
  rows j hj := by
    by_cases e : j = k
    · subst e
      simp only [if_true]
      intro q hq
      rw [World.frozen?_setCell, World.cell?_setCell_other _ _ _ _ (fun x => by injection x with x1; have := h.ltB; omega)]
      exact hO q hq
    · simp only [e, if_false]
      intro q hq
      have := (h.lt j (by omega)).1
      rw [World.frozen?_setCell, World.cell?_setCell_other _ _ _ _ (fun x => by injection x with x1; omega)]
      exact (h.step hb).rows j (by omega) q hq
  lt j hj := by
    simp only [World.size_setCell]
    by_cases e : j = k
    · simp only [e, if_true]; exact ⟨h.ltB, hlt⟩
    · simp only [e, if_false]; have := h.lt j (by omega); omega
  inj i j hi hj hij := by
    by_cases e1 : i = k
    · by_cases e2 : j = k
      · omega
      · simp only [e1, e2, if_true, if_false]; have := h.lt j (by omega); omega
    · by_cases e2 : j = k
      · simp only [e1, e2, if_true, if_false]; have := h.lt i (by omega); omega
      · simp only [e1, e2, if_false]; exact h.inj i j (by omega) (by omega) hij
  ltB := by simp only [World.size_setCell]; have := h.ltB; omega
theorem CM.set {w : World} {B : Nat} {r : Nat → Nat} {n Wn k : Nat} {G : Nat → Nat → Nat} (h : CM w B r n Wn k G) {i u x : Nat} (hi : i < k) (hu : u < Wn) :
    CM (w.setCell ⟨r i, u, none⟩ (.int .i64 (x : Nat))) B r n Wn k (fun j => if j = i then upd (G i) u x else G j) where
  cells j hj := by
    have := (h.lt i hi).1
    rw [World.cell?_setCell_other _ _ _ _ (fun y => by injection y with x1; omega)]; exact h.cells j hj
  rest j h1 h3 := by
    have := (h.lt i hi).1
    rw [World.cell?_setCell_other _ _ _ _ (fun y => by injection y with x1; omega)]; exact h.rest j h1 h3
  froz j hj := by rw [World.frozen?_setCell]; exact h.froz j hj
  rows j hj := by
    by_cases e : j = i
    · subst e; simp only [if_true]; exact (h.rows j hj).set u x hu
    · simp only [e, if_false]
      intro q hq
      have := h.inj i j hi hj (fun e2 => e e2.symm)
      rw [World.frozen?_setCell, World.cell?_setCell_other _ _ _ _ (fun y => by injection y with x1; omega)]
      exact h.rows j hj q hq
  lt j hj := by simp only [World.size_setCell]; exact h.lt j hj
  inj := h.inj
  ltB := by simp only [World.size_setCell]; exact h.ltB
theorem CM.congr {w : World} {B : Nat} {r : Nat → Nat} {n Wn k : Nat} {G H : Nat → Nat → Nat} (h : CM w B r n Wn k G) (he : ∀ j, j < k → G j = H j) : CM w B r n Wn k H :=
  ⟨h.cells, h.rest, h.froz, fun j hj => by rw [← he j hj]; exact h.rows j hj, h.lt, h.inj, h.ltB⟩
theorem CM.rr {w : World} {B : Nat} {r : Nat → Nat} {n Wn : Nat} {G : Nat → Nat → Nat} (h : CM w B r n Wn n G) (hW : Wn ≤ maxLen) : RR w (some ⟨B, 0, none⟩) n (fun j => (some ⟨r j, 0, none⟩, Wn, Wn)) (fun j u => (G j u : Nat)) := fun k hk =>
  ⟨B, 0, rfl, by rw [Nat.zero_add]; exact h.cells k hk, hW, (h.rows k hk).row⟩
theorem rowsl_made {w : World} {base b m : Nat} (h : w.ownsRow base 22 1 (.slice (some ⟨b, 0, none⟩) m m) m (madeCells (Value.slice none 0 0).cells (m * 1)).toList) : ∀ j, j < m → w.cell? ⟨b, j, none⟩ = some (.slice none 0 0) ∧ w.frozen? ⟨b, j, none⟩ = false := fun k hk => by
  refine ⟨?_, h.frozenAt k⟩
  rw [h.cellAt k (by omega)]
  have e : (Value.slice none 0 0).cells = #[Value.slice none 0 0] := rfl
  rw [e, toList_madeCells_one]
  simp [hk]
end Go.Proofs.YthhnngmfbbljaaaGreat
namespace Go.Proofs.YthhnngmfbbljaaaGreat
open Go.RowKit
set_option maxRecDepth 100000

/-- How many classes have begun ahead of an element. -/
def bgI (f : Nat → Int) : Nat → Int
  | 0 => 0
  | k + 1 => if f k + 1 > bgI f k then f k + 1 else bgI f k
/-- Each class begins in its turn. -/
def RisC (f : Nat → Int) (q : Nat) : Prop := ∀ k, k < q → pnt (f k) (bgI f k + 1) = true
theorem bgI_range {f : Nat → Int} : ∀ {k : Nat}, RisC f k → 0 ≤ bgI f k ∧ bgI f k ≤ k
  | 0, _ => by simp [bgI]
  | k + 1, h => by
    have ih := bgI_range (f := f) (k := k) (fun i hi => h i (by omega))
    have hk : 0 ≤ f k ∧ f k < bgI f k + 1 := by simpa [pnt] using h k (by omega)
    rw [bgI]
    split <;> omega
theorem RisC.succ {f : Nat → Int} {k : Nat} (h : RisC f k) (e : pnt (f k) (bgI f k + 1) = true) : RisC f (k + 1) := fun i hi => by
  by_cases hk : i = k
  · subst hk; exact e
  · exact h i (by omega)
/-- What Check must answer of classes. -/
def QCk (n : Int) (la : Nat) (SA : Nat → Option Addr × Nat × Nat) (FA : Nat → Nat → Int) (lb : Nat) (SB : Nat → Option Addr × Nat × Nat) (FB : Nat → Nat → Int) (m : Nat) (f : Nat → Int) (c : Int) : Prop :=
  (c ≠ 0 ∧ LCk n la SA FA lb SB FB c) ∨ (LCk n la SA FA lb SB FB 0 ∧ ((c = 1 ∧ (m : Int) ≠ n) ∨ ((m : Int) = n ∧ ((c = 3 ∧ ¬ RisC f m) ∨ (c = 0 ∧ RisC f m)))))

set_option maxHeartbeats 4000000 in
theorem qCheck_any (n : Int) (a : Option Addr) (la ca : Nat) (SA : Nat → Option Addr × Nat × Nat) (FA : Nat → Nat → Int) (b : Option Addr) (lb cb : Nat) (SB : Nat → Option Addr × Nat × Nat) (FB : Nat → Nat → Int) (p : Option Addr) (m cm : Nat) (f : Nat → Int) (w : World) (hla : la ≤ maxLen) (hlb : lb ≤ maxLen) (hra : RR w a la SA FA) (hrb : RR w b lb SB FB) (hrp : Row w p m f) :
    Calls Tryz.prog 70 #[.agg #[.int .i64 n, .slice a la ca, .slice b lb cb], .slice p m cm] w fun e w' => (∃ c, e = .returned (.int .i64 c) ∧ QCk n la SA FA lb SB FB m f c) ∧ Below w.heap.size w w' := by
  have hb0 : Below w.heap.size w (w.alloc (.cells #[.int .i64 n, .slice a la ca, .slice b lb cb] 27)) := (Below.refl _ _).alloc (Nat.le_refl _) _
  have HC := (show Hid _ from lCheck_any n a la ca SA FA b lb cb SB FB _ hla hlb (hra.below hb0) (hrb.below hb0))
  have HB0 : Hid (Below w.heap.size w (w.alloc (.cells #[.int .i64 n, .slice a la ca, .slice b lb cb] 27))) := hb0
  have HK0 : Hid (LB (w.alloc (.cells #[.int .i64 n, .slice a la ca, .slice b lb cb] 27)) w.heap.size n a la ca b lb cb) := LB.new _ _ _ _ _ _ _ _
  have HRP : Hid (Row w p m f) := hrp
  clear hra hrb hrp hb0
  go_enter Tryz.func70, Tryz.ntmps70
  go_wp2_with fail
  refine Calls.mono HC.out ?_
  rintro e w1 ⟨⟨c, rfl, hc⟩, hb1⟩
  have k0 := (HK0.out.step hb1).1
  have HB1 : Hid (Below w.heap.size w w1) := Below.then HB0.out hb1
  have HR1 : Hid (Row w1 p m f) := HRP.out.below HB1.out
  have HCK : Hid (LCk n la SA FA lb SB FB c) := hc
  clear hc hb1 HC HB0 HK0 HRP
  by_cases h0 : c = 0
  · subst h0
    by_cases hmn : (m : Int) = n
    · subst hmn
      obtain ⟨q, hq, h1, h40, _⟩ := HCK.out.good
      obtain rfl : m = q := by omega
      have HQ : Hid (∀ c, ((c = 3 ∧ ¬ RisC f m) ∨ (c = 0 ∧ RisC f m)) → QCk (m : Int) la SA FA lb SB FB m f c) := fun c h => .inr ⟨HCK.out, .inr ⟨rfl, h⟩⟩
      clear HCK hq
      go_wp2_with fail
      go_loopw [21, 6] (fun i s wx => ∃ k : Nat, k ≤ m ∧ i = .int .i64 k ∧ s = .int .i64 (bgI f k) ∧ Hid (RisC f k) ∧ w1 = wx) (fun i _ _ => m - (intOf i).toNat)
      case atStart => exact ⟨0, Nat.zero_le _, rfl, rfl, fun i hi => absurd hi (Nat.not_lt_zero _), rfl⟩
      case round =>
        obtain ⟨k, hk, rfl, rfl, HRK, rfl⟩ := hrel
        have hg := bgI_range HRK.out
        by_cases hlt : k < m
        · have hlk : (k : Int) < (m : Int) := by omega
          obtain ⟨bp, op, rfl, hcc⟩ := HR1.out.at hlt
          have ck := hcc k hlt
          clear hcc
          have HS : Hid (∀ e : pnt (f k) (bgI f k + 1) = true, RisC f (k + 1)) := fun e => HRK.out.succ e
          have HN : Hid (bgI f (k + 1) = if f k + 1 > bgI f k then f k + 1 else bgI f k) := rfl
          cases hp : pnt (f k) (bgI f k + 1)
          · have HF : Hid (QCk (m : Int) la SA FA lb SB FB m f 3) := HQ.out 3 (.inl ⟨rfl, fun h => by rw [h k hlt] at hp; cases hp⟩)
            clear HN HS HRK
            generalize bgI f k = G at *
            go_wp2_with fail
            refine (isPoint_as (f k) (G + 1) _ false hp).mono ?_
            rintro e w2 ⟨rfl, rfl⟩
            clear hp
            go_wp2_with fail
            go_ret
            exact ⟨⟨_, rfl, HF.out⟩, HB1.out⟩
          · have hf : 0 ≤ f k ∧ f k < bgI f k + 1 := by simpa [pnt] using hp
            have HRS : Hid (RisC f (k + 1)) := HS.out hp
            clear HS HRK
            generalize bgI f k = G at *
            go_wp2_with fail
            refine (isPoint_as (f k) (G + 1) _ true hp).mono ?_
            rintro e w2 ⟨rfl, rfl⟩
            clear hp
            go_wp2_with fail
            go_roundw
            case rel => exact ⟨k + 1, by omega, by go_num, by rw [HN.out], HRS.out, by trivial⟩
            case measure => simp [intOf]; omega
        · obtain rfl : m = k := by omega
          have HF : Hid (QCk (m : Int) la SA FA lb SB FB m f 0) := HQ.out 0 (.inr ⟨rfl, HRK.out⟩)
          clear HRK HQ
          go_wp2_with fail
          go_ret
          exact ⟨⟨_, rfl, HF.out⟩, HB1.out⟩
    · have hne : ((m : Int) != n) = true := by simp [hmn]
      have HF : Hid (QCk n la SA FA lb SB FB m f 1) := .inr ⟨HCK.out, .inl ⟨rfl, hmn⟩⟩
      clear HCK HR1
      go_wp2_with fail
      go_ret
      exact ⟨⟨_, rfl, HF.out⟩, HB1.out⟩
  · have hne : (c != 0) = true := by simp [h0]
    have HF : Hid (QCk n la SA FA lb SB FB m f c) := .inl ⟨h0, HCK.out⟩
    clear HCK HR1
    go_wp2_with fail
    go_ret
    exact ⟨⟨_, rfl, HF.out⟩, HB1.out⟩
end Go.Proofs.YthhnngmfbbljaaaGreat
namespace Go.Proofs.YthhnngmfbbljaaaGreat
open Go.RowKit
set_option maxRecDepth 100000

/-- The greatest of the first k + 1. -/
def mxI (f : Nat → Int) : Nat → Int
  | 0 => f 0
  | k + 1 => if f (k + 1) > mxI f k then f (k + 1) else mxI f k
theorem mxI_ge {f : Nat → Int} : ∀ {k i : Nat}, i ≤ k → f i ≤ mxI f k
  | 0, i, h => by obtain rfl : i = 0 := by omega
                  exact Int.le_refl _
  | k + 1, i, h => by
    rw [mxI]
    by_cases e : i = k + 1
    · subst e; split <;> omega
    · have := mxI_ge (f := f) (show i ≤ k by omega)
      split <;> omega
theorem mxI_is (f : Nat → Int) : ∀ k : Nat, ∃ i, i ≤ k ∧ mxI f k = f i
  | 0 => ⟨0, Nat.le_refl _, rfl⟩
  | k + 1 => by
    rw [mxI]
    split
    · exact ⟨k + 1, Nat.le_refl _, rfl⟩
    · obtain ⟨i, hi, e⟩ := mxI_is f k
      exact ⟨i, by omega, e⟩

set_option maxHeartbeats 2000000 in
theorem max_any (p : Option Addr) (m cm : Nat) (f : Nat → Int) (w : World) (h1 : 1 ≤ m) (h40 : m ≤ 40) (hr : Row w p m f) :
    Calls Tryz.prog 44 #[.slice p m cm] w fun e w' => e = .returned (.int .i64 (mxI f (m - 1))) ∧ w = w' := by
  obtain ⟨b, off, rfl, hcc⟩ := hr.at (show 0 < m by omega)
  have c0 := hcc 0 (by omega)
  have HCC : Hid (∀ k, k < m → w.cell? ⟨b, off + k, none⟩ = some (.int .i64 (f k))) := hcc
  rw [Nat.add_zero] at c0
  have hm1 : ¬ ((m : Int) < 1) := by omega
  have hm0 : (0 : Int) < (m : Int) := by omega
  clear hcc hr
  go_enter Tryz.func44, Tryz.ntmps44
  go_wp2_with fail
  go_loopw [4, 3] (fun i s wx => ∃ k : Nat, k < m ∧ i = .int .i64 ((k + 1 : Nat) : Int) ∧ s = .int .i64 (mxI f k) ∧ w = wx) (fun i _ _ => m + 1 - (intOf i).toNat)
  case atStart => exact ⟨0, by omega, rfl, rfl, rfl⟩
  case round =>
    obtain ⟨k, hk, rfl, rfl, rfl⟩ := hrel
    by_cases hlt : k + 1 < m
    · have hlk : ((k + 1 : Nat) : Int) < (m : Int) := by omega
      have ck := HCC.out (k + 1) hlt
      have HN : Hid (mxI f (k + 1) = if f (k + 1) > mxI f k then f (k + 1) else mxI f k) := rfl
      generalize hK : k + 1 = K at *
      generalize mxI f k = G at *
      go_wp2_with fail
      go_roundw
      case rel => exact ⟨K, by omega, by go_num, by rw [HN.out], by trivial⟩
      case measure => simp [intOf]; omega
    · have hle : ¬ (((k + 1 : Nat) : Int) < (m : Int)) := by omega
      have HE : Hid (mxI f (m - 1) = mxI f k) := by rw [show m - 1 = k by omega]; exact rfl
      go_wp2_with fail
      go_ret
      exact ⟨by rw [HE.out]; rfl, by trivial⟩
end Go.Proofs.YthhnngmfbbljaaaGreat
namespace Go.Proofs.YthhnngmfbbljaaaGreat
open Go.RowKit
set_option maxRecDepth 100000

/-- Are two of one class torn apart? -/
def tornB (c : Nat → Nat) (m j : Nat → Nat → Nat) (x y z : Nat) : Bool := (c x == c y) && (!(c (m x z) == c (m y z)) || !(c (j x z) == c (j y z)))
theorem ent_congruent1 : Ent 72 := fun _ _ => rfl
theorem int_bne {a b : Nat} {v : Bool} (h : (a == b) = v) : (((a : Nat) : Int) != ((b : Nat) : Int)) = !v := by
  rw [← h, ← int_beq]; rfl

set_option maxHeartbeats 8000000 in
theorem congruent1_any (n kb lb b off ca b' off' cb p o cm : Nat) (R R' : Nat → Nat × Nat × Nat) (m j : Nat → Nat → Nat) (c : Nat → Nat) (w : World) (_ : n ≤ 40) (hm : Inn n m) (hj : Inn n j)
    (hc : w.cell? ⟨kb, 0, none⟩ = some (.slice (some ⟨p, o, none⟩) n cm)) (hl : LB w lb n (some ⟨b, off, none⟩) n ca (some ⟨b', off', none⟩) n cb) (ht : Tb w b off n R m) (ho : Tb w b' off' n R' j) (hr : ∀ i, i < n → w.cell? ⟨p, o + i, none⟩ = some (.int .i64 (c i : Nat))) :
    Clo n 72 #[.pointer (some ⟨kb, 0, none⟩), .pointer (some ⟨lb, 0, none⟩)] (tornB c m j) w := fun x y z hx hy hz W hW => by
  show Calls Tryz.prog 72 #[.int .i64 (x : Nat), .int .i64 (y : Nat), .int .i64 (z : Nat), .pointer (some ⟨kb, 0, none⟩), .pointer (some ⟨lb, 0, none⟩)] W _
  have cT := cell_step hW hc
  have cM := cell_step hW hl.2.1
  have cJ := cell_step hW hl.2.2
  have hmx := hm x z hx hz
  have hmy := hm y z hy hz
  have hjx := hj x z hx hz
  have hjy := hj y z hy hz
  have r1 := ((ht.step hW) x hx).1
  have r2 := ((ht.step hW) y hy).1
  have r3 := ((ho.step hW) x hx).1
  have r4 := ((ho.step hW) y hy).1
  have e1 := ((ht.step hW) x hx).2 z hz
  have e2 := ((ht.step hW) y hy).2 z hz
  have e3 := ((ho.step hW) x hx).2 z hz
  have e4 := ((ho.step hW) y hy).2 z hz
  have f1 := cell_step hW (hr x hx)
  have f2 := cell_step hW (hr y hy)
  have f3 := cell_step hW (hr _ hmx)
  have f4 := cell_step hW (hr _ hmy)
  have f5 := cell_step hW (hr _ hjx)
  have f6 := cell_step hW (hr _ hjy)
  clear ht ho hc hl hm hj hW hr
  unfold tornB
  obtain ⟨v1, hv1⟩ : ∃ v, (c x == c y) = v := ⟨_, rfl⟩
  obtain ⟨v2, hv2⟩ : ∃ v, (c (m x z) == c (m y z)) = v := ⟨_, rfl⟩
  obtain ⟨v3, hv3⟩ : ∃ v, (c (j x z) == c (j y z)) = v := ⟨_, rfl⟩
  rw [hv1, hv2, hv3]
  have g2 := int_bne hv2
  have g3 := int_bne hv3
  rw [← int_beq] at hv1 hv2 hv3
  have ix : (x : Int) < (n : Int) := by omega
  have iy : (y : Int) < (n : Int) := by omega
  have iz : (z : Int) < (n : Int) := by omega
  have i1 : ((m x z : Nat) : Int) < (n : Int) := by omega
  have i2 : ((m y z : Nat) : Int) < (n : Int) := by omega
  have i3 : ((j x z : Nat) : Int) < (n : Int) := by omega
  have i4 : ((j y z : Nat) : Int) < (n : Int) := by omega
  have hKK : Hid (Below W.heap.size W W) := Below.refl _ _
  rcases v1 with _ | _
  · go_enter Tryz.func72, Tryz.ntmps72
    go_wp2
    try simp only [List.append_eq, List.cons_append, List.nil_append]
    go_big_quiet (fail)
    go_wp2
    go_ret
    exact ⟨rfl, below_drewN hKK.out _⟩
  · rcases v2 with _ | _
    · go_enter Tryz.func72, Tryz.ntmps72
      go_wp2
      try simp only [List.append_eq, List.cons_append, List.nil_append]
      go_big_quiet (fail)
      go_wp2
      go_ret
      exact ⟨rfl, below_drewN hKK.out _⟩
    · rcases v3 with _ | _
      · go_enter Tryz.func72, Tryz.ntmps72
        go_wp2
        try simp only [List.append_eq, List.cons_append, List.nil_append]
        go_big_quiet (fail)
        go_wp2
        go_ret
        exact ⟨rfl, below_drewN hKK.out _⟩
      · go_enter Tryz.func72, Tryz.ntmps72
        go_wp2
        try simp only [List.append_eq, List.cons_append, List.nil_append]
        go_big_quiet (fail)
        go_wp2
        go_ret
        exact ⟨rfl, below_drewN hKK.out _⟩
end Go.Proofs.YthhnngmfbbljaaaGreat
namespace Go.Proofs.YthhnngmfbbljaaaGreat
open Go.RowKit
set_option maxRecDepth 100000

theorem torn_con {n : Nat} {c : Nat → Nat} {m j : Nat → Nat → Nat} {l : List Nat} {ok : Bool} (h : First3 n (tornB c m j) l ok) : (!ok) = true ↔ Con n m j c := by
  rcases h with ⟨rfl, x, y, z, ⟨hx, hy, hz⟩, hp, _, _⟩ | ⟨rfl, _, hu⟩
  · constructor
    · intro h; cases h
    · intro hc
      unfold tornB at hp
      simp only [Bool.and_eq_true, beq_iff_eq, Bool.or_eq_true, Bool.not_eq_true', beq_eq_false_iff_ne] at hp
      have := hc x y z hx hy hz hp.1
      rcases hp.2 with h | h
      · exact absurd this.1 h
      · exact absurd this.2 h
  · constructor
    · intro _ x y z hx hy hz e
      have := hu x y z hx hy hz
      unfold tornB at this
      simp [e] at this
      exact this
    · intro _; rfl
/-- The classes as numbers. -/
def natF (f : Nat → Int) (i : Nat) : Nat := (f i).toNat
theorem QCk.good {n : Int} {la : Nat} {SA : Nat → Option Addr × Nat × Nat} {FA : Nat → Nat → Int} {lb : Nat} {SB : Nat → Option Addr × Nat × Nat} {FB : Nat → Nat → Int} {m : Nat} {f : Nat → Int} (h : QCk n la SA FA lb SB FB m f 0) : LCk n la SA FA lb SB FB 0 ∧ (m : Int) = n ∧ RisC f m := by
  rcases h with ⟨h, _⟩ | ⟨h1, ⟨h, _⟩ | ⟨h2, ⟨h, _⟩ | ⟨_, h3⟩⟩⟩
  · exact absurd rfl h
  · omega
  · omega
  · exact ⟨h1, h2, h3⟩

set_option maxHeartbeats 4000000 in
theorem congruent_any (n : Int) (a : Option Addr) (la ca : Nat) (SA : Nat → Option Addr × Nat × Nat) (FA : Nat → Nat → Int) (b : Option Addr) (lb cb : Nat) (SB : Nat → Option Addr × Nat × Nat) (FB : Nat → Nat → Int) (p : Option Addr) (m cm : Nat) (f : Nat → Int) (w : World) (hla : la ≤ maxLen) (hlb : lb ≤ maxLen) (hra : RR w a la SA FA) (hrb : RR w b lb SB FB) (hrp : Row w p m f) :
    Calls Tryz.prog 43 #[.agg #[.int .i64 n, .slice a la ca, .slice b lb cb], .slice p m cm] w fun e w' => (∃ c v, e = .returned (.tuple #[.bool v, .int .i64 c]) ∧ QCk n la SA FA lb SB FB m f c ∧ ((c ≠ 0 ∧ v = false) ∨ (c = 0 ∧ (v = true ↔ Con m (nat2 FA) (nat2 FB) (natF f))))) ∧ Below w.heap.size w w' := by
  have hb0 : Below w.heap.size w ((w.alloc (.cells #[.int .i64 n, .slice a la ca, .slice b lb cb] 27)).alloc (.cells #[.slice p m cm] 22)) := ((Below.refl _ _).alloc (Nat.le_refl _) _).alloc (by simp) _
  have HC := (show Hid _ from qCheck_any n a la ca SA FA b lb cb SB FB p m cm f _ hla hlb (hra.below hb0) (hrb.below hb0) (hrp.below hb0))
  have HB0 := (show Hid _ from hb0)
  have HK0 : Hid (LB ((w.alloc (.cells #[.int .i64 n, .slice a la ca, .slice b lb cb] 27)).alloc (.cells #[.slice p m cm] 22)) w.heap.size n a la ca b lb cb) := (LB.new w n a la ca b lb cb).step ((Below.refl _ _).alloc (Nat.le_refl _) _)
  have HC0 : Hid (((w.alloc (.cells #[.int .i64 n, .slice a la ca, .slice b lb cb] 27)).alloc (.cells #[.slice p m cm] 22)).cell? ⟨w.heap.size + 1, 0, none⟩ = some (.slice p m cm)) := by simp [Hid]
  have HRA : Hid (RR w a la SA FA) := hra
  have HRB : Hid (RR w b lb SB FB) := hrb
  have HRP : Hid (Row w p m f) := hrp
  clear hra hrb hrp hb0
  go_enter Tryz.func43, Tryz.ntmps43
  go_wp2_with fail
  refine Calls.mono HC.out ?_
  rintro e w1 ⟨⟨c, rfl, hc⟩, hb1⟩
  have HK1 : Hid (LB w1 w.heap.size n a la ca b lb cb) := HK0.out.step hb1
  have HC1 : Hid (w1.cell? ⟨w.heap.size + 1, 0, none⟩ = some (.slice p m cm)) := cell_step hb1 HC0.out
  have HB1 : Hid (Below w.heap.size w w1) := Below.then HB0.out hb1
  have HCK : Hid (QCk n la SA FA lb SB FB m f c) := hc
  clear hc hb1 HC HB0 HK0 HC0
  by_cases h0 : c = 0
  · subst h0
    obtain ⟨hlk, hmn, hri⟩ := HCK.out.good
    subst hmn
    obtain ⟨q, hq, h1, h40, rfl, rfl, hsa, hsb, hga, hgb, _⟩ := hlk.good
    obtain rfl : m = lb := by omega
    obtain ⟨bA, oA, rfl, hta, hia⟩ := HRA.out.tb h1 hsa hga
    obtain ⟨bB, oB, rfl, htb, hib⟩ := HRB.out.tb h1 hsb hgb
    obtain ⟨bp, op, rfl, hcc⟩ := (HRP.out.below HB1.out).at (show 0 < m by omega)
    have hnn : ∀ i, i < m → w1.cell? ⟨bp, op + i, none⟩ = some (.int .i64 (natF f i : Nat)) := fun i hi => by
      have hp : 0 ≤ f i ∧ f i < bgI f i + 1 := by simpa [pnt] using hri i hi
      rw [hcc i hi, show ((natF f i : Nat) : Int) = f i from Int.toNat_of_nonneg hp.1]
    have HQ := (show Hid _ from congruent1_any m (w.heap.size + 1) w.heap.size bA oA ca bB oB cb bp op cm _ _ (nat2 FA) (nat2 FB) (natF f) w1 h40 hia hib HC1.out HK1.out (Tb.step hta HB1.out) (Tb.step htb HB1.out) hnn)
    have k0 := HK1.out.1
    clear hlk hri hq hsa hsb hga hgb hta htb hia hib HRA HRB HRP hcc hnn HK1 HC1
    go_wp2_with fail
    refine (three_any m 72 _ _ _ h40 ent_congruent1 HQ.out).mono ?_
    rintro e w2 ⟨⟨v, l, ok, rfl, h3, _⟩, hb2⟩
    have HB2 : Hid (Below w.heap.size w w2) := Below.then HB1.out hb2
    have HT : Hid ((!ok) = true ↔ Con m (nat2 FA) (nat2 FB) (natF f)) := torn_con h3
    clear h3 hb2 HQ HB1 k0
    go_wp2_with fail
    go_ret2
    exact ⟨⟨_, _, rfl, HCK.out, .inr ⟨rfl, HT.out⟩⟩, HB2.out⟩
  · have hne : (c != 0) = true := by simp [h0]
    clear HRA HRB HRP HK1 HC1
    go_wp2_with fail
    go_ret2
    exact ⟨⟨_, _, rfl, HCK.out, .inl ⟨h0, rfl⟩⟩, HB1.out⟩
end Go.Proofs.YthhnngmfbbljaaaGreat
