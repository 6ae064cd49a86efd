/-
  Small functions that counts ask: sets.UpTo, the reference's Upto; rows of numbers in a row. Conditions: as each theorem says.
-/
import Derived.Test.YtomoodpgmkjacabDoorClB
import Derived.Test.YtomoodpgmkjacabDoorMemN
import Derived.Deep.RegionHeld3
import Derived.BigQuiet
import Derived.Deep.Cut
namespace Go.Proofs.YtomoodpgmkjacabDoor
set_option maxRecDepth 100000
open Go.RowKit

/-- Is a below b, or b? -/
def upt (g : Nat → Nat) (a b : Nat) : Bool := decide (a = b) || (g b).testBit a
/-- A point and all below it. -/
def upto (g : Nat → Nat) (k : Nat) : Nat := g k ||| pw k
theorem upto_bit (g : Nat → Nat) (k i : Nat) : (upto g k).testBit i = upt g i k := by
  unfold upto upt
  rw [Nat.testBit_or, pw_bit, Bool.or_comm]
  congr 1
  by_cases h : k = i
  · subst h; simp
  · have : ¬ i = k := fun e => h e.symm
    simp [h, this]
theorem upto_lt {g : Nat → Nat} {x : Nat} (hg : g x < 1024) (hx : x < 10) : upto g x < 1024 := by
  have : pw x < 2 ^ 10 := Nat.pow_lt_pow_right (by decide) hx
  exact Nat.or_lt_two_pow (n := 10) hg this
set_option maxHeartbeats 1000000 in
theorem upTo_any (n : Int) (a : Option Addr) (len cap : Nat) (g : Nat → Nat) (x : Nat) (w : World) (h10 : len ≤ 10) (hg : ∀ k, k < len → g k < 1024) (hr : Row w a len (fun k => (g k : Nat))) (hx : x < len) :
    Calls Tryd.prog 15 #[.agg #[.int .i64 n, .slice a len cap], .int .i64 (x : Nat)] w fun e w' => e = .returned (.int .i64 (upto g x : Nat)) ∧ Below w.heap.size w w' := by
  have HB0 : Hid (Below w.heap.size w (w.alloc (.cells #[.int .i64 n, .slice a len cap] 26))) := (Below.refl _ _).alloc (Nat.le_refl _) _
  obtain ⟨b, off, rfl, hc⟩ := hr x hx
  have c1 : (w.alloc (.cells #[.int .i64 n, .slice (some ⟨b, off, none⟩) len cap] 26)).cell? ⟨b, off + x, none⟩ = some (.int .i64 (g x : Nat)) := (HB0.out.cell (World.block_lt_of_cell? _ _ hc)).trans hc
  have hx' : (x : Int) < (len : Int) := by omega
  have HV : Hid (bits .or .i64 ((g x : Nat) : Int) (wrap64 (2 ^ x)) = ((upto g x : Nat) : Int)) := by
    rw [wrap_pow x (by omega)]
    refine i64_or _ _ ?_ ?_
    · have := hg x hx; omega
    · have : pw x < 2 ^ 10 := Nat.pow_lt_pow_right (by decide) (by omega)
      omega
  clear hr hc hg
  go_enter Tryd.func15, Tryd.ntmps15
  go_wp2
  go_big_quiet (fail)
  go_wp2
  go_ret
  exact ⟨by rw [← HV.out]; rfl, below_drewN HB0.out _⟩
/-- A slice of m rows. -/
def RR (w : World) (a : Option Addr) (m : Nat) (S : Nat → Option Addr × Nat × Nat) (F : Nat → Nat → Int) : Prop :=
  ∀ k, k < m → ∃ b off, a = some ⟨b, off, none⟩ ∧ w.cell? ⟨b, off + k, none⟩ = some (.slice (S k).1 (S k).2.1 (S k).2.2) ∧ (S k).2.1 ≤ maxLen ∧ Row w (S k).1 (S k).2.1 (F k)
theorem RR.below {w w' : World} {a : Option Addr} {m : Nat} {S : Nat → Option Addr × Nat × Nat} {F : Nat → Nat → Int} (h : RR w a m S F) (hb : Below w.heap.size w w') : RR w' a m S F := fun k hk => by
  obtain ⟨b, off, e, hc, hl, hr⟩ := h k hk
  exact ⟨b, off, e, (hb.cell (World.block_lt_of_cell? _ _ hc)).trans hc, hl, hr.below hb⟩
theorem cell_step {w w' : World} {p : Addr} {v : Value} (hb : Below w.heap.size w w') (h : w.cell? p = some v) : w'.cell? p = some v := (hb.cell (World.block_lt_of_cell? _ _ h)).trans h
/-- The worker of an event. -/
def wrk (E : Nat → Int × Int × Int) (k : Nat) : Nat := (E k).2.1.toNat
/-- How many of a list's events are that worker's. -/
def cntL (E : Nat → Int × Int × Int) (L : List Nat) (u : Nat) : Nat := L.countP (fun k => wrk E k == u)
theorem cntL_nil (E : Nat → Int × Int × Int) : cntL E [] = fun _ => 0 := by funext u; simp [cntL]
theorem cntL_snoc (E : Nat → Int × Int × Int) (L : List Nat) (k : Nat) : cntL E (L ++ [k]) = upd (cntL E L) (wrk E k) (cntL E L (wrk E k) + 1) := by
  funext u
  unfold upd cntL
  rw [List.countP_append]
  by_cases h : u = wrk E k
  · subst h; simp
  · rw [if_neg h]
    have : (wrk E k == u) = false := by simp; exact fun e => h e.symm
    simp [this]
theorem cntL_le (E : Nat → Int × Int × Int) (L : List Nat) (u : Nat) : cntL E L u ≤ L.length := List.countP_le_length
/-- What Counts answers: of each event, of each worker. -/
def cts (E : Nat → Int × Int × Int) (n i : Nat) : Nat → Nat := cntL E (pts (upto (ahd E n) i) 10)
theorem take_snoc {L : List Nat} {m : Nat} (h : m < L.length) : L.take (m + 1) = L.take m ++ [nth L m] := by
  rw [List.take_add_one]
  simp [nth, h]
/-- Rows of numbers in a row of the call's own: the first k of n are there. -/
structure CM (w : World) (B : Nat) (r : Nat → Nat) (n Wn k : Nat) (G : Nat → Nat → Nat) : Prop where
  cells : ∀ j, j < k → w.cell? ⟨B, j, none⟩ = some (.slice (some ⟨r j, 0, none⟩) Wn Wn)
  rest : ∀ j, k ≤ j → j < n → w.cell? ⟨B, j, none⟩ = some (.slice none 0 0)
  froz : ∀ j, j < n → w.frozen? ⟨B, j, none⟩ = false
  rows : ∀ j, j < k → Own w (r j) Wn (G j)
  lt : ∀ j, j < k → B < r j ∧ r j < w.heap.size
  inj : ∀ i j, i < k → j < k → i ≠ j → r i ≠ r j
  ltB : B < w.heap.size
theorem CM.step {w w' : World} {B : Nat} {r : Nat → Nat} {n Wn k : Nat} {G : Nat → Nat → Nat} (h : CM w B r n Wn k G) (hb : Below w.heap.size w w') : CM w' B r n Wn k G where
  cells j hj := (hb.cell (p := ⟨B, j, none⟩) h.ltB).trans (h.cells j hj)
  rest j h1 h2 := (hb.cell (p := ⟨B, j, none⟩) h.ltB).trans (h.rest j h1 h2)
  froz j hj := (hb.frozen (p := ⟨B, j, none⟩) h.ltB).trans (h.froz j hj)
  rows j hj := (h.rows j hj).keep hb (h.lt j hj).2
  lt j hj := ⟨(h.lt j hj).1, Nat.lt_of_lt_of_le (h.lt j hj).2 hb.size⟩
  inj := h.inj
  ltB := Nat.lt_of_lt_of_le h.ltB hb.size
theorem CM.row {w w2 : World} {B : Nat} {r : Nat → Nat} {n Wn k : Nat} {G : Nat → Nat → Nat} (h : CM w B r n Wn k G) (hb : Below w.heap.size w w2) (hk : k < n) (hO : Own w2 w.heap.size Wn (fun _ => 0)) (hlt : w.heap.size < w2.heap.size) :
    CM (w2.setCell ⟨B, k, none⟩ (.slice (some ⟨w.heap.size, 0, none⟩) Wn Wn)) B (fun j => if j = k then w.heap.size else r j) n Wn (k + 1) (fun j => if j = k then fun _ => 0 else G j) where
  cells j hj := by
    have h2 := h.step hb
    by_cases e : j = k
    · subst e; simp only [if_true]; exact World.cell?_setCell_same _ _ _ (h2.rest j (Nat.le_refl _) hk)
    · simp only [e, if_false]
      rw [World.cell?_setCell_other _ _ _ _ (fun x => by injection x with _ x2; omega)]
      exact h2.cells j (by omega)
  rest j h1 h3 := by
    rw [World.cell?_setCell_other _ _ _ _ (fun x => by injection x with _ x2; omega)]
    exact (h.step hb).rest j (by omega) h3
  froz j hj := by rw [World.frozen?_setCell]; exact (h.step hb).froz j hj
  rows j hj := by
    by_cases e : j = k
    · subst e
      simp only [if_true]
      intro q hq
      rw [World.frozen?_setCell, World.cell?_setCell_other _ _ _ _ (fun x => by injection x with x1; have := h.ltB; omega)]
      exact hO q hq
    · simp only [e, if_false]
      intro q hq
      have := (h.lt j (by omega)).1
      rw [World.frozen?_setCell, World.cell?_setCell_other _ _ _ _ (fun x => by injection x with x1; omega)]
      exact (h.step hb).rows j (by omega) q hq
  lt j hj := by
    simp only [World.size_setCell]
    by_cases e : j = k
    · simp only [e, if_true]; exact ⟨h.ltB, hlt⟩
    · simp only [e, if_false]; have := h.lt j (by omega); omega
  inj i j hi hj hij := by
    by_cases e1 : i = k
    · by_cases e2 : j = k
      · omega
      · simp only [e1, e2, if_true, if_false]; have := h.lt j (by omega); omega
    · by_cases e2 : j = k
      · simp only [e1, e2, if_true, if_false]; have := h.lt i (by omega); omega
      · simp only [e1, e2, if_false]; exact h.inj i j (by omega) (by omega) hij
  ltB := by simp only [World.size_setCell]; have := h.ltB; omega
theorem CM.set {w : World} {B : Nat} {r : Nat → Nat} {n Wn k : Nat} {G : Nat → Nat → Nat} (h : CM w B r n Wn k G) {i u x : Nat} (hi : i < k) (hu : u < Wn) :
    CM (w.setCell ⟨r i, u, none⟩ (.int .i64 (x : Nat))) B r n Wn k (fun j => if j = i then upd (G i) u x else G j) where
  cells j hj := by
    have := (h.lt i hi).1
    rw [World.cell?_setCell_other _ _ _ _ (fun y => by injection y with x1; omega)]; exact h.cells j hj
  rest j h1 h3 := by
    have := (h.lt i hi).1
    rw [World.cell?_setCell_other _ _ _ _ (fun y => by injection y with x1; omega)]; exact h.rest j h1 h3
  froz j hj := by rw [World.frozen?_setCell]; exact h.froz j hj
  rows j hj := by
    by_cases e : j = i
    · subst e; simp only [if_true]; exact (h.rows j hj).set u x hu
    · simp only [e, if_false]
      intro q hq
      have := h.inj i j hi hj (fun e2 => e e2.symm)
      rw [World.frozen?_setCell, World.cell?_setCell_other _ _ _ _ (fun y => by injection y with x1; omega)]
      exact h.rows j hj q hq
  lt j hj := by simp only [World.size_setCell]; exact h.lt j hj
  inj := h.inj
  ltB := by simp only [World.size_setCell]; exact h.ltB
theorem CM.congr {w : World} {B : Nat} {r : Nat → Nat} {n Wn k : Nat} {G H : Nat → Nat → Nat} (h : CM w B r n Wn k G) (he : ∀ j, j < k → G j = H j) : CM w B r n Wn k H :=
  ⟨h.cells, h.rest, h.froz, fun j hj => by rw [← he j hj]; exact h.rows j hj, h.lt, h.inj, h.ltB⟩
theorem CM.rr {w : World} {B : Nat} {r : Nat → Nat} {n Wn : Nat} {G : Nat → Nat → Nat} (h : CM w B r n Wn n G) (hW : Wn ≤ maxLen) : RR w (some ⟨B, 0, none⟩) n (fun j => (some ⟨r j, 0, none⟩, Wn, Wn)) (fun j u => (G j u : Nat)) := fun k hk =>
  ⟨B, 0, rfl, by rw [Nat.zero_add]; exact h.cells k hk, hW, (h.rows k hk).row⟩
theorem rowsl_made {w : World} {base b m : Nat} (h : w.ownsRow base 24 1 (.slice (some ⟨b, 0, none⟩) m m) m (madeCells (Value.slice none 0 0).cells (m * 1)).toList) : ∀ j, j < m → w.cell? ⟨b, j, none⟩ = some (.slice none 0 0) ∧ w.frozen? ⟨b, j, none⟩ = false := fun k hk => by
  refine ⟨?_, h.frozenAt k⟩
  rw [h.cellAt k (by omega)]
  have e : (Value.slice none 0 0).cells = #[Value.slice none 0 0] := rfl
  rw [e, toList_madeCells_one]
  simp [hk]
theorem Tryd.infoL : (Tryd.prog.info? 24).map (fun i => (i.zero, i.size, i.bytes)) = some (some (.slice none 0 0), 1, 24) := by kernel_rfl
end Go.Proofs.YtomoodpgmkjacabDoor
