/-
  What the reference's SameOrder and hasselaw.given answer. Conditions: slices read as slices of numbers.
  What order.Dual answers. No condition but that a slice reads as a slice of numbers.
  Lists of numbers as slices. No condition.
  What order.Ideals and the reference's Inside, Ideal and Ideals answer. No condition but that a slice reads as a slice of numbers.
  What tables.Place answers of a list that rises and a number in it: its place. Condition: the list has 1,024 numbers at most.
  Lists of numbers that a test lets by: they rise; where each stands. Ideals: what two have in common, and together, is one. Conditions: as each theorem says.
-/
import Derived.Test.YthhnngmfbbljaaaGreatBuild
namespace Go.Proofs.YthhnngmfbbljaaaGreat
set_option maxRecDepth 100000
open Go.RowKit

def SameOrders (n n' : Int) (la lb : Nat) (f g : Nat → Int) : Prop := n = n' ∧ SameRows la lb f g
/-- What a call answers that hands back an order and an errno. -/
def OrdErr (c : Int) (n : Int) (len : Nat) (F : Nat → Int) (x : Value) (w : World) : Prop :=
  (c ≠ 0 ∧ x = noOrder) ∨ (c = 0 ∧ ∃ a cap, x = .agg #[.int .i64 n, .slice a len cap] ∧ Row w a len F)
theorem OrdErr.step {c n : Int} {len : Nat} {F : Nat → Int} {x : Value} {w w' : World} (h : OrdErr c n len F x w) (hb : Below w.heap.size w w') : OrdErr c n len F x w' := by
  rcases h with h | ⟨h0, a, cap, hx, hr⟩
  · exact .inl h
  · exact .inr ⟨h0, a, cap, hx, hr.below hb⟩

end Go.Proofs.YthhnngmfbbljaaaGreat
namespace Go.Proofs.YthhnngmfbbljaaaGreat
set_option maxRecDepth 100000
open Go.RowKit

theorem k3_step {w0 w1 w2 : World} {n : Int} {a : Option Addr} {len cap : Nat}
    (h : w1.cell? ⟨w0.heap.size, 0, none⟩ = some (.int .i64 n) ∧ w1.cell? ⟨w0.heap.size, 1, none⟩ = some (.slice a len cap) ∧ Below w0.heap.size w0 w1)
    (hb : Below w1.heap.size w1 w2) :
    w2.cell? ⟨w0.heap.size, 0, none⟩ = some (.int .i64 n) ∧ w2.cell? ⟨w0.heap.size, 1, none⟩ = some (.slice a len cap) ∧ Below w0.heap.size w0 w2 :=
  ⟨(hb.cell (World.block_lt_of_cell? _ _ h.1)).trans h.1, (hb.cell (World.block_lt_of_cell? _ _ h.2.1)).trans h.2.1, Below.then h.2.2 hb⟩
theorem k3_below {w0 w1 : World} {n : Int} {a : Option Addr} {len cap : Nat}
    (h : w1.cell? ⟨w0.heap.size, 0, none⟩ = some (.int .i64 n) ∧ w1.cell? ⟨w0.heap.size, 1, none⟩ = some (.slice a len cap) ∧ Below w0.heap.size w0 w1) : Below w0.heap.size w0 w1 := h.2.2
theorem k3_set2 {w0 w1 : World} {n : Int} {a : Option Addr} {len cap : Nat} {u v : Value}
    (h : w1.cell? ⟨w0.heap.size, 0, none⟩ = some (.int .i64 n) ∧ w1.cell? ⟨w0.heap.size, 1, none⟩ = some (.slice a len cap) ∧ Below w0.heap.size w0 w1) :
    ((w1.setCell ⟨w0.heap.size + 1, 0, none⟩ u).setCell ⟨w0.heap.size + 1, 1, none⟩ v).cell? ⟨w0.heap.size, 0, none⟩ = some (.int .i64 n) ∧ ((w1.setCell ⟨w0.heap.size + 1, 0, none⟩ u).setCell ⟨w0.heap.size + 1, 1, none⟩ v).cell? ⟨w0.heap.size, 1, none⟩ = some (.slice a len cap) ∧ Below w0.heap.size w0 ((w1.setCell ⟨w0.heap.size + 1, 0, none⟩ u).setCell ⟨w0.heap.size + 1, 1, none⟩ v) := by
  refine ⟨?_, ?_, set2B h.2.2 (by omega)⟩
  · rw [World.cell?_setCell_other _ _ _ _ (fun e => by injection e with e1; omega), World.cell?_setCell_other _ _ _ _ (fun e => by injection e with e1; omega)]; exact h.1
  · rw [World.cell?_setCell_other _ _ _ _ (fun e => by injection e with e1; omega), World.cell?_setCell_other _ _ _ _ (fun e => by injection e with e1; omega)]; exact h.2.1
def DualPost (n : Int) (len : Nat) (f : Nat → Int) (e : Ending) (w' : World) : Prop :=
  ∃ (c : Int) (x : Value), Chk n len f c ∧ e = .returned (.tuple #[x, .int .i64 c]) ∧ OrdErr c (len : Int) len (fun k => (trn (nat f) len k : Nat)) x w'

/-- A box at block B holds an order. -/
def Box (X : World) (B : Nat) (n : Int) (a : Option Addr) (len cap : Nat) : Prop := X.cell? ⟨B, 0, none⟩ = some (.int .i64 n) ∧ X.cell? ⟨B, 1, none⟩ = some (.slice a len cap)
theorem Box.step {X X' : World} {B : Nat} {n : Int} {a : Option Addr} {len cap : Nat} (h : Box X B n a len cap) (hb : Below X.heap.size X X') : Box X' B n a len cap :=
  ⟨(hb.cell (World.block_lt_of_cell? _ _ h.1)).trans h.1, (hb.cell (World.block_lt_of_cell? _ _ h.2)).trans h.2⟩
theorem Box.new (w : World) (n : Int) (a : Option Addr) (len cap : Nat) : Box (w.alloc (.cells #[.int .i64 n, .slice a len cap] 24)) w.heap.size n a len cap := ⟨by simp, by simp⟩
theorem Box.lt {X : World} {B : Nat} {n : Int} {a : Option Addr} {len cap : Nat} (h : Box X B n a len cap) : B < X.heap.size := World.block_lt_of_cell? _ _ h.1
theorem Box.set2 {X : World} {B : Nat} {n : Int} {a : Option Addr} {len cap : Nat} (h : ZBox X B) : Box ((X.setCell ⟨B, 0, none⟩ (.int .i64 n)).setCell ⟨B, 1, none⟩ (.slice a len cap)) B n a len cap :=
  ⟨by rw [World.cell?_setCell_other _ _ _ _ (fun e => by injection e with _ e2; cases e2)]; exact World.cell?_setCell_same _ _ _ h.1,
   World.cell?_setCell_same _ _ _ (by rw [World.cell?_setCell_other _ _ _ _ (fun e => by injection e with _ e2; cases e2)]; exact h.2.1)⟩
theorem Held.toBox {w : World} {b0 : Nat} {n : Int} {a : Option Addr} {len cap : Nat} {f : Nat → Int} (h : Held w b0 n a len cap f) : Box w b0 n a len cap := ⟨h.1, h.2.1⟩

end Go.Proofs.YthhnngmfbbljaaaGreat
namespace Go.Proofs.YthhnngmfbbljaaaGreat
set_option maxRecDepth 100000
open Go.RowKit

def natVals (l : List Nat) : List Value := l.map fun x => .int .i64 (x : Nat)
theorem natVals_append (l m : List Nat) : natVals (l ++ m) = natVals l ++ natVals m := by simp [natVals]
def nth (l : List Nat) (k : Nat) : Nat := l.getD k 0
theorem natVals_at (l : List Nat) (k : Nat) (h : k < l.length) : (natVals l)[k]? = some (.int .i64 (nth l k : Nat)) := by
  simp [natVals, nth, h]
/-- A value that is a slice of the numbers l. -/
def NSl (w : World) (v : Value) (l : List Nat) : Prop := ∃ a cap, v = .slice a l.length cap ∧ Row w a l.length (fun k => (nth l k : Nat))
theorem owns_nats {w : World} {base : Nat} {v : Value} {l : List Nat} (h : w.ownsRow base 3 1 v l.length (natVals l)) : NSl w v l := by
  by_cases hn : 0 < l.length
  · obtain ⟨g, cap, rfl⟩ := owns_form h hn
    refine ⟨_, cap, rfl, fun k hk => ⟨g, 0, rfl, ?_⟩⟩
    rw [Nat.zero_add, h.cellAt _ (by omega)]; exact natVals_at l k hk
  · have h0 : l.length = 0 := by omega
    rcases h.2 with ⟨rfl, _⟩ | ⟨g, cap, cur, rfl, _⟩
    · exact ⟨none, 0, by rw [h0], fun k hk => absurd (Nat.lt_of_le_of_lt (Nat.zero_le _) hk) hn⟩
    · exact ⟨_, cap, rfl, fun k hk => absurd (Nat.lt_of_le_of_lt (Nat.zero_le _) hk) hn⟩
theorem below_append3 {w wx w1 : World} {o2 : Obj} {e : TypeId} {size n : Nat} {v : Value} {xs : List Value} (h : Below w.heap.size w wx) (hown : wx.ownsRow w.heap.size e size v n xs) (hg : (wx.alloc o2).grownBy w1 v.ownBlock) : Below w.heap.size w w1 :=
  (h.alloc h.size o2).grown hg (by have := h.size; simp; omega) (owns_block hown)

end Go.Proofs.YthhnngmfbbljaaaGreat
namespace Go.Proofs.YthhnngmfbbljaaaGreat
set_option maxRecDepth 100000
open Go.RowKit

def fil (I : Nat → Bool) : Nat → List Nat
  | 0 => []
  | k + 1 => if I k = true then fil I k ++ [k] else fil I k
theorem fil_yes {I : Nat → Bool} {k : Nat} (h : I k = true) : fil I (k + 1) = fil I k ++ [k] := by simp [fil, h]
theorem fil_no {I : Nat → Bool} {k : Nat} (h : I k = false) : fil I (k + 1) = fil I k := by simp [fil, h]
theorem fil_len (I : Nat → Bool) : ∀ k, (fil I k).length ≤ k
  | 0 => by simp [fil]
  | k + 1 => by
    have ih := fil_len I k
    cases h : I k
    · rw [fil_no h]; omega
    · rw [fil_yes h, List.length_append]; simp; exact ih
def idlTo (g : Nat → Nat) (s : Nat) : Nat → Bool
  | 0 => true
  | k + 1 => idlTo g s k && !(s.testBit k && lack (g k) s != 0)
theorem idlTo_iff (g : Nat → Nat) (s : Nat) : ∀ n, idlTo g s n = true ↔ ∀ p, p < n → s.testBit p = true → lack (g p) s = 0
  | 0 => by simp [idlTo]
  | n + 1 => by
    simp only [idlTo, Bool.and_eq_true, idlTo_iff g s n]
    constructor
    · rintro ⟨h1, h2⟩
      refine upto_succ h1 fun hb => ?_
      simpa [hb] using h2
    · intro h
      refine ⟨fun p hp => h p (by omega), ?_⟩
      cases hb : s.testBit n
      · simp
      · simp [h n (by omega) hb]
theorem idlTo_false {g : Nat → Nat} {s n k : Nat} (hk : k < n) (hb : s.testBit k = true) (hl : lack (g k) s ≠ 0) : idlTo g s n = false := by
  cases e : idlTo g s n
  · rfl
  · exact absurd ((idlTo_iff g s n).1 e k hk hb) hl
def idls (g : Nat → Nat) (n : Nat) : List Nat := fil (fun s => idlTo g s n) (pw n)

theorem hv_bits {a k : Nat} (h : hv a k = 0) (i : Nat) (hi : k ≤ i) : a.testBit i = false := by
  have h2 : hv a i = 0 := by
    obtain ⟨d, rfl⟩ : ∃ d, i = k + d := ⟨i - k, by omega⟩
    unfold hv at h ⊢
    rw [Nat.pow_add, ← Nat.div_div_eq_div_mul, h, Nat.zero_div]
  rw [hv_bit, h2]; rfl

end Go.Proofs.YthhnngmfbbljaaaGreat
namespace Go.Proofs.YthhnngmfbbljaaaGreat
set_option maxRecDepth 100000
open Go.RowKit

/-- The list rises. -/
def Rises (l : List Nat) : Prop := ∀ i j, i < j → j < l.length → nth l i < nth l j
theorem Rises.one {l : List Nat} (h : Rises l) {i j : Nat} (hi : i < l.length) (hj : j < l.length) (e : nth l i = nth l j) : i = j := by
  rcases Nat.lt_trichotomy i j with k | k | k
  · have := h i j k hj; omega
  · exact k
  · have := h j i k hi; omega
theorem Rises.lt {l : List Nat} (h : Rises l) {i j : Nat} (hi : i < l.length) (hj : j < l.length) : nth l i < nth l j ↔ i < j := by
  constructor
  · intro k
    apply Classical.byContradiction
    intro hn
    rcases Nat.lt_or_ge j i with q | q
    · have := h j i q hi; omega
    · have : i = j := by omega
      subst this; omega
  · intro k; exact h i j k hj

theorem nanC_any (x : Int) (w : World) : Calls Tryz.prog 107 #[.int .i64 x] w fun e w' => e = .returned (.bool false) ∧ w = w' := by
  have h : (x != x) = false := by simp
  go_enter Tryz.func107, Tryz.ntmps107
  go_wp2
  go_ret
  exact ⟨rfl, rfl⟩
theorem nanS_any (x : Int) (w : World) : Calls Tryz.prog 91 #[.int .i64 x] w fun e w' => e = .returned (.bool false) ∧ w = w' := by
  have h : (x != x) = false := by simp
  go_enter Tryz.func91, Tryz.ntmps91
  go_wp2
  go_ret
  exact ⟨rfl, rfl⟩
theorem cmpLess_any (x y : Int) (v : Bool) (hv : decide (x < y) = v) (w : World) : Calls Tryz.prog 90 #[.int .i64 x, .int .i64 y] w fun e w' => e = .returned (.bool v) ∧ w = w' := by
  subst hv
  go_enter Tryz.func90, Tryz.ntmps90
  go_wp2_with (go_at_call 107; refine (nanC_any _ _).mono ?_; rintro e w' ⟨rfl, rfl⟩)
  go_ret
  exact ⟨rfl, rfl⟩
set_option maxHeartbeats 2000000 in
theorem search_any (l : List Nat) (a : Option Addr) (cap p s : Nat) (w : World) (hl : l.length ≤ 1024) (hr : Row w a l.length (fun k => (nth l k : Nat))) (hs : Rises l) (hp : p < l.length) (he : nth l p = s) :
    Calls Tryz.prog 67 #[.slice a l.length cap, .int .i64 (s : Nat)] w fun e w' => e = .returned (.tuple #[.int .i64 (p : Nat), .bool true]) ∧ Below w.heap.size w w' := by
  obtain ⟨n, HN⟩ : ∃ n, Hid (n = l.length) := ⟨_, rfl⟩
  have HL : Hid (∀ k, k < n → (nth l k < s ↔ k < p)) := fun k hk => by rw [HN.out] at hk; rw [← he]; exact hs.lt hk hp
  have HE : Hid (nth l p = s) := he
  rw [← HN.out] at hl hr hp ⊢
  clear HN he hs
  obtain ⟨b, off, rfl, hc0⟩ := hr p hp
  have HR : Hid (∀ k, k < n → w.cell? ⟨b, off + k, none⟩ = some (.int .i64 (nth l k : Nat))) := fun k hk => by
    obtain ⟨b', off', e, h⟩ := hr k hk
    cases e; exact h
  clear hr hc0
  go_enter Tryz.func67, Tryz.ntmps67
  go_wp2
  go_loopw [7, 8] (fun u v wx => ∃ i j : Nat, u = .int .i64 i ∧ v = .int .i64 j ∧ (i ≤ p ∧ p ≤ j ∧ j ≤ n) ∧ Hid (wx = w)) (fun u v _ => (intOf v).toNat - (intOf u).toNat)
  case atStart => exact ⟨0, n, rfl, rfl, ⟨Nat.zero_le _, by omega, Nat.le_refl _⟩, rfl⟩
  case round =>
    obtain ⟨i, j, rfl, rfl, ⟨h1, h2, h3⟩, HW⟩ := hrel
    obtain rfl := HW.out
    clear HW
    by_cases hlt : i < j
    · obtain ⟨h, HH⟩ : ∃ h, Hid (h = (i + j) / 2) := ⟨_, rfl⟩
      have hh1 : i ≤ h := by rw [HH.out]; omega
      have hh2 : h < j := by rw [HH.out]; omega
      have hq : ((i : Int) + (j : Int)) / 2 = (h : Int) := by rw [HH.out]; omega
      have hck := HR.out h (by omega)
      have hx' : (h : Int) < (n : Int) := by omega
      rcases (Bool.eq_false_or_eq_true (decide (((nth l h : Nat) : Int) < ((s : Nat) : Int)))).symm with hb | hb
      · have hnp : ¬ h < p := fun k => by
          have := (HL.out h (by omega)).2 k
          simp at hb; omega
        go_wp2_with (go_at_call 90; refine (cmpLess_any _ _ _ hb _).mono ?_; rintro e w' ⟨rfl, rfl⟩)
        go_roundw
        case rel => exact ⟨i, h, rfl, rfl, ⟨h1, by omega, by omega⟩, trivial⟩
        case measure => simp [intOf]; omega
      · have hnp : h < p := (HL.out h (by omega)).1 (by simp at hb; omega)
        go_wp2_with (go_at_call 90; refine (cmpLess_any _ _ _ hb _).mono ?_; rintro e w' ⟨rfl, rfl⟩)
        go_roundw
        case rel => exact ⟨h + 1, j, by go_num, rfl, ⟨by omega, by omega, by omega⟩, trivial⟩
        case measure => simp [intOf]; omega
    · have e1 : i = p := by omega
      have e2 : j = p := by omega
      subst e1
      subst e2
      have hck := HR.out j hp
      have hjn : (j : Int) < (n : Int) := by omega
      have hee : (((nth l j : Nat) : Int) == ((s : Nat) : Int)) = true := by rw [HE.out]; exact beq_self_eq_true _
      go_wp2_with fail
      go_ret2
      exact ⟨rfl, Below.refl _ _⟩
theorem place_any (l : List Nat) (a : Option Addr) (cap p s : Nat) (w : World) (hl : l.length ≤ 1024) (hr : Row w a l.length (fun k => (nth l k : Nat))) (hs : Rises l) (hp : p < l.length) (he : nth l p = s) :
    Calls Tryz.prog 38 #[.slice a l.length cap, .int .i64 (s : Nat)] w fun e w' => e = .returned (.int .i64 (p : Nat)) ∧ Below w.heap.size w w' := by
  have HS := search_any l a cap p s w hl hr hs hp he
  clear hr hs hl hp he
  generalize l.length = n at *
  go_enter Tryz.func38, Tryz.ntmps38
  go_wp2_with fail
  refine HS.mono ?_
  rintro e w1 ⟨rfl, hb⟩
  have HB : Hid (Below w.heap.size w w1) := hb
  clear hb
  go_wp2_with fail
  go_ret
  exact ⟨rfl, HB.out⟩
theorem place_n (l : List Nat) (a : Option Addr) (n cap p s : Nat) (w : World) (hn : n = l.length) (hl : l.length ≤ 1024) (hr : Row w a l.length (fun k => (nth l k : Nat))) (hs : Rises l) (hp : p < l.length) (he : nth l p = s) :
    Calls Tryz.prog 38 #[.slice a n cap, .int .i64 (s : Nat)] w fun e w' => e = .returned (.int .i64 (p : Nat)) ∧ Below w.heap.size w w' := by
  subst hn; exact place_any l a cap p s w hl hr hs hp he
end Go.Proofs.YthhnngmfbbljaaaGreat
namespace Go.Proofs.YthhnngmfbbljaaaGreat
set_option maxRecDepth 100000

theorem fil_mem (I : Nat → Bool) : ∀ k s, s ∈ fil I k ↔ s < k ∧ I s = true
  | 0, s => by simp [fil]
  | k + 1, s => by
    have ih := fil_mem I k s
    cases h : I k
    · rw [fil_no h, ih]
      constructor
      · rintro ⟨a, b⟩; exact ⟨by omega, b⟩
      · rintro ⟨a, b⟩
        have : s ≠ k := fun e => by subst e; rw [h] at b; cases b
        exact ⟨by omega, b⟩
    · rw [fil_yes h, List.mem_append, ih, List.mem_singleton]
      constructor
      · rintro (⟨a, b⟩ | rfl)
        · exact ⟨by omega, b⟩
        · exact ⟨by omega, h⟩
      · rintro ⟨a, b⟩
        by_cases e : s = k
        · exact .inr e
        · exact .inl ⟨by omega, b⟩
theorem nth_mem {l : List Nat} {k : Nat} (hk : k < l.length) : nth l k ∈ l := by
  unfold nth; rw [List.getD_eq_getElem?_getD, List.getElem?_eq_getElem hk]; exact List.getElem_mem hk
theorem nth_app_l {l r : List Nat} {k : Nat} (hk : k < l.length) : nth (l ++ r) k = nth l k := by
  unfold nth; rw [List.getD_eq_getElem?_getD, List.getD_eq_getElem?_getD, List.getElem?_append_left hk]
theorem nth_app_r (l : List Nat) (s : Nat) : nth (l ++ [s]) l.length = s := by
  unfold nth; simp
theorem fil_rises (I : Nat → Bool) : ∀ k, Rises (fil I k)
  | 0 => fun i j _ hj => by simp [fil] at hj
  | k + 1 => by
    have ih := fil_rises I k
    cases h : I k
    · rw [fil_no h]; exact ih
    · rw [fil_yes h]
      intro i j hij hj
      rw [List.length_append, List.length_singleton] at hj
      by_cases e : j = (fil I k).length
      · subst e
        rw [nth_app_l hij, nth_app_r]
        exact ((fil_mem I k _).1 (nth_mem hij)).1
      · rw [nth_app_l (by omega), nth_app_l (by omega)]
        exact ih i j hij (by omega)
/-- Where s stands in a list. -/
def plc (l : List Nat) (s : Nat) : Nat := l.idxOf s
theorem plc_is {l : List Nat} {s : Nat} (h : s ∈ l) : plc l s < l.length ∧ nth l (plc l s) = s := by
  have h1 : l.idxOf s < l.length := List.idxOf_lt_length_of_mem h
  refine ⟨h1, ?_⟩
  unfold nth plc
  rw [List.getD_eq_getElem?_getD, List.getElem?_eq_getElem h1]
  exact List.getElem_idxOf h1
theorem Rises.plc {l : List Nat} (h : Rises l) {k : Nat} (hk : k < l.length) : plc l (nth l k) = k := by
  obtain ⟨h1, h2⟩ := plc_is (nth_mem hk)
  exact h.one h1 hk h2

/-- Is s an ideal? -/
def Idl (g : Nat → Nat) (n s : Nat) : Prop := ∀ p, p < n → s.testBit p = true → ∀ i, (g p).testBit i = true → s.testBit i = true
theorem idl_iff {g : Nat → Nat} {n s : Nat} (hg : ∀ k, k < n → g k < 1024) (hs : s < 1024) : idlTo g s n = true ↔ Idl g n s := by
  rw [idlTo_iff]
  constructor
  · intro h p hp hb i hi
    have := hg p hp
    exact (lack_zero _ _ (by omega) (by omega)).1 (h p hp hb) i hi
  · intro h p hp hb
    have := hg p hp
    exact (lack_zero _ _ (by omega) (by omega)).2 (fun i hi => h p hp hb i hi)
theorem Idl.and {g : Nat → Nat} {n s t : Nat} (h : Idl g n s) (h' : Idl g n t) : Idl g n (s &&& t) := fun p hp hb i hi => by
  rw [Nat.testBit_and, Bool.and_eq_true] at hb ⊢
  exact ⟨h p hp hb.1 i hi, h' p hp hb.2 i hi⟩
theorem Idl.or {g : Nat → Nat} {n s t : Nat} (h : Idl g n s) (h' : Idl g n t) : Idl g n (s ||| t) := fun p hp hb i hi => by
  rw [Nat.testBit_or, Bool.or_eq_true] at hb ⊢
  rcases hb with hb | hb
  · exact .inl (h p hp hb i hi)
  · exact .inr (h' p hp hb i hi)
theorem idls_mem {g : Nat → Nat} {n s : Nat} (hn : n ≤ 10) (hg : ∀ k, k < n → g k < 1024) : s ∈ idls g n ↔ s < pw n ∧ Idl g n s := by
  unfold idls
  rw [fil_mem]
  have hpw := pw_le n hn
  constructor
  · rintro ⟨a, b⟩; exact ⟨a, (idl_iff hg (by omega)).1 b⟩
  · rintro ⟨a, b⟩; exact ⟨a, (idl_iff hg (by omega)).2 b⟩
theorem idls_at {g : Nat → Nat} {n k : Nat} (hn : n ≤ 10) (hg : ∀ k, k < n → g k < 1024) (hk : k < (idls g n).length) : nth (idls g n) k < pw n ∧ Idl g n (nth (idls g n) k) := (idls_mem hn hg).1 (nth_mem hk)
def idm (g : Nat → Nat) (n x y : Nat) : Nat := plc (idls g n) (nth (idls g n) x &&& nth (idls g n) y)
def idj (g : Nat → Nat) (n x y : Nat) : Nat := plc (idls g n) (nth (idls g n) x ||| nth (idls g n) y)
theorem idm_is {g : Nat → Nat} {n x y : Nat} (hn : n ≤ 10) (hg : ∀ k, k < n → g k < 1024) (hx : x < (idls g n).length) (hy : y < (idls g n).length) : idm g n x y < (idls g n).length ∧ nth (idls g n) (idm g n x y) = nth (idls g n) x &&& nth (idls g n) y := by
  obtain ⟨a, b⟩ := idls_at hn hg hx
  obtain ⟨_, d⟩ := idls_at hn hg hy
  exact plc_is ((idls_mem hn hg).2 ⟨Nat.lt_of_le_of_lt Nat.and_le_left a, b.and d⟩)
theorem idj_is {g : Nat → Nat} {n x y : Nat} (hn : n ≤ 10) (hg : ∀ k, k < n → g k < 1024) (hx : x < (idls g n).length) (hy : y < (idls g n).length) : idj g n x y < (idls g n).length ∧ nth (idls g n) (idj g n x y) = nth (idls g n) x ||| nth (idls g n) y := by
  obtain ⟨a, b⟩ := idls_at hn hg hx
  obtain ⟨c, d⟩ := idls_at hn hg hy
  exact plc_is ((idls_mem hn hg).2 ⟨Nat.or_lt_two_pow a c, b.or d⟩)
theorem idls_pos {g : Nat → Nat} {n : Nat} (hn : n ≤ 10) (hg : ∀ k, k < n → g k < 1024) : 1 ≤ (idls g n).length := by
  have : 0 ∈ idls g n := (idls_mem hn hg).2 ⟨pw_pos n, fun p _ hb => by simp at hb⟩
  exact List.length_pos_of_mem this
end Go.Proofs.YthhnngmfbbljaaaGreat
