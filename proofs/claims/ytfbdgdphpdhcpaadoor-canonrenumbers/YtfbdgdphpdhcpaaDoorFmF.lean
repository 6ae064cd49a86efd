/-
  What the reference's Place and Permutations answer. Conditions: at most six points; a slice reads as a slice of numbers.
  What the reference's Before and FormOf answer: the least order by all lists, and the first list by which it is that. Conditions: an order of at most six points.
  What canon.Form answers, list and all; hasselaw.given, formed. Conditions: a slice reads as a slice of numbers; the library's table.
-/
import Derived.Test.YtfbdgdphpdhcpaaDoorMvB
import Derived.Test.YtfbdgdphpdhcpaaDoorRfN
namespace Go.Proofs.YtfbdgdphpdhcpaaDoor
open Go.RowKit Go.Shelf
set_option maxRecDepth 100000

/-- Where x stands first; or nowhere. -/
def PlaceAt (f : Nat → Int) (m : Nat) (x : Nat) (r : Int) : Prop := (∃ j : Nat, j < m ∧ r = j ∧ f j = x ∧ ∀ i, i < j → f i ≠ x) ∨ (r = -1 ∧ ∀ j, j < m → f j ≠ x)
theorem placeR_any (a : Option Addr) (m cap : Nat) (f : Nat → Int) (x : Nat) (w : World) (hm : m ≤ maxLen) (hr : Row w a m f) :
    Calls Tryd.prog 39 #[.slice a m cap, .int .i64 x] w fun e w' => (∃ r : Int, e = .returned (.int .i64 r) ∧ PlaceAt f m x r) ∧ w = w' := by
  unfold maxLen at hm
  have HR : Hid (Row w a m f) := hr
  clear hr
  go_enter Tryd.func39, Tryd.ntmps39
  go_wp2_with fail
  go_loopw [5] (fun i wx => ∃ k : Nat, k ≤ m ∧ i = .int .i64 k ∧ wx = w ∧ Hid (∀ j, j < k → f j ≠ x)) (fun i _ => m - (intOf i).toNat)
  case atStart => exact ⟨0, Nat.zero_le _, rfl, rfl, fun j hj => absurd hj (Nat.not_lt_zero _)⟩
  case round =>
    obtain ⟨k, hk, rfl, rfl, HN⟩ := hrel
    by_cases hlt : k < m
    · obtain ⟨b, off, rfl, hc⟩ := HR.out k hlt
      by_cases he : f k = x
      · have he' : (f k == (x : Int)) = true := by rw [he]; simp
        have HE : Hid (PlaceAt f m x k) := .inl ⟨k, hlt, rfl, he, HN.out⟩
        generalize f k = X at *
        clear HN he
        go_wp2_with fail
        go_ret
        exact ⟨⟨_, rfl, HE.out⟩, rfl⟩
      · have he' : (f k == (x : Int)) = false := by simpa using he
        have HN2 : Hid (∀ j, j < k + 1 → f j ≠ x) := fun j hj => by
          by_cases e : j = k
          · subst e; exact he
          · exact HN.out j (by omega)
        generalize f k = X at *
        clear HN he
        go_wp2_with fail
        go_roundw
        case rel => exact ⟨k + 1, by omega, by go_num, by first | rfl | trivial, HN2.out⟩
        case measure => simp [intOf]; omega
    · obtain rfl : k = m := by omega
      have HE : Hid (PlaceAt f k x (-1)) := .inr ⟨rfl, HN.out⟩
      clear HN
      go_wp2_with fail
      go_ret
      exact ⟨⟨_, rfl, HE.out⟩, rfl⟩
theorem PlaceAt.neg {y : List Nat} {x : Nat} {r : Int} (h : PlaceAt (fun k => (nth y k : Nat)) y.length x r) : (r < 0) ↔ y.contains x = false := by
  have hm : y.contains x = true ↔ ∃ j, j < y.length ∧ nth y j = x := by
    rw [List.contains_iff_mem, List.mem_iff_getElem]
    constructor
    · rintro ⟨j, hj, e⟩
      exact ⟨j, hj, by rw [← e]; simp [nth, hj]⟩
    · rintro ⟨j, hj, e⟩
      exact ⟨j, hj, by rw [← e]; simp [nth, hj]⟩
  rcases h with ⟨j, hj, rfl, e, _⟩ | ⟨rfl, hn⟩
  · have : y.contains x = true := hm.2 ⟨j, hj, by have e : ((nth y j : Nat) : Int) = (x : Nat) := e; omega⟩
    rw [this]; simp
  · have : y.contains x = false := by
      rw [Bool.eq_false_iff]
      intro hc
      obtain ⟨j, hj, e⟩ := hm.1 hc
      exact hn j hj (by show ((nth y j : Nat) : Int) = (x : Nat); omega)
    rw [this]; simp
/-- A list more by each point that it lacks. -/
def mrT (x : List Nat) (p : Nat) : List (List Nat) := ((List.range p).filter fun q => !x.contains q).map fun q => x ++ [q]
def mrL (n : Nat) (l : List (List Nat)) : List (List Nat) := l.flatMap fun x => mrT x n
def pmL (n : Nat) : Nat → List (List Nat)
  | 0 => [[]]
  | k + 1 => mrL n (pmL n k)
/-- A list that append may be handed second. -/
def Src2 (w : World) (y : Value) (p : List Nat) : Prop := (p = [] ∧ y = .slice none 0 0) ∨ ∃ b c, y = .slice (some ⟨b, 0, none⟩) p.length c ∧ ∀ j u, (natVals p)[j]? = some u → w.cell? ⟨b, j, none⟩ = some u
theorem Src2.below {W W' : World} {v : Value} {y : List Nat} (h : Src2 W v y) (hb : Below W.heap.size W W') : Src2 W' v y :=
  h.imp id fun ⟨ad, c, e, hc⟩ => ⟨ad, c, e, fun j u hj => cell_stp hb (hc j u hj)⟩
theorem Src2.of_owns {w : World} {base : Nat} {v : Value} {l : List Nat} (h : w.ownsRow base 3 1 v l.length (natVals l)) : Src2 w v l := by
  rcases h.2 with ⟨rfl, h0⟩ | ⟨g, cap, cur, rfl, _⟩
  · exact .inl ⟨List.length_eq_zero_iff.1 h0, rfl⟩
  · refine .inr ⟨_, cap, rfl, fun j u hj => ?_⟩
    have hlt := (List.getElem?_eq_some_iff.1 hj).1
    rw [h.cellAt j (by simpa [natVals] using hlt)]
    exact hj
theorem Src2.row {w : World} {v : Value} {l : List Nat} (h : Src2 w v l) : ∃ a c, v = .slice a l.length c ∧ Row w a l.length (fun k => (nth l k : Nat)) := by
  rcases h with ⟨rfl, rfl⟩ | ⟨ad, c, rfl, hc⟩
  · exact ⟨none, 0, rfl, fun k hk => absurd hk (Nat.not_lt_zero _)⟩
  · exact ⟨_, c, rfl, fun k hk => ⟨ad, 0, rfl, by rw [Nat.zero_add]; exact hc k _ (natVals_at l k hk)⟩⟩
/-- A slice of lists, read. -/
def LRd (W : World) (a : Option Addr) (ys : List (List Nat)) : Prop := ∀ (i : Nat) y, ys[i]? = some y → ∃ g v, a = some ⟨g, 0, none⟩ ∧ W.cell? ⟨g, i, none⟩ = some v ∧ Src2 W v y
theorem LRd.below {W W' : World} {a : Option Addr} {ys : List (List Nat)} (h : LRd W a ys) (hb : Below W.heap.size W W') : LRd W' a ys := fun i y hy => by
  obtain ⟨g, v, e, hc, hr⟩ := h i y hy
  exact ⟨g, v, e, cell_stp hb hc, hr.below hb⟩
theorem MLst.rd {W : World} {B : Nat} {z : Value} {ys : List (List Nat)} (h : MLst W B z ys) : ∃ a cap, z = .slice a ys.length cap ∧ LRd W a ys := by
  obtain ⟨vs, ho, hv⟩ := h
  rcases Nat.eq_zero_or_pos ys.length with h0 | h0
  · rcases ho.2 with ⟨rfl, _⟩ | ⟨g, cap, cur, rfl, _⟩
    · exact ⟨none, 0, by rw [h0], fun i y hy => by have := (List.getElem?_eq_some_iff.1 hy).1; omega⟩
    · exact ⟨_, cap, rfl, fun i y hy => by have := (List.getElem?_eq_some_iff.1 hy).1; omega⟩
  · obtain ⟨g, cap, rfl⟩ := owns_form ho h0
    refine ⟨_, cap, rfl, fun i y hy => ?_⟩
    obtain ⟨v, q1, q2⟩ := hv i y hy
    have hi : i < vs.length := (List.getElem?_eq_some_iff.1 q1).1
    refine ⟨g, v, rfl, ?_, Src2.of_owns q2⟩
    rw [ho.cellAt i (by have := ho.1; omega)]; exact q1
theorem MLst.below {W W' : World} {B : Nat} {z : Value} {ys : List (List Nat)} (h : MLst W B z ys) (hb : Below W.heap.size W W') : MLst W' B z ys := by
  obtain ⟨vs, ho, hv⟩ := h
  exact ⟨vs, owns_below ho hb, fun k y hy => by
    obtain ⟨v, q1, q2⟩ := hv k y hy
    exact ⟨v, q1, owns_below q2 hb⟩⟩
theorem MLst.mono {W : World} {B B' : Nat} {z : Value} {ys : List (List Nat)} (h : MLst W B z ys) (hb : B' ≤ B) : MLst W B' z ys := by
  obtain ⟨vs, ho, hv⟩ := h
  exact ⟨vs, ⟨ho.1, ho.2.imp id fun ⟨g, cap, cur, h1, h2, h3⟩ => ⟨g, cap, cur, h1, Nat.le_trans hb h2, h3⟩⟩, fun k y hy => by
    obtain ⟨v, q1, q2⟩ := hv k y hy
    exact ⟨v, q1, ⟨q2.1, q2.2.imp id fun ⟨g, cap, cur, h1, h2, h3⟩ => ⟨g, cap, cur, h1, Nat.le_trans hb h2, h3⟩⟩⟩⟩
theorem MLst.nil (W : World) (B : Nat) : MLst W B (.slice none 0 0) [] := ⟨[], World.ownsRow_nil _ _ _ _, fun k y hy => by simp at hy⟩
/-- A list more. -/
theorem MLst.snoc {W w2 w3 : World} {B : Nat} {z z' v : Value} {ys : List (List Nat)} {x : List Nat} {vs : List Value} (ho : W.ownsRow B 22 1 z ys.length vs) (hv : ∀ (k : Nat) y, ys[k]? = some y → ∃ v, vs[k]? = some v ∧ W.ownsRow B 3 1 v y.length (natVals y))
    (hb : Below W.heap.size W w2) (hx : w2.ownsRow B 3 1 v x.length (natVals x)) (h3 : w3.ownsRow B 22 1 z' (ys.length + 1) (vs ++ [v])) (hg : w2.grownBy w3 z.ownBlock) : MLst w3 B z' (ys ++ [x]) := by
  have ho2 := owns_below ho hb
  have lift : ∀ {m : Nat} {u : Value} {us : List Value}, w2.ownsRow B 3 1 u m us → w3.ownsRow B 3 1 u m us := fun {m u us} h => by
    refine ⟨h.1, h.2.imp id fun ⟨q, cap', cur, e1, e2, e3, e4⟩ => ⟨q, cap', cur, e1, e2, ?_, e4⟩⟩
    rw [hg.block q (Array.getElem?_eq_some_iff.1 e3).1 (fun e => by
      rcases ho2.2 with ⟨rfl, _⟩ | ⟨g', c', cur', rfl, _, hgg, _⟩
      · cases e
      · simp only [Value.ownBlock, Option.some.injEq] at e
        subst e
        rw [hgg] at e3
        cases e3)]
    exact e3
  refine ⟨vs ++ [v], by rw [List.length_append]; exact h3, fun k y hy => ?_⟩
  have hl : vs.length = ys.length := by have := ho.1; omega
  rcases Nat.lt_or_ge k ys.length with hk | hk
  · rw [List.getElem?_append_left hk] at hy
    obtain ⟨u, q1, q2⟩ := hv k y hy
    exact ⟨u, by rw [List.getElem?_append_left (by omega)]; exact q1, lift (owns_below q2 hb)⟩
  · rw [List.getElem?_append_right hk] at hy
    obtain ⟨h5, rfl⟩ := List.getElem?_eq_some_iff.1 hy
    have ek : k = ys.length := by simp at h5; omega
    subst ek
    simp only [Nat.sub_self, List.getElem_cons_zero]
    exact ⟨v, by rw [List.getElem?_append_right (by omega), hl, Nat.sub_self]; rfl, lift hx⟩
end Go.Proofs.YtfbdgdphpdhcpaaDoor
namespace Go.Proofs.YtfbdgdphpdhcpaaDoor
open Go.RowKit Go.Shelf
set_option maxRecDepth 100000

theorem field_b (A B : Value) (w : World) : Sem.run Tryd.prog (Instr.field 24 (.agg #[A, B]) 1) w = .ok B w := by simp [go_sem, Instr.field, asAgg]
attribute [local go_sem] field_b
theorem p4_step {w w1 w2 : World} {p0 p1 p2 p3 : Addr} {u0 u1 u2 u3 : Value} (h : w1.cell? p0 = some u0 ∧ w1.cell? p1 = some u1 ∧ w1.cell? p2 = some u2 ∧ w1.cell? p3 = some u3 ∧ Below w.heap.size w w1) (hb : Below w1.heap.size w1 w2) :
    w2.cell? p0 = some u0 ∧ w2.cell? p1 = some u1 ∧ w2.cell? p2 = some u2 ∧ w2.cell? p3 = some u3 ∧ Below w.heap.size w w2 :=
  ⟨cell_stp hb h.1, cell_stp hb h.2.1, cell_stp hb h.2.2.1, cell_stp hb h.2.2.2.1, Below.then h.2.2.2.2 hb⟩
theorem p4_below {w w1 : World} {p0 p1 p2 p3 : Addr} {u0 u1 u2 u3 : Value} (h : w1.cell? p0 = some u0 ∧ w1.cell? p1 = some u1 ∧ w1.cell? p2 = some u2 ∧ w1.cell? p3 = some u3 ∧ Below w.heap.size w w1) : Below w.heap.size w w1 := h.2.2.2.2
theorem owns_set2 {X : World} {B base : Nat} {v : Value} {n : Nat} {xs : List Value} {s t : Value} (h : X.ownsRow base 3 1 v n xs) (hb : B < base) : ((X.setCell ⟨B, 0, none⟩ s).setCell ⟨B, 1, none⟩ t).ownsRow base 3 1 v n xs :=
  ownsRow_setCell_below (a := ⟨B, 1, none⟩) (ownsRow_setCell_below (a := ⟨B, 0, none⟩) h hb _) hb _
/-- What FormOf hands back. -/
def FofPost (B : Nat) (n : Nat) (g : Nat → Nat) (e : Ending) (w' : World) : Prop :=
  ∃ x a c v, bst g n (per n [] (pw n - 1)) = some x ∧ e = .returned (.tuple #[.agg #[.int .i64 (n : Nat), .slice a n c], v]) ∧ Row w' a n (fun k => (prt g x k : Nat)) ∧ w'.ownsRow B 3 1 v x.length (natVals x) ∧ Fresh B a n
end Go.Proofs.YtfbdgdphpdhcpaaDoor
namespace Go.Proofs.YtfbdgdphpdhcpaaDoor
open Go.RowKit Go.Shelf
set_option maxRecDepth 100000

/-- What Form answers; the order's row is new and may be written. -/
def FormPost2 (K : Nat) (n : Int) (len : Nat) (f : Nat → Int) (e : Ending) (w' : World) : Prop :=
  ∃ c, FCk n len f c ∧ ((c ≠ 0 ∧ e = .returned (.tuple #[noOrder, .slice none 0 0, .int .i64 c])) ∨
    (c = 0 ∧ ∃ x bl bv, bst (nat f) len (per len [] (pw len - 1)) = some x ∧ e = .returned (.tuple #[.agg #[.int .i64 (len : Nat), .slice (some ⟨bl, 0, none⟩) len len], bv, .int .i64 0]) ∧ Own w' bl len (prt (nat f) x) ∧ K ≤ bl ∧ bl < w'.heap.size ∧ w'.ownsRow K 3 1 bv x.length (natVals x)))
set_option maxHeartbeats 2000000 in
theorem form2_any (n : Int) (a : Option Addr) (len cap : Nat) (f : Nat → Int) (w : World) (hl : len ≤ maxLen) (hr : Row w a len f) (hT : Tab w) :
    Calls Tryd.prog 9 #[.agg #[.int .i64 n, .slice a len cap]] w fun e w' => FormPost2 w.heap.size n len f e w' ∧ Below w.heap.size w w' := by
  have HR : Hid (Row w a len f) := hr
  have HT : Hid (Tab w) := hT
  obtain ⟨X1, hX1⟩ : ∃ X1, X1 = w.alloc (.cells #[.int .i64 n, .slice a len cap] 24) := ⟨_, rfl⟩
  obtain ⟨X2, hX2⟩ : ∃ X2, X2 = X1.alloc (.cells #[.int .i64 0, .slice none 0 0] 24) := ⟨_, rfl⟩
  obtain ⟨X3, HX3⟩ : ∃ X3, Hid (X3 = X2.alloc (.cells #[.int .i64 n, .slice a len cap] 24)) := ⟨_, rfl⟩
  have s1 : X1.heap.size = w.heap.size + 1 := by rw [hX1]; simp
  have s2 : X2.heap.size = w.heap.size + 2 := by rw [hX2]; simp [s1]
  have b1 : Below w.heap.size w X1 := by rw [hX1]; exact (Below.refl _ _).alloc (Nat.le_refl _) _
  have b2 : Below X1.heap.size X1 X2 := by rw [hX2]; exact (Below.refl _ _).alloc (Nat.le_refl _) _
  have b3 : Below X2.heap.size X2 X3 := by rw [HX3.out]; exact (Below.refl _ _).alloc (Nat.le_refl _) _
  have hH : Held X3 w.heap.size n a len cap f := by
    have h : Held X1 w.heap.size n a len cap f := by rw [hX1]; exact Held.box hr
    exact (h.step b2).step b3
  have hZ : ZBox X3 (w.heap.size + 1) := by
    have h : ZBox X2 (w.heap.size + 1) := by rw [hX2, ← s1]; exact ZBox.new X1
    exact h.step b3
  have e0 : X3.cell? ⟨w.heap.size + 2, 0, none⟩ = some (.int .i64 n) := by rw [HX3.out, ← s2]; simp
  have e1 : X3.cell? ⟨w.heap.size + 2, 1, none⟩ = some (.slice a len cap) := by rw [HX3.out, ← s2]; simp
  have HB3 : Hid (Below w.heap.size w X3) := Below.then b1 (Below.then b2 b3)
  have HX2 : Hid (X2 = (w.alloc (.cells #[.int .i64 n, .slice a len cap] 24)).alloc (.cells #[.int .i64 0, .slice none 0 0] 24)) := by show _ = _; rw [hX2, hX1]
  have x0 : X2.cell? ⟨w.heap.size, 0, none⟩ = some (.int .i64 n) := by rw [hX2]; exact cellS ((Below.refl _ _).alloc (Nat.le_refl _) _) (by rw [hX1]; exact (Held.box hr).c0)
  have x1 : X2.cell? ⟨w.heap.size, 1, none⟩ = some (.slice a len cap) := by rw [hX2]; exact cellS ((Below.refl _ _).alloc (Nat.le_refl _) _) (by rw [hX1]; exact (Held.box hr).c1)
  have HS2 : Hid (X2.heap.size = w.heap.size + 2) := s2
  clear hX1 hX2 s1 s2 b1 b2 b3 hr hT
  go_enter Tryd.func9, Tryd.ntmps9
  go_wp2_with fail
  rw [← HX2.out]
  go_wp2_with fail
  rw [← HX3.out]
  have HH3 : Hid (∀ w', Below X3.heap.size X3 w' → Held w' w.heap.size n a len cap f ∧ ZBox w' (w.heap.size + 1)) := fun w' hb => ⟨hH.step hb, hZ.step hb⟩
  have HE : Hid (X3.cell? ⟨w.heap.size + 2, 0, none⟩ = some (.int .i64 n) ∧ X3.cell? ⟨w.heap.size + 2, 1, none⟩ = some (.slice a len cap)) := ⟨e0, e1⟩
  clear hH hZ e0 e1 x0 x1 HX2
  try rw [HS2.out]
  refine (check1_any n a len cap f (w.heap.size + 2) _ hl (HR.out.below HB3.out) HE.out.1 HE.out.2).mono ?_
  rintro e w1 ⟨⟨c, rfl, hc⟩, hb1⟩
  have HB1 : Hid (Below w.heap.size w w1) := Below.then HB3.out hb1
  have HC : Hid (FCk n len f c) := hc
  obtain ⟨hH1, hZ1⟩ := HH3.out _ hb1
  have HHZ : Hid (∀ w', Below w1.heap.size w1 w' → Held w' w.heap.size n a len cap f ∧ ZBox w' (w.heap.size + 1)) := fun w' hb => ⟨hH1.step hb, hZ1.step hb⟩
  clear hb1 hc HE HH3
  have c0 := hH1.c0
  have c1 := hH1.c1
  by_cases e0 : c = 0
  · subst e0
    obtain ⟨rfl, h6, hck⟩ := HC.out.good
    obtain ⟨_, h10, hrng, hord⟩ := hck.good
    have HG : Hid (∀ k, k < len → nat f k < 1024) := hrng.small2 h10
    have HRW : Hid (Row w1 a len (fun k => (nat f k : Nat))) := hrng.row hH1.row
    clear hck hrng hord hH1 hZ1
    go_wp2_with fail
    refine (formOf_any len a cap (nat f) _ h10 HG.out HRW.out (HT.out.step HB1.out)).mono ?_
    rintro e w2 ⟨⟨x, bl, bv, hx, rfl, hO, hbl1, ⟨hbl2, _⟩, hbv⟩, hb2⟩
    have hxl : x.length = len := (per_good h10 (bst_mem hx)).1
    obtain ⟨va, vn, vc, rfl⟩ : ∃ va vn vc, bv = .slice va vn vc := by
      rcases hbv.2 with ⟨q0, _⟩ | ⟨q, cap', cur, q1, _⟩
      · exact ⟨_, _, _, q0⟩
      · exact ⟨_, _, _, q1⟩
    obtain ⟨w3, HW3⟩ : ∃ w3, Hid (w3 = w2.alloc (.cells #[.int .i64 (len : Nat), .slice (some ⟨bl, 0, none⟩) len len] 24)) := ⟨_, rfl⟩
    have hb3 : Below w2.heap.size w2 w3 := by rw [HW3.out]; exact (Below.refl _ _).alloc (Nat.le_refl _) _
    have g0 : w3.cell? ⟨w2.heap.size, 0, none⟩ = some (.int .i64 (len : Nat)) := by rw [HW3.out]; simp
    have g1 : w3.cell? ⟨w2.heap.size, 1, none⟩ = some (.slice (some ⟨bl, 0, none⟩) len len) := by rw [HW3.out]; simp
    obtain ⟨_, hZ3⟩ := HHZ.out _ (Below.then hb2 hb3)
    have HZ3 : Hid (ZBox w3 (w.heap.size + 1)) := hZ3
    obtain ⟨z0, z1, z2, z3⟩ := hZ3
    have HO3 : Hid (Own w3 bl len (prt (nat f) x)) := hO.oth (OthS.below (fun _ => False) hb3) id
    have HX : Hid (bst (nat f) len (per len [] (pw len - 1)) = some x) := hx
    have HBV : Hid (w3.ownsRow w1.heap.size 3 1 (.slice va vn vc) x.length (natVals x)) := by rw [hxl]; exact owns_below hbv hb3
    have HB4 : Hid (Below w.heap.size w w3) := Below.then HB1.out (Below.then hb2 hb3)
    have HBL : Hid (w1.heap.size ≤ bl ∧ bl < w3.heap.size) := ⟨by omega, Nat.lt_of_lt_of_le hbl2 hb3.size⟩
    have hw1 := HB1.out.size
    have hz1 : w.heap.size + 1 < w1.heap.size := by
      obtain ⟨_, hq⟩ := HHZ.out _ (Below.refl _ _)
      exact World.block_lt_of_cell? _ _ hq.1
    have HL1 : Hid (w.heap.size + 1 < w1.heap.size) := hz1
    clear hx hO hbl1 hbl2 hbv hb2 hb3 c0 c1 hxl HHZ hw1 hz1
    rw [HW3.out] at g0 g1 z0 z1 z2 z3
    go_wp2_with fail
    rw [← HW3.out]
    rw [← HW3.out] at z0 z1 z2 z3
    refine bodyPost_ret (v := .tuple #[.agg #[.int .i64 (len : Nat), .slice (some ⟨bl, 0, none⟩) len len], .slice va vn vc, .int .i64 0]) (by simp [results, Tryd.results9, go_sem, z0, z1]) rfl ⟨⟨0, HC.out, .inr ⟨rfl, x, bl, _, HX.out, rfl, fun k hk => ?_, ?_, ?_, ?_⟩⟩, set2B HB4.out (by omega)⟩
    · obtain ⟨q1, q2⟩ := HO3.out k hk
      have h1 := HBL.out
      have h2 := HL1.out
      rw [World.frozen?_setCell, World.frozen?_setCell, World.cell?_setCell_other _ _ _ _ (fun e => by injection e with e1; omega), World.cell?_setCell_other _ _ _ _ (fun e => by injection e with e1; omega)]
      exact ⟨q1, q2⟩
    · have h1 := HBL.out
      have h2 := HL1.out
      omega
    · have h1 := HBL.out
      simpa using h1.2
    · have h2 := HL1.out
      exact owns_mono (owns_set2 HBV.out (by omega)) (by omega)
  · have hne : (c != 0) = true := by simpa using e0
    obtain ⟨z0, z1, z2, z3⟩ := hZ1
    clear hH1
    go_wp2_with fail
    exact bodyPost_ret (v := .tuple #[noOrder, .slice none 0 0, .int .i64 c]) (by simp [results, Tryd.results9, go_sem, noOrder, z0, z1]) rfl ⟨⟨c, HC.out, .inl ⟨e0, rfl⟩⟩, set2B HB1.out (by omega)⟩
end Go.Proofs.YtfbdgdphpdhcpaaDoor
