/-
  What an append or a call keeps of what lies below. No condition.
  What the reference's Ideals and hasselaw.numbersAre answer; hasselaw.OrderIdeals returns true for every order. No condition but that a slice reads as a slice of numbers.
  What marks.list, convex.Ideals and convex.Ends answer. Conditions: as each theorem says.
  RestRows: what stays of boxes and rows while others are written over. Plain facts of the memory. No condition.
-/
import Derived.Test.YtglkjeidkjkdaaaDoorNats
import Derived.Test.YtglkjeidkjkdaaaDoorIdealsP
import Derived.Test.YtglkjeidkjkdaaaDoorFourM
import Derived.Test.YtglkjeidkjkdaaaDoorAccs
import Derived.Deep.RegionHeld3
import Derived.Test.YtglkjeidkjkdaaaDoorSpoM
import Derived.Test.YtglkjeidkjkdaaaDoorSplD
namespace Go.Proofs.YtglkjeidkjkdaaaDoor
set_option maxRecDepth 100000
open Go.RowKit

/-- An order's box, and what lies below it, kept: the box reads as it did. -/
theorem Held.kept {w wx : World} {n : Int} {a : Option Addr} {len cap : Nat} {f : Nat → Int} (h : Row w a len f) (hb : Below (w.heap.size + 1) (w.alloc (.cells #[.int .i64 n, .slice a len cap] 24)) wx) : Held wx w.heap.size n a len cap f :=
  (Held.box h).step (by rw [World.size_alloc]; exact hb)
theorem below_call {w wx w1 : World} {o : Obj} (h : Below (w.heap.size + 1) (w.alloc o) wx) (hb : Below wx.heap.size wx w1) : Below (w.heap.size + 1) (w.alloc o) w1 :=
  h.trans (hb.mono (by have := h.size; simpa using this))
theorem below_append {w wx w1 : World} {o o2 : Obj} {e : TypeId} {size n : Nat} {v : Value} {xs : List Value} (h : Below (w.heap.size + 1) (w.alloc o) wx) (hown : wx.ownsRow (w.heap.size + 1) e size v n xs) (hg : (wx.alloc o2).grownBy w1 v.ownBlock) : Below (w.heap.size + 1) (w.alloc o) w1 :=
  (h.alloc (by have := h.size; simpa using this) o2).grown hg (by have := h.size; simp at this ⊢; omega) (owns_block hown)

end Go.Proofs.YtglkjeidkjkdaaaDoor
namespace Go.Proofs.YtglkjeidkjkdaaaDoor
set_option maxRecDepth 100000
open Go.RowKit

theorem idls_len (g : Nat → Nat) (n : Nat) (h : n ≤ 10) : (idls g n).length ≤ 1024 := Nat.le_trans (fil_len _ _) (pw_le n h)

end Go.Proofs.YtglkjeidkjkdaaaDoor
namespace Go.Proofs.YtglkjeidkjkdaaaDoor
set_option maxRecDepth 100000
open Go.RowKit

/-- A family behind an error, or that of the sets L of len points. -/
def FamIs (K len : Nat) (L : List Nat) (c : Int) (x : Value) (w : World) : Prop :=
  (c ≠ 0 ∧ x = .agg #[.int .i64 0, .slice none 0 0]) ∨ (c = 0 ∧ ∃ a cap, x = .agg #[.int .i64 (len : Nat), .slice a L.length cap] ∧ Row w a L.length (fun k => (nth L k : Nat)) ∧ NewV K (.slice a L.length cap))
def FamPost (K : Nat) (n : Int) (len : Nat) (f : Nat → Int) (L : List Nat) (e : Ending) (w' : World) : Prop :=
  ∃ (c : Int) (x : Value), Chk n len f c ∧ e = .returned (.tuple #[x, .int .i64 c]) ∧ FamIs K len L c x w'
theorem ZBox.newF (w : World) : ZBox (w.alloc (.cells #[.int .i64 0, .slice none 0 0] 36)) w.heap.size :=
  ⟨by simp, by simp, World.frozen?_alloc_at _ _ _ _ rfl, World.frozen?_alloc_at _ _ _ _ rfl⟩
theorem row_new {X : World} {B m cap : Nat} {a : Option Addr} {F : Nat → Int} {u v : Value} (h : Row X a m F) (hn : NewV (B + 1) (.slice a m cap)) :
    Row ((X.setCell ⟨B, 0, none⟩ u).setCell ⟨B, 1, none⟩ v) a m F := by
  refine row_set2 h (fun hm => ?_)
  obtain ⟨b, off, rfl, _⟩ := h 0 hm
  exact ⟨b, off, rfl, hn b rfl⟩

set_option maxHeartbeats 1000000 in
theorem cIdeals_any (n : Int) (a : Option Addr) (len cap : Nat) (f : Nat → Int) (w : World) (hl : len ≤ maxLen) (hr : Row w a len f) :
    Calls Tryd.prog 10 #[.agg #[.int .i64 n, .slice a len cap]] w fun e w' => FamPost w.heap.size n len f (idls (nat f) len) e w' ∧ Below w.heap.size w w' := by
  obtain ⟨W0, HW0⟩ : ∃ W0, Hid (W0 = (w.alloc (.cells #[.int .i64 n, .slice a len cap] 24)).alloc (.cells #[.int .i64 0, .slice none 0 0] 36)) := ⟨_, rfl⟩
  have HB0 : Hid (Below w.heap.size w W0) := by rw [HW0.out]; exact ((Below.refl _ _).alloc (Nat.le_refl _) _).alloc (by simp) _
  have K0 : Held W0 w.heap.size n a len cap f := by rw [HW0.out]; exact (Held.box hr).step ((Below.refl _ _).alloc (Nat.le_refl _) _)
  have Z0 : ZBox W0 (w.heap.size + 1) := by rw [HW0.out]; have := ZBox.newF (w.alloc (.cells #[.int .i64 n, .slice a len cap] 24)); rw [World.size_alloc] at this; exact this
  have HS0 : Hid (w.heap.size + 1 < W0.heap.size) := World.block_lt_of_cell? _ _ Z0.1
  have k0 := K0.c0
  have k1 := K0.c1
  clear hr
  go_enter Tryd.func10, Tryd.ntmps10
  go_wp2_with fail
  rw [← HW0.out]
  refine (ideals_any n a len cap f W0 hl K0.row).mono ?_
  rintro e w1 ⟨⟨c, v, hc, rfl, hv⟩, hb1⟩
  have HB1 : Hid (Below w.heap.size w w1) := Below.then HB0.out hb1
  have K1 := K0.step hb1
  have Z1 := Z0.step hb1
  clear hb1 k0 k1
  have k0 := K1.c0
  obtain ⟨r0, r1, r2, r3⟩ := Z1
  have HC : Hid (Chk n len f c) := hc
  rcases hv with ⟨h0, rfl⟩ | ⟨rfl, ⟨a1, cap1, rfl, hr1⟩, hnew, _⟩
  · have hne : (c != 0) = true := by simpa using h0
    clear hc
    go_wp2_with fail
    exact bodyPost_ret (v := .tuple #[.agg #[.int .i64 0, .slice none 0 0], .int .i64 c]) (by simp [results, Tryd.results10, go_sem, r0, r1]) rfl ⟨⟨c, _, HC.out, rfl, .inl ⟨h0, rfl⟩⟩, set2B HB1.out (by omega)⟩
  · obtain ⟨rfl, h10, _, _⟩ := hc.good
    have HRR : Hid (Row ((w1.setCell ⟨w.heap.size + 1, 0, none⟩ (.int .i64 (len : Int))).setCell ⟨w.heap.size + 1, 1, none⟩ (.slice a1 (idls (nat f) len).length cap1)) a1 (idls (nat f) len).length (fun k => (nth (idls (nat f) len) k : Nat))) := row_new hr1 (fun k hk => by have h1 := hnew k hk; have h2 := HS0.out; omega)
    have HNW : Hid (NewV w.heap.size (.slice a1 (idls (nat f) len).length cap1)) := fun k hk => by have h1 := hnew k hk; have h2 := HS0.out; omega
    clear hc hr1 hnew
    go_wp2_with fail
    exact bodyPost_ret (v := .tuple #[.agg #[.int .i64 (len : Nat), .slice a1 (idls (nat f) len).length cap1], .int .i64 0]) (by simp [results, Tryd.results10, go_sem, r0, r1]) rfl ⟨⟨0, _, HC.out, rfl, .inr ⟨rfl, _, _, rfl, HRR.out, HNW.out⟩⟩, set2B HB1.out (by omega)⟩
end Go.Proofs.YtglkjeidkjkdaaaDoor
namespace Go.Proofs.YtglkjeidkjkdaaaDoor
set_option maxRecDepth 100000
open Go.RowKit

/-- Behind a call of which the rows lie from L on: only newer blocks, or one below L. -/
def Aft (L : Nat) (w w' : World) : Prop := Below w.heap.size w w' ∨ ∃ z, z + 1 ≤ L ∧ Off z (z + 1) w w'
theorem Aft.size {L : Nat} {w w' : World} (h : Aft L w w') : w.heap.size ≤ w'.heap.size := by
  rcases h with h | ⟨_, _, h⟩
  · exact h.size
  · exact h.1
theorem FRow.aft {w w' : World} {K K' : Nat} {a : Option Addr} {n : Nat} {f : Nat → Int} (h : FRow w K K' a n f) (ha : Aft K w w') : FRow w' K K' a n f := by
  rcases ha with hb | ⟨z, hz, ho⟩
  · exact h.step hb
  · exact h.off hz ho
theorem TRep.aft {L : Nat} {w w' : World} (ha : Aft L w w') (T : TT) (v : Value) (h : TRep L w T v) : TRep L w' T v := by
  rcases ha with hb | ⟨z, hz, ho⟩
  · exact TRep.step hb _ _ h
  · exact TRep.off hz ho _ _ h
theorem row_off {K K' : Nat} {w w' : World} {a : Option Addr} {n c : Nat} {f : Nat → Int} (h : Row w a n f) (hN : NewV K' (.slice a n c)) (ho : Off K K' w w') : Row w' a n f := fun k hk => by
  obtain ⟨b, off, e, hc⟩ := h k hk
  subst e
  exact ⟨b, off, rfl, (ho.2 _ (.inr (hN b rfl))).1 _ hc⟩
theorem row_aft {L : Nat} {w w' : World} {a : Option Addr} {n c : Nat} {f : Nat → Int} (h : Row w a n f) (hN : NewV L (.slice a n c)) (ha : Aft L w w') : Row w' a n f := by
  rcases ha with hb | ⟨z, hz, ho⟩
  · exact h.below hb
  · exact row_off h (fun k e => Nat.le_trans hz (hN k e)) ho
theorem aft_new {L : Nat} (w : World) (o : Obj) : Aft L w (w.alloc o) := .inl ((Below.refl _ _).alloc (Nat.le_refl _) _)
theorem aft_two {L z : Nat} {w : World} {u v : Value} (hz : z + 1 ≤ L) : Aft L w ((w.setCell ⟨z, 0, none⟩ u).setCell ⟨z, 1, none⟩ v) :=
  .inr ⟨z, hz, ((Off.refl _ _ _).set (Nat.le_refl _) (Nat.lt_succ_self _)).set (Nat.le_refl _) (Nat.lt_succ_self _)⟩
theorem aft_three {L z : Nat} {w : World} {u v y : Value} (hz : z + 1 ≤ L) : Aft L w (((w.setCell ⟨z, 0, none⟩ u).setCell ⟨z, 1, none⟩ v).setCell ⟨z, 2, none⟩ y) :=
  .inr ⟨z, hz, (((Off.refl _ _ _).set (Nat.le_refl _) (Nat.lt_succ_self _)).set (Nat.le_refl _) (Nat.lt_succ_self _)).set (Nat.le_refl _) (Nat.lt_succ_self _)⟩

/-- Two cells of a box. -/
def Bx2 (w : World) (b : Nat) (u v : Value) : Prop := w.cell? ⟨b, 0, none⟩ = some u ∧ w.cell? ⟨b, 1, none⟩ = some v
theorem Bx2.step {w w' : World} {b : Nat} {u v : Value} (h : Bx2 w b u v) (hb : Below w.heap.size w w') : Bx2 w' b u v := ⟨cell_stp hb h.1, cell_stp hb h.2⟩
theorem Bx2.off {K K' : Nat} {w w' : World} {b : Nat} {u v : Value} (h : Bx2 w b u v) (hb : b < K ∨ K' ≤ b) (ho : Off K K' w w') : Bx2 w' b u v := ⟨ho.cell hb h.1, ho.cell hb h.2⟩
theorem bx2_new (w : World) (u v : Value) (t : TypeId) : Bx2 (w.alloc (.cells #[u, v] t)) w.heap.size u v := ⟨by simp, by simp⟩
theorem bx2_set {w : World} {b : Nat} {u v : Value} (h : ZBox w b) : Bx2 ((w.setCell ⟨b, 0, none⟩ u).setCell ⟨b, 1, none⟩ v) b u v := by
  have n : (⟨b, 1, none⟩ : Addr) ≠ ⟨b, 0, none⟩ := by simp
  have n' : (⟨b, 0, none⟩ : Addr) ≠ ⟨b, 1, none⟩ := by simp
  refine ⟨?_, ?_⟩
  · rw [World.cell?_setCell_other _ _ _ _ n]; exact World.cell?_setCell_same _ _ _ h.1
  · have e : (w.setCell ⟨b, 0, none⟩ u).cell? ⟨b, 1, none⟩ = some (.slice none 0 0) := by rw [World.cell?_setCell_other _ _ _ _ n']; exact h.2.1
    exact World.cell?_setCell_same _ _ _ e
def Bx3 (w : World) (b : Nat) (u v y : Value) : Prop := w.cell? ⟨b, 0, none⟩ = some u ∧ w.cell? ⟨b, 1, none⟩ = some v ∧ w.cell? ⟨b, 2, none⟩ = some y
theorem Bx3.step {w w' : World} {b : Nat} {u v y : Value} (h : Bx3 w b u v y) (hb : Below w.heap.size w w') : Bx3 w' b u v y := ⟨cell_stp hb h.1, cell_stp hb h.2.1, cell_stp hb h.2.2⟩
theorem Bx3.off {K K' : Nat} {w w' : World} {b : Nat} {u v y : Value} (h : Bx3 w b u v y) (hb : b < K ∨ K' ≤ b) (ho : Off K K' w w') : Bx3 w' b u v y := ⟨ho.cell hb h.1, ho.cell hb h.2.1, ho.cell hb h.2.2⟩
theorem bx3_new (w : World) (u v y : Value) (t : TypeId) : Bx3 (w.alloc (.cells #[u, v, y] t)) w.heap.size u v y := ⟨by simp, by simp, by simp⟩
theorem bx3_set {w : World} {b : Nat} {u v y : Value} (h : ZB w b) : Bx3 (((w.setCell ⟨b, 0, none⟩ u).setCell ⟨b, 1, none⟩ v).setCell ⟨b, 2, none⟩ y) b u v y := set3 u v y h.1.1 h.1.2.1 h.1.2.2 _ rfl

/-- The twin: its box, and its row of blocks from D on. -/
def PSt (D : Nat) (w : World) (n : Int) (len : Nat) (f : Nat → Int) (pb : Nat) (a2 : Option Addr) (c2 : Nat) : Prop :=
  Bx2 w pb (.int .i64 n) (.slice a2 len c2) ∧ ∃ K K', FRow w K K' a2 len f ∧ D ≤ K ∧ K' ≤ w.heap.size
theorem PSt.step {D : Nat} {w w' : World} {n : Int} {len : Nat} {f : Nat → Int} {pb : Nat} {a2 : Option Addr} {c2 : Nat} (h : PSt D w n len f pb a2 c2) (hb : Below w.heap.size w w') : PSt D w' n len f pb a2 c2 := by
  obtain ⟨h1, K, K', h2, h3, h4⟩ := h
  exact ⟨h1.step hb, K, K', h2.step hb, h3, Nat.le_trans h4 hb.size⟩
/-- A term's box, and the term, of blocks from D on. -/
def TSt (D : Nat) (w : World) (f : Nat → Int) (len tb : Nat) (k x : Int) (a : Option Addr) (n c : Nat) (ok : Bool) (er : Int) : Prop :=
  Bx3 w tb (.int .i64 k) (.int .i64 x) (.slice a n c) ∧ D ≤ tb ∧ (er = 0 → ok = true → ∃ T, TRep D w T (.agg #[.int .i64 k, .int .i64 x, .slice a n c]) ∧ Trm (nat f) len (pw len - 1) T)
theorem TSt.step {D : Nat} {w w' : World} {f : Nat → Int} {len tb : Nat} {k x : Int} {a : Option Addr} {n c : Nat} {ok : Bool} {er : Int} (h : TSt D w f len tb k x a n c ok er) (hb : Below w.heap.size w w') : TSt D w' f len tb k x a n c ok er := by
  obtain ⟨h1, h2, h3⟩ := h
  refine ⟨h1.step hb, h2, fun e1 e2 => ?_⟩
  obtain ⟨T, h4, h5⟩ := h3 e1 e2
  exact ⟨T, TRep.step hb _ _ h4, h5⟩
theorem TSt.off {K K' D : Nat} {w w' : World} {f : Nat → Int} {len tb : Nat} {k x : Int} {a : Option Addr} {n c : Nat} {ok : Bool} {er : Int} (h : TSt D w f len tb k x a n c ok er) (hD : K' ≤ D) (ho : Off K K' w w') : TSt D w' f len tb k x a n c ok er := by
  obtain ⟨h1, h2, h3⟩ := h
  refine ⟨h1.off (.inr (Nat.le_trans hD h2)) ho, h2, fun e1 e2 => ?_⟩
  obtain ⟨T, h4, h5⟩ := h3 e1 e2
  exact ⟨T, TRep.off hD ho _ _ h4, h5⟩
/-- A family's box, and its row, of blocks from D on. -/
def SSt (D : Nat) (w : World) (L : List Nat) (sb : Nat) (i : Int) (a : Option Addr) (n c : Nat) (er : Int) : Prop :=
  Bx2 w sb (.int .i64 i) (.slice a n c) ∧ D ≤ sb ∧ (er = 0 → n = L.length ∧ Row w a n (fun k => (nth L k : Nat)) ∧ NewV D (.slice a n c))
theorem SSt.step {D : Nat} {w w' : World} {L : List Nat} {sb : Nat} {i : Int} {a : Option Addr} {n c : Nat} {er : Int} (h : SSt D w L sb i a n c er) (hb : Below w.heap.size w w') : SSt D w' L sb i a n c er := by
  obtain ⟨h1, h2, h3⟩ := h
  exact ⟨h1.step hb, h2, fun e => ⟨(h3 e).1, (h3 e).2.1.below hb, (h3 e).2.2⟩⟩
theorem SSt.off {K K' D : Nat} {w w' : World} {L : List Nat} {sb : Nat} {i : Int} {a : Option Addr} {n c : Nat} {er : Int} (h : SSt D w L sb i a n c er) (hD : K' ≤ D) (ho : Off K K' w w') : SSt D w' L sb i a n c er := by
  obtain ⟨h1, h2, h3⟩ := h
  exact ⟨h1.off (.inr (Nat.le_trans hD h2)) ho, h2, fun e => ⟨(h3 e).1, row_off (h3 e).2.1 (fun k q => Nat.le_trans hD ((h3 e).2.2 k q)) ho, (h3 e).2.2⟩⟩
theorem SSt.old {M M' D : Nat} {w0 w w' : World} {L : List Nat} {sb : Nat} {i : Int} {a : Option Addr} {n c : Nat} {er : Int} (h0 : SSt D w0 L sb i a n c er) (hM : w0.heap.size ≤ M) (h : SSt D w L sb i a n c er) (ho : Off M M' w w') : SSt D w' L sb i a n c er := by
  obtain ⟨h1, h2, h3⟩ := h
  refine ⟨h1.off (.inl ?_) ho, h2, fun e => ⟨(h3 e).1, Row.off (h0.2.2 e).2.1 hM (h3 e).2.1 ho, (h3 e).2.2⟩⟩
  have := World.block_lt_of_cell? _ _ h0.1.1
  simp at this
  omega
/-- The order's box and row. -/
theorem held_off {K K' B : Nat} {w0 w w' : World} {n : Int} {a : Option Addr} {len cap : Nat} {f : Nat → Int} (h0 : Held w0 B n a len cap f) (hK : w0.heap.size ≤ K) (h : Held w B n a len cap f) (ho : Off K K' w w') : Held w' B n a len cap f := by
  have hB := World.block_lt_of_cell? _ _ h0.c0
  simp at hB
  exact ⟨ho.cell (.inl (by show B < K; omega)) h.c0, ho.cell (.inl (by show B < K; omega)) h.c1, Row.off h0.row hK h.row ho⟩
end Go.Proofs.YtglkjeidkjkdaaaDoor
