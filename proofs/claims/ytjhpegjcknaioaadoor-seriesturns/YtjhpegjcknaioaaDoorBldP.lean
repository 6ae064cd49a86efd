/-
  What series.Build answers. Conditions: the value reads as a term; the table of the least bits.
-/
import Derived.Test.YtjhpegjcknaioaaDoorLayP
namespace Go.Proofs.YtjhpegjcknaioaaDoor
set_option maxRecDepth 100000
open Go.RowKit

/-- What Build answers of a right term of all points. -/
def BldPost (L : Nat → Nat → Bool) (n : Nat) (K : Nat) (e : Ending) (w' : World) : Prop :=
  ∃ b, K ≤ b ∧ e = .returned (.tuple #[.agg #[.int .i64 (n : Int), .slice (some ⟨b, 0, none⟩) n n], .int .i64 0]) ∧ Row w' (some ⟨b, 0, none⟩) n (fun p => (dnP L (pw n - 1) p : Nat))
theorem bld_start (T : TT) (v : Value) (w : World) (hT : TRep 0 w T v) : ∃ k x a n c, v = .agg #[.int .i64 k, .int .i64 x, .slice a n c] := by
  induction T using TT.ind with
  | leaf => exact hT.elim
  | mk k x n kid _ => obtain ⟨a, cap, rfl, _⟩ := hT; exact ⟨k, x, a, n, cap, rfl⟩
set_option maxHeartbeats 4000000 in
theorem build_any (L : Nat → Nat → Bool) (n : Nat) (T : TT) (v : Value) (w : World) (hT : TRep 0 w T v) (hTab : Tab w) (hg : GdT T → (Ok L T ∧ st T = pw n - 1 ∧ n ≤ 10 ∧ ∀ p, p < n → L p p = false)) :
    Calls Tryd.prog 19 #[v] w fun e w' => ((GdT T ∧ BldPost L n w.heap.size e w') ∨ (¬ GdT T ∧ ∃ c : Int, c ≠ 0 ∧ e = .returned (.tuple #[noOrder, .int .i64 c]))) ∧ Below w.heap.size w w' := by
  obtain ⟨k, x, a, l, c, rfl⟩ := bld_start T v w hT
  obtain ⟨W, HWE⟩ : ∃ W, Hid (W = (w.alloc (.cells #[.int .i64 k, .int .i64 x, .slice a l c] 27)).alloc (.cells #[.int .i64 0, .slice none 0 0] 24)) := ⟨_, rfl⟩
  have HB1 : Hid (Below w.heap.size w W) := by rw [HWE.out]; exact ((Below.refl _ _).alloc (Nat.le_refl _) _).alloc (by simp) _
  have HX : Hid (∀ w', Below W.heap.size W w' → (w'.cell? ⟨w.heap.size, 0, none⟩ = some (.int .i64 k) ∧ w'.cell? ⟨w.heap.size, 1, none⟩ = some (.int .i64 x)) ∧ w'.cell? ⟨w.heap.size, 2, none⟩ = some (.slice a l c)) := fun w' h =>
    ⟨⟨cell_stp h (by rw [HWE.out]; simp), cell_stp h (by rw [HWE.out]; simp)⟩, cell_stp h (by rw [HWE.out]; simp)⟩
  have HZ : Hid (∀ w', Below W.heap.size W w' → ZBox w' (w.heap.size + 1)) := fun w' h => by
    refine ZBox.step ?_ h
    rw [HWE.out]
    have := ZBox.new (w.alloc (.cells #[.int .i64 k, .int .i64 x, .slice a l c] 27))
    simpa using this
  have HTW : Hid (TRep 0 W T (.agg #[.int .i64 k, .int .i64 x, .slice a l c])) := TRep.step HB1.out _ _ hT
  have HTA : Hid (Tab W) := hTab.step HB1.out
  have HG : Hid (GdT T → (Ok L T ∧ st T = pw n - 1 ∧ n ≤ 10 ∧ ∀ p, p < n → L p p = false)) := hg
  have HSW : Hid (W.heap.size = w.heap.size + 1 + 1) := by rw [Hid, HWE.out]; simp
  clear hT hTab hg
  obtain ⟨i0, hi, hz0, hz1, hz2⟩ := info_parts Tryd.info3
  go_enter Tryd.func19, Tryd.ntmps19
  go_wp2_with fail
  rw [← HWE.out]
  refine (tCheck_any T _ _ HTW.out).mono ?_
  rintro e w3 ⟨⟨c3, rfl, hc3⟩, hb3⟩
  have HB3 : Hid (Below W.heap.size W w3) := hb3
  have HC3 : Hid (c3 = 0 ↔ GdT T) := hc3
  clear hb3 hc3
  by_cases h0 : c3 = 0
  · subst h0
    have HGT : Hid (GdT T) := HC3.out.1 rfl
    obtain ⟨hok, hst, h10, hir⟩ := HG.out HGT.out
    have HOK : Hid (Ok L T) := hok
    have HST : Hid (st T = pw n - 1) := hst
    have HIR : Hid (∀ p, p < n → L p p = false) := hir
    have HLN : Hid ((pl T).length = n) := by rw [Hid, pl_np hok.gd]; exact (hok.good h10 hst).2
    have HT3 : Hid (TRep 0 w3 T (.agg #[.int .i64 k, .int .i64 x, .slice a l c])) := TRep.step HB3.out _ _ HTW.out
    obtain ⟨⟨y0, y1⟩, y2⟩ := HX.out _ HB3.out
    clear HC3 hok hst hir HG
    go_wp2_with fail
    refine (points_any T _ _ ⟨HGT.out.2.1, HGT.out.1.1⟩ HT3.out).mono ?_
    rintro e w4 ⟨⟨v4, rfl, hown⟩, hb4⟩
    have HB4 : Hid (Below W.heap.size W w4) := Below.then HB3.out hb4
    obtain ⟨a4, c4, rfl, _, _⟩ := owns_ints hown HGT.out.2.1.pos
    have HT4 : Hid (TRep 0 w4 T (.agg #[.int .i64 k, .int .i64 x, .slice a l c])) := TRep.step HB4.out _ _ HTW.out
    rw [HLN.out]
    clear hown hb4 y0 y1 y2 HT3 HB3
    obtain ⟨⟨y0, y1⟩, y2⟩ := HX.out _ HB4.out
    go_wp2_with (at_make; refine wpList_make_full _ rfl _ _ 22 rfl w4.heap.size 3 i0 (.int .i64 0) 1 Tryd.underlying22 hi hz0 hz1 .i64 .i64 _ _ n rfl rfl rfl rfl (by rw [hz2]; omega) (by unfold maxLen; omega) (Nat.le_refl _) ?_; intro w5 hown5 hgrow5; have hB5 : Below W.heap.size W w5 := HB4.out.grown hgrow5 HB4.out.size (by simp); obtain ⟨⟨z0, z1⟩, z2⟩ := HX.out _ hB5)
    have HB54 : Hid (Below w4.heap.size w4 w5) := (Below.refl _ _).grown hgrow5 (Nat.le_refl _) (by simp)
    have HO5 : Hid (Own w5 w4.heap.size n (fun _ => 0) ∧ w4.heap.size < w5.heap.size) := ⟨own_made hown5, own_ltR hown5 rfl⟩
    have HTA4 : Hid (Tab w4) := HTA.out.step HB4.out
    clear hown5 hgrow5 hB5 y0 y1 y2 z0 z1 z2
    refine (lay_any L w4.heap.size n w4 (Nat.le_refl _) h10 HTA4.out HIR.out T _ _ (fun _ => 0) HOK.out (by rw [HST.out]; have := pw_pos n; omega) HT4.out HB54.out HO5.out (fun p _ => by show 0 < 1024; omega)).mono ?_
    rintro e w6 ⟨rfl, hb6, ho6, _⟩
    have HB6 : Hid (Below W.heap.size W w6) := Below.then HB4.out hb6
    obtain ⟨r0, r1, r2, r3⟩ := HZ.out _ HB6.out
    have HRW : Hid (Row w6 (some ⟨w4.heap.size, 0, none⟩) n (fun p => (dnP L (pw n - 1) p : Nat))) := (ho6.congr (fun p _ => by rw [Nat.zero_or, HST.out])).row
    have HBW : Hid (w.heap.size + 1 + 1 ≤ w4.heap.size) := by have := HB4.out.size; rw [HSW.out] at this; exact this
    generalize w4.heap.size = b at *
    clear hb6 ho6
    go_wp2_with fail
    have hbw := HBW.out
    exact bodyPost_ret (v := .tuple #[.agg #[.int .i64 (n : Int), .slice (some ⟨b, 0, none⟩) n n], .int .i64 0]) (by simp [results, Tryd.results19, go_sem, r0, r1]) rfl ⟨.inl ⟨HGT.out, b, by omega, rfl, row_set2 HRW.out (fun _ => ⟨_, _, rfl, by omega⟩)⟩, set2B (Below.then HB1.out HB6.out) (by omega)⟩
  · have hne : (c3 != 0) = true := by simpa using h0
    have HN : Hid (¬ GdT T) := fun k => h0 (HC3.out.2 k)
    obtain ⟨r0, r1, r2, r3⟩ := HZ.out _ HB3.out
    clear HC3
    go_wp2_with fail
    exact bodyPost_ret (v := .tuple #[noOrder, .int .i64 c3]) (by simp [results, Tryd.results19, go_sem, noOrder, r0, r1]) rfl ⟨.inr ⟨HN.out, c3, h0, rfl⟩, set2B (Below.then HB1.out HB3.out) (by omega)⟩
end Go.Proofs.YtjhpegjcknaioaaDoor
