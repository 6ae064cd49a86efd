/-
  What a reader's pair answers where it does not give up. Conditions: the reader lies in its variable; the text's bytes as the theorem says.
-/
import Derived.Test.YtkakhmkgapnlfaaDoorReadN
import Derived.Test.YtkakhmkgapnlfaaDoorBuild
namespace Go.Proofs.YtkakhmkgapnlfaaDoor
open Go.RowKit

/-- But for block R all is as it was; new blocks behind. -/
structure Kp (R : Nat) (w w' : World) : Prop where
  os : w'.os = w.os
  tape : w'.tape = w.tape
  output : w'.output = w.output
  size : w.heap.size ≤ w'.heap.size
  block : ∀ k, k < w.heap.size → k ≠ R → w'.heap[k]? = w.heap[k]?
theorem MvN.size {R j : Nat} {w w' : World} (h : MvN R j w w') : w'.heap.size = w.heap.size := by rw [h.heap]; simp [World.setCell]
theorem MvN.kp {R j : Nat} {w w' : World} (h : MvN R j w w') : Kp R w w' :=
  ⟨h.os, h.tape, h.output, by rw [h.size]; exact Nat.le_refl _, fun k _ hne => by rw [h.heap]; exact Below.heap_setCell _ _ _ _ hne⟩
theorem Kp.refl (R : Nat) (w : World) : Kp R w w := ⟨rfl, rfl, rfl, Nat.le_refl _, fun _ _ _ => rfl⟩
theorem Kp.tr {R : Nat} {a b c : World} (h : Kp R a b) (h' : Kp R b c) : Kp R a c :=
  ⟨h'.os.trans h.os, h'.tape.trans h.tape, h'.output.trans h.output, Nat.le_trans h.size h'.size, fun k hk hne => by
    have := h.size
    rw [h'.block k (by omega) hne, h.block k hk hne]⟩
theorem Kp.of {R : Nat} {w w' : World} (h : Below w.heap.size w w') : Kp R w w' := ⟨h.os, h.tape, h.output, h.size, fun k hk _ => h.block k hk⟩
theorem Kp.below {R B : Nat} {w w' : World} (h : Kp R w w') (hB : B ≤ R) (hw : B ≤ w.heap.size) : Below B w w' := ⟨h.os, h.tape, h.output, h.size, fun k hk => h.block k (by omega) (by omega)⟩
theorem Kp.owns {R : Nat} {w w' : World} (h : Kp R w w') {base size n : Nat} {e : TypeId} {v : Value} {xs : List Value} (ho : w.ownsRow base e size v n xs) (hb : R < base) : w'.ownsRow base e size v n xs := by
  refine ⟨ho.1, ?_⟩
  rcases ho.2 with h2 | ⟨g, cap, cur, hv, hg, hh, r⟩
  · exact Or.inl h2
  · have hlt : g < w.heap.size := (Array.getElem?_eq_some_iff.1 hh).1
    exact Or.inr ⟨g, cap, cur, hv, hg, by rw [h.block g hlt (by omega)]; exact hh, r⟩
theorem Rd.lt {w : World} {R : Nat} {s : ByteArray} {i : Nat} (h : Rd w R s i) : R < w.heap.size := World.block_lt_of_cell? _ _ h.1
theorem Rd.other {w : World} {R : Nat} {s : ByteArray} {i : Nat} (h : Rd w R s i) {p : Addr} (hp : p.block ≠ R) (v : Value) : Rd (w.setCell p v) R s i :=
  ⟨by rw [World.cell?_setCell_other _ _ _ _ (fun e => hp (by rw [e]))]; exact h.1, by rw [World.cell?_setCell_other _ _ _ _ (fun e => hp (by rw [e]))]; exact h.2.1, by rw [World.frozen?_setCell]; exact h.2.2⟩
theorem Kp.set {R : Nat} {w w' : World} (h : Kp R w w') {p : Addr} (hp : w.heap.size ≤ p.block) (v : Value) : Kp R w (w'.setCell p v) :=
  ⟨h.os, h.tape, h.output, by have := h.size; simp [World.setCell]; exact this, fun k hk hne => by rw [Below.heap_setCell _ _ _ _ (by omega)]; exact h.block k hk hne⟩
theorem Rd.below {w w' : World} {R : Nat} {s : ByteArray} {i : Nat} (h : Rd w R s i) (hb : Below w.heap.size w w') : Rd w' R s i :=
  ⟨(hb.cell (p := ⟨R, 0, none⟩) h.lt).trans h.1, (hb.cell (p := ⟨R, 1, none⟩) h.lt).trans h.2.1, (hb.frozen (p := ⟨R, 1, none⟩) h.lt).trans h.2.2⟩
set_option maxHeartbeats 2000000 in
theorem pair_any (R : Nat) (s : ByteArray) (i n p1 p2 : Nat) (b1 b2 : UInt8) (w : World) (h : Rd w R s i) (hc0 : s.data[i]? = some 32) (hc1 : s.data[i + 1]? = some b1) (hc2 : s.data[i + 2]? = some 60) (hc3 : s.data[i + 3]? = some b2) (hst : Stop s (i + 4)) (h1 : p1 < 10) (h2 : p2 < 10) (hb1 : b1.toNat = 48 + p1) (hb2 : b2.toNat = 48 + p2) (hn1 : p1 < n) (hn2 : p2 < n) (hn : n ≤ 10) (hi9 : i < 8000000) :
    Calls Tryd.prog 18 #[.pointer (some ⟨R, 0, none⟩), .int .i64 (n : Int)] w fun e w' => e = .returned (.agg #[.int .i64 (p1 : Nat), .int .i64 (p2 : Nat)]) ∧ Rd w' R s (i + 4) ∧ Kp R w w' := by
  have hRw := h.lt
  obtain ⟨W, HW⟩ : ∃ W, Hid (W = w.alloc (.cells #[.int .i64 0, .int .i64 0] 50)) := ⟨_, rfl⟩
  have HB0 : Hid (Below w.heap.size w W) := by rw [HW.out]; exact (Below.refl _ _).alloc (Nat.le_refl _) _
  have HR : Hid (Rd W R s i) := h.below HB0.out
  have HN : Hid (W.heap[w.heap.size]? = some (.cells #[.int .i64 0, .int .i64 0] 50)) := by rw [HW.out]; exact heap_alloc_new _ _
  have HSZ : Hid (W.heap.size = w.heap.size + 1) := by rw [HW.out]; simp [Hid]
  have HC0 : Hid (s.data[i]? = some 32) := hc0
  have HC1 : Hid (s.data[i + 1]? = some b1) := hc1
  have HC2 : Hid (s.data[i + 2]? = some 60) := hc2
  have HC3 : Hid (s.data[i + 3]? = some b2) := hc3
  have HST : Hid (Stop s (i + 4)) := hst
  have HE1 : Hid (b1.toNat = 48 + p1) := hb1
  have HE2 : Hid (b2.toNat = 48 + p2) := hb2
  have HS2 : Hid (Stop s (i + 2)) := .inr ⟨60, hc2, .inr (by decide)⟩
  have hsub : IntKind.i64.wrap ((n : Int) - 1) = (n : Int) - 1 := wrap_i64_small _ (by omega) (by omega)
  clear h hc0 hc1 hc2 hc3 hst hb1 hb2
  go_enter Tryd.func18, Tryd.ntmps18
  go_wp2_with fail
  rw [← HW.out]
  refine (take_any R s i 32 _ HR.out HC0.out (by omega)).mono ?_
  rintro e w1 ⟨rfl, m1⟩
  have HM1 : Hid (MvN R (i + 1) W w1) := MvN.of m1
  clear m1
  go_wp2_with fail
  refine (number_small R s (i + 1) p1 ((n : Int) - 1) 3 b1 _ (MvN.rd HR.out HM1.out) HC1.out h1 HE1.out HS2.out (by omega) (by omega)).mono ?_
  rintro e w2 ⟨rfl, m2⟩
  have HM2 : Hid (MvN R (i + 2) W w2) := HM1.out.tr m2
  clear m2 HM1
  go_wp2_with fail
  refine (take_any R s (i + 2) 60 _ (MvN.rd HR.out HM2.out) HC2.out (by omega)).mono ?_
  rintro e w3 ⟨rfl, m3⟩
  have HM3 : Hid (MvN R (i + 3) W w3) := HM2.out.tr (MvN.of m3)
  clear m3 HM2
  go_wp2_with fail
  refine (number_small R s (i + 3) p2 ((n : Int) - 1) 3 b2 _ (MvN.rd HR.out HM3.out) HC3.out h2 HE2.out HST.out (by omega) (by omega)).mono ?_
  rintro e w4 ⟨rfl, m4⟩
  have HM4 : Hid (MvN R (i + 4) W w4) := HM3.out.tr m4
  have hblk : w4.heap[w.heap.size]? = some (.cells #[.int .i64 0, .int .i64 0] 50) := by
    rw [(HM4.out.kp).block _ (by rw [HSZ.out]; omega) (by omega)]; exact HN.out
  have c0 : w4.cell? ⟨w.heap.size, 0, none⟩ = some (.int .i64 0) := by simp [World.cell?, hblk]
  have c1 : w4.cell? ⟨w.heap.size, 1, none⟩ = some (.int .i64 0) := by simp [World.cell?, hblk]
  have f0 : w4.frozen? ⟨w.heap.size, 0, none⟩ = false := by simp [World.frozen?, hblk]
  have f1 : w4.frozen? ⟨w.heap.size, 1, none⟩ = false := by simp [World.frozen?, hblk]
  have HR4 : Hid (Rd w4 R s (i + 4)) := MvN.rd HR.out HM4.out
  have HK4 : Hid (Kp R w w4) := (Kp.of HB0.out).tr HM4.out.kp
  clear m4 HM3 HM4 hblk HN HSZ
  go_wp2_with fail
  refine bodyPost_ret (v := .agg #[.int .i64 (p1 : Nat), .int .i64 (p2 : Nat)]) (by simp [results, Tryd.results18, go_sem, c0, c1]) rfl ⟨rfl, ?_, ?_⟩
  · exact (HR4.out.other (p := ⟨w.heap.size, 0, none⟩) (by show w.heap.size ≠ R; omega) _).other (p := ⟨w.heap.size, 1, none⟩) (by show w.heap.size ≠ R; omega) _
  · exact (HK4.out.set (p := ⟨w.heap.size, 0, none⟩) (Nat.le_refl _) _).set (p := ⟨w.heap.size, 1, none⟩) (Nat.le_refl _) _
end Go.Proofs.YtkakhmkgapnlfaaDoor
