/-
  What scribe.Print answers: an errno with no text; or the text. No condition but that a slice reads as a slice of numbers.
-/
import Derived.Test.YtkakhmkgapnlfaaDoorPrtM
namespace Go.Proofs.YtkakhmkgapnlfaaDoor
open Go.RowKit

def PrintPost (n : Int) (len : Nat) (f : Nat → Int) (e : Ending) : Prop :=
  ∃ c : Int, Chk n len f c ∧ ((c ≠ 0 ∧ e = .returned (.tuple #[.string ⟨#[]⟩, .int .i64 c])) ∨ (c = 0 ∧ e = .returned (.tuple #[.string ⟨(prt len (covs (nat f) len)).toArray⟩, .int .i64 0])))
theorem size_dg (k : Nat) (h : k ≤ 10) : (⟨(dg k).toArray⟩ : ByteArray).size ≤ 2 := by
  show (dg k).toArray.size ≤ 2
  rw [List.size_toArray]; exact dg_len h
theorem bytes_step (l : List UInt8) (c : UInt8) (n : Int) (h : n = c.toNat) : Lib.byteCells l ++ [Value.int .u8 n] = Lib.byteCells (l ++ [c]) := by
  unfold Lib.byteCells; rw [List.map_append, h]; rfl
theorem bytes_dg (l : List UInt8) (k : Nat) : Lib.byteCells l ++ Lib.strCells ⟨(dg k).toArray⟩ = Lib.byteCells (l ++ dg k) := by
  unfold Lib.byteCells Lib.strCells; rw [List.map_append]

set_option maxRecDepth 20000 in
set_option maxHeartbeats 4000000 in
theorem print_any (n : Int) (a : Option Addr) (len cap : Nat) (f : Nat → Int) (w : World) (hl : len ≤ maxLen) (hr : Row w a len f) :
    Calls Tryd.prog 6 #[.agg #[.int .i64 n, .slice a len cap]] w fun e w' => PrintPost n len f e ∧ Below w.heap.size w w' := by
  have K0 : Held (w.alloc (.cells #[.int .i64 n, .slice a len cap] 25)) w.heap.size n a len cap f := Held.box hr
  have HB0 : Hid (Below w.heap.size w (w.alloc (.cells #[.int .i64 n, .slice a len cap] 25))) := (Below.refl _ _).alloc (Nat.le_refl _) _
  clear hr
  go_enter Tryd.func6, Tryd.ntmps6
  go_wp2_with fail
  refine (covers_any n a len cap f _ hl K0.row).mono ?_
  rintro e X ⟨⟨c, v, hc, rfl, hv⟩, hb1⟩
  have K1 := K0.step hb1
  have HB1 : Hid (Below w.heap.size w X) := Below.then HB0.out hb1
  have HC : Hid (Chk n len f c) := hc
  clear hb1 K0 HB0
  by_cases h0 : c = 0
  · subst h0
    obtain ⟨rfl, h10, hrng, hord⟩ := hc.good
    obtain ⟨l, HL⟩ : ∃ l, Hid (covs (nat f) len = l) := ⟨_, rfl⟩
    have HPB : Hid (PB l) := by rw [← HL.out]; exact covs_PB _ h10
    have hl100 : l.length ≤ 100 := by rw [← HL.out]; exact covs_len _ h10
    obtain ⟨va, vc, rfl, hvr⟩ : PSl X v l := by
      rcases hv with ⟨h, _⟩ | ⟨_, h⟩
      · exact absurd rfl h
      · rw [← HL.out]; exact h
    have HVR : Hid (PRow X va l.length (pairAt l)) := hvr
    have HAL : Hid (∀ k, k ≤ l.length → (acc len l k).length ≤ 603) := fun k hk => acc_len h10 HPB.out hl100 k hk
    have hsd := size_dg len h10
    obtain ⟨L, HLL⟩ : ∃ L, Hid (l.length = L) := ⟨_, rfl⟩
    rw [HLL.out] at HVR hl100 HAL ⊢
    have HI0 : Hid (Lib.IsBuilderF 43 5 X.heap.size X.heap.size [] (X.alloc (.cells #[.pointer none, .slice none 0 0] 43))) := Lib.IsBuilderF.of (Lib.fresh_isBuilder 43 5 X)
    have HBX : Hid (Below X.heap.size X (X.alloc (.cells #[.pointer none, .slice none 0 0] 43))) := (Below.refl _ _).alloc (Nat.le_refl _) _
    have k0 := (K1.step HBX.out).c0
    clear hc hv hvr hrng hord
    go_wp2_with (first
      | (go_at_call 12; refine (Tryd.strconv_Itoa_small len (by omega) _).mono ?_; rintro e w' ⟨rfl, hww⟩; subst hww))
    refine (wString_any X.heap.size X.heap.size [] ⟨(dg len).toArray⟩ _ HI0.out (by simp only [List.length_nil]; omega) (by simp)).mono ?_
    rintro e W1 ⟨rfl, h1, b1, _⟩
    have HI1 : Hid (Lib.IsBuilderF 43 5 X.heap.size X.heap.size (Lib.byteCells (dg len)) W1) := Or.inr h1
    have HB2 : Hid (Below X.heap.size X W1) := HBX.out.trans b1
    have hdl := dg_len h10
    clear h1 b1 HI0 HBX k0
    go_wp2_with fail
    refine (wByte_any X.heap.size X.heap.size _ 58 _ HI1.out (by rw [Lib.byteCells_length]; omega) HB2.out.size).mono ?_
    rintro e W2 ⟨rfl, h2, b2, _⟩
    have HI2 : Hid (Lib.IsBuilderF 43 5 X.heap.size X.heap.size (Lib.byteCells (acc len l 0)) W2) := by
      rw [bytes_step _ 58 58 rfl] at h2; exact Or.inr h2
    have HB3 : Hid (Below X.heap.size X W2) := HB2.out.trans b2
    clear h2 b2 HI1 HB2
    go_wp2_with fail
    go_loopw [24] (fun x wx => ∃ k : Nat, k ≤ L ∧ x = .int .i64 k ∧ Hid (Lib.IsBuilderF 43 5 X.heap.size X.heap.size (Lib.byteCells (acc len l k)) wx) ∧ Hid (Below X.heap.size X wx)) (fun x _ => L - (intOf x).toNat)
    case atStart => exact ⟨0, Nat.zero_le _, rfl, HI2, HB3⟩
    case round =>
      clear HI2 HB3
      obtain ⟨k, hk, rfl, HI, HB⟩ := hrel
      by_cases hlt : k < L
      · obtain ⟨rb, ro, rfl, hc0, hc1⟩ := (HVR.out.below HB.out) k hlt
        have hpb := HPB.out k (by rw [HLL.out]; exact hlt)
        have hal := HAL.out k hk
        unfold pairAt at hc0 hc1
        dsimp only at hc0 hc1
        obtain ⟨p1, HP1⟩ : ∃ p1, Hid ((l.getD k (0, 0)).1 = p1) := ⟨_, rfl⟩
        obtain ⟨p2, HP2⟩ : ∃ p2, Hid ((l.getD k (0, 0)).2 = p2) := ⟨_, rfl⟩
        rw [HP1.out] at hc0 hpb
        rw [HP2.out] at hc1 hpb
        have hp1 := hpb.1
        have hp2 := hpb.2
        have hs1 := size_dg p1 (by omega)
        have hs2 := size_dg p2 (by omega)
        have hd1 := dg_len (k := p1) (by omega)
        have hd2 := dg_len (k := p2) (by omega)
        have hlt' : (k : Int) < (L : Int) := by omega
        have hlow : X.heap.size < wr.heap.size := by
          rcases HI.out with h | h
          · obtain ⟨_, v, hb, _⟩ := h; exact (Array.getElem?_eq_some_iff.1 hb).1
          · obtain ⟨_, v, hb, _⟩ := h; exact (Array.getElem?_eq_some_iff.1 hb).1
        have HNX : Hid (acc len l (k + 1) = (((acc len l k ++ [32]) ++ dg p1) ++ [60]) ++ dg p2) := by
          rw [Hid, acc_succ, prPair, HP1.out, HP2.out]; simp
        obtain ⟨A0, HA0⟩ : ∃ A0, Hid (acc len l k = A0) := ⟨_, rfl⟩
        rw [HA0.out] at HI HNX hal
        have HN0 : Hid ((wr.alloc (.cells #[.int .i64 (p1 : Nat), .int .i64 (p2 : Nat)] 50)).heap[wr.heap.size]? = some (.cells #[.int .i64 (p1 : Nat), .int .i64 (p2 : Nat)] 50)) := by unfold Hid; first | exact Lib.heap_alloc_new _ _ | exact heap_alloc_new _ _ | simp
        have hNB : wr.heap.size ≠ X.heap.size := by omega
        have hNR : ∀ c fz, (Obj.cells #[.int .i64 (p1 : Nat), .int .i64 (p2 : Nat)] 50) ≠ .cells c 5 fz := fun c fz e => by injection e with _ e2; exact absurd e2 (by decide)
        have HNR : Hid (∀ c fz, (Obj.cells #[.int .i64 (p1 : Nat), .int .i64 (p2 : Nat)] 50) ≠ .cells c 5 fz) := hNR
        clear hpb hNR
        go_wp2_with fail
        clear hc0 hc1
        refine (wByte_any X.heap.size X.heap.size _ 32 _ (HI.out.alloc _) (by rw [Lib.byteCells_length]; omega) (HB.out.alloc HB.out.size _).size).mono ?_
        rintro e W2 ⟨rfl, h2, b2, o2⟩
        rw [bytes_step _ 32 32 rfl] at h2
        have HI2 : Hid (Lib.IsBuilderF 43 5 X.heap.size X.heap.size (Lib.byteCells (A0 ++ [32])) W2) := Or.inr h2
        have HB2 : Hid (Below X.heap.size X W2) := (HB.out.alloc HB.out.size _).trans b2
        have HN2 : Hid (W2.heap[wr.heap.size]? = some (.cells #[.int .i64 (p1 : Nat), .int .i64 (p2 : Nat)] 50)) := kept_cell o2 HN0.out hNB HNR.out
        have c20 := cell_heap (k := 0) HN2.out rfl
        clear h2 b2 o2 HI HB HN0
        go_wp2_with (first
          | (go_at_call 12; refine (Tryd.strconv_Itoa_small p1 (by omega) _).mono ?_; rintro e w' ⟨rfl, hww⟩; subst hww))
        clear c20
        refine (wString_any X.heap.size X.heap.size _ ⟨(dg p1).toArray⟩ _ HI2.out (by rw [Lib.byteCells_length, List.length_append, List.length_singleton]; omega) HB2.out.size).mono ?_
        rintro e W3 ⟨rfl, h3, b3, o3⟩
        rw [bytes_dg] at h3
        have HI3 : Hid (Lib.IsBuilderF 43 5 X.heap.size X.heap.size (Lib.byteCells ((A0 ++ [32]) ++ dg p1)) W3) := Or.inr h3
        have HB3 : Hid (Below X.heap.size X W3) := HB2.out.trans b3
        have HN3 : Hid (W3.heap[wr.heap.size]? = some (.cells #[.int .i64 (p1 : Nat), .int .i64 (p2 : Nat)] 50)) := kept_cell o3 HN2.out hNB HNR.out
        clear h3 b3 o3 HI2 HB2 HN2
        go_wp2_with fail
        refine (wByte_any X.heap.size X.heap.size _ 60 _ HI3.out (by rw [Lib.byteCells_length, List.length_append, List.length_append, List.length_singleton]; omega) HB3.out.size).mono ?_
        rintro e W4 ⟨rfl, h4, b4, o4⟩
        rw [bytes_step _ 60 60 rfl] at h4
        have HI4 : Hid (Lib.IsBuilderF 43 5 X.heap.size X.heap.size (Lib.byteCells (((A0 ++ [32]) ++ dg p1) ++ [60])) W4) := Or.inr h4
        have HB4 : Hid (Below X.heap.size X W4) := HB3.out.trans b4
        have HN4 : Hid (W4.heap[wr.heap.size]? = some (.cells #[.int .i64 (p1 : Nat), .int .i64 (p2 : Nat)] 50)) := kept_cell o4 HN3.out hNB HNR.out
        have c41 := cell_heap (k := 1) HN4.out rfl
        clear h4 b4 o4 HI3 HB3 HN3
        go_wp2_with (first
          | (go_at_call 12; refine (Tryd.strconv_Itoa_small p2 (by omega) _).mono ?_; rintro e w' ⟨rfl, hww⟩; subst hww))
        clear c41
        refine (wString_any X.heap.size X.heap.size _ ⟨(dg p2).toArray⟩ _ HI4.out (by rw [Lib.byteCells_length, List.length_append, List.length_append, List.length_append, List.length_singleton, List.length_singleton]; omega) HB4.out.size).mono ?_
        rintro e W5 ⟨rfl, h5, b5, _⟩
        rw [bytes_dg, ← HNX.out] at h5
        have HI5 : Hid (Lib.IsBuilderF 43 5 X.heap.size X.heap.size (Lib.byteCells (acc len l (k + 1))) W5) := Or.inr h5
        have HB5 : Hid (Below X.heap.size X W5) := HB4.out.trans b5
        clear h5 b5 HI4 HB4 HN4
        go_wp2_with fail
        go_roundw
        case rel => exact ⟨k + 1, by omega, by go_num, HI5, HB5⟩
        case measure => simp [intOf]; omega
      · obtain rfl : k = L := by omega
        have HFIN : Hid (prt len (covs (nat f) len) = acc len l k) := by
          rw [Hid, HL.out]; unfold prt; rw [HLL.out]
        go_wp2_with fail
        refine (wDone_any X.heap.size X.heap.size (acc len l k) _ HI.out HB.out.size).mono ?_
        rintro e W3 ⟨rfl, _, b3, _⟩
        have HB4 : Hid (Below w.heap.size w W3) := Below.then HB1.out (HB.out.trans b3)
        clear b3
        go_wp2_with fail
        exact bodyPost_ret (v := .tuple #[.string ⟨(acc len l k).toArray⟩, .int .i64 0]) (by simp [results, Tryd.results6, go_sem]) rfl ⟨⟨0, HC.out, .inr ⟨rfl, by rw [HFIN.out]⟩⟩, HB4.out⟩
  · have hne : (c != 0) = true := by simpa using h0
    obtain rfl : v = .slice none 0 0 := by
      rcases hv with ⟨_, h⟩ | ⟨h, _⟩
      · exact h
      · exact absurd h h0
    clear hc hv
    go_wp2_with fail
    exact bodyPost_ret (v := .tuple #[.string ⟨#[]⟩, .int .i64 c]) (by simp [results, Tryd.results6, go_sem]) rfl ⟨⟨c, HC.out, .inl ⟨h0, rfl⟩⟩, HB1.out⟩
end Go.Proofs.YtkakhmkgapnlfaaDoor
