/-
  What clock.Lost answers, whatever it is handed. Condition: a slice reads as a slice of events.
-/
import Derived.Test.YtomoodpgmkjacabDoorClT
import Derived.Test.YtomoodpgmkjacabDoorClU
namespace Go.Proofs.YtomoodpgmkjacabDoor
open Go.RowKit

theorem lostB_no1 {E : Nat → Int × Int × Int} {n i : Nat} (h : ((E i).1 == 2) = false) : lostB E n i = false := by simp [lostB, h]
theorem lostB_eq {E : Nat → Int × Int × Int} {n i : Nat} (h : ((E i).1 == 2) = true) {b : Bool} (hb : b = true ↔ hasE E n 3 (E i).2.2) : lostB E n i = !b := by
  have e : hasB E 3 (E i).2.2 n = b := by rw [Bool.eq_iff_iff, hasB_iff]; exact hb.symm
  simp [lostB, h, e]
theorem EBox.grown1 {w w1 : World} {X base n : Nat} {q : Int × Int × Int} {v : Value} {xs : List Value} {o : Obj} (h : EBox w X q) (hown : w.ownsRow base 3 1 v n xs) (hg : (w.alloc o).grownBy w1 v.ownBlock) : EBox w1 X q := by
  have hlt := h.lt
  have e1 : (w.alloc o).heap[X]? = w.heap[X]? := ((Below.refl w.heap.size w).alloc (Nat.le_refl _) o).block X hlt
  refine (hg.block X (by simp; omega) (fun e => ?_)).trans (e1.trans h)
  rcases hown.2 with ⟨rfl, _⟩ | ⟨g, cap, cur, rfl, _, h2, _⟩
  · simp [Value.ownBlock] at e
  · simp [Value.ownBlock] at e
    subst e
    unfold EBox at h
    rw [h] at h2
    simp at h2
theorem own_of_owns {w : World} {base : Nat} {v : Value} {l : List Nat} (h : w.ownsRow base 3 1 v l.length (natVals l)) : ∃ a b cap, v = .slice a l.length cap ∧ (0 < l.length → a = some ⟨b, 0, none⟩) ∧ Own w b l.length (nth l) ∧ base ≤ b := by
  rcases h.2 with ⟨rfl, h0⟩ | ⟨g, cap, cur, rfl, hb, _⟩
  · exact ⟨none, base, 0, by rw [h0], fun hn => absurd hn (by omega), fun k hk => absurd hk (by omega), Nat.le_refl _⟩
  · refine ⟨_, g, cap, rfl, fun _ => rfl, fun k hk => ⟨?_, h.frozenAt k⟩, hb⟩
    rw [h.cellAt k (by omega)]
    exact natVals_at l k hk
set_option maxRecDepth 100000 in
set_option maxHeartbeats 4000000 in
theorem lost_any (Wk : Int) (a : Option Addr) (len cap : Nat) (E : Nat → Int × Int × Int) (w : World) (hl : len ≤ maxLen) (hc : len ≤ cap) (hr : ERow w a len E) :
    Calls Tryd.prog 9 #[.int .i64 Wk, .slice a len cap] w fun e w' => LstPost Wk len E (srt E len len) e w' ∧ Below w.heap.size w w' := by
  have HR : Hid (ERow w a len E) := hr
  have HL : Hid (len ≤ maxLen) := hl
  clear hr hl
  go_enter Tryd.func9, Tryd.ntmps9
  go_wp2_with fail
  refine (clockCheck_any Wk a len cap E _ HL.out hc HR.out).mono ?_
  rintro e w1 ⟨⟨c, rfl, hc1⟩, hb⟩
  have HB1 : Hid (Below w.heap.size w w1) := hb
  have HR1 : Hid (ERow w1 a len E) := HR.out.below hb
  have HC : Hid (CkE Wk len E c) := hc1
  clear hb HR hc1
  by_cases h0 : c = 0
  · subst h0
    obtain ⟨⟨_, _, h10⟩, hev⟩ := HC.out.good
    have HEV : Hid (∀ j, j < len → EvIs Wk E j 0) := hev
    have HMS : Hid (∀ j, j < len → (E j).2.2 = (msg E j : Nat)) := fun j hj => by
      have := (hev j hj).good.2.1.2.2
      unfold msg; omega
    clear hev
    obtain ⟨i0, hi, hz0, hz1, hz2⟩ := info_parts Tryd.info3
    go_wp2_with fail
    go_loopw [7, 18] (fun v t wx => ∃ i : Nat, i ≤ len ∧ t = .int .i64 i ∧ wx.ownsRow w1.heap.size 3 1 v (lostL E len i).length (natVals (lostL E len i)) ∧ Hid (Below w1.heap.size w1 wx)) (fun _ t _ => len - (intOf t).toNat)
    case atStart => exact ⟨0, Nat.zero_le _, rfl, World.ownsRow_nil _ _ _ _, Below.refl _ _⟩
    case round =>
      obtain ⟨i, hi', rfl, hown, hB⟩ := hrel
      by_cases hlt : i < len
      · obtain ⟨b, off, rfl, c1, c2, c3⟩ := (HR1.out.below hB.out) i hlt
        have hlt' : (i : Int) < (len : Int) := by omega
        have HBW : Hid (Below w1.heap.size w1 (wr.alloc (.cells #[.int .i64 (E i).1, .int .i64 (E i).2.1, .int .i64 (E i).2.2] 38))) := hB.out.alloc hB.out.size _
        have HO1 : Hid ((wr.alloc (.cells #[.int .i64 (E i).1, .int .i64 (E i).2.1, .int .i64 (E i).2.2] 38)).ownsRow w1.heap.size 3 1 u7 (lostL E len i).length (natVals (lostL E len i))) := hown.alloc _
        have HBX : Hid (EBox (wr.alloc (.cells #[.int .i64 (E i).1, .int .i64 (E i).2.1, .int .i64 (E i).2.2] 38)) wr.heap.size (E i)) := heap_alloc_new wr _
        clear hown hB
        rcases (Bool.eq_false_or_eq_true ((E i).1 == 2)).symm with hk | hk
        · have HE : Hid (lostL E len (i + 1) = lostL E len i) := lostL_no (lostB_no1 hk)
          go_wp2_with fail
          go_roundw
          case rel => exact ⟨i + 1, by omega, by go_num, by rw [HE.out]; exact HO1.out, HBW.out⟩
          case measure => simp [intOf]; omega
        · go_wp2_with fail
          refine (has2_any _ len cap E 3 (E i).2.2 _ HL.out (HR1.out.below HBW.out)).mono ?_
          rintro e w5 ⟨⟨v, rfl, hv⟩, hb⟩
          have HLB : Hid (lostB E len i = !v) := lostB_eq hk hv
          have HB5 : Hid (Below w1.heap.size w1 w5) := Below.then HBW.out hb
          have hown5 : w5.ownsRow w1.heap.size 3 1 u7 (lostL E len i).length (natVals (lostL E len i)) := owns_below HO1.out hb
          have HX5 : Hid (EBox w5 wr.heap.size (E i)) := HBX.out.step hb
          obtain ⟨x0, x1, x2⟩ := HX5.out.cells
          clear hb HO1 HBW HBX hv c1 c2 c3
          cases v
          · have HE : Hid (lostL E len (i + 1) = lostL E len i ++ [msg E i]) := lostL_yes HLB.out
            have hlen3 : (lostL E len i).length ≤ 10 := Nat.le_trans (lostL_len E len i) (by omega)
            have hsz : w1.heap.size ≤ w5.heap.size := HB5.out.size
            have hms := HMS.out i hlt
            rw [hms] at x2
            obtain ⟨L, HLL⟩ : ∃ L, Hid (L = lostL E len i) := ⟨_, rfl⟩
            rw [← HLL.out] at hown5 hlen3
            clear hms HLB
            go_wp2_with (at_builtin; refine wpList_append_own _ rfl _ _ 24 rfl w1.heap.size 3 i0 (.int .i64 0) 1 8 Tryd.underlying24 hi hz0 hz1 hz2 rfl (by decide) _ _ _ rfl (hown5.alloc _) ⟨w5.heap.size, 0, none⟩ 1 1 [.int .i64 (msg E i : Nat)] rfl rfl ?c1 ?c2 ?c3 ?c4 ?c5 ?_)
            case c1 =>
              intro j u hj
              match j, hj with
              | 0, hj => simp at hj; subst hj; simp [Addr.add]
            case c2 => intro u hu; simp at hu; subst hu; rfl
            case c3 => unfold maxLen; omega
            case c4 => omega
            case c5 => simp; omega
            intro v' w4 hown' hgrow _
            have HB6 : Hid (Below w1.heap.size w1 w4) := below_append2 HB5.out hown5 hgrow
            have HO6 : Hid (w4.ownsRow w1.heap.size 3 1 v' (lostL E len (i + 1)).length (natVals (lostL E len (i + 1)))) := by
              rw [HE.out, ← HLL.out, natVals_append, List.length_append]; exact hown'
            clear hown' hgrow hown5 HB5 hlen3 hsz HLL x0 x1 x2 HX5
            go_wp2_with fail
            go_roundw
            case rel => exact ⟨i + 1, by omega, by go_num, HO6.out, HB6.out⟩
            case measure => simp [intOf]; omega
          · have HE : Hid (lostL E len (i + 1) = lostL E len i) := lostL_no HLB.out
            clear HLB x0 x1 x2 HX5
            go_wp2_with fail
            go_roundw
            case rel => exact ⟨i + 1, by omega, by go_num, by rw [HE.out]; exact hown5, HB5.out⟩
            case measure => simp [intOf]; omega
      · obtain rfl : i = len := by omega
        obtain ⟨av, bv, capv, rfl, hav, hOv, hbv⟩ := own_of_owns hown
        have HB2 : Hid (Below w.heap.size w wr) := Below.then HB1.out hB.out
        have HSV : Hid (w.heap.size ≤ bv) := Nat.le_trans HB1.out.size hbv
        have hlen : (lostL E i i).length ≤ 10 := Nat.le_trans (lostL_len E i i) h10
        have HS := fun base w0 (h1 : Below base w0 wr) (h2 : base ≤ bv) => sort_any av bv (lostL E i i).length capv (nth (lostL E i i)) base w0 wr hlen hav hOv h1 h2
        have HFIN : Hid (∀ (h : Nat → Nat) (wx : World), Own wx bv (lostL E i i).length h → Ris h (lostL E i i).length → (∀ v, Mem h (lostL E i i).length v ↔ Mem (nth (lostL E i i)) (lostL E i i).length v) → NSl wx (.slice av (lostL E i i).length capv) (srt E i i)) := fun h wx hO hr hm => by
          have hlS := srt_len E i i
          have hinc := nth_inc (srt_inc (n := i) i HEV.out)
          have heq := ris_is (S := nth (srt E i i)) hr (fun p q h1 h2 => hinc p q h1 (by omega)) (fun k hk => (hm _).2 (by
            have h1 : nth (srt E i i) k ∈ srt E i i := by
              have : k < (srt E i i).length := by omega
              simp only [nth, List.getD_eq_getElem?_getD, List.getElem?_eq_getElem this]
              exact List.getElem_mem this
            obtain ⟨q, hq, e⟩ := List.getElem_of_mem ((mem_srt i).1 h1)
            exact ⟨q, hq, by simp only [nth, List.getD_eq_getElem?_getD, List.getElem?_eq_getElem hq]; exact e⟩))
          refine ⟨av, capv, by rw [hlS], fun k hk => ?_⟩
          rw [hlS] at hk
          refine ⟨bv, 0, hav (by omega), ?_⟩
          rw [Nat.zero_add, (hO k hk).1, heq k hk]
        clear hown hOv hbv hB
        go_wp2_with fail
        refine (HS w.heap.size w HB2.out HSV.out).mono ?_
        rintro e w6 ⟨⟨v, rfl⟩, h, hO, hris, hmem, hb6⟩
        have HN : Hid (NSl w6 (.slice av (lostL E i i).length capv) (srt E i i)) := HFIN.out h w6 hO hris hmem
        have HB6 : Hid (Below w.heap.size w w6) := hb6
        clear HS HFIN hO hris hmem hb6
        go_wp2_with fail
        go_ret2
        exact ⟨⟨0, _, HC.out, rfl, .inr ⟨rfl, HN.out⟩⟩, HB6.out⟩
  · have h0' : (c != 0) = true := by simpa using h0
    go_wp2_with fail
    go_ret2
    exact ⟨⟨c, _, HC.out, rfl, .inl ⟨h0, rfl⟩⟩, HB1.out⟩
end Go.Proofs.YtomoodpgmkjacabDoor
