/-
  What the reference's Single and Renumber answer: each element alone; the classes by their numbers. Conditions: at most forty numbers.
-/
import Derived.Test.YtappekjkcgmheaaPlcP
import Derived.Test.YtappekjkcgmheaaNumP
import Derived.Maps.AppendAt
namespace Go.Proofs.Ytappekjkcgmheaa
open Go.RowKit
set_option maxRecDepth 100000

theorem natVals_range (k : Nat) : natVals (List.range (k + 1)) = natVals (List.range k) ++ [.int .i64 (k : Nat)] := by
  rw [List.range_succ, natVals_append]; rfl
set_option maxHeartbeats 1000000 in
theorem single_any (n : Nat) (w : World) (h40 : n ≤ 40) :
    Calls Try.prog 18 #[.int .i64 (n : Nat)] w fun e w' => (∃ v, e = .returned v ∧ w'.ownsRow w.heap.size 3 1 v n (natVals (List.range n))) ∧ Below w.heap.size w w' := by
  obtain ⟨i0, hi, hz0, hz1, hz2⟩ := info_parts Try.info3
  go_enter Try.func18, Try.ntmps18
  go_wp2_with fail
  go_loopw [3, 4] (fun v i wx => ∃ k : Nat, k ≤ n ∧ i = .int .i64 k ∧ wx.ownsRow w.heap.size 3 1 v k (natVals (List.range k)) ∧ Hid (Below w.heap.size w wx)) (fun _ i _ => n - (intOf i).toNat)
  case atStart => exact ⟨0, Nat.zero_le _, rfl, World.ownsRow_nil _ _ _ _, Below.refl _ _⟩
  case round =>
    obtain ⟨k, hk, rfl, hown, HB⟩ := hrel
    by_cases hlt : k < n
    · have hsz := HB.out.size
      have HNV : Hid (natVals (List.range (k + 1)) = natVals (List.range k) ++ [.int .i64 (k : Nat)]) := natVals_range k
      go_wp2_with (at_builtin; refine wpList_append_own _ rfl _ _ 25 rfl w.heap.size 3 i0 (.int .i64 0) 1 8 Try.underlying25 hi hz0 hz1 hz2 rfl (by decide) _ _ _ rfl (hown.alloc _) ⟨wr.heap.size, 0, none⟩ 1 1 [.int .i64 (k : Nat)] rfl rfl ?c1 ?c2 ?c3 ?c4 ?c5 ?_)
      case c1 =>
        intro j u hj
        match j, hj with
        | 0, hj => simp at hj; subst hj; simp [Addr.add]
      case c2 => intro u hu; simp at hu; subst hu; rfl
      case c3 => unfold maxLen; omega
      case c4 => omega
      case c5 => simp; omega
      intro v' w1 hown' hgrow _
      have HB5 : Hid (Below w.heap.size w w1) := below_append3 HB.out hown hgrow
      clear hgrow hown HB
      go_wp2_with fail
      go_roundw
      case rel => exact ⟨k + 1, by omega, by go_num, by rw [HNV.out]; exact hown', HB5⟩
      case measure => simp [intOf]; omega
    · obtain rfl : k = n := by omega
      have HO := (show Hid (World.ownsRow _ _ _ _ _ _ _) from hown)
      clear hown
      go_wp2_with fail
      go_ret
      exact ⟨⟨_, rfl, HO.out⟩, HB.out⟩
/-- Two rows of the call's own, in blocks of their own. -/
structure Twn (w : World) (base : Nat) (v1 : Value) (L1 : List Nat) (v2 : Value) (L2 : List Nat) : Prop where
  o1 : w.ownsRow base 3 1 v1 L1.length (natVals L1)
  o2 : w.ownsRow base 3 1 v2 L2.length (natVals L2)
  ne : ∀ b, v1.ownBlock = some b → v2.ownBlock ≠ some b
theorem own_ltR {w : World} {base size n : Nat} {e : TypeId} {v : Value} {xs : List Value} (h : w.ownsRow base e size v n xs) {b : Nat} (hb : v.ownBlock = some b) : b < w.heap.size := by
  rcases h.2 with ⟨rfl, _⟩ | ⟨g, cap, cur, rfl, _, hg, _⟩
  · cases hb
  · simp [Value.ownBlock] at hb
    subst hb
    exact (Array.getElem?_eq_some_iff.1 hg).1
theorem Twn.swap {w : World} {base : Nat} {v1 v2 : Value} {L1 L2 : List Nat} (h : Twn w base v1 L1 v2 L2) : Twn w base v2 L2 v1 L1 :=
  ⟨h.o2, h.o1, fun b e e' => h.ne b e' e⟩
theorem Twn.grow {w w' : World} {base x : Nat} {o : Obj} {v1 v1' v2 : Value} {L1 L2 : List Nat} (h : Twn w base v1 L1 v2 L2) (hown : w'.ownsRow base 3 1 v1' (L1.length + 1) (natVals L1 ++ [.int .i64 (x : Nat)])) (hg : (w.alloc o).grownBy w' v1.ownBlock)
    (hat : v1'.ownBlock = v1.ownBlock ∨ v1'.ownBlock = some (w.heap.size + 1)) : Twn w' base v1' (L1 ++ [x]) v2 L2 := by
  refine ⟨?_, (h.o2.alloc o).kept hg ?_, fun b e e' => ?_⟩
  · rw [natVals_append, List.length_append]; exact hown
  · cases hv : v2.ownBlock with
    | none => exact .inl rfl
    | some b => exact .inr (fun e => h.ne b e.symm hv)
  · rcases hat with h1 | h1
    · exact h.ne b (h1 ▸ e) e'
    · have := own_ltR h.o2 e'
      rw [h1] at e
      simp at e
      omega
theorem idx_first : ∀ {l : List Nat} {x j : Nat}, j < l.length → nth l j = x → (∀ i, i < j → nth l i ≠ x) → l.idxOf x = j
  | [], _, _, h, _, _ => absurd h (Nat.not_lt_zero _)
  | a :: l, x, 0, _, h, _ => by
    have e : a = x := h
    subst e
    simp
  | a :: l, x, j + 1, hl, h, hn => by
    have ha : a ≠ x := hn 0 (by omega)
    have ih := idx_first (l := l) (x := x) (j := j) (by simpa using hl) h (fun i hi => hn (i + 1) (by omega))
    have hb : (a == x) = false := by simpa using ha
    rw [List.idxOf_cons, ih, hb]
    rfl
theorem nth_mem {l : List Nat} {x j : Nat} (h : j < l.length) (e : nth l j = x) : x ∈ l := by
  subst e
  unfold nth
  rw [List.getD_eq_getElem?_getD, List.getElem?_eq_getElem h]
  exact List.getElem_mem _
theorem mem_nth {l : List Nat} {x : Nat} (h : x ∈ l) : ∃ j, j < l.length ∧ nth l j = x := by
  obtain ⟨j, hj, e⟩ := List.mem_iff_getElem.1 h
  exact ⟨j, hj, by unfold nth; rw [List.getD_eq_getElem?_getD, List.getElem?_eq_getElem hj]; exact e⟩
/-- What is found, is not first; and its number is where it is found. -/
theorem seen_found {c : Nat → Nat} {k j : Nat} (hj : j < (seenL c k).length) (e : nth (seenL c k) j = c k) (hn : ∀ i, i < j → nth (seenL c k) i ≠ c k) : frst c k = false ∧ nbr c k = j := by
  have hm := nth_mem hj e
  have hf : frst c k = false := by
    cases h : frst c k
    · rfl
    · obtain ⟨i, hi, e'⟩ := (seenL_mem c (c k) k).1 hm
      exact absurd e' (frst_iff.1 h i hi)
  refine ⟨hf, ?_⟩
  unfold nbr
  rw [seenL_no hf]
  exact idx_first hj e hn
theorem seen_not {c : Nat → Nat} {k : Nat} (hn : ∀ j, j < (seenL c k).length → nth (seenL c k) j ≠ c k) : frst c k = true ∧ nbr c k = (seenL c k).length := by
  have hf : frst c k = true := frst_iff.2 fun i hi e => by
    obtain ⟨j, hj, e'⟩ := mem_nth ((seenL_mem c (c k) k).2 ⟨i, hi, e⟩)
    exact hn j hj e'
  exact ⟨hf, by rw [nbr_new hf, seenL_len]⟩
theorem clsN_le (c : Nat → Nat) (k : Nat) : clsN c k ≤ k := cntB_le _ _
/-- The numbers of the first k elements. -/
def numL (c : Nat → Nat) (k : Nat) : List Nat := (List.range k).map (nbr c)
theorem numL_succ (c : Nat → Nat) (k : Nat) : numL c (k + 1) = numL c k ++ [nbr c k] := by unfold numL; rw [List.range_succ, List.map_append]; rfl
theorem numL_len (c : Nat → Nat) (k : Nat) : (numL c k).length = k := by simp [numL]
theorem numL_nth {c : Nat → Nat} {q k : Nat} (h : k < q) : nth (numL c q) k = nbr c k := by simp [nth, numL, h]

set_option maxHeartbeats 2000000 in
theorem renumber_any (a : Option Addr) (q cap : Nat) (c : Nat → Nat) (w : World) (h40 : q ≤ 40) (hr : Row w a q (fun k => (c k : Nat))) :
    Calls Try.prog 35 #[.slice a q cap] w fun e w' => (∃ v, e = .returned v ∧ w'.ownsRow w.heap.size 3 1 v q (natVals (numL c q))) ∧ Below w.heap.size w w' := by
  obtain ⟨i0, hi, hz0, hz1, hz2⟩ := info_parts Try.info3
  have HR : Hid (Row w a q (fun k => (c k : Nat))) := hr
  clear hr
  go_enter Try.func35, Try.ntmps35
  go_wp2_with fail
  go_loopw [3, 4, 5] (fun v u i wx => ∃ k : Nat, k ≤ q ∧ i = .int .i64 k ∧ Hid (Twn wx w.heap.size v (seenL c k) u (numL c k)) ∧ Hid (Below w.heap.size w wx)) (fun _ _ i _ => q - (intOf i).toNat)
  case atStart => exact ⟨0, Nat.zero_le _, rfl, ⟨World.ownsRow_nil _ _ _ _, World.ownsRow_nil _ _ _ _, fun b h => by cases h⟩, Below.refl _ _⟩
  case round =>
    obtain ⟨k, hk, rfl, HT, HB⟩ := hrel
    by_cases hlt : k < q
    · have hsz := HB.out.size
      have hlk : (k : Int) < (q : Int) := by omega
      obtain ⟨bp, op, rfl, ck0⟩ := (HR.out.below HB.out) k hlt
      have ck : wr.cell? ⟨bp, op + k, none⟩ = some (.int .i64 (c k : Nat)) := ck0
      clear ck0
      have hln : (seenL c k).length ≤ 40 := by rw [seenL_len]; have := clsN_le c k; omega
      obtain ⟨av, cv, rfl, hrv⟩ := owns_nats HT.out.o1
      have HRV : Hid (Row wr av (seenL c k).length (fun i => (nth (seenL c k) i : Nat))) := hrv
      have HFN : Hid (∀ r, PlaceAt (fun i => ((nth (seenL c k) i : Nat) : Int)) (seenL c k).length (c k) r → (r = ((nbr c k : Nat) : Int) ∧ frst c k = false) ∨ (r = -1 ∧ frst c k = true ∧ nbr c k = (seenL c k).length)) := fun r h => by
        rcases h with ⟨j, hj, rfl, e, hn⟩ | ⟨rfl, hn⟩
        · have := seen_found (c := c) (k := k) (j := j) hj (Int.ofNat_inj.1 e) (fun i hi e => hn i hi (congrArg (fun z : Nat => (z : Int)) e))
          exact .inl ⟨by rw [this.2], this.1⟩
        · have := seen_not (c := c) (k := k) (fun i hi e => hn i hi (congrArg (fun z : Nat => (z : Int)) e))
          exact .inr ⟨rfl, this⟩
      have HNL : Hid (numL c (k + 1) = numL c k ++ [nbr c k]) := numL_succ c k
      have HNN : Hid ((numL c k).length = k) := numL_len c k
      have HYS : Hid (frst c k = true → seenL c (k + 1) = seenL c k ++ [c k]) := seenL_yes
      have HNO : Hid (frst c k = false → seenL c (k + 1) = seenL c k) := seenL_no
      have hnb : nbr c k ≤ 40 := by have := nbr_rise c k; have := clsN_le c k; omega
      clear hrv
      obtain ⟨S2, hS2⟩ : ∃ S, seenL c (k + 1) = S := ⟨_, rfl⟩
      rw [hS2] at HYS HNO
      have HS2E : Hid (seenL c (k + 1) = S2) := hS2
      clear hS2
      obtain ⟨N2, hN2⟩ : ∃ N, numL c (k + 1) = N := ⟨_, rfl⟩
      rw [hN2] at HNL
      have HN2E : Hid (numL c (k + 1) = N2) := hN2
      clear hN2
      generalize hS : seenL c k = S1 at *
      generalize hls : S1.length = ls at *
      generalize hN1 : numL c k = N1 at *
      generalize hNb : nbr c k = nb at *
      generalize hCk : c k = C at *
      generalize frst c k = fr at *
      have HLS : Hid (S1.length = ls) := hls
      clear hS hN1 hNb hCk hls
      have hls2 : (ls : Int) < 9223372036854775807 := by omega
      go_wp2_with fail
      refine (placeR_any av ls cv (fun i => ((nth S1 i : Nat) : Int)) C wr (by unfold maxLen; omega) HRV.out).mono ?_
      rintro e w1 ⟨⟨r, rfl, hpl⟩, rfl⟩
      rcases HFN.out r hpl with ⟨rfl, hfr⟩ | ⟨rfl, hfr, hnl⟩
      · have HS2 : Hid (S2 = S1) := HNO.out hfr
        clear hpl HFN HYS HNO hfr
        have hown := HT.out.o2
        have hnn : decide ((nb : Int) < 0) = false := by simp
        rw [HNN.out] at hown
        have HSW : Hid (Twn wr w.heap.size u4 N1 (.slice av ls cv) S1) := HT.out.swap
        go_wp2_with (at_builtin; refine wpList_append_own_at _ rfl _ _ 25 rfl w.heap.size 3 i0 (.int .i64 0) 1 8 Try.underlying25 hi hz0 hz1 hz2 rfl (by decide) _ _ _ rfl (hown.alloc _) ⟨wr.heap.size, 0, none⟩ 1 1 [.int .i64 (nb : Nat)] rfl rfl ?c1 ?c2 ?c3 ?c4 ?c5 ?_)
        case c1 =>
          intro j u hj
          match j, hj with
          | 0, hj => simp at hj; subst hj; simp [Addr.add]
        case c2 => intro u hu; simp at hu; subst hu; rfl
        case c3 => unfold maxLen; omega
        case c4 => omega
        case c5 => simp; omega
        intro v' w2 hown' hgrow _ hat
        have HB5 : Hid (Below w.heap.size w w2) := below_append3 HB.out hown hgrow
        have HT5 : Hid (Twn w2 w.heap.size (.slice av ls cv) S2 v' N2) := by
          rw [HS2.out, HNL.out]
          exact (HSW.out.grow (by rw [HNN.out]; exact hown') hgrow hat).swap
        clear hown hown' hgrow hat HSW HT HB
        go_wp2_with fail
        go_roundw
        case rel => exact ⟨k + 1, by omega, by go_num, by rw [HS2E.out, HN2E.out]; exact HT5, HB5⟩
        case measure => simp [intOf]; omega
      · have HS2 : Hid (S2 = S1 ++ [C]) := HYS.out hfr
        clear hpl HFN HYS HNO hfr
        have hown := HT.out.o1
        rw [HLS.out] at hown
        go_wp2_with (at_builtin; refine wpList_append_own_at _ rfl _ _ 25 rfl w.heap.size 3 i0 (.int .i64 0) 1 8 Try.underlying25 hi hz0 hz1 hz2 rfl (by decide) _ _ _ rfl (hown.alloc _) ⟨wr.heap.size, 0, none⟩ 1 1 [.int .i64 (C : Nat)] rfl rfl ?c1 ?c2 ?c3 ?c4 ?c5 ?_)
        case c1 =>
          intro j u hj
          match j, hj with
          | 0, hj => simp at hj; subst hj; simp [Addr.add]
        case c2 => intro u hu; simp at hu; subst hu; rfl
        case c3 => unfold maxLen; omega
        case c4 => omega
        case c5 => simp; omega
        intro v' w2 hown' hgrow _ hat
        have HB5 : Hid (Below w.heap.size w w2) := below_append3 HB.out hown hgrow
        have HT5 : Hid (Twn w2 w.heap.size u4 N1 v' S2) := by
          rw [HS2.out]
          exact (HT.out.grow (by rw [HLS.out]; exact hown') hgrow hat).swap
        clear hown hown' hgrow hat HT HB
        have hown := HT5.out.o1
        rw [HNN.out] at hown
        have hsz2 := HB5.out.size
        subst hnl
        go_wp2_with (at_builtin; refine wpList_append_own_at _ rfl _ _ 25 rfl w.heap.size 3 i0 (.int .i64 0) 1 8 Try.underlying25 hi hz0 hz1 hz2 rfl (by decide) _ _ _ rfl (hown.alloc _) ⟨w2.heap.size, 0, none⟩ 1 1 [.int .i64 (nb : Nat)] rfl rfl ?c1 ?c2 ?c3 ?c4 ?c5 ?_)
        case c1 =>
          intro j u hj
          match j, hj with
          | 0, hj => simp at hj; subst hj; simp [Addr.add]
        case c2 => intro u hu; simp at hu; subst hu; rfl
        case c3 => unfold maxLen; omega
        case c4 => omega
        case c5 => simp; omega
        intro v2 w3 hown' hgrow _ hat
        have HB6 : Hid (Below w.heap.size w w3) := below_append3 HB5.out hown hgrow
        have HT6 : Hid (Twn w3 w.heap.size v' S2 v2 N2) := by
          rw [HNL.out]
          exact (HT5.out.grow (by rw [HNN.out]; exact hown') hgrow hat).swap
        clear hown hown' hgrow hat HT5 HB5
        go_wp2_with fail
        go_roundw
        case rel => exact ⟨k + 1, by omega, by go_num, by rw [HS2E.out, HN2E.out]; exact HT6, HB6⟩
        case measure => simp [intOf]; omega
    · obtain rfl : k = q := by omega
      have HO : Hid (wr.ownsRow w.heap.size 3 1 u4 k (natVals (numL c k))) := by have := HT.out.o2; rw [numL_len] at this; exact this
      clear HT
      go_wp2_with fail
      go_ret
      exact ⟨⟨_, rfl, HO.out⟩, HB.out⟩
end Go.Proofs.Ytappekjkcgmheaa
