/-
  What quotient.numbered answers: the classes by their numbers, in a new row. Conditions: at most forty numbers, each below forty.
  Pairs in slices: reading and appending. Conditions: as each theorem says.
-/
import Derived.Test.YtappekjkcgmheaaNumP
import Derived.ArgAppend
namespace Go.Proofs.Ytappekjkcgmheaa
open Go.RowKit Go.Maps

set_option maxRecDepth 100000 in
set_option maxHeartbeats 4000000 in
theorem numbered_any (q : Nat) (a : Option Addr) (cap : Nat) (c : Nat → Nat) (w : World) (h40 : q ≤ 40) (hc : ∀ k, k < q → c k < 40) (hr : Row w a q (fun k => (c k : Nat))) :
    Calls Try.prog 55 #[.slice a q cap] w fun e w' => (∃ B, e = .returned (.slice (some ⟨B, 0, none⟩) q q) ∧ Own w' B q (nbr c) ∧ w.heap.size ≤ B) ∧ Below w.heap.size w w' := by
  have hmm := @run_makeMap Try.prog
  obtain ⟨i0, hi, hz0, hz1, hz2⟩ := info_parts Try.info3
  obtain ⟨W, HW⟩ : ∃ W, Hid (W = w.alloc (.map #[] 0)) := ⟨_, rfl⟩
  have hbW : Below w.heap.size w W := by rw [HW.out]; exact (Below.refl _ _).alloc (Nat.le_refl _) _
  have hsW : W.heap.size = w.heap.size + 1 := by rw [HW.out]; simp
  have HN0 : Hid (NOk c 0 w.heap.size W (.map [])) := by rw [HW.out]; exact NOk.made c w
  have HBW : Hid (Below w.heap.size w W) := hbW
  have HR : Hid (∀ wx, Below w.heap.size w wx → Row wx a q (fun k => (c k : Nat))) := fun wx h => hr.below h
  have HC : Hid (∀ k, k < q → c k < 40) := hc
  clear hr hbW hc
  go_enter Try.func55, Try.ntmps55
  go_wp2_with (at_make; refine wpList_make_full _ rfl _ _ 25 rfl (w.heap.size + 1) 3 i0 (.int .i64 0) 1 Try.underlying25 hi hz0 hz1 .i64 .i64 _ _ q rfl rfl rfl rfl (by rw [hz2]; omega) (by unfold maxLen; omega) (by simp) ?_; intro w1 hown1 hgrow1)
  have HO1 : Hid (Own w1 (w.heap.size + 1) q (numTo c 0)) := by
    have := own_made hown1
    rw [World.size_alloc] at this
    exact this.congr (fun k _ => by simp [numTo])
  rw [← HW.out] at hgrow1
  have HN1 : Hid (NOk c 0 w.heap.size w1 (.map [])) := HN0.out.kept hgrow1 (by simp)
  have HB1 : Hid (Below w.heap.size w w1) := HBW.out.grown hgrow1 (by omega) (by simp)
  clear hown1 hgrow1 hi hz0 hz1 hz2 HW hsW HN0 HBW hmm
  go_loopw [15] (fun i wx => ∃ (k : Nat) (D : DataW Unit), k ≤ q ∧ i = .int .i64 k ∧ Hid (NOk c k w.heap.size wx D) ∧ Hid (Own wx (w.heap.size + 1) q (numTo c k)) ∧ Hid (Below w.heap.size w wx)) (fun i _ => q - (intOf i).toNat)
  case atStart => exact ⟨0, _, Nat.zero_le _, rfl, HN1.out, HO1.out, HB1.out⟩
  case round =>
    obtain ⟨k, D, hk, rfl, HN, HO, HB⟩ := hrel
    clear HN1 HO1 HB1
    by_cases hlt : k < q
    · obtain ⟨b, off, rfl, hcc⟩ := (HR.out _ HB.out).at hlt
      have ck := hcc k hlt
      have hlk : (k : Int) < (q : Int) := by omega
      have hc40 := HC.out k hlt
      have hown := HN.out.own
      have hkey : keyOf Try.prog 3 (.int .i64 ((c k : Nat) : Int)) = some (kI (c k)) := keyOf_int_mk Try.underlying3 (small_wf (by omega))
      have cf := (HO.out k hlt).2
      have cv := (HO.out k hlt).1
      clear hcc
      have HNS : Hid (numTo c (k + 1) = upd (numTo c k) k (nbr c k)) := numTo_succ c k
      cases hf : frst c k
      · have hmem : c k ∈ seenL c k := by
          have := (seenL_mem c (c k) (k + 1)).2 ⟨k, by omega, rfl⟩
          rw [seenL_no hf] at this
          exact this
        have hh : Maps.has D (kI (c k)) = true := (HN.out.has _).2 hmem
        have hva := HN.out.val _ hmem
        have hnb : (seenL c k).idxOf (c k) = nbr c k := by unfold nbr; rw [seenL_no hf]
        rw [hnb] at hva
        have HNX : Hid (NOk c (k + 1) w.heap.size wr D) := HN.out.old hf
        clear hf hmem hnb HN
        generalize nbr c k = N at *
        generalize c k = C at *
        go_wp2_with (at_lookup; refine wpList_lookup_own_ok_int _ rfl _ _ 94 rfl 3 3 .i64 keyedI Try.underlying94 Try.underlying3 (zeroI _) w.heap.size _ _ rfl hown _ _ rfl hkey ?_; intro c0 hat hwc; rw [hva] at hat; simp only [DataW.lit.injEq, Lit.int.injEq, true_and] at hat; subst hat; rw [hh])
        go_roundw
        case rel => exact ⟨k + 1, D, by omega, by go_num, HNX.out.kept (grown_setC _ _ _ _) (by simp), by rw [HNS.out]; exact HO.out.set k N hlt, HB.out.setCell (p := ⟨w.heap.size + 1, k, none⟩) (Nat.le_add_right _ _) _⟩
        case measure => simp [intOf]; omega
      · have hnm : c k ∉ seenL c k := fun hm => by
          obtain ⟨i, hi', e⟩ := (seenL_mem c (c k) k).1 hm
          exact frst_iff.1 hf i hi' e
        have hh : Maps.has D (kI (c k)) = false := by
          cases hb : Maps.has D (kI (c k))
          · rfl
          · exact absurd ((HN.out.has _).1 hb) hnm
        have hnb : nbr c k = clsN c k := nbr_new hf
        have hcl := cls_le c k
        have hcnt := HN.out.cnt
        have hsm : Maps.size D < maxLen := by rw [hcnt]; unfold maxLen; omega
        have hwf := small_wf (n := clsN c k) (by omega)
        have HPUT : Hid (∀ (W' : World) (n : Nat), W'.ownsMap Try.prog 3 (plainElem Try.prog 3) w.heap.size n (D.put (kI (c k)) (.lit (.int .i64 (clsN c k : Nat)))) → NOk c (k + 1) w.heap.size W' (D.put (kI (c k)) (.lit (.int .i64 (clsN c k : Nat))))) := fun W' n h => HN.out.put hf h
        rw [hnb] at HNS
        clear hf hnm hnb HN
        generalize clsN c k = N at *
        generalize c k = C at *
        go_wp2_with (first
          | (at_lookup; refine wpList_lookup_own_ok_int _ rfl _ _ 94 rfl 3 3 .i64 keyedI Try.underlying94 Try.underlying3 (zeroI _) w.heap.size _ _ rfl hown _ _ rfl hkey ?_; intro c0 hat hwc; rw [hh])
          | (at_len; refine wpList_len_own _ rfl _ 94 rfl 3 3 Try.underlying94 _ w.heap.size _ D rfl hown ?_; rw [hcnt])
          | (at_mapUpdate; refine wpList_mapUpdate_own _ rfl _ _ _ 94 rfl 3 3 keyedI Try.underlying94 _ w.heap.size _ _ rfl hown hsm _ _ _ rfl rfl hkey _ [] (plainElem_int Try.underlying3 hwf) ?_; intro w4 hown4 hgrow4; have HO4 := (show Hid (Own w4 (w.heap.size + 1) q (numTo c k)) from HO.out.far hgrow4 (by simp)); have cf4 := (HO4.out k hlt).2; have cv4 := (HO4.out k hlt).1))
        go_roundw
        case rel => exact ⟨k + 1, _, by omega, by go_num, (HPUT.out _ _ hown4).kept (grown_setC _ _ _ _) (by simp), by rw [HNS.out]; exact HO4.out.set k N hlt, (HB.out.grown hgrow4 HB.out.size (fun j e => by cases e; exact Nat.le_refl _)).setCell (p := ⟨w.heap.size + 1, k, none⟩) (Nat.le_add_right _ _) _⟩
        case measure => simp [intOf]; omega
    · obtain rfl : k = q := by omega
      have HE : Hid (Own wr (w.heap.size + 1) k (nbr c)) := HO.out.congr (fun x hx => by unfold numTo; rw [if_pos hx])
      go_wp2_with fail
      go_ret
      exact ⟨⟨_, rfl, HE.out, Nat.le_add_right _ _⟩, HB.out⟩
end Go.Proofs.Ytappekjkcgmheaa
namespace Go.Proofs.Ytappekjkcgmheaa
open Go.RowKit

theorem Try.infoRU : (Try.prog.info? 60).map (fun i => (i.zero, i.size, i.bytes)) = some (some (.agg #[.int .i64 0, .int .i64 0]), 2, 16) := by kernel_rfl
def pairVals : List (Nat × Nat) → List Value
  | [] => []
  | p :: l => .int .i64 (p.1 : Nat) :: .int .i64 (p.2 : Nat) :: pairVals l
theorem pairVals_append : ∀ l m, pairVals (l ++ m) = pairVals l ++ pairVals m
  | [], _ => rfl
  | p :: l, m => by simp [pairVals, pairVals_append l m]
def pairAt (l : List (Nat × Nat)) (k : Nat) : Int × Int := (((l.getD k (0, 0)).1 : Nat), ((l.getD k (0, 0)).2 : Nat))
theorem pairVals_at : ∀ (l : List (Nat × Nat)) (k : Nat), k < l.length → (pairVals l)[k * 2]? = some (.int .i64 (pairAt l k).1) ∧ (pairVals l)[k * 2 + 1]? = some (.int .i64 (pairAt l k).2)
  | [], k, h => absurd h (Nat.not_lt_zero _)
  | p :: l, 0, _ => ⟨rfl, rfl⟩
  | p :: l, k + 1, h => by
    have ih := pairVals_at l k (by simpa using h)
    have e1 : (k + 1) * 2 = k * 2 + 1 + 1 := by omega
    rw [e1]
    simp only [pairVals, List.getElem?_cons_succ]
    exact ih
/-- A value that is a slice of the rules l. -/
def PSl (w : World) (v : Value) (l : List (Nat × Nat)) : Prop := ∃ a cap, v = .slice a l.length cap ∧ PRow w a l.length (pairAt l)
theorem PSl.below {w w' : World} {v : Value} {l : List (Nat × Nat)} (h : PSl w v l) (hb : Below w.heap.size w w') : PSl w' v l := by
  obtain ⟨a, cap, rfl, hr⟩ := h
  exact ⟨a, cap, rfl, hr.below hb⟩
theorem owns_pairs {w : World} {base : Nat} {v : Value} {l : List (Nat × Nat)} (h : w.ownsRow base 60 2 v l.length (pairVals l)) : PSl w v l := by
  by_cases hn : 0 < l.length
  · obtain ⟨g, cap, rfl⟩ := owns_form h hn
    refine ⟨_, cap, rfl, fun k hk => ⟨g, 0, rfl, ?_, ?_⟩⟩
    · rw [Nat.zero_add, h.cellAt _ (by omega)]; exact (pairVals_at l k hk).1
    · rw [Nat.zero_add, h.cellAt _ (by omega)]; exact (pairVals_at l k hk).2
  · have h0 : l.length = 0 := by omega
    rcases h.2 with ⟨rfl, _⟩ | ⟨g, cap, cur, rfl, _⟩
    · exact ⟨none, 0, by rw [h0], fun k hk => absurd (Nat.lt_of_le_of_lt (Nat.zero_le _) hk) hn⟩
    · exact ⟨_, cap, rfl, fun k hk => absurd (Nat.lt_of_le_of_lt (Nat.zero_le _) hk) hn⟩

theorem pairAt_get {l : List (Nat × Nat)} {j : Nat} (h : j < l.length) : pairAt l j = ((l[j].1 : Int), (l[j].2 : Int)) := by simp [pairAt, h]
theorem pairVals_len : ∀ l : List (Nat × Nat), (pairVals l).length = l.length * 2
  | [] => rfl
  | _ :: l => by simp [pairVals, pairVals_len l]; omega
theorem pairVals_one : ∀ (l : List (Nat × Nat)) (u : Value), u ∈ pairVals l → u.oneCell' = true
  | [], u, h => by simp [pairVals] at h
  | q :: l, u, h => by
    simp [pairVals] at h
    rcases h with rfl | rfl | h
    · rfl
    · rfl
    · exact pairVals_one l u h
theorem add_flat (b off j : Nat) : Addr.add ⟨b, off, none⟩ j = ⟨b, off + j, none⟩ := by
  cases j <;> simp [Addr.add]
theorem prow_cells {w : World} {b off : Nat} {l : List (Nat × Nat)} (h : PRow w (some ⟨b, off, none⟩) l.length (pairAt l)) : ∀ j u, (pairVals l)[j]? = some u → w.cell? (Addr.add ⟨b, off, none⟩ j) = some u := fun j u hj => by
  have hlt : j < l.length * 2 := by
    rw [← pairVals_len]
    exact (List.getElem?_eq_some_iff.1 hj).1
  obtain ⟨q, hq⟩ : ∃ q, j = q * 2 ∨ j = q * 2 + 1 := ⟨j / 2, by omega⟩
  obtain ⟨b', off', e, h1, h2⟩ := h q (by omega)
  simp at e
  obtain ⟨rfl, rfl⟩ := e
  obtain ⟨p1, p2⟩ := pairVals_at l q (by omega)
  rcases hq with rfl | rfl
  · rw [p1] at hj; cases hj; rw [add_flat]; exact h1
  · rw [p2] at hj; cases hj; rw [add_flat, ← Nat.add_assoc]; exact h2
theorem prow_take {w : World} {b off : Nat} {l : List (Nat × Nat)} {k : Nat} (hk : k ≤ l.length) (h : PRow w (some ⟨b, off, none⟩) l.length (pairAt l)) : PRow w (some ⟨b, off, none⟩) (l.take k).length (pairAt (l.take k)) := fun j hj => by
  have hj' : j < k := by simp at hj; omega
  obtain ⟨b', off', e, h1, h2⟩ := h j (by omega)
  refine ⟨b', off', e, ?_, ?_⟩
  · rw [h1]; simp [pairAt, hj']
  · rw [h2]; simp [pairAt, hj']
theorem prow_drop {w : World} {b off : Nat} {l : List (Nat × Nat)} {k : Nat} (h : PRow w (some ⟨b, off, none⟩) l.length (pairAt l)) : PRow w (some ⟨b, off + k * 2, none⟩) (l.drop k).length (pairAt (l.drop k)) := fun j hj => by
  have hj' : k + j < l.length := by simp at hj; omega
  obtain ⟨b', off', e, h1, h2⟩ := h (k + j) hj'
  simp at e
  obtain ⟨rfl, rfl⟩ := e
  refine ⟨b, off + k * 2, rfl, ?_, ?_⟩
  · rw [show off + k * 2 + j * 2 = off + (k + j) * 2 by omega, h1]; simp [pairAt]
  · rw [show off + k * 2 + j * 2 + 1 = off + (k + j) * 2 + 1 by omega, h2]; simp [pairAt]
/-- The pairs l lie in v, above base; or v is empty and has no room. -/
def PApp (w : World) (base : Nat) (v : Value) (l : List (Nat × Nat)) : Prop :=
  (l = [] ∧ ∃ b, v = .slice (some ⟨b, 0, none⟩) 0 0) ∨ w.ownsRow base 60 2 v l.length (pairVals l)
theorem PApp.pairs {w : World} {base : Nat} {v : Value} {l : List (Nat × Nat)} (h : PApp w base v l) : PSl w v l := by
  rcases h with ⟨rfl, b, rfl⟩ | h
  · exact ⟨_, 0, rfl, fun k hk => absurd hk (Nat.not_lt_zero _)⟩
  · exact owns_pairs h
theorem owns_base {w : World} {base base' e size : Nat} {v : Value} {n : Nat} {xs : List Value} (h : w.ownsRow base e size v n xs) (hb : base' ≤ base) : w.ownsRow base' e size v n xs := by
  obtain ⟨h1, h2 | ⟨g, cap, cur, h3, h4, h5⟩⟩ := h
  · exact ⟨h1, .inl h2⟩
  · exact ⟨h1, .inr ⟨g, cap, cur, h3, Nat.le_trans hb h4, h5⟩⟩

theorem wp_app {o : Oper} {a : Act} {K : Act → World → Prop} {Q : Exit → Act → World → Prop} (w W : World) (s x : Operand)
    (ho : o.op = .call { callee := .builtin .append, args := #[s, x], argTypes := #[67, 67] }) (v : Value) (l l2 : List (Nat × Nat)) (hs : a.eval s = v) (hA : PApp w W.heap.size v l) (hB : Below W.heap.size W w)
    (b off m c : Nat) (hx : a.eval x = .slice (some ⟨b, off, none⟩) m c) (hm : m = l2.length) (hp : PRow w (some ⟨b, off, none⟩) l2.length (pairAt l2)) (hlen : l.length + l2.length ≤ 1000)
    (h : ∀ v' w', PApp w' W.heap.size v' (l ++ l2) → Below W.heap.size W w' → K (a.put o.dst v') w') : o.wp Try.prog a w K Q := by
  obtain ⟨i0, hi, hz0, hz1, hz2⟩ := info_parts Try.infoRU
  have hc := prow_cells hp
  have h1 := pairVals_one l2
  have hl := pairVals_len l2
  subst hm
  rcases hA with ⟨rfl, b', rfl⟩ | hown
  · by_cases h0 : l2.length = 0
    · obtain rfl : l2 = [] := List.eq_nil_of_length_eq_zero h0
      have hrun := run_append_room_cells (P := Try.prog) w 67 o.type 60 i0 Try.underlying67 hi b' 0 0 0 ⟨b, off, none⟩ 0 c [] (by simp) (fun j u hj => by simp at hj) (fun u hu => by simp at hu) (by omega) (fun j hj => by simp at hj) (fun j hj => by simp at hj)
      unfold Oper.wp
      simp only [List.length_nil] at hx
      simp [execOp, ho, resolve, invoke, builtin, hs, hx, hrun, Result.andThen]
      exact h _ _ (.inl ⟨rfl, b', rfl⟩) hB
    · obtain ⟨v', w', hrun, r1, r2⟩ := run_append_arg_grows (P := Try.prog) w 67 o.type 60 i0 (.agg #[.int .i64 0, .int .i64 0]) 2 16 Try.underlying67 hi hz0 hz1 hz2 rfl (by decide) ⟨b', 0, none⟩ 0 0 [] rfl (fun j u hj => by simp at hj) ⟨b, off, none⟩ l2.length c (pairVals l2) hl hc (by omega) (by unfold maxLen; omega) (by omega)
      unfold Oper.wp
      simp [execOp, ho, resolve, invoke, builtin, hs, hx, hrun, Result.andThen]
      refine h v' w' (.inr (owns_base ?_ hB.size)) (hB.grown r2 hB.size (by simp))
      simpa using r1
  · refine wp_append_own w s x 67 ho W.heap.size 60 i0 (.agg #[.int .i64 0, .int .i64 0]) 2 16 Try.underlying67 hi hz0 hz1 hz2 rfl (by decide) v l.length (pairVals l) hs hown ⟨b, off, none⟩ l2.length c (pairVals l2) hx hl hc h1 (by unfold maxLen; omega) (by omega) hB.size ?_
    intro v' w' hown' hgrow _
    refine h v' w' (.inr ?_) (hB.grown hgrow hB.size (owns_block hown))
    rw [List.length_append, pairVals_append]
    exact hown'
end Go.Proofs.Ytappekjkcgmheaa
