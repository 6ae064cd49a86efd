/-
  How classes are numbered: those that come first have the least numbers; classes that are the same have the same numbers. Plain facts on numbers.
  What quotient.merge does: one class goes into another one, in the row itself. Conditions: a row that may be written, of at most forty numbers.
  What quotient.numbered answers: the classes by their numbers. Conditions: at most forty numbers, each below forty.
  What quotient.numbered answers: the classes by their numbers, in a new row. Conditions: at most forty numbers, each below forty.
  Keys that are arrays of numbers: what a map makes of them, and that different lists have different keys. Conditions: as each theorem says.
-/
import Derived.Test.YthhnngmfbbljaaaGreatQuM
import Derived.Test.YthhnngmfbbljaaaGreatSets
import Derived.Maps.OwnSet
import Derived.Deep.AppendLies
import Derived.Laws.EntriesVeiled
import Derived.WideKeyArr
namespace Go.Proofs.YthhnngmfbbljaaaGreat
set_option maxRecDepth 100000
open Go.RowKit

/-- The classes of the first k elements, as they come. -/
def seenL (c : Nat → Nat) : Nat → List Nat
  | 0 => []
  | k + 1 => if frst c k = true then seenL c k ++ [c k] else seenL c k
theorem seenL_yes {c : Nat → Nat} {k : Nat} (h : frst c k = true) : seenL c (k + 1) = seenL c k ++ [c k] := by rw [seenL, if_pos h]
theorem seenL_no {c : Nat → Nat} {k : Nat} (h : frst c k = false) : seenL c (k + 1) = seenL c k := by rw [seenL, if_neg (by rw [h]; decide)]
theorem seenL_len (c : Nat → Nat) : ∀ k, (seenL c k).length = clsN c k
  | 0 => rfl
  | k + 1 => by
    have ih := seenL_len c k
    unfold clsN at ih ⊢
    cases h : frst c k
    · rw [seenL_no h, cntB_no h, ih]
    · rw [seenL_yes h, cntB_yes h, List.length_append, ih]; rfl
theorem seenL_mem (c : Nat → Nat) (v : Nat) : ∀ k, v ∈ seenL c k ↔ ∃ i, i < k ∧ c i = v
  | 0 => by simp [seenL]
  | k + 1 => by
    have ih := seenL_mem c v k
    cases h : frst c k
    · rw [seenL_no h, ih]
      constructor
      · rintro ⟨i, hi, e⟩; exact ⟨i, by omega, e⟩
      · rintro ⟨i, hi, e⟩
        by_cases k' : i = k
        · subst k'
          obtain ⟨a, ha, e1, e2⟩ := first_of c v i e
          refine ⟨a, ?_, e1⟩
          rcases Nat.lt_or_eq_of_le ha with hl | hl
          · exact hl
          · subst hl; rw [h] at e2; cases e2
        · exact ⟨i, by omega, e⟩
    · rw [seenL_yes h, List.mem_append, ih, List.mem_singleton]
      constructor
      · rintro (⟨i, hi, e⟩ | e)
        · exact ⟨i, by omega, e⟩
        · exact ⟨k, by omega, e.symm⟩
      · rintro ⟨i, hi, e⟩
        by_cases k' : i = k
        · subst k'; exact .inr e.symm
        · exact .inl ⟨i, by omega, e⟩
/-- The number of an element's class. -/
def nbr (c : Nat → Nat) (x : Nat) : Nat := (seenL c (x + 1)).idxOf (c x)
theorem seen_idx {c : Nat → Nat} {a : Nat} (h : frst c a = true) : ∀ d, (seenL c (a + 1 + d)).idxOf (c a) = clsN c a
  | 0 => by
    have hn : c a ∉ seenL c a := fun hm => by
      obtain ⟨i, hi, e⟩ := (seenL_mem c (c a) a).1 hm
      exact frst_iff.1 h i hi e
    show (seenL c (a + 1)).idxOf (c a) = _
    rw [seenL_yes h, List.idxOf_append, if_neg hn, seenL_len]
    simp
  | d + 1 => by
    have ih := seen_idx h d
    have hm : c a ∈ seenL c (a + 1 + d) := (seenL_mem c (c a) _).2 ⟨a, by omega, rfl⟩
    rw [show a + 1 + (d + 1) = (a + 1 + d) + 1 by omega]
    cases h' : frst c (a + 1 + d)
    · rw [seenL_no h']; exact ih
    · rw [seenL_yes h', List.idxOf_append, if_pos hm]; exact ih
theorem seen_at {c : Nat → Nat} {a n : Nat} (h : frst c a = true) (hn : a < n) : (seenL c n).idxOf (c a) = clsN c a := by
  have := seen_idx h (n - (a + 1))
  rw [show a + 1 + (n - (a + 1)) = n by omega] at this
  exact this
theorem nbr_first {c : Nat → Nat} {a x : Nat} (h : frst c a = true) (hax : a ≤ x) (e : c a = c x) : nbr c x = clsN c a := by
  unfold nbr
  rw [← e]
  exact seen_at h (by omega)
theorem nbr_new {c : Nat → Nat} {x : Nat} (h : frst c x = true) : nbr c x = clsN c x := nbr_first h (Nat.le_refl _) rfl
theorem cls_less {c : Nat → Nat} {a b : Nat} (ha : frst c a = true) (h : a < b) : clsN c a < clsN c b := by
  have : ∀ d, clsN c (a + 1) ≤ clsN c (a + 1 + d) := fun d => by
    induction d with
    | zero => exact Nat.le_refl _
    | succ d ih =>
      refine Nat.le_trans ih ?_
      show cntB (frst c) (a + 1 + d) ≤ cntB (frst c) ((a + 1 + d) + 1)
      cases h' : frst c (a + 1 + d)
      · rw [cntB_no h']; exact Nat.le_refl _
      · rw [cntB_yes h']; omega
  have h1 := this (b - (a + 1))
  rw [show a + 1 + (b - (a + 1)) = b by omega] at h1
  have h2 : clsN c (a + 1) = clsN c a + 1 := cntB_yes ha
  omega
/-- The numbers tell the classes. -/
theorem nbr_ker {c : Nat → Nat} {x y : Nat} : nbr c x = nbr c y ↔ c x = c y := by
  obtain ⟨a, ha, ea, fa⟩ := first_of c (c x) x rfl
  obtain ⟨b, hb, eb, fb⟩ := first_of c (c y) y rfl
  rw [nbr_first fa ha ea, nbr_first fb hb eb]
  constructor
  · intro h
    rcases Nat.lt_trichotomy a b with hl | hl | hl
    · have := cls_less fa hl; omega
    · rw [← ea, hl, eb]
    · have := cls_less fb hl; omega
  · intro h
    rcases Nat.lt_trichotomy a b with hl | hl | hl
    · exact absurd (ea.trans (h.trans eb.symm)) (frst_iff.1 fb a hl)
    · rw [hl]
    · exact absurd (eb.trans (h.symm.trans ea.symm)) (frst_iff.1 fa b hl)
/-- The same classes, the same numbers. -/
theorem nbr_same {q : Nat} {c d : Nat → Nat} (h1 : Ker q c d) (h2 : Ker q d c) : ∀ x, x < q → nbr c x = nbr d x := fun x hx => by
  have hf : ∀ k, k < q → frst c k = frst d k := fun k hk => by
    rw [Bool.eq_iff_iff, frst_iff, frst_iff]
    exact ⟨fun h i hi e => h i hi (h2 i k (by omega) hk e), fun h i hi e => h i hi (h1 i k (by omega) hk e)⟩
  have hc : ∀ k, k ≤ q → clsN c k = clsN d k := fun k => by
    induction k with
    | zero => exact fun _ => rfl
    | succ k ih =>
      intro hk
      have ih' := ih (by omega)
      have e := hf k (by omega)
      unfold clsN at ih' ⊢
      cases hb : frst c k
      · rw [cntB_no hb, cntB_no (by rw [← e]; exact hb), ih']
      · rw [cntB_yes hb, cntB_yes (by rw [← e]; exact hb), ih']
  obtain ⟨a, ha, ea, fa⟩ := first_of c (c x) x rfl
  rw [nbr_first fa ha ea, nbr_first (by rw [← hf a (by omega)]; exact fa) ha (h1 a x (by omega) hx ea), hc a (by omega)]
/-- Numbers as they must be: none but the next new one is above those that have come. -/
theorem nbr_rise (c : Nat → Nat) (x : Nat) : nbr c x ≤ clsN c x := by
  obtain ⟨a, ha, ea, fa⟩ := first_of c (c x) x rfl
  rw [nbr_first fa ha ea]
  rcases Nat.lt_or_eq_of_le ha with h | h
  · exact Nat.le_of_lt (cls_less fa h)
  · rw [h]; exact Nat.le_refl _
end Go.Proofs.YthhnngmfbbljaaaGreat
namespace Go.Proofs.YthhnngmfbbljaaaGreat
set_option maxRecDepth 100000
open Go.RowKit

/-- So far. -/
def mixR (c : Nat → Nat) (a b k x : Nat) : Nat := if x < k then rel1 c a b x else c x
theorem mixR_zero (c : Nat → Nat) (a b : Nat) : mixR c a b 0 = c := by funext x; simp [mixR]
theorem mixR_at (c : Nat → Nat) (a b k : Nat) : mixR c a b k k = c k := by simp [mixR]
theorem mixR_no {c : Nat → Nat} {a b k : Nat} (h : c k ≠ a) : mixR c a b (k + 1) = mixR c a b k := by
  funext x
  unfold mixR
  by_cases e : x = k
  · subst e; simp [rel1_no h]
  · by_cases l : x < k
    · rw [if_pos (by omega), if_pos l]
    · rw [if_neg (by omega), if_neg l]
theorem mixR_yes {c : Nat → Nat} {a b k : Nat} (h : c k = a) : mixR c a b (k + 1) = upd (mixR c a b k) k b := by
  funext x
  by_cases e : x = k
  · subst e; rw [upd_same]; unfold mixR; rw [if_pos (by omega), rel1_yes h]
  · rw [upd_other _ _ _ _ e]
    unfold mixR
    by_cases l : x < k
    · rw [if_pos (by omega), if_pos l]
    · rw [if_neg (by omega), if_neg l]
theorem grown_setC (w : World) (b k : Nat) (u : Value) : w.grownBy (w.setCell ⟨b, k, none⟩ u) (some b) :=
  ⟨rfl, rfl, rfl, by simp [World.setCell], fun i _ hne => Below.heap_setCell w ⟨b, k, none⟩ u i (fun e => hne (by rw [e]))⟩

set_option maxHeartbeats 1000000 in
theorem merge_any (q B : Nat) (cap : Nat) (c : Nat → Nat) (a b : Nat) (w : World) (h40 : q ≤ 40) (ho : Own w B q c) :
    Calls Tryz.prog 83 #[.slice (some ⟨B, 0, none⟩) q cap, .int .i64 (a : Nat), .int .i64 (b : Nat)] w fun e w' => e = .returned (.tuple #[]) ∧ Own w' B q (rel1 c a b) ∧ w.grownBy w' (some B) := by
  have HO : Hid (Own w B q (mixR c a b 0)) := by rw [mixR_zero]; exact ho
  clear ho
  go_enter Tryz.func83, Tryz.ntmps83
  go_wp2_with fail
  go_loopw [10] (fun i wx => ∃ k : Nat, k ≤ q ∧ i = .int .i64 k ∧ Hid (Own wx B q (mixR c a b k)) ∧ Hid (w.grownBy wx (some B))) (fun i _ => q - (intOf i).toNat)
  case atStart => exact ⟨0, Nat.zero_le _, rfl, HO.out, ⟨rfl, rfl, rfl, Nat.le_refl _, fun _ _ _ => rfl⟩⟩
  case round =>
    obtain ⟨k, hk, rfl, HK, HG⟩ := hrel
    clear HO
    by_cases hlt : k < q
    · have ck := (HK.out k hlt).1
      have cf := (HK.out k hlt).2
      rw [mixR_at] at ck
      have hlk : (k : Int) < (q : Int) := by omega
      by_cases e : c k = a
      · have he : (((c k : Nat) : Int) == (a : Int)) = true := by rw [e]; simp
        have HM : Hid (mixR c a b (k + 1) = upd (mixR c a b k) k b) := mixR_yes e
        clear e
        go_wp2_with fail
        go_roundw
        case rel => exact ⟨k + 1, by omega, by go_num, by rw [HM.out]; exact HK.out.set k b hlt, HG.out.trans (grown_setC _ _ _ _)⟩
        case measure => simp [intOf]; omega
      · have he : (((c k : Nat) : Int) == (a : Int)) = false := by simp; omega
        have HM : Hid (mixR c a b (k + 1) = mixR c a b k) := mixR_no e
        clear e
        go_wp2_with fail
        go_roundw
        case rel => exact ⟨k + 1, by omega, by go_num, by rw [HM.out]; exact HK.out, HG⟩
        case measure => simp [intOf]; omega
    · obtain rfl : k = q := by omega
      have HE : Hid (Own wr B k (rel1 c a b)) := HK.out.congr (fun x hx => by unfold mixR; rw [if_pos hx])
      go_wp2_with fail
      exact bodyPost_end (results_none rfl _ _ _) rfl ⟨rfl, HE.out, HG.out⟩
end Go.Proofs.YthhnngmfbbljaaaGreat
namespace Go.Proofs.YthhnngmfbbljaaaGreat
set_option maxRecDepth 100000
open Go.RowKit Go.Maps

theorem keyedI : Keyed Tryz.prog 3 := int_keyed Tryz.underlying3
theorem zeroI (w : World) : (zeroValue 3).run Tryz.prog w = .ok (.int .i64 0) w := by kernel_rfl
/-- The key of a number. -/
def kI (x : Nat) : Lit := .int .i64 (x : Int)
theorem kI_ne {x y : Nat} (h : x ≠ y) : kI x ≠ kI y := by
  unfold kI; intro e
  simp only [Lit.int.injEq, true_and] at e
  omega
theorem kI_key (x : Nat) : WideAt.IsKeyLit (kI x) := trivial
theorem small_wf {n : Nat} (h : n ≤ 1000) : (Lit.int .i64 (n : Int)).wf = true := WalkArith.wf_i64 (by omega)
theorem owns_tight {W : World} {Bm k : Nat} {D : DataW Unit} (h : W.ownsMap Tryz.prog 3 (plainElem Tryz.prog 3) Bm k D) : W.ownsMap Tryz.prog 3 (plainElem Tryz.prog 3) Bm (Maps.size D) D := by
  obtain ⟨es, clock, hb, F, _, rfl⟩ := h
  exact ⟨es, clock, hb, F, by rw [size_eq, length_read]; exact Nat.le_refl _, rfl⟩
/-- What the map holds behind the first k elements. -/
structure NOk (c : Nat → Nat) (k Bm : Nat) (W : World) (D : DataW Unit) : Prop where
  own : W.ownsMap Tryz.prog 3 (plainElem Tryz.prog 3) Bm (Maps.size D) D
  cnt : Maps.size D = clsN c k
  has : ∀ v : Nat, Maps.has D (kI v) = true ↔ v ∈ seenL c k
  val : ∀ v : Nat, v ∈ seenL c k → D.atKey (kI v) (.lit (.int .i64 0)) = .lit (.int .i64 ((seenL c k).idxOf v : Nat))
theorem NOk.made (c : Nat → Nat) (w : World) : NOk c 0 w.heap.size (w.alloc (.map #[] 0)) (.map []) :=
  ⟨World.ownsMap_made _ _ _ _, rfl, fun v => by simp [has_eq, seenL], fun v h => by cases h⟩
theorem NOk.kept {c : Nat → Nat} {k Bm : Nat} {W W' : World} {D : DataW Unit} {row : Option Nat} (h : NOk c k Bm W D) (hg : W.grownBy W' row) (hne : some Bm ≠ row) : NOk c k Bm W' D := ⟨h.own.kept hg hne, h.cnt, h.has, h.val⟩
theorem NOk.old {c : Nat → Nat} {k Bm : Nat} {W : World} {D : DataW Unit} (h : NOk c k Bm W D) (hf : frst c k = false) : NOk c (k + 1) Bm W D :=
  ⟨h.own, by rw [h.cnt]; exact (cntB_no hf).symm, by rw [seenL_no hf]; exact h.has, by rw [seenL_no hf]; exact h.val⟩
theorem NOk.put {c : Nat → Nat} {k Bm n : Nat} {W W' : World} {D : DataW Unit} (h : NOk c k Bm W D) (hf : frst c k = true)
    (ho : W'.ownsMap Tryz.prog 3 (plainElem Tryz.prog 3) Bm n (D.put (kI (c k)) (.lit (.int .i64 (clsN c k : Nat))))) : NOk c (k + 1) Bm W' (D.put (kI (c k)) (.lit (.int .i64 (clsN c k : Nat)))) := by
  have hn : c k ∉ seenL c k := fun hm => by
    obtain ⟨i, hi, e⟩ := (seenL_mem c (c k) k).1 hm
    exact frst_iff.1 hf i hi e
  have hh : Maps.has D (kI (c k)) = false := by
    cases hb : Maps.has D (kI (c k))
    · rfl
    · exact absurd ((h.has _).1 hb) hn
  refine ⟨owns_tight ho, ?_, fun v => ?_, fun v hv => ?_⟩
  · rw [size_put (h.own.tidy keyedI), hh, h.cnt]
    exact (cntB_yes hf).symm
  · rw [seenL_yes hf, List.mem_append, List.mem_singleton]
    by_cases e : v = c k
    · subst e
      rw [has_put_same h.own.isMap (kI_key _)]
      simp
    · rw [has_put_other (kI_ne e), h.has]
      exact ⟨.inl, fun h' => h'.elim id fun e' => absurd e' e⟩
  · rw [seenL_yes hf] at hv ⊢
    by_cases e : v = c k
    · subst e
      rw [atKey_put_same h.own.isMap (kI_key _), List.idxOf_append, if_neg hn, seenL_len]
      simp
    · have hv' : v ∈ seenL c k := by
        rcases List.mem_append.1 hv with h' | h'
        · exact h'
        · exact absurd (List.mem_singleton.1 h') e
      rw [atKey_put_other (kI_ne e), h.val v hv', List.idxOf_append, if_pos hv']
theorem cls_le (c : Nat → Nat) (k : Nat) : clsN c k ≤ k := cntB_le _ _
/-- The list so far. -/
def numTo (c : Nat → Nat) (k x : Nat) : Nat := if x < k then nbr c x else 0
theorem numTo_succ (c : Nat → Nat) (k : Nat) : numTo c (k + 1) = upd (numTo c k) k (nbr c k) := by
  funext x
  by_cases e : x = k
  · subst e; rw [upd_same]; unfold numTo; rw [if_pos (by omega)]
  · rw [upd_other _ _ _ _ e]
    unfold numTo
    by_cases l : x < k
    · rw [if_pos (by omega), if_pos l]
    · rw [if_neg (by omega), if_neg l]
theorem Own.far {w w' : World} {b n : Nat} {g : Nat → Nat} {row : Option Nat} (h : Own w b n g) (hg : w.grownBy w' row) (hne : some b ≠ row) : Own w' b n g := fun k hk =>
  ⟨(hg.cell_far ⟨b, k, none⟩ (World.block_lt_of_cell? _ _ (h k hk).1) hne).trans (h k hk).1, (hg.frozen_far ⟨b, k, none⟩ (World.block_lt_of_cell? _ _ (h k hk).1) hne).trans (h k hk).2⟩
end Go.Proofs.YthhnngmfbbljaaaGreat
namespace Go.Proofs.YthhnngmfbbljaaaGreat
open Go.RowKit Go.Maps

set_option maxRecDepth 100000 in
set_option maxHeartbeats 4000000 in
theorem numbered_any (q : Nat) (a : Option Addr) (cap : Nat) (c : Nat → Nat) (w : World) (h40 : q ≤ 40) (hc : ∀ k, k < q → c k < 40) (hr : Row w a q (fun k => (c k : Nat))) :
    Calls Tryz.prog 84 #[.slice a q cap] w fun e w' => (∃ B, e = .returned (.slice (some ⟨B, 0, none⟩) q q) ∧ Own w' B q (nbr c) ∧ w.heap.size ≤ B) ∧ Below w.heap.size w w' := by
  have hmm := @run_makeMap Tryz.prog
  obtain ⟨i0, hi, hz0, hz1, hz2⟩ := info_parts Tryz.info3
  obtain ⟨W, HW⟩ : ∃ W, Hid (W = w.alloc (.map #[] 0)) := ⟨_, rfl⟩
  have hbW : Below w.heap.size w W := by rw [HW.out]; exact (Below.refl _ _).alloc (Nat.le_refl _) _
  have hsW : W.heap.size = w.heap.size + 1 := by rw [HW.out]; simp
  have HN0 : Hid (NOk c 0 w.heap.size W (.map [])) := by rw [HW.out]; exact NOk.made c w
  have HBW : Hid (Below w.heap.size w W) := hbW
  have HR : Hid (∀ wx, Below w.heap.size w wx → Row wx a q (fun k => (c k : Nat))) := fun wx h => hr.below h
  have HC : Hid (∀ k, k < q → c k < 40) := hc
  clear hr hbW hc
  go_enter Tryz.func84, Tryz.ntmps84
  go_wp2_with (at_make; refine wpList_make_full _ rfl _ _ 22 rfl (w.heap.size + 1) 3 i0 (.int .i64 0) 1 Tryz.underlying22 hi hz0 hz1 .i64 .i64 _ _ q rfl rfl rfl rfl (by rw [hz2]; omega) (by unfold maxLen; omega) (by simp) ?_; intro w1 hown1 hgrow1)
  have HO1 : Hid (Own w1 (w.heap.size + 1) q (numTo c 0)) := by
    have := own_made hown1
    rw [World.size_alloc] at this
    exact this.congr (fun k _ => by simp [numTo])
  rw [← HW.out] at hgrow1
  have HN1 : Hid (NOk c 0 w.heap.size w1 (.map [])) := HN0.out.kept hgrow1 (by simp)
  have HB1 : Hid (Below w.heap.size w w1) := HBW.out.grown hgrow1 (by omega) (by simp)
  clear hown1 hgrow1 hi hz0 hz1 hz2 HW hsW HN0 HBW hmm
  go_loopw [15] (fun i wx => ∃ (k : Nat) (D : DataW Unit), k ≤ q ∧ i = .int .i64 k ∧ Hid (NOk c k w.heap.size wx D) ∧ Hid (Own wx (w.heap.size + 1) q (numTo c k)) ∧ Hid (Below w.heap.size w wx)) (fun i _ => q - (intOf i).toNat)
  case atStart => exact ⟨0, _, Nat.zero_le _, rfl, HN1.out, HO1.out, HB1.out⟩
  case round =>
    obtain ⟨k, D, hk, rfl, HN, HO, HB⟩ := hrel
    clear HN1 HO1 HB1
    by_cases hlt : k < q
    · obtain ⟨b, off, rfl, hcc⟩ := (HR.out _ HB.out).at hlt
      have ck := hcc k hlt
      have hlk : (k : Int) < (q : Int) := by omega
      have hc40 := HC.out k hlt
      have hown := HN.out.own
      have hkey : keyOf Tryz.prog 3 (.int .i64 ((c k : Nat) : Int)) = some (kI (c k)) := keyOf_int_mk Tryz.underlying3 (small_wf (by omega))
      have cf := (HO.out k hlt).2
      have cv := (HO.out k hlt).1
      clear hcc
      have HNS : Hid (numTo c (k + 1) = upd (numTo c k) k (nbr c k)) := numTo_succ c k
      cases hf : frst c k
      · have hmem : c k ∈ seenL c k := by
          have := (seenL_mem c (c k) (k + 1)).2 ⟨k, by omega, rfl⟩
          rw [seenL_no hf] at this
          exact this
        have hh : Maps.has D (kI (c k)) = true := (HN.out.has _).2 hmem
        have hva := HN.out.val _ hmem
        have hnb : (seenL c k).idxOf (c k) = nbr c k := by unfold nbr; rw [seenL_no hf]
        rw [hnb] at hva
        have HNX : Hid (NOk c (k + 1) w.heap.size wr D) := HN.out.old hf
        clear hf hmem hnb HN
        generalize nbr c k = N at *
        generalize c k = C at *
        go_wp2_with (at_lookup; refine wpList_lookup_own_ok_int _ rfl _ _ 123 rfl 3 3 .i64 keyedI Tryz.underlying123 Tryz.underlying3 (zeroI _) w.heap.size _ _ rfl hown _ _ rfl hkey ?_; intro c0 hat hwc; rw [hva] at hat; simp only [DataW.lit.injEq, Lit.int.injEq, true_and] at hat; subst hat; rw [hh])
        go_roundw
        case rel => exact ⟨k + 1, D, by omega, by go_num, HNX.out.kept (grown_setC _ _ _ _) (by simp), by rw [HNS.out]; exact HO.out.set k N hlt, HB.out.setCell (p := ⟨w.heap.size + 1, k, none⟩) (Nat.le_add_right _ _) _⟩
        case measure => simp [intOf]; omega
      · have hnm : c k ∉ seenL c k := fun hm => by
          obtain ⟨i, hi', e⟩ := (seenL_mem c (c k) k).1 hm
          exact frst_iff.1 hf i hi' e
        have hh : Maps.has D (kI (c k)) = false := by
          cases hb : Maps.has D (kI (c k))
          · rfl
          · exact absurd ((HN.out.has _).1 hb) hnm
        have hnb : nbr c k = clsN c k := nbr_new hf
        have hcl := cls_le c k
        have hcnt := HN.out.cnt
        have hsm : Maps.size D < maxLen := by rw [hcnt]; unfold maxLen; omega
        have hwf := small_wf (n := clsN c k) (by omega)
        have HPUT : Hid (∀ (W' : World) (n : Nat), W'.ownsMap Tryz.prog 3 (plainElem Tryz.prog 3) w.heap.size n (D.put (kI (c k)) (.lit (.int .i64 (clsN c k : Nat)))) → NOk c (k + 1) w.heap.size W' (D.put (kI (c k)) (.lit (.int .i64 (clsN c k : Nat))))) := fun W' n h => HN.out.put hf h
        rw [hnb] at HNS
        clear hf hnm hnb HN
        generalize clsN c k = N at *
        generalize c k = C at *
        go_wp2_with (first
          | (at_lookup; refine wpList_lookup_own_ok_int _ rfl _ _ 123 rfl 3 3 .i64 keyedI Tryz.underlying123 Tryz.underlying3 (zeroI _) w.heap.size _ _ rfl hown _ _ rfl hkey ?_; intro c0 hat hwc; rw [hh])
          | (at_len; refine wpList_len_own _ rfl _ 123 rfl 3 3 Tryz.underlying123 _ w.heap.size _ D rfl hown ?_; rw [hcnt])
          | (at_mapUpdate; refine wpList_mapUpdate_own _ rfl _ _ _ 123 rfl 3 3 keyedI Tryz.underlying123 _ w.heap.size _ _ rfl hown hsm _ _ _ rfl rfl hkey _ [] (plainElem_int Tryz.underlying3 hwf) ?_; intro w4 hown4 hgrow4; have HO4 := (show Hid (Own w4 (w.heap.size + 1) q (numTo c k)) from HO.out.far hgrow4 (by simp)); have cf4 := (HO4.out k hlt).2; have cv4 := (HO4.out k hlt).1))
        go_roundw
        case rel => exact ⟨k + 1, _, by omega, by go_num, (HPUT.out _ _ hown4).kept (grown_setC _ _ _ _) (by simp), by rw [HNS.out]; exact HO4.out.set k N hlt, (HB.out.grown hgrow4 HB.out.size (fun j e => by cases e; exact Nat.le_refl _)).setCell (p := ⟨w.heap.size + 1, k, none⟩) (Nat.le_add_right _ _) _⟩
        case measure => simp [intOf]; omega
    · obtain rfl : k = q := by omega
      have HE : Hid (Own wr (w.heap.size + 1) k (nbr c)) := HO.out.congr (fun x hx => by unfold numTo; rw [if_pos hx])
      go_wp2_with fail
      go_ret
      exact ⟨⟨_, rfl, HE.out, Nat.le_add_right _ _⟩, HB.out⟩
end Go.Proofs.YthhnngmfbbljaaaGreat
namespace Go.Proofs.YthhnngmfbbljaaaGreat
open Go.RowKit Go.Maps Go.WideMaps
set_option maxRecDepth 100000

theorem mapM_some {α β : Type} {f : α → Option β} {h : α → β} : ∀ l : List α, (∀ i, i ∈ l → f i = some (h i)) → l.mapM f = some (l.map h)
  | [], _ => rfl
  | a :: l, H => by
    rw [List.mapM_cons, H a (by simp), mapM_some l (fun i hi => H i (by simp [hi]))]
    rfl
theorem keyOf_ints {P : Program} {k e : TypeId} {n : Nat} {q : IntKind} (A : ArrKey P k e n) (he : P.underlying e = some (.int q)) (hsz : ∃ m, P.types.size = m + 1) (g : Nat → Int) (hw : ∀ i, i < n → (Lit.int q (g i)).wf = true) :
    keyOf P k (.agg ((List.range n).map fun i => Value.int q (g i)).toArray) = some (.string (keyBytes ((List.range n).map fun i => Lit.int q (g i)))) := by
  have hkt := A.keyType hsz
  obtain ⟨m, hm⟩ := hsz
  unfold keyOf
  simp only [A.hu]
  rw [if_pos (by simp [hkt, Value.formed, A.hu, A.size]), hm]
  unfold Program.keyLits
  simp only [A.hu, Value.cells]
  rw [if_pos (by rw [A.size]; simp)]
  rw [mapM_some (h := fun i => [Lit.int q (g i)]) _ (fun i hi => ?_)]
  · have : ∀ l : List Nat, (l.map fun i => [Lit.int q (g i)]).flatten = l.map fun i => Lit.int q (g i) := fun l => by
      induction l with
      | nil => rfl
      | cons a l ih => simp [ih]
    simp [this]
  · have hi' : i < n := List.mem_range.1 hi
    rw [A.one, Nat.mul_one]
    have e1 : ((((List.range n).map fun i => Value.int q (g i)).toArray).toList.drop i).take 1 = [Value.int q (g i)] := by
      have hl : i < (((List.range n).map fun i => Value.int q (g i)).toArray).toList.length := by simpa using hi'
      rw [List.drop_eq_getElem_cons hl]
      simp
    rw [e1]
    unfold Program.keyLits
    simp [he, hw i hi']
theorem arrQ : ArrKey Tryz.prog 112 3 40 := ⟨Tryz.underlying112, by kernel_rfl, by kernel_rfl, by kernel_rfl⟩
theorem keyedQ : Keyed Tryz.prog 112 := Keyed.of_law arrQ.law
theorem types_pos : 0 < Tryz.prog.types.size := of_decide_eq_true (by kernel_rfl)
theorem types_some : ∃ m, Tryz.prog.types.size = m + 1 := ⟨Tryz.prog.types.size - 1, by have := types_pos; omega⟩
/-- Forty numbers, as an array. -/
def arV (g : Nat → Nat) : Array Value := ((List.range 40).map fun i => Value.int .i64 ((g i : Nat) : Int)).toArray
theorem arV_at (g : Nat → Nat) {i : Nat} (h : i < 40) : (arV g)[i]? = some (.int .i64 (g i : Nat)) := by simp [arV, h]
/-- The key of a list. -/
def kQ (g : Nat → Nat) : Lit := .string (keyBytes ((List.range 40).map fun i => Lit.int .i64 ((g i : Nat) : Int)))
theorem keyQ_of {g : Nat → Nat} (hg : ∀ i, i < 40 → g i ≤ 1000) : keyOf Tryz.prog 112 (.agg (arV g)) = some (kQ g) :=
  keyOf_ints arrQ Tryz.underlying3 types_some (fun i => ((g i : Nat) : Int)) (fun i hi => small_wf (hg i hi))
theorem kQ_inj {g h : Nat → Nat} (hg : ∀ i, i < 40 → g i ≤ 1000) (hh : ∀ i, i < 40 → h i ≤ 1000) (e : kQ g = kQ h) : ∀ i, i < 40 → g i = h i := fun i hi => by
  have k := keyedQ.inj (keyQ_of hg) (by rw [e]; exact keyQ_of hh)
  have k2 : arV g = arV h := by injection k
  have h1 := arV_at g hi
  rw [k2, arV_at h hi] at h1
  simp at h1
  omega
theorem kQ_congr {g h : Nat → Nat} (e : ∀ i, i < 40 → g i = h i) : kQ g = kQ h := by
  unfold kQ
  rw [List.map_congr_left (fun i hi => by rw [e i (List.mem_range.1 hi)])]
theorem kQ_key (g : Nat → Nat) : WideAt.IsKeyLit (kQ g) := trivial
end Go.Proofs.YthhnngmfbbljaaaGreat
