/-
  What quotient.merge does: one class goes into another one, in the row itself. Conditions: a row that may be written, of at most forty numbers.
  What quotient.numbered answers: the classes by their numbers. Conditions: at most forty numbers, each below forty.
-/
import Derived.Test.YtappekjkcgmheabQuN
import Derived.Test.YtappekjkcgmheabGood
import Derived.Maps.OwnSet
import Derived.Deep.AppendLies
import Derived.Laws.EntriesVeiled
import Derived.Test.YtappekjkcgmheabMake
namespace Go.Proofs.Ytappekjkcgmheab
open Go.RowKit

/-- So far. -/
def mixR (c : Nat → Nat) (a b k x : Nat) : Nat := if x < k then rel1 c a b x else c x
theorem mixR_zero (c : Nat → Nat) (a b : Nat) : mixR c a b 0 = c := by funext x; simp [mixR]
theorem mixR_at (c : Nat → Nat) (a b k : Nat) : mixR c a b k k = c k := by simp [mixR]
theorem mixR_no {c : Nat → Nat} {a b k : Nat} (h : c k ≠ a) : mixR c a b (k + 1) = mixR c a b k := by
  funext x
  unfold mixR
  by_cases e : x = k
  · subst e; simp [rel1_no h]
  · by_cases l : x < k
    · rw [if_pos (by omega), if_pos l]
    · rw [if_neg (by omega), if_neg l]
theorem mixR_yes {c : Nat → Nat} {a b k : Nat} (h : c k = a) : mixR c a b (k + 1) = upd (mixR c a b k) k b := by
  funext x
  by_cases e : x = k
  · subst e; rw [upd_same]; unfold mixR; rw [if_pos (by omega), rel1_yes h]
  · rw [upd_other _ _ _ _ e]
    unfold mixR
    by_cases l : x < k
    · rw [if_pos (by omega), if_pos l]
    · rw [if_neg (by omega), if_neg l]
theorem grown_setC (w : World) (b k : Nat) (u : Value) : w.grownBy (w.setCell ⟨b, k, none⟩ u) (some b) :=
  ⟨rfl, rfl, rfl, by simp [World.setCell], fun i _ hne => Below.heap_setCell w ⟨b, k, none⟩ u i (fun e => hne (by rw [e]))⟩

set_option maxHeartbeats 1000000 in
theorem merge_any (q B : Nat) (cap : Nat) (c : Nat → Nat) (a b : Nat) (w : World) (h40 : q ≤ 40) (ho : Own w B q c) :
    Calls Try.prog 32 #[.slice (some ⟨B, 0, none⟩) q cap, .int .i64 (a : Nat), .int .i64 (b : Nat)] w fun e w' => e = .returned (.tuple #[]) ∧ Own w' B q (rel1 c a b) ∧ w.grownBy w' (some B) := by
  have HO : Hid (Own w B q (mixR c a b 0)) := by rw [mixR_zero]; exact ho
  clear ho
  go_enter Try.func32, Try.ntmps32
  go_wp2_with fail
  go_loopw [10] (fun i wx => ∃ k : Nat, k ≤ q ∧ i = .int .i64 k ∧ Hid (Own wx B q (mixR c a b k)) ∧ Hid (w.grownBy wx (some B))) (fun i _ => q - (intOf i).toNat)
  case atStart => exact ⟨0, Nat.zero_le _, rfl, HO.out, ⟨rfl, rfl, rfl, Nat.le_refl _, fun _ _ _ => rfl⟩⟩
  case round =>
    obtain ⟨k, hk, rfl, HK, HG⟩ := hrel
    clear HO
    by_cases hlt : k < q
    · have ck := (HK.out k hlt).1
      have cf := (HK.out k hlt).2
      rw [mixR_at] at ck
      have hlk : (k : Int) < (q : Int) := by omega
      by_cases e : c k = a
      · have he : (((c k : Nat) : Int) == (a : Int)) = true := by rw [e]; simp
        have HM : Hid (mixR c a b (k + 1) = upd (mixR c a b k) k b) := mixR_yes e
        clear e
        go_wp2_with fail
        go_roundw
        case rel => exact ⟨k + 1, by omega, by go_num, by rw [HM.out]; exact HK.out.set k b hlt, HG.out.trans (grown_setC _ _ _ _)⟩
        case measure => simp [intOf]; omega
      · have he : (((c k : Nat) : Int) == (a : Int)) = false := by simp; omega
        have HM : Hid (mixR c a b (k + 1) = mixR c a b k) := mixR_no e
        clear e
        go_wp2_with fail
        go_roundw
        case rel => exact ⟨k + 1, by omega, by go_num, by rw [HM.out]; exact HK.out, HG⟩
        case measure => simp [intOf]; omega
    · obtain rfl : k = q := by omega
      have HE : Hid (Own wr B k (rel1 c a b)) := HK.out.congr (fun x hx => by unfold mixR; rw [if_pos hx])
      go_wp2_with fail
      exact bodyPost_end (results_none rfl _ _ _) rfl ⟨rfl, HE.out, HG.out⟩
end Go.Proofs.Ytappekjkcgmheab
namespace Go.Proofs.Ytappekjkcgmheab
open Go.RowKit Go.Maps

theorem keyedI : Keyed Try.prog 3 := int_keyed Try.underlying3
theorem zeroI (w : World) : (zeroValue 3).run Try.prog w = .ok (.int .i64 0) w := by kernel_rfl
/-- The key of a number. -/
def kI (x : Nat) : Lit := .int .i64 (x : Int)
theorem kI_ne {x y : Nat} (h : x ≠ y) : kI x ≠ kI y := by
  unfold kI; intro e
  simp only [Lit.int.injEq, true_and] at e
  omega
theorem kI_key (x : Nat) : WideAt.IsKeyLit (kI x) := trivial
theorem small_wf {n : Nat} (h : n ≤ 1000) : (Lit.int .i64 (n : Int)).wf = true := WalkArith.wf_i64 (by omega)
theorem owns_tight {W : World} {Bm k : Nat} {D : DataW Unit} (h : W.ownsMap Try.prog 3 (plainElem Try.prog 3) Bm k D) : W.ownsMap Try.prog 3 (plainElem Try.prog 3) Bm (Maps.size D) D := by
  obtain ⟨es, clock, hb, F, _, rfl⟩ := h
  exact ⟨es, clock, hb, F, by rw [size_eq, length_read]; exact Nat.le_refl _, rfl⟩
/-- What the map holds behind the first k elements. -/
structure NOk (c : Nat → Nat) (k Bm : Nat) (W : World) (D : DataW Unit) : Prop where
  own : W.ownsMap Try.prog 3 (plainElem Try.prog 3) Bm (Maps.size D) D
  cnt : Maps.size D = clsN c k
  has : ∀ v : Nat, Maps.has D (kI v) = true ↔ v ∈ seenL c k
  val : ∀ v : Nat, v ∈ seenL c k → D.atKey (kI v) (.lit (.int .i64 0)) = .lit (.int .i64 ((seenL c k).idxOf v : Nat))
theorem NOk.made (c : Nat → Nat) (w : World) : NOk c 0 w.heap.size (w.alloc (.map #[] 0)) (.map []) :=
  ⟨World.ownsMap_made _ _ _ _, rfl, fun v => by simp [has_eq, seenL], fun v h => by cases h⟩
theorem NOk.kept {c : Nat → Nat} {k Bm : Nat} {W W' : World} {D : DataW Unit} {row : Option Nat} (h : NOk c k Bm W D) (hg : W.grownBy W' row) (hne : some Bm ≠ row) : NOk c k Bm W' D := ⟨h.own.kept hg hne, h.cnt, h.has, h.val⟩
theorem NOk.old {c : Nat → Nat} {k Bm : Nat} {W : World} {D : DataW Unit} (h : NOk c k Bm W D) (hf : frst c k = false) : NOk c (k + 1) Bm W D :=
  ⟨h.own, by rw [h.cnt]; exact (cntB_no hf).symm, by rw [seenL_no hf]; exact h.has, by rw [seenL_no hf]; exact h.val⟩
theorem NOk.put {c : Nat → Nat} {k Bm n : Nat} {W W' : World} {D : DataW Unit} (h : NOk c k Bm W D) (hf : frst c k = true)
    (ho : W'.ownsMap Try.prog 3 (plainElem Try.prog 3) Bm n (D.put (kI (c k)) (.lit (.int .i64 (clsN c k : Nat))))) : NOk c (k + 1) Bm W' (D.put (kI (c k)) (.lit (.int .i64 (clsN c k : Nat)))) := by
  have hn : c k ∉ seenL c k := fun hm => by
    obtain ⟨i, hi, e⟩ := (seenL_mem c (c k) k).1 hm
    exact frst_iff.1 hf i hi e
  have hh : Maps.has D (kI (c k)) = false := by
    cases hb : Maps.has D (kI (c k))
    · rfl
    · exact absurd ((h.has _).1 hb) hn
  refine ⟨owns_tight ho, ?_, fun v => ?_, fun v hv => ?_⟩
  · rw [size_put (h.own.tidy keyedI), hh, h.cnt]
    exact (cntB_yes hf).symm
  · rw [seenL_yes hf, List.mem_append, List.mem_singleton]
    by_cases e : v = c k
    · subst e
      rw [has_put_same h.own.isMap (kI_key _)]
      simp
    · rw [has_put_other (kI_ne e), h.has]
      exact ⟨.inl, fun h' => h'.elim id fun e' => absurd e' e⟩
  · rw [seenL_yes hf] at hv ⊢
    by_cases e : v = c k
    · subst e
      rw [atKey_put_same h.own.isMap (kI_key _), List.idxOf_append, if_neg hn, seenL_len]
      simp
    · have hv' : v ∈ seenL c k := by
        rcases List.mem_append.1 hv with h' | h'
        · exact h'
        · exact absurd (List.mem_singleton.1 h') e
      rw [atKey_put_other (kI_ne e), h.val v hv', List.idxOf_append, if_pos hv']
theorem cls_le (c : Nat → Nat) (k : Nat) : clsN c k ≤ k := cntB_le _ _
/-- The list so far. -/
def numTo (c : Nat → Nat) (k x : Nat) : Nat := if x < k then nbr c x else 0
theorem numTo_succ (c : Nat → Nat) (k : Nat) : numTo c (k + 1) = upd (numTo c k) k (nbr c k) := by
  funext x
  by_cases e : x = k
  · subst e; rw [upd_same]; unfold numTo; rw [if_pos (by omega)]
  · rw [upd_other _ _ _ _ e]
    unfold numTo
    by_cases l : x < k
    · rw [if_pos (by omega), if_pos l]
    · rw [if_neg (by omega), if_neg l]
theorem Own.far {w w' : World} {b n : Nat} {g : Nat → Nat} {row : Option Nat} (h : Own w b n g) (hg : w.grownBy w' row) (hne : some b ≠ row) : Own w' b n g := fun k hk =>
  ⟨(hg.cell_far ⟨b, k, none⟩ (World.block_lt_of_cell? _ _ (h k hk).1) hne).trans (h k hk).1, (hg.frozen_far ⟨b, k, none⟩ (World.block_lt_of_cell? _ _ (h k hk).1) hne).trans (h k hk).2⟩
end Go.Proofs.Ytappekjkcgmheab
