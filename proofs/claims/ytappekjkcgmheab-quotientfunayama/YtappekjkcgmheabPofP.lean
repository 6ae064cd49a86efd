/-
  What slices.Index answers of a number that is in the list: its first place. Conditions: a list of at most forty numbers.
  What quotient.pairsOf answers: each element with the first one of its class. Conditions: a list of at most forty numbers.
-/
import Derived.Test.YtappekjkcgmheabClnP
namespace Go.Proofs.Ytappekjkcgmheab
open Go.RowKit

/-- The first of an element's class. -/
theorem first_one {c : Nat → Nat} {a b : Nat} (ha : frst c a = true) (hb : frst c b = true) (e : c a = c b) : a = b := by
  rcases Nat.lt_trichotomy a b with h | h | h
  · exact absurd e (frst_iff.1 hb a h)
  · exact h
  · exact absurd e.symm (frst_iff.1 ha b h)
set_option maxHeartbeats 1000000 in
theorem index_any (q : Nat) (a : Option Addr) (cap : Nat) (c : Nat → Nat) (x : Nat) (w : World) (h40 : q ≤ 40) (hx : x < q) (hr : Row w a q (fun k => (c k : Nat))) :
    Calls Try.prog 35 #[.slice a q cap, .int .i64 (c x : Nat)] w fun e w' => (∃ f : Nat, e = .returned (.int .i64 (f : Nat)) ∧ f ≤ x ∧ c f = c x ∧ frst c f = true) ∧ w = w' := by
  have HR : Hid (Row w a q (fun k => (c k : Nat))) := hr
  clear hr
  obtain ⟨v, HV⟩ : ∃ v, Hid (v = c x) := ⟨_, rfl⟩
  rw [← HV.out]
  go_enter Try.func35, Try.ntmps35
  go_wp2_with fail
  go_loopw [8] (fun i wx => ∃ k : Nat, k ≤ x ∧ i = .int .i64 k ∧ wx = w ∧ Hid (∀ j, j < k → c j ≠ v)) (fun i _ => q - (intOf i).toNat)
  case atStart => exact ⟨0, Nat.zero_le _, rfl, rfl, upto_zero⟩
  case round =>
    obtain ⟨k, hk, rfl, rfl, HN⟩ := hrel
    obtain ⟨b, off, rfl, hcc⟩ := HR.out.at (show k < q by omega)
    have ck := hcc k (by omega)
    have hlk : (k : Int) < (q : Int) := by omega
    clear hcc
    by_cases e : c k = v
    · have he : (((v : Nat) : Int) == ((c k : Nat) : Int)) = true := by rw [e]; simp
      have HF : Hid (frst c k = true) := frst_iff.2 (fun j hj h => HN.out j hj (h.trans e))
      have HE : Hid (c k = v) := e
      clear e
      go_wp2_with fail
      go_ret
      exact ⟨⟨k, rfl, hk, HE.out, HF.out⟩, rfl⟩
    · have he : (((v : Nat) : Int) == ((c k : Nat) : Int)) = false := by simp; omega
      have HN2 : Hid (∀ j, j < k + 1 → c j ≠ v) := upto_succ HN.out e
      have hkx : k < x := by
        rcases Nat.lt_or_eq_of_le hk with h | h
        · exact h
        · subst h; exact absurd HV.out.symm e
      clear e
      generalize c k = C at *
      go_wp2_with fail
      go_roundw
      case rel => exact ⟨k + 1, by omega, by go_num, by first | rfl | trivial, HN2⟩
      case measure => simp [intOf]; omega
end Go.Proofs.Ytappekjkcgmheab
namespace Go.Proofs.Ytappekjkcgmheab
open Go.RowKit

/-- Pairs that may be written. -/
def POwn (w : World) (b n : Nat) (F G : Nat → Nat) : Prop := ∀ k, k < n → (w.cell? ⟨b, k * 2, none⟩ = some (.int .i64 (F k : Nat)) ∧ w.cell? ⟨b, k * 2 + 1, none⟩ = some (.int .i64 (G k : Nat))) ∧ w.frozen? ⟨b, k * 2, none⟩ = false ∧ w.frozen? ⟨b, k * 2 + 1, none⟩ = false
theorem POwn.set {w : World} {b n : Nat} {F G : Nat → Nat} (h : POwn w b n F G) (u x y : Nat) (hu : u < n) : POwn ((w.setCell ⟨b, u * 2, none⟩ (.int .i64 (x : Nat))).setCell ⟨b, u * 2 + 1, none⟩ (.int .i64 (y : Nat))) b n (upd F u x) (upd G u y) := fun k hk => by
  obtain ⟨⟨h1, h2⟩, h3, h4⟩ := h k hk
  obtain ⟨⟨g1, g2⟩, _, _⟩ := h u hu
  have ne : ∀ {i j : Nat}, i ≠ j → (⟨b, i, none⟩ : Addr) ≠ ⟨b, j, none⟩ := fun hij e => by injection e with _ e2; exact hij e2
  refine ⟨⟨?_, ?_⟩, by rw [World.frozen?_setCell, World.frozen?_setCell]; exact h3, by rw [World.frozen?_setCell, World.frozen?_setCell]; exact h4⟩
  · by_cases e : k = u
    · subst e
      rw [upd_same, World.cell?_setCell_other _ _ _ _ (ne (by omega))]
      exact World.cell?_setCell_same _ _ _ g1
    · rw [upd_other _ _ _ _ e, World.cell?_setCell_other _ _ _ _ (ne (by omega)), World.cell?_setCell_other _ _ _ _ (ne (by omega))]
      exact h1
  · by_cases e : k = u
    · subst e
      rw [upd_same]
      exact World.cell?_setCell_same _ _ _ (show _ = some (.int .i64 (G k : Nat)) from by rw [World.cell?_setCell_other _ _ _ _ (ne (by omega))]; exact g2)
    · rw [upd_other _ _ _ _ e, World.cell?_setCell_other _ _ _ _ (ne (by omega)), World.cell?_setCell_other _ _ _ _ (ne (by omega))]
      exact h2
theorem zero_at (n j : Nat) (h : j < n) : (madeCells (Value.agg #[.int .i64 0, .int .i64 0]).cells n).toList[j]? = some (.int .i64 0) := by
  have e : (Value.agg #[.int .i64 0, .int .i64 0]).cells = #[Value.int .i64 0, .int .i64 0] := rfl
  rw [e]
  unfold madeCells
  rcases Nat.mod_two_eq_zero_or_one j with hj | hj <;> simp [h, hj]
theorem pown_made {w : World} {base b m : Nat} (h : w.ownsRow base 49 2 (.slice (some ⟨b, 0, none⟩) m m) m (madeCells (Value.agg #[.int .i64 0, .int .i64 0]).cells (m * 2)).toList) : POwn w b m (fun _ => 0) (fun _ => 0) := fun k hk =>
  ⟨⟨by rw [h.cellAt (k * 2) (by omega), zero_at _ _ (by omega)]; rfl, by rw [h.cellAt (k * 2 + 1) (by omega), zero_at _ _ (by omega)]; rfl⟩, h.frozenAt _, h.frozenAt _⟩
theorem POwn.congr {w : World} {b n : Nat} {F G F' G' : Nat → Nat} (h : POwn w b n F G) (e : ∀ k, k < n → F k = F' k ∧ G k = G' k) : POwn w b n F' G' := fun k hk => by
  obtain ⟨e1, e2⟩ := e k hk
  rw [← e1, ← e2]
  exact h k hk
theorem POwn.far {w w' : World} {b n : Nat} {F G : Nat → Nat} (h : POwn w b n F G) (e : w = w') : POwn w' b n F G := e ▸ h
/-- The first of an element's class. -/
def fstC (c : Nat → Nat) (x : Nat) : Nat := ((List.range (x + 1)).find? fun i => c i == c x).getD 0
theorem fstC_is {c : Nat → Nat} {x f : Nat} (hf : f ≤ x) (e : c f = c x) (hfr : frst c f = true) : fstC c x = f := by
  unfold fstC
  have : (List.range (x + 1)).find? (fun i => c i == c x) = some f := by
    rw [List.find?_range_eq_some]
    refine ⟨by simpa using e, by simp; omega, fun j hj => ?_⟩
    have := frst_iff.1 hfr j hj
    rw [e] at this
    simpa using this
  rw [this]; rfl
def pofTo (c : Nat → Nat) (k x : Nat) : Nat := if x < k then fstC c x else 0
def idTo (k x : Nat) : Nat := if x < k then x else 0
theorem pofTo_succ (c : Nat → Nat) (k : Nat) : pofTo c (k + 1) = upd (pofTo c k) k (fstC c k) := by
  funext x
  by_cases e : x = k
  · subst e; rw [upd_same]; unfold pofTo; rw [if_pos (by omega)]
  · rw [upd_other _ _ _ _ e]
    unfold pofTo
    by_cases l : x < k
    · rw [if_pos (by omega), if_pos l]
    · rw [if_neg (by omega), if_neg l]
theorem idTo_succ (k : Nat) : idTo (k + 1) = upd (idTo k) k k := by
  funext x
  by_cases e : x = k
  · subst e; rw [upd_same]; unfold idTo; rw [if_pos (by omega)]
  · rw [upd_other _ _ _ _ e]
    unfold idTo
    by_cases l : x < k
    · rw [if_pos (by omega), if_pos l]
    · rw [if_neg (by omega), if_neg l]

set_option maxRecDepth 100000 in
set_option maxHeartbeats 2000000 in
theorem pairsOf_any (q : Nat) (a : Option Addr) (cap : Nat) (c : Nat → Nat) (w : World) (h40 : q ≤ 40) (hr : Row w a q (fun k => (c k : Nat))) :
    Calls Try.prog 19 #[.slice a q cap] w fun e w' => (∃ B, e = .returned (.slice (some ⟨B, 0, none⟩) q q) ∧ POwn w' B q (fstC c) (fun x => x) ∧ w.heap.size ≤ B) ∧ Below w.heap.size w w' := by
  obtain ⟨i0, hi, hz0, hz1, hz2⟩ := info_parts Try.infoRU
  have HR : Hid (∀ wx, Below w.heap.size w wx → Row wx a q (fun k => (c k : Nat))) := fun wx h => hr.below h
  clear hr
  go_enter Try.func19, Try.ntmps19
  go_wp2_with (at_make; refine wpList_make_full _ rfl _ _ 46 rfl w.heap.size 49 i0 (.agg #[.int .i64 0, .int .i64 0]) 2 Try.underlying46 hi hz0 hz1 .i64 .i64 _ _ q rfl rfl rfl rfl (by rw [hz2]; omega) (by unfold maxLen; omega) (Nat.le_refl _) ?_; intro w1 hown1 hgrow1)
  have HO1 : Hid (POwn w1 w.heap.size q (pofTo c 0) (idTo 0)) := (pown_made hown1).congr (fun k _ => by simp [pofTo, idTo])
  have HB1 : Hid (Below w.heap.size w w1) := (Below.refl _ _).grown hgrow1 (Nat.le_refl _) (by simp)
  clear hown1 hgrow1 hi hz0 hz1 hz2
  go_loopw [11] (fun i wx => ∃ k : Nat, k ≤ q ∧ i = .int .i64 k ∧ Hid (POwn wx w.heap.size q (pofTo c k) (idTo k)) ∧ Hid (Below w.heap.size w wx)) (fun i _ => q - (intOf i).toNat)
  case atStart => exact ⟨0, Nat.zero_le _, rfl, HO1.out, HB1.out⟩
  case round =>
    obtain ⟨k, hk, rfl, HO, HB⟩ := hrel
    clear HO1 HB1
    by_cases hlt : k < q
    · have HI := (show Hid _ from index_any q a cap c k wr h40 hlt (HR.out _ HB.out))
      obtain ⟨b, off, rfl, hcc⟩ := (HR.out _ HB.out).at hlt
      have ck := hcc k hlt
      have hlk : (k : Int) < (q : Int) := by omega
      obtain ⟨⟨p1, p2⟩, p3, p4⟩ := HO.out k hlt
      clear hcc
      go_wp2_with fail
      refine Calls.mono HI.out ?_
      rintro e w' ⟨⟨f, rfl, hf, ef, hfr⟩, rfl⟩
      have HF : Hid (fstC c k = f) := fstC_is hf ef hfr
      clear hf ef hfr HI
      go_wp2_with fail
      go_roundw
      case rel => exact ⟨k + 1, by omega, by go_num, by rw [pofTo_succ, idTo_succ, HF.out]; exact HO.out.set k f k hlt, (HB.out.setCell (p := ⟨w.heap.size, k * 2, none⟩) (Nat.le_refl _) _).setCell (p := ⟨w.heap.size, k * 2 + 1, none⟩) (Nat.le_refl _) _⟩
      case measure => simp [intOf]; omega
    · obtain rfl : k = q := by omega
      have HE : Hid (POwn wr w.heap.size k (fstC c) (fun x => x)) := HO.out.congr (fun x hx => by unfold pofTo idTo; rw [if_pos hx, if_pos hx]; exact ⟨rfl, rfl⟩)
      go_wp2_with fail
      go_ret
      exact ⟨⟨_, rfl, HE.out, Nat.le_refl _⟩, HB.out⟩
end Go.Proofs.Ytappekjkcgmheab
