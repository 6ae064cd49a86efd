/-
  What realize.pick answers: the first rows that have all pairs among them, so many at most. Conditions: lines of rows that lie in a slice; at most 49 pairs.
-/
import Derived.Test.YtinblbkglkhjmaaDoorRzLn
import Derived.Shelf.Spec.TrailingZeros
namespace Go.Proofs.YtinblbkglkhjmaaDoor
open Go.RowKit

/-- The lowest pair. -/
def lw (o : Nat) : Nat := o &&& (18446744073709551616 - o)
theorem lw_zero : lw 0 = 0 := by simp [lw]
theorem lw_bit {o : Nat} (h0 : o ≠ 0) (ho : o < 18446744073709551616) : ∃ l, lw o = 2 ^ l ∧ o.testBit l = true := by
  obtain ⟨h1, h2⟩ := Lib.lowest_bit 64 o h0 ho
  refine ⟨_, h1, ?_⟩
  have : (o &&& (2 ^ 64 - o)).testBit (Lib.ctz 64 o) = true := by rw [h1, Nat.testBit_two_pow]; simp
  rw [Nat.testBit_and, Bool.and_eq_true] at this
  exact this.1
/-- Is a row with these pairs tried next? -/
def trB (o h : Nat) : Bool := (h &&& lw o) == lw o
theorem trB_zero (h : Nat) : trB 0 h = true := by simp [trB, lw_zero]
theorem trB_iff {o h : Nat} (h0 : o ≠ 0) (ho : o < 18446744073709551616) : ∃ l, o.testBit l = true ∧ (trB o h = true ↔ h.testBit l = true) := by
  obtain ⟨l, e, hb⟩ := lw_bit h0 ho
  refine ⟨l, hb, ?_⟩
  unfold trB
  rw [e, beq_iff_eq]
  constructor
  · intro h1
    have : (h &&& 2 ^ l).testBit l = true := by rw [h1, Nat.testBit_two_pow]; simp
    rw [Nat.testBit_and, Bool.and_eq_true] at this
    exact this.1
  · intro h1
    refine Nat.eq_of_testBit_eq fun i => ?_
    rw [Nat.testBit_and, Nat.testBit_two_pow]
    by_cases e : l = i
    · subst e; simp [h1]
    · simp [e]
/-- The first of d, from i on, that brings something. -/
def fdS (g : Nat → Option (List Nat)) : Nat → Nat → Option (List Nat)
  | 0, _ => none
  | d + 1, i => match g i with
    | some l => some l
    | none => fdS g d (i + 1)
theorem fdS_none {g : Nat → Option (List Nat)} : ∀ d i, fdS g d i = none ↔ ∀ j, i ≤ j → j < i + d → g j = none
  | 0, i => ⟨fun _ j h1 h2 => by omega, fun _ => rfl⟩
  | d + 1, i => by
    unfold fdS
    cases hg : g i with
    | some l => exact ⟨fun h => (by cases h), fun h => (by rw [h i (Nat.le_refl _) (by omega)] at hg; cases hg)⟩
    | none =>
      simp only
      rw [fdS_none d (i + 1)]
      refine ⟨fun h j h1 h2 => ?_, fun h j h1 h2 => h j (by omega) (by omega)⟩
      by_cases e : j = i
      · rw [e]; exact hg
      · exact h j (by omega) (by omega)
theorem fdS_some {g : Nat → Option (List Nat)} {l : List Nat} : ∀ d i, fdS g d i = some l ↔ ∃ k, i ≤ k ∧ k < i + d ∧ g k = some l ∧ ∀ j, i ≤ j → j < k → g j = none
  | 0, i => ⟨fun h => (by cases h), fun ⟨k, h1, h2, _⟩ => by omega⟩
  | d + 1, i => by
    unfold fdS
    cases hg : g i with
    | some l' =>
      refine ⟨fun h => ⟨i, Nat.le_refl _, by omega, by rw [hg]; exact h, fun j h1 h2 => by omega⟩, fun ⟨k, h1, h2, h3, h4⟩ => ?_⟩
      by_cases e : k = i
      · rw [e, hg] at h3; exact h3
      · have := h4 i (Nat.le_refl _) (by omega)
        rw [hg] at this; cases this
    | none =>
      simp only
      rw [fdS_some d (i + 1)]
      refine ⟨fun ⟨k, h1, h2, h3, h4⟩ => ⟨k, by omega, by omega, h3, fun j h5 h6 => ?_⟩, fun ⟨k, h1, h2, h3, h4⟩ => ?_⟩
      · by_cases e : j = i
        · rw [e]; exact hg
        · exact h4 j (by omega) h6
      · have hne : k ≠ i := fun e => by rw [e, hg] at h3; cases h3
        exact ⟨k, by omega, by omega, h3, fun j h5 h6 => h4 j (by omega) h6⟩
/-- The first rows that do it. -/
def pkF (h : Nat → Nat) (N : Nat) : Nat → Nat → Option (List Nat)
  | 0, _ => none
  | m + 1, o => fdS (fun i => if trB o (h i) = true then (if lack o (h i) = 0 then some [i] else (pkF h N m (lack o (h i))).map (· ++ [i])) else none) N 0
/-- What one row brings. -/
def pkS (h : Nat → Nat) (N m o i : Nat) : Option (List Nat) := if trB o (h i) = true then (if lack o (h i) = 0 then some [i] else (pkF h N m (lack o (h i))).map (· ++ [i])) else none
theorem pkF_none {h : Nat → Nat} {N m o : Nat} : pkF h N (m + 1) o = none ↔ ∀ j, j < N → pkS h N m o j = none := by
  unfold pkF
  rw [fdS_none]
  exact ⟨fun hh j hj => hh j (Nat.zero_le _) (by omega), fun hh j _ hj => hh j (by omega)⟩
theorem pkF_some {h : Nat → Nat} {N m o : Nat} {l : List Nat} : pkF h N (m + 1) o = some l ↔ ∃ i, i < N ∧ pkS h N m o i = some l ∧ ∀ j, j < i → pkS h N m o j = none := by
  unfold pkF
  rw [fdS_some]
  exact ⟨fun ⟨k, _, h2, h3, h4⟩ => ⟨k, by omega, h3, fun j hj => h4 j (Nat.zero_le _) hj⟩, fun ⟨k, h2, h3, h4⟩ => ⟨k, Nat.zero_le _, by omega, h3, fun j _ hj => h4 j hj⟩⟩
/-- It has all pairs, and is not too long. -/
theorem pkF_sound {h : Nat → Nat} {N : Nat} (hh : ∀ i, h i < 18446744073709551616) : ∀ m o l, o < 18446744073709551616 → pkF h N m o = some l → 0 < l.length ∧ l.length ≤ m ∧ (∀ i, i ∈ l → i < N) ∧ ∀ b, o.testBit b = true → ∃ i, i ∈ l ∧ (h i).testBit b = true
  | 0, _, _, _, e => by cases e
  | m + 1, o, l, ho, e => by
    obtain ⟨i, hiN, e2, _⟩ := pkF_some.1 e
    unfold pkS at e2
    by_cases h1 : trB o (h i) = true
    · rw [if_pos h1] at e2
      by_cases h2 : lack o (h i) = 0
      · rw [if_pos h2] at e2
        obtain rfl : [i] = l := Option.some.inj e2
        refine ⟨by simp, by simp, fun j hj => by rw [List.mem_singleton.1 hj]; exact hiN, fun b hb => ⟨i, by simp, ?_⟩⟩
        exact (lack_zero o (h i) ho (hh i)).1 h2 b hb
      · rw [if_neg h2] at e2
        obtain ⟨l', e3, rfl⟩ := Option.map_eq_some_iff.1 e2
        have hl : lack o (h i) < 18446744073709551616 := Nat.lt_of_le_of_lt (lack_le _ _) ho
        obtain ⟨a1, a2, a3, a4⟩ := pkF_sound hh m _ l' hl e3
        refine ⟨by simp, by simp; omega, fun j hj => ?_, fun b hb => ?_⟩
        · rcases List.mem_append.1 hj with hj | hj
          · exact a3 j hj
          · rw [List.mem_singleton.1 hj]; exact hiN
        · cases hib : (h i).testBit b
          · obtain ⟨j, hj, hjb⟩ := a4 b (by rw [lack_bit _ _ _ ho (hh i), hb, hib]; rfl)
            exact ⟨j, List.mem_append_left _ hj, hjb⟩
          · exact ⟨i, List.mem_append_right _ (by simp), hib⟩
    · rw [if_neg h1] at e2; cases e2
/-- If there are so few that have all pairs, some are found. -/
theorem pkF_full {h : Nat → Nat} {N : Nat} (hh : ∀ i, h i < 18446744073709551616) (hN : 0 < N) : ∀ (m o : Nat) (l : List Nat), o < 18446744073709551616 → l.length ≤ m → 0 < m → (∀ i, i ∈ l → i < N) → (∀ b, o.testBit b = true → ∃ i, i ∈ l ∧ (h i).testBit b = true) → pkF h N m o ≠ none
  | 0, _, _, _, _, hm, _, _ => by omega
  | m + 1, o, l, ho, hl, _, hlN, hc => by
    intro e0
    have e := pkF_none.1 e0
    unfold pkS at e
    by_cases h0 : o = 0
    · subst h0
      have := e 0 hN
      rw [if_pos (trB_zero _), if_pos (by simp [lack])] at this
      cases this
    · -- a row with the lowest pair
      have : ∃ k, k ∈ l ∧ trB o (h k) = true := by
        obtain ⟨b, hb, _⟩ := trB_iff (h := 0) h0 ho
        obtain ⟨l1, e1, hb1⟩ := lw_bit h0 ho
        obtain ⟨k, hk, hkb⟩ := hc l1 hb1
        refine ⟨k, hk, ?_⟩
        unfold trB
        rw [e1, beq_iff_eq]
        refine Nat.eq_of_testBit_eq fun i => ?_
        rw [Nat.testBit_and, Nat.testBit_two_pow]
        by_cases e : l1 = i
        · subst e; simp [hkb]
        · simp [e]
      obtain ⟨k, hk, hkt⟩ := this
      have h1 := e k (hlN k hk)
      rw [if_pos hkt] at h1
      by_cases h2 : lack o (h k) = 0
      · rw [if_pos h2] at h1; cases h1
      · rw [if_neg h2, Option.map_eq_none_iff] at h1
        have hlo : lack o (h k) < 18446744073709551616 := Nat.lt_of_le_of_lt (lack_le _ _) ho
        have hcov : ∀ b, (lack o (h k)).testBit b = true → ∃ i, i ∈ l.erase k ∧ (h i).testBit b = true := fun b hb => by
          rw [lack_bit _ _ _ ho (hh k), Bool.and_eq_true, Bool.not_eq_true'] at hb
          obtain ⟨i, hi, hib⟩ := hc b hb.1
          have hne : i ≠ k := fun e => by rw [e, hb.2] at hib; cases hib
          exact ⟨i, (List.mem_erase_of_ne hne).2 hi, hib⟩
        have hlen : (l.erase k).length + 1 = l.length := by
          rw [List.length_erase_of_mem hk]
          have := List.length_pos_of_mem hk; omega
        have hpos : 0 < (l.erase k).length := by
          have : ∃ b, (lack o (h k)).testBit b = true := by
            refine Classical.byContradiction fun hno => h2 (Nat.eq_of_testBit_eq fun i => ?_)
            rw [Nat.zero_testBit, Bool.eq_false_iff]; exact fun h => hno ⟨i, h⟩
          obtain ⟨b, hb⟩ := this
          obtain ⟨i, hi, _⟩ := hcov b hb
          exact List.length_pos_of_mem hi
        exact pkF_full hh hN m _ (l.erase k) hlo (by omega) (by omega) (fun i hi => hlN i (List.mem_of_mem_erase hi)) hcov h1

/-- Lines, by places. -/
structure LnR (W : World) (b N n : Nat) (S : Nat → Option Addr × Nat) (h : Nat → Nat) : Prop where
  c0 : ∀ i, i < N → W.cell? ⟨b, i * 2, none⟩ = some (.slice (S i).1 n (S i).2)
  c1 : ∀ i, i < N → W.cell? ⟨b, i * 2 + 1, none⟩ = some (.int .u64 (h i : Nat))
theorem LnR.step {W W' : World} {b N n : Nat} {S : Nat → Option Addr × Nat} {h : Nat → Nat} (hl : LnR W b N n S h) (hb : Below W.heap.size W W') : LnR W' b N n S h :=
  ⟨fun i hi => (hb.cell (World.block_lt_of_cell? _ _ (hl.c0 i hi))).trans (hl.c0 i hi), fun i hi => (hb.cell (World.block_lt_of_cell? _ _ (hl.c1 i hi))).trans (hl.c1 i hi)⟩
def PkPost (Z n : Nat) (S : Nat → Option Addr × Nat) (r : Option (List Nat)) (e : Ending) (w' : World) : Prop :=
  (r = none ∧ e = .returned (.tuple #[.slice none 0 0, .bool false])) ∨
  ∃ l v, r = some l ∧ e = .returned (.tuple #[v, .bool true]) ∧ w'.ownsRow Z 22 1 v l.length (l.map fun i => .slice (S i).1 n (S i).2)

theorem infoS : (Tryd.prog.info? 22).map (fun i => (i.zero, i.size, i.bytes)) = some (some (.slice none 0 0), 1, 24) := by kernel_rfl
theorem underS : Tryd.prog.underlying 54 = some (.slice 22) := by kernel_rfl
theorem own_one (W : World) (Z : Nat) (x : Value) (hZ : Z ≤ W.heap.size) : (W.alloc (.cells #[x] 22)).ownsRow Z 22 1 (.slice (some ⟨W.heap.size, 0, none⟩) 1 1) 1 [x] :=
  ⟨rfl, .inr ⟨W.heap.size, 1, #[x], rfl, hZ, World.alloc_heap_new W _, Nat.le_refl _, by unfold maxLen; omega, rfl, rfl⟩⟩
theorem first_is (o : Nat) (ho : o < 562949953421312) : bits .and .u64 (o : Int) (IntKind.u64.wrap (-(o : Int))) = ((lw o : Nat) : Int) := by
  by_cases h0 : o = 0
  · subst h0; rfl
  · have e1 : IntKind.u64.wrap (-(o : Int)) = ((18446744073709551616 - o : Nat) : Int) := by rw [IntKind.wrap_u64]; omega
    rw [e1, u64_and_nat _ _ (by omega) (by omega)]; rfl
theorem lw_lt (o : Nat) (ho : o < 562949953421312) : lw o < 562949953421312 := Nat.lt_of_le_of_lt Nat.and_le_left ho

set_option maxRecDepth 100000 in
set_option maxHeartbeats 2000000 in
theorem pick_step (b N cap n m : Nat) (S : Nat → Option Addr × Nat) (h : Nat → Nat) (hh : ∀ i, h i < 562949953421312) (hN : N ≤ 10000000000) (hm : m < 1000)
    (hrec : 0 < m → ∀ (o : Nat) (w : World), o < 562949953421312 → LnR w b N n S h → Calls Tryd.prog 31 #[.slice (some ⟨b, 0, none⟩) N cap, .int .u64 (o : Nat), .int .i64 (m : Nat)] w fun e w' => PkPost w.heap.size n S (pkF h N m o) e w' ∧ Below w.heap.size w w')
    (M o : Nat) (hM : M = m + 1) (w : World) (ho : o < 562949953421312) (hL : LnR w b N n S h) :
    Calls Tryd.prog 31 #[.slice (some ⟨b, 0, none⟩) N cap, .int .u64 (o : Nat), .int .i64 (M : Nat)] w fun e w' => PkPost w.heap.size n S (pkF h N (m + 1) o) e w' ∧ Below w.heap.size w w' := by
  have HL : Hid (LnR w b N n S h) := hL
  have HMM : Hid (M = m + 1) := hM
  have hM1 : M ≤ 1000 := by omega
  clear hM
  have HREC := (show Hid _ from hrec)
  have HF := (show Hid _ from first_is o ho)
  clear hL hrec
  go_enter Tryd.func31, Tryd.ntmps31
  go_wp2_with fail
  rw [HF.out]
  go_loopw [20] (fun x wx => ∃ i : Nat, i ≤ N ∧ x = .int .i64 (i : Nat) ∧ Hid (∀ j, j < i → pkS h N m o j = none) ∧ Hid (Below w.heap.size w wx)) (fun x _ => N - (intOf x).toNat)
  case atStart => exact ⟨0, Nat.zero_le _, rfl, fun j hj => absurd hj (Nat.not_lt_zero _), Below.refl _ _⟩
  case round =>
    obtain ⟨i, hi, rfl, HNO, HB⟩ := hrel
    by_cases hiN : i < N
    · have hiN' : (i : Int) < (N : Int) := by omega
      have hl2 := HL.out.step HB.out
      have d0 := hl2.c0 i hiN
      have d1 := hl2.c1 i hiN
      obtain ⟨W1, HW1⟩ : ∃ W1, Hid (W1 = wr.alloc (.cells #[.slice (S i).1 n (S i).2, .int .u64 (h i : Nat)] 73)) := ⟨_, rfl⟩
      have hb1 : Below wr.heap.size wr W1 := by rw [HW1.out]; exact (Below.refl _ _).alloc (Nat.le_refl _) _
      have f0 : W1.cell? ⟨wr.heap.size, 0, none⟩ = some (.slice (S i).1 n (S i).2) := by rw [HW1.out]; simp
      have f1 : W1.cell? ⟨wr.heap.size, 1, none⟩ = some (.int .u64 (h i : Nat)) := by rw [HW1.out]; simp
      have HB1 : Hid (Below w.heap.size w W1) := Below.then HB.out hb1
      have hx := hh i
      have hlo := lw_lt o ho
      have hz : bits .and .u64 ((h i : Nat) : Int) ((lw o : Nat) : Int) = ((h i &&& lw o : Nat) : Int) := u64_and_nat _ _ (by omega) (by omega)
      have hq : bits .andNot .u64 ((o : Nat) : Int) ((h i : Nat) : Int) = ((lack o (h i) : Nat) : Int) := u64_andNot_nat _ _ (by omega) (by omega)
      have HSD : Hid (pkS h N m o i = if trB o (h i) = true then (if lack o (h i) = 0 then some [i] else (pkF h N m (lack o (h i))).map (· ++ [i])) else none) := rfl
      have HLK : Hid (lack o (h i) < 562949953421312) := Nat.lt_of_le_of_lt (lack_le _ _) ho
      obtain ⟨xa, xc⟩ : ∃ p : Option Addr × Nat, Hid (S i = p) := ⟨_, rfl⟩
      rcases hS : S i with ⟨xa, xc⟩
      rw [hS] at d0 f0
      simp only at d0 f0
      have HSI : Hid (S i = (xa, xc)) := hS
      rw [hS] at HW1
      simp only at HW1
      clear hS hl2 hb1
      by_cases ht : trB o (h i) = true
      · have hne : (((h i &&& lw o : Nat) : Int) != ((lw o : Nat) : Int)) = false := by
          unfold trB at ht
          rw [beq_iff_eq] at ht
          rw [ht]; simp
        rw [if_pos ht] at HSD
        clear ht
        by_cases h0 : lack o (h i) = 0
        · rw [if_pos h0] at HSD
          have HOK : Hid (pkF h N (m + 1) o = some [i]) := pkF_some.2 ⟨i, hiN, HSD.out, HNO.out⟩
          have hq0 : ((lack o (h i) : Nat) : Int) = 0 := by omega
          have HOW : Hid ((W1.alloc (.cells #[.slice xa n xc] 22)).ownsRow w.heap.size 22 1 (.slice (some ⟨W1.heap.size, 0, none⟩) 1 1) 1 [.slice xa n xc]) := own_one W1 _ _ HB1.out.size
          have HFIN : Hid (PkPost w.heap.size n S (pkF h N (m + 1) o) (.returned (.tuple #[.slice (some ⟨W1.heap.size, 0, none⟩) 1 1, .bool true])) (W1.alloc (.cells #[.slice xa n xc] 22))) := .inr ⟨[i], _, HOK.out, rfl, by
            show World.ownsRow _ _ _ _ _ 1 [Value.slice (S i).1 n (S i).2]
            rw [HSI.out]; exact HOW.out⟩
          have HBE : Hid (Below w.heap.size w (W1.alloc (.cells #[.slice xa n xc] 22))) := HB1.out.alloc HB1.out.size _
          rw [hq0] at hq
          have hs1 : W1.heap.size = wr.heap.size + 1 := by rw [HW1.out]; simp
          rw [hs1] at HFIN
          clear h0 hq0 HSD HNO HREC HLK hs1
          generalize h i &&& lw o = z at *
          generalize h i = x at *
          generalize lw o = y at *
          go_wp2_with fail
          rw [← HW1.out]
          go_wp2_with fail
          go_ret2
          exact ⟨HFIN.out, HBE.out⟩
        · rw [if_neg h0] at HSD
          have hq0 : (((lack o (h i) : Nat) : Int) == 0) = false := by simp; omega
          by_cases hm0 : m = 0
          · have HNX : Hid (∀ j, j < i + 1 → pkS h N m o j = none) := fun j hj => by
              by_cases e : j = i
              · rw [e, HSD.out, hm0]; rfl
              · exact HNO.out j (by omega)
            have hm1 : (((M : Nat) : Int) == 1) = true := by have := HMM.out; simp; omega
            clear hm0
            clear h0 HSD HREC HLK
            generalize lack o (h i) = q at *
            generalize h i &&& lw o = z at *
            generalize h i = x at *
            generalize lw o = y at *
            go_wp2_with fail
            rw [← HW1.out]
            go_wp2_with fail
            go_roundw
            case rel => exact ⟨i + 1, by omega, by go_num, HNX.out, HB1.out⟩
            case measure => simp [intOf]; omega
          · have hm1 : (((M : Nat) : Int) == 1) = false := by have := HMM.out; simp; omega
            have hsub : ((M : Nat) : Int) - 1 = (m : Nat) := by have := HMM.out; omega
            have HCALL := HREC.out (by omega) (lack o (h i)) W1 HLK.out (HL.out.step HB1.out)
            have HCL : Hid (Calls Tryd.prog 31 #[.slice (some ⟨b, 0, none⟩) N cap, .int .u64 (lack o (h i) : Nat), .int .i64 (m : Nat)] W1 fun e w' => PkPost W1.heap.size n S (pkF h N m (lack o (h i))) e w' ∧ Below W1.heap.size W1 w') := HCALL
            have HQ : Hid (lack o (h i) < 562949953421312) := HLK.out
            clear HCALL h0 HREC HLK
            generalize lack o (h i) = q at *
            generalize h i &&& lw o = z at *
            generalize h i = x at *
            generalize lw o = y at *
            go_wp2_with fail
            rw [← HW1.out]
            go_wp2_with fail
            refine HCL.out.mono ?_
            rintro e w2 ⟨hP, hb2⟩
            have HB2 : Hid (Below w.heap.size w w2) := Below.then HB1.out hb2
            have g0 := (hb2.cell (World.block_lt_of_cell? _ _ f0)).trans f0
            clear hb2 HCL
            rcases hP with ⟨hN0, rfl⟩ | ⟨l, v, hl, rfl, hown⟩
            · have HNX : Hid (∀ j, j < i + 1 → pkS h N m o j = none) := fun j hj => by
                by_cases e : j = i
                · rw [e, HSD.out, hN0]; rfl
                · exact HNO.out j (by omega)
              clear HSD hN0
              go_wp2_with fail
              go_roundw
              case rel => exact ⟨i + 1, by omega, by go_num, HNX.out, HB2.out⟩
              case measure => simp [intOf]; omega
            · have HOK : Hid (pkF h N (m + 1) o = some (l ++ [i])) := pkF_some.2 ⟨i, hiN, by rw [HSD.out, hl]; rfl, HNO.out⟩
              have HOW : Hid (w2.ownsRow w.heap.size 22 1 v l.length (l.map fun i => .slice (S i).1 n (S i).2)) := owns_mono hown HB1.out.size
              have HLL : Hid (l.length ≤ 1000) := Nat.le_trans (pkF_sound (fun i => Nat.lt_trans (hh i) (by decide)) m _ l (Nat.lt_trans HQ.out (by decide)) hl).2.1 (by omega)
              clear HSD hl hown HNO
              obtain ⟨j0, hj, hy0, hy1, hy2⟩ := info_parts infoS
              have hsz2 : w.heap.size ≤ w2.heap.size := HB2.out.size
              go_wp2_with (at_builtin; refine wpList_append_own _ rfl _ _ 54 rfl w.heap.size 22 j0 (.slice none 0 0) 1 24 underS hj hy0 hy1 hy2 rfl (by decide) _ _ _ rfl (HOW.out.alloc _) ⟨w2.heap.size, 0, none⟩ 1 1 [.slice xa n xc] rfl rfl ?c1 ?c2 ?c3 ?c4 ?c5 ?_)
              case c1 =>
                intro j u hj
                match j, hj with
                | 0, hj => simp at hj; subst hj; simp [Addr.add]
              case c2 => intro u hu; simp at hu; subst hu; rfl
              case c3 => have := HLL.out; unfold maxLen; omega
              case c4 => have := HLL.out; omega
              case c5 => simp; omega
              intro v' w3 hown' hgrow _
              obtain ⟨g3, cap3, hv3⟩ := owns_form hown' (by omega)
              have HFIN : Hid (PkPost w.heap.size n S (pkF h N (m + 1) o) (.returned (.tuple #[v', .bool true])) w3) := .inr ⟨l ++ [i], v', HOK.out, rfl, by
                rw [List.length_append, List.map_append]
                show World.ownsRow _ _ _ _ _ (l.length + 1) (_ ++ [Value.slice (S i).1 n (S i).2])
                rw [HSI.out]; exact hown'⟩
              have HBE : Hid (Below w.heap.size w w3) := (HB2.out.alloc HB2.out.size _).grown hgrow (by simp; omega) (fun k e => owns_block HOW.out k e)
              rw [hv3] at HFIN ⊢
              clear hown' hgrow hv3 hj hy0 hy1 hy2
              go_wp2_with fail
              go_ret2
              exact ⟨HFIN.out, HBE.out⟩
      · have hne : (((h i &&& lw o : Nat) : Int) != ((lw o : Nat) : Int)) = true := by
          unfold trB at ht
          simp only [beq_iff_eq] at ht
          simp; omega
        have HNX : Hid (∀ j, j < i + 1 → pkS h N m o j = none) := fun j hj => by
          by_cases e : j = i
          · rw [e, HSD.out, if_neg ht]
          · exact HNO.out j (by omega)
        clear ht HSD hq
        generalize h i &&& lw o = z at *
        generalize h i = x at *
        generalize lw o = y at *
        go_wp2_with fail
        rw [← HW1.out]
        go_wp2_with fail
        go_roundw
        case rel => exact ⟨i + 1, by omega, by go_num, HNX.out, HB1.out⟩
        case measure => simp [intOf]; omega
    · obtain rfl : i = N := by omega
      have HP : Hid (PkPost w.heap.size n S (pkF h i (m + 1) o) (.returned (.tuple #[.slice none 0 0, .bool false])) wr) := .inl ⟨pkF_none.2 HNO.out, rfl⟩
      go_wp2_with fail
      go_ret2
      exact ⟨HP.out, HB.out⟩
theorem pick_any (b N cap n : Nat) (S : Nat → Option Addr × Nat) (h : Nat → Nat) (hh : ∀ i, h i < 562949953421312) (hN : N ≤ 10000000000) : ∀ (m o : Nat) (w : World), m < 1000 → o < 562949953421312 → LnR w b N n S h →
    Calls Tryd.prog 31 #[.slice (some ⟨b, 0, none⟩) N cap, .int .u64 (o : Nat), .int .i64 ((m + 1 : Nat) : Int)] w fun e w' => PkPost w.heap.size n S (pkF h N (m + 1) o) e w' ∧ Below w.heap.size w w'
  | 0, o, w, hm, ho, hL => pick_step b N cap n 0 S h hh hN hm (fun h => absurd h (Nat.lt_irrefl _)) 1 o rfl w ho hL
  | m + 1, o, w, hm, ho, hL => pick_step b N cap n (m + 1) S h hh hN hm (fun _ o w ho hL => pick_any b N cap n S h hh hN m o w (by omega) ho hL) (m + 2) o rfl w ho hL
end Go.Proofs.YtinblbkglkhjmaaDoor
