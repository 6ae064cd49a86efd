/-
  What sets.CheckRising and space.belowBy answer, and slices.Equal. Conditions: as each theorem says.
-/
import Derived.Test.YtggngpnenbjidaaDoorLate
import Derived.Test.YtggngpnenbjidaaDoorOpnP
namespace Go.Proofs.YtggngpnenbjidaaDoor
set_option maxRecDepth 100000
open Go.RowKit

/-- Are all sets sets of n points? -/
def FIn (n len : Nat) (f : Nat → Int) : Prop := ∀ k, k < len → 0 ≤ f k ∧ f k < (pw n : Nat)
/-- Do they rise? -/
def Ris (len : Nat) (f : Nat → Int) : Prop := ∀ k, k < len → 0 < k → f (k - 1) < f k
/-- What Check must answer. -/
def FChk (N : Int) (len : Nat) (f : Nat → Int) (c : Int) : Prop :=
  (c = 2 ∧ ¬ (0 ≤ N ∧ N ≤ 10)) ∨
  ∃ n : Nat, N = n ∧ n ≤ 10 ∧ ((c = 3 ∧ ¬ FIn n len f) ∨ (FIn n len f ∧ ((c = 6 ∧ ¬ Ris len f) ∨ (c = 0 ∧ Ris len f))))
theorem FChk.unique {N : Int} {len : Nat} {f : Nat → Int} {c c' : Int} (h : FChk N len f c) (h' : FChk N len f c') : c = c' := by
  rcases h with ⟨rfl, h⟩ | ⟨n, rfl, hn, h⟩
  · rcases h' with ⟨rfl, _⟩ | ⟨n, rfl, hn, _⟩
    · rfl
    · exact absurd ⟨by omega, by omega⟩ h
  · rcases h' with ⟨rfl, h'⟩ | ⟨n', e, _, h'⟩
    · exact absurd ⟨by omega, by omega⟩ h'
    · obtain rfl : n' = n := by omega
      rcases h with ⟨rfl, h⟩ | ⟨hr, ⟨rfl, h⟩ | ⟨rfl, h⟩⟩ <;> rcases h' with ⟨rfl, h'⟩ | ⟨hr', ⟨rfl, h'⟩ | ⟨rfl, h'⟩⟩ <;> first | rfl | (exact absurd h h') | (exact absurd h' h) | (exact absurd hr h') | (exact absurd hr' h)
theorem FChk.good {N : Int} {len : Nat} {f : Nat → Int} (h : FChk N len f 0) : ∃ n : Nat, N = n ∧ n ≤ 10 ∧ FIn n len f ∧ Ris len f := by
  rcases h with ⟨h, _⟩ | ⟨n, rfl, hn, ⟨h, _⟩ | ⟨hr, ⟨h, _⟩ | ⟨_, h⟩⟩⟩
  · cases h
  · cases h
  · cases h
  · exact ⟨n, rfl, hn, hr, h⟩
theorem FIn.small {n len : Nat} {f : Nat → Int} (h : FIn n len f) : ∀ k, k < len → nat f k < pw n := fun k hk => by
  have := h k hk; unfold nat; omega
theorem FIn.row {n len : Nat} {f : Nat → Int} {w : World} {a : Option Addr} (h : FIn n len f) (hr : Row w a len f) : Row w a len (fun k => (nat f k : Nat)) := fun k hk => by
  obtain ⟨b, off, e, hc⟩ := hr k hk
  have := h k hk
  have e2 : f k = (nat f k : Nat) := by unfold nat; omega
  exact ⟨b, off, e, by rw [hc, e2]⟩
set_option maxHeartbeats 1000000 in
theorem checkRising_any (N : Int) (a : Option Addr) (len cap : Nat) (f : Nat → Int) (w : World) (hl : len ≤ maxLen) (hr : Row w a len f) :
    Calls Tryd.prog 40 #[.slice a len cap, .int .i64 N] w fun e w' => (∃ c : Int, e = .returned (.int .i64 c) ∧ FChk N len f c) ∧ Below w.heap.size w w' := by
  unfold maxLen at hl
  have HB0 : Hid (Below w.heap.size w w) := Below.refl _ _
  have HR : Hid (Row w a len f) := hr
  clear hr
  by_cases hn : 0 ≤ N ∧ N ≤ 10
  · have hd : cnt N = true := by simpa [cnt] using hn
    obtain ⟨n, rfl⟩ := Int.eq_ofNat_of_zero_le hn.1
    have hn10 : n ≤ 10 := by omega
    clear hn
    go_enter Tryd.func40, Tryd.ntmps40
    go_wp2_with (go_at_call 65; refine (isCount_any _ _).mono ?_; rintro e w' ⟨rfl, rfl⟩)
    go_loop [13] (fun i => ∃ k : Nat, k ≤ len ∧ i = .int .i64 k ∧ Hid (∀ j, j < k → 0 ≤ f j ∧ f j < (pw n : Nat))) (fun i => len - (intOf i).toNat)
    case atStart => exact ⟨0, Nat.zero_le _, rfl, upto_zero⟩
    case round =>
      obtain ⟨k, hk, rfl, hok⟩ := hrel
      by_cases hlt : k < len
      · obtain ⟨b, off, rfl, c0⟩ := HR.out k hlt
        have hlt' : (k : Int) < (len : Int) := by omega
        rcases (Bool.eq_false_or_eq_true (sts (f k) n)).symm with hs | hs
        · have HS : Hid (¬ (0 ≤ f k ∧ f k < (pw n : Nat))) := by simpa [sts, Hid] using hs
          go_wp2_with fail
          refine (isSet_any (f k) n _ hn10).mono ?_
          rintro e w' ⟨rfl, rfl⟩
          rw [hs]
          go_wp2_with fail
          go_ret
          exact ⟨⟨_, rfl, .inr ⟨n, rfl, hn10, .inl ⟨rfl, fun h => HS.out (h k hlt)⟩⟩⟩, HB0.out⟩
        · have HS : Hid (0 ≤ f k ∧ f k < (pw n : Nat)) := by simpa [sts, Hid] using hs
          go_wp2_with fail
          refine (isSet_any (f k) n _ hn10).mono ?_
          rintro e w' ⟨rfl, rfl⟩
          rw [hs]
          go_wp2_with fail
          go_round
          case rel => exact ⟨k + 1, by omega, by go_num, upto_succ hok.out HS.out⟩
          case measure => simp [intOf]; omega
      · obtain rfl : k = len := by omega
        have HIN : Hid (FIn n k f) := hok.out
        clear hok
        go_wp2_with fail
        go_loopw [24] (fun i wx => ∃ j d : Nat, j ≤ k ∧ i = .int .i64 j ∧ Hid (∀ j', j' < j → 0 < j' → f (j' - 1) < f j') ∧ wx = w.drewN d) (fun i _ => k - (intOf i).toNat)
        case atStart => exact ⟨0, 0, Nat.zero_le _, rfl, upto_zero, rfl⟩
        case round =>
          obtain ⟨j, d, hj, rfl, hok, rfl⟩ := hrel
          by_cases hlt2 : j < k
          · obtain ⟨b, off, rfl, c0⟩ := HR.out j hlt2
            have hj' : (j : Int) < (k : Int) := by omega
            by_cases h0 : j = 0
            · subst h0
              have HS : Hid (∀ j', j' < 0 + 1 → 0 < j' → f (j' - 1) < f j') := fun j' h1 h2 => by omega
              go_wp2_with fail
              go_big_quiet (fail)
              go_wp2_with fail
              go_roundw
              case rel => exact ⟨0 + 1, _, by omega, by go_num, HS, rfl⟩
              case measure => simp [intOf]; omega
            · have hj0 : (0 : Int) < (j : Int) := by omega
              obtain ⟨b2, off2, e2, c1⟩ := HR.out (j - 1) (by omega)
              simp at e2
              obtain ⟨rfl, rfl⟩ := e2
              obtain ⟨m, rfl⟩ : ∃ m, j = m + 1 := ⟨j - 1, by omega⟩
              rw [Nat.add_sub_cancel] at c1
              have c1' : w.cell? ⟨b, off + m, none⟩ = some (.int .i64 (f m)) := c1
              have c0' : w.cell? ⟨b, off + (m + 1), none⟩ = some (.int .i64 (f (m + 1))) := c0
              have hm1 : ((m + 1 : Nat) : Int) - 1 = (m : Int) := by omega
              have hm2 : (m : Int) < (k : Int) := by omega
              by_cases hr : f m < f (m + 1)
              · have HS : Hid (∀ j', j' < m + 1 + 1 → 0 < j' → f (j' - 1) < f j') := upto_succ hok.out (fun _ => hr)
                have hr2 : ¬ f (m + 1) ≤ f m := by omega
                clear hok c0 c1
                go_wp2_with fail
                go_big_quiet (fail)
                go_wp2_with fail
                go_roundw
                case rel => exact ⟨m + 1 + 1, _, by omega, by go_num, HS, rfl⟩
                case measure => simp [intOf]; omega
              · have hr2 : f (m + 1) ≤ f m := by omega
                have HS : Hid (¬ Ris k f) := fun h => hr (h (m + 1) hlt2 (by omega))
                clear hok c0 c1
                go_wp2_with fail
                go_big_quiet (fail)
                go_wp2_with fail
                go_ret
                exact ⟨⟨_, rfl, .inr ⟨n, rfl, hn10, .inr ⟨HIN.out, .inl ⟨rfl, HS.out⟩⟩⟩⟩, below_drewN (below_drewN HB0.out _) _⟩
          · obtain rfl : j = k := by omega
            have HS : Hid (Ris j f) := hok.out
            clear hok
            go_wp2_with fail
            go_ret
            exact ⟨⟨_, rfl, .inr ⟨n, rfl, hn10, .inr ⟨HIN.out, .inr ⟨rfl, HS.out⟩⟩⟩⟩, below_drewN HB0.out _⟩
  · have hd : cnt N = false := by simpa [cnt] using hn
    have HN : Hid (¬ (0 ≤ N ∧ N ≤ 10)) := hn
    clear hn
    go_enter Tryd.func40, Tryd.ntmps40
    go_wp2_with (go_at_call 65; refine (isCount_any _ _).mono ?_; rintro e w' ⟨rfl, rfl⟩)
    go_ret
    exact ⟨⟨_, rfl, .inl ⟨rfl, HN.out⟩⟩, HB0.out⟩
theorem equal_any (a b : Option Addr) (la ca lb cb : Nat) (f g : Nat → Int) (w : World) (hl : la ≤ maxLen) (hl2 : lb ≤ maxLen) (ha : Row w a la f) (hb : Row w b lb g) :
    Calls Tryd.prog 42 #[.slice a la ca, .slice b lb cb] w fun e w' => Ans e (SameRows la lb f g) ∧ Below w.heap.size w w' := by
  unfold maxLen at hl hl2
  by_cases hlen : la = lb
  · subst hlen
    have HA := (show Hid _ from ha); have HB := (show Hid _ from hb); clear ha hb
    go_enter Tryd.func42, Tryd.ntmps42
    go_wp2
    go_loopw [13] (fun i wx => ∃ k : Nat, k ≤ la ∧ i = .int .i64 k ∧ Hid (∀ j, j < k → f j = g j) ∧ Row wx a la f ∧ Row wx b la g ∧ Hid (Below w.heap.size w wx)) (fun i _ => la - (intOf i).toNat)
    case atStart => exact ⟨0, Nat.zero_le _, rfl, upto_zero, HA.out, HB.out, Below.refl _ _⟩
    case round =>
      obtain ⟨k, hk, rfl, hok, hA, hB, hW⟩ := hrel
      clear HA HB
      by_cases hlt : k < la
      · obtain ⟨b1, o1, rfl, hc1⟩ := hA.at hlt
        obtain ⟨b2, o2, rfl, hc2⟩ := hB.at hlt
        have d1 := hc1 k hlt
        have d2 := hc2 k hlt
        clear hc1 hc2
        have hlt' : (k : Int) < (la : Int) := by omega
        by_cases he : f k = g k
        · have hne : (f k != g k) = false := by simpa using he
          have HE := (show Hid _ from he); clear he
          go_wp2
          go_quiet (fail)
          go_wp2
          go_roundw
          case rel => exact ⟨k + 1, by omega, by go_num, upto_succ hok.out HE.out, hA, hB, below_drewN hW.out _⟩
          case measure => simp [intOf]; omega
        · have hne : (f k != g k) = true := by simpa using he
          go_wp2
          go_quiet (fail)
          go_wp2
          go_ret
          exact ⟨Ans.no (fun h => he (h.2 k hlt)), below_drewN hW.out _⟩
      · have hkn : k = la := by omega
        subst hkn
        go_wp2
        go_ret
        exact ⟨Ans.yes ⟨rfl, hok.out⟩, hW.out⟩
  · have hne : ((la : Int) != (lb : Int)) = true := by simp; omega
    clear ha hb
    go_enter Tryd.func42, Tryd.ntmps42
    go_wp2
    go_ret
    exact ⟨Ans.no (fun h => hlen h.1), Below.refl _ _⟩
/-- Has each of the first sets that has l also u? -/
def okT (F : Nat → Nat) (l u : Nat) : Nat → Bool
  | 0 => true
  | j + 1 => okT F l u j && (!(F j).testBit l || (F j).testBit u)
theorem okT_iff (F : Nat → Nat) (l u : Nat) : ∀ j, okT F l u j = true ↔ ∀ i, i < j → (F i).testBit l = true → (F i).testBit u = true
  | 0 => ⟨fun _ i hi => absurd hi (Nat.not_lt_zero _), fun _ => rfl⟩
  | j + 1 => by
    rw [okT, Bool.and_eq_true, okT_iff F l u j, Bool.or_eq_true, Bool.not_eq_true']
    constructor
    · rintro ⟨h1, h2⟩ i hi hl
      rcases Nat.lt_or_ge i j with h3 | h3
      · exact h1 i h3 hl
      · obtain rfl : i = j := by omega
        rcases h2 with h2 | h2
        · rw [hl] at h2; cases h2
        · exact h2
    · intro h
      refine ⟨fun i hi => h i (by omega), ?_⟩
      cases e : (F j).testBit l
      · exact .inl rfl
      · exact .inr (h j (by omega) e)
/-- The sets Below that open sets say. -/
def bl (F : Nat → Nat) (len t u : Nat) : Nat := setBy (fun l => okT F l u len && decide (l ≠ u)) t
/-- What all of the first open sets that have l have. -/
def ner (F : Nat → Nat) (n l : Nat) : Nat → Nat
  | 0 => pw n - 1
  | j + 1 => if (F j).testBit l = true then ner F n l j &&& F j else ner F n l j
theorem ner_le (F : Nat → Nat) (n l : Nat) : ∀ j, ner F n l j ≤ pw n - 1
  | 0 => Nat.le_refl _
  | j + 1 => by
    unfold ner
    split
    · exact Nat.le_trans Nat.and_le_left (ner_le F n l j)
    · exact ner_le F n l j
theorem ner_bit (F : Nat → Nat) (n l u : Nat) : ∀ j, (ner F n l j).testBit u = true ↔ u < n ∧ okT F l u j = true
  | 0 => by
    unfold ner
    rw [full_bit, decide_eq_true_iff]
    exact ⟨fun h => ⟨h, rfl⟩, fun h => h.1⟩
  | j + 1 => by
    unfold ner
    rw [okT, Bool.and_eq_true]
    cases e : (F j).testBit l
    · rw [if_neg (by decide), ner_bit F n l u j]
      simp
    · rw [if_pos rfl, Nat.testBit_and, Bool.and_eq_true, ner_bit F n l u j]
      simp [and_assoc]
/-- Is u one of the first of a list? -/
def inT (M : List Nat) (u : Nat) : Nat → Bool
  | 0 => false
  | j + 1 => inT M u j || (nth M j == u)
theorem inT_iff (M : List Nat) (u : Nat) : ∀ j, inT M u j = true ↔ ∃ i, i < j ∧ nth M i = u
  | 0 => by simp [inT]
  | j + 1 => by
    rw [inT, Bool.or_eq_true, inT_iff M u j, beq_iff_eq]
    constructor
    · rintro (⟨i, h1, h2⟩ | h)
      · exact ⟨i, by omega, h2⟩
      · exact ⟨j, by omega, h⟩
    · rintro ⟨i, h1, h2⟩
      rcases Nat.lt_or_ge i j with h3 | h3
      · exact .inl ⟨i, h3, h2⟩
      · obtain rfl : i = j := by omega
        exact .inr h2
def mixB (F : Nat → Nat) (len t : Nat) (M : List Nat) (j u : Nat) : Nat := if inT M u j = true then bl F len t u ||| pw t else bl F len t u
theorem bl_lt (F : Nat → Nat) (len t u : Nat) : bl F len t u < pw t := setBy_lt _ t
theorem mixB_lt (F : Nat → Nat) (len t : Nat) (M : List Nat) (j u : Nat) : mixB F len t M j u < pw (t + 1) := by
  have h1 := bl_lt F len t u
  have h2 := pw_succ t
  unfold mixB
  split
  · exact Nat.or_lt_two_pow (show bl F len t u < pw (t + 1) by omega) (show pw t < pw (t + 1) by have := pw_pos t; omega)
  · omega
theorem mixB_next (F : Nat → Nat) (len t : Nat) (M : List Nat) (j : Nat) : mixB F len t M (j + 1) = upd (mixB F len t M j) (nth M j) (mixB F len t M j (nth M j) ||| pw t) := by
  funext u
  by_cases e : u = nth M j
  · subst e
    rw [upd_same]
    unfold mixB
    rw [if_pos (show inT M (nth M j) (j + 1) = true by unfold inT; simp)]
    split
    · rw [Nat.or_assoc, Nat.or_self]
    · rfl
  · rw [upd_other _ _ _ _ e]
    unfold mixB
    have h : inT M u (j + 1) = inT M u j := by
      have h2 : (nth M j == u) = false := by simp; exact fun h => e h.symm
      rw [inT, h2, Bool.or_false]
    rw [h]
theorem mixB_end (F : Nat → Nat) (len n t u : Nat) (hn : n ≤ 10) (ht : t < n) (hu : u < n) : mixB F len t (pts (lack (ner F n t len) (pw t)) 10) (pts (lack (ner F n t len) (pw t)) 10).length u = bl F len (t + 1) u := by
  have hpl := pw_le n hn
  have hnl := ner_le F n t len
  have hpp := pw_pos n
  have hpt : pw t < pw n := Nat.pow_lt_pow_right (by decide) ht
  have hin : inT (pts (lack (ner F n t len) (pw t)) 10) u (pts (lack (ner F n t len) (pw t)) 10).length = (okT F t u len && decide (t ≠ u)) := by
    rw [Bool.eq_iff_iff, inT_iff]
    constructor
    · rintro ⟨i, h1, rfl⟩
      have hm := ((pts_mem 10).1 (nth_mem h1)).2
      rw [lack_bit _ _ _ (by omega) (by omega), Bool.and_eq_true, pw_bit, ner_bit] at hm
      rw [Bool.and_eq_true]
      exact ⟨hm.1.2, decide_eq_true (by simpa using hm.2)⟩
    · intro h
      rw [Bool.and_eq_true] at h
      refine mem_nth ((pts_mem 10).2 ⟨by omega, ?_⟩)
      rw [lack_bit _ _ _ (by omega) (by omega), Bool.and_eq_true, pw_bit, ner_bit]
      exact ⟨⟨hu, h.1⟩, by simpa using of_decide_eq_true h.2⟩
  unfold mixB
  rw [hin]
  have hb := bl_lt F len t u
  cases e : (okT F t u len && decide (t ≠ u))
  · rw [if_neg (by decide)]
    exact (setBy_no (P := fun l => okT F l u len && decide (l ≠ u)) e).symm
  · rw [if_pos rfl, or_pw_add hb]
    exact (setBy_yes (P := fun l => okT F l u len && decide (l ≠ u)) e).symm

set_option maxHeartbeats 8000000 in
theorem belowBy_any (a : Option Addr) (n len cap : Nat) (F : Nat → Nat) (w : World) (h10 : n ≤ 10) (hll : len ≤ 1024) (hF : ∀ k, k < len → F k < pw n) (hr : Row w a len (fun k => (F k : Nat))) (hT : Tab w) :
    Calls Tryd.prog 41 #[.int .i64 (n : Nat), .slice a len cap] w fun e w' => (∃ BB, e = .returned (.slice (some ⟨BB, 0, none⟩) n n) ∧ Own w' BB n (bl F len n) ∧ w.heap.size ≤ BB) ∧ Below w.heap.size w w' := by
  have hpl := pw_le n h10
  have hpp := pw_pos n
  have HR : Hid (∀ w', Below w.heap.size w w' → Row w' a len (fun k => ((F k : Nat) : Int))) := fun w' h => hr.below h
  have HT : Hid (∀ w', Below w.heap.size w w' → Tab w') := fun w' h => hT.step h
  have HF : Hid (∀ k, k < len → F k < pw n) := hF
  obtain ⟨i0, hi, hz0, hz1, hz2⟩ := info_parts Tryd.info3
  clear hr hT hF
  go_enter Tryd.func41, Tryd.ntmps41
  go_wp2_with (at_make; refine wpList_make_full _ rfl _ _ 22 rfl w.heap.size 3 i0 (.int .i64 0) 1 Tryd.underlying22 hi hz0 hz1 .i64 .i64 _ _ n rfl rfl rfl rfl (by rw [hz2]; omega) (by unfold maxLen; omega) (Nat.le_refl _) ?_; intro w1 hown1 hgrow1)
  have HB1 : Hid (Below w.heap.size w w1) := (Below.refl _ _).grown hgrow1 (Nat.le_refl _) (by simp)
  have HO1 : Hid (Own w1 w.heap.size n (bl F len 0)) := own_made hown1
  clear hown1 hgrow1 hi hz0 hz1 hz2
  generalize hBB : w.heap.size = BB at *
  go_loopw [15] (fun i wx => ∃ t : Nat, t ≤ n ∧ i = .int .i64 t ∧ Hid (Own wx BB n (bl F len t)) ∧ Hid (Below BB w wx)) (fun i _ => n - (intOf i).toNat)
  case atStart => exact ⟨0, Nat.zero_le _, rfl, HO1.out, HB1.out⟩
  case round =>
    clear HO1 HB1
    obtain ⟨t, ht, rfl, HO, HB⟩ := hrel
    by_cases htl : t < n
    · have htl' : (t : Int) < (n : Int) := by omega
      have hal : ((pw n - 1 : Nat) : Int) = ((pw n : Nat) : Int) - 1 := by omega
      have HN0 : Hid (ner F n t 0 = pw n - 1) := rfl
      go_wp2_with (go_at_call 54; refine (all_any n _ h10).mono ?_; rintro e w' ⟨rfl, rfl⟩; rw [← hal])
      go_loopw [7, 22] (fun p i wx => ∃ k : Nat, k ≤ len ∧ p = .int .i64 (ner F n t k : Nat) ∧ i = .int .i64 k ∧ wx = wr) (fun _ i _ => len - (intOf i).toNat)
      case atStart => exact ⟨0, Nat.zero_le _, by rw [HN0.out, hal], rfl, rfl⟩
      case round =>
        obtain ⟨k, hk, rfl, rfl, rfl⟩ := hrel
        by_cases hkl : k < len
        · have hkl' : (k : Int) < (len : Int) := by omega
          obtain ⟨b2, o2, rfl, c2⟩ := HR.out _ HB.out k hkl
          have hfk := HF.out k hkl
          have hnl := ner_le F n t k
          cases hb : (F k).testBit t
          · have HN : Hid (ner F n t (k + 1) = ner F n t k) := by show _ = _; rw [ner, if_neg (by rw [hb]; decide)]
            go_wp2_with (go_at_call 62; refine (has_any (F k) t _ (by omega) (by omega)).mono ?_; rintro e w' ⟨rfl, rfl⟩; rw [hb])
            go_roundw
            case rel => exact ⟨k + 1, by omega, by rw [HN.out], by go_num, by first | rfl | trivial⟩
            case measure => simp [intOf]; omega
          · have HN : Hid (ner F n t (k + 1) = ner F n t k &&& F k) := by show _ = _; rw [ner, if_pos hb]
            have han := i64_and (ner F n t k) (F k) (by omega) (by omega)
            go_wp2_with (go_at_call 62; refine (has_any (F k) t _ (by omega) (by omega)).mono ?_; rintro e w' ⟨rfl, rfl⟩; rw [hb])
            go_roundw
            case rel => exact ⟨k + 1, by omega, by rw [HN.out, ← han], by go_num, by first | rfl | trivial⟩
            case measure => simp [intOf]; omega
        · obtain rfl : k = len := by omega
          have hnl := ner_le F n t k
          have hpt : pw t < pw n := Nat.pow_lt_pow_right (by decide) htl
          have hpow := wrap_pow t (by omega)
          have hlk := i64_andNot (ner F n t k) (pw t) (by omega) (by omega)
          have hll2 := lack_le (ner F n t k) (pw t)
          have HEND : Hid (∀ u, u < n → mixB F k t (pts (lack (ner F n t k) (pw t)) 10) (pts (lack (ner F n t k) (pw t)) 10).length u = bl F k (t + 1) u) := fun u hu => mixB_end F k n t u h10 htl hu
          have HPM : Hid (∀ x, x ∈ pts (lack (ner F n t k) (pw t)) 10 → x < n) := fun x hx => bit_of_lt (show lack (ner F n t k) (pw t) < pw n by omega) ((pts_mem 10).1 hx).2
          have HPL : Hid ((pts (lack (ner F n t k) (pw t)) 10).length ≤ 10) := pts_len _ 10
          have HT0 := HT.out _ HB.out
          have HO0 : Hid (Own wr BB n (mixB F k t (pts (lack (ner F n t k) (pw t)) 10) 0)) := HO.out.congr (fun u _ => by simp [mixB, inT])
          have HMN : Hid (∀ M j, mixB F k t M (j + 1) = upd (mixB F k t M j) (nth M j) (mixB F k t M j (nth M j) ||| pw t)) := mixB_next F k t
          have HML : Hid (∀ M j u, mixB F k t M j u < pw (t + 1)) := mixB_lt F k t
          clear HO
          go_wp2_with fail
          refine (members_new (lack (ner F n t k) (pw t)) _ (by omega) HT0).mono ?_
          rintro e w3 ⟨⟨v, rfl, ⟨b, mc, rfl, hrow⟩, hnew⟩, hb3⟩
          have HB3 : Hid (Below BB w w3) := by
            have h1 := HB.out
            rw [← hBB] at h1 ⊢
            exact Below.then h1 hb3
          have HO3 : Hid (Own w3 BB n (mixB F k t (pts (lack (ner F n t k) (pw t)) 10) 0)) := HO0.out.step hb3
          have HM3 : Hid (Row w3 b (pts (lack (ner F n t k) (pw t)) 10).length (fun j => (nth (pts (lack (ner F n t k) (pw t)) 10) j : Nat))) := hrow
          have HNB : Hid (0 < n → ∀ bb off, b = some ⟨bb, off, none⟩ → bb ≠ BB) := fun hn0 bb off e => by
            subst e
            have h1 := hnew bb rfl
            have h2 := HO0.out.lt (k := 0) (by omega)
            omega
          clear hb3 hrow hnew HT0 HO0 HB
          generalize pts (lack (ner F n t k) (pw t)) 10 = M at *
          generalize lack (ner F n t k) (pw t) = LK at *
          have hml10 := HPL.out
          go_wp2_with fail
          go_loopw [39] (fun i wx => ∃ j : Nat, j ≤ M.length ∧ i = .int .i64 j ∧ Hid (Own wx BB n (mixB F k t M j)) ∧ Hid (Row wx b M.length (fun j => (nth M j : Nat))) ∧ Hid (Below BB w wx)) (fun i _ => M.length - (intOf i).toNat)
          case atStart => exact ⟨0, Nat.zero_le _, rfl, HO3, HM3, HB3⟩
          case round =>
            clear HO3 HM3 HB3
            obtain ⟨j, hj, rfl, HO, HM, HB⟩ := hrel
            by_cases hjl : j < M.length
            · have hjl' : (j : Int) < (M.length : Int) := by omega
              have hxn := HPM.out _ (nth_mem hjl)
              have hxn' : ((nth M j : Nat) : Int) < (n : Int) := by omega
              obtain ⟨X, HX⟩ : ∃ X, Hid (X = wr.drew) := ⟨_, rfl⟩
              have hOX : Own X BB n (mixB F k t M j) := by rw [HX.out]; exact HO.out
              have hMX : Row X b M.length (fun j => (nth M j : Nat)) := by rw [HX.out]; exact HM.out
              have hBX : Below BB w X := by rw [HX.out]; exact HB.out.drew
              obtain ⟨b4, o4, rfl, c40⟩ := HM.out j hjl
              have c4 : wr.cell? ⟨b4, o4 + j, none⟩ = some (.int .i64 ((nth M j : Nat) : Int)) := c40
              clear c40
              have cv := (hOX _ hxn).1
              have cf := (hOX _ hxn).2
              have hm1 := HML.out M j (nth M j)
              have hs2 : pw (t + 1) ≤ pw n := Nat.pow_le_pow_right (by decide) htl
              have hor := i64_or (mixB F k t M j (nth M j)) (pw t) (by omega) (by omega)
              obtain ⟨vnew, hvn⟩ : ∃ v, mixB F k t M j (nth M j) ||| pw t = v := ⟨_, rfl⟩
              rw [hvn] at hor
              have hpw2 : IntKind.i64.wrap ((2 : Int) ^ t) = ((pw t : Nat) : Int) := by
                rw [show ((2 : Int) ^ t) = ((pw t : Nat) : Int) by simp [pw]]
                exact wrap_i64_small _ (by omega) (by omega)
              have HOT : Hid (Own (X.setCell ⟨BB, nth M j, none⟩ (.int .i64 ((vnew : Nat) : Int))) BB n (mixB F k t M (j + 1))) := by rw [HMN.out, hvn]; exact hOX.set _ _ hxn
              have HMT : Hid (Row (X.setCell ⟨BB, nth M j, none⟩ (.int .i64 ((vnew : Nat) : Int))) (some ⟨b4, o4, none⟩) M.length (fun j => (nth M j : Nat))) := hMX.setOther (HNB.out (by omega))
              have HBT : Hid (Below BB w (X.setCell ⟨BB, nth M j, none⟩ (.int .i64 ((vnew : Nat) : Int)))) := hBX.setCell (p := ⟨BB, nth M j, none⟩) (Nat.le_refl _) _
              clear hOX hMX hBX HO HM HB
              generalize hU : nth M j = U at *
              go_wp2_with fail
              refine wp_lates (S := (fun w' => w' = X)) (late := (fun i => i == 8)) (by kernel_rfl) ?_
              rw [← HX.out]
              have HS : Hid (X = X) := rfl
              refine lates_take (i := 0) (oi := { dst := some 43, op := Go.Op.move (Go.Operand.tmp 5), type := 22, pos := "space.go:122", after := #[], guard := none }) (v := ?_) rfl (by kernel_rfl) (by kernel_rfl) (by kernel_rfl) ⟨rfl, by kernel_rfl⟩ (fun _ _ _ h => h) (Or.inl ⟨by rfl, ?hy⟩) HS.out ?_
              case hy => (intro w9 hSw; (try dsimp only at hSw); subst hSw; go_simp; try with_reducible rfl)
              try simp only [Act.put, List.setIfInBounds_toArray, List.set_cons_zero, List.set_cons_succ]
              refine lates_take (i := 1) (oi := { dst := some 44, op := Go.Op.move (Go.Operand.tmp 11), type := 3, pos := "space.go:122", after := #[], guard := none }) (v := ?_) rfl (by kernel_rfl) (by kernel_rfl) (by kernel_rfl) ⟨rfl, by kernel_rfl⟩ (fun _ _ _ h => h) (Or.inl ⟨by rfl, ?hy⟩) HS.out ?_
              case hy => (intro w9 hSw; (try dsimp only at hSw); subst hSw; go_simp; try with_reducible rfl)
              try simp only [Act.put, List.setIfInBounds_toArray, List.set_cons_zero, List.set_cons_succ]
              refine lates_take (i := 2) (oi := { dst := some 45, op := Go.Op.indexAddr 22 (Go.Operand.tmp 43) (Go.Operand.tmp 44), type := 0, pos := "space.go:122", after := #[{ on := 0, ground := Go.Ground.data }, { on := 1, ground := Go.Ground.data }], guard := none }) (v := ?_) rfl (by kernel_rfl) (by kernel_rfl) (by kernel_rfl) ⟨rfl, by kernel_rfl⟩ (fun _ _ _ h => h) (Or.inl ⟨by rfl, ?hy⟩) HS.out ?_
              case hy => (intro w9 hSw; (try dsimp only at hSw); subst hSw; go_simp; try with_reducible rfl)
              try simp only [Act.put, List.setIfInBounds_toArray, List.set_cons_zero, List.set_cons_succ]
              refine lates_take (i := 3) (oi := { dst := some 46, op := Go.Op.load 3 (Go.Operand.tmp 45), type := 3, pos := "space.go:122", after := #[{ on := 2, ground := Go.Ground.data }], guard := none }) (v := ?_) rfl (by kernel_rfl) (by kernel_rfl) (by kernel_rfl) ⟨rfl, by kernel_rfl⟩ (fun _ _ _ h => h) (Or.inl ⟨by rfl, ?hy⟩) HS.out ?_
              case hy => (intro w9 hSw; (try dsimp only at hSw); subst hSw; go_simp; try with_reducible rfl)
              try simp only [Act.put, List.setIfInBounds_toArray, List.set_cons_zero, List.set_cons_succ]
              refine lates_take (i := 4) (oi := { dst := some 47, op := Go.Op.move (Go.Operand.tmp 6), type := 3, pos := "space.go:122", after := #[], guard := none }) (v := ?_) rfl (by kernel_rfl) (by kernel_rfl) (by kernel_rfl) ⟨rfl, by kernel_rfl⟩ (fun _ _ _ h => h) (Or.inl ⟨by rfl, ?hy⟩) HS.out ?_
              case hy => (intro w9 hSw; (try dsimp only at hSw); subst hSw; go_simp; try with_reducible rfl)
              try simp only [Act.put, List.setIfInBounds_toArray, List.set_cons_zero, List.set_cons_succ]
              refine lates_take (i := 5) (oi := { dst := some 48, op := Go.Op.binOp Go.BinOp.shl 3 (Go.Operand.const (Go.Value.int Go.IntKind.i64 1)) (Go.Operand.tmp 47) 3, type := 3, pos := "space.go:122", after := #[{ on := 4, ground := Go.Ground.data }], guard := none }) (v := .int .i64 ((pw t : Nat) : Int)) rfl (by kernel_rfl) (by kernel_rfl) (by kernel_rfl) ⟨rfl, by kernel_rfl⟩ (fun _ _ _ h => h) (Or.inl ⟨by rfl, ?hy⟩) HS.out ?_
              case hy => (intro w9 hSw; (try dsimp only at hSw); subst hSw; go_simp <;> (first | with_reducible rfl | (simp; omega) | omega))
              try simp only [Act.put, List.setIfInBounds_toArray, List.set_cons_zero, List.set_cons_succ]
              refine lates_take (i := 6) (oi := { dst := some 49, op := Go.Op.binOp Go.BinOp.or 3 (Go.Operand.tmp 46) (Go.Operand.tmp 48) 3, type := 3, pos := "space.go:122", after := #[{ on := 3, ground := Go.Ground.data }, { on := 5, ground := Go.Ground.data }], guard := none }) (v := .int .i64 ((vnew : Nat) : Int)) rfl (by kernel_rfl) (by kernel_rfl) (by kernel_rfl) ⟨rfl, by kernel_rfl⟩ (fun _ _ _ h => h) (Or.inl ⟨by rfl, ?hy⟩) HS.out ?_
              case hy => (intro w9 hSw; (try dsimp only at hSw); subst hSw; go_simp <;> (first | with_reducible rfl | (simp; omega) | omega))
              try simp only [Act.put, List.setIfInBounds_toArray, List.set_cons_zero, List.set_cons_succ]
              refine lates_take (i := 7) (oi := { dst := some 50, op := Go.Op.indexAddr 22 (Go.Operand.tmp 43) (Go.Operand.tmp 44), type := 0, pos := "space.go:122", after := #[{ on := 0, ground := Go.Ground.data }, { on := 1, ground := Go.Ground.data }, { on := 0, ground := Go.Ground.phase }, { on := 1, ground := Go.Ground.phase }, { on := 2, ground := Go.Ground.phase }, { on := 3, ground := Go.Ground.phase }, { on := 4, ground := Go.Ground.phase }, { on := 5, ground := Go.Ground.phase }, { on := 6, ground := Go.Ground.phase }], guard := none }) (v := ?_) rfl (by kernel_rfl) (by kernel_rfl) (by kernel_rfl) ⟨rfl, by kernel_rfl⟩ (fun _ _ _ h => h) (Or.inl ⟨by rfl, ?hy⟩) HS.out ?_
              case hy => (intro w9 hSw; (try dsimp only at hSw); subst hSw; go_simp; try with_reducible rfl)
              try simp only [Act.put, List.setIfInBounds_toArray, List.set_cons_zero, List.set_cons_succ]
              refine lates_ready (rs := [8]) (by kernel_rfl) (by simp) ?_
              refine AllLate.cons (o := { dst := none, op := Go.Op.store 3 (Go.Operand.tmp 50) (Go.Operand.tmp 49), type := 0, pos := "space.go:122", after := #[{ on := 7, ground := Go.Ground.data }, { on := 6, ground := Go.Ground.data }, { on := 0, ground := Go.Ground.phase }, { on := 1, ground := Go.Ground.phase }, { on := 2, ground := Go.Ground.phase }, { on := 3, ground := Go.Ground.phase }, { on := 4, ground := Go.Ground.phase }, { on := 5, ground := Go.Ground.phase }, { on := 6, ground := Go.Ground.phase }], guard := none }) rfl (fun K hK => ?_) ?_
              · go_simp
                skip
                refine hK.out _ _ (fun h => by cases h) ?_
                clear hK K
                try simp only [Act.put, List.setIfInBounds_toArray, List.set_cons_zero, List.set_cons_succ]
                refine lates_done (by kernel_rfl) ?_ _
                try simp only [Act.put, List.setIfInBounds_toArray, List.set_cons_zero, List.set_cons_succ]
                go_wp2_with fail
                go_roundw
                case rel => exact ⟨j + 1, by omega, by go_num, HOT, HMT, HBT⟩
                case measure => simp [intOf]; omega
              exact AllLate.nil
            · obtain rfl : j = M.length := by omega
              have HO9 : Hid (Own wr BB n (bl F k (t + 1))) := HO.out.congr HEND.out
              clear HO
              go_wp2_with fail
              go_roundw
              case rel => exact ⟨t + 1, by omega, by go_num, HO9, HB⟩
              case measure => simp [intOf]; omega
    · obtain rfl : t = n := by omega
      go_wp2_with fail
      go_ret
      exact ⟨⟨_, rfl, HO.out, by omega⟩, by rw [hBB]; exact HB.out⟩
end Go.Proofs.YtggngpnenbjidaaDoor
