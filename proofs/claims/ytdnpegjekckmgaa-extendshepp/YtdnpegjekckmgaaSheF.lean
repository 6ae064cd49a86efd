/-
  Shepp's inequality itself, and that one of two points stands ahead of the other one. Plain facts: no Go text here. Conditions: at most ten points.
-/
import Derived.Test.YtdnpegjekckmgaaSheN
namespace Go.Proofs.Ytdnpegjekckmgaa
open Go.RowKit

theorem or_pw_bit (x A j : Nat) : (x ||| pw A).testBit j = true ↔ x.testBit j = true ∨ j = A := by
  rw [Nat.testBit_or, pw_bit, Bool.or_eq_true, decide_eq_true_eq]
  exact ⟨fun h => h.imp id Eq.symm, fun h => h.imp id Eq.symm⟩
theorem bth_bit {g : Nat → Nat} {A B C i j : Nat} : (bth g A B C i).testBit j = true ↔ (g i).testBit j = true ∨ (j = A ∧ (i = B ∨ i = C)) := by
  by_cases h : i = B ∨ i = C
  · have e : bth g A B C i = g i ||| pw A := by
      simp only [bth, kn]
      by_cases eC : i = C
      · by_cases eB : i = B
        · simp [upd, ← eB, ← eC, Nat.or_assoc, Nat.or_self]
        · have eB2 : ¬ C = B := fun h => eB (eC.trans h)
          simp [upd, eC, eB2]
      · have eB : i = B := h.resolve_right eC
        simp [upd, ← eB, eC]
    rw [e, or_pw_bit]
    exact ⟨fun h1 => h1.imp id fun h2 => ⟨h2, h⟩, fun h1 => h1.imp id And.left⟩
  · have eB : ¬ i = B := fun e => h (.inl e)
    have eC : ¬ i = C := fun e => h (.inr e)
    have e : bth g A B C i = g i := by simp [bth, kn, upd, eB, eC]
    rw [e]
    exact ⟨.inl, fun h1 => h1.resolve_right fun h2 => h h2.2⟩
theorem mp_all {u : Nat → Nat} {n : Nat} {l : List Nat} (hl : Rest n 0 l) (hu : Sm n n u) {f : Nat → Nat} : mp u n 0 l f = true ↔ ∀ i j, i < n → (u i).testBit j = true → f j < f i := by
  rw [mp_iff]
  constructor
  · intro h i j hi hj
    exact h i ((hl.mem i).2 ⟨hi, Nat.zero_testBit i⟩) j (bit_of_lt (hu i hi) hj) hj (Nat.zero_testBit j)
  · intro h i hi j _ hb _
    exact h i j ((hl.mem i).1 hi).1 hb
theorem shepp_maps {g : Nat → Nat} {n A B C N : Nat} {l : List Nat} (hg : Sm n n g) (hA : A < n) (hB : B < n) (hC : C < n) (hl : Rest n 0 (A :: l)) :
    sumF N (A :: l) (fun f => (mp (bth g A B B) n 0 (A :: l) f).toNat) * sumF N (A :: l) (fun f => (mp (bth g A C C) n 0 (A :: l) f).toNat) ≤
    sumF N (A :: l) (fun f => (mp (bth g A B C) n 0 (A :: l) f).toNat) * sumF N (A :: l) (fun f => (mp g n 0 (A :: l) f).toNat) := by
  refine maps_four A l _ _ _ _ fun f g' => ?_
  cases h1 : mp (bth g A B B) n 0 (A :: l) f
  · simp
  cases h2 : mp (bth g A C C) n 0 (A :: l) g'
  · simp
  have k1 := (mp_all hl (bth_sm hg hA hB hB)).1 h1
  have k2 := (mp_all hl (bth_sm hg hA hC hC)).1 h2
  have r1 : ∀ i j, i < n → (g i).testBit j = true → f j < f i := fun i j hi hj => k1 i j hi (bth_bit.2 (.inl hj))
  have r2 : ∀ i j, i < n → (g i).testBit j = true → g' j < g' i := fun i j hi hj => k2 i j hi (bth_bit.2 (.inl hj))
  have b1 : f A < f B := k1 B A hB (bth_bit.2 (.inr ⟨rfl, .inl rfl⟩))
  have b2 : g' A < g' C := k2 C A hC (bth_bit.2 (.inr ⟨rfl, .inl rfl⟩))
  have h3 : mp (bth g A B C) n 0 (A :: l) (jnX A f g') = true := (mp_all hl (bth_sm hg hA hB hC)).2 fun i j hi hj => by
    rcases bth_bit.1 hj with hj | ⟨rfl, rfl | rfl⟩
    · have := r1 i j hi hj; have := r2 i j hi hj
      unfold jnX; split <;> omega
    · unfold jnX; split <;> omega
    · unfold jnX; split <;> omega
  have h4 : mp g n 0 (A :: l) (mtX A f g') = true := (mp_all hl hg).2 fun i j hi hj => by
    have := r1 i j hi hj; have := r2 i j hi hj
    unfold mtX; split <;> omega
  rw [h3, h4]; decide
theorem maps_up {u : Nat → Nat} {n N : Nat} {l : List Nat} (hn : n ≤ 10) (hu : Sm n n u) (hl : Rest n 0 l) :
    sumF N l (fun f => (mp u n 0 l f).toNat) ≤ ways u n 0 * chs N l.length + sumF N l (fun f => (!ij l f).toNat) := by
  rw [← inj_count hn hu N l 0 hl (pw_pos n), ← sumF_add]
  refine sumF_leq fun f => ?_
  cases mp u n 0 l f <;> cases ij l f <;> decide
theorem maps_lo {u : Nat → Nat} {n N : Nat} {l : List Nat} (hn : n ≤ 10) (hu : Sm n n u) (hl : Rest n 0 l) :
    ways u n 0 * chs N l.length ≤ sumF N l (fun f => (mp u n 0 l f).toNat) := by
  rw [← inj_count hn hu N l 0 hl (pw_pos n)]
  refine sumF_leq fun f => ?_
  cases mp u n 0 l f <;> cases ij l f <;> decide
theorem zero_sm (n : Nat) : Sm n n (fun _ => 0) := fun _ _ => pw_pos n
/-- SHEPP: who stands ahead of one stands ahead of another one more often. -/
theorem shepp {g : Nat → Nat} {n A B C : Nat} (hn : n ≤ 10) (hg : Sm n n g) (hA : A < n) (hB : B < n) (hC : C < n) :
    ways (bth g A B B) n 0 * ways (bth g A C C) n 0 ≤ ways (bth g A B C) n 0 * ways g n 0 := by
  have hr : Rest n 0 (A :: (List.range n).erase A) := by
    have hnd : (List.range n).Nodup := List.nodup_range
    refine ⟨List.nodup_cons.2 ⟨fun h => (hnd.mem_erase_iff.1 h).1 rfl, hnd.erase A⟩, fun i => ?_⟩
    rw [List.mem_cons, hnd.mem_erase_iff, List.mem_range]
    constructor
    · rintro (rfl | ⟨_, h⟩)
      · exact ⟨hA, Nat.zero_testBit _⟩
      · exact ⟨h, Nat.zero_testBit _⟩
    · rintro ⟨h, _⟩
      by_cases e : i = A
      · exact .inl e
      · exact .inr ⟨e, h⟩
  generalize (List.range n).erase A = l at hr
  have H := fun N => shepp_maps (N := N) (B := B) (C := C) hg hA hB hC hr
  have u1 := fun N => maps_lo (N := N) hn (bth_sm (A := A) (B := B) (C := B) hg hA hB hB) hr
  have u2 := fun N => maps_lo (N := N) hn (bth_sm (A := A) (B := C) (C := C) hg hA hC hC) hr
  have u3 := fun N => maps_up (N := N) hn (bth_sm (A := A) (B := B) (C := C) hg hA hB hC) hr
  have u0 := fun N => maps_up (N := N) hn hg hr
  have z : ∀ N, N ^ (A :: l).length ≤ ways (fun _ => 0) n 0 * chs N (A :: l).length + sumF N (A :: l) (fun f => (!ij (A :: l) f).toNat) := fun N => by
    have h1 := maps_up (N := N) hn (zero_sm n) hr
    refine Nat.le_trans ?_ h1
    have h2 : sumF N (A :: l) (fun _ => 1) = N ^ (A :: l).length := by rw [sumF_const, Nat.mul_one]
    rw [← h2]
    refine sumF_leq fun f => ?_
    have : mp (fun _ => 0) n 0 (A :: l) f = true := mp_iff.2 fun i _ j _ hb _ => by simp at hb
    rw [this]; decide
  have few := fun N => nij_few (N := N) (A :: l) hr.nd
  generalize ways (bth g A B B) n 0 = w1 at *
  generalize ways (bth g A C C) n 0 = w2 at *
  generalize ways (bth g A B C) n 0 = w3 at *
  generalize ways g n 0 = w0 at *
  generalize ways (fun _ => 0) n 0 = wz at *
  generalize (A :: l).length = m at *
  obtain ⟨N, hN⟩ : ∃ N, N = (wz * (w3 + w0 + 1) + 1) * (m * m) + 1 := ⟨_, rfl⟩
  have H := Nat.le_trans (Nat.mul_le_mul (u1 N) (u2 N)) (Nat.le_trans (H N) (Nat.mul_le_mul (u3 N) (u0 N)))
  have z := z N
  have few := few N
  clear u1 u2 u3 u0
  generalize chs N m = c at *
  generalize sumF N (A :: l) (fun f => (!ij (A :: l) f).toNat) = e at *
  have hpos : 0 < N ^ m := Nat.pow_pos (by omega)
  have big : (w3 + w0 + 1) * e < c := by
    rcases Nat.lt_or_ge ((w3 + w0 + 1) * e) c with h | h
    · exact h
    · exfalso
      have h1 : N ^ m ≤ (wz * (w3 + w0 + 1) + 1) * e := by
        refine Nat.le_trans z ?_
        have h2 := Nat.mul_le_mul_left wz h
        rw [Nat.add_mul, Nat.one_mul, Nat.mul_assoc]; omega
      have h2 : N * N ^ m ≤ (wz * (w3 + w0 + 1) + 1) * (m * m) * N ^ m := by
        have h3 := Nat.mul_le_mul_left N h1
        have h4 := Nat.mul_le_mul_left (wz * (w3 + w0 + 1) + 1) few
        have e1 : N * ((wz * (w3 + w0 + 1) + 1) * e) = (wz * (w3 + w0 + 1) + 1) * (N * e) := by ac_rfl
        have e2 : (wz * (w3 + w0 + 1) + 1) * (m * m * N ^ m) = (wz * (w3 + w0 + 1) + 1) * (m * m) * N ^ m := by ac_rfl
        rw [e1] at h3; rw [e2] at h4; omega
      have h3 := Nat.le_of_mul_le_mul_right h2 hpos
      omega
  rcases Nat.lt_or_ge (w3 * w0) (w1 * w2) with hlt | hge
  · exfalso
    have e1 : w1 * c * (w2 * c) = w1 * w2 * (c * c) := by ac_rfl
    have e2 : (w3 * c + e) * (w0 * c + e) = w3 * w0 * (c * c) + ((w3 + w0) * (c * e) + e * e) := by
      rw [Nat.add_mul, Nat.mul_add, Nat.mul_add, Nat.add_mul w3 w0]
      have a1 : w3 * c * (w0 * c) = w3 * w0 * (c * c) := by ac_rfl
      have a2 : w3 * c * e = w3 * (c * e) := by ac_rfl
      have a3 : e * (w0 * c) = w0 * (c * e) := by ac_rfl
      rw [a1, a2, a3]; omega
    rw [e1, e2] at H
    have h1 : (w3 * w0 + 1) * (c * c) ≤ w1 * w2 * (c * c) := Nat.mul_le_mul_right _ hlt
    rw [Nat.add_mul, Nat.one_mul] at h1
    have h2 : c * ((w3 + w0 + 1) * e + 1) ≤ c * c := Nat.mul_le_mul_left c big
    have e3 : c * ((w3 + w0 + 1) * e + 1) = (w3 + w0) * (c * e) + c * e + c := by
      rw [Nat.mul_add, Nat.mul_one, Nat.add_mul, Nat.one_mul, Nat.mul_add]
      have : c * ((w3 + w0) * e) = (w3 + w0) * (c * e) := by ac_rfl
      rw [this]
    have hec : e ≤ c := by
      have : e ≤ (w3 + w0 + 1) * e := by rw [Nat.add_mul, Nat.one_mul]; omega
      omega
    have h3 : e * e ≤ c * e := Nat.mul_le_mul_right e hec
    omega
  · exact hge

/-! One of two points stands ahead of the other one. -/
theorem ways_ahead {g : Nat → Nat} {n A B : Nat} (hn : n ≤ 10) (hg : Sm n n g) (hA : A < n) : ∀ m s, pw n - s ≤ m → s < pw n → s.testBit A = true → ways (bth g A B B) n s = ways g n s
  | 0, s, h, hs, _ => by omega
  | m + 1, s, h, hs, hb => by
    by_cases e : s + 1 < pw n
    · rw [ways_eq e, ways_eq e]
      refine sumTo_congr n fun i hi => ?_
      have hm : may (bth g A B B) s i = may g s i := by rw [may_bth hn hg hA s i hs hi, hb]; simp
      cases hk : may g s i
      · rw [goes_no (hm.trans hk), goes_no hk]
      · rw [goes_yes (hm.trans hk), goes_yes hk]
        have hp := pw_pos i
        exact ways_ahead hn hg hA m _ (by omega) (add_lt hs hi (may_out hk)) (by rw [add_bit (may_out hk), hb]; rfl)
    · rw [show s = pw n - 1 by omega, ways_all, ways_all]
theorem ways_either {g : Nat → Nat} {n A B : Nat} (hn : n ≤ 10) (hg : Sm n n g) (hA : A < n) (hB : B < n) (hAB : A ≠ B) : ∀ m s, pw n - s ≤ m → s < pw n → s.testBit A = false → s.testBit B = false →
    ways (bth g A B B) n s + ways (bth g B A A) n s = ways g n s
  | 0, s, h, hs, _, _ => by omega
  | m + 1, s, h, hs, ha, hb => by
    have e : s + 1 < pw n := by
      rcases Nat.lt_or_ge (s + 1) (pw n) with h1 | h1
      · exact h1
      · rw [show s = pw n - 1 by omega, all_bit hA] at ha; cases ha
    rw [ways_eq e, ways_eq e, ways_eq e, ← sumTo_add]
    refine sumTo_congr n fun i hi => ?_
    have m1 := may_bth (B := B) (C := B) hn hg hA s i hs hi
    have m2 := may_bth (B := A) (C := A) hn hg hB s i hs hi
    rw [ha] at m1; rw [hb] at m2
    cases hk : may g s i
    · rw [hk, Bool.false_and] at m1 m2
      rw [goes_no m1, goes_no m2, goes_no hk]
    · rw [hk, Bool.true_and] at m1 m2
      have hp := pw_pos i
      have hlt := add_lt hs hi (may_out hk)
      by_cases eA : i = A
      · subst eA
        have m1' : may (bth g i B B) s i = true := by rw [m1]; simp [hAB]
        have m2' : may (bth g B i i) s i = false := by rw [m2]; simp
        rw [goes_yes m1', goes_no m2', goes_yes hk, ways_ahead hn hg hA m _ (by omega) hlt (by rw [add_bit (may_out hk)]; simp)]; omega
      · by_cases eB : i = B
        · subst eB
          have m1' : may (bth g A i i) s i = false := by rw [m1]; simp
          have m2' : may (bth g i A A) s i = true := by rw [m2]; simp [eA]
          rw [goes_no m1', goes_yes m2', goes_yes hk, ways_ahead hn hg hB m _ (by omega) hlt (by rw [add_bit (may_out hk)]; simp)]; omega
        · have m1' : may (bth g A B B) s i = true := by rw [m1]; simp [eB]
          have m2' : may (bth g B A A) s i = true := by rw [m2]; simp [eA]
          rw [goes_yes m1', goes_yes m2', goes_yes hk]
          exact ways_either hn hg hA hB hAB m _ (by omega) hlt (by rw [add_bit (may_out hk), ha]; simp [eA]) (by rw [add_bit (may_out hk), hb]; simp [eB])

/-! How many rows there are at most. -/
def fct : Nat → Nat
  | 0 => 1
  | k + 1 => (k + 1) * fct k
theorem sumTo_out (s F : Nat) (n : Nat) : sumTo (fun i => if s.testBit i = true then 0 else F) n = miss n s * F := by
  unfold miss
  rw [← sumTo_mulr]
  exact sumTo_congr n fun k _ => by split <;> simp
theorem ways_fct {u : Nat → Nat} {n : Nat} : ∀ m s, pw n - s ≤ m → s < pw n → ways u n s ≤ fct (miss n s)
  | 0, s, h, hs => by omega
  | m + 1, s, h, hs => by
    by_cases e : s + 1 < pw n
    · rw [ways_eq e]
      rcases Nat.eq_zero_or_pos (miss n s) with hz | hz
      · have : sumTo (goes u n s) n ≤ sumTo (fun i => if s.testBit i = true then 0 else 0) n := sumTo_leq n fun k hk => by
          cases hm : may u s k
          · rw [goes_no hm]; exact Nat.zero_le _
          · have := miss_add (may_out hm) n hk; omega
        rw [sumTo_out] at this; omega
      · obtain ⟨q, hq⟩ : ∃ q, miss n s = q + 1 := ⟨miss n s - 1, by omega⟩
        have : sumTo (goes u n s) n ≤ sumTo (fun i => if s.testBit i = true then 0 else fct q) n := sumTo_leq n fun k hk => by
          cases hm : may u s k
          · rw [goes_no hm]; exact Nat.zero_le _
          · have hb := may_out hm
            have h1 := miss_add hb n hk
            have hp := pw_pos k
            have h2 := ways_fct (u := u) m (s + pw k) (by omega) (add_lt hs hk hb)
            rw [goes_yes hm, hb]
            rw [show miss n (s + pw k) = q by omega] at h2
            simpa using h2
        rw [sumTo_out, hq] at this
        rw [hq]; exact this
    · rw [show s = pw n - 1 by omega, ways_all]
      generalize miss n (pw n - 1) = q
      induction q with
      | zero => exact Nat.le_refl _
      | succ q ih => show 1 ≤ (q + 1) * fct q; exact Nat.mul_pos (by omega) ih
theorem fct_mono : ∀ {a b : Nat}, a ≤ b → fct a ≤ fct b := by
  intro a b h
  induction h with
  | refl => exact Nat.le_refl _
  | step _ ih =>
    refine Nat.le_trans ih ?_
    show fct _ ≤ (_ + 1) * fct _
    rw [Nat.add_mul, Nat.one_mul]; omega
theorem ways_most {u : Nat → Nat} {n : Nat} (hn : n ≤ 10) : ways u n 0 ≤ 3628800 :=
  Nat.le_trans (ways_fct _ 0 (Nat.le_refl _) (pw_pos n)) (Nat.le_trans (fct_mono (Nat.le_trans (miss_le n 0) hn)) (by decide))
end Go.Proofs.Ytdnpegjekckmgaa
