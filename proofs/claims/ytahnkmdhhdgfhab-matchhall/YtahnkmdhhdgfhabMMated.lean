/-
  What the law's mated answers: is it a matching of that many pairs? Conditions: a graph of at most ten points on either side that lies in a slice of numbers.
-/
import Derived.Test.YtahnkmdhhdgfhabMKoenM
namespace Go.Proofs.Ytahnkmdhhdgfhab
open Go.RowKit

/-- Those on the right who go with one of the first k. -/
def sn (f : Nat → Int) : Nat → Nat
  | 0 => 0
  | k + 1 => if f k = -1 then sn f k else sn f k + pw (f k).toNat
theorem sn_no {f : Nat → Int} {k : Nat} (h : f k = -1) : sn f (k + 1) = sn f k := by simp [sn, h]
theorem sn_yes {f : Nat → Int} {k j : Nat} (h : f k = j) : sn f (k + 1) = sn f k + pw j := by
  have h1 : ¬ ((j : Int) = -1) := by omega
  simp [sn, h, h1]
theorem sn_bit {t : Nat → Nat} {r : Nat} {f : Nat → Int} : ∀ k, (∀ i, i < k → MOKat t r f i) → ∀ x, (sn f k).testBit x = true ↔ ∃ i, i < k ∧ f i = (x : Nat)
  | 0, _, x => by simp [sn]
  | k + 1, h, x => by
    have ih := sn_bit k (fun i hi => h i (by omega))
    rcases h k (by omega) with h1 | ⟨j, _, hj, _, hn⟩
    · rw [sn_no h1, ih]
      constructor
      · rintro ⟨i, hi, e⟩; exact ⟨i, by omega, e⟩
      · rintro ⟨i, hi, e⟩
        refine ⟨i, ?_, e⟩
        have : i ≠ k := fun e2 => by rw [e2, h1] at e; omega
        omega
    · have hfree : (sn f k).testBit j = false := by
        cases hb : (sn f k).testBit j
        · rfl
        · obtain ⟨i, hi, e⟩ := (ih j).1 hb
          exact absurd e (hn i hi)
      rw [sn_yes hj, ← or_free hfree]
      by_cases e : x = j
      · subst e
        rw [or_self]
        exact ⟨fun _ => ⟨k, by omega, hj⟩, fun _ => rfl⟩
      · rw [or_other e, ih]
        constructor
        · rintro ⟨i, hi, e2⟩; exact ⟨i, by omega, e2⟩
        · rintro ⟨i, hi, e2⟩
          refine ⟨i, ?_, e2⟩
          have : i ≠ k := fun e3 => by rw [e3, hj] at e2; omega
          omega
theorem sn_lt {t : Nat → Nat} {r : Nat} {f : Nat → Int} (k : Nat) (h : ∀ i, i < k → MOKat t r f i) : sn f k < pw r := by
  refine Nat.lt_of_not_le fun hc => ?_
  obtain ⟨x, hx, hb⟩ : ∃ x, r ≤ x ∧ (sn f k).testBit x = true := by
    obtain ⟨i, hi, hb⟩ := Nat.exists_ge_and_testBit_of_ge_two_pow (show (sn f k) ≥ 2 ^ r from hc)
    exact ⟨i, hi, hb⟩
  obtain ⟨i, hi, e⟩ := (sn_bit k h x).1 hb
  rcases h i hi with h1 | ⟨j, hj, hfj, _⟩
  · rw [e] at h1; omega
  · rw [hfj] at e; omega
/-- A matching of just so many pairs. -/
def Mtd (t : Nat → Nat) (l r len : Nat) (f : Nat → Int) (P : Int) : Prop := len = l ∧ MOK t l r f ∧ (cntM f l : Int) = P

set_option maxHeartbeats 2000000 in
theorem mated_any (l r : Nat) (a : Option Addr) (cap : Nat) (t : Nat → Nat) (al : Option Addr) (len capl : Nat) (f : Nat → Int) (P : Int) (w : World) (hl : l ≤ 10) (hr10 : r ≤ 10) (ht : Sm r l t) (hr : Row w a l (fun k => (t k : Nat))) (hll : len ≤ maxLen) (hf : Row w al len f) :
    Calls Try.prog 8 #[.agg #[.int .i64 (l : Int), .int .i64 (r : Int), .slice a l cap], .slice al len capl, .int .i64 P] w fun e w' => Ans e (Mtd t l r len f P) ∧ Below w.heap.size w w' := by
  unfold maxLen at hll
  have HB0 : Hid (Below w.heap.size w (w.alloc (.cells #[.int .i64 (l : Int), .int .i64 (r : Int), .slice a l cap] 24))) := (Below.refl _ _).alloc (Nat.le_refl _) _
  have K0 : GHeld (w.alloc (.cells #[.int .i64 (l : Int), .int .i64 (r : Int), .slice a l cap] 24)) w.heap.size l r a l cap (fun k => (t k : Nat)) := GHeld.box hr
  have R0 : Hid (Row (w.alloc (.cells #[.int .i64 (l : Int), .int .i64 (r : Int), .slice a l cap] 24)) al len f) := hf.below HB0.out
  clear hr hf
  by_cases hlen : len = l
  · subst hlen
    have HT : Hid (∀ k, k < len → t k < 1024) := fun k hk => Nat.lt_of_lt_of_le (ht k hk) (pw_le r hr10)
    have hpr := pw_le r hr10
    clear ht
    go_enter Try.func8, Try.ntmps8
    go_wp2_with fail
    have HE0 : Hid ((∀ i, i < 0 → MOKat t r f i)) := fun i hi => absurd hi (Nat.not_lt_zero _)
    go_loopw [7, 8, 9] (fun x y i wx => ∃ k : Nat, k ≤ len ∧ i = .int .i64 k ∧ x = .int .i64 (cntM f k : Nat) ∧ y = .int .i64 (sn f k : Nat) ∧ Hid (∀ i, i < k → MOKat t r f i) ∧ GHeld wx w.heap.size len r a len cap (fun k => (t k : Nat)) ∧ Hid (Row wx al len f) ∧ Hid (Below w.heap.size w wx)) (fun _ _ i _ => len - (intOf i).toNat)
    case atStart => exact ⟨0, Nat.zero_le _, rfl, rfl, rfl, HE0.out, K0, R0.out, HB0.out⟩
    case round =>
      clear K0 R0 HB0 HE0
      obtain ⟨k, hk, rfl, rfl, rfl, HOK, hH, HR, HB⟩ := hrel
      have c1 := hH.c1
      have c2 := hH.c2
      have hcl := cnt2_le (goB f) k
      have hsl := sn_lt k HOK.out
      by_cases hkl : k < len
      · have hlk : (k : Int) < (len : Int) := by omega
        obtain ⟨b, off, rfl, hcc⟩ := HR.out.at hkl
        have hck := hcc k hkl
        obtain ⟨b2, off2, rfl, hc2⟩ := hH.row.at hkl
        have htk := hc2 k hkl
        have ht1 := HT.out k hkl
        clear hcc hc2
        by_cases h1 : f k = -1
        · have hz : (f k == -1) = true := by rw [h1]; rfl
          have HC1 : Hid (cntM f (k + 1) = cntM f k) := cnt2_no (by simp [goB, h1])
          have HS1 : Hid (sn f (k + 1) = sn f k) := sn_no h1
          have HO1 : Hid (∀ i, i < k + 1 → MOKat t r f i) := upto_succ HOK.out (.inl h1)
          clear h1
          generalize cntM f k = CM at *
          generalize sn f k = SM at *
          go_wp2_with fail
          go_roundw
          case rel => exact ⟨k + 1, by omega, by go_num, by rw [HC1.out], by rw [HS1.out], HO1.out, hH, HR.out, HB.out⟩
          case measure => simp [intOf]; omega
        · have hz : (f k == -1) = false := by simpa using h1
          have HBAD : Hid (¬ MOKat t r f k → ¬ Mtd t len r len f P) := fun h hm => h (hm.2.1 k hkl)
          have HSB : Hid (∀ x, (sn f k).testBit x = true ↔ ∃ i, i < k ∧ f i = (x : Nat)) := sn_bit k HOK.out
          generalize hSM : sn f k = SM at *
          have HSM : Hid (sn f k = SM) := hSM
          clear hSM
          by_cases h2 : f k < 0
          · have hd : decide (f k < 0) = true := by simpa using h2
            have HNO : Hid (¬ Mtd t len r len f P) := HBAD.out (fun h => by
              rcases h with h | ⟨j, _, e, _⟩
              · exact h1 h
              · omega)
            clear h1
            go_wp2
            go_quiet (fail)
            go_wp2
            go_ret
            exact ⟨Ans.no HNO.out, below_drewN HB.out _⟩
          · have hd : decide (f k < 0) = false := by simpa using h2
            by_cases h3 : (r : Int) ≤ f k
            · have hd2 : decide ((r : Int) ≤ f k) = true := by simpa using h3
              have HNO : Hid (¬ Mtd t len r len f P) := HBAD.out (fun h => by
                rcases h with h | ⟨j, hj, e, _⟩
                · exact h1 h
                · omega)
              clear h1
              go_wp2
              go_quiet (fail)
              go_wp2
              go_ret
              exact ⟨Ans.no HNO.out, below_drewN HB.out _⟩
            · obtain ⟨j, hj⟩ := Int.eq_ofNat_of_zero_le (show 0 ≤ f k by omega)
              have hjr : j < r := by omega
              have HJ : Hid (f k = (j : Int)) := hj
              rw [hj] at hck hd hz
              have hd2 : decide ((r : Int) ≤ (j : Int)) = false := by simp; omega
              clear h1 h2 h3 hj
              rcases (Bool.eq_false_or_eq_true ((t k).testBit j)).symm with hb1 | hb1
              · have HNO : Hid (¬ Mtd t len r len f P) := HBAD.out (fun h => by
                  rcases h with h | ⟨j', _, e, hb, _⟩
                  · rw [HJ.out] at h; omega
                  · have : j' = j := by rw [HJ.out] at e; omega
                    rw [this, hb1] at hb; cases hb)
                go_wp2
                go_quiet ((go_at_call_of 17 (Value.int IntKind.i64 ((t k : Nat) : Int)); exact Calls.quiet_of_same (in_as _ _ _ _ hb1 (by omega) (by omega))))
                go_wp2
                go_ret
                exact ⟨Ans.no HNO.out, below_drewN HB.out _⟩
              · rcases (Bool.eq_false_or_eq_true (SM.testBit j)) with hb2 | hb2
                · have HNO : Hid (¬ Mtd t len r len f P) := HBAD.out (fun h => by
                    obtain ⟨i, hi, ei⟩ := (HSB.out j).1 hb2
                    rcases h with h | ⟨j', _, e, _, hn⟩
                    · rw [HJ.out] at h; omega
                    · have : j' = j := by rw [HJ.out] at e; omega
                      rw [this] at hn
                      exact hn i hi ei)
                  go_wp2
                  go_quiet ((first | (go_at_call_of 17 (Value.int IntKind.i64 ((t k : Nat) : Int)); exact Calls.quiet_of_same (in_as _ _ _ _ hb1 (by omega) (by omega))) | (go_at_call_of 17 (Value.int IntKind.i64 ((SM : Nat) : Int)); exact Calls.quiet_of_same (in_as _ _ _ _ hb2 (by omega) (by omega)))))
                  go_wp2
                  go_ret
                  exact ⟨Ans.no HNO.out, below_drewN HB.out _⟩
                · have HO1 : Hid (∀ i, i < k + 1 → MOKat t r f i) := upto_succ HOK.out (.inr ⟨j, hjr, HJ.out, hb1, fun i hi ei => by
                    have := (HSB.out j).2 ⟨i, hi, ei⟩
                    rw [hb2] at this; cases this⟩)
                  have HC1 : Hid (cntM f (k + 1) = cntM f k + 1) := cnt2_yes (by
                    have : ¬ ((j : Int) = -1) := by omega
                    simp [goB, HJ.out, this])
                  have HS1 : Hid (sn f (k + 1) = SM + pw j) := by rw [← HSM.out]; exact sn_yes HJ.out
                  have hpj : pw j < 1024 := Nat.lt_of_lt_of_le (Nat.pow_lt_pow_right (by decide) hjr) hpr
                  have hcl2 : cntM f k ≤ k := hcl
                  clear hcl HSB HBAD
                  generalize cntM f k = CM at *
                  go_wp2
                  go_quiet ((first | (go_at_call_of 17 (Value.int IntKind.i64 ((t k : Nat) : Int)); exact Calls.quiet_of_same (in_as _ _ _ _ hb1 (by omega) (by omega))) | (go_at_call_of 17 (Value.int IntKind.i64 ((SM : Nat) : Int)); exact Calls.quiet_of_same (in_as _ _ _ _ hb2 (by omega) (by omega)))))
                  have e1 : (wr.drewN nq).cell? ⟨b, off + k, none⟩ = some (.int .i64 (j : Int)) := hck
                  have HH2 : Hid (GHeld (wr.drewN nq) w.heap.size len r (some ⟨b2, off2, none⟩) len cap (fun k => (t k : Nat))) := hH.step (below_drewN (Below.refl _ _) _)
                  have HR2 : Hid (Row (wr.drewN nq) (some ⟨b, off, none⟩) len f) := HR.out
                  have HB2 : Hid (Below w.heap.size w (wr.drewN nq)) := below_drewN HB.out _
                  clear hH HR HB hck htk c1 c2 hd hd2 hz
                  generalize wr.drewN nq = W2 at *
                  go_wp2_with (go_at_call 18; refine (bit_any j _ (by omega)).mono ?_; rintro e w' ⟨rfl, rfl⟩)
                  go_roundw
                  case rel => exact ⟨k + 1, by omega, by go_num, by rw [HC1.out]; go_num, by rw [HS1.out]; go_num, HO1.out, HH2.out, HR2.out, HB2.out⟩
                  case measure => simp [intOf]; omega
      · have hkn : k = len := by omega
        have HO1 : Hid (MOK t len r f) := fun i hi => HOK.out i (by omega)
        have HC1 : Hid (cntM f k = cntM f len) := by rw [hkn]; exact rfl
        rw [HC1.out]
        have hge : (len : Int) ≤ (k : Int) := by omega
        clear hkn HC1 hcl
        by_cases hp : (cntM f len : Int) = P
        · have hq : (((cntM f len : Nat) : Int) == P) = true := by simpa using hp
          go_wp2_with fail
          go_ret
          exact ⟨Ans.yes ⟨rfl, HO1.out, hp⟩, HB.out⟩
        · have hq : (((cntM f len : Nat) : Int) == P) = false := by simpa using hp
          go_wp2_with fail
          go_ret
          exact ⟨Ans.no (fun h => hp h.2.2), HB.out⟩
  · have hne : ((len : Int) != (l : Int)) = true := by simp; omega
    go_enter Try.func8, Try.ntmps8
    go_wp2
    go_ret
    exact ⟨Ans.no (fun h => hlen h.1), HB0.out⟩
end Go.Proofs.Ytahnkmdhhdgfhab
