/-
  What the reference's Under and LeastOf, and hasselaw.filled answer. Conditions: as each theorem says.
-/
import Derived.Test.YtkcogfjlpbfckaaFillP
import Derived.Test.YtkcogfjlpbfckaaCutL
import Derived.Test.YtkcogfjlpbfckaaTbM
namespace Go.Proofs.Ytkcogfjlpbfckaa
open Go.RowKit

/-- Is x below y, or y? -/
def leB (m : Nat → Nat → Nat) (x y : Nat) : Bool := m x y == x
theorem int_beq' (a b : Nat) : (((a : Nat) : Int) == ((b : Nat) : Int)) = (a == b) := by
  rw [Bool.eq_iff_iff]; simp; omega
set_option maxHeartbeats 1000000 in
theorem under_any (n b1 o1 ca : Nat) (b2 : Option Addr) (lb cb : Nat) (R1 : Nat → Nat × Nat × Nat) (m : Nat → Nat → Nat) (x y : Nat) (w : World) (v : Bool) (hv : leB m x y = v) (ht1 : Tb w b1 o1 n R1 m) (hx : x < n) (hy : y < n) :
    Calls Try.prog 24 #[.agg #[.int .i64 (n : Int), .slice (some ⟨b1, o1, none⟩) n ca, .slice b2 lb cb], .int .i64 (x : Nat), .int .i64 (y : Nat)] w fun e w' => e = .returned (.bool v) ∧ Below w.heap.size w w' := by
  have B1 : Below w.heap.size w (w.alloc (.cells #[.int .i64 (n : Int), .slice (some ⟨b1, o1, none⟩) n ca, .slice b2 lb cb] 41)) := (Below.refl _ _).alloc (Nat.le_refl _) _
  have ht := ht1.step B1
  have HB : Hid (Below w.heap.size w (w.alloc (.cells #[.int .i64 (n : Int), .slice (some ⟨b1, o1, none⟩) n ca, .slice b2 lb cb] 41))) := B1
  have r1 := (ht x hx).1
  have r2 := (ht x hx).2 y hy
  have i1 : (x : Int) < (n : Int) := by omega
  have i2 : (y : Int) < (n : Int) := by omega
  have hq : (((m x y : Nat) : Int) == ((x : Nat) : Int)) = v := by rw [int_beq']; exact hv
  clear ht ht1 B1 hv
  go_enter Try.func24, Try.ntmps24
  go_wp2_with fail
  go_ret
  exact ⟨rfl, HB.out⟩

/-- The least, and the greatest, as they are found. -/
def lea (m : Nat → Nat → Nat) : Nat → Nat
  | 0 => 0
  | k + 1 => if leB m k (lea m k) = true then k else lea m k
def gre (m : Nat → Nat → Nat) : Nat → Nat
  | 0 => 0
  | k + 1 => if leB m (gre m k) k = true then k else gre m k
theorem lea_yes {m : Nat → Nat → Nat} {k : Nat} (h : leB m k (lea m k) = true) : lea m (k + 1) = k := by simp [lea, h]
theorem lea_no {m : Nat → Nat → Nat} {k : Nat} (h : leB m k (lea m k) = false) : lea m (k + 1) = lea m k := by simp [lea, h]
theorem gre_yes {m : Nat → Nat → Nat} {k : Nat} (h : leB m (gre m k) k = true) : gre m (k + 1) = k := by simp [gre, h]
theorem gre_no {m : Nat → Nat → Nat} {k : Nat} (h : leB m (gre m k) k = false) : gre m (k + 1) = gre m k := by simp [gre, h]
theorem lea_lt {m : Nat → Nat → Nat} {n : Nat} (h1 : 1 ≤ n) : ∀ k, k ≤ n → lea m k < n
  | 0, _ => h1
  | k + 1, hk => by
    cases h : leB m k (lea m k)
    · rw [lea_no h]; exact lea_lt h1 k (by omega)
    · rw [lea_yes h]; omega
theorem gre_lt {m : Nat → Nat → Nat} {n : Nat} (h1 : 1 ≤ n) : ∀ k, k ≤ n → gre m k < n
  | 0, _ => h1
  | k + 1, hk => by
    cases h : leB m (gre m k) k
    · rw [gre_no h]; exact gre_lt h1 k (by omega)
    · rw [gre_yes h]; omega
theorem lea_is {m : Nat → Nat → Nat} {n b : Nat} (h1 : 1 ≤ n) (hb : b < n) (hc : ∀ x y, x < n → y < n → m x y = m y x) (hl : ∀ x, x < n → m b x = b) : ∀ k, k ≤ n → b < k → lea m k = b
  | 0, _, h => absurd h (Nat.not_lt_zero _)
  | k + 1, hk, h => by
    by_cases e : b = k
    · subst e
      exact lea_yes (by simp [leB, hl _ (lea_lt h1 b (by omega))])
    · have ih := lea_is h1 hb hc hl k (by omega) (by omega)
      have : leB m k (lea m k) = false := by
        rw [ih]
        simp only [leB, beq_eq_false_iff_ne, ne_eq]
        rw [hc k b (by omega) hb, hl k (by omega)]
        exact e
      rw [lea_no this, ih]
theorem gre_is {m : Nat → Nat → Nat} {n b : Nat} (h1 : 1 ≤ n) (hb : b < n) (hc : ∀ x y, x < n → y < n → m x y = m y x) (hl : ∀ x, x < n → m x b = x) : ∀ k, k ≤ n → b < k → gre m k = b
  | 0, _, h => absurd h (Nat.not_lt_zero _)
  | k + 1, hk, h => by
    by_cases e : b = k
    · subst e
      exact gre_yes (by simp [leB, hl _ (gre_lt h1 b (by omega))])
    · have ih := gre_is h1 hb hc hl k (by omega) (by omega)
      have : leB m (gre m k) k = false := by
        rw [ih]
        simp only [leB, beq_eq_false_iff_ne, ne_eq]
        rw [hc b k hb (by omega), hl k (by omega)]
        exact fun q => e q.symm
      rw [gre_no this, ih]
set_option maxHeartbeats 2000000 in
theorem leastOf_any (n b1 o1 ca : Nat) (b2 : Option Addr) (lb cb : Nat) (R1 : Nat → Nat × Nat × Nat) (m : Nat → Nat → Nat) (w : World) (h1 : 1 ≤ n) (h40 : n ≤ 40) (ht1 : Tb w b1 o1 n R1 m) :
    Calls Try.prog 29 #[.agg #[.int .i64 (n : Int), .slice (some ⟨b1, o1, none⟩) n ca, .slice b2 lb cb]] w fun e w' => e = .returned (.tuple #[.int .i64 (lea m n : Nat), .int .i64 (gre m n : Nat)]) ∧ Below w.heap.size w w' := by
  obtain ⟨W, HWE⟩ : ∃ W, Hid (W = w.alloc (.cells #[.int .i64 (n : Int), .slice (some ⟨b1, o1, none⟩) n ca, .slice b2 lb cb] 41)) := ⟨_, rfl⟩
  have B1 : Below w.heap.size w W := by rw [HWE.out]; exact (Below.refl _ _).alloc (Nat.le_refl _) _
  have L0 : LB W w.heap.size (n : Int) (some ⟨b1, o1, none⟩) n ca b2 lb cb := by rw [HWE.out]; exact LB.new w _ _ _ _ _ _ _
  have HT1 : Hid (∀ wx, Below W.heap.size W wx → Tb wx b1 o1 n R1 m) := fun wx h => (ht1.step B1).step h
  have HL : Hid (∀ wx, Below W.heap.size W wx → LB wx w.heap.size (n : Int) (some ⟨b1, o1, none⟩) n ca b2 lb cb) := fun wx h => L0.step h
  have HB0 : Hid (Below w.heap.size w W) := B1
  have HLL : Hid (∀ k, k ≤ n → lea m k < n) := fun k hk => lea_lt h1 k hk
  have HGL : Hid (∀ k, k ≤ n → gre m k < n) := fun k hk => gre_lt h1 k hk
  clear ht1 B1 L0
  go_enter Try.func29, Try.ntmps29
  go_wp2_with fail
  rw [← HWE.out]
  go_wp2_with fail
  clear HWE
  go_loopw [4, 5, 6] (fun a b i wx => ∃ k : Nat, k ≤ n ∧ i = .int .i64 k ∧ a = .int .i64 (lea m k : Nat) ∧ b = .int .i64 (gre m k : Nat) ∧ Hid (Below W.heap.size W wx)) (fun _ _ i _ => n - (intOf i).toNat)
  case atStart => exact ⟨0, Nat.zero_le _, rfl, rfl, rfl, Below.refl _ _⟩
  case round =>
    obtain ⟨k, hk, rfl, rfl, rfl, HW⟩ := hrel
    have L1 := HL.out _ HW.out
    have l0 := L1.1
    by_cases hlt : k < n
    · have l1 := L1.2.1
      have l2 := L1.2.2
      have hla := HLL.out k hk
      have hgr := HGL.out k hk
      rcases h1b : leB m k (lea m k) with _ | _
      · rcases h2b : leB m (gre m k) k with _ | _
        · have HE1 : Hid (lea m (k + 1) = lea m k) := lea_no h1b
          have HE2 : Hid (gre m (k + 1) = gre m k) := gre_no h2b
          go_wp2_with fail
          refine (under_any n b1 o1 ca b2 lb cb R1 m k (lea m k) _ false h1b (HT1.out _ HW.out) hlt hla).mono ?_
          rintro e w1 ⟨rfl, hb1⟩
          have HW1 : Hid (Below W.heap.size W w1) := Below.then HW.out hb1
          have L2 := HL.out _ HW1.out
          have p0 := L2.1
          have p1 := L2.2.1
          have p2 := L2.2.2
          clear hb1 HW l0 l1 l2 L1 L2
          go_wp2_with fail
          refine (under_any n b1 o1 ca b2 lb cb R1 m (gre m k) k _ false h2b (HT1.out _ HW1.out) hgr hlt).mono ?_
          rintro e w2 ⟨rfl, hb2⟩
          have HW2 : Hid (Below W.heap.size W w2) := Below.then HW1.out hb2
          clear hb2 HW1 p0 p1 p2
          go_wp2_with fail
          go_roundw
          case rel => exact ⟨k + 1, by omega, by go_num, by rw [HE1.out], by rw [HE2.out], HW2⟩
          case measure => simp [intOf]; omega
        · have HE1 : Hid (lea m (k + 1) = lea m k) := lea_no h1b
          have HE2 : Hid (gre m (k + 1) = k) := gre_yes h2b
          go_wp2_with fail
          refine (under_any n b1 o1 ca b2 lb cb R1 m k (lea m k) _ false h1b (HT1.out _ HW.out) hlt hla).mono ?_
          rintro e w1 ⟨rfl, hb1⟩
          have HW1 : Hid (Below W.heap.size W w1) := Below.then HW.out hb1
          have L2 := HL.out _ HW1.out
          have p0 := L2.1
          have p1 := L2.2.1
          have p2 := L2.2.2
          clear hb1 HW l0 l1 l2 L1 L2
          go_wp2_with fail
          refine (under_any n b1 o1 ca b2 lb cb R1 m (gre m k) k _ true h2b (HT1.out _ HW1.out) hgr hlt).mono ?_
          rintro e w2 ⟨rfl, hb2⟩
          have HW2 : Hid (Below W.heap.size W w2) := Below.then HW1.out hb2
          clear hb2 HW1 p0 p1 p2
          go_wp2_with fail
          go_roundw
          case rel => exact ⟨k + 1, by omega, by go_num, by rw [HE1.out], by rw [HE2.out], HW2⟩
          case measure => simp [intOf]; omega
      · rcases h2b : leB m (gre m k) k with _ | _
        · have HE1 : Hid (lea m (k + 1) = k) := lea_yes h1b
          have HE2 : Hid (gre m (k + 1) = gre m k) := gre_no h2b
          go_wp2_with fail
          refine (under_any n b1 o1 ca b2 lb cb R1 m k (lea m k) _ true h1b (HT1.out _ HW.out) hlt hla).mono ?_
          rintro e w1 ⟨rfl, hb1⟩
          have HW1 : Hid (Below W.heap.size W w1) := Below.then HW.out hb1
          have L2 := HL.out _ HW1.out
          have p0 := L2.1
          have p1 := L2.2.1
          have p2 := L2.2.2
          clear hb1 HW l0 l1 l2 L1 L2
          go_wp2_with fail
          refine (under_any n b1 o1 ca b2 lb cb R1 m (gre m k) k _ false h2b (HT1.out _ HW1.out) hgr hlt).mono ?_
          rintro e w2 ⟨rfl, hb2⟩
          have HW2 : Hid (Below W.heap.size W w2) := Below.then HW1.out hb2
          clear hb2 HW1 p0 p1 p2
          go_wp2_with fail
          go_roundw
          case rel => exact ⟨k + 1, by omega, by go_num, by rw [HE1.out], by rw [HE2.out], HW2⟩
          case measure => simp [intOf]; omega
        · have HE1 : Hid (lea m (k + 1) = k) := lea_yes h1b
          have HE2 : Hid (gre m (k + 1) = k) := gre_yes h2b
          go_wp2_with fail
          refine (under_any n b1 o1 ca b2 lb cb R1 m k (lea m k) _ true h1b (HT1.out _ HW.out) hlt hla).mono ?_
          rintro e w1 ⟨rfl, hb1⟩
          have HW1 : Hid (Below W.heap.size W w1) := Below.then HW.out hb1
          have L2 := HL.out _ HW1.out
          have p0 := L2.1
          have p1 := L2.2.1
          have p2 := L2.2.2
          clear hb1 HW l0 l1 l2 L1 L2
          go_wp2_with fail
          refine (under_any n b1 o1 ca b2 lb cb R1 m (gre m k) k _ true h2b (HT1.out _ HW1.out) hgr hlt).mono ?_
          rintro e w2 ⟨rfl, hb2⟩
          have HW2 : Hid (Below W.heap.size W w2) := Below.then HW1.out hb2
          clear hb2 HW1 p0 p1 p2
          go_wp2_with fail
          go_roundw
          case rel => exact ⟨k + 1, by omega, by go_num, by rw [HE1.out], by rw [HE2.out], HW2⟩
          case measure => simp [intOf]; omega
    · obtain rfl : k = n := by omega
      clear L1
      go_wp2_with fail
      go_ret2
      exact ⟨rfl, Below.then HB0.out HW.out⟩
end Go.Proofs.Ytkcogfjlpbfckaa
