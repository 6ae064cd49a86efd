/-
  Plain facts on the first of four points of which something is so; what the reference's Less, Apart and hasselaw.numbersAre answer. Conditions: at most ten points.
-/
import Derived.Test.YtjhpegjcknaioaaDoorTz
import Derived.Test.YtjhpegjcknaioaaDoorSameN
namespace Go.Proofs.YtjhpegjcknaioaaDoor
open Go.RowKit

theorem ord_tr {n : Nat} {g : Nat → Nat} (hn : n ≤ 10) (hg : Sm n n g) (h : Ord n g) {a b c : Nat} (hb : b < n) (hc : c < n) (h1 : (g b).testBit a = true) (h2 : (g c).testBit b = true) : (g c).testBit a = true := by
  have hl := pw_le n hn
  have e := (h c hc).2 b hb h2
  exact (lack_zero _ _ (by have := hg b hb; omega) (by have := hg c hc; omega)).1 e a h1

theorem less_as (n : Int) (a : Option Addr) (len cap : Nat) (g : Nat → Nat) (i j : Nat) (b : Bool) (w : World) (hb : (g j).testBit i = b) (hl : len ≤ 10) (hg : ∀ k, k < len → g k < 1024) (hr : Row w a len (fun k => (g k : Nat))) (hi : i < 63) (hj : j < len) :
    Calls Tryd.prog 27 #[.agg #[.int .i64 n, .slice a len cap], .int .i64 i, .int .i64 j] w fun e w' => e = .returned (.bool b) ∧ Below w.heap.size w w' := by
  rw [← hb]; exact less_any n a len cap g i j w hl hg hr hi hj
/-- Is neither of two points below the other one? -/
def apB (g : Nat → Nat) (i k : Nat) : Bool := !(g k).testBit i && !(g i).testBit k
set_option maxHeartbeats 1000000 in
theorem apart_any (n : Nat) (a : Option Addr) (cap : Nat) (g : Nat → Nat) (i k : Nat) (w : World) (h10 : n ≤ 10) (hg : ∀ j, j < n → g j < 1024) (hr : Row w a n (fun k => (g k : Nat))) (hi : i < n) (hk : k < n) (hne : i ≠ k) :
    Calls Tryd.prog 30 #[.agg #[.int .i64 (n : Int), .slice a n cap], .int .i64 i, .int .i64 k] w fun e w' => e = .returned (.bool (apB g i k)) ∧ Below w.heap.size w w' := by
  have K0 : Held (w.alloc (.cells #[.int .i64 (n : Int), .slice a n cap] 24)) w.heap.size n a n cap (fun k => (g k : Nat)) := Held.box hr
  have HB0 : Hid (Below w.heap.size w (w.alloc (.cells #[.int .i64 (n : Int), .slice a n cap] 24))) := (Below.refl _ _).alloc (Nat.le_refl _) _
  have HG : Hid (∀ j, j < n → g j < 1024) := hg
  have hq : ((i : Int) != (k : Int)) = true := by simp; omega
  clear hr hg
  rcases (Bool.eq_false_or_eq_true ((g k).testBit i)).symm with hb1 | hb1
  · rcases (Bool.eq_false_or_eq_true ((g i).testBit k)).symm with hb2 | hb2
    · have HE : Hid (apB g i k = true) := by simp [apB, hb1, hb2, Hid]
      go_enter Tryd.func30, Tryd.ntmps30
      go_wp2_with fail
      refine (less_as n a n cap g i k false _ hb1 h10 HG.out K0.row (by omega) hk).mono ?_
      rintro e w1 ⟨rfl, h1⟩
      have K1 := K0.step h1
      have d0 := K1.c0
      have d1 := K1.c1
      have HB1 : Hid (Below w.heap.size w w1) := Below.then HB0.out h1
      clear h1 K0 HB0
      go_wp2_with fail
      refine (less_as n a n cap g k i false _ hb2 h10 HG.out K1.row (by omega) hi).mono ?_
      rintro e w2 ⟨rfl, h2⟩
      have HB2 : Hid (Below w.heap.size w w2) := Below.then HB1.out h2
      clear h2 K1 HB1
      go_wp2_with fail
      go_ret
      exact ⟨ret_bool HE.out.symm, HB2.out⟩
    · have HE : Hid (apB g i k = false) := by simp [apB, hb2, Hid]
      go_enter Tryd.func30, Tryd.ntmps30
      go_wp2_with fail
      refine (less_as n a n cap g i k false _ hb1 h10 HG.out K0.row (by omega) hk).mono ?_
      rintro e w1 ⟨rfl, h1⟩
      have K1 := K0.step h1
      have d0 := K1.c0
      have d1 := K1.c1
      have HB1 : Hid (Below w.heap.size w w1) := Below.then HB0.out h1
      clear h1 K0 HB0
      go_wp2_with fail
      refine (less_as n a n cap g k i true _ hb2 h10 HG.out K1.row (by omega) hi).mono ?_
      rintro e w2 ⟨rfl, h2⟩
      have HB2 : Hid (Below w.heap.size w w2) := Below.then HB1.out h2
      clear h2 K1 HB1
      go_wp2_with fail
      go_ret
      exact ⟨ret_bool HE.out.symm, HB2.out⟩
  · have HE : Hid (apB g i k = false) := by simp [apB, hb1, Hid]
    go_enter Tryd.func30, Tryd.ntmps30
    go_wp2_with fail
    refine (less_as n a n cap g i k true _ hb1 h10 HG.out K0.row (by omega) hk).mono ?_
    rintro e w1 ⟨rfl, h1⟩
    have HB1 : Hid (Below w.heap.size w w1) := Below.then HB0.out h1
    clear h1 K0 HB0
    go_wp2_with fail
    go_ret
    exact ⟨ret_bool HE.out.symm, HB1.out⟩

theorem apart_as (n : Nat) (a : Option Addr) (cap : Nat) (g : Nat → Nat) (i k : Nat) (b : Bool) (w : World) (hb : apB g i k = b) (h10 : n ≤ 10) (hg : ∀ j, j < n → g j < 1024) (hr : Row w a n (fun k => (g k : Nat))) (hi : i < n) (hk : k < n) (hne : i ≠ k) :
    Calls Tryd.prog 30 #[.agg #[.int .i64 (n : Int), .slice a n cap], .int .i64 i, .int .i64 k] w fun e w' => e = .returned (.bool b) ∧ Below w.heap.size w w' := by
  rw [← hb]; exact apart_any n a cap g i k w h10 hg hr hi hk hne

theorem numbersAre_any (c : Int) (l : List Nat) (v v' : Value) (w : World) (hl : l.length ≤ maxLen) (h1 : (c ≠ 0 ∧ v = .slice none 0 0 ∧ v' = .slice none 0 0) ∨ (c = 0 ∧ NSl w v l ∧ NSl w v' l)) :
    Calls Tryd.prog 18 #[v, .int .i64 c, .int .i64 c, v'] w fun e w' => e = .returned (.bool true) ∧ Below w.heap.size w w' := by
  rcases h1 with ⟨h0, rfl, rfl⟩ | ⟨rfl, ⟨a, ca, rfl, hr⟩, ⟨b, cb, rfl, hr'⟩⟩
  · have hne : (c != 0) = true := by simpa using h0
    go_enter Tryd.func18, Tryd.ntmps18
    go_wp2_with fail
    refine (same_any none none 0 0 0 0 (fun _ => 0) (fun _ => 0) _ (by unfold maxLen; omega) (by unfold maxLen; omega) (fun k hk => absurd hk (Nat.not_lt_zero _)) (fun k hk => absurd hk (Nat.not_lt_zero _))).mono ?_
    rintro e w1 ⟨⟨q, rfl, hq⟩, hB⟩
    obtain rfl : q = true := hq.2 ⟨rfl, fun _ _ => rfl⟩
    have HB : Hid (Below w.heap.size w w1) := hB
    clear hq hB
    go_wp2_with fail
    go_ret
    exact ⟨rfl, HB.out⟩
  · generalize l.length = m at *
    have HA : Hid (Row w a m (fun k => (nth l k : Nat))) := hr
    have HB' : Hid (Row w b m (fun k => (nth l k : Nat))) := hr'
    clear hr hr'
    go_enter Tryd.func18, Tryd.ntmps18
    go_wp2_with fail
    refine (same_any a b m ca m cb (fun k => (nth l k : Nat)) (fun k => (nth l k : Nat)) _ hl hl HA.out HB'.out).mono ?_
    rintro e w1 ⟨⟨q, rfl, hq⟩, hB⟩
    obtain rfl : q = true := hq.2 ⟨rfl, fun _ _ => rfl⟩
    have HB : Hid (Below w.heap.size w w1) := hB
    clear hq hB
    go_wp2_with fail
    go_ret
    exact ⟨rfl, HB.out⟩

theorem NSl.below {w w' : World} {v : Value} {l : List Nat} (h : NSl w v l) (hb : Below w.heap.size w w') : NSl w' v l := by
  obtain ⟨a, cap, rfl, hr⟩ := h
  exact ⟨a, cap, rfl, hr.below hb⟩

/-- The number of four points. -/
def idx (n a b c d : Nat) : Nat := ((a * n + b) * n + c) * n + d
/-- Something, asked of the four points with number k. -/
def P4 (n : Nat) (P : Nat → Nat → Nat → Nat → Bool) (k : Nat) : Bool := P (k / n / n / n) (k / n / n % n) (k / n % n) (k % n)
theorem div_of {X n d : Nat} (h : d < n) : (X * n + d) / n = X := by
  rw [Nat.mul_comm, Nat.mul_add_div (by omega), Nat.div_eq_of_lt h, Nat.add_zero]
theorem mod_of {X n d : Nat} (h : d < n) : (X * n + d) % n = d := by
  rw [Nat.mul_comm, Nat.mul_add_mod, Nat.mod_eq_of_lt h]
theorem idx_dig {n a b c d : Nat} (hb : b < n) (hc : c < n) (hd : d < n) : idx n a b c d / n / n / n = a ∧ idx n a b c d / n / n % n = b ∧ idx n a b c d / n % n = c ∧ idx n a b c d % n = d := by
  unfold idx
  rw [div_of hd, div_of hc, div_of hb, mod_of hb, mod_of hc, mod_of hd]
  exact ⟨rfl, rfl, rfl, rfl⟩
theorem P4_idx {n a b c d : Nat} (P : Nat → Nat → Nat → Nat → Bool) (hb : b < n) (hc : c < n) (hd : d < n) : P4 n P (idx n a b c d) = P a b c d := by
  obtain ⟨h1, h2, h3, h4⟩ := idx_dig (a := a) hb hc hd
  unfold P4; rw [h1, h2, h3, h4]
theorem idx_d (n a b c : Nat) : idx n a b c n = idx n a b (c + 1) 0 := by
  simp only [idx, Nat.add_mul, Nat.one_mul, Nat.add_zero, Nat.add_assoc]
theorem idx_c (n a b : Nat) : idx n a b n 0 = idx n a (b + 1) 0 0 := by
  simp only [idx, Nat.add_mul, Nat.one_mul, Nat.add_zero, Nat.add_assoc]
theorem idx_b (n a : Nat) : idx n a n 0 0 = idx n (a + 1) 0 0 0 := by
  simp only [idx, Nat.add_mul, Nat.one_mul, Nat.add_zero]
theorem idx_a (n : Nat) : idx n n 0 0 0 = n * n * n * n := by simp [idx]
/-- Not so of any of the first t. -/
def Upto (n : Nat) (P : Nat → Nat → Nat → Nat → Bool) (t : Nat) : Prop := ∀ j, j < t → P4 n P j = false
theorem Upto.zero (n : Nat) (P : Nat → Nat → Nat → Nat → Bool) : Upto n P 0 := fun _ hj => absurd hj (Nat.not_lt_zero _)
theorem Upto.next {n t : Nat} {P : Nat → Nat → Nat → Nat → Bool} (h : Upto n P t) (h1 : P4 n P t = false) : Upto n P (t + 1) := fun j hj => by
  by_cases e : j = t
  · subst e; exact h1
  · exact h j (by omega)
/-- The first four points of which it is so; or there are none. -/
def First (n : Nat) (P : Nat → Nat → Nat → Nat → Bool) (l : List Nat) (ok : Bool) : Prop :=
  (ok = true ∧ ∃ k, k < n * n * n * n ∧ P4 n P k = true ∧ Upto n P k ∧ l = [k / n / n / n, k / n / n % n, k / n % n, k % n]) ∨ (ok = false ∧ l = [] ∧ Upto n P (n * n * n * n))
theorem First.one {n : Nat} {P : Nat → Nat → Nat → Nat → Bool} {l l' : List Nat} {ok ok' : Bool} (h : First n P l ok) (h' : First n P l' ok') : l = l' ∧ ok = ok' := by
  rcases h with ⟨rfl, k, hk, hp, hu, rfl⟩ | ⟨rfl, rfl, hu⟩ <;> rcases h' with ⟨rfl, k', hk', hp', hu', rfl⟩ | ⟨rfl, rfl, hu'⟩
  · have : k = k' := by
      rcases Nat.lt_trichotomy k k' with h | h | h
      · have := hu' k h; rw [hp] at this; cases this
      · exact h
      · have := hu k' h; rw [hp'] at this; cases this
    subst this; exact ⟨rfl, rfl⟩
  · have := hu' k hk; rw [hp] at this; cases this
  · have := hu k' hk'; rw [hp'] at this; cases this
  · exact ⟨rfl, rfl⟩
theorem dig_lt {n k : Nat} (hn : 0 < n) (hk : k < n * n * n * n) : k / n / n / n < n ∧ k / n / n % n < n ∧ k / n % n < n ∧ k % n < n := by
  refine ⟨?_, Nat.mod_lt _ hn, Nat.mod_lt _ hn, Nat.mod_lt _ hn⟩
  refine Nat.div_lt_of_lt_mul (Nat.div_lt_of_lt_mul (Nat.div_lt_of_lt_mul ?_))
  have e : n * (n * (n * n)) = n * n * n * n := by simp only [Nat.mul_assoc]
  rw [e]; exact hk
theorem First.congr {n : Nat} {P Q : Nat → Nat → Nat → Nat → Bool} (h : ∀ a b c d, a < n → b < n → c < n → d < n → P a b c d = Q a b c d) {l : List Nat} {ok : Bool} (hf : First n P l ok) : First n Q l ok := by
  have e : ∀ k, k < n * n * n * n → P4 n P k = P4 n Q k := fun k hk => by
    have hn : 0 < n := by
      rcases Nat.eq_zero_or_pos n with h0 | h0
      · subst h0; simp at hk
      · exact h0
    obtain ⟨h1, h2, h3, h4⟩ := dig_lt hn hk
    exact h _ _ _ _ h1 h2 h3 h4
  rcases hf with ⟨rfl, k, hk, hp, hu, rfl⟩ | ⟨rfl, rfl, hu⟩
  · exact .inl ⟨rfl, k, hk, (e k hk) ▸ hp, fun j hj => (e j (by omega)) ▸ hu j hj, rfl⟩
  · exact .inr ⟨rfl, rfl, fun j hj => (e j hj) ▸ hu j hj⟩
theorem idx_lt {n a b c d : Nat} (ha : a < n) (hb : b < n) (hc : c < n) (hd : d < n) : idx n a b c d < n * n * n * n := by
  have h1 : a * n + b + 1 ≤ n * n := by
    have := Nat.mul_le_mul_right n (show a + 1 ≤ n from ha)
    rw [Nat.add_mul, Nat.one_mul] at this; omega
  have h2 : (a * n + b) * n + c + 1 ≤ n * n * n := by
    have := Nat.mul_le_mul_right n h1
    rw [Nat.add_mul, Nat.one_mul] at this; omega
  have h3 := Nat.mul_le_mul_right n h2
  rw [Nat.add_mul, Nat.one_mul] at h3
  unfold idx; omega

/-- Two chains that know nothing of one another; three in a chain, and one apart. -/
def twoP (g : Nat → Nat) (a b c d : Nat) : Bool := (g b).testBit a && (g d).testBit c && !(g d).testBit a && !(g b).testBit c
def threeP (g : Nat → Nat) (a b c d : Nat) : Bool := (g b).testBit a && (g c).testBit b && apB g d a && apB g d b && apB g d c
/-- Four different points. -/
def diff (a b c d : Nat) : Bool := !(a == b) && !(a == c) && !(a == d) && !(b == c) && !(b == d) && !(c == d)
theorem diff_of {a b c d : Nat} (h1 : a ≠ b) (h2 : a ≠ c) (h3 : a ≠ d) (h4 : b ≠ c) (h5 : b ≠ d) (h6 : c ≠ d) : diff a b c d = true := by simp [diff, h1, h2, h3, h4, h5, h6]
theorem two_diff {n : Nat} {g : Nat → Nat} (hn : n ≤ 10) (hg : Sm n n g) (ho : Ord n g) {a b c d : Nat} (ha : a < n) (hb : b < n) (hc : c < n) (hd : d < n) (h : twoP g a b c d = true) : diff a b c d = true := by
  simp only [twoP, Bool.and_eq_true, Bool.not_eq_true'] at h
  obtain ⟨⟨⟨h1, h2⟩, h3⟩, h4⟩ := h
  refine diff_of ?_ ?_ ?_ ?_ ?_ ?_
  · rintro rfl; rw [(ho a ha).1] at h1; cases h1
  · rintro rfl; rw [h1] at h4; cases h4
  · rintro rfl; have := ord_tr hn hg ho ha hb h2 h1; rw [this] at h4; cases h4
  · rintro rfl; have := ord_tr hn hg ho hb hd h1 h2; rw [this] at h3; cases h3
  · rintro rfl; rw [h1] at h3; cases h3
  · rintro rfl; rw [(ho c hc).1] at h2; cases h2
theorem three_diff {n : Nat} {g : Nat → Nat} (hn : n ≤ 10) (hg : Sm n n g) (ho : Ord n g) {a b c d : Nat} (ha : a < n) (hb : b < n) (hc : c < n) (h : threeP g a b c d = true) : diff a b c d = true := by
  simp only [threeP, apB, Bool.and_eq_true, Bool.not_eq_true'] at h
  obtain ⟨⟨⟨⟨h1, h2⟩, h3, h4⟩, h5, h6⟩, h7, h8⟩ := h
  have h9 := ord_tr hn hg ho hb hc h1 h2
  refine diff_of ?_ ?_ ?_ ?_ ?_ ?_
  · rintro rfl; rw [(ho a ha).1] at h1; cases h1
  · rintro rfl; rw [(ho a ha).1] at h9; cases h9
  · rintro rfl; rw [h1] at h5; cases h5
  · rintro rfl; rw [(ho b hb).1] at h2; cases h2
  · rintro rfl; rw [h1] at h4; cases h4
  · rintro rfl; rw [h2] at h6; cases h6
end Go.Proofs.YtjhpegjcknaioaaDoor
