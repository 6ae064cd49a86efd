/-
  STANLEY: what is undone of lists of ideals is, but for a sign, lists that go up by points of which none is below another one. Plain facts: no Go text here. Conditions: an order of at most ten points.
  hasselaw.PolyStanley returns true for every order and number. Conditions: a slice reads as a slice of numbers; the table of the least bits; a number as int holds it.
-/
import Derived.Test.YtncjlfhgenmheaaDoorExpM
namespace Go.Proofs.YtncjlfhgenmheaaDoor
open Go.RowKit

theorem sumI_one {F : Nat → Int} {j : Nat} : ∀ n, j < n → (∀ k, k < n → k ≠ j → F k = 0) → sumI F n = F j
  | 0, h, _ => absurd h (Nat.not_lt_zero _)
  | n + 1, h, hz => by
    rw [sumI]
    by_cases e : j = n
    · subst e
      rw [sumI_congr (G := fun _ => 0) j fun k hk => hz k (by omega) (by omega), sumI_zero]; omega
    · rw [sumI_one n (by omega) fun k hk he => hz k (by omega) he, hz n (by omega) (fun e' => e e'.symm)]; omega
theorem sumI_split (F : Nat → Int) (a : Nat) : ∀ b, sumI F (a + b) = sumI F a + sumI (fun k => F (a + k)) b
  | 0 => by simp [sumI]
  | b + 1 => by rw [← Nat.add_assoc, sumI, sumI, sumI_split F a b]; omega
theorem toggleI (u : Nat) : ∀ n, u < n → ∀ f : Nat → Int, sumI (fun S => if S.testBit u = true then f S else 0) (pw n) = sumI (fun S => if S.testBit u = true then 0 else f (pw u + S)) (pw n)
  | 0, h, _ => absurd h (Nat.not_lt_zero _)
  | n + 1, h, f => by
    rw [show pw (n + 1) = pw n + pw n by rw [pw_succ]; omega, sumI_split, sumI_split]
    by_cases e : u = n
    · subst e
      have a1 : sumI (fun S => if S.testBit u = true then f S else 0) (pw u) = 0 :=
        (sumI_congr _ fun S hS => by simp [bit_none hS]).trans (sumI_zero _)
      have a2 : sumI (fun S => if (pw u + S).testBit u = true then 0 else f (pw u + (pw u + S))) (pw u) = 0 :=
        (sumI_congr _ fun S hS => by simp [pw_add_bit_eq hS]).trans (sumI_zero _)
      have a3 : sumI (fun S => if (pw u + S).testBit u = true then f (pw u + S) else 0) (pw u) = sumI (fun S => if S.testBit u = true then 0 else f (pw u + S)) (pw u) :=
        sumI_congr _ fun S hS => by simp [pw_add_bit_eq hS, bit_none hS]
      rw [a1, a2, a3]; omega
    · have hu : u < n := by omega
      rw [toggleI u n hu f]
      have b := toggleI u n hu (fun S => f (pw n + S))
      have b1 : sumI (fun S => if (pw n + S).testBit u = true then f (pw n + S) else 0) (pw n) = sumI (fun S => if S.testBit u = true then f (pw n + S) else 0) (pw n) :=
        sumI_congr _ fun S hS => by simp only [pw_add_bit_lt hS hu]
      have b2 : sumI (fun S => if (pw n + S).testBit u = true then 0 else f (pw u + (pw n + S))) (pw n) = sumI (fun S => if S.testBit u = true then 0 else f (pw n + (pw u + S))) (pw n) :=
        sumI_congr _ fun S hS => by
          simp only [pw_add_bit_lt hS hu]
          rw [show pw u + (pw n + S) = pw n + (pw u + S) by omega]
      rw [b1, b2, b]
/-- What changes its sign with a point comes to nought. -/
theorem toggle_none {n u : Nat} (hu : u < n) {f : Nat → Int} (h : ∀ S, S < pw n → S.testBit u = false → f (pw u + S) = - f S) : sumI f (pw n) = 0 := by
  have e1 : sumI f (pw n) = sumI (fun S => if S.testBit u = true then f S else 0) (pw n) + sumI (fun S => if S.testBit u = true then 0 else f S) (pw n) := by
    rw [← sumI_add]
    exact sumI_congr _ fun S _ => by split <;> omega
  have e2 : sumI (fun S => if S.testBit u = true then 0 else f (pw u + S)) (pw n) = sumI (fun S => -1 * (if S.testBit u = true then 0 else f S)) (pw n) :=
    sumI_congr _ fun S hS => by
      cases hb : S.testBit u
      · simp [h S hS hb]
      · simp
  rw [e1, toggleI u n hu, e2, sumI_mul]; omega
/-- A sign for each point. -/
def sgP (p : Nat) : Int := if p % 2 = 1 then -1 else 1
theorem sgP_succ (p : Nat) : sgP (p + 1) = - sgP p := by
  unfold sgP
  rcases Nat.mod_two_eq_zero_or_one p with h | h
  · rw [if_pos (by omega), if_neg (by omega)]
  · rw [if_neg (by omega), if_pos h]; rfl
theorem sgP_sq (p : Nat) : sgP p * sgP p = 1 := by unfold sgP; split <;> decide
theorem sub_iff {x y n : Nat} (hn : n ≤ 10) (hx : x < pw n) (hy : y < pw n) : lack x y = 0 ↔ ∀ i, x.testBit i = true → y.testBit i = true := by
  have := pw_le n hn
  exact lack_zero x y (by omega) (by omega)
theorem lack_in {x y n : Nat} (hn : n ≤ 10) (hx : x < pw n) (hy : y < pw n) (i : Nat) : (lack x y).testBit i = (x.testBit i && !y.testBit i) := by
  have := pw_le n hn
  exact lack_bit x y i (by omega) (by omega)
/-- Between two ideals, and more than the first by points of which none is below another one. -/
def pB (g : Nat → Nat) (n A B T : Nat) : Bool := idlTo g T n && decide (lack T B = 0) && decide (lack A T = 0) && antB g n (lack T A)
theorem pB_iff {g : Nat → Nat} {n A B T : Nat} (hn : n ≤ 10) (hg : ∀ k, k < n → g k < pw n) (hA : A < pw n) (hB : B < pw n) (hT : T < pw n) : pB g n A B T = true ↔
    (∀ p, p < n → T.testBit p = true → ∀ i, (g p).testBit i = true → T.testBit i = true) ∧ (∀ i, T.testBit i = true → B.testBit i = true) ∧ (∀ i, A.testBit i = true → T.testBit i = true) ∧
    (∀ i, i < n → ∀ k, k < n → T.testBit i = true → A.testBit i = false → T.testBit k = true → A.testBit k = false → (g k).testBit i = false) := by
  unfold pB
  simp only [Bool.and_eq_true, decide_eq_true_eq, idlTo_iff, antB_iff, sub_iff hn hT hB, sub_iff hn hA hT]
  constructor
  · rintro ⟨⟨⟨h1, h2⟩, h3⟩, h4⟩
    refine ⟨fun p hp hb i hi => (sub_iff hn (hg p hp) hT).1 (h1 p hp hb) i hi, h2, h3, fun i hi k hk a1 a2 b1 b2 => h4 i hi k hk ?_ ?_⟩
    · rw [lack_in hn hT hA, a1, a2]; rfl
    · rw [lack_in hn hT hA, b1, b2]; rfl
  · rintro ⟨h1, h2, h3, h4⟩
    refine ⟨⟨⟨fun p hp hb => (sub_iff hn (hg p hp) hT).2 (h1 p hp hb), h2⟩, h3⟩, fun i hi k hk a b => ?_⟩
    rw [lack_in hn hT hA] at a b
    simp only [Bool.and_eq_true, Bool.not_eq_true'] at a b
    exact h4 i hi k hk a.1 a.2 b.1 b.2
theorem between_none {g : Nat → Nat} {n A B : Nat} (hn : n ≤ 10) (hg : ∀ k, k < n → g k < pw n) (ho : Ord n g) (hA : A < pw n) (hB : B < pw n) (IA : idlTo g A n = true) (IB : idlTo g B n = true) (hAB : lack A B = 0) (hne : A ≠ B) :
    sumI (fun T => if pB g n A B T = true then sgP (pc T) else 0) (pw n) = 0 := by
  have hab := (sub_iff hn hA hB).1 hAB
  have ia : ∀ p, p < n → A.testBit p = true → ∀ i, (g p).testBit i = true → A.testBit i = true := fun p hp hb => (sub_iff hn (hg p hp) hA).1 ((idlTo_iff g A n).1 IA p hp hb)
  have ib : ∀ p, p < n → B.testBit p = true → ∀ i, (g p).testBit i = true → B.testBit i = true := fun p hp hb => (sub_iff hn (hg p hp) hB).1 ((idlTo_iff g B n).1 IB p hp hb)
  have hin : ∀ {x i}, x < pw n → x.testBit i = true → i < n := fun hx hi => bit_of_lt (show _ < 2 ^ n from hx) hi
  obtain ⟨t, ht, hP, hmin⟩ := argmax (fun k => 1024 - g k) (fun k => B.testBit k && !A.testBit k) n (Classical.byContradiction fun hno => hne (Nat.eq_of_testBit_eq fun i => by
    cases h1 : A.testBit i
    · cases h2 : B.testBit i
      · rfl
      · exact absurd ⟨i, hin hB h2, by simp [h1, h2]⟩ hno
    · rw [hab i h1]))
  simp only [Bool.and_eq_true, Bool.not_eq_true'] at hP
  have hlow : ∀ u, (g t).testBit u = true → A.testBit u = true := fun u hu => by
    cases ha : A.testBit u
    · have hun := hin (hg t ht) hu
      have hbu := ib t ht hP.1 u hu
      have h1 : 1024 - g u ≤ 1024 - g t := hmin u hun (by simp [hbu, ha])
      have h2 := (sub_lt hn hg ho ht hu).2
      have h3 := Nat.lt_of_lt_of_le (hg t ht) (pw_le n hn)
      have h4 := Nat.lt_of_lt_of_le (hg u hun) (pw_le n hn)
      omega
    · rfl
  refine toggle_none ht fun S hS hb => ?_
  have hS' : pw t + S < pw n := by
    rw [Nat.add_comm, ← or_free hb]
    exact Nat.or_lt_two_pow hS (Nat.pow_lt_pow_right (by decide) ht)
  have hbit : ∀ v, (pw t + S).testBit v = (decide (v = t) || S.testBit v) := plus_bit hb
  have key : pB g n A B (pw t + S) = pB g n A B S := by
    rw [Bool.eq_iff_iff, pB_iff hn hg hA hB hS', pB_iff hn hg hA hB hS]
    constructor
    · rintro ⟨h1, h2, h3, h4⟩
      refine ⟨fun p hp hp1 i hi => ?_, fun i hi => h2 i (by rw [hbit, hi]; simp), fun i hi => ?_, fun i hi k hk a1 a2 b1 b2 => h4 i hi k hk (by rw [hbit, a1]; simp) a2 (by rw [hbit, b1]; simp) b2⟩
      · have h5 := h1 p hp (by rw [hbit, hp1]; simp) i hi
        rw [hbit] at h5
        by_cases e : i = t
        · subst e
          cases hpa : A.testBit p
          · have := h4 i ht p hp (by rw [hbit]; simp) hP.2 (by rw [hbit, hp1]; simp) hpa
            rw [this] at hi; cases hi
          · have := ia p hp hpa i hi
            rw [hP.2] at this; cases this
        · simpa [e] using h5
      · have h5 := h3 i hi
        rw [hbit] at h5
        by_cases e : i = t
        · subst e; rw [hP.2] at hi; cases hi
        · simpa [e] using h5
    · rintro ⟨h1, h2, h3, h4⟩
      refine ⟨fun p hp hp1 i hi => ?_, fun i hi => ?_, fun i hi => by rw [hbit, h3 i hi]; simp, fun i hi k hk a1 a2 b1 b2 => ?_⟩
      · rw [hbit] at hp1
        rw [hbit]
        by_cases e : p = t
        · subst e; rw [h3 i (hlow i hi)]; simp
        · have : S.testBit p = true := by simpa [e] using hp1
          rw [h1 p hp this i hi]; simp
      · rw [hbit] at hi
        by_cases e : i = t
        · subst e; exact hP.1
        · exact h2 i (by simpa [e] using hi)
      · rw [hbit] at a1 b1
        cases hx : (g k).testBit i
        · rfl
        · by_cases ek : k = t
          · subst ek
            have := hlow i hx
            rw [a2] at this; cases this
          · have bk : S.testBit k = true := by simpa [ek] using b1
            by_cases ei : i = t
            · subst ei
              have := h1 k hk bk i hx
              rw [hb] at this; cases this
            · have := h4 i hi k hk (by simpa [ei] using a1) a2 bk b2
              rw [this] at hx; cases hx
  rw [key, pc_plus hb (by omega), sgP_succ]
  split <;> omega
theorem between_one {g : Nat → Nat} {n A : Nat} (hn : n ≤ 10) (hg : ∀ k, k < n → g k < pw n) (hA : A < pw n) (IA : idlTo g A n = true) :
    sumI (fun T => if pB g n A A T = true then sgP (pc T) else 0) (pw n) = sgP (pc A) := by
  have ia : ∀ p, p < n → A.testBit p = true → ∀ i, (g p).testBit i = true → A.testBit i = true := fun p hp hb => (sub_iff hn (hg p hp) hA).1 ((idlTo_iff g A n).1 IA p hp hb)
  have key : ∀ T, T < pw n → (pB g n A A T = true ↔ T = A) := fun T hT => by
    rw [pB_iff hn hg hA hA hT]
    constructor
    · rintro ⟨_, h2, h3, _⟩
      exact Nat.eq_of_testBit_eq fun i => by
        cases h : T.testBit i
        · cases h' : A.testBit i
          · rfl
          · rw [h3 i h'] at h; cases h
        · rw [h2 i h]
    · rintro rfl
      exact ⟨ia, fun _ h => h, fun _ h => h, fun i _ k _ a1 a2 => by rw [a1] at a2; cases a2⟩
  have e : sumI (fun T => if pB g n A A T = true then sgP (pc T) else 0) (pw n) = sumI (fun T => if T = A then sgP (pc A) else 0) (pw n) := sumI_congr _ fun T hT => by
    by_cases h : T = A
    · rw [if_pos ((key T hT).2 h), if_pos h, h]
    · rw [if_neg (fun h' => h ((key T hT).1 h')), if_neg h]
  rw [e]
  have one : ∀ m, A < m → sumI (fun T => if T = A then sgP (pc A) else 0) m = sgP (pc A) := by
    intro m
    induction m with
    | zero => intro h; exact absurd h (Nat.not_lt_zero _)
    | succ m ih =>
      intro h
      rw [sumI]
      by_cases e : m = A
      · rw [if_pos e]
        have : sumI (fun T => if T = A then sgP (pc A) else 0) m = 0 := (sumI_congr m fun T hT => if_neg (by omega)).trans (sumI_zero m)
        rw [this]; omega
      · rw [if_neg e, ih (by omega)]; omega
  exact one _ hA
/-- Sums over places, by sums over sets. -/
theorem sum_idls (g : Nat → Nat) (n : Nat) (G : Nat → Int) : sumI (fun j => G (nth (idls g n) j)) (idls g n).length = sumI (fun T => if idlTo g T n = true then G T else 0) (pw n) := sum_fil (fun s => idlTo g s n) G (pw n)
theorem sub_le {x y : Nat} (hx : x < 1024) (hy : y < 1024) (h : lack x y = 0) : x ≤ y := by
  have := sub_lack hx hy h; omega
theorem mm_all {n : Nat} {L : List Nat} {M : Nat → Bool} (hL : Rises n L) (k : Nat) {i : Nat} (hi : i < L.length) : mmI L M (k + 1) i = sumI (fun l => if Qs M (nth L l) (nth L i) = true then mmI L M k l else 0) L.length := by
  rw [mmI, nxI, ← sumI_cut (i := i + 1) L.length (by omega)]
  intro l h1 h2
  have hno : Qs M (nth L l) (nth L i) = false := by
    cases hq : Qs M (nth L l) (nth L i)
    · rfl
    · simp only [Qs, Bool.and_eq_true, decide_eq_true_eq] at hq
      have a := sub_le (hL.lt l h2) (hL.lt i hi) hq.1
      have b := hL.up i l (by omega) h2
      omega
  simp [hno]
theorem up_all {n : Nat} {L : List Nat} (hL : Rises n L) (f : Nat → Int) {i : Nat} (hi : i < L.length) : f i + up1 (Qi L (fun _ => true)) L.length f i = sumI (fun j => if lack (nth L j) (nth L i) = 0 then f j else 0) L.length := by
  rw [up1_cut (by omega), sumI_cut (F := fun j => if lack (nth L j) (nth L i) = 0 then f j else 0) (i := i + 1) L.length (by omega), sumI, if_pos (lack_same (hL.lt i hi)), Int.add_comm]
  · congr 1
    exact sumI_congr i fun j _ => by simp [Qs]
  · intro k h1 h2
    refine if_neg fun h => ?_
    have a := sub_le (hL.lt k h2) (hL.lt i hi) h
    have b := hL.up i k (by omega) h2
    omega
theorem stan_step {g : Nat → Nat} {n : Nat} (hn : n ≤ 10) (hg : ∀ k, k < n → g k < pw n) (ho : Ord n g) (k : Nat) {i : Nat} (hi : i < (idls g n).length) :
    sgP (pc (nth (idls g n) i)) * mmI (idls g n) (antB g n) k i = sgP (pc (nth (idls g n) i)) * mmI (idls g n) (antB g n) (k + 1) i + up1 (Qi (idls g n) (fun _ => true)) (idls g n).length (fun j => sgP (pc (nth (idls g n) j)) * mmI (idls g n) (antB g n) (k + 1) j) i := by
  have hL := idls_rise hn hg
  have e0 := up_all hL (fun j => sgP (pc (nth (idls g n) j)) * mmI (idls g n) (antB g n) (k + 1) j) hi
  refine Eq.trans ?_ e0.symm
  have e1 : sumI (fun j => if lack (nth (idls g n) j) (nth (idls g n) i) = 0 then sgP (pc (nth (idls g n) j)) * mmI (idls g n) (antB g n) (k + 1) j else 0) (idls g n).length
      = sumI (fun j => sumI (fun l => mmI (idls g n) (antB g n) k l * (if lack (nth (idls g n) j) (nth (idls g n) i) = 0 ∧ Qs (antB g n) (nth (idls g n) l) (nth (idls g n) j) = true then sgP (pc (nth (idls g n) j)) else 0)) (idls g n).length) (idls g n).length := by
    refine sumI_congr _ fun j hj => ?_
    by_cases h : lack (nth (idls g n) j) (nth (idls g n) i) = 0
    · rw [if_pos h, mm_all hL k hj, ← sumI_mul]
      refine sumI_congr _ fun l _ => ?_
      cases hq : Qs (antB g n) (nth (idls g n) l) (nth (idls g n) j)
      · simp
      · simp [h, Int.mul_comm]
    · rw [if_neg h]
      exact ((sumI_congr _ fun l _ => by simp [h]).trans (sumI_zero _)).symm
  rw [e1, sumI_swap (fun j l => mmI (idls g n) (antB g n) k l * (if lack (nth (idls g n) j) (nth (idls g n) i) = 0 ∧ Qs (antB g n) (nth (idls g n) l) (nth (idls g n) j) = true then sgP (pc (nth (idls g n) j)) else 0))]
  have e2 : ∀ l, l < (idls g n).length → sumI (fun j => mmI (idls g n) (antB g n) k l * (if lack (nth (idls g n) j) (nth (idls g n) i) = 0 ∧ Qs (antB g n) (nth (idls g n) l) (nth (idls g n) j) = true then sgP (pc (nth (idls g n) j)) else 0)) (idls g n).length
      = if l = i then sgP (pc (nth (idls g n) i)) * mmI (idls g n) (antB g n) k i else 0 := fun l hl => by
    obtain ⟨hA, IA⟩ := idls_is hl
    obtain ⟨hB, IB⟩ := idls_is hi
    rw [sumI_mul, sum_idls g n (fun T => if lack T (nth (idls g n) i) = 0 ∧ Qs (antB g n) (nth (idls g n) l) T = true then sgP (pc T) else 0)]
    have e3 : sumI (fun T => if idlTo g T n = true then (if lack T (nth (idls g n) i) = 0 ∧ Qs (antB g n) (nth (idls g n) l) T = true then sgP (pc T) else 0) else 0) (pw n)
        = sumI (fun T => if pB g n (nth (idls g n) l) (nth (idls g n) i) T = true then sgP (pc T) else 0) (pw n) := sumI_congr _ fun T _ => by
      unfold pB Qs
      cases idlTo g T n <;> simp
      congr 1
      simp [and_assoc]
    rw [e3]
    by_cases e : l = i
    · subst e
      rw [between_one hn hg hA IA, if_pos rfl, Int.mul_comm]
    · rw [if_neg e]
      by_cases hs : lack (nth (idls g n) l) (nth (idls g n) i) = 0
      · rw [between_none hn hg ho hA hB IA IB hs (fun h => by
          rcases Nat.lt_or_gt_of_ne e with h1 | h1
          · have := hL.up l i h1 hi; omega
          · have := hL.up i l h1 hl; omega)]
        simp
      · have : sumI (fun T => if pB g n (nth (idls g n) l) (nth (idls g n) i) T = true then sgP (pc T) else 0) (pw n) = 0 := (sumI_congr _ fun T hT => by
          refine if_neg fun h => hs ?_
          obtain ⟨_, h2, h3, _⟩ := (pB_iff hn hg hA hB hT).1 h
          exact (sub_iff hn hA hB).2 fun x hx => h2 x (h3 x hx)).trans (sumI_zero _)
        rw [this]; simp
  rw [sumI_congr _ e2, sumI_one (j := i) _ hi fun t _ he => if_neg he, if_pos rfl]
/-- STANLEY. -/
theorem stanley {g : Nat → Nat} {n : Nat} (hn : n ≤ 10) (hg : ∀ k, k < n → g k < pw n) (ho : Ord n g) {k : Nat} (hk : k ≤ 20) : sgP n * valV g n (-(k : Int)) = strV g n (k : Int) := by
  have hL := idls_rise hn hg
  have hp := hL.pos
  have h1 := back_byB (Q := Qi (idls g n) (fun _ => true)) (v := one0) (rk_idl hL) hn (fun i hi => pc_upto hn (hL.ltp i hi)) (x := fun k i => sgP (pc (nth (idls g n) i)) * mmI (idls g n) (antB g n) k i)
    (fun i hi => by
      show sgP _ * mmI _ _ 0 i = one0 i
      rw [mmI, one0]
      by_cases e : i = 0
      · subst e
        rw [if_pos rfl, hL.fst, show pc 0 = 0 from (pc_none hn (pw_pos n)).2 rfl]; rfl
      · rw [if_neg e]; simp)
    (fun m i _ hi => stan_step hn hg ho m hi) k (by omega) (pc (nth (idls g n) ((idls g n).length - 1)) + 1) ((idls g n).length - 1) (by omega) (by omega)
  have e1 : valV g n (-(k : Int)) = byB (-(k : Int)) (stV (Qi (idls g n) (fun _ => true)) one0 (idls g n).length) n ((idls g n).length - 1) := by
    unfold valV adB byB onF
    exact sumI_congr _ fun t _ => by
      show atI _ _ t _ * bn _ t = _
      rw [atI_stV t _ (by omega), Int.mul_comm]
  have e2 : pc (nth (idls g n) ((idls g n).length - 1)) = n := by
    rw [hL.lst]
    have all : ∀ m, m ≤ n → pcn (pw n - 1) m = m := by
      intro m
      induction m with
      | zero => intro _; rfl
      | succ m ih =>
        intro hm
        rw [pcn, ih (by omega)]
        have : (pw n - 1).testBit m = true := by
          have := Nat.testBit_two_pow_sub_one n m
          show (2 ^ n - 1).testBit m = true
          rw [this]; simp; omega
        rw [if_pos this]
    have st := pcn_stop (s := pw n - 1) (k := n) (fun j hj => by
      have := Nat.testBit_two_pow_sub_one n j
      show (2 ^ n - 1).testBit j = false
      rw [this]; simp; omega) (10 - n)
    rw [show n + (10 - n) = 10 by omega, all n (Nat.le_refl _)] at st
    exact st
  rw [e2] at h1
  rw [e1, ← h1, ← Int.mul_assoc, sgP_sq, Int.one_mul, str_mm hn hg (by omega), mB_true]
end Go.Proofs.YtncjlfhgenmheaaDoor
namespace Go.Proofs.YtncjlfhgenmheaaDoor
open Go.RowKit Go.Maps

theorem odd_pt {k : Nat} (h : k % 2 = 1) : ((k : Int).tmod 2 == 1) = true := by rw [Int.tmod_eq_emod_of_nonneg (by omega)]; simp; omega
set_option maxHeartbeats 2000000 in
theorem polyStanley_any (N : Int) (a : Option Addr) (len cap : Nat) (f : Nat → Int) (n : Int) (w : World) (hl : len ≤ maxLen) (hn1 : -9223372036854775808 ≤ n) (hn2 : n ≤ 9223372036854775807) (hr : Row w a len f) (hT : Tab w) :
    Calls Tryd.prog 8 #[.agg #[.int .i64 N, .slice a len cap], .int .i64 n] w fun e w' => e = .returned (.bool true) ∧ Below w.heap.size w w' := by
  have K0 : Held (w.alloc (.cells #[.int .i64 N, .slice a len cap] 24)) w.heap.size N a len cap f := Held.box hr
  have HB0 : Hid (Below w.heap.size w (w.alloc (.cells #[.int .i64 N, .slice a len cap] 24))) := (Below.refl _ _).alloc (Nat.le_refl _) _
  have HT : Hid (Tab w) := hT
  clear hr hT
  go_enter Tryd.func8, Tryd.ntmps8
  go_wp2_with fail
  refine (polyBegun_any _ (HT.out.step HB0.out)).mono ?_
  rintro e w1 ⟨rfl, hb⟩
  have K1 := K0.step hb
  have k0 := K1.c0
  have k1 := K1.c1
  have HB1 : Hid (Below w.heap.size w w1) := Below.then HB0.out hb
  clear hb K0 HB0
  go_wp2_with fail
  refine (choose_any n 21 _ (by omega) (by omega) hn1 hn2).mono ?_
  rintro e w2 ⟨⟨m, hm, rfl⟩, rfl⟩
  go_wp2_with fail
  refine (value_any N a len cap f (-(m : Int)) _ hl K1.row).mono ?_
  rintro e w2 ⟨⟨c, v, hc, rfl, he⟩, hb2⟩
  have K2 := K1.step hb2
  have d0 := K2.c0
  have d1 := K2.c1
  have HB2 : Hid (Below w.heap.size w w2) := Below.then HB1.out hb2
  have HC : Hid (StCk N len f (-(m : Int)) (-20) c) := hc
  clear hb2 hc K1 k0 k1 HB1
  go_wp2_with fail
  refine (strict_any N a len cap f m _ hl K2.row (HT.out.step HB2.out)).mono ?_
  rintro e w3 ⟨⟨c', v', hc', rfl, he'⟩, hb3⟩
  have K3 := K2.step hb3
  have g0 := K3.c0
  have HB3 : Hid (Below w.heap.size w w3) := Below.then HB2.out hb3
  have hcc : c' = c := hc'.unique (by
    rcases HC.out with ⟨h0, h⟩ | ⟨h, ⟨_, h1⟩ | ⟨h0, _⟩⟩
    · exact .inl ⟨h0, h⟩
    · exact absurd h1 (by omega)
    · exact .inr ⟨h, .inr ⟨h0, by omega, by omega⟩⟩)
  subst hcc
  clear hb3 hc' K2 d0 d1 HB2 K3
  rcases he with ⟨h0, rfl⟩ | ⟨rfl, rfl⟩
  · have hne : (c' != 0) = true := by simpa using h0
    have hcs : (c' == c') = true := beq_self_eq_true _
    go_wp2_with fail
    go_ret
    exact ⟨rfl, HB3.out⟩
  · rcases he' with ⟨h0, _⟩ | ⟨_, rfl⟩
    · exact absurd rfl h0
    obtain ⟨hck, _, _⟩ := HC.out.good
    obtain ⟨rfl, h10, hrng, hord⟩ := hck.good
    have hst := stanley h10 hrng.small hord (k := m) (by omega)
    by_cases ho : len % 2 = 1
    · have HE : Hid (wrap64 (-(wz (valV (nat f) len (-(m : Int))))) = wz (strV (nat f) len (m : Int))) := by
        show _ = _
        rw [← hst, show sgP len = -1 from if_pos ho, ← wz_is]
        obtain ⟨k, hk⟩ := wz_k (valV (nat f) len (-(m : Int)))
        exact wz_eq (k := -k) (by rw [hk]; omega)
      have hod : ((len : Int) % 2 == 1) = true := by simp; omega
      have hod2 := odd_pt ho
      clear hst hck hrng hord
      generalize wz (valV (nat f) len (-(m : Int))) = X at *
      generalize wz (strV (nat f) len (m : Int)) = Y at *
      have hE : wrap64 (-X) = Y := HE.out
      have hYY : (Y == Y) = true := beq_self_eq_true _
      go_wp2_with fail
      go_ret
      exact ⟨rfl, HB3.out⟩
    · have HE : Hid (wz (valV (nat f) len (-(m : Int))) = wz (strV (nat f) len (m : Int))) := by
        show _ = _
        rw [← hst, show sgP len = 1 from if_neg ho, Int.one_mul]
      have hod : ((len : Int) % 2 == 1) = false := by simp; omega
      clear hst hck hrng hord
      rw [HE.out]
      generalize wz (strV (nat f) len (m : Int)) = Y at *
      have hYY : (Y == Y) = true := beq_self_eq_true _
      go_wp2_with fail
      go_ret
      exact ⟨rfl, HB3.out⟩
end Go.Proofs.YtncjlfhgenmheaaDoor
