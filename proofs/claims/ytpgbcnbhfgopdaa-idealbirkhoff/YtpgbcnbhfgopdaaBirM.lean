/-
  BIRKHOFF: elements are up to one another as their points are inside; a lattice has as many elements as its points have ideals just if it is distributive. Conditions: a lattice, at most ten points.
-/
import Derived.Test.YtpgbcnbhfgopdaaPointsP
import Derived.Test.YtpgbcnbhfgopdaaFilM
namespace Go.Proofs.Ytpgbcnbhfgopdaa
open Go.RowKit

theorem OrdErr.form {c n : Int} {len : Nat} {F : Nat → Int} {x : Value} {w : World} (h : OrdErr c n len F x w) : ∃ k a l cp, x = .agg #[.int .i64 k, .slice a l cp] := by
  rcases h with ⟨_, rfl⟩ | ⟨_, a, cap, rfl, _⟩
  · exact ⟨0, none, 0, 0, rfl⟩
  · exact ⟨_, _, _, _, rfl⟩
theorem OrdErr.low {c n : Int} {len : Nat} {F : Nat → Int} {k : Int} {a : Option Addr} {l cp : Nat} {w : World} (h : OrdErr c n len F (.agg #[.int .i64 k, .slice a l cp]) w) (h0 : c = 0) : (k = n ∧ l = len) ∧ Row w a len F ∧ (0 < len → ∀ b off, a = some ⟨b, off, none⟩ → b < w.heap.size) := by
  rcases h with ⟨h, _⟩ | ⟨_, a', cap', e, hr⟩
  · exact absurd h0 h
  · simp at e
    obtain ⟨rfl, rfl, rfl, rfl⟩ := e
    refine ⟨⟨rfl, rfl⟩, hr, fun hl b off e => ?_⟩
    obtain ⟨b', off', e', hc⟩ := hr 0 hl
    rw [e] at e'
    have : b = b' := by injection e' with e1; injection e1
    subst this
    exact World.block_lt_of_cell? _ _ hc
def Sub (s t : Nat) : Prop := ∀ i, s.testBit i = true → t.testBit i = true
/-- No more are told apart than there are. -/
theorem php : ∀ (n k : Nat) (f : Nat → Nat), (∀ i, i < n → f i < k) → (∀ i j, i < n → j < n → f i = f j → i = j) → n ≤ k
  | 0, _, _, _, _ => Nat.zero_le _
  | n + 1, k, f, h1, h2 => by
    have hk := h1 n (Nat.lt_succ_self n)
    have := php n (k - 1) (fun i => if f i > f n then f i - 1 else f i) (fun i hi => by
      have a := h1 i (by omega)
      have b : f i ≠ f n := fun e => by have := h2 i n (by omega) (by omega) e; omega
      show (if f i > f n then f i - 1 else f i) < k - 1
      by_cases c : f i > f n
      · rw [if_pos c]; omega
      · rw [if_neg c]; omega) (fun i j hi hj e => by
      have a : f i ≠ f n := fun e => by have := h2 i n (by omega) (by omega) e; omega
      have b : f j ≠ f n := fun e => by have := h2 j n (by omega) (by omega) e; omega
      refine h2 i j (by omega) (by omega) ?_
      by_cases c : f i > f n
      · by_cases d : f j > f n
        · rw [if_pos c, if_pos d] at e; omega
        · rw [if_pos c, if_neg d] at e; omega
      · by_cases d : f j > f n
        · rw [if_neg c, if_pos d] at e; omega
        · rw [if_neg c, if_neg d] at e; omega)
    omega
theorem php_onto {n : Nat} {f : Nat → Nat} (h1 : ∀ i, i < n → f i < n) (h2 : ∀ i j, i < n → j < n → f i = f j → i = j) {y : Nat} (hy : y < n) : ∃ x, x < n ∧ f x = y := by
  refine Classical.byContradiction fun hno => ?_
  have hne : ∀ i, i < n → f i ≠ y := fun i hi e => hno ⟨i, hi, e⟩
  have := php n (n - 1) (fun i => if f i > y then f i - 1 else f i) (fun i hi => by
      have a := h1 i hi
      have b := hne i hi
      show (if f i > y then f i - 1 else f i) < n - 1
      by_cases c : f i > y
      · rw [if_pos c]; omega
      · rw [if_neg c]; omega) (fun i j hi hj e => by
      have a := hne i hi
      have b := hne j hj
      refine h2 i j hi hj ?_
      by_cases c : f i > y
      · by_cases d : f j > y
        · rw [if_pos c, if_pos d] at e; omega
        · rw [if_pos c, if_neg d] at e; omega
      · by_cases d : f j > y
        · rw [if_neg c, if_pos d] at e; omega
        · rw [if_neg c, if_neg d] at e; omega)
  omega

section
variable {n : Nat} {m j : Nat → Nat → Nat}
theorem leB_iff {x y : Nat} : leB m x y = true ↔ m x y = x := by simp [leB]
theorem irrs_at {k : Nat} (hk : k < (irrs m j n).length) : nth (irrs m j n) k < n ∧ irrB m j n (nth (irrs m j n) k) = true := nth_filt_lt hk
theorem irrs_has {p : Nat} (hp : p < n) (h : irrB m j n p = true) : ∃ k, k < (irrs m j n).length ∧ nth (irrs m j n) k = p := by
  have := plc_is ((filt_mem (irrB m j n) n p).2 ⟨hp, h⟩)
  exact ⟨_, this.1, this.2⟩
theorem filt_rises (P : Nat → Bool) : ∀ k, Rises (filt P k)
  | 0 => fun i j _ hj => by simp [filt] at hj
  | k + 1 => by
    have ih := filt_rises P k
    cases h : P k
    · rw [filt_no h]; exact ih
    · rw [filt_yes h]
      intro i j hij hj
      rw [List.length_append, List.length_singleton] at hj
      by_cases e : j = (filt P k).length
      · subst e
        rw [nth_app_r, nth_app_l hij]
        exact ((filt_mem P k _).1 (nth_mem hij)).1
      · rw [nth_app_l (by omega), nth_app_l (by omega)]
        exact ih i j hij (by omega)

theorem Lat.dense_up (h : Lat n m j) (h1 : 1 ≤ n) {y : Nat} (hy : y < n) : ∀ N x, x < n → cntB (fun u => leB m u x) n ≤ N → (∀ p, p < n → irrB m j n p = true → m p x = p → m p y = p) → m x y = x
  | 0, x, hx, hc, _ => by
    have := cntB_lt (P := fun _ => false) (Q := fun u => leB m u x) n (fun _ _ h => by cases h) ⟨x, hx, rfl, leB_iff.2 (h.le_refl hx)⟩
    omega
  | N + 1, x, hx, hc, hp => by
    cases hi : irrB m j n x
    · have e : jbl m j n x n = x := by simpa [irrB] using hi
      have hl := h.jbl_least h1 (x := x) hy (fun u hu hlt => by
        obtain ⟨hne, hle⟩ := ltB_iff.1 hlt
        refine h.dense_up h1 hy N u hu ?_ (fun p hp' hpi hpu => hp p hp' hpi (h.le_tr hp' hu hx hpu hle))
        have := cntB_lt (P := fun v => leB m v u) (Q := fun v => leB m v x) n (fun v hv hvu => leB_iff.2 (h.le_tr hv hu hx (leB_iff.1 hvu) hle)) ⟨x, hx, by
          cases hb : leB m x u
          · rfl
          · exact absurd (h.le_anti hu hx hle (leB_iff.1 hb)) hne, leB_iff.2 (h.le_refl hx)⟩
        omega) n (Nat.le_refl _)
      rw [e] at hl
      exact hl
    · exact hp x hx hi (h.le_refl hx)
theorem Lat.dense (h : Lat n m j) (h1 : 1 ≤ n) {x y : Nat} (hx : x < n) (hy : y < n) (hp : ∀ p, p < n → irrB m j n p = true → m p x = p → m p y = p) : m x y = x := h.dense_up h1 hy _ x hx (Nat.le_refl _) hp

/-- The set of the points up to x. -/
def pst (m j : Nat → Nat → Nat) (n x : Nat) : Nat := psB m (irrs m j n) x (irrs m j n).length
/-- What is below a point. -/
def pbl (m j : Nat → Nat → Nat) (n b : Nat) : Nat := pB m (irrs m j n) (irrs m j n).length b
theorem pst_bit {x i : Nat} : (pst m j n x).testBit i = (decide (i < (irrs m j n).length) && leB m (nth (irrs m j n) i) x) := setBy_bit _ _ _
theorem pst_lt {x : Nat} : pst m j n x < pw (irrs m j n).length := setBy_lt _ _
theorem pbl_lt {b : Nat} : pbl m j n b < pw (irrs m j n).length := setBy_lt _ _
theorem pbl_bit {b i : Nat} : (pbl m j n b).testBit i = (decide (i < (irrs m j n).length) && (!(i == b) && leB m (nth (irrs m j n) i) (nth (irrs m j n) b))) := setBy_bit _ _ _
theorem Lat.pst_le (h : Lat n m j) (h1 : 1 ≤ n) {x y : Nat} (hx : x < n) (hy : y < n) : m x y = x ↔ Sub (pst m j n x) (pst m j n y) := by
  constructor
  · intro hl i hi
    rw [pst_bit, Bool.and_eq_true, decide_eq_true_iff, leB_iff] at hi ⊢
    exact ⟨hi.1, h.le_tr (irrs_at hi.1).1 hx hy hi.2 hl⟩
  · intro hs
    refine h.dense h1 hx hy fun p hp hpi hpx => ?_
    obtain ⟨k, hk, rfl⟩ := irrs_has hp hpi
    have := hs k (by rw [pst_bit, Bool.and_eq_true, decide_eq_true_iff, leB_iff]; exact ⟨hk, hpx⟩)
    rw [pst_bit, Bool.and_eq_true, leB_iff] at this
    exact this.2
theorem Lat.pst_one (h : Lat n m j) (h1 : 1 ≤ n) {x y : Nat} (hx : x < n) (hy : y < n) (e : pst m j n x = pst m j n y) : x = y :=
  h.le_anti hx hy ((h.pst_le h1 hx hy).2 (by rw [e]; exact fun _ h => h)) ((h.pst_le h1 hy hx).2 (by rw [e]; exact fun _ h => h))
theorem Lat.pst_idl (h : Lat n m j) {x : Nat} (hx : x < n) : Idl (pbl m j n) (irrs m j n).length (pst m j n x) := fun p hp hb i hi => by
  rw [pst_bit, Bool.and_eq_true, decide_eq_true_iff, leB_iff] at hb ⊢
  rw [pbl_bit, Bool.and_eq_true, decide_eq_true_iff, Bool.and_eq_true, leB_iff] at hi
  exact ⟨hi.1, h.le_tr (irrs_at hi.1).1 (irrs_at hp).1 hx hi.2.2 hb.2⟩
theorem Lat.pst_meet (h : Lat n m j) {x y : Nat} (hx : x < n) (hy : y < n) : pst m j n (m x y) = pst m j n x &&& pst m j n y := by
  apply Nat.eq_of_testBit_eq
  intro i
  rw [Nat.testBit_and, pst_bit, pst_bit, pst_bit, Bool.eq_iff_iff]
  simp only [Bool.and_eq_true, decide_eq_true_iff, leB_iff]
  constructor
  · rintro ⟨hi, hl⟩
    have hp := (irrs_at hi).1
    have hm := h.im _ _ hx hy
    exact ⟨⟨hi, h.le_tr hp hm hx hl (h.meet_l hx hy)⟩, hi, h.le_tr hp hm hy hl (h.meet_r hx hy)⟩
  · rintro ⟨⟨hi, ha⟩, _, hb⟩
    exact ⟨hi, h.meet_glb hx hy (irrs_at hi).1 ha hb⟩
theorem Lat.prime (h : Lat n m j) (h1 : 1 ≤ n) (hd : All3 n (disB m j)) {p a b : Nat} (hp : p < n) (ha : a < n) (hb : b < n) (hi : irrB m j n p = true) (hl : m p (j a b) = p) : m p a = p ∨ m p b = p := by
  refine Classical.byContradiction fun hno => ?_
  obtain ⟨na, nb⟩ : ¬ m p a = p ∧ ¬ m p b = p := ⟨fun e => hno (.inl e), fun e => hno (.inr e)⟩
  have hma := h.im _ _ hp ha
  have hmb := h.im _ _ hp hb
  have hJ := jbl_lt (x := p) h1 h.im h.ij n (Nat.le_refl _)
  have l1 := h.jbl_over h1 (x := p) n (Nat.le_refl _) (m p a) hma (ltB_iff.2 ⟨na, h.meet_l hp ha⟩)
  have l2 := h.jbl_over h1 (x := p) n (Nat.le_refl _) (m p b) hmb (ltB_iff.2 ⟨nb, h.meet_l hp hb⟩)
  have l3 := h.join_lub hma hmb hJ l1 l2
  have e : m p (j a b) = j (m p a) (m p b) := by simpa [disB] using hd p a b hp ha hb
  rw [← e, hl] at l3
  have := h.le_anti hJ hp (h.jbl_up h1 hp n (Nat.le_refl _)) l3
  simp [irrB, this] at hi
/-- The Join of the points of s, of the first k. -/
def jnS (m j : Nat → Nat → Nat) (n s : Nat) : Nat → Nat
  | 0 => en m n
  | k + 1 => if s.testBit k = true then j (jnS m j n s k) (nth (irrs m j n) k) else jnS m j n s k
theorem Lat.jnS_lt (h : Lat n m j) (h1 : 1 ≤ n) {s : Nat} : ∀ k, k ≤ (irrs m j n).length → jnS m j n s k < n
  | 0, _ => en_lt h1 h.im n (Nat.le_refl _)
  | k + 1, hk => by
    have ih := h.jnS_lt h1 (s := s) k (by omega)
    unfold jnS
    split
    · exact h.ij _ _ ih (irrs_at (by omega)).1
    · exact ih
theorem Lat.jnS_up (h : Lat n m j) (h1 : 1 ≤ n) {s : Nat} : ∀ k, k ≤ (irrs m j n).length → ∀ i, i < k → s.testBit i = true → m (nth (irrs m j n) i) (jnS m j n s k) = nth (irrs m j n) i
  | 0, _ => fun i hi => absurd hi (Nat.not_lt_zero _)
  | k + 1, hk => fun i hi hb => by
    have hl := h.jnS_lt h1 (s := s) k (by omega)
    have hk' := (irrs_at (m := m) (j := j) (n := n) (k := k) (by omega)).1
    have hi' := (irrs_at (m := m) (j := j) (n := n) (k := i) (by omega)).1
    unfold jnS
    by_cases e : i = k
    · subst e
      rw [if_pos hb]
      exact h.join_r hl hk'
    · have ih := h.jnS_up h1 (s := s) k (by omega) i (by omega) hb
      split
      · exact h.le_tr hi' hl (h.ij _ _ hl hk') ih (h.join_l hl hk')
      · exact ih
theorem Lat.jnS_of (h : Lat n m j) (h1 : 1 ≤ n) (hd : All3 n (disB m j)) {s p : Nat} (hp : p < n) (hi : irrB m j n p = true) : ∀ k, k ≤ (irrs m j n).length → m p (jnS m j n s k) = p → ∃ i, i < k ∧ s.testBit i = true ∧ m p (nth (irrs m j n) i) = p
  | 0, _, hl => by
    have hJ := jbl_lt (x := p) h1 h.im h.ij n (Nat.le_refl _)
    have he := en_lt h1 h.im n (Nat.le_refl _)
    have l1 : m p (jbl m j n p n) = p := h.le_tr hp he hJ hl (h.least h1 hJ)
    have := h.le_anti hJ hp (h.jbl_up h1 hp n (Nat.le_refl _)) l1
    simp [irrB, this] at hi
  | k + 1, hk, hl => by
    have hq := h.jnS_lt h1 (s := s) k (by omega)
    have hk' := (irrs_at (m := m) (j := j) (n := n) (k := k) (by omega)).1
    unfold jnS at hl
    split at hl
    next hb =>
      rcases h.prime h1 hd hp hq hk' hi hl with e | e
      · obtain ⟨i, hi2, hb2, e2⟩ := h.jnS_of h1 hd (s := s) hp hi k (by omega) e
        exact ⟨i, by omega, hb2, e2⟩
      · exact ⟨k, by omega, hb, e⟩
    next hb =>
      obtain ⟨i, hi2, hb2, e2⟩ := h.jnS_of h1 hd (s := s) hp hi k (by omega) hl
      exact ⟨i, by omega, hb2, e2⟩
theorem Lat.pst_of (h : Lat n m j) (h1 : 1 ≤ n) (hd : All3 n (disB m j)) {s : Nat} (hs : s < pw (irrs m j n).length) (hI : Idl (pbl m j n) (irrs m j n).length s) : pst m j n (jnS m j n s (irrs m j n).length) = s := by
  refine eq_of_bits pst_lt hs fun i hi => ?_
  rw [pst_bit, Bool.eq_iff_iff, Bool.and_eq_true, decide_eq_true_iff, leB_iff]
  constructor
  · rintro ⟨_, hl⟩
    obtain ⟨k, hk, hb, e⟩ := h.jnS_of h1 hd (irrs_at hi).1 (irrs_at hi).2 _ (Nat.le_refl _) hl
    by_cases hik : i = k
    · subst hik; exact hb
    · refine hI k hk hb i ?_
      rw [pbl_bit]
      simp [hi, hik, leB_iff.2 e]
  · intro hb
    exact ⟨hi, h.jnS_up h1 _ (Nat.le_refl _) i hi hb⟩
theorem pbl_1024 (hq : (irrs m j n).length ≤ 10) : ∀ k, k < (irrs m j n).length → pbl m j n k < 1024 := fun _ _ => set_small pbl_lt hq
theorem Lat.pst_in (h : Lat n m j) (hq : (irrs m j n).length ≤ 10) {x : Nat} (hx : x < n) : pst m j n x ∈ idls (pbl m j n) (irrs m j n).length := (idls_mem hq (pbl_1024 hq)).2 ⟨pst_lt, h.pst_idl hx⟩
theorem Lat.pst_sur (h : Lat n m j) (h1 : 1 ≤ n) (hq : (irrs m j n).length ≤ 10) (he : n = (idls (pbl m j n) (irrs m j n).length).length) {s : Nat} (hs : s < pw (irrs m j n).length) (hI : Idl (pbl m j n) (irrs m j n).length s) : ∃ x, x < n ∧ pst m j n x = s := by
  obtain ⟨x, hx, e⟩ := php_onto (n := n) (f := fun x => plc (idls (pbl m j n) (irrs m j n).length) (pst m j n x)) (fun x hx => by rw [he]; have := (plc_is (h.pst_in hq (by omega : x < n))).1; simpa [← he] using this) (fun x y hx hy e => h.pst_one h1 hx hy (by
    rw [← (plc_is (h.pst_in hq hx)).2, ← (plc_is (h.pst_in hq hy)).2]
    exact congrArg _ e)) (y := plc (idls (pbl m j n) (irrs m j n).length) s) (by
      have := (plc_is ((idls_mem hq (pbl_1024 hq)).2 ⟨hs, hI⟩)).1
      omega)
  refine ⟨x, hx, ?_⟩
  rw [← (plc_is (h.pst_in hq hx)).2, ← (plc_is ((idls_mem hq (pbl_1024 hq)).2 ⟨hs, hI⟩)).2]
  exact congrArg _ e
theorem Lat.pst_join (h : Lat n m j) (h1 : 1 ≤ n) (hq : (irrs m j n).length ≤ 10) (he : n = (idls (pbl m j n) (irrs m j n).length).length) {x y : Nat} (hx : x < n) (hy : y < n) : pst m j n (j x y) = pst m j n x ||| pst m j n y := by
  have hl : pst m j n x ||| pst m j n y < pw (irrs m j n).length := Nat.or_lt_two_pow pst_lt pst_lt
  obtain ⟨u, hu, e⟩ := h.pst_sur h1 hq he hl ((h.pst_idl hx).or (h.pst_idl hy))
  have hj := h.ij _ _ hx hy
  have a1 : m x u = x := (h.pst_le h1 hx hu).2 (by rw [e]; intro i hi; rw [Nat.testBit_or, hi]; rfl)
  have a2 : m y u = y := (h.pst_le h1 hy hu).2 (by rw [e]; intro i hi; rw [Nat.testBit_or, hi]; simp)
  have a3 := h.join_lub hx hy hu a1 a2
  have a4 : m u (j x y) = u := (h.pst_le h1 hu hj).2 (by
    rw [e]; intro i hi
    rw [Nat.testBit_or, Bool.or_eq_true] at hi
    rcases hi with hi | hi
    · exact (h.pst_le h1 hx hj).1 (h.join_l hx hy) i hi
    · exact (h.pst_le h1 hy hj).1 (h.join_r hx hy) i hi)
  rw [← e, h.le_anti hj hu a3 a4]
theorem Lat.birk (h : Lat n m j) (h1 : 1 ≤ n) (hq : (irrs m j n).length ≤ 10) : All3 n (disB m j) ↔ n = (idls (pbl m j n) (irrs m j n).length).length := by
  constructor
  · intro hd
    apply Nat.le_antisymm
    · exact php n _ (fun x => plc (idls (pbl m j n) (irrs m j n).length) (pst m j n x)) (fun x hx => (plc_is (h.pst_in hq hx)).1) (fun x y hx hy e => h.pst_one h1 hx hy (by
        rw [← (plc_is (h.pst_in hq hx)).2, ← (plc_is (h.pst_in hq hy)).2]
        exact congrArg _ e))
    · refine php _ n (fun k => jnS m j n (nth (idls (pbl m j n) (irrs m j n).length) k) (irrs m j n).length) (fun k _ => h.jnS_lt h1 _ (Nat.le_refl _)) (fun a b ha hb e => ?_)
      have ra := idls_at hq (pbl_1024 hq) ha
      have rb := idls_at hq (pbl_1024 hq) hb
      refine (fil_rises _ _).one ha hb ?_
      have := congrArg (pst m j n) e
      simp only [h.pst_of h1 hd ra.1 ra.2, h.pst_of h1 hd rb.1 rb.2] at this
      exact this
  · intro he x y z hx hy hz
    have := h.pst_one h1 (h.im _ _ hx (h.ij _ _ hy hz)) (h.ij _ _ (h.im _ _ hx hy) (h.im _ _ hx hz)) (by
      rw [h.pst_meet hx (h.ij _ _ hy hz), h.pst_join h1 hq he hy hz, h.pst_join h1 hq he (h.im _ _ hx hy) (h.im _ _ hx hz), h.pst_meet hx hy, h.pst_meet hx hz]
      apply Nat.eq_of_testBit_eq
      intro i
      simp only [Nat.testBit_and, Nat.testBit_or]
      cases (pst m j n x).testBit i <;> simp)
    simpa [disB] using this
theorem Lat.pbl_ord (h : Lat n m j) (hq : (irrs m j n).length ≤ 10) : Ord (irrs m j n).length (pbl m j n) := fun u hu => by
  refine ⟨by rw [pbl_bit]; simp, fun y hy hb => ?_⟩
  have b1 : pbl m j n y < 18446744073709551616 := Nat.lt_trans (pbl_1024 hq y hy) (by decide)
  have b2 : pbl m j n u < 18446744073709551616 := Nat.lt_trans (pbl_1024 hq u hu) (by decide)
  refine (lack_zero _ _ b1 b2).2 fun i hi => ?_
  rw [pbl_bit] at hb hi ⊢
  simp only [Bool.and_eq_true, decide_eq_true_iff, Bool.not_eq_true', beq_eq_false_iff_ne, leB_iff] at hb hi ⊢
  have pu := (irrs_at hu).1
  have py := (irrs_at hy).1
  have pi := (irrs_at hi.1).1
  refine ⟨hi.1, fun e => ?_, h.le_tr pi py pu hi.2.2 hb.2.2⟩
  subst e
  exact hi.2.1 ((filt_rises _ _).one hi.1 hy (h.le_anti pi py hi.2.2 hb.2.2))
theorem Lat.pbl_chk (h : Lat n m j) (hq : (irrs m j n).length ≤ 10) : Chk ((irrs m j n).length : Int) (irrs m j n).length (fun k => (pbl m j n k : Nat)) 0 := by
  refine .inr ⟨_, rfl, hq, .inr ⟨rfl, .inr ⟨fun k hk => ⟨Int.natCast_nonneg _, ?_⟩, .inr ⟨rfl, h.pbl_ord hq⟩⟩⟩⟩
  have := pbl_lt (m := m) (j := j) (n := n) (b := k)
  show ((pbl m j n k : Nat) : Int) < _
  omega
/-- The sets of the first k elements. -/
def psl (m j : Nat → Nat → Nat) (n : Nat) : Nat → List Nat
  | 0 => []
  | k + 1 => psl m j n k ++ [pst m j n k]
theorem psl_len : ∀ k, (psl m j n k).length = k
  | 0 => rfl
  | k + 1 => by simp [psl, psl_len k]
theorem psl_at : ∀ k i, i < k → nth (psl m j n k) i = pst m j n i
  | 0, _, hi => absurd hi (Nat.not_lt_zero _)
  | k + 1, i, hi => by
    unfold psl
    by_cases e : i = k
    · subst e
      have := nth_app_r (psl m j n i) (pst m j n i)
      rw [psl_len] at this; exact this
    · rw [nth_app_l (by rw [psl_len]; omega)]
      exact psl_at k i (by omega)
end
end Go.Proofs.Ytpgbcnbhfgopdaa
