/-
  Cuts: the least one that has a set in it; what two have in common is one; a point and all below it are one. Conditions: as each theorem says.
  The cuts are a lattice; each is the Join of points' cuts and the Meet of such. Conditions: an order of at most ten points.
-/
import Derived.Test.YthhnngmfbbljaaaGreatDualT
import Derived.Test.YthhnngmfbbljaaaGreatFilM
import Derived.Test.YthhnngmfbbljaaaGreatCutsP
import Derived.Test.YthhnngmfbbljaaaGreatTriM
namespace Go.Proofs.YthhnngmfbbljaaaGreat
set_option maxRecDepth 100000

theorem low_bit (g : Nat → Nat) (n s i : Nat) : (low g n s).testBit i = true ↔ i < n ∧ ∀ k, k < n → s.testBit k = true → upt g i k = true := by
  show (lwr g n s n).testBit i = true ↔ _
  rw [lwr_bit, Bool.and_eq_true, decide_eq_true_iff, allB_iff]
  constructor
  · rintro ⟨h1, h2⟩
    exact ⟨h1, fun k hk hb => by have := h2 k hk; rw [hb] at this; simpa using this⟩
  · rintro ⟨h1, h2⟩
    refine ⟨h1, fun k hk => ?_⟩
    cases hb : s.testBit k
    · rfl
    · simpa using h2 k hk hb
theorem upt_trn {g : Nat → Nat} {n i k : Nat} (hi : i < n) : upt (trn g n) i k = upt g k i := by
  unfold upt
  rw [trn_bit]
  simp only [hi, decide_true, Bool.true_and]
  congr 1
  by_cases e : i = k
  · subst e; simp
  · have : ¬ k = i := fun x => e x.symm
    simp [e, this]
theorem up_bit (g : Nat → Nat) (n s i : Nat) : (low (trn g n) n s).testBit i = true ↔ i < n ∧ ∀ k, k < n → s.testBit k = true → upt g k i = true := by
  rw [low_bit]
  constructor
  · rintro ⟨h1, h2⟩
    exact ⟨h1, fun k hk hb => by have := h2 k hk hb; rw [upt_trn h1] at this; exact this⟩
  · rintro ⟨h1, h2⟩
    exact ⟨h1, fun k hk hb => by rw [upt_trn h1]; exact h2 k hk hb⟩
/-- Each bit of s is one of t. -/
def Sub (s t : Nat) : Prop := ∀ i, s.testBit i = true → t.testBit i = true
theorem Sub.eq {s t : Nat} (h : Sub s t) (h' : Sub t s) : s = t := by
  apply Nat.eq_of_testBit_eq
  intro i
  rw [Bool.eq_iff_iff]
  exact ⟨h i, h' i⟩
theorem Sub.tr {s t u : Nat} (h : Sub s t) (h' : Sub t u) : Sub s u := fun i hi => h' i (h i hi)
theorem low_anti {g : Nat → Nat} {n s t : Nat} (h : Sub s t) : Sub (low g n t) (low g n s) := fun i hi => by
  rw [low_bit] at hi ⊢
  exact ⟨hi.1, fun k hk hb => hi.2 k hk (h k hb)⟩
theorem cut_ext {g : Nat → Nat} {n s : Nat} (hs : s < pw n) : Sub s (cutW g n s) := fun i hi => by
  have hin : i < n := bit_of_lt hs hi
  unfold cutW
  rw [low_bit]
  refine ⟨hin, fun k hk hb => ?_⟩
  rw [up_bit] at hb
  exact hb.2 i hin hi
theorem cut_mono {g : Nat → Nat} {n s t : Nat} (h : Sub s t) : Sub (cutW g n s) (cutW g n t) := low_anti (low_anti h)
theorem up_ext {g : Nat → Nat} {n s : Nat} (hs : s < pw n) : Sub s (low (trn g n) n (low g n s)) := fun i hi => by
  have hin : i < n := bit_of_lt hs hi
  rw [up_bit]
  refine ⟨hin, fun k hk hb => ?_⟩
  rw [low_bit] at hb
  exact hb.2 i hin hi
theorem cut_idem {g : Nat → Nat} {n s : Nat} : cutW g n (cutW g n s) = cutW g n s := by
  refine Sub.eq ?_ (cut_ext (cutW_lt g n s))
  unfold cutW
  exact low_anti (up_ext (low_lt _ _ _))
theorem isCut_iff {g : Nat → Nat} {n s : Nat} : isCut g n s = true ↔ cutW g n s = s := by unfold isCut; exact decide_eq_true_iff
theorem cut_and {g : Nat → Nat} {n s t : Nat} (hs : s < pw n) (h1 : cutW g n s = s) (h2 : cutW g n t = t) : cutW g n (s &&& t) = s &&& t := by
  refine Sub.eq (fun i hi => ?_) (cut_ext (Nat.lt_of_le_of_lt Nat.and_le_left hs))
  rw [Nat.testBit_and, Bool.and_eq_true]
  have a1 := cut_mono (g := g) (n := n) (s := s &&& t) (t := s) (fun j hj => by rw [Nat.testBit_and, Bool.and_eq_true] at hj; exact hj.1) i hi
  have a2 := cut_mono (g := g) (n := n) (s := s &&& t) (t := t) (fun j hj => by rw [Nat.testBit_and, Bool.and_eq_true] at hj; exact hj.2) i hi
  rw [h1] at a1
  rw [h2] at a2
  exact ⟨a1, a2⟩
theorem upto_lt_pw {g : Nat → Nat} {n p : Nat} (hg : ∀ k, k < n → g k < pw n) (hp : p < n) : upto g p < pw n := Nat.or_lt_two_pow (hg p hp) (Nat.pow_lt_pow_right (by decide) hp)
theorem upto_cut {g : Nat → Nat} {n p : Nat} (hg : ∀ k, k < n → g k < pw n) (hp : p < n) : cutW g n (upto g p) = upto g p := by
  refine Sub.eq (fun i hi => ?_) (cut_ext (upto_lt_pw hg hp))
  unfold cutW at hi
  rw [low_bit] at hi
  rw [upto_bit]
  refine hi.2 p hp ?_
  rw [up_bit]
  exact ⟨hp, fun k _ hb => by rw [upto_bit] at hb; exact hb⟩
/-- The lower set of a point alone. -/
theorem bnd_point {g : Nat → Nat} {n p : Nat} (hg : ∀ k, k < n → g k < pw n) (hp : p < n) : bnd g n (pw p) false = upto g p := by
  rw [← low_bound]
  refine Sub.eq (fun i hi => ?_) (fun i hi => ?_)
  · rw [low_bit] at hi
    rw [upto_bit]
    exact hi.2 p hp (by rw [pw_bit]; simp)
  · rw [low_bit]
    refine ⟨bit_of_lt (upto_lt_pw hg hp) hi, fun k _ hb => ?_⟩
    rw [pw_bit, decide_eq_true_iff] at hb
    subst hb
    rw [upto_bit] at hi; exact hi
theorem cuts_mem {g : Nat → Nat} {n s : Nat} : s ∈ cuts g n ↔ s < pw n ∧ cutW g n s = s := by
  unfold cuts
  rw [fil_mem, isCut_iff]
theorem cuts_at {g : Nat → Nat} {n k : Nat} (hk : k < (cuts g n).length) : nth (cuts g n) k < pw n ∧ cutW g n (nth (cuts g n) k) = nth (cuts g n) k := cuts_mem.1 (nth_mem hk)
def ctm (g : Nat → Nat) (n x y : Nat) : Nat := plc (cuts g n) (nth (cuts g n) x &&& nth (cuts g n) y)
def ctj (g : Nat → Nat) (n x y : Nat) : Nat := plc (cuts g n) (cutW g n (nth (cuts g n) x ||| nth (cuts g n) y))
def ctp (g : Nat → Nat) (n p : Nat) : Nat := plc (cuts g n) (upto g p)
theorem ctm_is {g : Nat → Nat} {n x y : Nat} (hx : x < (cuts g n).length) (hy : y < (cuts g n).length) : ctm g n x y < (cuts g n).length ∧ nth (cuts g n) (ctm g n x y) = nth (cuts g n) x &&& nth (cuts g n) y := by
  obtain ⟨a, b⟩ := cuts_at hx
  obtain ⟨_, d⟩ := cuts_at hy
  exact plc_is (cuts_mem.2 ⟨Nat.lt_of_le_of_lt Nat.and_le_left a, cut_and a b d⟩)
theorem ctj_is {g : Nat → Nat} {n x y : Nat} : ctj g n x y < (cuts g n).length ∧ nth (cuts g n) (ctj g n x y) = cutW g n (nth (cuts g n) x ||| nth (cuts g n) y) :=
  plc_is (cuts_mem.2 ⟨cutW_lt _ _ _, cut_idem⟩)
theorem ctp_is {g : Nat → Nat} {n p : Nat} (hg : ∀ k, k < n → g k < pw n) (hp : p < n) : ctp g n p < (cuts g n).length ∧ nth (cuts g n) (ctp g n p) = upto g p :=
  plc_is (cuts_mem.2 ⟨upto_lt_pw hg hp, upto_cut hg hp⟩)
theorem cuts_pos (g : Nat → Nat) (n : Nat) : 1 ≤ (cuts g n).length := by
  have : cutW g n (pw n - 1) ∈ cuts g n := cuts_mem.2 ⟨cutW_lt _ _ _, cut_idem⟩
  exact List.length_pos_of_mem this
end Go.Proofs.YthhnngmfbbljaaaGreat
namespace Go.Proofs.YthhnngmfbbljaaaGreat
set_option maxRecDepth 100000

section
variable {g : Nat → Nat} {n : Nat}
theorem cut_join {s t : Nat} (hs : s < pw n) (ht : t < pw n) : cutW g n (s ||| cutW g n t) = cutW g n (s ||| t) := by
  refine Sub.eq ?_ (cut_mono fun i hi => ?_)
  · have h : Sub (s ||| cutW g n t) (cutW g n (s ||| t)) := fun i hi => by
      rw [Nat.testBit_or, Bool.or_eq_true] at hi
      rcases hi with hi | hi
      · exact cut_ext (Nat.or_lt_two_pow hs ht) i (by rw [Nat.testBit_or, hi]; rfl)
      · exact cut_mono (fun j hj => by rw [Nat.testBit_or, hj]; simp) i hi
    have := cut_mono (g := g) (n := n) h
    rw [cut_idem] at this; exact this
  · rw [Nat.testBit_or, Bool.or_eq_true] at hi ⊢
    rcases hi with hi | hi
    · exact .inl hi
    · exact .inr (cut_ext ht i hi)
theorem at_one {x y : Nat} (hx : x < (cuts g n).length) (hy : y < (cuts g n).length) (h : nth (cuts g n) x = nth (cuts g n) y) : x = y := (fil_rises _ _).one hx hy h
/-- The cuts are a lattice. -/
theorem cuts_lat : Lat (cuts g n).length (ctm g n) (ctj g n) := by
  have im : Inn (cuts g n).length (ctm g n) := fun x y hx hy => (ctm_is hx hy).1
  have ij : Inn (cuts g n).length (ctj g n) := fun x y _ _ => ctj_is.1
  refine ⟨im, ij, lws_iff.2 fun x y z hx hy hz => ⟨?_, ?_, ?_, ?_⟩, lws_iff.2 fun x y z hx hy hz => ⟨?_, ?_, ?_, ?_⟩⟩
  · exact at_one (im _ _ hx hx) hx (by rw [(ctm_is hx hx).2, Nat.and_self])
  · exact at_one (im _ _ hx hy) (im _ _ hy hx) (by rw [(ctm_is hx hy).2, (ctm_is hy hx).2, Nat.and_comm])
  · exact at_one (im _ _ hx (im _ _ hy hz)) (im _ _ (im _ _ hx hy) hz) (by rw [(ctm_is hx (im _ _ hy hz)).2, (ctm_is hy hz).2, (ctm_is (im _ _ hx hy) hz).2, (ctm_is hx hy).2, Nat.and_assoc])
  · refine at_one (im _ _ hx (ij _ _ hx hy)) hx ?_
    rw [(ctm_is hx (ij _ _ hx hy)).2, ctj_is.2]
    apply Nat.eq_of_testBit_eq
    intro i
    rw [Nat.testBit_and]
    cases e : (nth (cuts g n) x).testBit i
    · rfl
    · rw [cut_ext (Nat.or_lt_two_pow (cuts_at hx).1 (cuts_at hy).1) i (by rw [Nat.testBit_or, e]; rfl)]; rfl
  · refine at_one (ij _ _ hx hx) hx ?_
    rw [ctj_is.2, Nat.or_self]; exact (cuts_at hx).2
  · refine at_one (ij _ _ hx hy) (ij _ _ hy hx) ?_
    rw [ctj_is.2, ctj_is.2, Nat.or_comm]
  · refine at_one (ij _ _ hx (ij _ _ hy hz)) (ij _ _ (ij _ _ hx hy) hz) ?_
    have bx := (cuts_at hx).1
    have by' := (cuts_at hy).1
    have bz := (cuts_at hz).1
    rw [ctj_is.2, ctj_is.2, ctj_is.2, ctj_is.2, cut_join bx (Nat.or_lt_two_pow by' bz), Nat.or_comm (cutW g n _) _, cut_join bz (Nat.or_lt_two_pow bx by'), Nat.or_comm (nth (cuts g n) z) _, Nat.or_assoc]
  · refine at_one (ij _ _ hx (im _ _ hx hy)) hx ?_
    rw [ctj_is.2, (ctm_is hx hy).2]
    have : nth (cuts g n) x ||| (nth (cuts g n) x &&& nth (cuts g n) y) = nth (cuts g n) x := by
      apply Nat.eq_of_testBit_eq
      intro i
      rw [Nat.testBit_or, Nat.testBit_and]
      cases (nth (cuts g n) x).testBit i <;> rfl
    rw [this]; exact (cuts_at hx).2
/-- Below in the table is inside. -/
theorem ct_le {u v : Nat} (hu : u < (cuts g n).length) (hv : v < (cuts g n).length) : ctm g n u v = u ↔ Sub (nth (cuts g n) u) (nth (cuts g n) v) := by
  obtain ⟨h1, h2⟩ := ctm_is hu hv
  constructor
  · intro e i hi
    rw [e] at h2
    rw [h2, Nat.testBit_and, Bool.and_eq_true] at hi; exact hi.2
  · intro h
    refine at_one h1 hu ?_
    rw [h2]
    apply Nat.eq_of_testBit_eq
    intro i
    rw [Nat.testBit_and]
    cases e : (nth (cuts g n) u).testBit i
    · rfl
    · rw [h i e]; rfl
/-- Joined up, point by point. -/
def jnK (g : Nat → Nat) (n bot x : Nat) : Nat → Nat
  | 0 => bot
  | k + 1 => if (ctm g n (ctp g n k) x == ctp g n k) = true then ctj g n (jnK g n bot x k) (ctp g n k) else jnK g n bot x k
def mtK (g : Nat → Nat) (n top x : Nat) : Nat → Nat
  | 0 => top
  | k + 1 => if (ctm g n x (ctp g n k) == x) = true then ctm g n (mtK g n top x k) (ctp g n k) else mtK g n top x k
theorem jnK_yes {bot x k : Nat} (h : (ctm g n (ctp g n k) x == ctp g n k) = true) : jnK g n bot x (k + 1) = ctj g n (jnK g n bot x k) (ctp g n k) := by simp only [jnK, h, if_true]
theorem jnK_no {bot x k : Nat} (h : (ctm g n (ctp g n k) x == ctp g n k) = false) : jnK g n bot x (k + 1) = jnK g n bot x k := by simp [jnK, h]
theorem mtK_yes {top x k : Nat} (h : (ctm g n x (ctp g n k) == x) = true) : mtK g n top x (k + 1) = ctm g n (mtK g n top x k) (ctp g n k) := by simp only [mtK, h, if_true]
theorem mtK_no {top x k : Nat} (h : (ctm g n x (ctp g n k) == x) = false) : mtK g n top x (k + 1) = mtK g n top x k := by simp [mtK, h]
theorem jnK_lt {bot x : Nat} (hb : bot < (cuts g n).length) : ∀ k, jnK g n bot x k < (cuts g n).length
  | 0 => hb
  | k + 1 => by
    cases h : (ctm g n (ctp g n k) x == ctp g n k)
    · rw [jnK_no h]; exact jnK_lt hb k
    · rw [jnK_yes h]; exact ctj_is.1
theorem mtK_lt {top x : Nat} (hg : ∀ k, k < n → g k < pw n) (ht : top < (cuts g n).length) : ∀ k, k ≤ n → mtK g n top x k < (cuts g n).length
  | 0, _ => ht
  | k + 1, hk => by
    cases h : (ctm g n x (ctp g n k) == x)
    · rw [mtK_no h]; exact mtK_lt hg ht k (by omega)
    · rw [mtK_yes h]; exact (ctm_is (mtK_lt hg ht k (by omega)) (ctp_is hg (by omega)).1).1
theorem jnK_in {bot x : Nat} (hg : ∀ k, k < n → g k < pw n) (hx : x < (cuts g n).length) (hb : bot < (cuts g n).length) (hbx : ctm g n bot x = bot) : ∀ k, k ≤ n → Sub (nth (cuts g n) (jnK g n bot x k)) (nth (cuts g n) x)
  | 0, _ => (ct_le hb hx).1 hbx
  | k + 1, hk => by
    have ih := jnK_in hg hx hb hbx k (by omega)
    cases h : (ctm g n (ctp g n k) x == ctp g n k)
    · rw [jnK_no h]; exact ih
    · rw [jnK_yes h, ctj_is.2]
      have h1 := (ct_le (ctp_is hg (show k < n by omega)).1 hx).1 (by simpa using h)
      have h2 : Sub (nth (cuts g n) (jnK g n bot x k) ||| nth (cuts g n) (ctp g n k)) (nth (cuts g n) x) := fun i hi => by
        rw [Nat.testBit_or, Bool.or_eq_true] at hi
        rcases hi with hi | hi
        · exact ih i hi
        · exact h1 i hi
      have := cut_mono (g := g) (n := n) h2
      rw [(cuts_at hx).2] at this; exact this
/-- A cut goes down. -/
theorem cut_down (hn : n ≤ 10) (hg : ∀ k, k < n → g k < pw n) (ho : Ord n g) {s a : Nat} (hs : cutW g n s = s) (ha : a < n) (h : s.testBit a = true) : Sub (upto g a) s := fun i hi => by
  rw [← hs]
  rw [← hs] at h
  unfold cutW at h ⊢
  rw [low_bit] at h ⊢
  refine ⟨bit_of_lt (upto_lt_pw hg ha) hi, fun k hk hb => ?_⟩
  have h1 := h.2 k hk hb
  rw [upto_bit] at hi
  unfold upt at h1 hi ⊢
  rw [Bool.or_eq_true, decide_eq_true_iff] at h1 hi ⊢
  rcases hi with rfl | hi
  · exact h1
  · rcases h1 with rfl | h1
    · exact .inr hi
    · right
      have := (ho k hk).2 a ha h1
      exact (lack_zero _ _ (big hn (hg a ha)) (big hn (hg k hk))).1 this i hi
theorem jnK_is {bot x : Nat} (hn : n ≤ 10) (hg : ∀ k, k < n → g k < pw n) (ho : Ord n g) (hx : x < (cuts g n).length) (hb : bot < (cuts g n).length) (hbx : ctm g n bot x = bot) : jnK g n bot x n = x := by
  refine at_one (jnK_lt hb n) hx (Sub.eq (jnK_in hg hx hb hbx n (Nat.le_refl _)) fun a ha => ?_)
  have han : a < n := bit_of_lt (cuts_at hx).1 ha
  have key : ∀ k, k ≤ n → a < k → (nth (cuts g n) (jnK g n bot x k)).testBit a = true := by
    intro k
    induction k with
    | zero => intro _ h; exact absurd h (Nat.not_lt_zero _)
    | succ k ih =>
      intro hk hak
      have hp := ctp_is hg (show k < n by omega)
      have bj := (cuts_at (jnK_lt (g := g) (n := n) (x := x) hb k)).1
      by_cases e : a = k
      · subst e
        have h : (ctm g n (ctp g n a) x == ctp g n a) = true := by
          rw [beq_iff_eq, ct_le hp.1 hx, hp.2]
          exact cut_down hn hg ho (cuts_at hx).2 han ha
        rw [jnK_yes h, ctj_is.2]
        refine cut_ext (Nat.or_lt_two_pow bj (cuts_at hp.1).1) a ?_
        rw [Nat.testBit_or, hp.2, upto_bit]
        simp [upt]
      · have := ih (by omega) (by omega)
        cases h : (ctm g n (ctp g n k) x == ctp g n k)
        · rw [jnK_no h]; exact this
        · rw [jnK_yes h, ctj_is.2]
          refine cut_ext (Nat.or_lt_two_pow bj (cuts_at hp.1).1) a ?_
          rw [Nat.testBit_or, this]; rfl
  exact key n (Nat.le_refl _) han
theorem mtK_is {top x : Nat} (hg : ∀ k, k < n → g k < pw n) (hx : x < (cuts g n).length) (ht : top < (cuts g n).length) (htx : ctm g n x top = x) : mtK g n top x n = x := by
  have hin : ∀ k, k ≤ n → Sub (nth (cuts g n) x) (nth (cuts g n) (mtK g n top x k)) := by
    intro k
    induction k with
    | zero => intro _; exact (ct_le hx ht).1 htx
    | succ k ih =>
      intro hk
      have hp := ctp_is hg (show k < n by omega)
      cases h : (ctm g n x (ctp g n k) == x)
      · rw [mtK_no h]; exact ih (by omega)
      · rw [mtK_yes h, (ctm_is (mtK_lt hg ht k (by omega)) hp.1).2]
        intro i hi
        rw [Nat.testBit_and, ih (by omega) i hi, (ct_le hx hp.1).1 (by simpa using h) i hi]; rfl
  refine at_one (mtK_lt hg ht n (Nat.le_refl _)) hx (Sub.eq (fun i hi => ?_) (hin n (Nat.le_refl _)))
  have hout : ∀ k, k ≤ n → ∀ a, a < k → Sub (nth (cuts g n) x) (upto g a) → Sub (nth (cuts g n) (mtK g n top x k)) (upto g a) := by
    intro k
    induction k with
    | zero => intro _ a h; exact absurd h (Nat.not_lt_zero _)
    | succ k ih =>
      intro hk a hak hs
      have hp := ctp_is hg (show k < n by omega)
      have hlt := mtK_lt (x := x) hg ht k (by omega)
      by_cases e : a = k
      · subst e
        have h : (ctm g n x (ctp g n a) == x) = true := by rw [beq_iff_eq, ct_le hx hp.1, hp.2]; exact hs
        rw [mtK_yes h, (ctm_is hlt hp.1).2, hp.2]
        intro j hj
        rw [Nat.testBit_and, Bool.and_eq_true] at hj; exact hj.2
      · have := ih (by omega) a (by omega) hs
        cases h : (ctm g n x (ctp g n k) == x)
        · rw [mtK_no h]; exact this
        · rw [mtK_yes h, (ctm_is hlt hp.1).2]
          intro j hj
          rw [Nat.testBit_and, Bool.and_eq_true] at hj; exact this j hj.1
  rw [← (cuts_at hx).2]
  unfold cutW
  rw [low_bit]
  have hin' : i < n := bit_of_lt (cuts_at (mtK_lt hg ht n (Nat.le_refl _))).1 hi
  refine ⟨hin', fun a ha hb => ?_⟩
  rw [up_bit] at hb
  have := hout n (Nat.le_refl _) a ha (fun j hj => by rw [upto_bit]; exact hb.2 j (bit_of_lt (cuts_at hx).1 hj) hj) i hi
  rw [upto_bit] at this; exact this
end
end Go.Proofs.YthhnngmfbbljaaaGreat
