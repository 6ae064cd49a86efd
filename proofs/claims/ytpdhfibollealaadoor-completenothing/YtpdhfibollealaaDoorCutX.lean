/-
  Cuts: the least one that has a set in it; what two have in common is one; a point and all below it are one. Conditions: as each theorem says.
-/
import Derived.Test.YtpdhfibollealaaDoorCutO
import Derived.Test.YtpdhfibollealaaDoorFilM
namespace Go.Proofs.YtpdhfibollealaaDoor

theorem low_bit (g : Nat → Nat) (n s i : Nat) : (low g n s).testBit i = true ↔ i < n ∧ ∀ k, k < n → s.testBit k = true → upt g i k = true := by
  show (lwr g n s n).testBit i = true ↔ _
  rw [lwr_bit, Bool.and_eq_true, decide_eq_true_iff, allB_iff]
  constructor
  · rintro ⟨h1, h2⟩
    exact ⟨h1, fun k hk hb => by have := h2 k hk; rw [hb] at this; simpa using this⟩
  · rintro ⟨h1, h2⟩
    refine ⟨h1, fun k hk => ?_⟩
    cases hb : s.testBit k
    · rfl
    · simpa using h2 k hk hb
theorem upt_trn {g : Nat → Nat} {n i k : Nat} (hi : i < n) : upt (trn g n) i k = upt g k i := by
  unfold upt
  rw [trn_bit]
  simp only [hi, decide_true, Bool.true_and]
  congr 1
  by_cases e : i = k
  · subst e; simp
  · have : ¬ k = i := fun x => e x.symm
    simp [e, this]
theorem up_bit (g : Nat → Nat) (n s i : Nat) : (low (trn g n) n s).testBit i = true ↔ i < n ∧ ∀ k, k < n → s.testBit k = true → upt g k i = true := by
  rw [low_bit]
  constructor
  · rintro ⟨h1, h2⟩
    exact ⟨h1, fun k hk hb => by have := h2 k hk hb; rw [upt_trn h1] at this; exact this⟩
  · rintro ⟨h1, h2⟩
    exact ⟨h1, fun k hk hb => by rw [upt_trn h1]; exact h2 k hk hb⟩
/-- Each bit of s is one of t. -/
def Sub (s t : Nat) : Prop := ∀ i, s.testBit i = true → t.testBit i = true
theorem Sub.eq {s t : Nat} (h : Sub s t) (h' : Sub t s) : s = t := by
  apply Nat.eq_of_testBit_eq
  intro i
  rw [Bool.eq_iff_iff]
  exact ⟨h i, h' i⟩
theorem Sub.tr {s t u : Nat} (h : Sub s t) (h' : Sub t u) : Sub s u := fun i hi => h' i (h i hi)
theorem low_anti {g : Nat → Nat} {n s t : Nat} (h : Sub s t) : Sub (low g n t) (low g n s) := fun i hi => by
  rw [low_bit] at hi ⊢
  exact ⟨hi.1, fun k hk hb => hi.2 k hk (h k hb)⟩
theorem cut_ext {g : Nat → Nat} {n s : Nat} (hs : s < pw n) : Sub s (cutW g n s) := fun i hi => by
  have hin : i < n := bit_of_lt hs hi
  unfold cutW
  rw [low_bit]
  refine ⟨hin, fun k hk hb => ?_⟩
  rw [up_bit] at hb
  exact hb.2 i hin hi
theorem cut_mono {g : Nat → Nat} {n s t : Nat} (h : Sub s t) : Sub (cutW g n s) (cutW g n t) := low_anti (low_anti h)
theorem up_ext {g : Nat → Nat} {n s : Nat} (hs : s < pw n) : Sub s (low (trn g n) n (low g n s)) := fun i hi => by
  have hin : i < n := bit_of_lt hs hi
  rw [up_bit]
  refine ⟨hin, fun k hk hb => ?_⟩
  rw [low_bit] at hb
  exact hb.2 i hin hi
theorem cut_idem {g : Nat → Nat} {n s : Nat} : cutW g n (cutW g n s) = cutW g n s := by
  refine Sub.eq ?_ (cut_ext (cutW_lt g n s))
  unfold cutW
  exact low_anti (up_ext (low_lt _ _ _))
theorem isCut_iff {g : Nat → Nat} {n s : Nat} : isCut g n s = true ↔ cutW g n s = s := by unfold isCut; exact decide_eq_true_iff
theorem cut_and {g : Nat → Nat} {n s t : Nat} (hs : s < pw n) (h1 : cutW g n s = s) (h2 : cutW g n t = t) : cutW g n (s &&& t) = s &&& t := by
  refine Sub.eq (fun i hi => ?_) (cut_ext (Nat.lt_of_le_of_lt Nat.and_le_left hs))
  rw [Nat.testBit_and, Bool.and_eq_true]
  have a1 := cut_mono (g := g) (n := n) (s := s &&& t) (t := s) (fun j hj => by rw [Nat.testBit_and, Bool.and_eq_true] at hj; exact hj.1) i hi
  have a2 := cut_mono (g := g) (n := n) (s := s &&& t) (t := t) (fun j hj => by rw [Nat.testBit_and, Bool.and_eq_true] at hj; exact hj.2) i hi
  rw [h1] at a1
  rw [h2] at a2
  exact ⟨a1, a2⟩
theorem upto_lt_pw {g : Nat → Nat} {n p : Nat} (hg : ∀ k, k < n → g k < pw n) (hp : p < n) : upto g p < pw n := Nat.or_lt_two_pow (hg p hp) (Nat.pow_lt_pow_right (by decide) hp)
theorem upto_cut {g : Nat → Nat} {n p : Nat} (hg : ∀ k, k < n → g k < pw n) (hp : p < n) : cutW g n (upto g p) = upto g p := by
  refine Sub.eq (fun i hi => ?_) (cut_ext (upto_lt_pw hg hp))
  unfold cutW at hi
  rw [low_bit] at hi
  rw [upto_bit]
  refine hi.2 p hp ?_
  rw [up_bit]
  exact ⟨hp, fun k _ hb => by rw [upto_bit] at hb; exact hb⟩
/-- The lower set of a point alone. -/
theorem bnd_point {g : Nat → Nat} {n p : Nat} (hg : ∀ k, k < n → g k < pw n) (hp : p < n) : bnd g n (pw p) false = upto g p := by
  rw [← low_bound]
  refine Sub.eq (fun i hi => ?_) (fun i hi => ?_)
  · rw [low_bit] at hi
    rw [upto_bit]
    exact hi.2 p hp (by rw [pw_bit]; simp)
  · rw [low_bit]
    refine ⟨bit_of_lt (upto_lt_pw hg hp) hi, fun k _ hb => ?_⟩
    rw [pw_bit, decide_eq_true_iff] at hb
    subst hb
    rw [upto_bit] at hi; exact hi
theorem cuts_mem {g : Nat → Nat} {n s : Nat} : s ∈ cuts g n ↔ s < pw n ∧ cutW g n s = s := by
  unfold cuts
  rw [fil_mem, isCut_iff]
theorem cuts_at {g : Nat → Nat} {n k : Nat} (hk : k < (cuts g n).length) : nth (cuts g n) k < pw n ∧ cutW g n (nth (cuts g n) k) = nth (cuts g n) k := cuts_mem.1 (nth_mem hk)
def ctm (g : Nat → Nat) (n x y : Nat) : Nat := plc (cuts g n) (nth (cuts g n) x &&& nth (cuts g n) y)
def ctj (g : Nat → Nat) (n x y : Nat) : Nat := plc (cuts g n) (cutW g n (nth (cuts g n) x ||| nth (cuts g n) y))
def ctp (g : Nat → Nat) (n p : Nat) : Nat := plc (cuts g n) (upto g p)
theorem ctm_is {g : Nat → Nat} {n x y : Nat} (hx : x < (cuts g n).length) (hy : y < (cuts g n).length) : ctm g n x y < (cuts g n).length ∧ nth (cuts g n) (ctm g n x y) = nth (cuts g n) x &&& nth (cuts g n) y := by
  obtain ⟨a, b⟩ := cuts_at hx
  obtain ⟨_, d⟩ := cuts_at hy
  exact plc_is (cuts_mem.2 ⟨Nat.lt_of_le_of_lt Nat.and_le_left a, cut_and a b d⟩)
theorem ctj_is {g : Nat → Nat} {n x y : Nat} : ctj g n x y < (cuts g n).length ∧ nth (cuts g n) (ctj g n x y) = cutW g n (nth (cuts g n) x ||| nth (cuts g n) y) :=
  plc_is (cuts_mem.2 ⟨cutW_lt _ _ _, cut_idem⟩)
theorem ctp_is {g : Nat → Nat} {n p : Nat} (hg : ∀ k, k < n → g k < pw n) (hp : p < n) : ctp g n p < (cuts g n).length ∧ nth (cuts g n) (ctp g n p) = upto g p :=
  plc_is (cuts_mem.2 ⟨upto_lt_pw hg hp, upto_cut hg hp⟩)
theorem cuts_pos (g : Nat → Nat) (n : Nat) : 1 ≤ (cuts g n).length := by
  have : cutW g n (pw n - 1) ∈ cuts g n := cuts_mem.2 ⟨cutW_lt _ _ _, cut_idem⟩
  exact List.length_pos_of_mem this
end Go.Proofs.YtpdhfibollealaaDoor
