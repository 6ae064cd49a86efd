/-
  The sets of things of concepts: they rise; what two have in common is one, and what they close to together. Conditions: as each theorem says.
-/
import Derived.Test.YtpmgengddnafeabNxtM
import Derived.Test.YtpmgengddnafeabConK
import Derived.Test.YtpmgengddnafeabFilP
namespace Go.Proofs.Ytpmgengddnafeab

theorem nth_app_l {l r : List Nat} {k : Nat} (hk : k < l.length) : nth (l ++ r) k = nth l k := by
  unfold nth; rw [List.getD_eq_getElem?_getD, List.getD_eq_getElem?_getD, List.getElem?_append_left hk]
theorem nth_app_r (l : List Nat) (s : Nat) : nth (l ++ [s]) l.length = s := by
  unfold nth; simp
theorem fil_rises (I : Nat → Bool) : ∀ k, Rises (fil I k)
  | 0 => fun i j _ hj => by simp [fil] at hj
  | k + 1 => by
    have ih := fil_rises I k
    cases h : I k
    · rw [fil_no h]; exact ih
    · rw [fil_yes h]
      intro i j hij hj
      rw [List.length_append, List.length_singleton] at hj
      by_cases e : j = (fil I k).length
      · subst e
        rw [nth_app_l hij, nth_app_r]
        exact ((fil_mem I k _).1 (nth_mem hij)).1
      · rw [nth_app_l (by omega), nth_app_l (by omega)]
        exact ih i j hij (by omega)
/-- Where s stands in a list. -/
def plc (l : List Nat) (s : Nat) : Nat := l.idxOf s
theorem plc_is {l : List Nat} {s : Nat} (h : s ∈ l) : plc l s < l.length ∧ nth l (plc l s) = s := by
  have h1 : l.idxOf s < l.length := List.idxOf_lt_length_of_mem h
  refine ⟨h1, ?_⟩
  unfold nth plc
  rw [List.getD_eq_getElem?_getD, List.getElem?_eq_getElem h1]
  exact List.getElem_idxOf h1

variable {h : Nat → Nat} {n m : Nat}
theorem clt_closing (h10 : n ≤ 10) (m10 : m ≤ 10) (hh : ∀ k, k < n → h k < 1024) : Closing n (clt h n m) := by
  refine ⟨fun A hA => ⟨clt_lt _ _ _ _, (lack_iff (set_1024 h10 hA) (ths_1024 h h10 _)).1 (wil_in h10 m10 hh hA), ?_⟩, fun A x hA hx hcl hs i hi => ?_⟩
  · show ths h n (mks h n m (ths h n (mks h n m A))) = _
    rw [wil_same h10 m10 hh hA]; rfl
  · rw [← hcl]
    exact ths_anti hh (mks_1024 h n m10 x) (mks_1024 h n m10 A) (mks_anti hs) i hi
theorem tsets_mem {s : Nat} : s ∈ tsets h n m ↔ s < pw n ∧ clt h n m s = s := by
  unfold tsets
  rw [fil_mem]
  simp [isT]
theorem tsets_pos (h10 : n ≤ 10) (m10 : m ≤ 10) (hh : ∀ k, k < n → h k < 1024) : 1 ≤ (tsets h n m).length := by
  have hc := (clt_closing h10 m10 hh).1 0 (pw_pos n)
  exact List.length_pos_of_mem (tsets_mem.2 ⟨hc.1, hc.2.2⟩)
theorem tsets_len (h : Nat → Nat) (n m : Nat) (h10 : n ≤ 10) : (tsets h n m).length ≤ 1024 := Nat.le_trans (fil_len _ _) (pw_le n h10)
theorem tsets_rises (h : Nat → Nat) (n m : Nat) : Rises (tsets h n m) := fil_rises _ _
theorem tsets_1024 (h10 : n ≤ 10) {k : Nat} (hk : k < (tsets h n m).length) : nth (tsets h n m) k < 1024 := set_1024 h10 (tsets_at hk).1
/-- The places of what two have in common, and of what they close to together. -/
def cnm (h : Nat → Nat) (n m x y : Nat) : Nat := plc (tsets h n m) (nth (tsets h n m) x &&& nth (tsets h n m) y)
def cnj (h : Nat → Nat) (n m x y : Nat) : Nat := plc (tsets h n m) (clt h n m (nth (tsets h n m) x ||| nth (tsets h n m) y))
theorem cnm_is (h10 : n ≤ 10) (m10 : m ≤ 10) (hh : ∀ k, k < n → h k < 1024) {x y : Nat} (hx : x < (tsets h n m).length) (hy : y < (tsets h n m).length) : cnm h n m x y < (tsets h n m).length ∧ nth (tsets h n m) (cnm h n m x y) = nth (tsets h n m) x &&& nth (tsets h n m) y := by
  obtain ⟨a1, a2⟩ := tsets_at hx
  obtain ⟨b1, b2⟩ := tsets_at hy
  have hlt : nth (tsets h n m) x &&& nth (tsets h n m) y < pw n := Nat.lt_of_le_of_lt Nat.and_le_left a1
  obtain ⟨hC1, hC2⟩ := clt_closing (m := m) h10 m10 hh
  refine plc_is (tsets_mem.2 ⟨hlt, ?_⟩)
  obtain ⟨c1, c2, _⟩ := hC1 _ hlt
  apply Nat.eq_of_testBit_eq
  intro i
  rw [Bool.eq_iff_iff]
  constructor
  · intro hi
    rw [Nat.testBit_and, Bool.and_eq_true]
    exact ⟨hC2 _ _ hlt a1 a2 (fun j hj => by rw [Nat.testBit_and, Bool.and_eq_true] at hj; exact hj.1) i hi, hC2 _ _ hlt b1 b2 (fun j hj => by rw [Nat.testBit_and, Bool.and_eq_true] at hj; exact hj.2) i hi⟩
  · exact c2 i
theorem tor_lt {x y : Nat} (hx : x < (tsets h n m).length) (hy : y < (tsets h n m).length) : nth (tsets h n m) x ||| nth (tsets h n m) y < pw n := Nat.or_lt_two_pow (tsets_at hx).1 (tsets_at hy).1
theorem cnj_is (h10 : n ≤ 10) (m10 : m ≤ 10) (hh : ∀ k, k < n → h k < 1024) {x y : Nat} (hx : x < (tsets h n m).length) (hy : y < (tsets h n m).length) : cnj h n m x y < (tsets h n m).length ∧ nth (tsets h n m) (cnj h n m x y) = clt h n m (nth (tsets h n m) x ||| nth (tsets h n m) y) := by
  obtain ⟨c1, _, c3⟩ := (clt_closing (m := m) h10 m10 hh).1 _ (tor_lt hx hy)
  exact plc_is (tsets_mem.2 ⟨c1, c3⟩)
theorem cnm_great (h10 : n ≤ 10) (m10 : m ≤ 10) (hh : ∀ k, k < n → h k < 1024) {x y : Nat} (hx : x < (tsets h n m).length) (hy : y < (tsets h n m).length) : mZ (insB (tsets h n m)) (tsets h n m).length x y = (cnm h n m x y : Nat) :=
  mZ_is (m := cnm h n m) (tsets_rises _ _ _) (fun _ hk => tsets_1024 h10 hk) hx hy (cnm_is h10 m10 hh hx hy)
theorem cnj_least (h10 : n ≤ 10) (m10 : m ≤ 10) (hh : ∀ k, k < n → h k < 1024) {x y : Nat} (hx : x < (tsets h n m).length) (hy : y < (tsets h n m).length) : jZ (insB (tsets h n m)) (tsets h n m).length x y = (cnj h n m x y : Nat) := by
  obtain ⟨h1, h2⟩ := cnj_is h10 m10 hh hx hy
  obtain ⟨hC1, hC2⟩ := clt_closing (m := m) h10 m10 hh
  refine jZ_is (tsets_rises _ _ _) (fun _ hk => tsets_1024 h10 hk) hx hy h1 (fun i hi => ?_) (fun k hk hs i hi => ?_)
  · rw [h2]
    refine (hC1 _ (tor_lt hx hy)).2.1 i ?_
    rw [Nat.testBit_or, Bool.or_eq_true]; exact hi
  · rw [h2] at hi
    obtain ⟨k1, k2⟩ := tsets_at hk
    exact hC2 _ _ (tor_lt hx hy) k1 k2 (fun j hj => by rw [Nat.testBit_or, Bool.or_eq_true] at hj; exact hs j hj) i hi
theorem cons_length (h : Nat → Nat) (n m : Nat) : (cons h n m).length = (tsets h n m).length := by unfold cons; rw [List.length_map]
theorem cons_at {k : Nat} (hk : k < (tsets h n m).length) : (pairAt (cons h n m) k).1 = ((nth (tsets h n m) k : Nat) : Int) := by
  unfold pairAt cons nth
  rw [List.getD_eq_getElem?_getD, List.getD_eq_getElem?_getD, List.getElem?_map, List.getElem?_eq_getElem hk]; rfl
end Go.Proofs.Ytpmgengddnafeab
