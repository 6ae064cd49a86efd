/-
  The dual of an order is an order; its dual is the order; its ideals are the others' rests. Plain facts: no Go text here. Conditions: an order of at most ten points.
-/
import Derived.Test.YtnjmelbnamgjcabIdeals
namespace Go.Proofs.Ytnjmelbnamgjcab
open Go.RowKit

theorem trn_bit (g : Nat → Nat) (n x k : Nat) : (trn g n x).testBit k = (decide (k < n) && (g k).testBit x) := setBy_bit _ n k
theorem trn_lt (g : Nat → Nat) (n x : Nat) : trn g n x < pw n := setBy_lt _ n
theorem big {n x : Nat} (hn : n ≤ 10) (h : x < pw n) : x < 18446744073709551616 := by have := pw_le n hn; omega
theorem trn_ord {g : Nat → Nat} {n : Nat} (hn : n ≤ 10) (hg : ∀ k, k < n → g k < pw n) (ho : Ord n g) : Ord n (trn g n) := by
  intro u hu
  refine ⟨by rw [trn_bit, (ho u hu).1]; simp, fun p hp hb => ?_⟩
  rw [trn_bit] at hb
  simp only [Bool.and_eq_true, decide_eq_true_eq] at hb
  refine (lack_zero _ _ (big hn (trn_lt g n p)) (big hn (trn_lt g n u))).2 fun j hj => ?_
  rw [trn_bit] at hj ⊢
  simp only [Bool.and_eq_true, decide_eq_true_eq] at hj ⊢
  exact ⟨hj.1, (lack_zero _ _ (big hn (hg p hp)) (big hn (hg j hj.1))).1 ((ho j hj.1).2 p hp hj.2) u hb.2⟩
theorem trn_trn {g : Nat → Nat} {n : Nat} (hg : ∀ k, k < n → g k < pw n) (k : Nat) (hk : k < n) : trn (trn g n) n k = g k := by
  refine eq_of_bits (trn_lt _ n k) (hg k hk) fun i hi => ?_
  rw [trn_bit, trn_bit]; simp [hi, hk]
theorem nat_cast (g : Nat → Nat) : nat (fun k => ((g k : Nat) : Int)) = g := by funext k; simp [nat]
theorem trn_chk {g : Nat → Nat} {n : Nat} (hn : n ≤ 10) (hg : ∀ k, k < n → g k < pw n) (ho : Ord n g) : Chk (n : Int) n (fun k => ((trn g n k : Nat) : Int)) 0 := by
  refine .inr ⟨n, rfl, hn, .inr ⟨rfl, .inr ⟨fun k _ => ⟨Int.natCast_nonneg _, Int.ofNat_lt.2 (trn_lt g n k)⟩, .inr ⟨rfl, ?_⟩⟩⟩⟩
  rw [nat_cast]; exact trn_ord hn hg ho

theorem rest_bit {n s : Nat} (hs : s < pw n) (i : Nat) : (pw n - 1 - s).testBit i = (decide (i < n) && !s.testBit i) := by
  have e : pw n - 1 - s = 2 ^ n - (s + 1) := by unfold pw; omega
  rw [e]; exact Nat.testBit_two_pow_sub_succ hs i
theorem idl_rest {g : Nat → Nat} {n s : Nat} (hn : n ≤ 10) (hg : ∀ k, k < n → g k < pw n) (hs : s < pw n) : idlTo (trn g n) (pw n - 1 - s) n = idlTo g s n := by
  have hs' : pw n - 1 - s < pw n := by omega
  rw [Bool.eq_iff_iff, idlTo_iff, idlTo_iff]
  constructor
  · intro h p hp hb
    refine (lack_zero _ _ (big hn (hg p hp)) (big hn hs)).2 fun j hj => ?_
    cases e : s.testBit j
    · have hjn : j < n := bit_of_lt (hg p hp) hj
      have h1 : (pw n - 1 - s).testBit j = true := by rw [rest_bit hs, e]; simp [hjn]
      have h2 := (lack_zero _ _ (big hn (trn_lt g n j)) (big hn hs')).1 (h j hjn h1) p (by rw [trn_bit, hj]; simp [hp])
      rw [rest_bit hs, hb] at h2
      simp at h2
    · rfl
  · intro h p hp hb
    rw [rest_bit hs] at hb
    simp only [Bool.and_eq_true, decide_eq_true_eq, Bool.not_eq_true'] at hb
    refine (lack_zero _ _ (big hn (trn_lt g n p)) (big hn hs')).2 fun j hj => ?_
    rw [trn_bit] at hj
    simp only [Bool.and_eq_true, decide_eq_true_eq] at hj
    rw [rest_bit hs]
    cases e : s.testBit j
    · simp [hj.1]
    · have := (lack_zero _ _ (big hn (hg j hj.1)) (big hn hs)).1 (h j hj.1 e) p hj.2
      rw [hb.2] at this; cases this

theorem fil_filter (I : Nat → Bool) : ∀ k, fil I k = (List.range k).filter I
  | 0 => rfl
  | k + 1 => by
    rw [List.range_succ, List.filter_append, ← fil_filter I k]
    cases h : I k
    · rw [fil_no h]; simp [h]
    · rw [fil_yes h]; simp [h]
theorem range_rev (n : Nat) : (List.range n).reverse = (List.range n).map (fun i => n - 1 - i) := by
  apply List.ext_getElem
  · simp
  · intro i h1 h2
    simp at h1 h2
    simp [List.getElem_reverse]
theorem fil_rest {I J : Nat → Bool} {P : Nat} (h : ∀ s, s < P → J (P - 1 - s) = I s) : (fil J P).reverse = (fil I P).map (fun i => P - 1 - i) := by
  rw [fil_filter, fil_filter, ← List.filter_reverse, range_rev, List.filter_map]
  congr 1
  apply List.filter_congr
  intro s hs
  simp at hs
  simp [h s hs]
theorem fil_lt {I : Nat → Bool} {P i : Nat} (h : i < (fil I P).length) : nth (fil I P) i < P := by
  have e : nth (fil I P) i = (fil I P)[i] := by simp [nth, h]
  rw [e]
  have hm : ∀ x, x ∈ fil I P → x < P := fun x hx => by
    rw [fil_filter] at hx
    simpa using (List.mem_filter.1 hx).1
  exact hm _ (List.getElem_mem h)
theorem rest_len (g : Nat → Nat) (n : Nat) (hn : n ≤ 10) (hg : ∀ k, k < n → g k < pw n) : (idls (trn g n) n).length = (idls g n).length := by
  have := congrArg List.length (fil_rest (I := fun s => idlTo g s n) (J := fun s => idlTo (trn g n) s n) (P := pw n) (fun s hs => idl_rest hn hg hs))
  simpa [idls] using this
theorem rest_at (g : Nat → Nat) (n : Nat) (hn : n ≤ 10) (hg : ∀ k, k < n → g k < pw n) (i : Nat) (hi : i < (idls g n).length) :
    nth (idls g n) i + nth (idls (trn g n) n) ((idls g n).length - 1 - i) = pw n - 1 := by
  have hr := fil_rest (I := fun s => idlTo g s n) (J := fun s => idlTo (trn g n) s n) (P := pw n) (fun s hs => idl_rest hn hg hs)
  have hl := rest_len g n hn hg
  have hlt : nth (idls g n) i < pw n := fil_lt hi
  have e1 : nth (idls (trn g n) n) ((idls g n).length - 1 - i) = pw n - 1 - nth (idls g n) i := by
    have h1 : (idls g n).length - 1 - i < (idls (trn g n) n).length := by omega
    have h2 : i < (idls (trn g n) n).reverse.length := by simp; omega
    have e : (idls (trn g n) n).reverse[i]'h2 = pw n - 1 - (idls g n)[i] := by
      have : (idls (trn g n) n).reverse = (idls g n).map (fun i => pw n - 1 - i) := hr
      simp [this]
    rw [List.getElem_reverse] at e
    simp only [nth, List.getD_eq_getElem?_getD, List.getElem?_eq_getElem h1, List.getElem?_eq_getElem hi, Option.getD_some]
    rw [← e]
    congr 1
    omega
  rw [e1]; omega
end Go.Proofs.Ytnjmelbnamgjcab
