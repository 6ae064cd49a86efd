/-
  Where the bytes of an order's text stand. Conditions: numbers below ten in the pairs, at most ten points.
-/
import Derived.Test.YtkakhmkgapnlfaaDoorPrtM
import Derived.Test.YtkakhmkgapnlfaaDoorReadP
namespace Go.Proofs.YtkakhmkgapnlfaaDoor
open Go.RowKit

/-- The text. -/
def txt (n : Nat) (l : List (Nat × Nat)) : ByteArray := ⟨(prt n l).toArray⟩
theorem txt_at (n : Nat) (l : List (Nat × Nat)) (i : Nat) : (txt n l).data[i]? = (prt n l)[i]? := by
  show (prt n l).toArray[i]? = _
  rw [List.getElem?_toArray]
theorem txt_size (n : Nat) (l : List (Nat × Nat)) : (txt n l).size = (prt n l).length := by
  show (prt n l).toArray.size = _
  rw [List.size_toArray]
theorem dgt {p : Nat} (h : p < 10) : (UInt8.ofNat (48 + p)).toNat = 48 + p := by
  rw [UInt8.toNat_ofNat']; omega
theorem acc_pre (n : Nat) (l : List (Nat × Nat)) : ∀ d k, k + d = l.length → ∃ r, prt n l = acc n l k ++ r ∧ (d = 0 → r = []) ∧ (0 < d → ∃ r', r = prPair (l.getD k (0, 0)) ++ r')
  | 0, k, h => ⟨[], by rw [List.append_nil]; unfold prt; rw [← h]; rfl, fun _ => rfl, fun h => absurd h (Nat.lt_irrefl _)⟩
  | d + 1, k, h => by
    obtain ⟨r, e, _, _⟩ := acc_pre n l d (k + 1) (by omega)
    exact ⟨prPair (l.getD k (0, 0)) ++ r, by rw [e, acc_succ, List.append_assoc], fun h => absurd h (by omega), fun _ => ⟨r, rfl⟩⟩
theorem prPair_small {p : Nat × Nat} (h1 : p.1 < 10) (h2 : p.2 < 10) : prPair p = [32, UInt8.ofNat (48 + p.1), 60, UInt8.ofNat (48 + p.2)] := by
  unfold prPair; rw [dg_small h1, dg_small h2]; rfl
theorem acc_pos {n : Nat} {l : List (Nat × Nat)} (h : PB l) : ∀ k, k ≤ l.length → (acc n l k).length = (dg n).length + 1 + 4 * k
  | 0, _ => by show (dg n ++ [58]).length = _; simp
  | k + 1, hk => by
    have ih := acc_pos (n := n) h k (by omega)
    have hp := h k (by omega)
    rw [acc_succ, prPair_small hp.1 hp.2, List.length_append, ih]; simp; omega
/-- What stands where the k-th pair begins. -/
theorem pair_bytes {n : Nat} {l : List (Nat × Nat)} (h : PB l) {k A p1 p2 : Nat} (hk : k < l.length) (hA : (acc n l k).length = A) (e1 : (l.getD k (0, 0)).1 = p1) (e2 : (l.getD k (0, 0)).2 = p2) :
    (txt n l).data[A]? = some 32 ∧ (txt n l).data[A + 1]? = some (UInt8.ofNat (48 + p1)) ∧ (txt n l).data[A + 2]? = some 60 ∧ (txt n l).data[A + 3]? = some (UInt8.ofNat (48 + p2)) ∧ Stop (txt n l) (A + 4) := by
  obtain ⟨d, hd⟩ : ∃ d, k + (d + 1) = l.length := ⟨l.length - k - 1, by omega⟩
  obtain ⟨r, e, _, hr⟩ := acc_pre n l (d + 1) k hd
  obtain ⟨r', rfl⟩ := hr (by omega)
  have hp := h k hk
  rw [prPair_small hp.1 hp.2, e1, e2] at e
  have hat : ∀ j, (txt n l).data[A + j]? = ([32, UInt8.ofNat (48 + p1), 60, UInt8.ofNat (48 + p2)] ++ r')[j]? := fun j => by
    rw [txt_at, e, List.getElem?_append_right (by omega)]
    congr 1; omega
  refine ⟨hat 0, hat 1, hat 2, hat 3, ?_⟩
  by_cases hlast : k + 1 = l.length
  · left
    have h1 : prt n l = acc n l (k + 1) := by unfold prt; rw [hlast]
    rw [txt_size, h1, acc_pos h _ (by omega), ← hA, acc_pos h _ (by omega)]; omega
  · right
    obtain ⟨r2, e2', _, hr2⟩ := acc_pre n l d (k + 1) (by omega)
    obtain ⟨r3, rfl⟩ := hr2 (by omega)
    refine ⟨32, ?_, .inl (by decide)⟩
    have h3 : (acc n l (k + 1)).length = A + 4 := by rw [acc_pos h _ (by omega), ← hA, acc_pos h _ (by omega)]; omega
    rw [txt_at, e2', List.getElem?_append_right (by omega), h3, Nat.sub_self]
    rfl
theorem head_bytes (n : Nat) (l : List (Nat × Nat)) : (∀ j, j < (dg n).length → (txt n l).data[j]? = (dg n)[j]?) ∧ (txt n l).data[(dg n).length]? = some 58 := by
  have e : prt n l = dg n ++ 58 :: prs l l.length := rfl
  refine ⟨fun j hj => ?_, ?_⟩
  · rw [txt_at, e, List.getElem?_append_left hj]
  · rw [txt_at, e, List.getElem?_append_right (Nat.le_refl _), Nat.sub_self]; rfl
theorem number_head (R n : Nat) (l : List (Nat × Nat)) (w : World) (h : Rd w R (txt n l) 0) (hn : n ≤ 10) :
    Calls Tryd.prog 16 #[.pointer (some ⟨R, 0, none⟩), .int .i64 10, .int .i64 2] w fun e w' => e = .returned (.int .i64 (n : Nat)) ∧ MvN R (dg n).length w w' := by
  obtain ⟨h1, h2⟩ := head_bytes n l
  by_cases e : n = 10
  · subst e
    rw [dg_ten] at h1 h2 ⊢
    refine (number_ten R (txt 10 l) 0 10 2 w h (h1 0 (by decide)) (h1 1 (by decide)) (.inr ⟨58, h2, .inr (by decide)⟩) (by decide) (by decide))
  · have hn' : n < 10 := by omega
    rw [dg_small hn'] at h1 h2 ⊢
    exact number_small R (txt n l) 0 n 10 2 _ w h (h1 0 (by simp)) hn' (dgt hn') (.inr ⟨58, h2, .inr (by decide)⟩) (by decide) (by omega)
end Go.Proofs.YtkakhmkgapnlfaaDoor
