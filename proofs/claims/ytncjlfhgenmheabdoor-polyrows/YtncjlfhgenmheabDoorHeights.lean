/-
  What level.Heights answers. No condition but that a slice reads as a slice of numbers.
-/
import Derived.Test.YtncjlfhgenmheabDoorLevels
namespace Go.Proofs.YtncjlfhgenmheabDoor
open Go.RowKit

/-- Of those below k what they are, else nothing. -/
def hk (F : Nat → Nat) (k i : Nat) : Nat := if F i < k then F i else 0
def hx (F : Nat → Nat) (k p i : Nat) : Nat := if i < p then hk F (k + 1) i else hk F k i
theorem hx_zero (F : Nat → Nat) (k : Nat) : hx F k 0 = hk F k := by funext i; simp [hx]
theorem hx_yes {F : Nat → Nat} {k p : Nat} (h : F p = k) : hx F k (p + 1) = upd (hx F k p) p k := by
  funext i
  by_cases e : i = p
  · subst e
    rw [upd_same]
    simp [hx, hk, h]
  · rw [upd_other _ _ _ _ e]
    have : (i < p + 1) = (i < p) := by simp; omega
    simp only [hx, this]
theorem hx_no {F : Nat → Nat} {k p : Nat} (h : F p ≠ k) : hx F k (p + 1) = hx F k p := by
  funext i
  by_cases e : i = p
  · subst e
    have : (F i < k + 1) = (F i < k) := by simp; omega
    simp only [hx, hk, this, Nat.lt_succ_self, if_true, Nat.lt_irrefl, if_false]
  · have : (i < p + 1) = (i < p) := by simp; omega
    simp only [hx, this]
theorem hts_nth (g : Nat → Nat) (n k : Nat) (hk : k < n) : nth (hts g n) k = ht g n k := by simp [nth, hts, mapTo, hk]
theorem levs_nth (g : Nat → Nat) (n k : Nat) (hk : k < tops g n) : nth (levs g n) k = lvS g n k := by simp [nth, levs, levTo, hk]
theorem levs_len (g : Nat → Nat) (n : Nat) : (levs g n).length = tops g n := levTo_len g n _
theorem lvS_bit {g : Nat → Nat} {n h i : Nat} (hi : i < n) : (lvS g n h).testBit i = (ht g n i == h) := by rw [lvS, setBy_bit]; simp [hi]
theorem own_hts {w : World} {b n : Nat} {g : Nat → Nat} (h : Own w b n (ht g n)) : NSl w (.slice (some ⟨b, 0, none⟩) n n) (hts g n) :=
  ⟨some ⟨b, 0, none⟩, n, by rw [hts, mapTo_len], fun k hk => by
    rw [hts, mapTo_len] at hk
    have := h.row k hk
    simp only [hts_nth g n k hk]; exact this⟩

end Go.Proofs.YtncjlfhgenmheabDoor
