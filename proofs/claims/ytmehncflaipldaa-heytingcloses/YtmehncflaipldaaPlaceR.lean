/-
  What the reference's Place and IsPermutation answer. Conditions: a slice reads as a slice of numbers.
-/
import Derived.Test.YtmehncflaipldaaNats
namespace Go.Proofs.Ytmehncflaipldaa
open Go.RowKit

/-- Where x stands first; or nowhere. -/
def PlaceAt (f : Nat → Int) (m : Nat) (x : Nat) (r : Int) : Prop := (∃ j : Nat, j < m ∧ r = j ∧ f j = x ∧ ∀ i, i < j → f i ≠ x) ∨ (r = -1 ∧ ∀ j, j < m → f j ≠ x)
theorem placeR_any (a : Option Addr) (m cap : Nat) (f : Nat → Int) (x : Nat) (w : World) (hm : m ≤ maxLen) (hr : Row w a m f) :
    Calls Try.prog 19 #[.slice a m cap, .int .i64 x] w fun e w' => (∃ r : Int, e = .returned (.int .i64 r) ∧ PlaceAt f m x r) ∧ w = w' := by
  unfold maxLen at hm
  have HR : Hid (Row w a m f) := hr
  clear hr
  go_enter Try.func19, Try.ntmps19
  go_wp2_with fail
  go_loopw [5] (fun i wx => ∃ k : Nat, k ≤ m ∧ i = .int .i64 k ∧ wx = w ∧ Hid (∀ j, j < k → f j ≠ x)) (fun i _ => m - (intOf i).toNat)
  case atStart => exact ⟨0, Nat.zero_le _, rfl, rfl, fun j hj => absurd hj (Nat.not_lt_zero _)⟩
  case round =>
    obtain ⟨k, hk, rfl, rfl, HN⟩ := hrel
    by_cases hlt : k < m
    · obtain ⟨b, off, rfl, hc⟩ := HR.out k hlt
      by_cases he : f k = x
      · have he' : (f k == (x : Int)) = true := by rw [he]; simp
        have HE : Hid (PlaceAt f m x k) := .inl ⟨k, hlt, rfl, he, HN.out⟩
        generalize f k = X at *
        clear HN he
        go_wp2_with fail
        go_ret
        exact ⟨⟨_, rfl, HE.out⟩, rfl⟩
      · have he' : (f k == (x : Int)) = false := by simpa using he
        have HN2 : Hid (∀ j, j < k + 1 → f j ≠ x) := fun j hj => by
          by_cases e : j = k
          · subst e; exact he
          · exact HN.out j (by omega)
        generalize f k = X at *
        clear HN he
        go_wp2_with fail
        go_roundw
        case rel => exact ⟨k + 1, by omega, by go_num, by first | rfl | trivial, HN2.out⟩
        case measure => simp [intOf]; omega
    · obtain rfl : k = m := by omega
      have HE : Hid (PlaceAt f k x (-1)) := .inr ⟨rfl, HN.out⟩
      clear HN
      go_wp2_with fail
      go_ret
      exact ⟨⟨_, rfl, HE.out⟩, rfl⟩
theorem place_in (l : List Nat) (a : Option Addr) (m cap x : Nat) (w : World) (hm : m ≤ maxLen) (he : m = l.length) (hr : Row w a l.length (fun k => (nth l k : Nat))) (hx : ∃ k, k < l.length ∧ nth l k = x) :
    Calls Try.prog 19 #[.slice a m cap, .int .i64 x] w fun e w' => (∃ r : Nat, e = .returned (.int .i64 (r : Nat))) ∧ w = w' := by
  subst he
  refine (placeR_any a l.length cap _ x w hm hr).mono ?_
  rintro e w' ⟨⟨r, rfl, h⟩, rfl⟩
  rcases h with ⟨j, _, rfl, _⟩ | ⟨_, h⟩
  · exact ⟨⟨j, rfl⟩, rfl⟩
  · obtain ⟨k, hk, e⟩ := hx
    exact absurd (congrArg (fun z : Nat => (z : Int)) e) (h k hk)
theorem place_out (l : List Nat) (a : Option Addr) (m cap x : Nat) (w : World) (hm : m ≤ maxLen) (he : m = l.length) (hr : Row w a l.length (fun k => (nth l k : Nat))) (hx : ∀ k, k < l.length → nth l k ≠ x) :
    Calls Try.prog 19 #[.slice a m cap, .int .i64 x] w fun e w' => e = .returned (.int .i64 (-1)) ∧ w = w' := by
  subst he
  refine (placeR_any a l.length cap _ x w hm hr).mono ?_
  rintro e w' ⟨⟨r, rfl, h⟩, rfl⟩
  rcases h with ⟨j, hj, _, e, _⟩ | ⟨rfl, _⟩
  · have h2 : ((nth l j : Nat) : Int) = (x : Int) := e
    exact absurd (by omega) (hx j hj)
  · exact ⟨rfl, rfl⟩
end Go.Proofs.Ytmehncflaipldaa
