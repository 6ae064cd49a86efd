/-
  What the reference's IsPermutation answers; orders bit by bit and as they are checked. Conditions: a slice that reads as a slice of numbers; six points at most.
-/
import Derived.Test.YtfbdgdphpdhcpaaDoorRnM
import Derived.Test.YtfbdgdphpdhcpaaDoorFmF
namespace Go.Proofs.YtfbdgdphpdhcpaaDoor
open Go.RowKit
set_option maxRecDepth 100000

set_option maxHeartbeats 2000000 in
theorem isP_any (a : Option Addr) (m cap n : Nat) (f : Nat → Int) (w : World) (hm : m ≤ maxLen) (hn : n ≤ 10) (hr : Row w a m f) :
    Calls Tryd.prog 27 #[.int .i64 (n : Nat), .slice a m cap] w fun e w' => Ans e (m = n ∧ ∀ p : Nat, p < n → ∃ j, j < n ∧ f j = (p : Nat)) ∧ w = w' := by
  have HR : Hid (Row w a m f) := hr
  have hmm : m ≤ maxLen := hm
  clear hr
  by_cases e1 : m = n
  · subst e1
    unfold maxLen at hm
    go_enter Tryd.func27, Tryd.ntmps27
    go_wp2_with fail
    go_loopw [5] (fun i wx => ∃ k : Nat, k ≤ m ∧ i = .int .i64 k ∧ wx = w ∧ Hid (∀ p : Nat, p < k → ∃ j, j < m ∧ f j = (p : Nat))) (fun i _ => m - (intOf i).toNat)
    case atStart => exact ⟨0, Nat.zero_le _, rfl, rfl, fun j hj => absurd hj (Nat.not_lt_zero _)⟩
    case round =>
      obtain ⟨k, hk, rfl, rfl, HN⟩ := hrel
      by_cases hlt : k < m
      · have hlt' : (k : Int) < (m : Int) := by omega
        go_wp2_with fail
        refine (placeR_any a m cap f k _ hmm HR.out).mono ?_
        rintro e w' ⟨⟨r, rfl, hpl⟩, rfl⟩
        rcases hpl with ⟨j, hj, rfl, hfj, _⟩ | ⟨rfl, hno⟩
        · have HN2 : Hid (∀ p : Nat, p < k + 1 → ∃ j, j < m ∧ f j = (p : Nat)) := fun p hp => by
            by_cases e : p = k
            · subst e; exact ⟨j, hj, hfj⟩
            · exact HN.out p (by omega)
          have hr0 : ¬ ((j : Nat) : Int) < 0 := by omega
          clear hfj HN
          go_wp2_with fail
          go_roundw
          case rel => exact ⟨k + 1, by omega, by go_num, by first | rfl | trivial, HN2.out⟩
          case measure => simp [intOf]; omega
        · have HF : Hid (¬ (m = m ∧ ∀ p : Nat, p < m → ∃ j, j < m ∧ f j = (p : Nat))) := fun h => by
            obtain ⟨j, hj, e⟩ := h.2 k hlt
            exact hno j hj e
          clear hno HN
          go_wp2_with fail
          go_ret
          exact ⟨Ans.no HF.out, rfl⟩
      · obtain rfl : k = m := by omega
        have HF : Hid (∀ p : Nat, p < k → ∃ j, j < k ∧ f j = (p : Nat)) := HN.out
        clear HN
        go_wp2_with fail
        go_ret
        exact ⟨Ans.yes ⟨by first | rfl | trivial, HF.out⟩, by first | rfl | trivial⟩
  · have d1 : ((m : Int) != (n : Int)) = true := by simp; omega
    have HF : Hid (¬ (m = n ∧ ∀ p : Nat, p < n → ∃ j, j < n ∧ f j = (p : Nat))) := fun h => e1 h.1
    clear e1
    go_enter Tryd.func27, Tryd.ntmps27
    go_wp2_with fail
    go_ret
    exact ⟨Ans.no HF.out, rfl⟩
theorem perm_of {n : Nat} {f : Nat → Int} (hn : n ≤ 6) (h : ∀ p : Nat, p < n → ∃ j, j < n ∧ f j = (p : Nat)) : ∃ L, IsP n L ∧ ∀ k, k < n → f k = (nth L k : Nat) := by
  have h1 : ∀ p : Nat, ∃ j, p < n → j < n ∧ f j = (p : Nat) := fun p => by
    by_cases hp : p < n
    · obtain ⟨j, hj, e⟩ := h p hp
      exact ⟨j, fun _ => ⟨hj, e⟩⟩
    · exact ⟨0, fun q => absurd q hp⟩
  obtain ⟨J, hJ⟩ : ∃ J : List Nat, J = (List.range n).map fun p => (h1 p).choose := ⟨_, rfl⟩
  have hJl : J.length = n := by rw [hJ]; simp
  have hJk : ∀ k, k < n → nth J k < n ∧ f (nth J k) = (k : Nat) := fun k hk => by
    have e : nth J k = (h1 k).choose := by
      rw [nth_eq (by omega)]
      simp [hJ]
    rw [e]
    exact (h1 k).choose_spec hk
  have pJ : IsP n J := isP_of hJl (fun k hk => (hJk k hk).1) fun i j hij hj e => by
    have e1 := (hJk i (by omega)).2
    have e2 := (hJk j hj).2
    rw [e] at e1
    omega
  have hback : ∀ k, k < n → ∃ p, p < n ∧ nth J p = k ∧ f k = (p : Nat) := fun k hk => by
    have hm := pJ.has hn hk
    obtain ⟨p, hp, e⟩ := List.mem_iff_getElem.1 hm
    have e2 : nth J p = k := by rw [nth_eq hp]; exact e
    have h3 := (hJk p (by omega)).2
    rw [e2] at h3
    exact ⟨p, by omega, e2, h3⟩
  obtain ⟨L, hL⟩ : ∃ L : List Nat, L = (List.range n).map fun k => (f k).toNat := ⟨_, rfl⟩
  have hLl : L.length = n := by rw [hL]; simp
  have hLk : ∀ k, k < n → nth L k = (f k).toNat := fun k hk => by
    rw [nth_eq (by omega)]
    simp [hL]
  refine ⟨L, isP_of hLl (fun k hk => ?_) (fun i j hij hj e => ?_), fun k hk => ?_⟩
  · obtain ⟨p, hp, _, e⟩ := hback k hk
    rw [hLk k hk]; omega
  · obtain ⟨p, hp, q1, e1⟩ := hback i (by omega)
    obtain ⟨p', hp', q2, e2⟩ := hback j hj
    rw [hLk i (by omega), hLk j hj] at e
    have : p = p' := by omega
    subst this
    omega
  · obtain ⟨p, hp, _, e⟩ := hback k hk
    rw [hLk k hk]; omega
theorem perm_to {n : Nat} {L : List Nat} (hn : n ≤ 6) (hL : IsP n L) (p : Nat) (hp : p < n) : ∃ j, j < n ∧ ((nth L j : Nat) : Int) = (p : Nat) := by
  obtain ⟨j, hj, e⟩ := List.mem_iff_getElem.1 (hL.has hn hp)
  have := hL.1
  exact ⟨j, by omega, by rw [nth_eq hj, e]⟩
theorem po_of {n : Int} {len : Nat} {f : Nat → Int} (h : FCk n len f 0) : PO len (nat f) := by
  obtain ⟨_, h6, hck⟩ := h.good
  obtain ⟨_, h10, hrng, hord⟩ := hck.good
  have hsm : ∀ k, k < len → nat f k < pw len := fun k hk => by
    have := hrng k hk
    unfold nat
    omega
  have hb : ∀ k, k < len → nat f k < 18446744073709551616 := fun k hk => by have h1 := hsm k hk; have h2 := pw_le len h10; omega
  exact ⟨hsm, fun k hk => (hord k hk).1, fun i j k hi hj hk h1 h2 => (lack_zero _ _ (hb j hj) (hb k hk)).1 ((hord k hk).2 j hj h1) i h2⟩
theorem fck_of {len : Nat} {g : Nat → Nat} (h6 : len ≤ 6) (h : PO len g) : FCk len len (fun k => (g k : Nat)) 0 := by
  have h2 := pw_le len (by omega)
  have hb : ∀ k, k < len → g k < 18446744073709551616 := fun k hk => by have h1 := h.sm k hk; omega
  refine ⟨0, .inr ⟨len, rfl, by omega, .inr ⟨rfl, .inr ⟨fun k hk => ⟨Int.natCast_nonneg _, Int.ofNat_lt.2 (h.sm k hk)⟩, .inr ⟨rfl, fun u hu => ⟨h.ir u hu, fun p hp hbt => ?_⟩⟩⟩⟩⟩, by rw [if_pos rfl, if_neg (by omega)]⟩
  refine (lack_zero _ _ (hb p hp) (hb u hu)).2 fun i hi => ?_
  have hi' : (g p).testBit i = true := hi
  exact h.tr i p u (bit_of_lt (h.sm p hp) hi') hp hu hbt hi'
theorem nat_cast (g : Nat → Nat) : nat (fun k => (g k : Nat)) = g := by
  funext k
  simp [nat]
end Go.Proofs.YtfbdgdphpdhcpaaDoor
