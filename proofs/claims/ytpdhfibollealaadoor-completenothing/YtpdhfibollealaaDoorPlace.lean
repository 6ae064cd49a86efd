/-
  What tables.Place answers of a list that rises and a number in it: its place. Condition: the list has 1,024 numbers at most.
-/
import Derived.Test.YtpdhfibollealaaDoorNats
namespace Go.Proofs.YtpdhfibollealaaDoor
open Go.RowKit

/-- The list rises. -/
def Rises (l : List Nat) : Prop := ∀ i j, i < j → j < l.length → nth l i < nth l j
theorem Rises.one {l : List Nat} (h : Rises l) {i j : Nat} (hi : i < l.length) (hj : j < l.length) (e : nth l i = nth l j) : i = j := by
  rcases Nat.lt_trichotomy i j with k | k | k
  · have := h i j k hj; omega
  · exact k
  · have := h j i k hi; omega
theorem Rises.lt {l : List Nat} (h : Rises l) {i j : Nat} (hi : i < l.length) (hj : j < l.length) : nth l i < nth l j ↔ i < j := by
  constructor
  · intro k
    apply Classical.byContradiction
    intro hn
    rcases Nat.lt_or_ge j i with q | q
    · have := h j i q hi; omega
    · have : i = j := by omega
      subst this; omega
  · intro k; exact h i j k hj

theorem nanC_any (x : Int) (w : World) : Calls Tryd.prog 34 #[.int .i64 x] w fun e w' => e = .returned (.bool false) ∧ w = w' := by
  have h : (x != x) = false := by simp
  go_enter Tryd.func34, Tryd.ntmps34
  go_wp2
  go_ret
  exact ⟨rfl, rfl⟩
theorem nanS_any (x : Int) (w : World) : Calls Tryd.prog 31 #[.int .i64 x] w fun e w' => e = .returned (.bool false) ∧ w = w' := by
  have h : (x != x) = false := by simp
  go_enter Tryd.func31, Tryd.ntmps31
  go_wp2
  go_ret
  exact ⟨rfl, rfl⟩
theorem cmpLess_any (x y : Int) (v : Bool) (hv : decide (x < y) = v) (w : World) : Calls Tryd.prog 30 #[.int .i64 x, .int .i64 y] w fun e w' => e = .returned (.bool v) ∧ w = w' := by
  subst hv
  go_enter Tryd.func30, Tryd.ntmps30
  go_wp2_with (go_at_call 34; refine (nanC_any _ _).mono ?_; rintro e w' ⟨rfl, rfl⟩)
  go_ret
  exact ⟨rfl, rfl⟩
set_option maxHeartbeats 2000000 in
theorem search_any (l : List Nat) (a : Option Addr) (cap p s : Nat) (w : World) (hl : l.length ≤ 1024) (hr : Row w a l.length (fun k => (nth l k : Nat))) (hs : Rises l) (hp : p < l.length) (he : nth l p = s) :
    Calls Tryd.prog 24 #[.slice a l.length cap, .int .i64 (s : Nat)] w fun e w' => e = .returned (.tuple #[.int .i64 (p : Nat), .bool true]) ∧ Below w.heap.size w w' := by
  obtain ⟨n, HN⟩ : ∃ n, Hid (n = l.length) := ⟨_, rfl⟩
  have HL : Hid (∀ k, k < n → (nth l k < s ↔ k < p)) := fun k hk => by rw [HN.out] at hk; rw [← he]; exact hs.lt hk hp
  have HE : Hid (nth l p = s) := he
  rw [← HN.out] at hl hr hp ⊢
  clear HN he hs
  obtain ⟨b, off, rfl, hc0⟩ := hr p hp
  have HR : Hid (∀ k, k < n → w.cell? ⟨b, off + k, none⟩ = some (.int .i64 (nth l k : Nat))) := fun k hk => by
    obtain ⟨b', off', e, h⟩ := hr k hk
    cases e; exact h
  clear hr hc0
  go_enter Tryd.func24, Tryd.ntmps24
  go_wp2
  go_loopw [7, 8] (fun u v wx => ∃ i j : Nat, u = .int .i64 i ∧ v = .int .i64 j ∧ (i ≤ p ∧ p ≤ j ∧ j ≤ n) ∧ Hid (wx = w)) (fun u v _ => (intOf v).toNat - (intOf u).toNat)
  case atStart => exact ⟨0, n, rfl, rfl, ⟨Nat.zero_le _, by omega, Nat.le_refl _⟩, rfl⟩
  case round =>
    obtain ⟨i, j, rfl, rfl, ⟨h1, h2, h3⟩, HW⟩ := hrel
    obtain rfl := HW.out
    clear HW
    by_cases hlt : i < j
    · obtain ⟨h, HH⟩ : ∃ h, Hid (h = (i + j) / 2) := ⟨_, rfl⟩
      have hh1 : i ≤ h := by rw [HH.out]; omega
      have hh2 : h < j := by rw [HH.out]; omega
      have hq : ((i : Int) + (j : Int)) / 2 = (h : Int) := by rw [HH.out]; omega
      have hck := HR.out h (by omega)
      have hx' : (h : Int) < (n : Int) := by omega
      rcases (Bool.eq_false_or_eq_true (decide (((nth l h : Nat) : Int) < ((s : Nat) : Int)))).symm with hb | hb
      · have hnp : ¬ h < p := fun k => by
          have := (HL.out h (by omega)).2 k
          simp at hb; omega
        go_wp2_with (go_at_call 30; refine (cmpLess_any _ _ _ hb _).mono ?_; rintro e w' ⟨rfl, rfl⟩)
        go_roundw
        case rel => exact ⟨i, h, rfl, rfl, ⟨h1, by omega, by omega⟩, trivial⟩
        case measure => simp [intOf]; omega
      · have hnp : h < p := (HL.out h (by omega)).1 (by simp at hb; omega)
        go_wp2_with (go_at_call 30; refine (cmpLess_any _ _ _ hb _).mono ?_; rintro e w' ⟨rfl, rfl⟩)
        go_roundw
        case rel => exact ⟨h + 1, j, by go_num, rfl, ⟨by omega, by omega, by omega⟩, trivial⟩
        case measure => simp [intOf]; omega
    · have e1 : i = p := by omega
      have e2 : j = p := by omega
      subst e1
      subst e2
      have hck := HR.out j hp
      have hjn : (j : Int) < (n : Int) := by omega
      have hee : (((nth l j : Nat) : Int) == ((s : Nat) : Int)) = true := by rw [HE.out]; exact beq_self_eq_true _
      go_wp2_with fail
      go_ret2
      exact ⟨rfl, Below.refl _ _⟩
theorem place_any (l : List Nat) (a : Option Addr) (cap p s : Nat) (w : World) (hl : l.length ≤ 1024) (hr : Row w a l.length (fun k => (nth l k : Nat))) (hs : Rises l) (hp : p < l.length) (he : nth l p = s) :
    Calls Tryd.prog 17 #[.slice a l.length cap, .int .i64 (s : Nat)] w fun e w' => e = .returned (.int .i64 (p : Nat)) ∧ Below w.heap.size w w' := by
  have HS := search_any l a cap p s w hl hr hs hp he
  clear hr hs hl hp he
  generalize l.length = n at *
  go_enter Tryd.func17, Tryd.ntmps17
  go_wp2_with fail
  refine HS.mono ?_
  rintro e w1 ⟨rfl, hb⟩
  have HB : Hid (Below w.heap.size w w1) := hb
  clear hb
  go_wp2_with fail
  go_ret
  exact ⟨rfl, HB.out⟩
theorem place_n (l : List Nat) (a : Option Addr) (n cap p s : Nat) (w : World) (hn : n = l.length) (hl : l.length ≤ 1024) (hr : Row w a l.length (fun k => (nth l k : Nat))) (hs : Rises l) (hp : p < l.length) (he : nth l p = s) :
    Calls Tryd.prog 17 #[.slice a n cap, .int .i64 (s : Nat)] w fun e w' => e = .returned (.int .i64 (p : Nat)) ∧ Below w.heap.size w w' := by
  subst hn; exact place_any l a cap p s w hl hr hs hp he
end Go.Proofs.YtpdhfibollealaaDoor
