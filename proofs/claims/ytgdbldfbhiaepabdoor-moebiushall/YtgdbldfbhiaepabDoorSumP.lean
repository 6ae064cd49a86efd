/-
  What moebius.check and moebius.Sums answer. Condition: slices read as slices of numbers.
-/
import Derived.Test.YtgdbldfbhiaepabDoorMuP
import Derived.Test.YtgdbldfbhiaepabDoorLevels
namespace Go.Proofs.YtgdbldfbhiaepabDoor
open Go.RowKit Go.Maps

/-- Is it no less and no more than a sum may be? -/
def inR (x : Int) : Prop := -1000000 ≤ x ∧ x ≤ 1000000
/-- What must be said of an order and its points' numbers. -/
def SmCk (n : Int) (len : Nat) (f : Nat → Int) (la : Nat) (F : Nat → Int) (c : Int) : Prop :=
  (c ≠ 0 ∧ Chk n len f c) ∨ (Chk n len f 0 ∧ ((c = 1 ∧ la ≠ len) ∨ (la = len ∧ ((c = 3 ∧ ∃ k, k < la ∧ ¬ inR (F k)) ∨ (c = 0 ∧ ∀ k, k < la → inR (F k))))))
theorem SmCk.unique {n : Int} {len : Nat} {f : Nat → Int} {la : Nat} {F : Nat → Int} {c c' : Int} (h : SmCk n len f la F c) (h' : SmCk n len f la F c') : c = c' := by
  rcases h with ⟨h0, h⟩ | ⟨h, k⟩ <;> rcases h' with ⟨h0', h'⟩ | ⟨h', k'⟩
  · exact h.unique h'
  · exact absurd (h.unique h') h0
  · exact absurd (h'.unique h) h0'
  · rcases k with ⟨rfl, k⟩ | ⟨k, ⟨rfl, x, hx, hn⟩ | ⟨rfl, ha⟩⟩ <;> rcases k' with ⟨rfl, k'⟩ | ⟨k', ⟨rfl, x', hx', hn'⟩ | ⟨rfl, ha'⟩⟩
    all_goals first | rfl | exact absurd k' k | exact absurd k k' | exact absurd (ha' x hx) hn | exact absurd (ha x' hx') hn'
/-- A slice of numbers. -/
def ISl (w : World) (v : Value) (n : Nat) (F : Nat → Int) : Prop := ∃ a cap, v = .slice a n cap ∧ Row w a n F
theorem ISl.below {w w' : World} {v : Value} {n : Nat} {F : Nat → Int} (h : ISl w v n F) (hb : Below w.heap.size w w') : ISl w' v n F := by
  obtain ⟨a, cap, rfl, hr⟩ := h
  exact ⟨a, cap, rfl, hr.below hb⟩
theorem Row.congr {w : World} {a : Option Addr} {n : Nat} {F G : Nat → Int} (h : Row w a n F) (e : ∀ k, k < n → F k = G k) : Row w a n G := fun k hk => by
  obtain ⟨b, off, h1, h2⟩ := h k hk
  exact ⟨b, off, h1, by rw [← e k hk]; exact h2⟩

set_option maxHeartbeats 1000000 in
theorem checkS_any (n : Int) (a : Option Addr) (len cap : Nat) (f : Nat → Int) (a' : Option Addr) (la cap' : Nat) (F : Nat → Int) (w : World) (hl : len ≤ maxLen) (hla : la ≤ maxLen) (hr : Row w a len f) (hr' : Row w a' la F) :
    Calls Tryd.prog 29 #[.agg #[.int .i64 n, .slice a len cap], .slice a' la cap'] w fun e w' => (∃ c, e = .returned (.int .i64 c) ∧ SmCk n len f la F c) ∧ Below w.heap.size w w' := by
  have K0 : Held (w.alloc (.cells #[.int .i64 n, .slice a len cap] 24)) w.heap.size n a len cap f := Held.box hr
  have HB0 : Hid (Below w.heap.size w (w.alloc (.cells #[.int .i64 n, .slice a len cap] 24))) := (Below.refl _ _).alloc (Nat.le_refl _) _
  have HR : Hid (Row w a' la F) := hr'
  clear hr hr'
  go_enter Tryd.func29, Tryd.ntmps29
  go_wp2_with fail
  refine (check_any n a len cap f _ hl K0.row).mono ?_
  rintro e w1 ⟨⟨c, rfl, hc⟩, hb⟩
  have K1 := K0.step hb
  have k0 := K1.c0
  have HB1 : Hid (Below w.heap.size w w1) := Below.then HB0.out hb
  have HC : Hid (Chk n len f c) := hc
  clear hb K0 HB0 hc K1
  unfold maxLen at hla
  by_cases h0 : c = 0
  · subst h0
    obtain ⟨rfl, h10, _, _⟩ := HC.out.good
    by_cases hlen : la = len
    · subst hlen
      have hR1 := HR.out.below HB1.out
      have HR1 : Hid (Row w1 a' la F) := hR1
      clear hR1 HR
      go_wp2_with fail
      go_loop [20] (fun i => ∃ k : Nat, k ≤ la ∧ i = .int .i64 k ∧ Hid (∀ u, u < k → inR (F u))) (fun i => la - (intOf i).toNat)
      case atStart => exact ⟨0, Nat.zero_le _, rfl, upto_zero⟩
      case round =>
        obtain ⟨k, hk, rfl, HU⟩ := hrel
        by_cases hkl : k < la
        · obtain ⟨b', off', rfl, hcc⟩ := HR1.out.at hkl
          have hck := hcc k hkl
          have hlr : (k : Int) < (la : Int) := by omega
          clear hcc
          by_cases hF1 : F k < -1000000
          · have HF : Hid (SmCk la la f la F 3) := .inr ⟨HC.out, .inr ⟨rfl, .inl ⟨rfl, k, hkl, fun h => by have := h.1; omega⟩⟩⟩
            go_wp2_with fail
            go_ret
            exact ⟨⟨3, rfl, HF.out⟩, HB1.out⟩
          · by_cases hF2 : F k > 1000000
            · have HF : Hid (SmCk la la f la F 3) := .inr ⟨HC.out, .inr ⟨rfl, .inl ⟨rfl, k, hkl, fun h => by have := h.2; omega⟩⟩⟩
              have hF1' : decide (F k < -1000000) = false := by simpa using hF1
              go_wp2_with fail
              go_ret
              exact ⟨⟨3, rfl, HF.out⟩, HB1.out⟩
            · have HF : Hid (inR (F k)) := ⟨by omega, by omega⟩
              go_wp2_with fail
              go_round
              case rel => exact ⟨k + 1, by omega, by go_num, upto_succ HU.out HF.out⟩
              case measure => simp [intOf]; omega
        · obtain rfl : k = la := by omega
          have HF : Hid (SmCk k k f k F 0) := .inr ⟨HC.out, .inr ⟨rfl, .inr ⟨rfl, HU.out⟩⟩⟩
          go_wp2_with fail
          go_ret
          exact ⟨⟨0, rfl, HF.out⟩, HB1.out⟩
    · have HF : Hid (SmCk len len f la F 1) := .inr ⟨HC.out, .inl ⟨rfl, hlen⟩⟩
      have hne : ((la : Int) != (len : Int)) = true := by simp; omega
      go_wp2_with fail
      go_ret
      exact ⟨⟨1, rfl, HF.out⟩, HB1.out⟩
  · have hne : (c != 0) = true := by simpa using h0
    go_wp2_with fail
    go_ret
    exact ⟨⟨c, rfl, .inl ⟨h0, HC.out⟩⟩, HB1.out⟩

end Go.Proofs.YtgdbldfbhiaepabDoor
