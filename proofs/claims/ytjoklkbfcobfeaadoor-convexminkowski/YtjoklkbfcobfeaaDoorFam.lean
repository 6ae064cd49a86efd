/-
  What convex.Check and the reference's CheckFamily answer, whatever they are handed. No condition but that a slice reads as a slice of numbers.
-/
import Derived.Test.YtjoklkbfcobfeaaDoorCoM
import Derived.BigQuiet
namespace Go.Proofs.YtjoklkbfcobfeaaDoor
open Go.RowKit

/-- Are all sets sets of n points? -/
def FIn (n len : Nat) (f : Nat → Int) : Prop := ∀ k, k < len → 0 ≤ f k ∧ f k < (pw n : Nat)
/-- Do they rise? -/
def Ris (len : Nat) (f : Nat → Int) : Prop := ∀ k, k < len → 0 < k → f (k - 1) < f k
/-- What Check must answer. -/
def FChk (N : Int) (len : Nat) (f : Nat → Int) (c : Int) : Prop :=
  (c = 2 ∧ ¬ (0 ≤ N ∧ N ≤ 10)) ∨
  ∃ n : Nat, N = n ∧ n ≤ 10 ∧ ((c = 3 ∧ ¬ FIn n len f) ∨ (FIn n len f ∧ ((c = 6 ∧ ¬ Ris len f) ∨ (c = 0 ∧ Ris len f))))
theorem FChk.unique {N : Int} {len : Nat} {f : Nat → Int} {c c' : Int} (h : FChk N len f c) (h' : FChk N len f c') : c = c' := by
  rcases h with ⟨rfl, h⟩ | ⟨n, rfl, hn, h⟩
  · rcases h' with ⟨rfl, _⟩ | ⟨n, rfl, hn, _⟩
    · rfl
    · exact absurd ⟨by omega, by omega⟩ h
  · rcases h' with ⟨rfl, h'⟩ | ⟨n', e, _, h'⟩
    · exact absurd ⟨by omega, by omega⟩ h'
    · obtain rfl : n' = n := by omega
      rcases h with ⟨rfl, h⟩ | ⟨hr, ⟨rfl, h⟩ | ⟨rfl, h⟩⟩ <;> rcases h' with ⟨rfl, h'⟩ | ⟨hr', ⟨rfl, h'⟩ | ⟨rfl, h'⟩⟩ <;> first | rfl | (exact absurd h h') | (exact absurd h' h) | (exact absurd hr h') | (exact absurd hr' h)
theorem FChk.good {N : Int} {len : Nat} {f : Nat → Int} (h : FChk N len f 0) : ∃ n : Nat, N = n ∧ n ≤ 10 ∧ FIn n len f ∧ Ris len f := by
  rcases h with ⟨h, _⟩ | ⟨n, rfl, hn, ⟨h, _⟩ | ⟨hr, ⟨h, _⟩ | ⟨_, h⟩⟩⟩
  · cases h
  · cases h
  · cases h
  · exact ⟨n, rfl, hn, hr, h⟩
theorem FIn.small {n len : Nat} {f : Nat → Int} (h : FIn n len f) : ∀ k, k < len → nat f k < pw n := fun k hk => by
  have := h k hk; unfold nat; omega
theorem FIn.row {n len : Nat} {f : Nat → Int} {w : World} {a : Option Addr} (h : FIn n len f) (hr : Row w a len f) : Row w a len (fun k => (nat f k : Nat)) := fun k hk => by
  obtain ⟨b, off, e, hc⟩ := hr k hk
  have := h k hk
  have e2 : f k = (nat f k : Nat) := by unfold nat; omega
  exact ⟨b, off, e, by rw [hc, e2]⟩
theorem Fam.box {w : World} {n : Int} {a : Option Addr} {len cap : Nat} {f : Nat → Int} (h : Row w a len f) : Held (w.alloc (.cells #[.int .i64 n, .slice a len cap] 24)) w.heap.size n a len cap f :=
  ⟨by simp, by simp, h.below ((Below.refl _ _).alloc (Nat.le_refl _) _)⟩

set_option maxHeartbeats 1000000 in
theorem checkRising_any (N : Int) (a : Option Addr) (len cap : Nat) (f : Nat → Int) (w : World) (hl : len ≤ maxLen) (hr : Row w a len f) :
    Calls Tryd.prog 35 #[.slice a len cap, .int .i64 N] w fun e w' => (∃ c : Int, e = .returned (.int .i64 c) ∧ FChk N len f c) ∧ Below w.heap.size w w' := by
  unfold maxLen at hl
  have HB0 : Hid (Below w.heap.size w w) := Below.refl _ _
  have HR : Hid (Row w a len f) := hr
  clear hr
  by_cases hn : 0 ≤ N ∧ N ≤ 10
  · have hd : cnt N = true := by simpa [cnt] using hn
    obtain ⟨n, rfl⟩ := Int.eq_ofNat_of_zero_le hn.1
    have hn10 : n ≤ 10 := by omega
    clear hn
    go_enter Tryd.func35, Tryd.ntmps35
    go_wp2_with (go_at_call 52; refine (isCount_any _ _).mono ?_; rintro e w' ⟨rfl, rfl⟩)
    go_loop [13] (fun i => ∃ k : Nat, k ≤ len ∧ i = .int .i64 k ∧ Hid (∀ j, j < k → 0 ≤ f j ∧ f j < (pw n : Nat))) (fun i => len - (intOf i).toNat)
    case atStart => exact ⟨0, Nat.zero_le _, rfl, upto_zero⟩
    case round =>
      obtain ⟨k, hk, rfl, hok⟩ := hrel
      by_cases hlt : k < len
      · obtain ⟨b, off, rfl, c0⟩ := HR.out k hlt
        have hlt' : (k : Int) < (len : Int) := by omega
        rcases (Bool.eq_false_or_eq_true (sts (f k) n)).symm with hs | hs
        · have HS : Hid (¬ (0 ≤ f k ∧ f k < (pw n : Nat))) := by simpa [sts, Hid] using hs
          go_wp2_with fail
          refine (isSet_any (f k) n _ hn10).mono ?_
          rintro e w' ⟨rfl, rfl⟩
          rw [hs]
          go_wp2_with fail
          go_ret
          exact ⟨⟨_, rfl, .inr ⟨n, rfl, hn10, .inl ⟨rfl, fun h => HS.out (h k hlt)⟩⟩⟩, HB0.out⟩
        · have HS : Hid (0 ≤ f k ∧ f k < (pw n : Nat)) := by simpa [sts, Hid] using hs
          go_wp2_with fail
          refine (isSet_any (f k) n _ hn10).mono ?_
          rintro e w' ⟨rfl, rfl⟩
          rw [hs]
          go_wp2_with fail
          go_round
          case rel => exact ⟨k + 1, by omega, by go_num, upto_succ hok.out HS.out⟩
          case measure => simp [intOf]; omega
      · obtain rfl : k = len := by omega
        have HIN : Hid (FIn n k f) := hok.out
        clear hok
        go_wp2_with fail
        go_loopw [24] (fun i wx => ∃ j d : Nat, j ≤ k ∧ i = .int .i64 j ∧ Hid (∀ j', j' < j → 0 < j' → f (j' - 1) < f j') ∧ wx = w.drewN d) (fun i _ => k - (intOf i).toNat)
        case atStart => exact ⟨0, 0, Nat.zero_le _, rfl, upto_zero, rfl⟩
        case round =>
          obtain ⟨j, d, hj, rfl, hok, rfl⟩ := hrel
          by_cases hlt2 : j < k
          · obtain ⟨b, off, rfl, c0⟩ := HR.out j hlt2
            have hj' : (j : Int) < (k : Int) := by omega
            by_cases h0 : j = 0
            · subst h0
              have HS : Hid (∀ j', j' < 0 + 1 → 0 < j' → f (j' - 1) < f j') := fun j' h1 h2 => by omega
              go_wp2_with fail
              go_big_quiet (fail)
              go_wp2_with fail
              go_roundw
              case rel => exact ⟨0 + 1, _, by omega, by go_num, HS, rfl⟩
              case measure => simp [intOf]; omega
            · have hj0 : (0 : Int) < (j : Int) := by omega
              obtain ⟨b2, off2, e2, c1⟩ := HR.out (j - 1) (by omega)
              simp at e2
              obtain ⟨rfl, rfl⟩ := e2
              obtain ⟨m, rfl⟩ : ∃ m, j = m + 1 := ⟨j - 1, by omega⟩
              rw [Nat.add_sub_cancel] at c1
              have c1' : w.cell? ⟨b, off + m, none⟩ = some (.int .i64 (f m)) := c1
              have c0' : w.cell? ⟨b, off + (m + 1), none⟩ = some (.int .i64 (f (m + 1))) := c0
              have hm1 : ((m + 1 : Nat) : Int) - 1 = (m : Int) := by omega
              have hm2 : (m : Int) < (k : Int) := by omega
              by_cases hr : f m < f (m + 1)
              · have HS : Hid (∀ j', j' < m + 1 + 1 → 0 < j' → f (j' - 1) < f j') := upto_succ hok.out (fun _ => hr)
                have hr2 : ¬ f (m + 1) ≤ f m := by omega
                clear hok c0 c1
                go_wp2_with fail
                go_big_quiet (fail)
                go_wp2_with fail
                go_roundw
                case rel => exact ⟨m + 1 + 1, _, by omega, by go_num, HS, rfl⟩
                case measure => simp [intOf]; omega
              · have hr2 : f (m + 1) ≤ f m := by omega
                have HS : Hid (¬ Ris k f) := fun h => hr (h (m + 1) hlt2 (by omega))
                clear hok c0 c1
                go_wp2_with fail
                go_big_quiet (fail)
                go_wp2_with fail
                go_ret
                exact ⟨⟨_, rfl, .inr ⟨n, rfl, hn10, .inr ⟨HIN.out, .inl ⟨rfl, HS.out⟩⟩⟩⟩, below_drewN (below_drewN HB0.out _) _⟩
          · obtain rfl : j = k := by omega
            have HS : Hid (Ris j f) := hok.out
            clear hok
            go_wp2_with fail
            go_ret
            exact ⟨⟨_, rfl, .inr ⟨n, rfl, hn10, .inr ⟨HIN.out, .inr ⟨rfl, HS.out⟩⟩⟩⟩, below_drewN HB0.out _⟩
  · have hd : cnt N = false := by simpa [cnt] using hn
    have HN : Hid (¬ (0 ≤ N ∧ N ≤ 10)) := hn
    clear hn
    go_enter Tryd.func35, Tryd.ntmps35
    go_wp2_with (go_at_call 52; refine (isCount_any _ _).mono ?_; rintro e w' ⟨rfl, rfl⟩)
    go_ret
    exact ⟨⟨_, rfl, .inl ⟨rfl, HN.out⟩⟩, HB0.out⟩
theorem fCheck_any (N : Int) (a : Option Addr) (len cap : Nat) (f : Nat → Int) (w : World) (hl : len ≤ maxLen) (hr : Row w a len f) :
    Calls Tryd.prog 12 #[.agg #[.int .i64 N, .slice a len cap]] w fun e w' => (∃ c : Int, e = .returned (.int .i64 c) ∧ FChk N len f c) ∧ Below w.heap.size w w' := by
  have HB0 : Hid (Below w.heap.size w (w.alloc (.cells #[.int .i64 N, .slice a len cap] 24))) := (Below.refl _ _).alloc (Nat.le_refl _) _
  have HR : Hid (Row (w.alloc (.cells #[.int .i64 N, .slice a len cap] 24)) a len f) := hr.below HB0.out
  clear hr
  go_enter Tryd.func12, Tryd.ntmps12
  go_wp2_with fail
  refine (checkRising_any N a len cap f _ hl HR.out).mono ?_
  rintro e w1 ⟨⟨c, rfl, hc⟩, hb⟩
  have HC : Hid (FChk N len f c) := hc
  have HB : Hid (Below w.heap.size w w1) := Below.then HB0.out hb
  clear hc hb HB0 HR
  go_wp2_with fail
  go_ret
  exact ⟨⟨_, rfl, HC.out⟩, HB.out⟩
end Go.Proofs.YtjoklkbfcobfeaaDoor
