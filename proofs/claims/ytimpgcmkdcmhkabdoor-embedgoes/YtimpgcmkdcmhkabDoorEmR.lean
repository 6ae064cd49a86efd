/-
  What embed.divides, checkRows and least answer. Conditions: as each theorem says.
-/
import Derived.Deep.LoopGhost
import Derived.Test.YtimpgcmkdcmhkabDoorEmQ
namespace Go.Proofs.YtimpgcmkdcmhkabDoor
set_option maxRecDepth 100000
open Go.RowKit

set_option maxHeartbeats 1000000 in
theorem divides_any (a : Option Addr) (l ca : Nat) (f : Nat → Int) (b : Option Addr) (cb : Nat) (h : Nat → Int) (w : World) (hl : l ≤ 12) (ha : Row w a l f) (hb : Row w b l h) :
    Calls Tryd.prog 24 #[.slice a l ca, .slice b l cb] w fun e w' => e = .returned (.bool (divB l f h)) ∧ w = w' := by
  have HA : Hid (Row w a l f) := ha
  have HB : Hid (Row w b l h) := hb
  clear ha hb
  go_enter Tryd.func24, Tryd.ntmps24
  go_wp2_with fail
  go_loopw [9] (fun i wx => ∃ k : Nat, k ≤ l ∧ i = .int .i64 k ∧ wx = w ∧ Hid (∀ j, j < k → f j ≤ h j)) (fun i _ => l - (intOf i).toNat)
  case atStart => exact ⟨0, Nat.zero_le _, rfl, rfl, upto_zero⟩
  case round =>
    obtain ⟨k, hk, rfl, rfl, HK⟩ := hrel
    by_cases hlt : k < l
    · obtain ⟨b1, o1, rfl, c1⟩ := HA.out k hlt
      obtain ⟨b2, o2, rfl, c2⟩ := HB.out k hlt
      by_cases he : f k ≤ h k
      · have he' : decide (h k < f k) = false := by simp; omega
        have HN : Hid (∀ j, j < k + 1 → f j ≤ h j) := upto_succ HK.out he
        go_wp2_with fail
        go_roundw
        case rel => exact ⟨k + 1, by omega, by go_num, by first | rfl | trivial, HN.out⟩
        case measure => simp [intOf]; omega
      · have he' : decide (h k < f k) = true := by simp; omega
        have HN : Hid (divB l f h = false) := by
          unfold divB
          rw [decide_eq_false_iff_not]
          exact fun H => he (H k hlt)
        go_wp2_with fail
        go_ret
        exact ⟨by rw [HN.out]; rfl, rfl⟩
    · obtain rfl : k = l := by omega
      have HN : Hid (divB k f h = true) := decide_eq_true HK.out
      go_wp2_with fail
      go_ret
      exact ⟨by rw [HN.out]; rfl, rfl⟩

/-- Rows of one length; of numbers from 0 to 1000000. -/
def Frm (m : Nat) (S : Nat → Option Addr × Nat × Nat) : Prop := ∀ k, k < m → (S k).2.1 = (S 0).2.1
def Num (m : Nat) (S : Nat → Option Addr × Nat × Nat) (F : Nat → Nat → Int) : Prop := ∀ k, k < m → ∀ i, i < (S k).2.1 → 0 ≤ F k i ∧ F k i ≤ 1000000
/-- What is wrong with rows. -/
def NCk (m : Nat) (S : Nat → Option Addr × Nat × Nat) (F : Nat → Nat → Int) (c : Int) : Prop :=
  (c = 2 ∧ Many m S) ∨ (¬ Many m S ∧ ((c = 1 ∧ ¬ Frm m S) ∨ (Frm m S ∧ ((c = 3 ∧ ¬ Num m S F) ∨ (c = 0 ∧ Num m S F)))))
theorem NCk.one {m : Nat} {S : Nat → Option Addr × Nat × Nat} {F : Nat → Nat → Int} {c d : Int} (h : NCk m S F c) (h' : NCk m S F d) : c = d := by
  rcases h with ⟨h1, h2⟩ | ⟨h2, h3⟩ <;> rcases h' with ⟨k1, k2⟩ | ⟨k2, k3⟩
  · omega
  · exact absurd h2 k2
  · exact absurd k2 h2
  · rcases h3 with ⟨h3, h4⟩ | ⟨h3, h4⟩ <;> rcases k3 with ⟨k3, k4⟩ | ⟨k3, k4⟩
    · omega
    · exact absurd k3 h4
    · exact absurd h3 k4
    · rcases h4 with ⟨h4, h5⟩ | ⟨h4, h5⟩ <;> rcases k4 with ⟨k4, k5⟩ | ⟨k4, k5⟩
      · omega
      · exact absurd k5 h5
      · exact absurd h5 k5
      · omega
theorem NCk.good {m : Nat} {S : Nat → Option Addr × Nat × Nat} {F : Nat → Nat → Int} (h : NCk m S F 0) : ¬ Many m S ∧ Frm m S ∧ Num m S F := by
  rcases h with ⟨h1, _⟩ | ⟨h2, ⟨h3, _⟩ | ⟨h3, ⟨h4, _⟩ | ⟨_, h4⟩⟩⟩
  · omega
  · omega
  · omega
  · exact ⟨h2, h3, h4⟩

set_option maxHeartbeats 2000000 in
theorem checkRows_any (a : Option Addr) (m cap : Nat) (S : Nat → Option Addr × Nat × Nat) (F : Nat → Nat → Int) (w : World) (hm : m ≤ maxLen) (hr : RR w a m S F) :
    Calls Tryd.prog 22 #[.slice a m cap] w fun e w' => (∃ c, e = .returned (.int .i64 c) ∧ NCk m S F c) ∧ w = w' := by
  have HR : Hid (RR w a m S F) := hr
  clear hr
  go_enter Tryd.func22, Tryd.ntmps22
  go_wp2_with fail
  refine (areMany_any a m cap S F w hm HR.out).mono ?_
  rintro e w' ⟨⟨v, rfl, hv⟩, hww⟩
  subst hww
  cases v
  · have HM : Hid (¬ Many m S) := fun h => by have := hv.2 h; cases this
    clear hv
    unfold maxLen at hm
    go_wp2_with fail
    go_loopw [13] (fun i wx => ∃ k : Nat, k ≤ m ∧ i = .int .i64 k ∧ wx = w ∧ Hid (∀ j, j < k → (S j).2.1 = (S 0).2.1)) (fun i _ => m - (intOf i).toNat)
    case atStart => exact ⟨0, Nat.zero_le _, rfl, rfl, upto_zero⟩
    case round =>
      obtain ⟨k, hk, rfl, rfl, HK⟩ := hrel
      by_cases hlt : k < m
      · obtain ⟨b, off, rfl, hc, hl, _⟩ := HR.out k hlt
        obtain ⟨b', off', hbb, hc0, hl0, _⟩ := HR.out 0 (by omega)
        simp at hbb
        obtain ⟨rfl, rfl⟩ := hbb
        rw [Nat.add_zero] at hc0
        unfold maxLen at hl hl0
        by_cases he : (S k).2.1 = (S 0).2.1
        · have he' : (((S k).2.1 : Int) != ((S 0).2.1 : Int)) = false := by simp; omega
          have HN : Hid (∀ j, j < k + 1 → (S j).2.1 = (S 0).2.1) := upto_succ HK.out he
          clear he
          go_wp2_with fail
          go_roundw
          case rel => exact ⟨k + 1, by omega, by go_num, by first | rfl | trivial, HN.out⟩
          case measure => simp [intOf]; omega
        · have he' : (((S k).2.1 : Int) != ((S 0).2.1 : Int)) = true := by simp; omega
          have HN : Hid (¬ Frm m S) := fun h => he (h k hlt)
          clear he
          go_wp2_with fail
          go_ret
          exact ⟨⟨_, rfl, .inr ⟨HM.out, .inl ⟨rfl, HN.out⟩⟩⟩, rfl⟩
      · obtain rfl : k = m := by omega
        have HF : Hid (Frm k S) := HK.out
        clear HK
        go_wp2_with fail
        go_loopw [27] (fun i wx => ∃ q : Nat, q ≤ k ∧ i = .int .i64 q ∧ wx = wr ∧ Hid (Num q S F)) (fun i _ => k - (intOf i).toNat)
        case atStart => exact ⟨0, Nat.zero_le _, rfl, rfl, fun j hj => absurd hj (Nat.not_lt_zero _)⟩
        case round =>
          obtain ⟨q, hq, rfl, rfl, HQ⟩ := hrel
          by_cases hqlt : q < k
          · obtain ⟨b, off, rfl, hc, hl, hrow⟩ := HR.out q hqlt
            unfold maxLen at hl
            have HW : Hid (Row wr (S q).1 (S q).2.1 (F q)) := hrow
            clear hrow
            generalize hs1 : (S q).1 = r1 at *
            generalize hs2 : (S q).2.1 = r2 at *
            generalize hs3 : (S q).2.2 = r3 at *
            go_wp2_with fail
            go_loopw [33] (fun i wx => ∃ y : Nat, y ≤ r2 ∧ i = .int .i64 y ∧ wx = wr ∧ Hid (∀ j, j < y → 0 ≤ F q j ∧ F q j ≤ 1000000)) (fun i _ => r2 - (intOf i).toNat)
            case atStart => exact ⟨0, Nat.zero_le _, rfl, rfl, fun j hj => absurd hj (Nat.not_lt_zero _)⟩
            case round =>
              obtain ⟨y, hy, rfl, rfl, HY⟩ := hrel
              by_cases hylt : y < r2
              · obtain ⟨b', off', hr1, hc'⟩ := HW.out y hylt
                subst hr1
                by_cases hlo : F q y < 0
                · have HN : Hid (¬ Num k S F) := fun h => by
                    have := h q hqlt y (by omega)
                    omega
                  go_wp2_with fail
                  go_ret
                  exact ⟨⟨_, rfl, .inr ⟨HM.out, .inr ⟨HF.out, .inl ⟨rfl, HN.out⟩⟩⟩⟩, rfl⟩
                · by_cases hhi : 1000000 < F q y
                  · have HN : Hid (¬ Num k S F) := fun h => by
                      have := h q hqlt y (by omega)
                      omega
                    go_wp2_with fail
                    go_ret
                    exact ⟨⟨_, rfl, .inr ⟨HM.out, .inr ⟨HF.out, .inl ⟨rfl, HN.out⟩⟩⟩⟩, rfl⟩
                  · have HN : Hid (∀ j, j < y + 1 → 0 ≤ F q j ∧ F q j ≤ 1000000) := upto_succ HY.out ⟨by omega, by omega⟩
                    go_wp2_with fail
                    go_roundw
                    case rel => exact ⟨y + 1, by omega, by go_num, by first | rfl | trivial, HN.out⟩
                    case measure => simp [intOf]; omega
              · obtain rfl : y = r2 := by omega
                have HN : Hid (Num (q + 1) S F) := fun j hj i hi => by
                  by_cases e : j = q
                  · subst e; exact HY.out i (by omega)
                  · exact HQ.out j (by omega) i hi
                go_wp2_with fail
                go_roundw
                case rel => exact ⟨q + 1, by omega, by go_num, by first | rfl | trivial, HN.out⟩
                case measure => simp [intOf]; omega
          · obtain rfl : q = k := by omega
            go_wp2_with fail
            go_ret
            exact ⟨⟨_, rfl, .inr ⟨HM.out, .inr ⟨HF.out, .inr ⟨rfl, HQ.out⟩⟩⟩⟩, rfl⟩
  · have HM : Hid (Many m S) := hv.1 rfl
    clear hv
    go_wp2_with fail
    go_ret
    exact ⟨⟨_, rfl, .inl ⟨rfl, HM.out⟩⟩, rfl⟩
end Go.Proofs.YtimpgcmkdcmhkabDoor
