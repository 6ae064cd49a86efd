/-
  What embed.areMany, checkWords, goesInto, divides and checkRows answer. Conditions: as each theorem says.
-/
import Derived.Deep.RegionHeld3
import Derived.WalkMore
import Derived.Test.YtimpgcmkdcmhkabDoorEmM
namespace Go.Proofs.YtimpgcmkdcmhkabDoor
set_option maxRecDepth 100000
open Go.RowKit

/-- Too many lists, or too many in one. -/
def Many (m : Nat) (S : Nat → Option Addr × Nat × Nat) : Prop := 12 < m ∨ ∃ k, k < m ∧ 12 < (S k).2.1
/-- All are letters of n. -/
def Lets (n : Int) (m : Nat) (S : Nat → Option Addr × Nat × Nat) (F : Nat → Nat → Int) : Prop := ∀ k, k < m → ∀ i, i < (S k).2.1 → 0 ≤ F k i ∧ F k i < n
/-- What is wrong with words. -/
def WCk (n : Int) (len : Nat) (f : Nat → Int) (m : Nat) (S : Nat → Option Addr × Nat × Nat) (F : Nat → Nat → Int) (c : Int) : Prop :=
  (c ≠ 0 ∧ Chk n len f c) ∨ (Chk n len f 0 ∧ ((c = 2 ∧ Many m S) ∨ (¬ Many m S ∧ ((c = 3 ∧ ¬ Lets n m S F) ∨ (c = 0 ∧ Lets n m S F)))))
theorem WCk.one {n : Int} {len : Nat} {f : Nat → Int} {m : Nat} {S : Nat → Option Addr × Nat × Nat} {F : Nat → Nat → Int} {c d : Int} (h : WCk n len f m S F c) (h' : WCk n len f m S F d) : c = d := by
  rcases h with ⟨h1, h2⟩ | ⟨h2, h3⟩ <;> rcases h' with ⟨k1, k2⟩ | ⟨k2, k3⟩
  · exact h2.unique k2
  · exact absurd (h2.unique k2) h1
  · exact absurd (k2.unique h2) k1
  · rcases h3 with ⟨h3, h4⟩ | ⟨h3, h4⟩ <;> rcases k3 with ⟨k3, k4⟩ | ⟨k3, k4⟩
    · omega
    · exact absurd h4 k3
    · exact absurd k4 h3
    · rcases h4 with ⟨h4, h5⟩ | ⟨h4, h5⟩ <;> rcases k4 with ⟨k4, k5⟩ | ⟨k4, k5⟩
      · omega
      · exact absurd k5 h5
      · exact absurd h5 k5
      · omega
theorem WCk.good {n : Int} {len : Nat} {f : Nat → Int} {m : Nat} {S : Nat → Option Addr × Nat × Nat} {F : Nat → Nat → Int} (h : WCk n len f m S F 0) : Chk n len f 0 ∧ ¬ Many m S ∧ Lets n m S F := by
  rcases h with ⟨h1, _⟩ | ⟨h2, ⟨h3, _⟩ | ⟨h3, ⟨h4, _⟩ | ⟨_, h4⟩⟩⟩
  · exact absurd rfl h1
  · omega
  · omega
  · exact ⟨h2, h3, h4⟩

set_option maxHeartbeats 1000000 in
theorem areMany_any (a : Option Addr) (m cap : Nat) (S : Nat → Option Addr × Nat × Nat) (F : Nat → Nat → Int) (w : World) (hm : m ≤ maxLen) (hr : RR w a m S F) :
    Calls Tryd.prog 30 #[.slice a m cap] w fun e w' => Ans e (Many m S) ∧ w = w' := by
  have HR : Hid (RR w a m S F) := hr
  clear hr
  unfold maxLen at hm
  by_cases hn : 12 < m
  · have hn' : decide ((12 : Int) < (m : Int)) = true := by simp; omega
    have HN : Hid (Many m S) := .inl hn
    go_enter Tryd.func30, Tryd.ntmps30
    go_wp2_with fail
    go_ret
    exact ⟨Ans.yes HN.out, rfl⟩
  · have hn' : decide ((12 : Int) < (m : Int)) = false := by simp; omega
    go_enter Tryd.func30, Tryd.ntmps30
    go_wp2_with fail
    go_loopw [10] (fun i wx => ∃ k : Nat, k ≤ m ∧ i = .int .i64 k ∧ wx = w ∧ Hid (∀ j, j < k → ¬ 12 < (S j).2.1)) (fun i _ => m - (intOf i).toNat)
    case atStart => exact ⟨0, Nat.zero_le _, rfl, rfl, fun j hj => absurd hj (Nat.not_lt_zero _)⟩
    case round =>
      obtain ⟨k, hk, rfl, rfl, HK⟩ := hrel
      by_cases hlt : k < m
      · obtain ⟨b, off, rfl, hc, hl, _⟩ := HR.out k hlt
        unfold maxLen at hl
        by_cases he : 12 < (S k).2.1
        · have he' : decide ((12 : Int) < ((S k).2.1 : Int)) = true := by simp; omega
          have HN : Hid (Many m S) := .inr ⟨k, hlt, he⟩
          go_wp2_with fail
          go_ret
          exact ⟨Ans.yes HN.out, rfl⟩
        · have he' : decide ((12 : Int) < ((S k).2.1 : Int)) = false := by simp; omega
          have HN : Hid (∀ j, j < k + 1 → ¬ 12 < (S j).2.1) := upto_succ HK.out he
          go_wp2_with fail
          go_roundw
          case rel => exact ⟨k + 1, by omega, by go_num, by first | rfl | trivial, HN.out⟩
          case measure => simp [intOf]; omega
      · obtain rfl : k = m := by omega
        have HN : Hid (¬ Many k S) := fun h => by
          rcases h with h | ⟨j, h1, h2⟩
          · exact hn h
          · exact HK.out j h1 h2
        go_wp2_with fail
        go_ret
        exact ⟨Ans.no HN.out, rfl⟩
theorem bel_one (w : World) (c : Obj) : Below w.heap.size w (w.alloc c) := (Below.refl _ _).alloc (Nat.le_refl _) _

set_option maxHeartbeats 2000000 in
theorem checkWords_any (n : Int) (ao : Option Addr) (len co : Nat) (f : Nat → Int) (a : Option Addr) (m cap : Nat) (S : Nat → Option Addr × Nat × Nat) (F : Nat → Nat → Int) (w : World) (hl : len ≤ maxLen) (ho : Row w ao len f) (hm : m ≤ maxLen) (hr : RR w a m S F) :
    Calls Tryd.prog 18 #[.agg #[.int .i64 n, .slice ao len co], .slice a m cap] w fun e w' => (∃ c, e = .returned (.int .i64 c) ∧ WCk n len f m S F c) ∧ Below w.heap.size w w' := by
  have HB0 : Hid (Below w.heap.size w (w.alloc (.cells #[.int .i64 n, .slice ao len co] 24))) := bel_one w _
  have K0 : Hid (Held (w.alloc (.cells #[.int .i64 n, .slice ao len co] 24)) w.heap.size n ao len co f) := Held.box ho
  have HR0 : Hid (RR w a m S F) := hr
  clear ho hr
  have k0 := K0.out.c0
  have k1 := K0.out.c1
  go_enter Tryd.func18, Tryd.ntmps18
  go_wp2_with fail
  refine (check_any n ao len co f _ hl K0.out.row).mono ?_
  rintro e w1 ⟨⟨c, rfl, hc⟩, hb1⟩
  have HB1 : Hid (Below w.heap.size w w1) := Below.then HB0.out hb1
  have K1 : Hid (Held w1 w.heap.size n ao len co f) := K0.out.step hb1
  have HR : Hid (RR w1 a m S F) := (HR0.out.below HB0.out).below hb1
  have HC : Hid (Chk n len f c) := hc
  clear hb1 hc HB0 K0 k0 k1 HR0
  have k0 := K1.out.c0
  have k1 := K1.out.c1
  by_cases h0 : c = 0
  · subst h0
    go_wp2_with fail
    refine (areMany_any a m cap S F w1 hm HR.out).mono ?_
    rintro e w' ⟨⟨v, rfl, hv⟩, hww⟩
    subst hww
    cases v
    · have HM : Hid (¬ Many m S) := fun h => by have := hv.2 h; cases this
      clear hv
      unfold maxLen at hm
      go_wp2_with fail
      go_loopw [19] (fun i wx => ∃ k : Nat, k ≤ m ∧ i = .int .i64 k ∧ wx = w1 ∧ Hid (Lets n k S F)) (fun i _ => m - (intOf i).toNat)
      case atStart => exact ⟨0, Nat.zero_le _, rfl, rfl, fun j hj => absurd hj (Nat.not_lt_zero _)⟩
      case round =>
        obtain ⟨k, hk, rfl, rfl, HK⟩ := hrel
        by_cases hlt : k < m
        · obtain ⟨b, off, rfl, hc, hl, hrow⟩ := HR.out k hlt
          unfold maxLen at hl
          have HW : Hid (Row wr (S k).1 (S k).2.1 (F k)) := hrow
          clear hrow
          generalize hs1 : (S k).1 = r1 at *
          generalize hs2 : (S k).2.1 = r2 at *
          generalize hs3 : (S k).2.2 = r3 at *
          go_wp2_with fail
          go_loopw [25] (fun i wx => ∃ y : Nat, y ≤ r2 ∧ i = .int .i64 y ∧ wx = wr ∧ Hid (∀ j, j < y → 0 ≤ F k j ∧ F k j < n)) (fun i _ => r2 - (intOf i).toNat)
          case atStart => exact ⟨0, Nat.zero_le _, rfl, rfl, fun j hj => absurd hj (Nat.not_lt_zero _)⟩
          case round =>
            obtain ⟨y, hy, rfl, rfl, HY⟩ := hrel
            by_cases hylt : y < r2
            · obtain ⟨b', off', hr1, hc'⟩ := HW.out y hylt
              subst hr1
              obtain ⟨p, hp⟩ : ∃ p, pnt (F k y) n = p := ⟨_, rfl⟩
              rcases p with _ | _
              · have HN : Hid (¬ Lets n m S F) := fun h => by
                  have := h k hlt y (by omega)
                  simp [pnt] at hp; omega
                go_wp2_with (go_at_call 31; refine (isPoint_as _ _ _ _ hp).mono ?_; rintro e w' ⟨rfl, hww⟩; subst hww)
                go_ret
                exact ⟨⟨_, rfl, .inr ⟨HC.out, .inr ⟨HM.out, .inl ⟨rfl, HN.out⟩⟩⟩⟩, HB1.out⟩
              · have HN : Hid (∀ j, j < y + 1 → 0 ≤ F k j ∧ F k j < n) := fun j hj => by
                  by_cases e : j = y
                  · subst e; simp [pnt] at hp; omega
                  · exact HY.out j (by omega)
                go_wp2_with (go_at_call 31; refine (isPoint_as _ _ _ _ hp).mono ?_; rintro e w' ⟨rfl, hww⟩; subst hww)
                go_roundw
                case rel => exact ⟨y + 1, by omega, by go_num, by first | rfl | trivial, HN.out⟩
                case measure => simp [intOf]; omega
            · obtain rfl : y = r2 := by omega
              have HN : Hid (Lets n (k + 1) S F) := fun j hj i hi => by
                by_cases e : j = k
                · subst e; exact HY.out i (by omega)
                · exact HK.out j (by omega) i hi
              go_wp2_with fail
              go_roundw
              case rel => exact ⟨k + 1, by omega, by go_num, by first | rfl | trivial, HN.out⟩
              case measure => simp [intOf]; omega
        · obtain rfl : k = m := by omega
          go_wp2_with fail
          go_ret
          exact ⟨⟨_, rfl, .inr ⟨HC.out, .inr ⟨HM.out, .inr ⟨rfl, HK.out⟩⟩⟩⟩, HB1.out⟩
    · have HM : Hid (Many m S) := hv.1 rfl
      clear hv
      go_wp2_with fail
      go_ret
      exact ⟨⟨_, rfl, .inr ⟨HC.out, .inl ⟨rfl, HM.out⟩⟩⟩, HB1.out⟩
  · have hne : (c != 0) = true := by simpa using h0
    have H0 : Hid (c ≠ 0) := h0
    clear h0
    go_wp2_with fail
    go_ret
    exact ⟨⟨_, rfl, .inl ⟨H0.out, HC.out⟩⟩, HB1.out⟩
end Go.Proofs.YtimpgcmkdcmhkabDoor
