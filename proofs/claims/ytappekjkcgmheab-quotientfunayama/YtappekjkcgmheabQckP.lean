/-
  What quotient.Check answers, whatever it is handed. No condition but that slices read as slices of rows and of numbers.
-/
import Derived.Test.YtappekjkcgmheabLChk
import Derived.Test.YtappekjkcgmheabTogM
namespace Go.Proofs.Ytappekjkcgmheab
open Go.RowKit
set_option maxRecDepth 100000

/-- How many classes have begun ahead of an element. -/
def bgI (f : Nat → Int) : Nat → Int
  | 0 => 0
  | k + 1 => if f k + 1 > bgI f k then f k + 1 else bgI f k
/-- Each class begins in its turn. -/
def RisC (f : Nat → Int) (q : Nat) : Prop := ∀ k, k < q → pnt (f k) (bgI f k + 1) = true
theorem bgI_range {f : Nat → Int} : ∀ {k : Nat}, RisC f k → 0 ≤ bgI f k ∧ bgI f k ≤ k
  | 0, _ => by simp [bgI]
  | k + 1, h => by
    have ih := bgI_range (f := f) (k := k) (fun i hi => h i (by omega))
    have hk : 0 ≤ f k ∧ f k < bgI f k + 1 := by simpa [pnt] using h k (by omega)
    rw [bgI]
    split <;> omega
theorem RisC.succ {f : Nat → Int} {k : Nat} (h : RisC f k) (e : pnt (f k) (bgI f k + 1) = true) : RisC f (k + 1) := fun i hi => by
  by_cases hk : i = k
  · subst hk; exact e
  · exact h i (by omega)
/-- What Check must answer of classes. -/
def QCk (n : Int) (la : Nat) (SA : Nat → Option Addr × Nat × Nat) (FA : Nat → Nat → Int) (lb : Nat) (SB : Nat → Option Addr × Nat × Nat) (FB : Nat → Nat → Int) (m : Nat) (f : Nat → Int) (c : Int) : Prop :=
  (c ≠ 0 ∧ LCk n la SA FA lb SB FB c) ∨ (LCk n la SA FA lb SB FB 0 ∧ ((c = 1 ∧ (m : Int) ≠ n) ∨ ((m : Int) = n ∧ ((c = 3 ∧ ¬ RisC f m) ∨ (c = 0 ∧ RisC f m)))))

set_option maxHeartbeats 4000000 in
theorem qCheck_any (n : Int) (a : Option Addr) (la ca : Nat) (SA : Nat → Option Addr × Nat × Nat) (FA : Nat → Nat → Int) (b : Option Addr) (lb cb : Nat) (SB : Nat → Option Addr × Nat × Nat) (FB : Nat → Nat → Int) (p : Option Addr) (m cm : Nat) (f : Nat → Int) (w : World) (hla : la ≤ maxLen) (hlb : lb ≤ maxLen) (hra : RR w a la SA FA) (hrb : RR w b lb SB FB) (hrp : Row w p m f) :
    Calls Try.prog 22 #[.agg #[.int .i64 n, .slice a la ca, .slice b lb cb], .slice p m cm] w fun e w' => (∃ c, e = .returned (.int .i64 c) ∧ QCk n la SA FA lb SB FB m f c) ∧ Below w.heap.size w w' := by
  have hb0 : Below w.heap.size w (w.alloc (.cells #[.int .i64 n, .slice a la ca, .slice b lb cb] 24)) := (Below.refl _ _).alloc (Nat.le_refl _) _
  have HC := (show Hid _ from lCheck_any n a la ca SA FA b lb cb SB FB _ hla hlb (hra.below hb0) (hrb.below hb0))
  have HB0 : Hid (Below w.heap.size w (w.alloc (.cells #[.int .i64 n, .slice a la ca, .slice b lb cb] 24))) := hb0
  have HK0 : Hid (LB (w.alloc (.cells #[.int .i64 n, .slice a la ca, .slice b lb cb] 24)) w.heap.size n a la ca b lb cb) := LB.new _ _ _ _ _ _ _ _
  have HRP : Hid (Row w p m f) := hrp
  clear hra hrb hrp hb0
  go_enter Try.func22, Try.ntmps22
  go_wp2_with fail
  refine Calls.mono HC.out ?_
  rintro e w1 ⟨⟨c, rfl, hc⟩, hb1⟩
  have k0 := (HK0.out.step hb1).1
  have HB1 : Hid (Below w.heap.size w w1) := Below.then HB0.out hb1
  have HR1 : Hid (Row w1 p m f) := HRP.out.below HB1.out
  have HCK : Hid (LCk n la SA FA lb SB FB c) := hc
  clear hc hb1 HC HB0 HK0 HRP
  by_cases h0 : c = 0
  · subst h0
    by_cases hmn : (m : Int) = n
    · subst hmn
      obtain ⟨q, hq, h1, h40, _⟩ := HCK.out.good
      obtain rfl : m = q := by omega
      have HQ : Hid (∀ c, ((c = 3 ∧ ¬ RisC f m) ∨ (c = 0 ∧ RisC f m)) → QCk (m : Int) la SA FA lb SB FB m f c) := fun c h => .inr ⟨HCK.out, .inr ⟨rfl, h⟩⟩
      clear HCK hq
      go_wp2_with fail
      go_loopw [21, 6] (fun i s wx => ∃ k : Nat, k ≤ m ∧ i = .int .i64 k ∧ s = .int .i64 (bgI f k) ∧ Hid (RisC f k) ∧ w1 = wx) (fun i _ _ => m - (intOf i).toNat)
      case atStart => exact ⟨0, Nat.zero_le _, rfl, rfl, fun i hi => absurd hi (Nat.not_lt_zero _), rfl⟩
      case round =>
        obtain ⟨k, hk, rfl, rfl, HRK, rfl⟩ := hrel
        have hg := bgI_range HRK.out
        by_cases hlt : k < m
        · have hlk : (k : Int) < (m : Int) := by omega
          obtain ⟨bp, op, rfl, hcc⟩ := HR1.out.at hlt
          have ck := hcc k hlt
          clear hcc
          have HS : Hid (∀ e : pnt (f k) (bgI f k + 1) = true, RisC f (k + 1)) := fun e => HRK.out.succ e
          have HN : Hid (bgI f (k + 1) = if f k + 1 > bgI f k then f k + 1 else bgI f k) := rfl
          cases hp : pnt (f k) (bgI f k + 1)
          · have HF : Hid (QCk (m : Int) la SA FA lb SB FB m f 3) := HQ.out 3 (.inl ⟨rfl, fun h => by rw [h k hlt] at hp; cases hp⟩)
            clear HN HS HRK
            generalize bgI f k = G at *
            go_wp2_with fail
            refine (isPoint_as (f k) (G + 1) _ false hp).mono ?_
            rintro e w2 ⟨rfl, rfl⟩
            clear hp
            go_wp2_with fail
            go_ret
            exact ⟨⟨_, rfl, HF.out⟩, HB1.out⟩
          · have hf : 0 ≤ f k ∧ f k < bgI f k + 1 := by simpa [pnt] using hp
            have HRS : Hid (RisC f (k + 1)) := HS.out hp
            clear HS HRK
            generalize bgI f k = G at *
            go_wp2_with fail
            refine (isPoint_as (f k) (G + 1) _ true hp).mono ?_
            rintro e w2 ⟨rfl, rfl⟩
            clear hp
            go_wp2_with fail
            go_roundw
            case rel => exact ⟨k + 1, by omega, by go_num, by rw [HN.out], HRS.out, by trivial⟩
            case measure => simp [intOf]; omega
        · obtain rfl : m = k := by omega
          have HF : Hid (QCk (m : Int) la SA FA lb SB FB m f 0) := HQ.out 0 (.inr ⟨rfl, HRK.out⟩)
          clear HRK HQ
          go_wp2_with fail
          go_ret
          exact ⟨⟨_, rfl, HF.out⟩, HB1.out⟩
    · have hne : ((m : Int) != n) = true := by simp [hmn]
      have HF : Hid (QCk n la SA FA lb SB FB m f 1) := .inr ⟨HCK.out, .inl ⟨rfl, hmn⟩⟩
      clear HCK HR1
      go_wp2_with fail
      go_ret
      exact ⟨⟨_, rfl, HF.out⟩, HB1.out⟩
  · have hne : (c != 0) = true := by simp [h0]
    have HF : Hid (QCk n la SA FA lb SB FB m f c) := .inl ⟨h0, HCK.out⟩
    clear HCK HR1
    go_wp2_with fail
    go_ret
    exact ⟨⟨_, rfl, HF.out⟩, HB1.out⟩
end Go.Proofs.Ytappekjkcgmheab
