/-
  What order.Check answers, whatever it is handed: the document's A1. No condition but that a slice reads as a slice of numbers.
-/
import Derived.Test.YtinblbkglkhjmaaDoorOrdered
namespace Go.Proofs.YtinblbkglkhjmaaDoor
open Go.RowKit

theorem Row.below {w w' : World} {a : Option Addr} {len : Nat} {f : Nat → Int} (h : Row w a len f) (hb : Below w.heap.size w w') : Row w' a len f := by
  intro k hk
  obtain ⟨b, off, rfl, hc⟩ := h k hk
  exact ⟨b, off, rfl, (hb.cell (World.block_lt_of_cell? _ _ hc)).trans hc⟩

def Rng (m : Nat) (f : Nat → Int) : Prop := ∀ k, k < m → 0 ≤ f k ∧ f k < (pw m : Nat)
def nat (f : Nat → Int) (k : Nat) : Nat := (f k).toNat
/-- What Check must answer. -/
def Chk (n : Int) (len : Nat) (f : Nat → Int) (c : Int) : Prop :=
  (c = 2 ∧ ¬ (0 ≤ n ∧ n ≤ 10)) ∨
  ∃ m : Nat, n = m ∧ m ≤ 10 ∧ ((c = 1 ∧ len ≠ m) ∨
    (len = m ∧ ((c = 3 ∧ ¬ Rng m f) ∨ (Rng m f ∧ ((c = 4 ∧ ¬ Ord m (nat f)) ∨ (c = 0 ∧ Ord m (nat f)))))))
theorem Chk.unique {n : Int} {len : Nat} {f : Nat → Int} {c c' : Int} (h : Chk n len f c) (h' : Chk n len f c') : c = c' := by
  rcases h with ⟨rfl, h⟩ | ⟨m, rfl, hm, h⟩
  · rcases h' with ⟨rfl, _⟩ | ⟨m, rfl, hm, _⟩
    · rfl
    · exact absurd ⟨by omega, by omega⟩ h
  · rcases h' with ⟨rfl, h'⟩ | ⟨m', hm', _, h'⟩
    · exact absurd ⟨by omega, by omega⟩ h'
    · have e : m' = m := by omega
      subst e
      rcases h with ⟨rfl, h⟩ | ⟨hl, h⟩
      · rcases h' with ⟨rfl, _⟩ | ⟨hl', _⟩
        · rfl
        · exact absurd hl' h
      · rcases h' with ⟨rfl, h'⟩ | ⟨_, h'⟩
        · exact absurd hl h'
        · rcases h with ⟨rfl, h⟩ | ⟨hr, h⟩
          · rcases h' with ⟨rfl, _⟩ | ⟨hr', _⟩
            · rfl
            · exact absurd hr' h
          · rcases h' with ⟨rfl, h'⟩ | ⟨_, h'⟩
            · exact absurd hr h'
            · rcases h with ⟨rfl, h⟩ | ⟨rfl, h⟩ <;> rcases h' with ⟨rfl, h'⟩ | ⟨rfl, h'⟩ <;> first | rfl | (exact absurd h h') | (exact absurd h' h)

theorem check_any (n : Int) (a : Option Addr) (len cap : Nat) (f : Nat → Int) (w : World) (hl : len ≤ maxLen) (hr : Row w a len f) :
    Calls Tryd.prog 18 #[.agg #[.int .i64 n, .slice a len cap]] w fun e w' => (∃ c : Int, e = .returned (.int .i64 c) ∧ Chk n len f c) ∧ Below w.heap.size w w' := by
  unfold maxLen at hl
  have HR := (show Hid (Row w a len f) from hr)
  clear hr
  have hB : ∀ o, Below w.heap.size w (w.alloc o) := fun o => (Below.refl _ _).alloc (Nat.le_refl _) o
  have HB := (show Hid _ from hB)
  clear hB
  by_cases hn : 0 ≤ n ∧ n ≤ 10
  · obtain ⟨m, rfl⟩ := Int.eq_ofNat_of_zero_le hn.1
    have hm : m ≤ 10 := by omega
    by_cases hlen : len = m
    · subst hlen
      have hd : cnt (len : Int) = true := by simpa [cnt] using hn
      clear hn
      go_enter Tryd.func18, Tryd.ntmps18
      go_wp2_with (go_at_call 26; refine (isCount_any _ _).mono ?_; rintro e w' ⟨rfl, rfl⟩)
      go_loop [18] (fun i => ∃ k : Nat, k ≤ len ∧ i = .int .i64 k ∧ Hid (∀ j, j < k → 0 ≤ f j ∧ f j < (pw len : Nat))) (fun i => len - (intOf i).toNat)
      case atStart => exact ⟨0, Nat.zero_le _, rfl, upto_zero⟩
      case round =>
        obtain ⟨k, hk, rfl, hok⟩ := hrel
        by_cases hlt : k < len
        · obtain ⟨b, off, rfl, hc⟩ := HR.out.at hlt
          have hck := hc k hlt
          have hbk : b < w.heap.size := World.block_lt_of_cell? _ _ hck
          clear hc
          by_cases hs : 0 ≤ f k ∧ f k < (pw len : Nat)
          · have hsd : sts (f k) len = true := by simpa [sts] using hs
            have HS := (show Hid _ from hs); clear hs
            go_wp2_with (go_at_call 20; refine (isSet_any _ _ _ hm).mono ?_; rintro e w' ⟨rfl, rfl⟩)
            go_round
            case rel => exact ⟨k + 1, by omega, by go_num, upto_succ hok.out HS.out⟩
            case measure => simp [intOf]; omega
          · have hsd : sts (f k) len = false := by simpa [sts] using hs
            have HS := (show Hid _ from hs); clear hs
            go_wp2_with (go_at_call 20; refine (isSet_any _ _ _ hm).mono ?_; rintro e w' ⟨rfl, rfl⟩)
            go_ret
            exact ⟨⟨_, rfl, .inr ⟨len, rfl, hm, .inr ⟨rfl, .inl ⟨rfl, fun h => HS.out (h k hlt)⟩⟩⟩⟩, HB.out _⟩
        · have hkn : k = len := by omega
          subst hkn
          have hg : ∀ j, j < k → f j = (nat f j : Nat) := fun j hj => by have := hok.out j hj; unfold nat; omega
          have hp := pw_le k hm
          have hg2 : ∀ j, j < k → nat f j < 1024 := fun j hj => by have := hok.out j hj; unfold nat; omega
          have hrow : ∀ o, Row (w.alloc o) a k (fun j => (nat f j : Nat)) := fun o j hj => by
            have := HR.out.below (HB.out o) j hj
            rw [hg j hj] at this; exact this
          have HG := (show Hid _ from hg); clear hg
          have HG2 := (show Hid _ from hg2); clear hg2
          have HW := (show Hid _ from hrow); clear hrow
          go_wp2_with fail
          refine (isOrdered_any k (nat f) a cap _ hm HG2.out (HW.out _)).mono ?_
          rintro e w' ⟨⟨b, rfl, hb⟩, rfl⟩
          cases b
          · have HN : Hid (¬ Ord k (nat f)) := fun h => by have := hb.2 h; cases this
            clear hb
            go_wp2
            go_ret
            exact ⟨⟨_, rfl, .inr ⟨k, rfl, hm, .inr ⟨rfl, .inr ⟨hok.out, .inl ⟨rfl, HN.out⟩⟩⟩⟩⟩, HB.out _⟩
          · have HN : Hid (Ord k (nat f)) := hb.1 rfl
            clear hb
            go_wp2
            go_ret
            exact ⟨⟨_, rfl, .inr ⟨k, rfl, hm, .inr ⟨rfl, .inr ⟨hok.out, .inr ⟨rfl, HN.out⟩⟩⟩⟩⟩, HB.out _⟩
    · have hd : cnt (m : Int) = true := by simpa [cnt] using hn
      have hne : ((len : Int) != (m : Int)) = true := by simp; omega
      clear hn
      go_enter Tryd.func18, Tryd.ntmps18
      go_wp2_with (go_at_call 26; refine (isCount_any _ _).mono ?_; rintro e w' ⟨rfl, rfl⟩)
      go_ret
      exact ⟨⟨_, rfl, .inr ⟨m, rfl, hm, .inl ⟨rfl, hlen⟩⟩⟩, HB.out _⟩
  · have hd : cnt n = false := by simpa [cnt] using hn
    have HN := (show Hid _ from hn); clear hn
    go_enter Tryd.func18, Tryd.ntmps18
    go_wp2_with (go_at_call 26; refine (isCount_any _ _).mono ?_; rintro e w' ⟨rfl, rfl⟩)
    go_ret
    exact ⟨⟨_, rfl, .inl ⟨rfl, HN.out⟩⟩, HB.out _⟩
end Go.Proofs.YtinblbkglkhjmaaDoor
