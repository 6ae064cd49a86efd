/-
  What span.firstFour answers, handed the closures of Two and of Three: the first four points of which it is so. Conditions: at most ten points; the closure answers P, and changes nothing.
-/
import Derived.Test.YtlpeflnipbbmhabFourM
namespace Go.Proofs.Ytlpeflnipbbmhab
open Go.RowKit

theorem row4 (w : World) (a b c d : Nat) : NSl (w.alloc (.cells #[.int .i64 (a : Nat), .int .i64 (b : Nat), .int .i64 (c : Nat), .int .i64 (d : Nat)] 3)) (.slice (some ⟨w.heap.size, 0, none⟩) 4 4) [a, b, c, d] := by
  refine ⟨_, 4, rfl, fun k hk => ⟨_, _, rfl, ?_⟩⟩
  simp only [List.length_cons, List.length_nil] at hk
  rcases (by omega : k = 0 ∨ k = 1 ∨ k = 2 ∨ k = 3) with rfl | rfl | rfl | rfl <;> simp [nth]

set_option maxHeartbeats 2000000 in
theorem firstFour_two (n : Nat) (u0 : Nat) (P : Nat → Nat → Nat → Nat → Bool) (w : World) (h10 : n ≤ 10)
    (hcl : ∀ a b c d : Nat, a < n → b < n → c < n → d < n → Calls Try.prog 15 #[.int .i64 (a : Nat), .int .i64 (b : Nat), .int .i64 (c : Nat), .int .i64 (d : Nat), .pointer (some ⟨u0, 0, none⟩)] w fun e w' => e = .returned (.bool (P a b c d)) ∧ w = w') :
    Calls Try.prog 14 #[.int .i64 n, .func (.func 15) #[] #[.pointer (some ⟨u0, 0, none⟩)]] w fun e w' => (∃ v l ok, e = .returned (.tuple #[v, .bool ok]) ∧ First n P l ok ∧ NSl w' v l) ∧ Below w.heap.size w w' := by
  have HCL : Hid (∀ a b c d : Nat, a < n → b < n → c < n → d < n → Calls Try.prog 15 #[.int .i64 (a : Nat), .int .i64 (b : Nat), .int .i64 (c : Nat), .int .i64 (d : Nat), .pointer (some ⟨u0, 0, none⟩)] w fun e w' => e = .returned (.bool (P a b c d)) ∧ w = w') := hcl
  clear hcl
  go_enter Try.func14, Try.ntmps14
  go_wp2_with fail
  go_loopw [11] (fun i wx => ∃ a : Nat, a ≤ n ∧ i = .int .i64 a ∧ wx = w ∧ Hid (Upto n P (idx n a 0 0 0))) (fun i _ => n - (intOf i).toNat)
  case atStart => exact ⟨0, Nat.zero_le _, rfl, rfl, by simp only [idx, Nat.zero_mul, Nat.add_zero]; exact Upto.zero n P⟩
  case round =>
    obtain ⟨a, ha, rfl, rfl, HU⟩ := hrel
    by_cases hal : a < n
    · go_wp2_with fail
      go_loopw [15] (fun i wx => ∃ b : Nat, b ≤ n ∧ i = .int .i64 b ∧ wx = wr ∧ Hid (Upto n P (idx n a b 0 0))) (fun i _ => n - (intOf i).toNat)
      case atStart => exact ⟨0, Nat.zero_le _, rfl, rfl, HU.out⟩
      case round =>
        clear HU
        obtain ⟨b, hb, rfl, rfl, HU⟩ := hrel
        by_cases hbl : b < n
        · go_wp2_with fail
          go_loopw [19] (fun i wx => ∃ c : Nat, c ≤ n ∧ i = .int .i64 c ∧ wx = wr ∧ Hid (Upto n P (idx n a b c 0))) (fun i _ => n - (intOf i).toNat)
          case atStart => exact ⟨0, Nat.zero_le _, rfl, rfl, HU.out⟩
          case round =>
            clear HU
            obtain ⟨c, hc, rfl, rfl, HU⟩ := hrel
            by_cases hcl : c < n
            · go_wp2_with fail
              go_loopw [23] (fun i wx => ∃ d : Nat, d ≤ n ∧ i = .int .i64 d ∧ wx = wr ∧ Hid (Upto n P (idx n a b c d))) (fun i _ => n - (intOf i).toNat)
              case atStart => exact ⟨0, Nat.zero_le _, rfl, rfl, HU.out⟩
              case round =>
                clear HU
                obtain ⟨d, hd, rfl, rfl, HU⟩ := hrel
                by_cases hdl : d < n
                · have HC := HCL.out a b c d hal hbl hcl hdl
                  rcases (Bool.eq_false_or_eq_true (P a b c d)).symm with hp | hp
                  · have HN : Hid (Upto n P (idx n a b c (d + 1))) := Upto.next HU.out ((P4_idx P hbl hcl hdl).trans hp)
                    rw [hp] at HC
                    clear HU hp
                    go_wp2_with fail
                    refine HC.mono ?_
                    rintro e w' ⟨rfl, rfl⟩
                    clear HC
                    go_wp2_with fail
                    go_roundw
                    case rel => exact ⟨d + 1, by omega, by go_num, by first | rfl | trivial, HN.out⟩
                    case measure => simp [intOf]; omega
                  · have HF : Hid (First n P [a, b, c, d] true) := by
                      obtain ⟨e1, e2, e3, e4⟩ := idx_dig (a := a) hbl hcl hdl
                      exact .inl ⟨rfl, idx n a b c d, idx_lt hal hbl hcl hdl, (P4_idx P hbl hcl hdl).trans hp, HU.out, by rw [e1, e2, e3, e4]⟩
                    rw [hp] at HC
                    clear HU hp
                    go_wp2_with fail
                    refine HC.mono ?_
                    rintro e w' ⟨rfl, rfl⟩
                    clear HC
                    have HN4 := (show Hid _ from row4 wr a b c d)
                    have HB4 : Hid (Below wr.heap.size wr (wr.alloc (.cells #[.int .i64 (a : Nat), .int .i64 (b : Nat), .int .i64 (c : Nat), .int .i64 (d : Nat)] 3))) := (Below.refl _ _).alloc (Nat.le_refl _) _
                    go_wp2_with fail
                    go_ret2
                    exact ⟨⟨_, _, _, rfl, HF.out, HN4.out⟩, HB4.out⟩
                · obtain rfl : d = n := by omega
                  have HN : Hid (Upto d P (idx d a b (c + 1) 0)) := by rw [← idx_d]; exact HU.out
                  clear HU
                  go_wp2_with fail
                  go_roundw
                  case rel => exact ⟨c + 1, by omega, by go_num, by first | rfl | trivial, HN.out⟩
                  case measure => simp [intOf]; omega
            · obtain rfl : c = n := by omega
              have HN : Hid (Upto c P (idx c a (b + 1) 0 0)) := by rw [← idx_c]; exact HU.out
              clear HU
              go_wp2_with fail
              go_roundw
              case rel => exact ⟨b + 1, by omega, by go_num, by first | rfl | trivial, HN.out⟩
              case measure => simp [intOf]; omega
        · obtain rfl : b = n := by omega
          have HN : Hid (Upto b P (idx b (a + 1) 0 0 0)) := by rw [← idx_b]; exact HU.out
          clear HU
          go_wp2_with fail
          go_roundw
          case rel => exact ⟨a + 1, by omega, by go_num, by first | rfl | trivial, HN.out⟩
          case measure => simp [intOf]; omega
    · obtain rfl : a = n := by omega
      have HF : Hid (First a P [] false) := .inr ⟨rfl, rfl, by rw [← idx_a]; exact HU.out⟩
      clear HU
      go_wp2_with fail
      go_ret2
      exact ⟨⟨_, _, _, rfl, HF.out, none, 0, rfl, fun k hk => absurd hk (Nat.not_lt_zero _)⟩, Below.refl _ _⟩

set_option maxHeartbeats 2000000 in
theorem firstFour_three (n : Nat) (u0 u1 : Nat) (P : Nat → Nat → Nat → Nat → Bool) (w : World) (h10 : n ≤ 10)
    (hcl : ∀ a b c d : Nat, a < n → b < n → c < n → d < n → Calls Try.prog 17 #[.int .i64 (a : Nat), .int .i64 (b : Nat), .int .i64 (c : Nat), .int .i64 (d : Nat), .pointer (some ⟨u0, 0, none⟩), .pointer (some ⟨u1, 0, none⟩)] w fun e w' => e = .returned (.bool (P a b c d)) ∧ w = w') :
    Calls Try.prog 14 #[.int .i64 n, .func (.func 17) #[] #[.pointer (some ⟨u0, 0, none⟩), .pointer (some ⟨u1, 0, none⟩)]] w fun e w' => (∃ v l ok, e = .returned (.tuple #[v, .bool ok]) ∧ First n P l ok ∧ NSl w' v l) ∧ Below w.heap.size w w' := by
  have HCL : Hid (∀ a b c d : Nat, a < n → b < n → c < n → d < n → Calls Try.prog 17 #[.int .i64 (a : Nat), .int .i64 (b : Nat), .int .i64 (c : Nat), .int .i64 (d : Nat), .pointer (some ⟨u0, 0, none⟩), .pointer (some ⟨u1, 0, none⟩)] w fun e w' => e = .returned (.bool (P a b c d)) ∧ w = w') := hcl
  clear hcl
  go_enter Try.func14, Try.ntmps14
  go_wp2_with fail
  go_loopw [11] (fun i wx => ∃ a : Nat, a ≤ n ∧ i = .int .i64 a ∧ wx = w ∧ Hid (Upto n P (idx n a 0 0 0))) (fun i _ => n - (intOf i).toNat)
  case atStart => exact ⟨0, Nat.zero_le _, rfl, rfl, by simp only [idx, Nat.zero_mul, Nat.add_zero]; exact Upto.zero n P⟩
  case round =>
    obtain ⟨a, ha, rfl, rfl, HU⟩ := hrel
    by_cases hal : a < n
    · go_wp2_with fail
      go_loopw [15] (fun i wx => ∃ b : Nat, b ≤ n ∧ i = .int .i64 b ∧ wx = wr ∧ Hid (Upto n P (idx n a b 0 0))) (fun i _ => n - (intOf i).toNat)
      case atStart => exact ⟨0, Nat.zero_le _, rfl, rfl, HU.out⟩
      case round =>
        clear HU
        obtain ⟨b, hb, rfl, rfl, HU⟩ := hrel
        by_cases hbl : b < n
        · go_wp2_with fail
          go_loopw [19] (fun i wx => ∃ c : Nat, c ≤ n ∧ i = .int .i64 c ∧ wx = wr ∧ Hid (Upto n P (idx n a b c 0))) (fun i _ => n - (intOf i).toNat)
          case atStart => exact ⟨0, Nat.zero_le _, rfl, rfl, HU.out⟩
          case round =>
            clear HU
            obtain ⟨c, hc, rfl, rfl, HU⟩ := hrel
            by_cases hcl : c < n
            · go_wp2_with fail
              go_loopw [23] (fun i wx => ∃ d : Nat, d ≤ n ∧ i = .int .i64 d ∧ wx = wr ∧ Hid (Upto n P (idx n a b c d))) (fun i _ => n - (intOf i).toNat)
              case atStart => exact ⟨0, Nat.zero_le _, rfl, rfl, HU.out⟩
              case round =>
                clear HU
                obtain ⟨d, hd, rfl, rfl, HU⟩ := hrel
                by_cases hdl : d < n
                · have HC := HCL.out a b c d hal hbl hcl hdl
                  rcases (Bool.eq_false_or_eq_true (P a b c d)).symm with hp | hp
                  · have HN : Hid (Upto n P (idx n a b c (d + 1))) := Upto.next HU.out ((P4_idx P hbl hcl hdl).trans hp)
                    rw [hp] at HC
                    clear HU hp
                    go_wp2_with fail
                    refine HC.mono ?_
                    rintro e w' ⟨rfl, rfl⟩
                    clear HC
                    go_wp2_with fail
                    go_roundw
                    case rel => exact ⟨d + 1, by omega, by go_num, by first | rfl | trivial, HN.out⟩
                    case measure => simp [intOf]; omega
                  · have HF : Hid (First n P [a, b, c, d] true) := by
                      obtain ⟨e1, e2, e3, e4⟩ := idx_dig (a := a) hbl hcl hdl
                      exact .inl ⟨rfl, idx n a b c d, idx_lt hal hbl hcl hdl, (P4_idx P hbl hcl hdl).trans hp, HU.out, by rw [e1, e2, e3, e4]⟩
                    rw [hp] at HC
                    clear HU hp
                    go_wp2_with fail
                    refine HC.mono ?_
                    rintro e w' ⟨rfl, rfl⟩
                    clear HC
                    have HN4 := (show Hid _ from row4 wr a b c d)
                    have HB4 : Hid (Below wr.heap.size wr (wr.alloc (.cells #[.int .i64 (a : Nat), .int .i64 (b : Nat), .int .i64 (c : Nat), .int .i64 (d : Nat)] 3))) := (Below.refl _ _).alloc (Nat.le_refl _) _
                    go_wp2_with fail
                    go_ret2
                    exact ⟨⟨_, _, _, rfl, HF.out, HN4.out⟩, HB4.out⟩
                · obtain rfl : d = n := by omega
                  have HN : Hid (Upto d P (idx d a b (c + 1) 0)) := by rw [← idx_d]; exact HU.out
                  clear HU
                  go_wp2_with fail
                  go_roundw
                  case rel => exact ⟨c + 1, by omega, by go_num, by first | rfl | trivial, HN.out⟩
                  case measure => simp [intOf]; omega
            · obtain rfl : c = n := by omega
              have HN : Hid (Upto c P (idx c a (b + 1) 0 0)) := by rw [← idx_c]; exact HU.out
              clear HU
              go_wp2_with fail
              go_roundw
              case rel => exact ⟨b + 1, by omega, by go_num, by first | rfl | trivial, HN.out⟩
              case measure => simp [intOf]; omega
        · obtain rfl : b = n := by omega
          have HN : Hid (Upto b P (idx b (a + 1) 0 0 0)) := by rw [← idx_b]; exact HU.out
          clear HU
          go_wp2_with fail
          go_roundw
          case rel => exact ⟨a + 1, by omega, by go_num, by first | rfl | trivial, HN.out⟩
          case measure => simp [intOf]; omega
    · obtain rfl : a = n := by omega
      have HF : Hid (First a P [] false) := .inr ⟨rfl, rfl, by rw [← idx_a]; exact HU.out⟩
      clear HU
      go_wp2_with fail
      go_ret2
      exact ⟨⟨_, _, _, rfl, HF.out, none, 0, rfl, fun k hk => absurd hk (Nat.not_lt_zero _)⟩, Below.refl _ _⟩
end Go.Proofs.Ytlpeflnipbbmhab
