/-
  What weigh.check answers, whatever lists it is handed: the document's W1. No condition but that slices read as slices of rows.
-/
import Derived.Test.YtoagfjikjdacoaaSmP
namespace Go.Proofs.Ytoagfjikjdacoaa
set_option maxRecDepth 100000
open Go.RowKit

/-- A slice of m rows. -/
def RR (w : World) (a : Option Addr) (m : Nat) (S : Nat → Option Addr × Nat × Nat) (F : Nat → Nat → Int) : Prop :=
  ∀ k, k < m → ∃ b off, a = some ⟨b, off, none⟩ ∧ w.cell? ⟨b, off + k, none⟩ = some (.slice (S k).1 (S k).2.1 (S k).2.2) ∧ (S k).2.1 ≤ maxLen ∧ Row w (S k).1 (S k).2.1 (F k)
theorem RR.below {w w' : World} {a : Option Addr} {m : Nat} {S : Nat → Option Addr × Nat × Nat} {F : Nat → Nat → Int} (h : RR w a m S F) (hb : Below w.heap.size w w') : RR w' a m S F := fun k hk => by
  obtain ⟨b, off, e, hc, hl, hr⟩ := h k hk
  exact ⟨b, off, e, (hb.cell (World.block_lt_of_cell? _ _ hc)).trans hc, hl, hr.below hb⟩
/-- Has each list a number for each set? -/
def Frm (n m : Nat) (S : Nat → Option Addr × Nat × Nat) : Prop := ∀ k, k < m → (S k).2.1 = pw n
/-- Is each a weight? -/
def Inr (m : Nat) (S : Nat → Option Addr × Nat × Nat) (F : Nat → Nat → Int) : Prop := ∀ x, x < m → ∀ y, y < (S x).2.1 → 0 ≤ F x y ∧ F x y ≤ 1000
/-- What check must answer. -/
def WChk (N : Int) (m : Nat) (S : Nat → Option Addr × Nat × Nat) (F : Nat → Nat → Int) (c : Int) : Prop :=
  (c = 2 ∧ ¬ (0 ≤ N ∧ N ≤ 6)) ∨
  ∃ n : Nat, N = n ∧ n ≤ 6 ∧ ((c = 1 ∧ ¬ Frm n m S) ∨ (Frm n m S ∧ ((c = 3 ∧ ¬ Inr m S F) ∨ (c = 0 ∧ Inr m S F))))
theorem WChk.unique {N : Int} {m : Nat} {S : Nat → Option Addr × Nat × Nat} {F : Nat → Nat → Int} {c c' : Int} (h : WChk N m S F c) (h' : WChk N m S F c') : c = c' := by
  rcases h with ⟨rfl, h⟩ | ⟨n, rfl, hn, h⟩
  · rcases h' with ⟨rfl, _⟩ | ⟨n, rfl, hn, _⟩
    · rfl
    · exact absurd ⟨by omega, by omega⟩ h
  · rcases h' with ⟨rfl, h'⟩ | ⟨n', e, _, h'⟩
    · exact absurd ⟨by omega, by omega⟩ h'
    · obtain rfl : n' = n := by omega
      rcases h with ⟨rfl, h⟩ | ⟨hr, ⟨rfl, h⟩ | ⟨rfl, h⟩⟩ <;> rcases h' with ⟨rfl, h'⟩ | ⟨hr', ⟨rfl, h'⟩ | ⟨rfl, h'⟩⟩ <;> first | rfl | (exact absurd h h') | (exact absurd h' h) | (exact absurd hr h') | (exact absurd hr' h)
theorem WChk.good {N : Int} {m : Nat} {S : Nat → Option Addr × Nat × Nat} {F : Nat → Nat → Int} (h : WChk N m S F 0) : ∃ n : Nat, N = n ∧ n ≤ 6 ∧ Frm n m S ∧ Inr m S F := by
  rcases h with ⟨h, _⟩ | ⟨n, rfl, hn, ⟨h, _⟩ | ⟨hr, ⟨h, _⟩ | ⟨_, h⟩⟩⟩
  · cases h
  · cases h
  · cases h
  · exact ⟨n, rfl, hn, hr, h⟩
/-- May sets of sets be of n points? -/
def grd (n : Int) : Bool := decide (0 ≤ n ∧ n ≤ 6)
theorem isGround_any (n : Int) (w : World) :
    Calls Try.prog 29 #[.int .i64 n] w fun e w' => e = .returned (.bool (grd n)) ∧ w = w' := by
  by_cases h0 : 0 ≤ n
  · by_cases h1 : n ≤ 6
    · go_enter Try.func29, Try.ntmps29
      go_wp2
      go_ret
      exact ⟨ret_bool (by simp [grd, h0, h1]), rfl⟩
    · go_enter Try.func29, Try.ntmps29
      go_wp2
      go_ret
      exact ⟨ret_bool (by simp [grd, h1]), rfl⟩
  · have h0' : decide (0 ≤ n) = false := by simp; omega
    go_enter Try.func29, Try.ntmps29
    go_wp2
    go_ret
    exact ⟨ret_bool (by simp [grd]; omega), rfl⟩
theorem pw6 {n : Nat} (h : n ≤ 6) : pw n ≤ 64 := Nat.le_trans (Nat.pow_le_pow_right (by decide) h) (by decide)

set_option maxHeartbeats 1000000 in
theorem wCheck_any (N : Int) (a : Option Addr) (m cap : Nat) (S : Nat → Option Addr × Nat × Nat) (F : Nat → Nat → Int) (w : World) (hm : m ≤ maxLen) (hr : RR w a m S F) :
    Calls Try.prog 20 #[.int .i64 N, .slice a m cap] w fun e w' => (∃ c : Int, e = .returned (.int .i64 c) ∧ WChk N m S F c) ∧ w = w' := by
  have HR : Hid (RR w a m S F) := hr
  clear hr
  unfold maxLen at hm
  by_cases hn : 0 ≤ N ∧ N ≤ 6
  · have hd : grd N = true := by simpa [grd] using hn
    obtain ⟨n, rfl⟩ := Int.eq_ofNat_of_zero_le hn.1
    have hn6 : n ≤ 6 := by omega
    have hpw := wrap_pow n (by omega)
    have hps := pw6 hn6
    clear hn
    go_enter Try.func20, Try.ntmps20
    go_wp2_with (go_at_call 29; refine (isGround_any _ _).mono ?_; rintro e w' ⟨rfl, rfl⟩)
    go_loop [16] (fun i => ∃ k : Nat, k ≤ m ∧ i = .int .i64 k ∧ Hid (∀ j, j < k → (S j).2.1 = pw n)) (fun i => m - (intOf i).toNat)
    case atStart => exact ⟨0, Nat.zero_le _, rfl, upto_zero⟩
    case round =>
      obtain ⟨k, hk, rfl, HK⟩ := hrel
      by_cases hlt : k < m
      · obtain ⟨b, off, rfl, hc, hl, _⟩ := HR.out k hlt
        unfold maxLen at hl
        by_cases he : (S k).2.1 = pw n
        · have HN : Hid (∀ j, j < k + 1 → (S j).2.1 = pw n) := upto_succ HK.out he
          have he' : (((S k).2.1 : Int) != ((pw n : Nat) : Int)) = false := by simp; omega
          go_wp2_with fail
          go_round
          case rel => exact ⟨k + 1, by omega, by go_num, HN.out⟩
          case measure => simp [intOf]; omega
        · have he' : (((S k).2.1 : Int) != ((pw n : Nat) : Int)) = true := by simp; omega
          have HN : Hid (¬ Frm n m S) := fun h => he (h k hlt)
          go_wp2_with fail
          go_ret
          exact ⟨⟨_, rfl, .inr ⟨n, rfl, hn6, .inl ⟨rfl, HN.out⟩⟩⟩, rfl⟩
      · obtain rfl : k = m := by omega
        have HF : Hid (Frm n k S) := HK.out
        clear HK
        go_wp2_with fail
        go_loop [28] (fun i => ∃ j : Nat, j ≤ k ∧ i = .int .i64 j ∧ Hid (Inr j S F)) (fun i => k - (intOf i).toNat)
        case atStart => exact ⟨0, Nat.zero_le _, rfl, fun j hj => absurd hj (Nat.not_lt_zero _)⟩
        case round =>
          obtain ⟨j, hj, rfl, HK⟩ := hrel
          by_cases hlt2 : j < k
          · obtain ⟨b, off, rfl, hc, hl, hrow⟩ := HR.out j hlt2
            unfold maxLen at hl
            have HW : Hid (Row w (S j).1 (S j).2.1 (F j)) := hrow
            clear hrow
            have HS2 : Hid ((S j).2.1 = (S j).2.1) := rfl
            generalize hs1 : (S j).1 = r1 at *
            generalize hs2 : (S j).2.1 = r2 at *
            generalize hs3 : (S j).2.2 = r3 at *
            go_wp2_with fail
            go_loop [34] (fun i => ∃ y : Nat, y ≤ r2 ∧ i = .int .i64 y ∧ Hid (∀ i', i' < y → 0 ≤ F j i' ∧ F j i' ≤ 1000)) (fun i => r2 - (intOf i).toNat)
            case atStart => exact ⟨0, Nat.zero_le _, rfl, upto_zero⟩
            case round =>
              obtain ⟨y, hy, rfl, HY⟩ := hrel
              by_cases hylt : y < r2
              · obtain ⟨b', off', hr1, hc'⟩ := HW.out y hylt
                subst hr1
                by_cases hp : 0 ≤ F j y ∧ F j y ≤ 1000
                · have HN : Hid (∀ i', i' < y + 1 → 0 ≤ F j i' ∧ F j i' ≤ 1000) := upto_succ HY.out hp
                  have hp1 : ¬ F j y < 0 := by omega
                  have hp2 : ¬ 1000 < F j y := by omega
                  clear hp
                  go_wp2_with fail
                  go_round
                  case rel => exact ⟨y + 1, by omega, by go_num, HN.out⟩
                  case measure => simp [intOf]; omega
                · have HN : Hid (¬ Inr k S F) := fun h => hp (h j hlt2 y (by omega))
                  by_cases hp1 : F j y < 0
                  · clear hp
                    go_wp2_with fail
                    go_ret
                    exact ⟨⟨_, rfl, .inr ⟨n, rfl, hn6, .inr ⟨HF.out, .inl ⟨rfl, HN.out⟩⟩⟩⟩, rfl⟩
                  · have hp2 : 1000 < F j y := by omega
                    clear hp
                    go_wp2_with fail
                    go_ret
                    exact ⟨⟨_, rfl, .inr ⟨n, rfl, hn6, .inr ⟨HF.out, .inl ⟨rfl, HN.out⟩⟩⟩⟩, rfl⟩
              · obtain rfl : y = r2 := by omega
                have HN : Hid (Inr (j + 1) S F) := fun x hx i' hi' => by
                  by_cases e : x = j
                  · subst e; exact HY.out i' (by omega)
                  · exact HK.out x (by omega) i' hi'
                go_wp2_with fail
                go_round
                case rel => exact ⟨j + 1, by omega, by go_num, HN.out⟩
                case measure => simp [intOf]; omega
          · obtain rfl : j = k := by omega
            go_wp2_with fail
            go_ret
            exact ⟨⟨_, rfl, .inr ⟨n, rfl, hn6, .inr ⟨HF.out, .inr ⟨rfl, HK.out⟩⟩⟩⟩, rfl⟩
  · have hd : grd N = false := by simpa [grd] using hn
    have HN : Hid (¬ (0 ≤ N ∧ N ≤ 6)) := hn
    clear hn
    go_enter Try.func20, Try.ntmps20
    go_wp2_with (go_at_call 29; refine (isGround_any _ _).mono ?_; rintro e w' ⟨rfl, rfl⟩)
    go_ret
    exact ⟨⟨_, rfl, .inl ⟨rfl, HN.out⟩⟩, rfl⟩
end Go.Proofs.Ytoagfjikjdacoaa
