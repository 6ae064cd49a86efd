/-
  Tables as they come in: slices of slices of numbers; what lattice.isSquare, isOfElements and tables answer. No condition but that slices read as slices of rows.
-/
import Derived.Test.YtappekjkcgmheabTabs
namespace Go.Proofs.Ytappekjkcgmheab
open Go.RowKit

/-- A truth that says whether Q. -/
def BIs (e : Ending) (Q : Prop) : Prop := ∃ v, e = .returned (.bool v) ∧ (v = true ↔ Q)
/-- A slice of m rows. -/
def RR (w : World) (a : Option Addr) (m : Nat) (S : Nat → Option Addr × Nat × Nat) (F : Nat → Nat → Int) : Prop :=
  ∀ k, k < m → ∃ b off, a = some ⟨b, off, none⟩ ∧ w.cell? ⟨b, off + k, none⟩ = some (.slice (S k).1 (S k).2.1 (S k).2.2) ∧ (S k).2.1 ≤ maxLen ∧ Row w (S k).1 (S k).2.1 (F k)
theorem RR.below {w w' : World} {a : Option Addr} {m : Nat} {S : Nat → Option Addr × Nat × Nat} {F : Nat → Nat → Int} (h : RR w a m S F) (hb : Below w.heap.size w w') : RR w' a m S F := fun k hk => by
  obtain ⟨b, off, e, hc, hl, hr⟩ := h k hk
  exact ⟨b, off, e, (hb.cell (World.block_lt_of_cell? _ _ hc)).trans hc, hl, hr.below hb⟩
/-- n rows of n; all of them elements. -/
def Sq (n : Int) (la : Nat) (S : Nat → Option Addr × Nat × Nat) : Prop := (la : Int) = n ∧ ∀ k, k < la → ((S k).2.1 : Int) = n
def Rg (n : Int) (la : Nat) (S : Nat → Option Addr × Nat × Nat) (F : Nat → Nat → Int) : Prop := ∀ x, x < la → ∀ y, y < (S x).2.1 → 0 ≤ F x y ∧ F x y < n

set_option maxHeartbeats 1000000 in
theorem isSquare_any (n : Int) (a : Option Addr) (m cap : Nat) (S : Nat → Option Addr × Nat × Nat) (F : Nat → Nat → Int) (w : World) (hm : m ≤ maxLen) (hr : RR w a m S F) :
    Calls Try.prog 28 #[.slice a m cap, .int .i64 n] w fun e w' => BIs e (Sq n m S) ∧ w = w' := by
  have HR : Hid (RR w a m S F) := hr
  clear hr
  unfold maxLen at hm
  by_cases hn : (m : Int) = n
  · subst hn
    go_enter Try.func28, Try.ntmps28
    go_wp2_with fail
    go_loopw [13] (fun i wx => ∃ k : Nat, k ≤ m ∧ i = .int .i64 k ∧ wx = w ∧ Hid (∀ j, j < k → ((S j).2.1 : Int) = (m : Int))) (fun i _ => m - (intOf i).toNat)
    case atStart => exact ⟨0, Nat.zero_le _, rfl, rfl, fun j hj => absurd hj (Nat.not_lt_zero _)⟩
    case round =>
      obtain ⟨k, hk, rfl, rfl, HK⟩ := hrel
      by_cases hlt : k < m
      · obtain ⟨b, off, rfl, hc, hl, _⟩ := HR.out k hlt
        unfold maxLen at hl
        by_cases he : ((S k).2.1 : Int) = (m : Int)
        · have he' : (((S k).2.1 : Int) != (m : Int)) = false := by simpa using he
          have HN : Hid (∀ j, j < k + 1 → ((S j).2.1 : Int) = (m : Int)) := fun j hj => by
            by_cases e : j = k
            · subst e; exact he
            · exact HK.out j (by omega)
          go_wp2_with fail
          go_roundw
          case rel => exact ⟨k + 1, by omega, by go_num, by first | rfl | trivial, HN.out⟩
          case measure => simp [intOf]; omega
        · have he' : (((S k).2.1 : Int) != (m : Int)) = true := by simpa using he
          have HN : Hid (false = true ↔ Sq (m : Int) m S) := ⟨fun h => (by cases h), fun h => absurd (h.2 k hlt) he⟩
          go_wp2_with fail
          go_ret
          exact ⟨⟨_, rfl, HN.out⟩, rfl⟩
      · obtain rfl : k = m := by omega
        have HN : Hid (Sq (k : Int) k S) := ⟨rfl, HK.out⟩
        go_wp2_with fail
        go_ret
        exact ⟨⟨true, rfl, fun _ => HN.out, fun _ => rfl⟩, rfl⟩
  · have hn' : ((m : Int) != n) = true := by simpa using hn
    have HN : Hid (false = true ↔ Sq n m S) := ⟨fun h => (by cases h), fun h => absurd h.1 hn⟩
    go_enter Try.func28, Try.ntmps28
    go_wp2_with fail
    go_ret
    exact ⟨⟨_, rfl, HN.out⟩, rfl⟩

theorem isPoint_as (p n : Int) (w : World) (v : Bool) (h : pnt p n = v) :
    Calls Try.prog 39 #[.int .i64 p, .int .i64 n] w fun e w' => e = .returned (.bool v) ∧ w = w' :=
  (isPoint_any p n w).mono fun _ _ ⟨h1, h2⟩ => ⟨by rw [← h]; exact h1, h2⟩

set_option maxHeartbeats 1000000 in
theorem isOfElements_any (n : Int) (a : Option Addr) (m cap : Nat) (S : Nat → Option Addr × Nat × Nat) (F : Nat → Nat → Int) (w : World) (hm : m ≤ maxLen) (hr : RR w a m S F) :
    Calls Try.prog 29 #[.slice a m cap, .int .i64 n] w fun e w' => BIs e (Rg n m S F) ∧ w = w' := by
  have HR : Hid (RR w a m S F) := hr
  clear hr
  unfold maxLen at hm
  go_enter Try.func29, Try.ntmps29
  go_wp2_with fail
  go_loopw [11] (fun i wx => ∃ k : Nat, k ≤ m ∧ i = .int .i64 k ∧ wx = w ∧ Hid (Rg n k S F)) (fun i _ => m - (intOf i).toNat)
  case atStart => exact ⟨0, Nat.zero_le _, rfl, rfl, fun j hj => absurd hj (Nat.not_lt_zero _)⟩
  case round =>
    obtain ⟨k, hk, rfl, rfl, HK⟩ := hrel
    by_cases hlt : k < m
    · obtain ⟨b, off, rfl, hc, hl, hrow⟩ := HR.out k hlt
      unfold maxLen at hl
      have HW : Hid (Row wr (S k).1 (S k).2.1 (F k)) := hrow
      clear hrow
      generalize hs1 : (S k).1 = r1 at *
      generalize hs2 : (S k).2.1 = r2 at *
      generalize hs3 : (S k).2.2 = r3 at *
      go_wp2_with fail
      go_loopw [17] (fun i wx => ∃ y : Nat, y ≤ r2 ∧ i = .int .i64 y ∧ wx = wr ∧ Hid (∀ j, j < y → 0 ≤ F k j ∧ F k j < n)) (fun i _ => r2 - (intOf i).toNat)
      case atStart => exact ⟨0, Nat.zero_le _, rfl, rfl, fun j hj => absurd hj (Nat.not_lt_zero _)⟩
      case round =>
        obtain ⟨y, hy, rfl, rfl, HY⟩ := hrel
        by_cases hylt : y < r2
        · obtain ⟨b', off', hr1, hc'⟩ := HW.out y hylt
          subst hr1
          obtain ⟨p, hp⟩ : ∃ p, pnt (F k y) n = p := ⟨_, rfl⟩
          rcases p with _ | _
          · have HN : Hid (false = true ↔ Rg n m S F) := ⟨fun h => (by cases h), fun h => by
              have := h k hlt y (by omega)
              simp [pnt] at hp; omega⟩
            go_wp2_with (go_at_call 39; refine (isPoint_as _ _ _ _ hp).mono ?_; rintro e w' ⟨rfl, hww⟩; subst hww)
            go_ret
            exact ⟨⟨_, rfl, HN.out⟩, rfl⟩
          · have HN : Hid (∀ j, j < y + 1 → 0 ≤ F k j ∧ F k j < n) := fun j hj => by
              by_cases e : j = y
              · subst e; simp [pnt] at hp; omega
              · exact HY.out j (by omega)
            go_wp2_with (go_at_call 39; refine (isPoint_as _ _ _ _ hp).mono ?_; rintro e w' ⟨rfl, hww⟩; subst hww)
            go_roundw
            case rel => exact ⟨y + 1, by omega, by go_num, by first | rfl | trivial, HN.out⟩
            case measure => simp [intOf]; omega
        · obtain rfl : y = r2 := by omega
          have HN : Hid (Rg n (k + 1) S F) := fun x hx j hj => by
            by_cases e : x = k
            · subst e; exact HY.out j (by omega)
            · exact HK.out x (by omega) j hj
          go_wp2_with fail
          go_roundw
          case rel => exact ⟨k + 1, by omega, by go_num, by first | rfl | trivial, HN.out⟩
          case measure => simp [intOf]; omega
    · obtain rfl : k = m := by omega
      go_wp2_with fail
      go_ret
      exact ⟨⟨true, rfl, fun _ => HK.out, fun _ => rfl⟩, rfl⟩

theorem tables_any (n : Int) (a b : Option Addr) (la ca lb cb : Nat) (w : World) :
    Calls Try.prog 27 #[.agg #[.int .i64 n, .slice a la ca, .slice b lb cb]] w fun e w' => e = .returned (.agg #[.slice a la ca, .slice b lb cb]) ∧ Below w.heap.size w w' := by
  have HB : Hid (Below w.heap.size w ((w.alloc (.cells #[.int .i64 n, .slice a la ca, .slice b lb cb] 24)).alloc (.cells #[.slice a la ca, .slice b lb cb] 58))) := ((Below.refl _ _).alloc (Nat.le_refl _) _).alloc (by simp) _
  go_enter Try.func27, Try.ntmps27
  go_wp2_with fail
  exact bodyPost_ret (v := .agg #[.slice a la ca, .slice b lb cb]) (by simp [results, Try.results27, go_sem]) rfl ⟨rfl, HB.out⟩
end Go.Proofs.Ytappekjkcgmheab
