/-
  What the reference's ClosureOf answers. Conditions: a good order, a set of its points.
-/
import Derived.Test.YtggngpnenbjidaaDoorSpB
namespace Go.Proofs.YtggngpnenbjidaaDoor
open Go.RowKit

/-- Is i up to one of the first points of s? -/
def anyK (g : Nat → Nat) (s i : Nat) : Nat → Bool
  | 0 => false
  | k + 1 => anyK g s i k || (s.testBit k && upt g i k)
theorem anyK_iff (g : Nat → Nat) (s i : Nat) : ∀ k, anyK g s i k = true ↔ ∃ p, p < k ∧ s.testBit p = true ∧ upt g i p = true
  | 0 => by simp [anyK]
  | k + 1 => by
    rw [anyK, Bool.or_eq_true, anyK_iff g s i k, Bool.and_eq_true]
    constructor
    · rintro (⟨p, h1, h2⟩ | h)
      · exact ⟨p, by omega, h2⟩
      · exact ⟨k, by omega, h⟩
    · rintro ⟨p, h1, h2⟩
      rcases Nat.lt_or_ge p k with h3 | h3
      · exact .inl ⟨p, h3, h2⟩
      · obtain rfl : p = k := by omega
        exact .inr h2
theorem refClo_is {g : Nat → Nat} {n s : Nat} (hn : n ≤ 10) (hg : ∀ k, k < n → g k < pw n) (hs : s < pw n) : setBy (fun i => anyK g s i n) n = clo g s := by
  refine eq_of_bits (setBy_lt _ _) (clo_lt hg hs) fun i hi => ?_
  rw [setBy_bit, Bool.eq_iff_iff, clo_bit hn hs, Bool.and_eq_true, anyK_iff]
  simp [hi]

set_option maxHeartbeats 4000000 in
theorem closureOf_any (a : Option Addr) (len cap : Nat) (g : Nat → Nat) (s : Nat) (w : World) (h10 : len ≤ 10) (hg : ∀ k, k < len → g k < pw len) (hr : Row w a len (fun k => (g k : Nat))) (hs : s < pw len) :
    Calls Tryd.prog 22 #[.agg #[.int .i64 (len : Int), .slice a len cap], .int .i64 (s : Nat)] w fun e w' => e = .returned (.int .i64 (clo g s : Nat)) ∧ Below w.heap.size w w' := by
  have hpl := pw_le len h10
  have HB0 : Hid (Below w.heap.size w (w.alloc (.cells #[.int .i64 (len : Int), .slice a len cap] 24))) := bel_one w _
  have K0 : Hid (Held (w.alloc (.cells #[.int .i64 (len : Int), .slice a len cap] 24)) w.heap.size len a len cap (fun k => (g k : Nat))) := Held.box hr
  have HG : Hid (∀ k, k < len → g k < 1024) := fun k hk => by have := hg k hk; omega
  have HE : Hid (setBy (fun i => anyK g s i len) len = clo g s) := refClo_is h10 hg hs
  obtain ⟨P, HP⟩ : ∃ P : Nat → Bool, Hid ((fun i => anyK g s i len) = P) := ⟨_, rfl⟩
  have HPI : Hid (∀ i, P i = anyK g s i len) := fun i => by rw [← HP.out]
  rw [← HE.out, HP.out]
  clear hr hg HE
  go_enter Tryd.func22, Tryd.ntmps22
  go_wp2_with fail
  go_loopw [5, 6] (fun o i wx => ∃ x : Nat, x ≤ len ∧ o = .int .i64 (setBy P x : Nat) ∧ i = .int .i64 x ∧ Hid (Held wx w.heap.size len a len cap (fun k => (g k : Nat))) ∧ Hid (Below w.heap.size w wx)) (fun _ i _ => len - (intOf i).toNat)
  case atStart => exact ⟨0, Nat.zero_le _, rfl, rfl, K0.out, HB0.out⟩
  case round =>
    clear K0 HB0
    obtain ⟨x, hx, rfl, rfl, K0, HB0⟩ := hrel
    have k0 := K0.out.c0
    have k1 := K0.out.c1
    by_cases hxl : x < len
    · have hxl' : (x : Int) < (len : Int) := by omega
      have hsx := setBy_lt P x
      have hpx : pw x ≤ 1024 := pw_le x (by omega)
      go_wp2_with fail
      go_loopw [7, 8] (fun o i wx => ∃ y : Nat, y ≤ len ∧ o = .bool (anyK g s x y) ∧ i = .int .i64 y ∧ Hid (Held wx w.heap.size len a len cap (fun k => (g k : Nat))) ∧ Hid (Below w.heap.size w wx)) (fun _ i _ => len - (intOf i).toNat)
      case atStart => exact ⟨0, Nat.zero_le _, rfl, rfl, K0.out, HB0.out⟩
      case round =>
        clear K0 HB0 k0 k1
        obtain ⟨y, hy, rfl, rfl, K0, HB0⟩ := hrel
        have k0 := K0.out.c0
        have k1 := K0.out.c1
        by_cases hyl : y < len
        · have hyl' : (y : Int) < (len : Int) := by omega
          have HA : Hid (anyK g s x (y + 1) = (anyK g s x y || (s.testBit y && upt g x y))) := rfl
          cases ha : anyK g s x y
          · cases hb : s.testBit y
            · rw [ha, hb] at HA
              go_wp2_with (go_at_call 30; refine (in_any s y _ (by omega) (by omega)).mono ?_; rintro e w' ⟨rfl, rfl⟩; rw [hb])
              go_roundw
              case rel => exact ⟨y + 1, by omega, by rw [HA.out]; rfl, by go_num, K0.out, HB0.out⟩
              case measure => simp [intOf]; omega
            · rw [ha, hb] at HA
              obtain ⟨v, hv⟩ : ∃ v, upt g x y = v := ⟨_, rfl⟩
              rw [hv] at HA
              go_wp2_with (first | (go_at_call 30; refine (in_any s y _ (by omega) (by omega)).mono ?_; rintro e w' ⟨rfl, rfl⟩; rw [hb]) | fail)
              refine (refUpto_any len a len cap g x y _ v hv h10 HG.out K0.out.row (by omega) hyl).mono ?_
              rintro e w1 ⟨rfl, hb1⟩
              have HB1 : Hid (Below w.heap.size w w1) := Below.then HB0.out hb1
              have K1 : Hid (Held w1 w.heap.size len a len cap (fun k => (g k : Nat))) := K0.out.step hb1
              clear hb1 HB0 K0 k0 k1 hv
              cases v
              · go_wp2_with fail
                go_roundw
                case rel => exact ⟨y + 1, by omega, by rw [HA.out]; rfl, by go_num, K1.out, HB1.out⟩
                case measure => simp [intOf]; omega
              · go_wp2_with fail
                go_roundw
                case rel => exact ⟨y + 1, by omega, by rw [HA.out]; rfl, by go_num, K1.out, HB1.out⟩
                case measure => simp [intOf]; omega
          · rw [ha] at HA
            go_wp2_with fail
            go_roundw
            case rel => exact ⟨y + 1, by omega, by rw [HA.out]; rfl, by go_num, K0.out, HB0.out⟩
            case measure => simp [intOf]; omega
        · obtain rfl : y = len := by omega
          cases ha : anyK g s x y
          · have HS : Hid (setBy P (x + 1) = setBy P x) := setBy_no (by rw [HPI.out, ha])
            go_wp2_with fail
            go_roundw
            case rel => exact ⟨x + 1, by omega, by rw [HS.out], by go_num, K0.out, HB0.out⟩
            case measure => simp [intOf]; omega
          · have HS : Hid (setBy P (x + 1) = setBy P x + pw x) := setBy_yes (by rw [HPI.out, ha])
            go_wp2_with (go_at_call 21; refine (bit_any x _ (by omega)).mono ?_; rintro e w' ⟨rfl, rfl⟩)
            go_roundw
            case rel => exact ⟨x + 1, by omega, by rw [HS.out]; go_num, by go_num, K0.out, HB0.out⟩
            case measure => simp [intOf]; omega
    · obtain rfl : x = len := by omega
      go_wp2_with fail
      go_ret
      exact ⟨rfl, HB0.out⟩
end Go.Proofs.YtggngpnenbjidaaDoor
