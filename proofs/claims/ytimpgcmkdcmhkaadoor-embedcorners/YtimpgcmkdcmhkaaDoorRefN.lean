/-
  What the reference's CheckNumbers, DividesRow and TimesIn answer. No condition but that slices read as slices of numbers.
-/
import Derived.Test.YtimpgcmkdcmhkaaDoorRefE
namespace Go.Proofs.YtimpgcmkdcmhkaaDoor
set_option maxRecDepth 100000
open Go.RowKit

def Odd (k : Nat) (S : Nat → Option Addr × Nat × Nat) : Prop := ∃ j, j < k ∧ (S j).2.1 ≠ (S 0).2.1
def Big (k : Nat) (S : Nat → Option Addr × Nat × Nat) (F : Nat → Nat → Int) : Prop := ∃ j, j < k ∧ ∃ i, i < (S j).2.1 ∧ ¬ (0 ≤ F j i ∧ F j i ≤ 1000000)
def BigIn (k y : Nat) (S : Nat → Option Addr × Nat × Nat) (F : Nat → Nat → Int) : Prop := Big k S F ∨ ∃ i, i < y ∧ ¬ (0 ≤ F k i ∧ F k i ≤ 1000000)
theorem Odd.more {k : Nat} {S : Nat → Option Addr × Nat × Nat} (h : Odd k S) : Odd (k + 1) S := by
  obtain ⟨j, h1, h2⟩ := h
  exact ⟨j, by omega, h2⟩
theorem Odd.less {k : Nat} {S : Nat → Option Addr × Nat × Nat} (h : ¬ Odd k S) (hk : (S k).2.1 = (S 0).2.1) : ¬ Odd (k + 1) S := by
  rintro ⟨j, h1, h2⟩
  by_cases e : j = k
  · subst e; exact h2 hk
  · exact h ⟨j, by omega, h2⟩
theorem BigIn.more {k y : Nat} {S : Nat → Option Addr × Nat × Nat} {F : Nat → Nat → Int} (h : BigIn k y S F) : BigIn k (y + 1) S F := by
  rcases h with h | ⟨i, h1, h2⟩
  · exact .inl h
  · exact .inr ⟨i, by omega, h2⟩
theorem BigIn.less {k y : Nat} {S : Nat → Option Addr × Nat × Nat} {F : Nat → Nat → Int} (h : ¬ BigIn k y S F) (hk : 0 ≤ F k y ∧ F k y ≤ 1000000) : ¬ BigIn k (y + 1) S F := by
  rintro (h1 | ⟨i, h1, h2⟩)
  · exact h (.inl h1)
  · by_cases e : i = y
    · subst e; exact h2 hk
    · exact h (.inr ⟨i, by omega, h2⟩)
theorem bigIn_zero {k : Nat} {S : Nat → Option Addr × Nat × Nat} {F : Nat → Nat → Int} {v : Bool} (h : BP v (Big k S F)) : BP v (BigIn k 0 S F) := by
  refine h.trans ⟨.inl, ?_⟩
  rintro (h | ⟨i, h1, _⟩)
  · exact h
  · exact absurd h1 (Nat.not_lt_zero _)
theorem bigIn_end {k : Nat} {S : Nat → Option Addr × Nat × Nat} {F : Nat → Nat → Int} {v : Bool} (h : BP v (BigIn k (S k).2.1 S F)) : BP v (Big (k + 1) S F) := by
  refine h.trans ⟨?_, ?_⟩
  · rintro (⟨j, h1, h2⟩ | ⟨i, h1, h2⟩)
    · exact ⟨j, by omega, h2⟩
    · exact ⟨k, by omega, i, h1, h2⟩
  · rintro ⟨j, h1, i, h2, h3⟩
    by_cases e : j = k
    · subst e; exact .inr ⟨i, h2, h3⟩
    · exact .inl ⟨j, by omega, i, h2, h3⟩
theorem odd_end {m : Nat} {S : Nat → Option Addr × Nat × Nat} : ¬ Odd m S ↔ Frm m S := by
  constructor
  · intro h k hk
    exact Classical.byContradiction fun hn => h ⟨k, hk, hn⟩
  · rintro h ⟨k, hk, hn⟩
    exact hn (h k hk)
theorem big_end {m : Nat} {S : Nat → Option Addr × Nat × Nat} {F : Nat → Nat → Int} : ¬ Big m S F ↔ Num m S F := by
  constructor
  · intro h k hk i hi
    exact Classical.byContradiction fun hn => h ⟨k, hk, i, hi, hn⟩
  · rintro h ⟨k, hk, i, hi, hn⟩
    exact hn (h k hk i hi)

set_option maxHeartbeats 8000000 in
theorem refNumbers_any (a : Option Addr) (m cap : Nat) (S : Nat → Option Addr × Nat × Nat) (F : Nat → Nat → Int) (w : World) (hm : m ≤ maxLen) (hr : RR w a m S F) :
    Calls Tryd.prog 22 #[.slice a m cap] w fun e w' => (∃ c, e = .returned (.int .i64 c) ∧ NCk m S F c) ∧ Below w.heap.size w w' := by
  have HR : Hid (RR w a m S F) := hr
  have HB1 : Hid (Below w.heap.size w w) := Below.refl _ _
  clear hr
  unfold maxLen at hm
  obtain ⟨v60, h6, H6⟩ : ∃ v, decide ((12 : Int) < (m : Int)) = v ∧ Hid (BP v (Long m 0 S)) := by
    by_cases h : 12 < m
    · exact ⟨true, by simp; omega, BP.of (.inl h)⟩
    · refine ⟨false, by simp; omega, BP.not ?_⟩
      rintro (h1 | ⟨j, h1, _⟩)
      · exact h h1
      · exact absurd h1 (Nat.not_lt_zero _)
  have H7 : Hid (BP false (Big 0 S F)) := BP.not (fun ⟨j, h1, _⟩ => absurd h1 (Nat.not_lt_zero _))
  have H8 : Hid (BP false (Odd 0 S)) := BP.not (fun ⟨j, h1, _⟩ => absurd h1 (Nat.not_lt_zero _))
  go_enter Tryd.func22, Tryd.ntmps22
  go_wp2_with fail
  try rw [h6]
  clear h6
  go_loopw [6, 3, 4, 5] (fun i t s u wx => ∃ (k : Nat) (v3 v4 v5 : Bool), k ≤ m ∧ i = .int .i64 k ∧ t = .bool v3 ∧ s = .bool v4 ∧ u = .bool v5 ∧ Hid (BP v3 (Long m k S)) ∧ Hid (BP v4 (Odd k S)) ∧ Hid (BP v5 (Big k S F)) ∧ Hid (Below w.heap.size w wx) ∧ Hid (RR wx a m S F)) (fun i _ _ _ _ => m - (intOf i).toNat)
  case atStart => exact ⟨0, v60, false, false, Nat.zero_le _, rfl, rfl, rfl, rfl, H6.out, H8.out, H7.out, HB1.out, HR.out⟩
  case round =>
    clear H6 H7 H8 HR HB1
    obtain ⟨k, v3, v4, v5, hk, rfl, rfl, rfl, rfl, H3, H4, H5, hB, hRR⟩ := hrel
    by_cases hlt : k < m
    · obtain ⟨b, off, rfl, hc, hl2, _⟩ := hRR.out k hlt
      obtain ⟨b', off', hbb, hc0, hl0, _⟩ := hRR.out 0 (by omega)
      simp at hbb
      obtain ⟨rfl, rfl⟩ := hbb
      rw [Nat.add_zero] at hc0
      unfold maxLen at hl2 hl0
      have hklt' : (k : Int) < (m : Int) := by omega
      have hm0 : (0 : Int) < (m : Int) := by omega
      have HLN : Hid (12 < (S k).2.1 → Long m (k + 1) S) := fun h => .inr ⟨k, by omega, h⟩
      have HLL : Hid (¬ Long m k S → ¬ 12 < (S k).2.1 → ¬ Long m (k + 1) S) := Long.less
      have HON : Hid ((S k).2.1 ≠ (S 0).2.1 → Odd (k + 1) S) := fun h => ⟨k, by omega, h⟩
      have HOL : Hid (¬ Odd k S → (S k).2.1 = (S 0).2.1 → ¬ Odd (k + 1) S) := Odd.less
      generalize hs1 : (S k).1 = r1 at *
      generalize hs2 : (S k).2.1 = r2 at *
      generalize hs3 : (S k).2.2 = r3 at *
      generalize ht1 : (S 0).1 = z1 at *
      generalize ht2 : (S 0).2.1 = z2 at *
      generalize ht3 : (S 0).2.2 = z3 at *
      cases v3
      · obtain ⟨q3, hq3, HL⟩ : ∃ v, decide ((12 : Int) < (r2 : Int)) = v ∧ Hid (BP v (Long m (k + 1) S)) := by
          by_cases h : 12 < r2
          · exact ⟨true, by simp; omega, BP.of (HLN.out h)⟩
          · exact ⟨false, by simp; omega, BP.not (HLL.out H3.out.no h)⟩
        cases v4
        · obtain ⟨q4, hq4, HO⟩ : ∃ v, ((r2 : Int) != (z2 : Int)) = v ∧ Hid (BP v (Odd (k + 1) S)) := by
            by_cases h : r2 = z2
            · exact ⟨false, by simp; omega, BP.not (HOL.out H4.out.no h)⟩
            · exact ⟨true, by simp; omega, BP.of (HON.out h)⟩
          have HF0 : Hid (BP v5 (BigIn k 0 S F)) := bigIn_zero H5.out
          clear H5 H3 H4
          go_wp2_with fail
          go_big_quiet (fail)
          go_wp2_with fail
          have HBd : Hid (∀ q, Below wr.heap.size wr (wr.drewN q)) := fun q => below_drewN (Below.refl _ _) _
          go_loopw [7, 5] (fun i u wx => ∃ (y : Nat) (v : Bool), y ≤ r2 ∧ i = .int .i64 y ∧ u = .bool v ∧ Hid (BP v (BigIn k y S F)) ∧ Hid (Below w.heap.size w wx) ∧ Hid (RR wx (some ⟨b, off, none⟩) m S F)) (fun i _ _ => r2 - (intOf i).toNat)
          case atStart => exact ⟨0, v5, Nat.zero_le _, rfl, rfl, HF0.out, Below.then hB.out (HBd.out _), hRR.out.below (HBd.out _)⟩
          case round =>
            clear hB hRR hc hc0 HF0 HBd
            obtain ⟨y, v, hy, rfl, rfl, HV, hB, hRR⟩ := hrel
            have hck : wr.cell? ⟨b, off + k, none⟩ = some (.slice r1 r2 r3) := by
              obtain ⟨b', off', e, hc, _, _⟩ := hRR.out k hlt
              simp at e
              obtain ⟨rfl, rfl⟩ := e
              rw [hs1, hs2, hs3] at hc; exact hc
            have hrow : Row wr r1 r2 (F k) := by
              obtain ⟨b', off', e, _, _, hr⟩ := hRR.out k hlt
              rw [hs1, hs2] at hr; exact hr
            have HD : Hid (∀ q, Below wr.heap.size wr (wr.drewN q)) := fun q => below_drewN (Below.refl _ _) _
            have HD0 : Hid (Below wr.heap.size wr wr) := Below.refl _ _
            by_cases hylt : y < r2
            · obtain ⟨b', off', hr1, hcy⟩ := hrow y hylt
              subst hr1
              have hylt' : (y : Int) < (r2 : Int) := by omega
              clear hrow
              cases v
              · by_cases hlo : F k y < 0
                · have HN : Hid (BP true (BigIn k (y + 1) S F)) := BP.of (.inr ⟨y, by omega, by omega⟩)
                  have hd : decide (F k y < 0) = true := by simpa using hlo
                  clear HV
                  go_wp2_with fail
                  go_roundw
                  case rel => exact ⟨y + 1, true, by omega, by go_num, by first | rfl | trivial, HN.out, hB.out, hRR.out⟩
                  case measure => simp [intOf]; omega
                · have hd : decide (F k y < 0) = false := by simpa using hlo
                  by_cases hhi : 1000000 < F k y
                  · have HN : Hid (BP true (BigIn k (y + 1) S F)) := BP.of (.inr ⟨y, by omega, by omega⟩)
                    have hd2 : decide (1000000 < F k y) = true := by simpa using hhi
                    clear HV
                    go_wp2_with fail
                    go_roundw
                    case rel => exact ⟨y + 1, true, by omega, by go_num, by first | rfl | trivial, HN.out, hB.out, hRR.out⟩
                    case measure => simp [intOf]; omega
                  · have HN : Hid (BP false (BigIn k (y + 1) S F)) := BP.not (BigIn.less HV.out.no ⟨by omega, by omega⟩)
                    have hd2 : decide (1000000 < F k y) = false := by simpa using hhi
                    clear HV
                    go_wp2_with fail
                    go_roundw
                    case rel => exact ⟨y + 1, false, by omega, by go_num, by first | rfl | trivial, HN.out, hB.out, hRR.out⟩
                    case measure => simp [intOf]; omega
              · have HN : Hid (BP true (BigIn k (y + 1) S F)) := BP.of (BigIn.more HV.out.yes)
                clear HV
                go_wp2_with fail
                go_roundw
                case rel => exact ⟨y + 1, true, by omega, by go_num, by first | rfl | trivial, HN.out, hB.out, hRR.out⟩
                case measure => simp [intOf]; omega
            · obtain rfl : y = r2 := by omega
              have HN : Hid (BP v (Big (k + 1) S F)) := bigIn_end (by rw [hs2]; exact HV.out)
              clear HV hrow
              go_wp2_with fail
              go_roundw
              case rel => exact ⟨k + 1, q3, q4, v, by omega, by go_num, by first | rfl | trivial, by first | rfl | trivial, by first | rfl | trivial, HL.out, HO.out, HN.out, hB.out, hRR.out⟩
              case measure => simp [intOf]; omega
        · have HO : Hid (BP true (Odd (k + 1) S)) := BP.of (Odd.more H4.out.yes)
          have HF0 : Hid (BP v5 (BigIn k 0 S F)) := bigIn_zero H5.out
          clear H5 H3 H4
          go_wp2_with fail
          go_big_quiet (fail)
          go_wp2_with fail
          have HBd : Hid (∀ q, Below wr.heap.size wr (wr.drewN q)) := fun q => below_drewN (Below.refl _ _) _
          go_loopw [7, 5] (fun i u wx => ∃ (y : Nat) (v : Bool), y ≤ r2 ∧ i = .int .i64 y ∧ u = .bool v ∧ Hid (BP v (BigIn k y S F)) ∧ Hid (Below w.heap.size w wx) ∧ Hid (RR wx (some ⟨b, off, none⟩) m S F)) (fun i _ _ => r2 - (intOf i).toNat)
          case atStart => exact ⟨0, v5, Nat.zero_le _, rfl, rfl, HF0.out, Below.then hB.out (HBd.out _), hRR.out.below (HBd.out _)⟩
          case round =>
            clear hB hRR hc hc0 HF0 HBd
            obtain ⟨y, v, hy, rfl, rfl, HV, hB, hRR⟩ := hrel
            have hck : wr.cell? ⟨b, off + k, none⟩ = some (.slice r1 r2 r3) := by
              obtain ⟨b', off', e, hc, _, _⟩ := hRR.out k hlt
              simp at e
              obtain ⟨rfl, rfl⟩ := e
              rw [hs1, hs2, hs3] at hc; exact hc
            have hrow : Row wr r1 r2 (F k) := by
              obtain ⟨b', off', e, _, _, hr⟩ := hRR.out k hlt
              rw [hs1, hs2] at hr; exact hr
            have HD : Hid (∀ q, Below wr.heap.size wr (wr.drewN q)) := fun q => below_drewN (Below.refl _ _) _
            have HD0 : Hid (Below wr.heap.size wr wr) := Below.refl _ _
            by_cases hylt : y < r2
            · obtain ⟨b', off', hr1, hcy⟩ := hrow y hylt
              subst hr1
              have hylt' : (y : Int) < (r2 : Int) := by omega
              clear hrow
              cases v
              · by_cases hlo : F k y < 0
                · have HN : Hid (BP true (BigIn k (y + 1) S F)) := BP.of (.inr ⟨y, by omega, by omega⟩)
                  have hd : decide (F k y < 0) = true := by simpa using hlo
                  clear HV
                  go_wp2_with fail
                  go_roundw
                  case rel => exact ⟨y + 1, true, by omega, by go_num, by first | rfl | trivial, HN.out, hB.out, hRR.out⟩
                  case measure => simp [intOf]; omega
                · have hd : decide (F k y < 0) = false := by simpa using hlo
                  by_cases hhi : 1000000 < F k y
                  · have HN : Hid (BP true (BigIn k (y + 1) S F)) := BP.of (.inr ⟨y, by omega, by omega⟩)
                    have hd2 : decide (1000000 < F k y) = true := by simpa using hhi
                    clear HV
                    go_wp2_with fail
                    go_roundw
                    case rel => exact ⟨y + 1, true, by omega, by go_num, by first | rfl | trivial, HN.out, hB.out, hRR.out⟩
                    case measure => simp [intOf]; omega
                  · have HN : Hid (BP false (BigIn k (y + 1) S F)) := BP.not (BigIn.less HV.out.no ⟨by omega, by omega⟩)
                    have hd2 : decide (1000000 < F k y) = false := by simpa using hhi
                    clear HV
                    go_wp2_with fail
                    go_roundw
                    case rel => exact ⟨y + 1, false, by omega, by go_num, by first | rfl | trivial, HN.out, hB.out, hRR.out⟩
                    case measure => simp [intOf]; omega
              · have HN : Hid (BP true (BigIn k (y + 1) S F)) := BP.of (BigIn.more HV.out.yes)
                clear HV
                go_wp2_with fail
                go_roundw
                case rel => exact ⟨y + 1, true, by omega, by go_num, by first | rfl | trivial, HN.out, hB.out, hRR.out⟩
                case measure => simp [intOf]; omega
            · obtain rfl : y = r2 := by omega
              have HN : Hid (BP v (Big (k + 1) S F)) := bigIn_end (by rw [hs2]; exact HV.out)
              clear HV hrow
              go_wp2_with fail
              go_roundw
              case rel => exact ⟨k + 1, q3, true, v, by omega, by go_num, by first | rfl | trivial, by first | rfl | trivial, by first | rfl | trivial, HL.out, HO.out, HN.out, hB.out, hRR.out⟩
              case measure => simp [intOf]; omega
      · have HL : Hid (BP true (Long m (k + 1) S)) := BP.of (Long.more H3.out.yes)
        cases v4
        · obtain ⟨q4, hq4, HO⟩ : ∃ v, ((r2 : Int) != (z2 : Int)) = v ∧ Hid (BP v (Odd (k + 1) S)) := by
            by_cases h : r2 = z2
            · exact ⟨false, by simp; omega, BP.not (HOL.out H4.out.no h)⟩
            · exact ⟨true, by simp; omega, BP.of (HON.out h)⟩
          have HF0 : Hid (BP v5 (BigIn k 0 S F)) := bigIn_zero H5.out
          clear H5 H3 H4
          go_wp2_with fail
          go_big_quiet (fail)
          go_wp2_with fail
          have HBd : Hid (∀ q, Below wr.heap.size wr (wr.drewN q)) := fun q => below_drewN (Below.refl _ _) _
          go_loopw [7, 5] (fun i u wx => ∃ (y : Nat) (v : Bool), y ≤ r2 ∧ i = .int .i64 y ∧ u = .bool v ∧ Hid (BP v (BigIn k y S F)) ∧ Hid (Below w.heap.size w wx) ∧ Hid (RR wx (some ⟨b, off, none⟩) m S F)) (fun i _ _ => r2 - (intOf i).toNat)
          case atStart => exact ⟨0, v5, Nat.zero_le _, rfl, rfl, HF0.out, Below.then hB.out (HBd.out _), hRR.out.below (HBd.out _)⟩
          case round =>
            clear hB hRR hc hc0 HF0 HBd
            obtain ⟨y, v, hy, rfl, rfl, HV, hB, hRR⟩ := hrel
            have hck : wr.cell? ⟨b, off + k, none⟩ = some (.slice r1 r2 r3) := by
              obtain ⟨b', off', e, hc, _, _⟩ := hRR.out k hlt
              simp at e
              obtain ⟨rfl, rfl⟩ := e
              rw [hs1, hs2, hs3] at hc; exact hc
            have hrow : Row wr r1 r2 (F k) := by
              obtain ⟨b', off', e, _, _, hr⟩ := hRR.out k hlt
              rw [hs1, hs2] at hr; exact hr
            have HD : Hid (∀ q, Below wr.heap.size wr (wr.drewN q)) := fun q => below_drewN (Below.refl _ _) _
            have HD0 : Hid (Below wr.heap.size wr wr) := Below.refl _ _
            by_cases hylt : y < r2
            · obtain ⟨b', off', hr1, hcy⟩ := hrow y hylt
              subst hr1
              have hylt' : (y : Int) < (r2 : Int) := by omega
              clear hrow
              cases v
              · by_cases hlo : F k y < 0
                · have HN : Hid (BP true (BigIn k (y + 1) S F)) := BP.of (.inr ⟨y, by omega, by omega⟩)
                  have hd : decide (F k y < 0) = true := by simpa using hlo
                  clear HV
                  go_wp2_with fail
                  go_roundw
                  case rel => exact ⟨y + 1, true, by omega, by go_num, by first | rfl | trivial, HN.out, hB.out, hRR.out⟩
                  case measure => simp [intOf]; omega
                · have hd : decide (F k y < 0) = false := by simpa using hlo
                  by_cases hhi : 1000000 < F k y
                  · have HN : Hid (BP true (BigIn k (y + 1) S F)) := BP.of (.inr ⟨y, by omega, by omega⟩)
                    have hd2 : decide (1000000 < F k y) = true := by simpa using hhi
                    clear HV
                    go_wp2_with fail
                    go_roundw
                    case rel => exact ⟨y + 1, true, by omega, by go_num, by first | rfl | trivial, HN.out, hB.out, hRR.out⟩
                    case measure => simp [intOf]; omega
                  · have HN : Hid (BP false (BigIn k (y + 1) S F)) := BP.not (BigIn.less HV.out.no ⟨by omega, by omega⟩)
                    have hd2 : decide (1000000 < F k y) = false := by simpa using hhi
                    clear HV
                    go_wp2_with fail
                    go_roundw
                    case rel => exact ⟨y + 1, false, by omega, by go_num, by first | rfl | trivial, HN.out, hB.out, hRR.out⟩
                    case measure => simp [intOf]; omega
              · have HN : Hid (BP true (BigIn k (y + 1) S F)) := BP.of (BigIn.more HV.out.yes)
                clear HV
                go_wp2_with fail
                go_roundw
                case rel => exact ⟨y + 1, true, by omega, by go_num, by first | rfl | trivial, HN.out, hB.out, hRR.out⟩
                case measure => simp [intOf]; omega
            · obtain rfl : y = r2 := by omega
              have HN : Hid (BP v (Big (k + 1) S F)) := bigIn_end (by rw [hs2]; exact HV.out)
              clear HV hrow
              go_wp2_with fail
              go_roundw
              case rel => exact ⟨k + 1, true, q4, v, by omega, by go_num, by first | rfl | trivial, by first | rfl | trivial, by first | rfl | trivial, HL.out, HO.out, HN.out, hB.out, hRR.out⟩
              case measure => simp [intOf]; omega
        · have HO : Hid (BP true (Odd (k + 1) S)) := BP.of (Odd.more H4.out.yes)
          have HF0 : Hid (BP v5 (BigIn k 0 S F)) := bigIn_zero H5.out
          clear H5 H3 H4
          go_wp2_with fail
          go_big_quiet (fail)
          go_wp2_with fail
          have HBd : Hid (∀ q, Below wr.heap.size wr (wr.drewN q)) := fun q => below_drewN (Below.refl _ _) _
          go_loopw [7, 5] (fun i u wx => ∃ (y : Nat) (v : Bool), y ≤ r2 ∧ i = .int .i64 y ∧ u = .bool v ∧ Hid (BP v (BigIn k y S F)) ∧ Hid (Below w.heap.size w wx) ∧ Hid (RR wx (some ⟨b, off, none⟩) m S F)) (fun i _ _ => r2 - (intOf i).toNat)
          case atStart => exact ⟨0, v5, Nat.zero_le _, rfl, rfl, HF0.out, Below.then hB.out (HBd.out _), hRR.out.below (HBd.out _)⟩
          case round =>
            clear hB hRR hc hc0 HF0 HBd
            obtain ⟨y, v, hy, rfl, rfl, HV, hB, hRR⟩ := hrel
            have hck : wr.cell? ⟨b, off + k, none⟩ = some (.slice r1 r2 r3) := by
              obtain ⟨b', off', e, hc, _, _⟩ := hRR.out k hlt
              simp at e
              obtain ⟨rfl, rfl⟩ := e
              rw [hs1, hs2, hs3] at hc; exact hc
            have hrow : Row wr r1 r2 (F k) := by
              obtain ⟨b', off', e, _, _, hr⟩ := hRR.out k hlt
              rw [hs1, hs2] at hr; exact hr
            have HD : Hid (∀ q, Below wr.heap.size wr (wr.drewN q)) := fun q => below_drewN (Below.refl _ _) _
            have HD0 : Hid (Below wr.heap.size wr wr) := Below.refl _ _
            by_cases hylt : y < r2
            · obtain ⟨b', off', hr1, hcy⟩ := hrow y hylt
              subst hr1
              have hylt' : (y : Int) < (r2 : Int) := by omega
              clear hrow
              cases v
              · by_cases hlo : F k y < 0
                · have HN : Hid (BP true (BigIn k (y + 1) S F)) := BP.of (.inr ⟨y, by omega, by omega⟩)
                  have hd : decide (F k y < 0) = true := by simpa using hlo
                  clear HV
                  go_wp2_with fail
                  go_roundw
                  case rel => exact ⟨y + 1, true, by omega, by go_num, by first | rfl | trivial, HN.out, hB.out, hRR.out⟩
                  case measure => simp [intOf]; omega
                · have hd : decide (F k y < 0) = false := by simpa using hlo
                  by_cases hhi : 1000000 < F k y
                  · have HN : Hid (BP true (BigIn k (y + 1) S F)) := BP.of (.inr ⟨y, by omega, by omega⟩)
                    have hd2 : decide (1000000 < F k y) = true := by simpa using hhi
                    clear HV
                    go_wp2_with fail
                    go_roundw
                    case rel => exact ⟨y + 1, true, by omega, by go_num, by first | rfl | trivial, HN.out, hB.out, hRR.out⟩
                    case measure => simp [intOf]; omega
                  · have HN : Hid (BP false (BigIn k (y + 1) S F)) := BP.not (BigIn.less HV.out.no ⟨by omega, by omega⟩)
                    have hd2 : decide (1000000 < F k y) = false := by simpa using hhi
                    clear HV
                    go_wp2_with fail
                    go_roundw
                    case rel => exact ⟨y + 1, false, by omega, by go_num, by first | rfl | trivial, HN.out, hB.out, hRR.out⟩
                    case measure => simp [intOf]; omega
              · have HN : Hid (BP true (BigIn k (y + 1) S F)) := BP.of (BigIn.more HV.out.yes)
                clear HV
                go_wp2_with fail
                go_roundw
                case rel => exact ⟨y + 1, true, by omega, by go_num, by first | rfl | trivial, HN.out, hB.out, hRR.out⟩
                case measure => simp [intOf]; omega
            · obtain rfl : y = r2 := by omega
              have HN : Hid (BP v (Big (k + 1) S F)) := bigIn_end (by rw [hs2]; exact HV.out)
              clear HV hrow
              go_wp2_with fail
              go_roundw
              case rel => exact ⟨k + 1, true, true, v, by omega, by go_num, by first | rfl | trivial, by first | rfl | trivial, by first | rfl | trivial, HL.out, HO.out, HN.out, hB.out, hRR.out⟩
              case measure => simp [intOf]; omega
    · obtain rfl : k = m := by omega
      cases v3
      · cases v4
        · cases v5
          · have HN : Hid (NCk k S F 0) := .inr ⟨H3.out.no, .inr ⟨odd_end.1 H4.out.no, .inr ⟨rfl, big_end.1 H5.out.no⟩⟩⟩
            go_wp2_with fail
            go_ret
            exact ⟨⟨_, rfl, HN.out⟩, hB.out⟩
          · have HN : Hid (NCk k S F 3) := .inr ⟨H3.out.no, .inr ⟨odd_end.1 H4.out.no, .inl ⟨rfl, fun h => big_end.2 h H5.out.yes⟩⟩⟩
            go_wp2_with fail
            go_ret
            exact ⟨⟨_, rfl, HN.out⟩, hB.out⟩
        · have HN : Hid (NCk k S F 1) := .inr ⟨H3.out.no, .inl ⟨rfl, fun h => odd_end.2 h H4.out.yes⟩⟩
          go_wp2_with fail
          go_ret
          exact ⟨⟨_, rfl, HN.out⟩, hB.out⟩
      · have HN : Hid (NCk k S F 2) := .inl ⟨rfl, H3.out.yes⟩
        go_wp2_with fail
        go_ret
        exact ⟨⟨_, rfl, HN.out⟩, hB.out⟩

set_option maxHeartbeats 1000000 in
theorem refDivides_any (a : Option Addr) (l ca : Nat) (f : Nat → Int) (b : Option Addr) (cb : Nat) (h : Nat → Int) (w : World) (hl : l ≤ 12) (ha : Row w a l f) (hb : Row w b l h) :
    Calls Tryd.prog 23 #[.slice a l ca, .slice b l cb] w fun e w' => e = .returned (.bool (divB l f h)) ∧ Below w.heap.size w w' := by
  have HA : Hid (Row w a l f) := ha
  have HB : Hid (Row w b l h) := hb
  clear ha hb
  go_enter Tryd.func23, Tryd.ntmps23
  go_wp2_with fail
  go_loopw [5] (fun i wx => ∃ k : Nat, k ≤ l ∧ i = .int .i64 k ∧ Hid (Below w.heap.size w wx) ∧ Hid (∀ j, j < k → f j ≤ h j)) (fun i _ => l - (intOf i).toNat)
  case atStart => exact ⟨0, Nat.zero_le _, rfl, Below.refl _ _, upto_zero⟩
  case round =>
    obtain ⟨k, hk, rfl, hB, HK⟩ := hrel
    by_cases hlt : k < l
    · obtain ⟨b1, o1, rfl, c1⟩ := HA.out.below hB.out k hlt
      obtain ⟨b2, o2, rfl, c2⟩ := HB.out.below hB.out k hlt
      have hlt' : (k : Int) < (l : Int) := by omega
      by_cases he : f k ≤ h k
      · have he' : decide (h k < f k) = false := by simp; omega
        have HN : Hid (∀ j, j < k + 1 → f j ≤ h j) := upto_succ HK.out he
        clear he
        go_wp2_with fail
        go_big_quiet (fail)
        go_wp2_with fail
        go_roundw
        case rel => exact ⟨k + 1, by omega, by go_num, below_drewN hB.out _, HN.out⟩
        case measure => simp [intOf]; omega
      · have he' : decide (h k < f k) = true := by simp; omega
        have HN : Hid (divB l f h = false) := (by
          unfold divB
          rw [decide_eq_false_iff_not]
          exact fun H => he (H k hlt) : divB l f h = false)
        clear he
        go_wp2_with fail
        go_big_quiet (fail)
        go_wp2_with fail
        go_ret
        exact ⟨by rw [HN.out]; rfl, below_drewN hB.out _⟩
    · obtain rfl : k = l := by omega
      have HN : Hid (divB k f h = true) := decide_eq_true HK.out
      go_wp2_with fail
      go_ret
      exact ⟨by rw [HN.out]; rfl, hB.out⟩
set_option maxHeartbeats 1000000 in
theorem timesIn_any (a : Option Addr) (l ca : Nat) (f : Nat → Nat) (x : Nat) (w : World) (hl : l ≤ 12) (ha : Row w a l (fun k => (f k : Nat))) :
    Calls Tryd.prog 37 #[.slice a l ca, .int .i64 (x : Nat)] w fun e w' => e = .returned (.int .i64 (cntT (fun i => f i == x) l : Nat)) ∧ w = w' := by
  have HA : Hid (Row w a l (fun k => (f k : Nat))) := ha
  clear ha
  go_enter Tryd.func37, Tryd.ntmps37
  go_wp2_with fail
  go_loopw [6, 5] (fun i u wx => ∃ k : Nat, k ≤ l ∧ i = .int .i64 k ∧ u = .int .i64 (cntT (fun i => f i == x) k : Nat) ∧ wx = w) (fun i _ _ => l - (intOf i).toNat)
  case atStart => exact ⟨0, Nat.zero_le _, rfl, rfl, rfl⟩
  case round =>
    obtain ⟨k, hk, rfl, rfl, rfl⟩ := hrel
    have hle := cntT_le (fun i => f i == x) k
    by_cases hlt : k < l
    · obtain ⟨b1, o1, rfl, c1⟩ := HA.out k hlt
      by_cases he : f k = x
      · have he' : (((f k : Nat) : Int) == ((x : Nat) : Int)) = true := by simp; omega
        have HE : Hid (cntT (fun i => f i == x) (k + 1) = cntT (fun i => f i == x) k + 1) := (by rw [cntT, if_pos (by simpa using he)] : cntT (fun i => f i == x) (k + 1) = cntT (fun i => f i == x) k + 1)
        generalize hgq : cntT (fun i => f i == x) k = q at *
        clear he
        go_wp2_with fail
        go_roundw
        case rel => exact ⟨k + 1, by omega, by go_num, by rw [HE.out]; go_num, by first | rfl | trivial⟩
        case measure => simp [intOf]; omega
      · have he' : (((f k : Nat) : Int) == ((x : Nat) : Int)) = false := by simp; omega
        have HE : Hid (cntT (fun i => f i == x) (k + 1) = cntT (fun i => f i == x) k) := (by rw [cntT, if_neg (by simpa using he), Nat.add_zero] : cntT (fun i => f i == x) (k + 1) = cntT (fun i => f i == x) k)
        generalize hgq : cntT (fun i => f i == x) k = q at *
        clear he
        go_wp2_with fail
        go_roundw
        case rel => exact ⟨k + 1, by omega, by go_num, by rw [HE.out], by first | rfl | trivial⟩
        case measure => simp [intOf]; omega
    · obtain rfl : k = l := by omega
      go_wp2_with fail
      go_ret
      exact ⟨rfl, rfl⟩
end Go.Proofs.YtimpgcmkdcmhkaaDoor
