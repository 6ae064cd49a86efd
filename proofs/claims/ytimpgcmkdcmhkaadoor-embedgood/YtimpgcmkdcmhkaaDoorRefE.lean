/-
  What the reference's CheckWords and CheckNumbers answer. No condition but that slices read as slices of numbers.
-/
import Derived.Test.YtimpgcmkdcmhkaaDoorEmP
import Derived.Test.YtimpgcmkdcmhkaaDoorEmR
namespace Go.Proofs.YtimpgcmkdcmhkaaDoor
set_option maxRecDepth 100000
open Go.RowKit

/-- A Bool that says whether P. -/
def BP (v : Bool) (P : Prop) : Prop := v = true ↔ P
theorem BP.no {P : Prop} (h : BP false P) : ¬ P := fun p => by have := h.2 p; cases this
theorem BP.yes {P : Prop} (h : BP true P) : P := h.1 rfl
theorem BP.of {P : Prop} (h : P) : BP true P := ⟨fun _ => h, fun _ => rfl⟩
theorem BP.not {P : Prop} (h : ¬ P) : BP false P := ⟨fun e => (by cases e), fun p => absurd p h⟩
/-- Some list is too long among the first k; some number is no letter. -/
def Long (m k : Nat) (S : Nat → Option Addr × Nat × Nat) : Prop := 12 < m ∨ ∃ j, j < k ∧ 12 < (S j).2.1
def Far (n : Int) (k : Nat) (S : Nat → Option Addr × Nat × Nat) (F : Nat → Nat → Int) : Prop := ∃ j, j < k ∧ ∃ i, i < (S j).2.1 ∧ ¬ (0 ≤ F j i ∧ F j i < n)
def FarIn (n : Int) (k y : Nat) (S : Nat → Option Addr × Nat × Nat) (F : Nat → Nat → Int) : Prop := Far n k S F ∨ ∃ i, i < y ∧ ¬ (0 ≤ F k i ∧ F k i < n)
theorem Long.more {m k : Nat} {S : Nat → Option Addr × Nat × Nat} (h : Long m k S) : Long m (k + 1) S := by
  rcases h with h | ⟨j, h1, h2⟩
  · exact .inl h
  · exact .inr ⟨j, by omega, h2⟩
theorem Long.less {m k : Nat} {S : Nat → Option Addr × Nat × Nat} (h : ¬ Long m k S) (hk : ¬ 12 < (S k).2.1) : ¬ Long m (k + 1) S := by
  rintro (h1 | ⟨j, h1, h2⟩)
  · exact h (.inl h1)
  · by_cases e : j = k
    · subst e; exact hk h2
    · exact h (.inr ⟨j, by omega, h2⟩)
theorem FarIn.more {n : Int} {k y : Nat} {S : Nat → Option Addr × Nat × Nat} {F : Nat → Nat → Int} (h : FarIn n k y S F) : FarIn n k (y + 1) S F := by
  rcases h with h | ⟨i, h1, h2⟩
  · exact .inl h
  · exact .inr ⟨i, by omega, h2⟩
theorem FarIn.less {n : Int} {k y : Nat} {S : Nat → Option Addr × Nat × Nat} {F : Nat → Nat → Int} (h : ¬ FarIn n k y S F) (hk : 0 ≤ F k y ∧ F k y < n) : ¬ FarIn n k (y + 1) S F := by
  rintro (h1 | ⟨i, h1, h2⟩)
  · exact h (.inl h1)
  · by_cases e : i = y
    · subst e; exact h2 hk
    · exact h (.inr ⟨i, by omega, h2⟩)
theorem farIn_zero {n : Int} {k : Nat} {S : Nat → Option Addr × Nat × Nat} {F : Nat → Nat → Int} {v : Bool} (h : BP v (Far n k S F)) : BP v (FarIn n k 0 S F) := by
  refine h.trans ⟨.inl, ?_⟩
  rintro (h | ⟨i, h1, _⟩)
  · exact h
  · exact absurd h1 (Nat.not_lt_zero _)
theorem farIn_end {n : Int} {k : Nat} {S : Nat → Option Addr × Nat × Nat} {F : Nat → Nat → Int} {v : Bool} (h : BP v (FarIn n k (S k).2.1 S F)) : BP v (Far n (k + 1) S F) := by
  refine h.trans ⟨?_, ?_⟩
  · rintro (⟨j, h1, h2⟩ | ⟨i, h1, h2⟩)
    · exact ⟨j, by omega, h2⟩
    · exact ⟨k, by omega, i, h1, h2⟩
  · rintro ⟨j, h1, i, h2, h3⟩
    by_cases e : j = k
    · subst e; exact .inr ⟨i, h2, h3⟩
    · exact .inl ⟨j, by omega, i, h2, h3⟩
theorem long_end {m : Nat} {S : Nat → Option Addr × Nat × Nat} : Long m m S ↔ Many m S := Iff.rfl
theorem far_end {n : Int} {m : Nat} {S : Nat → Option Addr × Nat × Nat} {F : Nat → Nat → Int} : ¬ Far n m S F ↔ Lets n m S F := by
  constructor
  · intro h k hk i hi
    exact Classical.byContradiction fun hn => h ⟨k, hk, i, hi, hn⟩
  · rintro h ⟨k, hk, i, hi, hn⟩
    exact hn (h k hk i hi)

set_option maxHeartbeats 8000000 in
theorem refWords_any (n : Int) (ao : Option Addr) (len co : Nat) (f : Nat → Int) (a : Option Addr) (m cap : Nat) (S : Nat → Option Addr × Nat × Nat) (F : Nat → Nat → Int) (w : World) (hl : len ≤ maxLen) (ho : Row w ao len f) (hm : m ≤ maxLen) (hr : RR w a m S F) :
    Calls Tryd.prog 10 #[.agg #[.int .i64 n, .slice ao len co], .slice a m cap] w fun e w' => (∃ c, e = .returned (.int .i64 c) ∧ WCk n len f m S F c) ∧ Below w.heap.size w w' := by
  have HB0 : Hid (Below w.heap.size w (w.alloc (.cells #[.int .i64 n, .slice ao len co] 24))) := bel_one w _
  have K0 : Hid (Held (w.alloc (.cells #[.int .i64 n, .slice ao len co] 24)) w.heap.size n ao len co f) := Held.box ho
  have HR0 : Hid (RR w a m S F) := hr
  clear ho hr
  have k0 := K0.out.c0
  have k1 := K0.out.c1
  go_enter Tryd.func10, Tryd.ntmps10
  go_wp2_with fail
  refine (checkOrder_any n ao len co f _ hl K0.out.row).mono ?_
  rintro e w1 ⟨⟨c, rfl, hc⟩, hb1⟩
  have HB1 : Hid (Below w.heap.size w w1) := Below.then HB0.out hb1
  have K1 : Hid (Held w1 w.heap.size n ao len co f) := K0.out.step hb1
  have HR : Hid (RR w1 a m S F) := (HR0.out.below HB0.out).below hb1
  have HC : Hid (Chk n len f c) := hc
  clear hb1 hc HB0 K0 k0 k1 HR0
  generalize hB0 : w.heap.size = B0 at K1 ⊢
  have k0 := K1.out.c0
  have k1 := K1.out.c1
  by_cases h0 : c = 0
  · subst h0
    unfold maxLen at hm
    obtain ⟨v60, h6, H6⟩ : ∃ v, decide ((12 : Int) < (m : Int)) = v ∧ Hid (BP v (Long m 0 S)) := by
      by_cases h : 12 < m
      · exact ⟨true, by simp; omega, BP.of (.inl h)⟩
      · refine ⟨false, by simp; omega, BP.not ?_⟩
        rintro (h1 | ⟨j, h1, _⟩)
        · exact h h1
        · exact absurd h1 (Nat.not_lt_zero _)
    have H7 : Hid (BP false (Far n 0 S F)) := BP.not (fun ⟨j, h1, _⟩ => absurd h1 (Nat.not_lt_zero _))
    clear k0 k1
    go_wp2_with fail
    try rw [h6]
    clear h6
    go_loopw [8, 6, 7] (fun i t u wx => ∃ (k : Nat) (v6 v7 : Bool), k ≤ m ∧ i = .int .i64 k ∧ t = .bool v6 ∧ u = .bool v7 ∧ Hid (BP v6 (Long m k S)) ∧ Hid (BP v7 (Far n k S F)) ∧ Hid (Held wx B0 n ao len co f) ∧ Hid (Below w.heap.size w wx) ∧ Hid (RR wx a m S F)) (fun i _ _ _ => m - (intOf i).toNat)
    case atStart => exact ⟨0, v60, false, Nat.zero_le _, rfl, rfl, rfl, H6.out, H7.out, K1.out, HB1.out, HR.out⟩
    case round =>
      clear H6 H7 HR HB1 K1
      obtain ⟨k, v6, v7, hk, rfl, rfl, rfl, H6, H7, hH, hB, hRR⟩ := hrel
      by_cases hlt : k < m
      · obtain ⟨b, off, rfl, hc, hl2, hrow⟩ := hRR.out k hlt
        unfold maxLen at hl2
        have HW : Hid (Row wr (S k).1 (S k).2.1 (F k)) := hrow
        clear hrow
        have HLN : Hid (12 < (S k).2.1 → Long m (k + 1) S) := fun h => .inr ⟨k, by omega, h⟩
        have HLL : Hid (¬ Long m k S → ¬ 12 < (S k).2.1 → ¬ Long m (k + 1) S) := Long.less
        generalize hs1 : (S k).1 = r1 at *
        generalize hs2 : (S k).2.1 = r2 at *
        generalize hs3 : (S k).2.2 = r3 at *
        cases v6
        · by_cases hbig : 12 < r2
          · have hb' : decide ((12 : Int) < (r2 : Int)) = true := by simp; omega
            have HL : Hid (BP true (Long m (k + 1) S)) := BP.of (HLN.out hbig)
            have HF0 : Hid (BP v7 (FarIn n k 0 S F)) := farIn_zero H7.out
            clear H6 H7
            go_wp2_with fail
            go_loopw [9, 7] (fun i u wx => ∃ (y : Nat) (v : Bool), y ≤ r2 ∧ i = .int .i64 y ∧ u = .bool v ∧ Hid (BP v (FarIn n k y S F)) ∧ Hid (Held wx B0 n ao len co f) ∧ Hid (Below w.heap.size w wx) ∧ Hid (RR wx (some ⟨b, off, none⟩) m S F)) (fun i _ _ => r2 - (intOf i).toNat)
            case atStart => exact ⟨0, v7, Nat.zero_le _, rfl, rfl, HF0.out, hH.out, hB.out, hRR.out⟩
            case round =>
              clear hH hB hRR hc HW HF0
              obtain ⟨y, v, hy, rfl, rfl, HV, hH, hB, hRR⟩ := hrel
              have hck : wr.cell? ⟨b, off + k, none⟩ = some (.slice r1 r2 r3) := by
                obtain ⟨b', off', e, hc, _, _⟩ := hRR.out k hlt
                simp at e
                obtain ⟨rfl, rfl⟩ := e
                rw [hs1, hs2, hs3] at hc; exact hc
              have hrow : Row wr r1 r2 (F k) := by
                obtain ⟨b', off', e, _, _, hr⟩ := hRR.out k hlt
                rw [hs1, hs2] at hr; exact hr
              have c0 := hH.out.c0
              have HD : Hid (∀ q, Below wr.heap.size wr (wr.drewN q)) := fun q => below_drewN (Below.refl _ _) _
              by_cases hylt : y < r2
              · obtain ⟨b', off', hr1, hcy⟩ := hrow y hylt
                subst hr1
                have hylt' : (y : Int) < (r2 : Int) := by omega
                have hklt' : (k : Int) < (m : Int) := by omega
                clear hrow
                cases v
                · by_cases hlo : F k y < 0
                  · have HN : Hid (BP true (FarIn n k (y + 1) S F)) := BP.of (.inr ⟨y, by omega, by omega⟩)
                    have hd : decide (F k y < 0) = true := by simpa using hlo
                    clear HV
                    go_wp2_with fail
                    go_big_quiet (fail)
                    go_wp2_with fail
                    go_roundw
                    case rel => exact ⟨y + 1, true, by omega, by go_num, by first | rfl | trivial, HN.out, hH.out.step (HD.out _), Below.then hB.out (HD.out _), hRR.out.below (HD.out _)⟩
                    case measure => simp [intOf]; omega
                  · have hd : decide (F k y < 0) = false := by simpa using hlo
                    by_cases hhi : n ≤ F k y
                    · have HN : Hid (BP true (FarIn n k (y + 1) S F)) := BP.of (.inr ⟨y, by omega, by omega⟩)
                      have hd2 : decide (n ≤ F k y) = true := by simpa using hhi
                      clear HV
                      go_wp2_with fail
                      go_big_quiet (fail)
                      go_wp2_with fail
                      go_roundw
                      case rel => exact ⟨y + 1, true, by omega, by go_num, by first | rfl | trivial, HN.out, hH.out.step (HD.out _), Below.then hB.out (HD.out _), hRR.out.below (HD.out _)⟩
                      case measure => simp [intOf]; omega
                    · have HN : Hid (BP false (FarIn n k (y + 1) S F)) := BP.not (FarIn.less HV.out.no ⟨by omega, by omega⟩)
                      have hd2 : decide (n ≤ F k y) = false := by simpa using hhi
                      clear HV
                      go_wp2_with fail
                      go_big_quiet (fail)
                      go_wp2_with fail
                      go_roundw
                      case rel => exact ⟨y + 1, false, by omega, by go_num, by first | rfl | trivial, HN.out, hH.out.step (HD.out _), Below.then hB.out (HD.out _), hRR.out.below (HD.out _)⟩
                      case measure => simp [intOf]; omega
                · have HN : Hid (BP true (FarIn n k (y + 1) S F)) := BP.of (FarIn.more HV.out.yes)
                  clear HV
                  go_wp2_with fail
                  go_big_quiet (fail)
                  go_wp2_with fail
                  go_roundw
                  case rel => exact ⟨y + 1, true, by omega, by go_num, by first | rfl | trivial, HN.out, hH.out.step (HD.out _), Below.then hB.out (HD.out _), hRR.out.below (HD.out _)⟩
                  case measure => simp [intOf]; omega
              · obtain rfl : y = r2 := by omega
                have HN : Hid (BP v (Far n (k + 1) S F)) := farIn_end (by rw [hs2]; exact HV.out)
                clear HV hrow
                go_wp2_with fail
                go_roundw
                case rel => exact ⟨k + 1, true, v, by omega, by go_num, by first | rfl | trivial, by first | rfl | trivial, HL.out, HN.out, hH.out, hB.out, hRR.out⟩
                case measure => simp [intOf]; omega
          · have hb' : decide ((12 : Int) < (r2 : Int)) = false := by simp; omega
            have HL : Hid (BP false (Long m (k + 1) S)) := BP.not (HLL.out H6.out.no hbig)
            have HF0 : Hid (BP v7 (FarIn n k 0 S F)) := farIn_zero H7.out
            clear H6 H7
            go_wp2_with fail
            go_loopw [9, 7] (fun i u wx => ∃ (y : Nat) (v : Bool), y ≤ r2 ∧ i = .int .i64 y ∧ u = .bool v ∧ Hid (BP v (FarIn n k y S F)) ∧ Hid (Held wx B0 n ao len co f) ∧ Hid (Below w.heap.size w wx) ∧ Hid (RR wx (some ⟨b, off, none⟩) m S F)) (fun i _ _ => r2 - (intOf i).toNat)
            case atStart => exact ⟨0, v7, Nat.zero_le _, rfl, rfl, HF0.out, hH.out, hB.out, hRR.out⟩
            case round =>
              clear hH hB hRR hc HW HF0
              obtain ⟨y, v, hy, rfl, rfl, HV, hH, hB, hRR⟩ := hrel
              have hck : wr.cell? ⟨b, off + k, none⟩ = some (.slice r1 r2 r3) := by
                obtain ⟨b', off', e, hc, _, _⟩ := hRR.out k hlt
                simp at e
                obtain ⟨rfl, rfl⟩ := e
                rw [hs1, hs2, hs3] at hc; exact hc
              have hrow : Row wr r1 r2 (F k) := by
                obtain ⟨b', off', e, _, _, hr⟩ := hRR.out k hlt
                rw [hs1, hs2] at hr; exact hr
              have c0 := hH.out.c0
              have HD : Hid (∀ q, Below wr.heap.size wr (wr.drewN q)) := fun q => below_drewN (Below.refl _ _) _
              by_cases hylt : y < r2
              · obtain ⟨b', off', hr1, hcy⟩ := hrow y hylt
                subst hr1
                have hylt' : (y : Int) < (r2 : Int) := by omega
                have hklt' : (k : Int) < (m : Int) := by omega
                clear hrow
                cases v
                · by_cases hlo : F k y < 0
                  · have HN : Hid (BP true (FarIn n k (y + 1) S F)) := BP.of (.inr ⟨y, by omega, by omega⟩)
                    have hd : decide (F k y < 0) = true := by simpa using hlo
                    clear HV
                    go_wp2_with fail
                    go_big_quiet (fail)
                    go_wp2_with fail
                    go_roundw
                    case rel => exact ⟨y + 1, true, by omega, by go_num, by first | rfl | trivial, HN.out, hH.out.step (HD.out _), Below.then hB.out (HD.out _), hRR.out.below (HD.out _)⟩
                    case measure => simp [intOf]; omega
                  · have hd : decide (F k y < 0) = false := by simpa using hlo
                    by_cases hhi : n ≤ F k y
                    · have HN : Hid (BP true (FarIn n k (y + 1) S F)) := BP.of (.inr ⟨y, by omega, by omega⟩)
                      have hd2 : decide (n ≤ F k y) = true := by simpa using hhi
                      clear HV
                      go_wp2_with fail
                      go_big_quiet (fail)
                      go_wp2_with fail
                      go_roundw
                      case rel => exact ⟨y + 1, true, by omega, by go_num, by first | rfl | trivial, HN.out, hH.out.step (HD.out _), Below.then hB.out (HD.out _), hRR.out.below (HD.out _)⟩
                      case measure => simp [intOf]; omega
                    · have HN : Hid (BP false (FarIn n k (y + 1) S F)) := BP.not (FarIn.less HV.out.no ⟨by omega, by omega⟩)
                      have hd2 : decide (n ≤ F k y) = false := by simpa using hhi
                      clear HV
                      go_wp2_with fail
                      go_big_quiet (fail)
                      go_wp2_with fail
                      go_roundw
                      case rel => exact ⟨y + 1, false, by omega, by go_num, by first | rfl | trivial, HN.out, hH.out.step (HD.out _), Below.then hB.out (HD.out _), hRR.out.below (HD.out _)⟩
                      case measure => simp [intOf]; omega
                · have HN : Hid (BP true (FarIn n k (y + 1) S F)) := BP.of (FarIn.more HV.out.yes)
                  clear HV
                  go_wp2_with fail
                  go_big_quiet (fail)
                  go_wp2_with fail
                  go_roundw
                  case rel => exact ⟨y + 1, true, by omega, by go_num, by first | rfl | trivial, HN.out, hH.out.step (HD.out _), Below.then hB.out (HD.out _), hRR.out.below (HD.out _)⟩
                  case measure => simp [intOf]; omega
              · obtain rfl : y = r2 := by omega
                have HN : Hid (BP v (Far n (k + 1) S F)) := farIn_end (by rw [hs2]; exact HV.out)
                clear HV hrow
                go_wp2_with fail
                go_roundw
                case rel => exact ⟨k + 1, false, v, by omega, by go_num, by first | rfl | trivial, by first | rfl | trivial, HL.out, HN.out, hH.out, hB.out, hRR.out⟩
                case measure => simp [intOf]; omega
        · have HL : Hid (BP true (Long m (k + 1) S)) := BP.of (Long.more H6.out.yes)
          have HF0 : Hid (BP v7 (FarIn n k 0 S F)) := farIn_zero H7.out
          clear H6 H7
          go_wp2_with fail
          go_loopw [9, 7] (fun i u wx => ∃ (y : Nat) (v : Bool), y ≤ r2 ∧ i = .int .i64 y ∧ u = .bool v ∧ Hid (BP v (FarIn n k y S F)) ∧ Hid (Held wx B0 n ao len co f) ∧ Hid (Below w.heap.size w wx) ∧ Hid (RR wx (some ⟨b, off, none⟩) m S F)) (fun i _ _ => r2 - (intOf i).toNat)
          case atStart => exact ⟨0, v7, Nat.zero_le _, rfl, rfl, HF0.out, hH.out, hB.out, hRR.out⟩
          case round =>
            clear hH hB hRR hc HW HF0
            obtain ⟨y, v, hy, rfl, rfl, HV, hH, hB, hRR⟩ := hrel
            have hck : wr.cell? ⟨b, off + k, none⟩ = some (.slice r1 r2 r3) := by
              obtain ⟨b', off', e, hc, _, _⟩ := hRR.out k hlt
              simp at e
              obtain ⟨rfl, rfl⟩ := e
              rw [hs1, hs2, hs3] at hc; exact hc
            have hrow : Row wr r1 r2 (F k) := by
              obtain ⟨b', off', e, _, _, hr⟩ := hRR.out k hlt
              rw [hs1, hs2] at hr; exact hr
            have c0 := hH.out.c0
            have HD : Hid (∀ q, Below wr.heap.size wr (wr.drewN q)) := fun q => below_drewN (Below.refl _ _) _
            by_cases hylt : y < r2
            · obtain ⟨b', off', hr1, hcy⟩ := hrow y hylt
              subst hr1
              have hylt' : (y : Int) < (r2 : Int) := by omega
              have hklt' : (k : Int) < (m : Int) := by omega
              clear hrow
              cases v
              · by_cases hlo : F k y < 0
                · have HN : Hid (BP true (FarIn n k (y + 1) S F)) := BP.of (.inr ⟨y, by omega, by omega⟩)
                  have hd : decide (F k y < 0) = true := by simpa using hlo
                  clear HV
                  go_wp2_with fail
                  go_big_quiet (fail)
                  go_wp2_with fail
                  go_roundw
                  case rel => exact ⟨y + 1, true, by omega, by go_num, by first | rfl | trivial, HN.out, hH.out.step (HD.out _), Below.then hB.out (HD.out _), hRR.out.below (HD.out _)⟩
                  case measure => simp [intOf]; omega
                · have hd : decide (F k y < 0) = false := by simpa using hlo
                  by_cases hhi : n ≤ F k y
                  · have HN : Hid (BP true (FarIn n k (y + 1) S F)) := BP.of (.inr ⟨y, by omega, by omega⟩)
                    have hd2 : decide (n ≤ F k y) = true := by simpa using hhi
                    clear HV
                    go_wp2_with fail
                    go_big_quiet (fail)
                    go_wp2_with fail
                    go_roundw
                    case rel => exact ⟨y + 1, true, by omega, by go_num, by first | rfl | trivial, HN.out, hH.out.step (HD.out _), Below.then hB.out (HD.out _), hRR.out.below (HD.out _)⟩
                    case measure => simp [intOf]; omega
                  · have HN : Hid (BP false (FarIn n k (y + 1) S F)) := BP.not (FarIn.less HV.out.no ⟨by omega, by omega⟩)
                    have hd2 : decide (n ≤ F k y) = false := by simpa using hhi
                    clear HV
                    go_wp2_with fail
                    go_big_quiet (fail)
                    go_wp2_with fail
                    go_roundw
                    case rel => exact ⟨y + 1, false, by omega, by go_num, by first | rfl | trivial, HN.out, hH.out.step (HD.out _), Below.then hB.out (HD.out _), hRR.out.below (HD.out _)⟩
                    case measure => simp [intOf]; omega
              · have HN : Hid (BP true (FarIn n k (y + 1) S F)) := BP.of (FarIn.more HV.out.yes)
                clear HV
                go_wp2_with fail
                go_big_quiet (fail)
                go_wp2_with fail
                go_roundw
                case rel => exact ⟨y + 1, true, by omega, by go_num, by first | rfl | trivial, HN.out, hH.out.step (HD.out _), Below.then hB.out (HD.out _), hRR.out.below (HD.out _)⟩
                case measure => simp [intOf]; omega
            · obtain rfl : y = r2 := by omega
              have HN : Hid (BP v (Far n (k + 1) S F)) := farIn_end (by rw [hs2]; exact HV.out)
              clear HV hrow
              go_wp2_with fail
              go_roundw
              case rel => exact ⟨k + 1, true, v, by omega, by go_num, by first | rfl | trivial, by first | rfl | trivial, HL.out, HN.out, hH.out, hB.out, hRR.out⟩
              case measure => simp [intOf]; omega
      · obtain rfl : k = m := by omega
        cases v6
        · cases v7
          · have HN : Hid (WCk n len f k S F 0) := .inr ⟨HC.out, .inr ⟨H6.out.no, .inr ⟨rfl, far_end.1 H7.out.no⟩⟩⟩
            go_wp2_with fail
            go_ret
            exact ⟨⟨_, rfl, HN.out⟩, hB.out⟩
          · have HN : Hid (WCk n len f k S F 3) := .inr ⟨HC.out, .inr ⟨H6.out.no, .inl ⟨rfl, fun h => far_end.2 h H7.out.yes⟩⟩⟩
            go_wp2_with fail
            go_ret
            exact ⟨⟨_, rfl, HN.out⟩, hB.out⟩
        · have HN : Hid (WCk n len f k S F 2) := .inr ⟨HC.out, .inl ⟨rfl, H6.out.yes⟩⟩
          go_wp2_with fail
          go_ret
          exact ⟨⟨_, rfl, HN.out⟩, hB.out⟩
  · have hne : (c != 0) = true := by simpa using h0
    have H0 : Hid (c ≠ 0) := h0
    clear h0
    go_wp2_with fail
    go_ret
    exact ⟨⟨_, rfl, .inl ⟨H0.out, HC.out⟩⟩, HB1.out⟩
end Go.Proofs.YtimpgcmkdcmhkaaDoor
