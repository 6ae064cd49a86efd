/-
  What canon.check answers of two orders, the reference's CheckOrders, canon.Alike, hasselaw.truthIs. Conditions: slices read as slices of numbers; the library's table.
  What canon.Alike answers. Conditions: slices read as slices of numbers; the library's table.
-/
import Derived.Test.YtfbdgdphpdhcpaaDoorCbH
import Derived.Test.YtfbdgdphpdhcpaaDoorMvA
namespace Go.Proofs.YtfbdgdphpdhcpaaDoor
open Go.RowKit Go.Shelf
set_option maxRecDepth 100000

/-- What is wrong with two orders, the first first. -/
def CO2 (n1 : Int) (l1 : Nat) (f1 : Nat → Int) (n2 : Int) (l2 : Nat) (f2 : Nat → Int) (c : Int) : Prop := ∃ c1 c2, Chk n1 l1 f1 c1 ∧ Chk n2 l2 f2 c2 ∧ c = if c1 = 0 then c2 else c1
theorem CO2.one {n1 n2 : Int} {l1 l2 : Nat} {f1 f2 : Nat → Int} {c c' : Int} (h : CO2 n1 l1 f1 n2 l2 f2 c) (h' : CO2 n1 l1 f1 n2 l2 f2 c') : c = c' := by
  obtain ⟨d1, d2, h1, h2, rfl⟩ := h
  obtain ⟨e1, e2, h3, h4, rfl⟩ := h'
  rw [Chk.unique h1 h3, Chk.unique h2 h4]
/-- The same, where they may have six points at most. -/
def FC2 (n1 : Int) (l1 : Nat) (f1 : Nat → Int) (n2 : Int) (l2 : Nat) (f2 : Nat → Int) (c : Int) : Prop := ∃ c0, CO2 n1 l1 f1 n2 l2 f2 c0 ∧ c = if c0 = 0 then (if 6 < n1 ∨ 6 < n2 then 2 else 0) else c0
theorem FC2.one {n1 n2 : Int} {l1 l2 : Nat} {f1 f2 : Nat → Int} {c c' : Int} (h : FC2 n1 l1 f1 n2 l2 f2 c) (h' : FC2 n1 l1 f1 n2 l2 f2 c') : c = c' := by
  obtain ⟨d1, h1, rfl⟩ := h
  obtain ⟨e1, h3, rfl⟩ := h'
  rw [h1.one h3]
theorem FC2.good {n1 n2 : Int} {l1 l2 : Nat} {f1 f2 : Nat → Int} (h : FC2 n1 l1 f1 n2 l2 f2 0) : FCk n1 l1 f1 0 ∧ FCk n2 l2 f2 0 := by
  obtain ⟨c0, ⟨c1, c2, h1, h2, e1⟩, e2⟩ := h
  by_cases h0 : c0 = 0
  · rw [if_pos h0] at e2
    by_cases h6 : 6 < n1 ∨ 6 < n2
    · rw [if_pos h6] at e2; cases e2
    · by_cases hc : c1 = 0
      · rw [if_pos hc] at e1
        subst hc
        have : c2 = 0 := by omega
        subst this
        exact ⟨⟨0, h1, by rw [if_pos rfl, if_neg (by omega)]⟩, ⟨0, h2, by rw [if_pos rfl, if_neg (by omega)]⟩⟩
      · rw [if_neg hc] at e1; omega
  · rw [if_neg h0] at e2; omega
theorem chk_ex (n : Int) (len : Nat) (f : Nat → Int) : ∃ c, Chk n len f c := by
  by_cases h : 0 ≤ n ∧ n ≤ 10
  · obtain ⟨m, rfl⟩ : ∃ m : Nat, n = m := ⟨n.toNat, by omega⟩
    by_cases hl : len = m
    · by_cases hr : Rng m f
      · by_cases ho : Ord m (nat f)
        · exact ⟨0, .inr ⟨m, rfl, by omega, .inr ⟨hl, .inr ⟨hr, .inr ⟨rfl, ho⟩⟩⟩⟩⟩
        · exact ⟨4, .inr ⟨m, rfl, by omega, .inr ⟨hl, .inr ⟨hr, .inl ⟨rfl, ho⟩⟩⟩⟩⟩
      · exact ⟨3, .inr ⟨m, rfl, by omega, .inr ⟨hl, .inl ⟨rfl, hr⟩⟩⟩⟩
    · exact ⟨1, .inr ⟨m, rfl, by omega, .inl ⟨rfl, hl⟩⟩⟩
  · exact ⟨2, .inl ⟨rfl, h⟩⟩
set_option maxHeartbeats 4000000 in
theorem check2_any (n1 : Int) (a1 : Option Addr) (l1 p1 : Nat) (f1 : Nat → Int) (n2 : Int) (a2 : Option Addr) (l2 p2 : Nat) (f2 : Nat → Int) (b : Nat) (w : World) (hl1 : l1 ≤ maxLen) (hl2 : l2 ≤ maxLen) (hr1 : Row w a1 l1 f1) (hr2 : Row w a2 l2 f2)
    (h0 : w.cell? ⟨b, 0, none⟩ = some (.int .i64 n1)) (h1 : w.cell? ⟨b, 1, none⟩ = some (.slice a1 l1 p1)) (h2 : w.cell? ⟨b, 2, none⟩ = some (.int .i64 n2)) (h3 : w.cell? ⟨b, 3, none⟩ = some (.slice a2 l2 p2)) :
    Calls Tryd.prog 29 #[.slice (some ⟨b, 0, none⟩) 2 2] w fun e w' => (∃ c : Int, e = .returned (.int .i64 c) ∧ FC2 n1 l1 f1 n2 l2 f2 c) ∧ Below w.heap.size w w' := by
  have HR1 : Hid (Row w a1 l1 f1) := hr1
  have HR2 : Hid (Row w a2 l2 f2) := hr2
  have HC0 : Hid (∀ w', Below w.heap.size w w' → (w'.cell? ⟨b, 0, none⟩ = some (.int .i64 n1) ∧ w'.cell? ⟨b, 1, none⟩ = some (.slice a1 l1 p1)) ∧ w'.cell? ⟨b, 2, none⟩ = some (.int .i64 n2) ∧ w'.cell? ⟨b, 3, none⟩ = some (.slice a2 l2 p2)) := fun w' hb => ⟨⟨cell_stp hb h0, cell_stp hb h1⟩, cell_stp hb h2, cell_stp hb h3⟩
  clear hr1 hr2 h0 h1 h2 h3
  go_enter Tryd.func29, Tryd.ntmps29
  go_wp2_with fail
  go_loopw [10] (fun t wx => ∃ k : Nat, k ≤ 2 ∧ t = .int .i64 k ∧ Hid (0 < k → Chk n1 l1 f1 0) ∧ Hid (1 < k → Chk n2 l2 f2 0) ∧ Hid (Below w.heap.size w wx)) (fun t _ => 2 - (intOf t).toNat)
  case atStart => exact ⟨0, by omega, rfl, fun h => by omega, fun h => by omega, Below.refl _ _⟩
  case round =>
    obtain ⟨k, hk, rfl, HK1, HK2, HB⟩ := hrel
    obtain ⟨⟨c0, c1⟩, c2, c3⟩ := HC0.out _ HB.out
    have HBW : Hid (∀ o, Below w.heap.size w (wr.alloc o)) := fun o => HB.out.alloc HB.out.size o
    by_cases hk0 : k = 0
    · subst hk0
      have HCK := (show Hid _ from check_any n1 a1 l1 p1 f1 (wr.alloc (.cells #[.int .i64 n1, .slice a1 l1 p1] 24)) hl1 (HR1.out.below (HBW.out _)))
      go_wp2_with fail
      refine Calls.mono HCK.out ?_
      rintro e w2 ⟨⟨c, rfl, hc⟩, hb2⟩
      have HB2 : Hid (Below w.heap.size w w2) := Below.then (HBW.out _) hb2
      have HC : Hid (Chk n1 l1 f1 c) := hc
      clear hb2 hc c0 c1 c2 c3 HCK
      by_cases e0 : c = 0
      · subst e0
        go_wp2_with fail
        go_roundw
        case rel => exact ⟨1, by omega, by go_num, fun _ => HC.out, fun h => by omega, HB2.out⟩
        case measure => simp [intOf]
      · have hne : (c != 0) = true := by simpa using e0
        obtain ⟨d, hd⟩ : ∃ d, Chk n2 l2 f2 d := chk_ex n2 l2 f2
        have HF : Hid (FC2 n1 l1 f1 n2 l2 f2 c) := ⟨c, ⟨c, d, HC.out, hd, by rw [if_neg e0]⟩, by rw [if_neg e0]⟩
        clear hd
        go_wp2_with fail
        go_ret
        exact ⟨⟨c, rfl, HF.out⟩, HB2.out⟩
    · by_cases hk1 : k = 1
      · subst hk1
        have HC1 : Hid (Chk n1 l1 f1 0) := HK1.out (by omega)
        have HCK := (show Hid _ from check_any n2 a2 l2 p2 f2 (wr.alloc (.cells #[.int .i64 n2, .slice a2 l2 p2] 24)) hl2 (HR2.out.below (HBW.out _)))
        go_wp2_with fail
        refine Calls.mono HCK.out ?_
        rintro e w2 ⟨⟨c, rfl, hc⟩, hb2⟩
        have HB2 : Hid (Below w.heap.size w w2) := Below.then (HBW.out _) hb2
        have HC : Hid (Chk n2 l2 f2 c) := hc
        clear hb2 hc c0 c1 c2 c3 HCK
        by_cases e0 : c = 0
        · subst e0
          go_wp2_with fail
          go_roundw
          case rel => exact ⟨2, by omega, by go_num, fun _ => HC1.out, fun _ => HC.out, HB2.out⟩
          case measure => simp [intOf]
        · have hne : (c != 0) = true := by simpa using e0
          have HF : Hid (FC2 n1 l1 f1 n2 l2 f2 c) := ⟨c, ⟨0, c, HC1.out, HC.out, by rw [if_pos rfl]⟩, by rw [if_neg e0]⟩
          go_wp2_with fail
          go_ret
          exact ⟨⟨c, rfl, HF.out⟩, HB2.out⟩
      · obtain rfl : k = 2 := by omega
        have HO : Hid (CO2 n1 l1 f1 n2 l2 f2 0) := ⟨0, 0, HK1.out (by omega), HK2.out (by omega), by rw [if_pos rfl]⟩
        clear c0 c1 c2 c3 HK1 HK2 hk hk0 hk1 HBW
        go_wp2_with fail
        go_loopw [22] (fun t wx => ∃ k : Nat, k ≤ 2 ∧ t = .int .i64 k ∧ Hid (0 < k → ¬ 6 < n1) ∧ Hid (1 < k → ¬ 6 < n2) ∧ Hid (Below w.heap.size w wx)) (fun t _ => 2 - (intOf t).toNat)
        case atStart => exact ⟨0, by omega, rfl, fun h => by omega, fun h => by omega, HB.out⟩
        case round =>
          obtain ⟨k, hk, rfl, HK1, HK2, HBx⟩ := hrel
          obtain ⟨⟨c0, c1⟩, c2, c3⟩ := HC0.out _ HBx.out
          have HB1 : Hid (∀ o, Below w.heap.size w (wr.alloc o)) := fun o => HBx.out.alloc HBx.out.size _
          by_cases hk0 : k = 0
          · subst hk0
            by_cases h6 : 6 < n1
            · have HF : Hid (FC2 n1 l1 f1 n2 l2 f2 2) := ⟨0, HO.out, by rw [if_pos rfl, if_pos (.inl h6)]⟩
              go_wp2_with fail
              go_ret
              exact ⟨⟨2, rfl, HF.out⟩, HB1.out _⟩
            · go_wp2_with fail
              go_roundw
              case rel => exact ⟨1, by omega, by go_num, fun _ => h6, fun h => by omega, HB1.out _⟩
              case measure => simp [intOf]
          · by_cases hk1 : k = 1
            · subst hk1
              have HN : Hid (¬ 6 < n1) := HK1.out (by omega)
              by_cases h6 : 6 < n2
              · have HF : Hid (FC2 n1 l1 f1 n2 l2 f2 2) := ⟨0, HO.out, by rw [if_pos rfl, if_pos (.inr h6)]⟩
                go_wp2_with fail
                go_ret
                exact ⟨⟨2, rfl, HF.out⟩, HB1.out _⟩
              · go_wp2_with fail
                go_roundw
                case rel => exact ⟨2, by omega, by go_num, fun _ => HN.out, fun _ => h6, HB1.out _⟩
                case measure => simp [intOf]
            · obtain rfl : k = 2 := by omega
              have HF : Hid (FC2 n1 l1 f1 n2 l2 f2 0) := by
                have g1 := HK1.out (by omega)
                have g2 := HK2.out (by omega)
                exact ⟨0, HO.out, by rw [if_pos rfl, if_neg (by omega)]⟩
              clear c0 c1 c2 c3
              go_wp2_with fail
              go_ret
              exact ⟨⟨0, rfl, HF.out⟩, HBx.out⟩
theorem truthIs_any (c : Int) (b b' : Bool) (w : World) (h : (c ≠ 0 ∧ b = false) ∨ (c = 0 ∧ b = b')) :
    Calls Tryd.prog 18 #[.bool b, .int .i64 c, .int .i64 c, .bool b'] w fun e w' => e = .returned (.bool true) ∧ w = w' := by
  rcases h with ⟨h0, rfl⟩ | ⟨rfl, rfl⟩
  · have hne : (c == 0) = false := by simpa using h0
    cases b'
    · go_enter Tryd.func18, Tryd.ntmps18
      go_wp2
      go_ret
      exact ⟨rfl, rfl⟩
    · go_enter Tryd.func18, Tryd.ntmps18
      go_wp2
      go_ret
      exact ⟨rfl, rfl⟩
  · cases b
    · go_enter Tryd.func18, Tryd.ntmps18
      go_wp2
      go_ret
      exact ⟨rfl, rfl⟩
    · go_enter Tryd.func18, Tryd.ntmps18
      go_wp2
      go_ret
      exact ⟨rfl, rfl⟩
set_option maxHeartbeats 1000000 in
theorem checkOrders_any (n1 : Int) (a1 : Option Addr) (l1 p1 : Nat) (f1 : Nat → Int) (n2 : Int) (a2 : Option Addr) (l2 p2 : Nat) (f2 : Nat → Int) (b : Nat) (w : World) (hl1 : l1 ≤ maxLen) (hl2 : l2 ≤ maxLen) (hr1 : Row w a1 l1 f1) (hr2 : Row w a2 l2 f2)
    (h0 : w.cell? ⟨b, 0, none⟩ = some (.int .i64 n1)) (h1 : w.cell? ⟨b, 1, none⟩ = some (.slice a1 l1 p1)) (h2 : w.cell? ⟨b, 2, none⟩ = some (.int .i64 n2)) (h3 : w.cell? ⟨b, 3, none⟩ = some (.slice a2 l2 p2)) :
    Calls Tryd.prog 16 #[.slice (some ⟨b, 0, none⟩) 2 2] w fun e w' => (∃ c : Int, e = .returned (.int .i64 c) ∧ CO2 n1 l1 f1 n2 l2 f2 c) ∧ Below w.heap.size w w' := by
  have HR1 : Hid (Row w a1 l1 f1) := hr1
  have HR2 : Hid (Row w a2 l2 f2) := hr2
  have HC0 : Hid (∀ w', Below w.heap.size w w' → (w'.cell? ⟨b, 0, none⟩ = some (.int .i64 n1) ∧ w'.cell? ⟨b, 1, none⟩ = some (.slice a1 l1 p1)) ∧ w'.cell? ⟨b, 2, none⟩ = some (.int .i64 n2) ∧ w'.cell? ⟨b, 3, none⟩ = some (.slice a2 l2 p2)) := fun w' hb => ⟨⟨cell_stp hb h0, cell_stp hb h1⟩, cell_stp hb h2, cell_stp hb h3⟩
  clear hr1 hr2 h0 h1 h2 h3
  go_enter Tryd.func16, Tryd.ntmps16
  go_wp2_with fail
  go_loopw [3] (fun t wx => ∃ k : Nat, k ≤ 2 ∧ t = .int .i64 k ∧ Hid (0 < k → Chk n1 l1 f1 0) ∧ Hid (1 < k → Chk n2 l2 f2 0) ∧ Hid (Below w.heap.size w wx)) (fun t _ => 2 - (intOf t).toNat)
  case atStart => exact ⟨0, by omega, rfl, fun h => by omega, fun h => by omega, Below.refl _ _⟩
  case round =>
    obtain ⟨k, hk, rfl, HK1, HK2, HB⟩ := hrel
    obtain ⟨⟨c0, c1⟩, c2, c3⟩ := HC0.out _ HB.out
    by_cases hk0 : k = 0
    · subst hk0
      have HCK := (show Hid _ from checkOrder_any n1 a1 l1 p1 f1 wr hl1 (HR1.out.below HB.out))
      go_wp2_with fail
      refine Calls.mono HCK.out ?_
      rintro e w2 ⟨⟨c, rfl, hc⟩, hb2⟩
      have HB2 : Hid (Below w.heap.size w w2) := Below.then HB.out hb2
      have HC : Hid (Chk n1 l1 f1 c) := hc
      clear hb2 hc c0 c1 c2 c3 HCK
      by_cases e0 : c = 0
      · subst e0
        go_wp2_with fail
        go_roundw
        case rel => exact ⟨1, by omega, by go_num, fun _ => HC.out, fun h => by omega, HB2.out⟩
        case measure => simp [intOf]
      · have hne : (c != 0) = true := by simpa using e0
        obtain ⟨d, hd⟩ := chk_ex n2 l2 f2
        have HF : Hid (CO2 n1 l1 f1 n2 l2 f2 c) := ⟨c, d, HC.out, hd, by rw [if_neg e0]⟩
        clear hd
        go_wp2_with fail
        go_ret
        exact ⟨⟨c, rfl, HF.out⟩, HB2.out⟩
    · by_cases hk1 : k = 1
      · subst hk1
        have HC1 : Hid (Chk n1 l1 f1 0) := HK1.out (by omega)
        have HCK := (show Hid _ from checkOrder_any n2 a2 l2 p2 f2 wr hl2 (HR2.out.below HB.out))
        go_wp2_with fail
        refine Calls.mono HCK.out ?_
        rintro e w2 ⟨⟨c, rfl, hc⟩, hb2⟩
        have HB2 : Hid (Below w.heap.size w w2) := Below.then HB.out hb2
        have HC : Hid (Chk n2 l2 f2 c) := hc
        clear hb2 hc c0 c1 c2 c3 HCK
        by_cases e0 : c = 0
        · subst e0
          go_wp2_with fail
          go_roundw
          case rel => exact ⟨2, by omega, by go_num, fun _ => HC1.out, fun _ => HC.out, HB2.out⟩
          case measure => simp [intOf]
        · have hne : (c != 0) = true := by simpa using e0
          have HF : Hid (CO2 n1 l1 f1 n2 l2 f2 c) := ⟨0, c, HC1.out, HC.out, by rw [if_pos rfl]⟩
          go_wp2_with fail
          go_ret
          exact ⟨⟨c, rfl, HF.out⟩, HB2.out⟩
      · obtain rfl : k = 2 := by omega
        have HO : Hid (CO2 n1 l1 f1 n2 l2 f2 0) := ⟨0, 0, HK1.out (by omega), HK2.out (by omega), by rw [if_pos rfl]⟩
        clear c0 c1 c2 c3
        go_wp2_with fail
        go_ret
        exact ⟨⟨0, rfl, HO.out⟩, HB.out⟩
end Go.Proofs.YtfbdgdphpdhcpaaDoor
namespace Go.Proofs.YtfbdgdphpdhcpaaDoor
open Go.RowKit Go.Shelf
set_option maxRecDepth 100000

/-- What Alike answers. -/
def AlPost (n1 : Int) (l1 : Nat) (f1 : Nat → Int) (n2 : Int) (l2 : Nat) (f2 : Nat → Int) (e : Ending) : Prop :=
  ∃ c, FC2 n1 l1 f1 n2 l2 f2 c ∧ ((c ≠ 0 ∧ e = .returned (.tuple #[.bool false, .int .i64 c])) ∨
    (c = 0 ∧ ∃ x1 x2 b, bst (nat f1) l1 (per l1 [] (pw l1 - 1)) = some x1 ∧ bst (nat f2) l2 (per l2 [] (pw l2 - 1)) = some x2 ∧ (b = true ↔ SameRows l1 l2 (fun k => (prt (nat f1) x1 k : Nat)) (fun k => (prt (nat f2) x2 k : Nat))) ∧ e = .returned (.tuple #[.bool b, .int .i64 0])))
set_option maxHeartbeats 2000000 in
theorem alike_any (n1 : Int) (a1 : Option Addr) (l1 p1 : Nat) (f1 : Nat → Int) (n2 : Int) (a2 : Option Addr) (l2 p2 : Nat) (f2 : Nat → Int) (w : World) (hl1 : l1 ≤ maxLen) (hl2 : l2 ≤ maxLen) (hr1 : Row w a1 l1 f1) (hr2 : Row w a2 l2 f2) (hT : Tab w) :
    Calls Tryd.prog 15 #[.agg #[.int .i64 n1, .slice a1 l1 p1], .agg #[.int .i64 n2, .slice a2 l2 p2]] w fun e w' => AlPost n1 l1 f1 n2 l2 f2 e ∧ Below w.heap.size w w' := by
  obtain ⟨W, HWE⟩ : ∃ W, Hid (W = ((w.alloc (.cells #[.int .i64 n1, .slice a1 l1 p1] 24)).alloc (.cells #[.int .i64 n2, .slice a2 l2 p2] 24)).alloc (.cells #[.int .i64 n1, .slice a1 l1 p1, .int .i64 n2, .slice a2 l2 p2] 24)) := ⟨_, rfl⟩
  have HB : Hid (Below w.heap.size w W) := by rw [HWE.out]; exact (((Below.refl _ _).alloc (Nat.le_refl _) _).alloc (by simp) _).alloc (by simp; omega) _
  have HX : Hid (∀ w', Below W.heap.size W w' → (w'.cell? ⟨w.heap.size, 0, none⟩ = some (.int .i64 n1) ∧ w'.cell? ⟨w.heap.size, 1, none⟩ = some (.slice a1 l1 p1)) ∧ w'.cell? ⟨w.heap.size + 1, 0, none⟩ = some (.int .i64 n2) ∧ w'.cell? ⟨w.heap.size + 1, 1, none⟩ = some (.slice a2 l2 p2)) := fun w' h =>
    ⟨⟨cell_stp h (by rw [HWE.out]; exact cell_al (cell_al (by simp))), cell_stp h (by rw [HWE.out]; exact cell_al (cell_al (by simp)))⟩, cell_stp h (by rw [HWE.out]; exact cell_al (by simp)), cell_stp h (by rw [HWE.out]; exact cell_al (by simp))⟩
  have e4 : ∀ X : World, X.heap.size = w.heap.size + 2 → ((X.alloc (.cells #[.int .i64 n1, .slice a1 l1 p1, .int .i64 n2, .slice a2 l2 p2] 24)).cell? ⟨w.heap.size + 2, 0, none⟩ = some (.int .i64 n1) ∧ (X.alloc (.cells #[.int .i64 n1, .slice a1 l1 p1, .int .i64 n2, .slice a2 l2 p2] 24)).cell? ⟨w.heap.size + 2, 1, none⟩ = some (.slice a1 l1 p1)) ∧ (X.alloc (.cells #[.int .i64 n1, .slice a1 l1 p1, .int .i64 n2, .slice a2 l2 p2] 24)).cell? ⟨w.heap.size + 2, 2, none⟩ = some (.int .i64 n2) ∧ (X.alloc (.cells #[.int .i64 n1, .slice a1 l1 p1, .int .i64 n2, .slice a2 l2 p2] 24)).cell? ⟨w.heap.size + 2, 3, none⟩ = some (.slice a2 l2 p2) := fun X h => by
    rw [← h]; simp
  obtain ⟨⟨e0, e1⟩, e2, e3⟩ := e4 ((w.alloc (.cells #[.int .i64 n1, .slice a1 l1 p1] 24)).alloc (.cells #[.int .i64 n2, .slice a2 l2 p2] 24)) (by simp)
  rw [← HWE.out] at e0 e1 e2 e3
  have HCK := (show Hid _ from check2_any n1 a1 l1 p1 f1 n2 a2 l2 p2 f2 (w.heap.size + 2) W hl1 hl2 (hr1.below HB.out) (hr2.below HB.out) e0 e1 e2 e3)
  have HR1 : Hid (Row w a1 l1 f1) := hr1
  have HR2 : Hid (Row w a2 l2 f2) := hr2
  have HT : Hid (Tab w) := hT
  clear hr1 hr2 hT e0 e1 e2 e3 e4
  go_enter Tryd.func15, Tryd.ntmps15
  go_wp2_with (rw [← HWE.out])
  refine Calls.mono HCK.out ?_
  rintro e w1 ⟨⟨c, rfl, hc⟩, hb1⟩
  have HC : Hid (FC2 n1 l1 f1 n2 l2 f2 c) := hc
  have HB1 : Hid (Below W.heap.size W w1) := hb1
  obtain ⟨⟨x0, x1⟩, x2, x3⟩ := HX.out _ hb1
  clear hc hb1 HCK
  by_cases h0 : c = 0
  · subst h0
    obtain ⟨g1, g2⟩ := HC.out.good
    obtain ⟨rfl, h61, hck1⟩ := g1.good
    obtain ⟨rfl, h62, hck2⟩ := g2.good
    obtain ⟨_, h101, hrng1, _⟩ := hck1.good
    obtain ⟨_, h102, hrng2, _⟩ := hck2.good
    have HBW : Hid (Below w.heap.size w w1) := Below.then HB.out HB1.out
    have HF1 := (show Hid _ from formOf_any l1 a1 p1 (nat f1) w1 h101 (hrng1.small2 h101) (hrng1.row (HR1.out.below HBW.out)) (HT.out.step HBW.out))
    have HG2 : Hid (∀ k, k < l2 → nat f2 k < 1024) := hrng2.small2 h102
    have HRR2 : Hid (∀ w', Below w1.heap.size w1 w' → Row w' a2 l2 (fun k => (nat f2 k : Nat)) ∧ Tab w') := fun w' hb => ⟨hrng2.row (HR2.out.below (Below.then HBW.out hb)), HT.out.step (Below.then HBW.out hb)⟩
    clear hck1 hck2 hrng1 hrng2 g1 g2
    go_wp2_with fail
    refine Calls.mono HF1.out ?_
    rintro e w2 ⟨⟨y1, bl1, bv1, hy1, rfl, hO1, _, ⟨hlt1, _⟩, hv1⟩, hb2⟩
    have HY1 : Hid (bst (nat f1) l1 (per l1 [] (pw l1 - 1)) = some y1) := hy1
    obtain ⟨va, vn, vc, rfl⟩ : ∃ va vn vc, bv1 = .slice va vn vc := by
      rcases hv1.2 with ⟨q0, _⟩ | ⟨q, cap', cur, q1, _⟩
      · exact ⟨_, _, _, q0⟩
      · exact ⟨_, _, _, q1⟩
    obtain ⟨w3, HW3⟩ : ∃ w3, Hid (w3 = w2.alloc (.cells #[.int .i64 (l1 : Nat), .slice (some ⟨bl1, 0, none⟩) l1 l1] 24)) := ⟨_, rfl⟩
    have hb3 : Below w2.heap.size w2 w3 := by rw [HW3.out]; exact (Below.refl _ _).alloc (Nat.le_refl _) _
    have HB3 : Hid (Below w1.heap.size w1 w3) := Below.then hb2 hb3
    have HO1 : Hid (Row w3 (some ⟨bl1, 0, none⟩) l1 (fun k => (prt (nat f1) y1 k : Nat))) := hO1.row.below hb3
    have HZ3 : Hid (∀ w', Below w3.heap.size w3 w' → w'.cell? ⟨w2.heap.size, 1, none⟩ = some (.slice (some ⟨bl1, 0, none⟩) l1 l1)) := fun w' hb => cell_stp hb (by rw [HW3.out]; simp)
    obtain ⟨⟨_, _⟩, z2, z3⟩ := HX.out _ (Below.then HB1.out HB3.out)
    have HF2 := (show Hid _ from formOf_any l2 a2 p2 (nat f2) w3 h102 HG2.out (HRR2.out _ HB3.out).1 (HRR2.out _ HB3.out).2)
    clear hy1 hO1 hlt1 hv1 hb2 hb3 x0 x1 x2 x3 HF1 HRR2
    go_wp2_with (rw [← HW3.out])
    refine Calls.mono HF2.out ?_
    rintro e w4 ⟨⟨y2, bl2, bv2, hy2, rfl, hO2, _, ⟨hlt2, _⟩, hv2⟩, hb4⟩
    have HY2 : Hid (bst (nat f2) l2 (per l2 [] (pw l2 - 1)) = some y2) := hy2
    obtain ⟨va2, vn2, vc2, rfl⟩ : ∃ va vn vc, bv2 = .slice va vn vc := by
      rcases hv2.2 with ⟨q0, _⟩ | ⟨q, cap', cur, q1, _⟩
      · exact ⟨_, _, _, q0⟩
      · exact ⟨_, _, _, q1⟩
    obtain ⟨w5, HW5⟩ : ∃ w5, Hid (w5 = w4.alloc (.cells #[.int .i64 (l2 : Nat), .slice (some ⟨bl2, 0, none⟩) l2 l2] 24)) := ⟨_, rfl⟩
    have hb5 : Below w4.heap.size w4 w5 := by rw [HW5.out]; exact (Below.refl _ _).alloc (Nat.le_refl _) _
    have HB5 : Hid (Below w3.heap.size w3 w5) := Below.then hb4 hb5
    have t1 := HZ3.out _ HB5.out
    have t2 : w5.cell? ⟨w4.heap.size, 1, none⟩ = some (.slice (some ⟨bl2, 0, none⟩) l2 l2) := by rw [HW5.out]; simp
    have HEQ := (show Hid _ from equal_any (some ⟨bl1, 0, none⟩) (some ⟨bl2, 0, none⟩) l1 l1 l2 l2 (fun k => (prt (nat f1) y1 k : Nat)) (fun k => (prt (nat f2) y2 k : Nat)) w5 hl1 hl2 (HO1.out.below HB5.out) (hO2.row.below hb5))
    have HBE : Hid (Below w.heap.size w w5) := Below.then HBW.out (Below.then HB3.out HB5.out)
    clear hy2 hO2 hlt2 hv2 hb4 hb5 z2 z3 HF2
    go_wp2_with (rw [← HW5.out])
    refine Calls.mono HEQ.out ?_
    rintro e w6 ⟨⟨b, rfl, hb⟩, hb6⟩
    have HQ : Hid (b = true ↔ SameRows l1 l2 (fun k => (prt (nat f1) y1 k : Nat)) (fun k => (prt (nat f2) y2 k : Nat))) := hb
    have HBF : Hid (Below w.heap.size w w6) := Below.then HBE.out hb6
    clear hb hb6 t1 t2 HEQ
    go_wp2_with fail
    go_ret2
    exact ⟨⟨0, HC.out, .inr ⟨rfl, y1, y2, b, HY1.out, HY2.out, HQ.out, rfl⟩⟩, HBF.out⟩
  · have hne : (c != 0) = true := by simpa using h0
    have HBF : Hid (Below w.heap.size w w1) := Below.then HB.out HB1.out
    have H0 : Hid (c ≠ 0) := h0
    clear x0 x1 x2 x3 h0
    go_wp2_with fail
    go_ret2
    exact ⟨⟨c, HC.out, .inl ⟨H0.out, rfl⟩⟩, HBF.out⟩
end Go.Proofs.YtfbdgdphpdhcpaaDoor
