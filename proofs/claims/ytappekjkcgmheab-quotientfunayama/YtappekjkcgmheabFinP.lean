/-
  What hasselaw.finer answers: whether one list has only pairs that another one has. Conditions: slices of as many numbers.
-/
import Derived.Test.YtappekjkcgmheabQuM
import Derived.Test.YtappekjkcgmheabLRows
import Derived.Test.YtappekjkcgmheabTabs
namespace Go.Proofs.Ytappekjkcgmheab
open Go.RowKit
set_option maxRecDepth 100000

set_option maxHeartbeats 4000000 in
theorem finer_any (b off b' off' q ca cb : Nat) (g f : Nat → Nat) (w : World) (hq : q ≤ maxLen) (ha : Row w (some ⟨b, off, none⟩) q (fun k => (g k : Nat))) (hb : Row w (some ⟨b', off', none⟩) q (fun k => (f k : Nat))) :
    Calls Try.prog 10 #[.slice (some ⟨b, off, none⟩) q ca, .slice (some ⟨b', off', none⟩) q cb] w fun e w' => BIs e (Ker q g f) ∧ Below w.heap.size w w' := by
  unfold maxLen at hq
  have HA : Hid (∀ wx, Below w.heap.size w wx → ∀ i, i < q → wx.cell? ⟨b, off + i, none⟩ = some (.int .i64 (g i : Nat))) := fun wx h i hi => by
    obtain ⟨b1, o1, e, hc⟩ := (ha.below h) i hi
    cases e
    exact hc
  have HB : Hid (∀ wx, Below w.heap.size w wx → ∀ i, i < q → wx.cell? ⟨b', off' + i, none⟩ = some (.int .i64 (f i : Nat))) := fun wx h i hi => by
    obtain ⟨b1, o1, e, hc⟩ := (hb.below h) i hi
    cases e
    exact hc
  clear ha hb
  go_enter Try.func10, Try.ntmps10
  go_wp2_with fail
  go_loopw [5] (fun i wx => ∃ x : Nat, x ≤ q ∧ i = .int .i64 x ∧ Hid (Below w.heap.size w wx) ∧ Hid (∀ s, s < x → ∀ t, t < s → g s = g t → f s = f t)) (fun i _ => q - (intOf i).toNat)
  case atStart => exact ⟨0, Nat.zero_le _, rfl, Below.refl _ _, fun s hs => absurd hs (Nat.not_lt_zero _)⟩
  case round =>
    obtain ⟨x, hx, rfl, HW, HX⟩ := hrel
    by_cases hxl : x < q
    · have hxi : (x : Int) < (q : Int) := by omega
      go_wp2_with fail
      go_loopw [6] (fun i wx => ∃ y : Nat, y ≤ x ∧ i = .int .i64 y ∧ Hid (Below w.heap.size w wx) ∧ Hid (∀ t, t < y → g x = g t → f x = f t)) (fun i _ => x - (intOf i).toNat)
      case atStart => exact ⟨0, Nat.zero_le _, rfl, HW.out, fun s hs => absurd hs (Nat.not_lt_zero _)⟩
      case round =>
        clear HW
        obtain ⟨y, hy, rfl, HW, HY⟩ := hrel
        by_cases hyl : y < x
        · have hyi : (y : Int) < (x : Int) := by omega
          have hyq : (y : Int) < (q : Int) := by omega
          have c1 := HA.out _ HW.out x hxl
          have c2 := HA.out _ HW.out y (by omega)
          have c3 := HB.out _ HW.out x hxl
          have c4 := HB.out _ HW.out y (by omega)
          by_cases e1 : g x = g y
          · have g1 : (((g x : Nat) : Int) == ((g y : Nat) : Int)) = true := by rw [e1]; simp
            by_cases e2 : f x = f y
            · have g2 : (((f x : Nat) : Int) != ((f y : Nat) : Int)) = false := by rw [e2]; simp
              have HN : Hid (∀ t, t < y + 1 → g x = g t → f x = f t) := fun t ht => by
                by_cases e : t = y
                · subst e; exact fun _ => e2
                · exact HY.out t (by omega)
              clear HY e1 e2
              go_wp2_with fail
              go_big_quiet (fail)
              go_wp2_with fail
              go_roundw
              case rel => exact ⟨y + 1, by omega, by go_num, below_drewN HW.out _, HN.out⟩
              case measure => simp [intOf]; omega
            · have g2 : (((f x : Nat) : Int) != ((f y : Nat) : Int)) = true := by simp; omega
              have HN : Hid (¬ Ker q g f) := fun h => e2 (h x y hxl (by omega) e1)
              clear HY e1 e2
              go_wp2_with fail
              go_big_quiet (fail)
              go_wp2_with fail
              go_ret
              exact ⟨⟨_, rfl, ⟨(fun h => by cases h), fun h => absurd h HN.out⟩⟩, below_drewN HW.out _⟩
          · have g1 : (((g x : Nat) : Int) == ((g y : Nat) : Int)) = false := by simp; omega
            have HN : Hid (∀ t, t < y + 1 → g x = g t → f x = f t) := fun t ht => by
              by_cases e : t = y
              · subst e; exact fun h => absurd h e1
              · exact HY.out t (by omega)
            clear HY e1
            go_wp2_with fail
            go_big_quiet (fail)
            go_wp2_with fail
            go_roundw
            case rel => exact ⟨y + 1, by omega, by go_num, below_drewN HW.out _, HN.out⟩
            case measure => simp [intOf]; omega
        · obtain rfl : y = x := by omega
          have HN : Hid (∀ s, s < y + 1 → ∀ t, t < s → g s = g t → f s = f t) := fun s hs => by
            by_cases e : s = y
            · subst e; exact HY.out
            · exact HX.out s (by omega)
          clear HX HY
          go_wp2_with fail
          go_roundw
          case rel => exact ⟨y + 1, by omega, by go_num, HW.out, HN.out⟩
          case measure => simp [intOf]; omega
    · obtain rfl : x = q := by omega
      have HN : Hid (Ker x g f) := fun u v hu hv e => by
        rcases Nat.lt_trichotomy u v with hl | rfl | hl
        · exact (HX.out v hv u hl e.symm).symm
        · rfl
        · exact HX.out u hu v hl e
      clear HX
      go_wp2_with fail
      go_ret
      exact ⟨⟨_, rfl, ⟨fun _ => HN.out, fun _ => rfl⟩⟩, HW.out⟩
end Go.Proofs.Ytappekjkcgmheab
