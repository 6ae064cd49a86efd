/-
  What the reference's Before and Has answer. Conditions: lists of as many numbers; a list of rows.
-/
import Derived.Test.YtappekjkcgmheaaCgM
import Derived.BigQuiet
namespace Go.Proofs.Ytappekjkcgmheaa
open Go.RowKit
set_option maxRecDepth 100000

set_option maxHeartbeats 4000000 in
theorem before_any (q b b' ca cb : Nat) (f g : Nat → Nat) (w : World) (h40 : q ≤ 40) (ha : ∀ k, k < q → w.cell? ⟨b, k, none⟩ = some (.int .i64 (f k : Nat))) (hb : ∀ k, k < q → w.cell? ⟨b', k, none⟩ = some (.int .i64 (g k : Nat))) :
    Calls Try.prog 44 #[.slice (some ⟨b, 0, none⟩) q ca, .slice (some ⟨b', 0, none⟩) q cb] w fun e w' => BIs e (cmpF f g q 0 < 0) ∧ Below w.heap.size w w' := by
  have HA : Hid (∀ wx, Below w.heap.size w wx → ∀ i, i < q → wx.cell? ⟨b, i, none⟩ = some (.int .i64 (f i : Nat))) := fun wx h i hi => cell_step h (ha i hi)
  have HB : Hid (∀ wx, Below w.heap.size w wx → ∀ i, i < q → wx.cell? ⟨b', i, none⟩ = some (.int .i64 (g i : Nat))) := fun wx h i hi => cell_step h (hb i hi)
  clear ha hb
  go_enter Try.func44, Try.ntmps44
  go_wp2_with fail
  go_loopw [5] (fun i wx => ∃ x : Nat, x ≤ q ∧ i = .int .i64 x ∧ Hid (Below w.heap.size w wx) ∧ Hid (∀ s, s < x → f s = g s)) (fun i _ => q - (intOf i).toNat)
  case atStart => exact ⟨0, Nat.zero_le _, rfl, Below.refl _ _, fun s hs => absurd hs (Nat.not_lt_zero _)⟩
  case round =>
    obtain ⟨x, hx, rfl, HW, HX⟩ := hrel
    by_cases hxl : x < q
    · have hxi : (x : Int) < (q : Int) := by omega
      have c1 := HA.out _ HW.out x hxl
      have c2 := HB.out _ HW.out x hxl
      by_cases e1 : f x = g x
      · have g1 : (((f x : Nat) : Int) != ((g x : Nat) : Int)) = false := by rw [e1]; simp
        have HN : Hid (∀ s, s < x + 1 → f s = g s) := fun s hs => by
          by_cases e : s = x
          · subst e; exact e1
          · exact HX.out s (by omega)
        clear HX e1
        go_wp2_with fail
        go_big_quiet (fail)
        go_wp2_with fail
        go_roundw
        case rel => exact ⟨x + 1, by omega, by go_num, below_drewN HW.out _, HN.out⟩
        case measure => simp [intOf]; omega
      · have g1 : (((f x : Nat) : Int) != ((g x : Nat) : Int)) = true := by simp; omega
        by_cases e2 : f x < g x
        · have HN : Hid (cmpF f g q 0 < 0) := (cmpF_lt q 0).2 ⟨x, Nat.zero_le _, by omega, e2, fun s _ hs => HX.out s hs⟩
          have g2 : decide (((f x : Nat) : Int) < ((g x : Nat) : Int)) = true := by simp; omega
          have g3 : decide (f x < g x) = true := by simpa using e2
          clear HX e1 e2
          go_wp2_with fail
          go_big_quiet (fail)
          have HW2 : Hid (Below w.heap.size w (wr.drewN nq)) := below_drewN HW.out _
          clear HW c1 c2
          generalize wr.drewN nq = wr at *
          have c1 := HA.out _ HW2.out x hxl
          have c2 := HB.out _ HW2.out x hxl
          go_wp2_with fail
          go_big_quiet (fail)
          go_wp2_with fail
          go_ret
          exact ⟨⟨_, rfl, ⟨fun _ => HN.out, fun _ => rfl⟩⟩, below_drewN HW2.out _⟩
        · have HN : Hid (¬ cmpF f g q 0 < 0) := fun h => by
            obtain ⟨t, _, h2, h3, h4⟩ := (cmpF_lt q 0).1 h
            rcases Nat.lt_trichotomy t x with hl | rfl | hl
            · have := HX.out t hl; omega
            · exact e2 h3
            · exact e1 (h4 x (Nat.zero_le _) hl)
          have g2 : decide (((f x : Nat) : Int) < ((g x : Nat) : Int)) = false := by simp; omega
          have g3 : decide (f x < g x) = false := by simpa using e2
          clear HX e1 e2
          go_wp2_with fail
          go_big_quiet (fail)
          have HW2 : Hid (Below w.heap.size w (wr.drewN nq)) := below_drewN HW.out _
          clear HW c1 c2
          generalize wr.drewN nq = wr at *
          have c1 := HA.out _ HW2.out x hxl
          have c2 := HB.out _ HW2.out x hxl
          go_wp2_with fail
          go_big_quiet (fail)
          go_wp2_with fail
          go_ret
          exact ⟨⟨_, rfl, ⟨(fun h => by cases h), fun h => absurd h (by have := HN.out; omega)⟩⟩, below_drewN HW2.out _⟩
    · obtain rfl : x = q := by omega
      have HN : Hid (¬ cmpF f g x 0 < 0) := fun h => by
        obtain ⟨t, _, h2, h3, _⟩ := (cmpF_lt x 0).1 h
        have := HX.out t (by omega)
        omega
      clear HX
      go_wp2_with fail
      go_ret
      exact ⟨⟨_, rfl, ⟨(fun h => by simp at h), fun h => absurd h (by have := HN.out; omega)⟩⟩, HW.out⟩

set_option maxHeartbeats 4000000 in
theorem has_any2 (base n q cb b : Nat) (v : Value) (R : Nat → Nat × Nat) (G : Nat → Nat → Nat) (g : Nat → Nat) (w : World) (h40 : q ≤ 40) (hn : n ≤ 40) (h0 : 0 < n) (h : GL w base v R n q G) (hg : ∀ k, k < q → w.cell? ⟨b, k, none⟩ = some (.int .i64 (g k : Nat))) :
    Calls Try.prog 43 #[v, .slice (some ⟨b, 0, none⟩) q cb] w fun e w' => BIs e (∃ a, a < n ∧ ∀ k, k < q → G a k = g k) ∧ Below w.heap.size w w' := by
  obtain ⟨gv, cv, rfl, _⟩ := h.at h0
  have HGL : Hid (GL w base (.slice (some ⟨gv, 0, none⟩) n cv) R n q G) := h
  have HG : Hid (Row w (some ⟨b, 0, none⟩) q (fun k => (g k : Nat))) := fun k hk => ⟨_, _, rfl, by rw [Nat.zero_add]; exact hg k hk⟩
  clear h hg
  go_enter Try.func43, Try.ntmps43
  go_wp2_with fail
  go_loopw [5] (fun i wx => ∃ x : Nat, x ≤ n ∧ i = .int .i64 x ∧ Hid (Below w.heap.size w wx) ∧ Hid (∀ s, s < x → ¬ ∀ k, k < q → G s k = g k)) (fun i _ => n - (intOf i).toNat)
  case atStart => exact ⟨0, Nat.zero_le _, rfl, Below.refl _ _, fun s hs => absurd hs (Nat.not_lt_zero _)⟩
  case round =>
    obtain ⟨x, hx, rfl, HW, HX⟩ := hrel
    by_cases hxl : x < n
    · have hxi : (x : Int) < (n : Int) := by omega
      have HGX := HGL.out.step HW.out
      obtain ⟨g', c', e', hc⟩ := HGX.at hxl
      simp only [Value.slice.injEq, Option.some.injEq, Addr.mk.injEq] at e'
      obtain ⟨⟨rfl, _, _⟩, _, rfl⟩ := e'
      have HR : Hid (Row wr (some ⟨(R x).1, 0, none⟩) q (fun k => (G x k : Nat))) := HGX.row hxl
      have HRG : Hid (Row wr (some ⟨b, 0, none⟩) q (fun k => (g k : Nat))) := HG.out.below HW.out
      clear HGX
      go_wp2_with fail
      refine (same_any (some ⟨(R x).1, 0, none⟩) (some ⟨b, 0, none⟩) q (R x).2 q cb (fun k => (G x k : Nat)) (fun k => (g k : Nat)) wr (by unfold maxLen; omega) (by unfold maxLen; omega) HR.out HRG.out).mono ?_
      rintro e w1 ⟨⟨u, rfl, hu⟩, hb1⟩
      have HW1 : Hid (Below w.heap.size w w1) := Below.then HW.out hb1
      cases u
      · have HN : Hid (∀ s, s < x + 1 → ¬ ∀ k, k < q → G s k = g k) := fun s hs h => by
          by_cases e : s = x
          · subst e
            have := hu.2 ⟨rfl, fun k hk => congrArg (fun z : Nat => (z : Int)) (h k hk)⟩
            cases this
          · exact HX.out s (by omega) h
        clear HX hu hb1 HW
        go_wp2_with fail
        go_roundw
        case rel => exact ⟨x + 1, by omega, by go_num, HW1.out, HN.out⟩
        case measure => simp [intOf]; omega
      · have HN : Hid (∃ a, a < n ∧ ∀ k, k < q → G a k = g k) := ⟨x, hxl, fun k hk => by
          have := (hu.1 rfl).2 k hk
          exact Int.ofNat_inj.1 this⟩
        clear HX hu hb1 HW
        go_wp2_with fail
        go_ret
        exact ⟨⟨_, rfl, ⟨fun _ => HN.out, fun _ => rfl⟩⟩, HW1.out⟩
    · obtain rfl : x = n := by omega
      have HN : Hid (¬ ∃ a, a < x ∧ ∀ k, k < q → G a k = g k) := fun ⟨a, ha, e⟩ => HX.out a ha e
      clear HX
      go_wp2_with fail
      go_ret
      exact ⟨⟨_, rfl, ⟨(fun h => by cases h), fun h => absurd h HN.out⟩⟩, HW.out⟩
end Go.Proofs.Ytappekjkcgmheaa
