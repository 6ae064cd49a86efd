/-
  hasselaw.weighBegun answers true. No condition.
-/
import Derived.Test.YtoagfjikjdacoaaRisP
import Derived.Test.YtoagfjikjdacoaaSumP
namespace Go.Proofs.Ytoagfjikjdacoaa
set_option maxRecDepth 100000
open Go.RowKit

/-- Two numbers. -/
def two (x y : Int) (k : Nat) : Int := if k = 0 then x else y
theorem row2 (w : World) (x y : Int) : Row (w.alloc (.cells #[.int .i64 x, .int .i64 y] 3)) (some ⟨w.heap.size, 0, none⟩) 2 (two x y) := fun k hk => by
  refine ⟨_, _, rfl, ?_⟩
  rcases (by omega : k = 0 ∨ k = 1) with rfl | rfl <;> simp [two]
theorem size1 (w : World) (o : Obj) : (w.alloc o).heap.size = w.heap.size + 1 := by simp
theorem begSum (w : World) : Row (((w.alloc (.cells #[.int .i64 2, .int .i64 3] 3)).alloc (.cells #[.int .i64 1, .int .i64 5] 3)).alloc (.cells #[.slice (some ⟨w.heap.size + 1, 0, none⟩) 2 2] 22)) (some ⟨w.heap.size, 0, none⟩) 2 (two 2 3) ∧
    RR (((w.alloc (.cells #[.int .i64 2, .int .i64 3] 3)).alloc (.cells #[.int .i64 1, .int .i64 5] 3)).alloc (.cells #[.slice (some ⟨w.heap.size + 1, 0, none⟩) 2 2] 22)) (some ⟨w.heap.size + 1 + 1, 0, none⟩) 1 (fun _ => (some ⟨w.heap.size + 1, 0, none⟩, 2, 2)) (fun _ => two 1 5) ∧
    Below w.heap.size w (((w.alloc (.cells #[.int .i64 2, .int .i64 3] 3)).alloc (.cells #[.int .i64 1, .int .i64 5] 3)).alloc (.cells #[.slice (some ⟨w.heap.size + 1, 0, none⟩) 2 2] 22)) := by
  refine ⟨(row2 w 2 3).below (bel_more (bel_more (Below.refl _ _) _) _), fun k hk => ?_, bel_more (bel_more (bel_more (Below.refl _ _) _) _) _⟩
  obtain rfl : k = 0 := by omega
  refine ⟨_, _, rfl, ?_, (by show 2 ≤ maxLen; unfold maxLen; omega), ?_⟩
  · have h := new1 ((w.alloc (.cells #[.int .i64 2, .int .i64 3] 3)).alloc (.cells #[.int .i64 1, .int .i64 5] 3)) (.slice (some ⟨w.heap.size + 1, 0, none⟩) 2 2)
    rw [size1, size1] at h
    exact h
  · have h := row2 (w.alloc (.cells #[.int .i64 2, .int .i64 3] 3)) 1 5
    rw [size1] at h
    exact h.below (bel_more (Below.refl _ _) _)
theorem begFour : FourN (1 : Int).toNat (nt (two 1 2)) (nt (two 1 2)) (nt (two 1 2)) (nt (two 1 2)) := by
  intro x y hx hy
  have hx2 : x < 2 := hx
  have hy2 : y < 2 := hy
  rcases (by omega : x = 0 ∨ x = 1) with rfl | rfl <;> rcases (by omega : y = 0 ∨ y = 1) with rfl | rfl <;> decide
theorem begRis : RisN (1 : Int).toNat (nt (two 1 2)) := by
  intro x y hx hy h
  have hx2 : x < 2 := hx
  have hy2 : y < 2 := hy
  rcases (by omega : x = 0 ∨ x = 1) with rfl | rfl <;> rcases (by omega : y = 0 ∨ y = 1) with rfl | rfl <;> revert h <;> decide
theorem begChk {m : Nat} {S : Nat → Option Addr × Nat × Nat} {F : Nat → Nat → Int} {c : Int} (h : WChk 1 m S F c) (hs : ∀ k, k < m → (S k).2.1 = 2) (hf : ∀ k, k < m → ∀ y, y < 2 → 0 ≤ F k y ∧ F k y ≤ 1000) : c = 0 :=
  h.unique (.inr ⟨1, rfl, by omega, .inr ⟨fun k hk => hs k hk, .inr ⟨rfl, fun k hk y hy => hf k hk y (by rw [hs k hk] at hy; exact hy)⟩⟩⟩)
theorem two_in {x y : Int} (hx : 0 ≤ x ∧ x ≤ 1000) (hy : 0 ≤ y ∧ y ≤ 1000) (k : Nat) : 0 ≤ two x y k ∧ two x y k ≤ 1000 := by
  unfold two; split <;> assumption

set_option maxHeartbeats 4000000 in
theorem weighBegun_any (w : World) :
    Calls Try.prog 11 #[] w fun e w' => e = .returned (.bool true) ∧ Below w.heap.size w w' := by
  obtain ⟨h1, h2, h3⟩ := begSum w
  have H1 := (show Hid (Row _ _ _ _) from h1); have H2 := (show Hid (RR _ _ _ _ _) from h2); have H3 := (show Hid (Below _ _ _) from h3)
  clear h1 h2 h3
  go_enter Try.func11, Try.ntmps11
  go_wp2_with fail
  refine (sum_any 1 _ 2 2 _ _ 1 1 _ _ _ (by unfold maxLen; omega) (by unfold maxLen; omega) H1.out H2.out (fun h => by omega)).mono ?_
  rintro e w1 ⟨⟨s, c, rfl, hs⟩, hb1⟩
  have HB1 : Hid (Below w.heap.size w w1) := Below.then H3.out hb1
  obtain ⟨hc, hs2⟩ : c = 0 ∧ s = 17 := by
    rcases hs with ⟨h, _⟩ | ⟨_, hw, h⟩
    · omega
    · have hc : c = 0 := begChk hw (fun k hk => by rcases (by omega : k = 0 ∨ k = 1) with rfl | rfl <;> rfl) (fun k hk y _ => by rcases (by omega : k = 0 ∨ k = 1) with rfl | rfl <;> exact two_in ⟨by decide, by decide⟩ ⟨by decide, by decide⟩ y)
      rcases h with ⟨h, _⟩ | ⟨_, h⟩
      · exact absurd hc h
      · exact ⟨hc, h.trans (by decide)⟩
  subst hc
  subst hs2
  clear H1 H2 H3 hs hb1
  have HR1 := (show Hid (Row _ _ _ _) from row2 w1 1 2)
  have HB2 : Hid (Below w.heap.size w (w1.alloc (.cells #[.int .i64 1, .int .i64 2] 3))) := bel_more HB1.out _
  clear HB1
  go_wp2_with fail
  refine (rises_any 1 _ 2 2 _ _ (by unfold maxLen; omega) HR1.out).mono ?_
  rintro e w2 ⟨⟨c, v, rfl, hc, hv⟩, hb2⟩
  have HB3 : Hid (Below w.heap.size w w2) := Below.then HB2.out hb2
  obtain rfl : c = 0 := begChk hc (fun k hk => by obtain rfl : k = 0 := by omega
                                                  rfl) (fun k hk y _ => by obtain rfl : k = 0 := by omega
                                                                           exact two_in ⟨by decide, by decide⟩ ⟨by decide, by decide⟩ y)
  obtain rfl : v = true := by
    rcases hv with ⟨h, _⟩ | ⟨_, h⟩
    · exact absurd rfl h
    · exact h.2 begRis
  clear HB2 HR1 hc hv hb2
  have HR2 := (show Hid (Row _ _ _ _) from row2 w2 1 2)
  have HB4 : Hid (Below w.heap.size w (w2.alloc (.cells #[.int .i64 1, .int .i64 2] 3))) := bel_more HB3.out _
  clear HB3
  go_wp2_with fail
  refine (curved_any 1 _ 2 2 _ _ (by unfold maxLen; omega) HR2.out).mono ?_
  rintro e w3 ⟨⟨c, v, rfl, hc, hv⟩, hb3⟩
  have HB5 : Hid (Below w.heap.size w w3) := Below.then HB4.out hb3
  obtain rfl : c = 0 := begChk hc (fun k hk => by rcases (by omega : k = 0 ∨ k = 1 ∨ k = 2 ∨ k = 3) with rfl | rfl | rfl | rfl <;> rfl) (fun k hk y _ => by rcases (by omega : k = 0 ∨ k = 1 ∨ k = 2 ∨ k = 3) with rfl | rfl | rfl | rfl <;> exact two_in ⟨by decide, by decide⟩ ⟨by decide, by decide⟩ y)
  obtain rfl : v = true := by
    rcases hv with ⟨h, _⟩ | ⟨_, h⟩
    · exact absurd rfl h
    · exact h.2 begFour
  clear HB4 HR2 hc hv hb3
  go_wp2_with fail
  go_ret
  exact ⟨rfl, HB5.out⟩
end Go.Proofs.Ytoagfjikjdacoaa
