/-
  What fix.Least and fix.Greatest answer. No condition but that slices read as slices of rows and of numbers.
-/
import Derived.Test.YtgmpmmdginikdaaDoorFixF
namespace Go.Proofs.YtgmpmmdginikdaaDoor
open Go.RowKit

set_option maxHeartbeats 1000000 in
theorem least_any (L : LA) (f : MA) (w : World) (hL : L.In w) (hf : f.In w) :
    Calls Tryd.prog 24 #[L.v, f.v] w fun e w' => FPost L f L.m e ∧ Below w.heap.size w w' := by
  have hB0 : Below w.heap.size w (w.alloc (.cells #[.int .i64 L.n, .slice L.a L.la L.ca, .slice L.b L.lb L.cb] 49)) := (Below.refl _ _).alloc (Nat.le_refl _) _
  have hL1 := hL.step hB0
  have HCALL : Hid (Calls Tryd.prog 48 #[L.v, f.v, .slice L.a L.la L.ca] (w.alloc (.cells #[.int .i64 L.n, .slice L.a L.la L.ca, .slice L.b L.lb L.cb] 49)) fun e w' => FPost L f L.m e ∧ Below (w.alloc (.cells #[.int .i64 L.n, .slice L.a L.la L.ca, .slice L.b L.lb L.cb] 49)).heap.size (w.alloc (.cells #[.int .i64 L.n, .slice L.a L.la L.ca, .slice L.b L.lb L.cb] 49)) w') :=
    fixedFrom_any L f _ _ _ L.m L.j _ hL1 (hf.step hB0) (fun hc => by
      obtain ⟨q, b1, o1, b2, o2, e1, e2, e3, e4, e5, h1, h40, hlat, ht1, ht2⟩ := LCk.open hc hL1.2.2.1 hL1.2.2.2
      have eq : q = L.q := by unfold LA.q; omega
      rw [← eq]
      exact ⟨_, _, _, e2, e3.symm, ht1⟩) (fun hc => ⟨hc.lat.2.2.1, fun h _ => h⟩)
  have HB : Hid (Below w.heap.size w (w.alloc (.cells #[.int .i64 L.n, .slice L.a L.la L.ca, .slice L.b L.lb L.cb] 49))) := hB0
  have HP : Hid (∀ e, FPost L f L.m e → FPost L f L.m e) := fun _ h => h
  obtain ⟨X, hX⟩ : ∃ X, Hid (X = FPost L f L.m) := ⟨_, rfl⟩
  rw [← hX.out] at HCALL ⊢
  have HXP : Hid (∀ e, X e → ∃ c v, e = .returned (.tuple #[.int .i64 v, .int .i64 c])) := fun e h => by
    rw [hX.out] at h
    obtain ⟨c, v, _, he, _⟩ := h
    exact ⟨c, v, he⟩
  clear hL hf hL1 hB0 HP hX
  obtain ⟨n, a, la, ca, SA, FA, b, lb, cb, SB, FB⟩ := L
  obtain ⟨fa, fl, fc, F⟩ := f
  simp only [LA.v, MA.v] at *
  go_enter Tryd.func24, Tryd.ntmps24
  go_wp2_with fail
  refine HCALL.out.mono ?_
  rintro e w1 ⟨hp, hb1⟩
  obtain ⟨c, v, rfl⟩ := HXP.out _ hp
  have HPP : Hid (X (.returned (.tuple #[.int .i64 v, .int .i64 c]))) := hp
  have HB1 : Hid (Below w.heap.size w w1) := Below.then HB.out hb1
  clear hp hb1 HCALL HB HXP
  go_wp2_with fail
  go_ret2
  exact ⟨HPP.out, HB1.out⟩
set_option maxHeartbeats 1000000 in
theorem greatest_any (L : LA) (f : MA) (w : World) (hL : L.In w) (hf : f.In w) :
    Calls Tryd.prog 25 #[L.v, f.v] w fun e w' => FPost L f L.j e ∧ Below w.heap.size w w' := by
  have hB0 : Below w.heap.size w (w.alloc (.cells #[.int .i64 L.n, .slice L.a L.la L.ca, .slice L.b L.lb L.cb] 49)) := (Below.refl _ _).alloc (Nat.le_refl _) _
  have hL1 := hL.step hB0
  have HCALL : Hid (Calls Tryd.prog 48 #[L.v, f.v, .slice L.b L.lb L.cb] (w.alloc (.cells #[.int .i64 L.n, .slice L.a L.la L.ca, .slice L.b L.lb L.cb] 49)) fun e w' => FPost L f L.j e ∧ Below (w.alloc (.cells #[.int .i64 L.n, .slice L.a L.la L.ca, .slice L.b L.lb L.cb] 49)).heap.size (w.alloc (.cells #[.int .i64 L.n, .slice L.a L.la L.ca, .slice L.b L.lb L.cb] 49)) w') :=
    fixedFrom_any L f _ _ _ L.j L.m _ hL1 (hf.step hB0) (fun hc => by
      obtain ⟨q, b1, o1, b2, o2, e1, e2, e3, e4, e5, h1, h40, hlat, ht1, ht2⟩ := LCk.open hc hL1.2.2.1 hL1.2.2.2
      have eq : q = L.q := by unfold LA.q; omega
      rw [← eq]
      exact ⟨_, _, _, e4, e5.symm, ht2⟩) (fun hc => ⟨hc.lat.2.2.1.turn, fun h k => Mono.turn hc.lat.2.2.1 k h⟩)
  have HB : Hid (Below w.heap.size w (w.alloc (.cells #[.int .i64 L.n, .slice L.a L.la L.ca, .slice L.b L.lb L.cb] 49))) := hB0
  have HP : Hid (∀ e, FPost L f L.j e → FPost L f L.j e) := fun _ h => h
  obtain ⟨X, hX⟩ : ∃ X, Hid (X = FPost L f L.j) := ⟨_, rfl⟩
  rw [← hX.out] at HCALL ⊢
  have HXP : Hid (∀ e, X e → ∃ c v, e = .returned (.tuple #[.int .i64 v, .int .i64 c])) := fun e h => by
    rw [hX.out] at h
    obtain ⟨c, v, _, he, _⟩ := h
    exact ⟨c, v, he⟩
  clear hL hf hL1 hB0 HP hX
  obtain ⟨n, a, la, ca, SA, FA, b, lb, cb, SB, FB⟩ := L
  obtain ⟨fa, fl, fc, F⟩ := f
  simp only [LA.v, MA.v] at *
  go_enter Tryd.func25, Tryd.ntmps25
  go_wp2_with fail
  refine HCALL.out.mono ?_
  rintro e w1 ⟨hp, hb1⟩
  obtain ⟨c, v, rfl⟩ := HXP.out _ hp
  have HPP : Hid (X (.returned (.tuple #[.int .i64 v, .int .i64 c]))) := hp
  have HB1 : Hid (Below w.heap.size w w1) := Below.then HB.out hb1
  clear hp hb1 HCALL HB HXP
  go_wp2_with fail
  go_ret2
  exact ⟨HPP.out, HB1.out⟩
end Go.Proofs.YtgmpmmdginikdaaDoor
