/-
  What span.raise does to numbers of the caller's own: each is raised to what the others ask of it. Conditions: at most ten points; the numbers lie apart from the order.
-/
import Derived.Test.YtkknfnjhpamfbaaUnitsM
import Derived.Test.YtkknfnjhpamfbaaStretch
namespace Go.Proofs.Ytkknfnjhpamfbaa
open Go.RowKit

/-- What a round has done so far: up to the point x, and of x up to y. -/
structure RI (g : Nat → Nat) (n M : Nat) (v0 v : Nat → Nat) (r : Bool) (x y : Nat) : Prop where
  le : ∀ z, z < n → v0 z ≤ v z
  least : ∀ d, Feas g n d → (∀ z, z < n → v0 z ≤ d z) → ∀ z, z < n → v z ≤ d z
  up : ∀ x' y', x' < n → y' < n → (x' < x ∨ x' = x ∧ y' < y) → (g x').testBit y' = true → v0 y' + n + 1 ≤ v x'
  ap : ∀ x' y', x' < n → y' < n → (x' < x ∨ x' = x ∧ y' < y) → (g x').testBit y' = false → (g y').testBit x' = false → v0 y' ≤ v x' + n
  yes : r = true → ∃ z, z < n ∧ v0 z < v z
  no : r = false → ∀ z, z < n → v z = v0 z
  bd : ∀ z, z < n → v z ≤ M + 200 * x + 20 * y
theorem RI.start {g : Nat → Nat} {n M : Nat} {v0 : Nat → Nat} (h : ∀ z, z < n → v0 z ≤ M) : RI g n M v0 v0 false 0 0 :=
  ⟨fun _ _ => Nat.le_refl _, fun _ _ h => h, fun _ _ _ _ h => (by omega), fun _ _ _ _ h => (by omega), fun h => (by cases h), fun _ _ _ => rfl, fun z hz => by have := h z hz; omega⟩
theorem RI.next {g : Nat → Nat} {n M : Nat} {v0 v : Nat → Nat} {r : Bool} {x y : Nat} (h : RI g n M v0 v r x y) (hup : (g x).testBit y = true → v y + n + 1 ≤ v x) (hap : (g x).testBit y = false → (g y).testBit x = false → v y ≤ v x + n) : RI g n M v0 v r x (y + 1) := by
  refine ⟨h.le, h.least, fun x' y' hx hy hc hb => ?_, fun x' y' hx hy hc hb hb' => ?_, h.yes, h.no, fun z hz => by have := h.bd z hz; omega⟩
  · by_cases e : x' = x ∧ y' = y
    · obtain ⟨rfl, rfl⟩ := e
      have := h.le y' hy; have := hup hb; omega
    · exact h.up x' y' hx hy (by omega) hb
  · by_cases e : x' = x ∧ y' = y
    · obtain ⟨rfl, rfl⟩ := e
      have := h.le y' hy; have := hap hb hb'; omega
    · exact h.ap x' y' hx hy (by omega) hb hb'
theorem RI.set {g : Nat → Nat} {n M : Nat} {v0 v : Nat → Nat} {r : Bool} {x y L : Nat} (h : RI g n M v0 v r x y) (hx : x < n) (hy : y < n) (hn : n ≤ 10) (hL : v x < L) (hL2 : L ≤ v y + n + 1) (hup : (g x).testBit y = true → v y + n + 1 ≤ L) (hap : (g x).testBit y = false → (g y).testBit x = false → v y ≤ L + n)
    (hd : ∀ d, Feas g n d → (∀ z, z < n → v z ≤ d z) → L ≤ d x) : RI g n M v0 (upd v x L) true x (y + 1) := by
  have hge : ∀ z, v z ≤ upd v x L z := fun z => by
    by_cases e : z = x
    · subst e; rw [upd_same]; omega
    · rw [upd_other _ _ _ _ e]; exact Nat.le_refl _
  refine ⟨fun z hz => Nat.le_trans (h.le z hz) (hge z), fun d hf h0 z hz => ?_, fun x' y' hx' hy' hc hb => ?_, fun x' y' hx' hy' hc hb hb' => ?_, fun _ => ⟨x, hx, by rw [upd_same]; have := h.le x hx; omega⟩, fun q => (by cases q), fun z hz => ?_⟩
  · by_cases e : z = x
    · subst e; rw [upd_same]; exact hd d hf (h.least d hf h0)
    · rw [upd_other _ _ _ _ e]; exact h.least d hf h0 z hz
  · by_cases e : x' = x ∧ y' = y
    · obtain ⟨rfl, rfl⟩ := e
      rw [upd_same]
      have := h.le y' hy'; have := hup hb; omega
    · exact Nat.le_trans (h.up x' y' hx' hy' (by omega) hb) (hge x')
  · by_cases e : x' = x ∧ y' = y
    · obtain ⟨rfl, rfl⟩ := e
      rw [upd_same]
      have := h.le y' hy'; have := hap hb hb'; omega
    · have := h.ap x' y' hx' hy' (by omega) hb hb'; have := hge x'; omega
  · by_cases e : z = x
    · subst e; rw [upd_same]; have := h.bd y hy; omega
    · rw [upd_other _ _ _ _ e]; have := h.bd z hz; omega
theorem RI.row {g : Nat → Nat} {n M : Nat} {v0 v : Nat → Nat} {r : Bool} {x : Nat} (hn : n ≤ 10) (h : RI g n M v0 v r x n) : RI g n M v0 v r (x + 1) 0 :=
  ⟨h.le, h.least, fun x' y' hx hy hc hb => h.up x' y' hx hy (by omega) hb, fun x' y' hx hy hc hb hb' => h.ap x' y' hx hy (by omega) hb hb', h.yes, h.no, fun z hz => by have := h.bd z hz; omega⟩
theorem RI.done {g : Nat → Nat} {n M : Nat} {v0 v : Nat → Nat} {r : Bool} (h : RI g n M v0 v r n 0) : Raised g n v0 v :=
  ⟨h.le, h.least, fun x y hx hy hb => h.up x y hx hy (.inl hx) hb, fun x y hx hy hb hb' => h.ap x y hx hy (.inl hx) hb hb'⟩

theorem Row.set_other {W : World} {a : Option Addr} {n : Nat} {f : Nat → Int} (h : Row W a n f) {B : Nat} (hb : ∀ bb off, a = some ⟨bb, off, none⟩ → 0 < n → bb ≠ B) (y : Nat) (v : Value) : Row (W.setCell ⟨B, y, none⟩ v) a n f := fun k hk => by
  obtain ⟨b, off, rfl, hc⟩ := h k hk
  exact ⟨b, off, rfl, (World.cell?_setCell_other _ _ _ _ (fun e => by injection e with e1; exact hb b off rfl (by omega) e1.symm)).trans hc⟩

set_option maxHeartbeats 4000000 in
theorem raise_any (len : Nat) (a : Option Addr) (cap : Nat) (g : Nat → Nat) (b cc M : Nat) (v0 : Nat → Nat) (base : Nat) (w0 w : World) (h10 : len ≤ 10) (hM : M ≤ 50000) (hg : ∀ k, k < len → g k < 1024) (hr : Row w a len (fun k => (g k : Nat))) (hab : ∀ bb off, a = some ⟨bb, off, none⟩ → 0 < len → bb ≠ b) (hO : Own w b len v0) (hv : ∀ z, z < len → v0 z ≤ M) (hB : Below base w0 w) (hb : base ≤ b) (hbs : base ≤ w.heap.size) :
    Calls Try.prog 50 #[.agg #[.int .i64 len, .slice a len cap], .slice (some ⟨b, 0, none⟩) len cc, .int .i64 len] w fun e w' => (∃ v1 r, e = .returned (.bool r) ∧ Own w' b len v1 ∧ RI g len M v0 v1 r len 0) ∧ Below base w0 w' := by
  have HG : Hid (∀ k, k < len → g k < 1024) := hg
  have HAB : Hid (∀ bb off, a = some ⟨bb, off, none⟩ → 0 < len → bb ≠ b) := hab
  have HS : Hid (RI g len M v0 v0 false 0 0) := RI.start hv
  have hc0 : (w.alloc (.cells #[.int .i64 (len : Int), .slice a len cap] 25)).cell? ⟨w.heap.size, 1, none⟩ = some (.slice a len cap) := by simp
  have HB0 : Hid (Below base w0 (w.alloc (.cells #[.int .i64 (len : Int), .slice a len cap] 25))) := hB.alloc hbs _
  have HO0 : Hid (Own (w.alloc (.cells #[.int .i64 (len : Int), .slice a len cap] 25)) b len v0) := hO.alloc _
  have HR0 : Hid (Row (w.alloc (.cells #[.int .i64 (len : Int), .slice a len cap] 25)) a len (fun k => (g k : Nat))) := hr.below ((Below.refl _ _).alloc (Nat.le_refl _) _)
  have hlt0 : 0 < len → b < w.heap.size := fun h => hO.lt h
  clear hg hr hab hO hv hB
  go_enter Try.func50, Try.ntmps50
  go_wp2_with fail
  generalize hBx : w.heap.size = Bx at *
  generalize w.alloc (.cells #[.int .i64 (len : Int), .slice a len cap] 25) = W0 at *
  go_loopw [7, 14] (fun s i wx => ∃ (x : Nat) (r : Bool) (v : Nat → Nat), x ≤ len ∧ i = .int .i64 x ∧ s = .bool r ∧ wx.cell? ⟨Bx, 1, none⟩ = some (.slice a len cap) ∧ Hid (RI g len M v0 v r x 0) ∧ Hid (Own wx b len v) ∧ Hid (Row wx a len (fun k => (g k : Nat))) ∧ Hid (Below base w0 wx)) (fun _ i _ => len - (intOf i).toNat)
  case atStart => exact ⟨0, false, v0, Nat.zero_le _, rfl, rfl, hc0, HS.out, HO0.out, HR0.out, HB0.out⟩
  case round =>
    clear hc0 HS HO0 HR0 HB0
    obtain ⟨x, r, v, hx, rfl, rfl, hc, HI, HO, HR, HB⟩ := hrel
    by_cases hxl : x < len
    · have hxl' : (x : Int) < (len : Int) := by omega
      go_wp2_with fail
      have HI0 := (show Hid (RI g len M v0 v r x 0) from HI.out)
      have HO0 := (show Hid (Own wr b len v) from HO.out)
      have HR0 := (show Hid (Row wr a len (fun k => (g k : Nat))) from HR.out)
      have HB0 := (show Hid (Below base w0 wr) from HB.out)
      have hcc := hc
      clear HI HO HR HB hc
      go_loopw [7, 19] (fun s i wx => ∃ (y : Nat) (r : Bool) (v : Nat → Nat), y ≤ len ∧ i = .int .i64 y ∧ s = .bool r ∧ wx.cell? ⟨Bx, 1, none⟩ = some (.slice a len cap) ∧ Hid (RI g len M v0 v r x y) ∧ Hid (Own wx b len v) ∧ Hid (Row wx a len (fun k => (g k : Nat))) ∧ Hid (Below base w0 wx)) (fun _ i _ => len - (intOf i).toNat)
      case atStart => exact ⟨0, r, v, Nat.zero_le _, rfl, rfl, hcc, HI0.out, HO0.out, HR0.out, HB0.out⟩
      case round =>
        clear hcc HI0 HO0 HR0 HB0
        obtain ⟨y, r, v, hy, rfl, rfl, hc, HI, HO, HR, HB⟩ := hrel
        by_cases hyl : y < len
        · have hyl' : (y : Int) < (len : Int) := by omega
          obtain ⟨b0, o0, rfl, hcx'⟩ := HR.out x hxl
          have hcx : wr.cell? ⟨b0, o0 + x, none⟩ = some (.int .i64 (g x : Nat)) := hcx'
          have hcy : wr.cell? ⟨b0, o0 + y, none⟩ = some (.int .i64 (g y : Nat)) := by
            obtain ⟨b1, o1, e, h1⟩ := HR.out y hyl
            simp only [Option.some.injEq, Addr.mk.injEq, and_true] at e
            obtain ⟨rfl, rfl⟩ := e
            exact h1
          clear hcx'
          have hGx := HG.out x hxl
          have hGy := HG.out y hyl
          have dx := (HO.out x hxl).1
          have fx := (HO.out x hxl).2
          have dy := (HO.out y hyl).1
          have bx := HI.out.bd x hxl
          have by' := HI.out.bd y hyl
          obtain ⟨X, HX⟩ : ∃ X, Hid (v x = X) := ⟨_, rfl⟩
          obtain ⟨Y, HY⟩ : ∃ Y, Hid (v y = Y) := ⟨_, rfl⟩
          rw [HX.out] at dx bx
          rw [HY.out] at dy by'
          have hX1 : X ≤ 60000 := by omega
          have hY1 : Y ≤ 60000 := by omega
          have hne : b ≠ Bx := by have := hlt0 (by omega); omega
          have hab1 : b0 ≠ b := HAB.out b0 o0 rfl (by omega)
          have hGx2 : g x < 9223372036854775808 := by omega
          have hGy2 : g y < 9223372036854775808 := by omega
          have hx63 : x < 63 := by omega
          have hy63 : y < 63 := by omega
          have hy1 : y + 1 ≤ len := hyl
          rcases Bool.eq_false_or_eq_true ((g x).testBit y) with t1 | t1
          · by_cases hgt : X < Y + len + 1
            · have hgt' : (X : Int) < (Y : Int) + (len : Int) + 1 := by omega
              have HN : Hid (RI g len M v0 (upd v x (Y + len + 1)) true x (y + 1)) := HI.out.set hxl hyl h10 (by rw [HX.out]; exact hgt) (by rw [HY.out]; exact Nat.le_refl _) (fun _ => by rw [HY.out]; exact Nat.le_refl _) (fun q => by rw [t1] at q; cases q) (fun d hd h => by have a1 := hd.up x y hxl hyl t1; have a2 := h y hyl; rw [HY.out] at a2; omega)
              have HO2 : Hid (Own (wr.setCell ⟨b, x, none⟩ (.int .i64 ((Y : Int) + (len : Int) + 1))) b len (upd v x (Y + len + 1))) := HO.out.set x (Y + len + 1) hxl
              have HR2 : Hid (Row (wr.setCell ⟨b, x, none⟩ (.int .i64 ((Y : Int) + (len : Int) + 1))) (some ⟨b0, o0, none⟩) len (fun k => (g k : Nat))) := HR.out.set_other HAB.out _ _
              have hc2 : (wr.setCell ⟨b, x, none⟩ (.int .i64 ((Y : Int) + (len : Int) + 1))).cell? ⟨Bx, 1, none⟩ = some (.slice (some ⟨b0, o0, none⟩) len cap) := (World.cell?_setCell_other _ _ _ _ (fun e => by injection e with e1; first | exact hne e1 | exact hne e1.symm)).trans hc
              have HB2 : Hid (Below base w0 (wr.setCell ⟨b, x, none⟩ (.int .i64 ((Y : Int) + (len : Int) + 1)))) := Below.setCell (p := ⟨b, x, none⟩) HB.out hb _
              clear HI HO HR HB HX HY bx by'
              generalize g x = Gx at *
              go_wp2_with (go_at_call 57; refine (has_as Gx y true _ t1 hGx2 hy63).mono ?_; rintro e w' ⟨rfl, rfl⟩)
              go_roundw
              case rel => exact ⟨y + 1, true, _, hy1, by go_num, rfl, hc2, HN.out, HO2.out, HR2.out, HB2.out⟩
              case measure => simp [intOf]; omega
            · have hgt' : ¬ (X : Int) < (Y : Int) + (len : Int) + 1 := by omega
              have HN : Hid (RI g len M v0 v r x (y + 1)) := HI.out.next (fun _ => by rw [HX.out, HY.out]; omega) (fun q => by rw [t1] at q; cases q)
              clear HI HX HY bx by'
              generalize g x = Gx at *
              go_wp2_with (go_at_call 57; refine (has_as Gx y true _ t1 hGx2 hy63).mono ?_; rintro e w' ⟨rfl, rfl⟩)
              go_roundw
              case rel => exact ⟨y + 1, r, v, hy1, by go_num, rfl, hc, HN.out, HO.out, HR.out, HB.out⟩
              case measure => simp [intOf]; omega
          · rcases Bool.eq_false_or_eq_true ((g y).testBit x) with t2 | t2
            · have hgt' : ¬ (X : Int) < (X : Int) := by omega
              have HN : Hid (RI g len M v0 v r x (y + 1)) := HI.out.next (fun q => by rw [t1] at q; cases q) (fun _ q => by rw [t2] at q; cases q)
              clear HI HX HY bx by'
              generalize g x = Gx at *
              generalize g y = Gy at *
              go_wp2_with (go_at_call 57; first | (refine (has_as Gx y false _ t1 hGx2 hy63).mono ?_; clear t1; rintro e w' ⟨rfl, rfl⟩) | (refine (has_as Gy x true _ t2 hGy2 hx63).mono ?_; rintro e w' ⟨rfl, rfl⟩))
              go_roundw
              case rel => exact ⟨y + 1, r, v, hy1, by go_num, rfl, hc, HN.out, HO.out, HR.out, HB.out⟩
              case measure => simp [intOf]; omega
            · by_cases hgt : X + len < Y
              · have hgt' : (X : Int) < (Y : Int) - (len : Int) := by omega
                obtain ⟨L, hL⟩ : ∃ L, L = Y - len := ⟨_, rfl⟩
                have hLe : (Y : Int) - (len : Int) = (L : Int) := by omega
                have HN : Hid (RI g len M v0 (upd v x L) true x (y + 1)) := HI.out.set hxl hyl h10 (by rw [HX.out]; omega) (by rw [HY.out]; omega) (fun q => by rw [t1] at q; cases q) (fun _ _ => by rw [HY.out]; omega) (fun d hd h => by have a1 := hd.ap x y hxl hyl t1 t2; have a2 := h y hyl; rw [HY.out] at a2; omega)
                have HO2 : Hid (Own (wr.setCell ⟨b, x, none⟩ (.int .i64 ((Y : Int) - (len : Int)))) b len (upd v x L)) := by
                  rw [hLe]; exact HO.out.set x L hxl
                have HR2 : Hid (Row (wr.setCell ⟨b, x, none⟩ (.int .i64 ((Y : Int) - (len : Int)))) (some ⟨b0, o0, none⟩) len (fun k => (g k : Nat))) := HR.out.set_other HAB.out _ _
                have hc2 : (wr.setCell ⟨b, x, none⟩ (.int .i64 ((Y : Int) - (len : Int)))).cell? ⟨Bx, 1, none⟩ = some (.slice (some ⟨b0, o0, none⟩) len cap) := (World.cell?_setCell_other _ _ _ _ (fun e => by injection e with e1; first | exact hne e1 | exact hne e1.symm)).trans hc
                have HB2 : Hid (Below base w0 (wr.setCell ⟨b, x, none⟩ (.int .i64 ((Y : Int) - (len : Int))))) := Below.setCell (p := ⟨b, x, none⟩) HB.out hb _
                clear HI HO HR HB HX HY bx by' hLe hL
                generalize g x = Gx at *
                generalize g y = Gy at *
                go_wp2_with (go_at_call 57; first | (refine (has_as Gx y false _ t1 hGx2 hy63).mono ?_; clear t1; rintro e w' ⟨rfl, rfl⟩) | (refine (has_as Gy x false _ t2 hGy2 hx63).mono ?_; rintro e w' ⟨rfl, rfl⟩))
                go_roundw
                case rel => exact ⟨y + 1, true, _, hy1, by go_num, rfl, hc2, HN.out, HO2.out, HR2.out, HB2.out⟩
                case measure => simp [intOf]; omega
              · have hgt' : ¬ (X : Int) < (Y : Int) - (len : Int) := by omega
                have HN : Hid (RI g len M v0 v r x (y + 1)) := HI.out.next (fun q => by rw [t1] at q; cases q) (fun _ _ => by rw [HX.out, HY.out]; omega)
                clear HI HX HY bx by'
                generalize g x = Gx at *
                generalize g y = Gy at *
                go_wp2_with (go_at_call 57; first | (refine (has_as Gx y false _ t1 hGx2 hy63).mono ?_; clear t1; rintro e w' ⟨rfl, rfl⟩) | (refine (has_as Gy x false _ t2 hGy2 hx63).mono ?_; rintro e w' ⟨rfl, rfl⟩))
                go_roundw
                case rel => exact ⟨y + 1, r, v, hy1, by go_num, rfl, hc, HN.out, HO.out, HR.out, HB.out⟩
                case measure => simp [intOf]; omega
        · obtain rfl : y = len := by omega
          have HN : Hid (RI g y M v0 v r (x + 1) 0) := RI.row h10 HI.out
          clear HI
          go_wp2_with fail
          go_roundw
          case rel => exact ⟨x + 1, r, v, by omega, by go_num, rfl, hc, HN.out, HO.out, HR.out, HB.out⟩
          case measure => simp [intOf]; omega
    · obtain rfl : x = len := by omega
      go_wp2_with fail
      go_ret
      exact ⟨⟨v, r, rfl, HO.out, HI.out⟩, HB.out⟩
end Go.Proofs.Ytkknfnjhpamfbaa
