/-
  What level.longer answers. Conditions: an order of at most ten points that lies in a slice of numbers; numbers that are not too great.
-/
import Derived.Test.YtncjlfhgenmheabDoorChainsM
import Derived.Test.YtncjlfhgenmheabDoorRepeat
namespace Go.Proofs.YtncjlfhgenmheabDoor
open Go.RowKit

/-- What the next round adds up at u. -/
def nx1 (g : Nat → Nat) (E : Nat → Nat) (u l : Nat) : Nat := if (g u).testBit l = true then E l else 0
def nx (g : Nat → Nat) (n : Nat) (E : Nat → Nat) (u : Nat) : Nat := sumTo (nx1 g E u) n
theorem nx1_yes {g E : Nat → Nat} {u l : Nat} (h : (g u).testBit l = true) : nx1 g E u l = E l := by simp [nx1, h]
theorem nx1_no {g E : Nat → Nat} {u l : Nat} (h : (g u).testBit l = false) : nx1 g E u l = 0 := by simp [nx1, h]
theorem en_succ (g : Nat → Nat) (n s : Nat) : en g n (s + 1) = nx g n (en g n s) := by funext u; rfl
def upTo (F : Nat → Nat) (u i : Nat) : Nat := if i < u then F i else 0
theorem upTo_zero (F : Nat → Nat) : upTo F 0 = fun _ => 0 := by funext i; simp [upTo]
theorem upTo_succ (F : Nat → Nat) (u : Nat) : upTo F (u + 1) = upd (upTo F u) u (F u) := by
  funext i
  by_cases e : i = u
  · subst e; rw [upd_same]; simp [upTo]
  · rw [upd_other _ _ _ _ e]
    have : (i < u + 1) = (i < u) := by simp; omega
    simp only [upTo, this]
theorem upd_upd (f : Nat → Nat) (u x y : Nat) : upd (upd f u x) u y = upd f u y := by
  funext i
  by_cases e : i = u
  · subst e; rw [upd_same, upd_same]
  · rw [upd_other _ _ _ _ e, upd_other _ _ _ _ e, upd_other _ _ _ _ e]
theorem upTo_same (F : Nat → Nat) (u : Nat) : upd (upTo F u) u 0 = upTo F u := by
  funext i
  by_cases e : i = u
  · subst e; rw [upd_same]; simp [upTo]
  · rw [upd_other _ _ _ _ e]

set_option maxHeartbeats 1000000 in
theorem longer_any (n : Nat) (a : Option Addr) (cap : Nat) (g : Nat → Nat) (ae : Option Addr) (cape : Nat) (E : Nat → Nat) (w : World) (h10 : n ≤ 10) (hg : Sm n n g) (hr : Row w a n (fun k => (g k : Nat))) (he : Row w ae n (fun k => (E k : Nat))) (hE : ∀ k, k < n → E k ≤ 1024) :
    Calls Tryd.prog 42 #[.agg #[.int .i64 (n : Int), .slice a n cap], .slice ae n cape] w fun e w' => (∃ b, e = .returned (.slice (some ⟨b, 0, none⟩) n n) ∧ Own w' b n (nx g n E) ∧ w.heap.size ≤ b) ∧ Below w.heap.size w w' := by
  have K0 : Held (w.alloc (.cells #[.int .i64 (n : Int), .slice a n cap] 24)) w.heap.size n a n cap (fun k => (g k : Nat)) := Held.box hr
  have HB0 : Hid (Below w.heap.size w (w.alloc (.cells #[.int .i64 (n : Int), .slice a n cap] 24))) := (Below.refl _ _).alloc (Nat.le_refl _) _
  have HG : Hid (∀ k, k < n → g k < 1024) := fun k hk => Nat.lt_of_lt_of_le (hg k hk) (pw_le n h10)
  have HE : Hid (∀ k, k < n → E k ≤ 1024) := hE
  have HSB : Hid (∀ u l, l ≤ n → sumTo (nx1 g E u) l ≤ 10240) := fun u l hl => by
    have h := sumTo_le (φ := nx1 g E u) (B := 1024) l (fun j hj => by
      have := hE j (by omega)
      unfold nx1; split <;> omega)
    have : l * 1024 ≤ 10 * 1024 := Nat.mul_le_mul (by omega) (Nat.le_refl _)
    omega
  obtain ⟨W0, HW0⟩ : ∃ W0, Hid (W0 = w.alloc (.cells #[.int .i64 (n : Int), .slice a n cap] 24)) := ⟨_, rfl⟩
  have hsz0 : W0.heap.size = w.heap.size + 1 := by rw [HW0.out]; simp
  have HEW : Hid (Row W0 ae n (fun k => (E k : Nat))) := by rw [HW0.out]; exact he.below HB0.out
  have HK : Hid (Held W0 w.heap.size n a n cap (fun k => (g k : Nat))) := by rw [HW0.out]; exact K0
  have HOUT : Hid (∀ wx, Below (w.heap.size + 1) W0 wx → Below w.heap.size w wx) := fun wx h => by rw [HW0.out] at h; exact out_below h
  clear hr hg he hE
  obtain ⟨i0, hi, hz0, hz1, hz2⟩ := info_parts Tryd.info3
  go_enter Tryd.func42, Tryd.ntmps42
  go_wp2_with (at_make; refine wpList_make_full _ rfl _ _ 22 rfl (w.heap.size + 1) 3 i0 (.int .i64 0) 1 Tryd.underlying22 hi hz0 hz1 .i64 .i64 _ _ n rfl rfl rfl rfl (by rw [hz2]; omega) (by unfold maxLen; omega) (by simp) ?_; intro w1 hown1 hgrow1; have y0 := (K0.step ((Below.refl _ _).grown hgrow1 (Nat.le_refl _) (by simp))).c0)
  have HBW : Hid (Below (w.heap.size + 1) W0 w1) := by
    rw [HW0.out]
    exact (Below.refl _ _).grown hgrow1 (by simp) (by simp)
  have HO1 : Hid (Own w1 (w.heap.size + 1) n (upTo (nx g n E) 0)) := by
    have h := own_made hown1
    rw [World.size_alloc] at h
    rw [upTo_zero]
    exact h
  clear hown1 hgrow1 hi hz0 hz1 hz2 K0 HB0 HW0 y0
  go_loopw [13] (fun x wx => ∃ u : Nat, u ≤ n ∧ x = .int .i64 u ∧ Hid (Own wx (w.heap.size + 1) n (upTo (nx g n E) u)) ∧ Hid (Below (w.heap.size + 1) W0 wx)) (fun x _ => n - (intOf x).toNat)
  case atStart => exact ⟨0, Nat.zero_le _, rfl, HO1.out, HBW.out⟩
  case round =>
    clear HO1 HBW
    obtain ⟨u, hu, rfl, hO, hB⟩ := hrel
    by_cases hun : u < n
    · have hH := HK.out.step (by rw [hsz0]; exact hB.out)
      have c0 := hH.c0
      have HO2 : Hid (Own wr (w.heap.size + 1) n (upd (upTo (nx g n E) u) u (sumTo (nx1 g E u) 0))) := by
        have e : upd (upTo (nx g n E) u) u (sumTo (nx1 g E u) 0) = upTo (nx g n E) u := upTo_same _ _
        rw [e]; exact hO.out
      have HES : Hid (upTo (nx g n E) (u + 1) = upd (upTo (nx g n E) u) u (sumTo (nx1 g E u) n)) := upTo_succ _ _
      have HSU : Hid (∀ l, l ≤ n → sumTo (nx1 g E u) l ≤ 10240) := fun l hl => HSB.out u l hl
      have hgu := HG.out u hun
      clear hH hO
      generalize upTo (nx g n E) u = A at *
      go_wp2_with fail
      clear c0
      go_loopw [18] (fun x wx => ∃ k : Nat, k ≤ n ∧ x = .int .i64 k ∧ Hid (Own wx (w.heap.size + 1) n (upd A u (sumTo (nx1 g E u) k))) ∧ Hid (Below (w.heap.size + 1) W0 wx)) (fun x _ => n - (intOf x).toNat)
      case atStart => exact ⟨0, Nat.zero_le _, rfl, HO2.out, hB.out⟩
      case round =>
        clear HO2 hB
        obtain ⟨k, hk, rfl, hO, hB⟩ := hrel
        by_cases hkn : k < n
        · have hB' : Below W0.heap.size W0 wr := by rw [hsz0]; exact hB.out
          have hH := HK.out.step hB'
          have c1 := hH.c1
          obtain ⟨b, off, rfl, hcc⟩ := hH.row.at hun
          have hcu := hcc u hun
          have hlr : (k : Int) < (n : Int) := by omega
          have hll : (u : Int) < (n : Int) := by omega
          have HSS : Hid (sumTo (nx1 g E u) (k + 1) = sumTo (nx1 g E u) k + nx1 g E u k) := rfl
          rcases (Bool.eq_false_or_eq_true ((g u).testBit k)).symm with hb | hb
          · have HY : Hid (sumTo (nx1 g E u) (k + 1) = sumTo (nx1 g E u) k) := HSS.out.trans (by rw [nx1_no hb]; rfl)
            clear hcc hH hB' HSS
            go_wp2_with (go_at_call 32; refine (has_as _ _ _ _ hb (by omega) (by omega)).mono ?_; rintro e w' ⟨rfl, rfl⟩)
            go_roundw
            case rel => exact ⟨k + 1, by omega, by go_num, by rw [HY.out]; exact hO.out, hB.out⟩
            case measure => simp [intOf]; omega
          · have HY : Hid (sumTo (nx1 g E u) (k + 1) = sumTo (nx1 g E u) k + E k) := HSS.out.trans (by rw [nx1_yes hb])
            obtain ⟨be, oe, rfl, hce⟩ := (HEW.out.below hB').at hkn
            have hcE := hce k hkn
            have hEk := HE.out k hkn
            have hsm := HSU.out k hk
            have hcI := (hO.out u hun).1
            have hfI := (hO.out u hun).2
            rw [upd_same] at hcI
            clear hcc hH hce hB' HSS
            generalize hX : sumTo (nx1 g E u) k = X at *
            have HX : Hid (sumTo (nx1 g E u) k = X) := hX
            clear hX
            generalize E k = Y at *
            have hwr : IntKind.i64.wrap ((X : Int) + (Y : Int)) = (X : Int) + (Y : Int) := wrap_i64_small _ (by omega) (by omega)
            go_wp2_with (go_at_call 32; refine (has_as _ _ _ _ hb (by omega) (by omega)).mono ?_; rintro e w' ⟨rfl, rfl⟩)
            go_region
            all_goals go_wp2
            all_goals go_roundw
            case rel => exact ⟨k + 1, by omega, by go_num, by rw [HY.out, ← upd_upd A u X]; have h := Own.set hO.out u (X + Y) hun; rw [Int.natCast_add] at h; exact h, Below.drew (Below.setCell (p := ⟨w.heap.size + 1, u, none⟩) hB.out (Nat.le_refl _) _)⟩
            case measure => simp [intOf]; omega
        · have hkq : k = n := by omega
          have HO3 : Hid (Own wr (w.heap.size + 1) n (upTo (nx g n E) (u + 1))) := by rw [HES.out, ← hkq]; rw [hkq] at hO ⊢; exact hO.out
          clear hO hkq
          go_wp2_with fail
          go_roundw
          case rel => exact ⟨u + 1, by omega, by go_num, HO3.out, hB.out⟩
          case measure => simp [intOf]; omega
    · have hTn : u = n := by omega
      have HO3 : Hid (Own wr (w.heap.size + 1) n (nx g n E)) := hO.out.congr (fun i hi => by simp [upTo, hTn, hi])
      clear hO hTn
      go_wp2_with fail
      go_ret
      exact ⟨⟨_, rfl, HO3.out, Nat.le_succ _⟩, HOUT.out _ hB.out⟩
end Go.Proofs.YtncjlfhgenmheabDoor
