/-
  What the reference's Inside, and hasselaw.numberIs answer. Conditions: sets of at most ten points.
  What the reference's May, and extend's mayFollow and goingOn answer. Conditions: an order of at most ten points that lies in a slice of numbers; a table of what goes behind each set.
  What sets.IsPoint answers. No condition.
  What order.reach, order.Make, order.turn answer. Conditions: as each theorem says.
-/
import Derived.Test.YtinblbkglkhjmaaDoorExtM
namespace Go.Proofs.YtinblbkglkhjmaaDoor
open Go.RowKit

theorem has_as (s p : Nat) (w : World) (b : Bool) (h : s.testBit p = b) (hs : s < 9223372036854775808) (hp : p < 63) :
    Calls Tryd.prog 22 #[.int .i64 s, .int .i64 p] w fun e w' => e = .returned (.bool b) ∧ w' = w :=
  (has_any s p w hs hp).mono fun _ _ ⟨h1, h2⟩ => ⟨by rw [← h]; exact h1, h2.symm⟩
theorem in_as (s p : Nat) (w : World) (b : Bool) (h : s.testBit p = b) (hs : s < 9223372036854775808) (hp : p < 63) :
    Calls Tryd.prog 53 #[.int .i64 s, .int .i64 p] w fun e w' => e = .returned (.bool b) ∧ w' = w :=
  (in_any s p w hs hp).mono fun _ _ ⟨h1, h2⟩ => ⟨by rw [← h]; exact h1, h2.symm⟩

def Sub (a b : Nat) : Prop := ∀ j, a.testBit j = true → b.testBit j = true
theorem hv_zero_bits {s k : Nat} (h : hv s k = 0) : ∀ j, k ≤ j → s.testBit j = false := by
  intro j hj
  have hlt : s < 2 ^ k := by
    unfold hv at h
    rcases Nat.div_eq_zero_iff.1 h with h1 | h1
    · have := Nat.two_pow_pos k; omega
    · exact h1
  exact Nat.testBit_lt_two_pow (Nat.lt_of_lt_of_le hlt (Nat.pow_le_pow_right (by decide) hj))
theorem hv_big {s : Nat} (hs : s < 1024) {k : Nat} (hk : 10 ≤ k) : hv s k = 0 := by
  unfold hv
  exact Nat.div_eq_zero_iff.2 (.inr (Nat.lt_of_lt_of_le hs (Nat.le_trans (by decide : 1024 ≤ 2 ^ 10) (Nat.pow_le_pow_right (by decide) hk))))
theorem sub_iff {a b : Nat} (ha : a < 1024) (hb : b < 1024) : lack a b = 0 ↔ Sub a b := lack_zero a b (by omega) (by omega)
end Go.Proofs.YtinblbkglkhjmaaDoor
namespace Go.Proofs.YtinblbkglkhjmaaDoor
open Go.RowKit

theorem hasAll_as (s p : Nat) (v : Bool) (w : World) (hv : decide (lack p s = 0) = v) (hs : s < 9223372036854775808) (hp : p < 9223372036854775808) :
    Calls Tryd.prog 74 #[.int .i64 s, .int .i64 p] w fun e w' => e = .returned (.bool v) ∧ w = w' := by
  have h := i64_andNot p s hp hs
  have HV : Hid ((((lack p s : Nat) : Int) == 0) = v) := by rw [← hv, Hid, Bool.eq_iff_iff]; simp
  clear hv
  go_enter Tryd.func74, Tryd.ntmps74
  go_wp2
  go_ret
  exact ⟨ret_bool HV.out, rfl⟩

theorem follow_as (n : Nat) (a : Option Addr) (cap : Nat) (x : Value) (g : Nat → Nat) (s i : Nat) (v : Bool) (w : World) (hv : may g s i = v) (hg : ∀ k, k < n → g k < 1024) (hs : s < 1024) (hr : Row w a n (fun k => (g k : Nat))) (hi : i < n) (hn : n ≤ 10) :
    Calls Tryd.prog 73 #[.agg #[.slice a n cap, x], .int .i64 s, .int .i64 i] w fun e w' => e = .returned (.bool v) ∧ Below w.heap.size w w' := by
  obtain ⟨b, off, rfl, hc⟩ := hr.at hi
  have hck := hc i hi
  have hbk : b < w.heap.size := World.block_lt_of_cell? _ _ hck
  have hgj := hg i hi
  clear hc hr hg
  rcases (Bool.eq_false_or_eq_true (s.testBit i)).symm with hb | hb
  · have hve : v = decide (lack (g i) s = 0) := by rw [← hv, may, hb]; simp
    have HZ : Hid (decide (lack (g i) s = 0) = v) := hve.symm
    clear hv hve
    go_enter Tryd.func73, Tryd.ntmps73
    go_wp2_with (first | (go_at_call 22; refine (has_as s i _ _ hb (by omega) (by omega)).mono ?_; rintro e w' ⟨rfl, rfl⟩) | (go_at_call 74; refine (hasAll_as s (g i) v _ HZ.out (by omega) (by omega)).mono ?_; rintro e w' ⟨rfl, rfl⟩))
    go_ret
    exact ⟨rfl, (Below.refl _ _).alloc (Nat.le_refl _) _⟩
  · have HV : Hid (v = false) := by rw [← hv]; exact may_in hb
    obtain rfl := HV.out
    clear hv
    go_enter Tryd.func73, Tryd.ntmps73
    go_wp2_with (go_at_call 22; refine (has_as s i _ _ hb (by omega) (by omega)).mono ?_; rintro e w' ⟨rfl, rfl⟩)
    go_ret
    exact ⟨rfl, (Below.refl _ _).alloc (Nat.le_refl _) _⟩

theorem iwrap_pow (n : Nat) (h : n < 62) : IntKind.i64.wrap ((2 : Int) ^ n) = ((pw n : Nat) : Int) := by
  have := pw_small n h
  rw [show ((2 : Int) ^ n) = ((pw n : Nat) : Int) by simp [pw]]
  generalize pw n = m at *
  exact wrap_i64_small _ (by omega) (by omega)
/-- The table of what goes behind each set, from some set on. -/
def Tabl (w : World) (b n lo : Nat) (u : Nat → Nat) : Prop := ∀ s, s < pw n → lo ≤ s → w.cell? ⟨b, s, none⟩ = some (.int .i64 (ways u n s : Nat))
theorem Tabl.step {w w' : World} {b n lo : Nat} {u : Nat → Nat} (h : Tabl w b n lo u) (hb : Below w.heap.size w w') : Tabl w' b n lo u := fun s hs hl => by
  have := h s hs hl
  exact (hb.cell (World.block_lt_of_cell? _ _ this)).trans this

theorem going_any (n : Nat) (a : Option Addr) (cap b capb : Nat) (u : Nat → Nat) (s i : Nat) (w : World) (hn : n ≤ 10) (hg : ∀ k, k < n → u k < 1024) (hs : s < pw n) (hr : Row w a n (fun k => (u k : Nat))) (ht : Tabl w b n (s + 1) u) (hi : i < n) :
    Calls Tryd.prog 70 #[.agg #[.slice a n cap, .slice (some ⟨b, 0, none⟩) (pw n) capb], .int .i64 s, .int .i64 i] w fun e w' => e = .returned (.int .i64 (goes u n s i : Nat)) ∧ Below w.heap.size w w' := by
  have hpn := pw_le n hn
  have hs2 : s < 1024 := by omega
  have HB0 : Hid (Below w.heap.size w (w.alloc (.cells #[.slice a n cap, .slice (some ⟨b, 0, none⟩) (pw n) capb] 91))) := (Below.refl _ _).alloc (Nat.le_refl _) _
  have HR : Hid (Row (w.alloc (.cells #[.slice a n cap, .slice (some ⟨b, 0, none⟩) (pw n) capb] 91)) a n (fun k => (u k : Nat))) := hr.below HB0.out
  cases hm : may u s i
  · rw [goes_no hm]
    clear ht hr
    go_enter Tryd.func70, Tryd.ntmps70
    go_wp2_with fail
    refine (follow_as n a cap _ u s i false _ hm hg hs2 HR.out hi hn).mono ?_
    rintro e w1 ⟨rfl, hb1⟩
    have HB1 : Hid (Below w.heap.size w w1) := Below.then HB0.out hb1
    clear hb1
    go_wp2_with fail
    go_ret
    exact ⟨rfl, HB1.out⟩
  · rw [goes_yes hm]
    have hsb := may_out hm
    have hlt := add_lt hs hi hsb
    have hor : s ||| pw i = s + pw i := or_free hsb
    have hpi := pw_pos i
    have HT : Hid (∀ w', Below w.heap.size w w' → w'.cell? ⟨b, s + pw i, none⟩ = some (.int .i64 (ways u n (s + pw i) : Nat))) := fun w' hb => (ht.step hb) _ hlt (by omega)
    have hpw := wrap_pow i (by omega)
    have hpib : pw i < 1024 := by omega
    have ho := i64_or s (pw i) (by omega) (by omega)
    rw [hor] at ho
    clear ht hr
    generalize hN : pw n = N at *
    generalize ways u n (s + pw i) = X at *
    go_enter Tryd.func70, Tryd.ntmps70
    go_wp2_with fail
    refine (follow_as n a cap _ u s i true _ hm hg hs2 HR.out hi hn).mono ?_
    rintro e w1 ⟨rfl, hb1⟩
    have HB1 : Hid (Below w.heap.size w w1) := Below.then HB0.out hb1
    have hc := HT.out w1 HB1.out
    have hd0 : w1.cell? ⟨w.heap.size, 1, none⟩ = some (.slice (some ⟨b, 0, none⟩) N capb) := (hb1.cell (p := ⟨w.heap.size, 1, none⟩) (by simp)).trans (by simp)
    clear hb1 HT hor
    generalize hQ : s + pw i = Q at *
    have hQi : (Q : Int) < (N : Int) := by omega
    have hsh2 := iwrap_pow i (by omega)
    clear hQ hN
    go_wp2_with fail
    go_region
    go_wp2_with fail
    go_ret
    exact ⟨rfl, below_drewN HB1.out 1⟩
end Go.Proofs.YtinblbkglkhjmaaDoor
namespace Go.Proofs.YtinblbkglkhjmaaDoor
open Go.RowKit

theorem isPoint_any (p n : Int) (w : World) :
    Calls Tryd.prog 39 #[.int .i64 p, .int .i64 n] w fun e w' => e = .returned (.bool (pnt p n)) ∧ w = w' := by
  by_cases h0 : 0 ≤ p
  · by_cases h1 : p < n
    · go_enter Tryd.func39, Tryd.ntmps39
      go_wp2
      go_ret
      exact ⟨ret_bool (by simp [pnt, h0, h1]), rfl⟩
    · go_enter Tryd.func39, Tryd.ntmps39
      go_wp2
      go_ret
      exact ⟨ret_bool (by simp [pnt, h1]), rfl⟩
  · have h0' : decide (0 ≤ p) = false := by simp; omega
    go_enter Tryd.func39, Tryd.ntmps39
    go_wp2
    go_ret
    exact ⟨ret_bool (by simp [pnt]; omega), rfl⟩
theorem isPoint_as (p n : Int) (w : World) (v : Bool) (h : pnt p n = v) :
    Calls Tryd.prog 39 #[.int .i64 p, .int .i64 n] w fun e w' => e = .returned (.bool v) ∧ w = w' :=
  (isPoint_any p n w).mono fun _ _ ⟨h1, h2⟩ => ⟨by rw [← h]; exact h1, h2⟩
theorem pnt_nat {p : Int} {n : Nat} (h : pnt p n = true) : ∃ q : Nat, p = (q : Nat) ∧ q < n := by
  simp [pnt] at h
  exact ⟨p.toNat, by omega, by omega⟩
end Go.Proofs.YtinblbkglkhjmaaDoor
namespace Go.Proofs.YtinblbkglkhjmaaDoor
open Go.RowKit

set_option maxHeartbeats 1000000 in
theorem turn_any (n : Nat) (g : Nat → Nat) (a : Option Addr) (cap : Nat) (w : World) (hn : n ≤ 10) (hg : ∀ k, k < n → g k < 1024) (hr : Row w a n (fun k => (g k : Nat))) :
    Calls Tryd.prog 19 #[.slice a n cap] w fun e w' => e = .returned (.slice (some ⟨w.heap.size, 0, none⟩) n n) ∧ Own w' w.heap.size n (trn g n) ∧ Below w.heap.size w w' := by
  have HG := (show Hid (∀ k, k < n → g k < 1024) from hg)
  have HR := (show Hid (Row w a n (fun k => (g k : Nat))) from hr)
  clear hg hr
  obtain ⟨i0, hi, hz0, hz1, hz2⟩ := info_parts Tryd.info3
  go_enter Tryd.func19, Tryd.ntmps19
  go_wp2_with (at_make; refine wpList_make_full _ rfl _ _ 22 rfl w.heap.size 3 i0 (.int .i64 0) 1 Tryd.underlying22 hi hz0 hz1 .i64 .i64 _ _ n rfl rfl rfl rfl (by rw [hz2]; omega) (by unfold maxLen; omega) (Nat.le_refl _) ?_; intro w1 hown1 hgrow1)
  have HB1 : Hid (Below w.heap.size w w1) := (Below.refl _ _).grown hgrow1 (Nat.le_refl _) (by simp)
  have HO1 : Hid (Own w1 w.heap.size n (trn g 0)) := own_made hown1
  clear hown1 hgrow1 hi hz0 hz1 hz2
  go_loopw [12] (fun i wx => ∃ u : Nat, u ≤ n ∧ i = .int .i64 u ∧ Own wx w.heap.size n (trn g u) ∧ Hid (Below w.heap.size w wx)) (fun i _ => n - (intOf i).toNat)
  case atStart => exact ⟨0, Nat.zero_le _, rfl, HO1.out, HB1.out⟩
  case round =>
    obtain ⟨u, hu, rfl, hO, hB⟩ := hrel
    clear HO1 HB1
    by_cases hlt : u < n
    · obtain ⟨b, off, rfl, hc⟩ := (HR.out.below hB.out).at hlt
      have hcu := hc u hlt
      clear hc
      have hgu := HG.out u hlt
      go_wp2
      have HO1 : Hid (Own wr w.heap.size n (mix g u 0)) := by rw [mix_zero]; exact hO
      clear hO hcu
      go_loopw [19] (fun i wy => ∃ k : Nat, k ≤ n ∧ i = .int .i64 k ∧ Own wy w.heap.size n (mix g u k) ∧ Hid (Below w.heap.size w wy)) (fun i _ => n - (intOf i).toNat)
      case atStart => exact ⟨0, Nat.zero_le _, rfl, HO1.out, hB⟩
      case round =>
        obtain ⟨k, hk, rfl, hO, hBy⟩ := hrel
        clear HO1 hB
        by_cases hkl : k < n
        · rcases (Bool.eq_false_or_eq_true ((g u).testBit k)).symm with hb | hb
          · go_wp2_with (go_at_call 22; refine (has_any _ _ _ (by omega) (by omega)).mono ?_; rintro e w' ⟨rfl, rfl⟩)
            go_roundw
            case rel => exact ⟨k + 1, by omega, by go_num, by rw [mix_no hb]; exact hO, hBy⟩
            case measure => simp [intOf]; omega
          · have hck := (hO k hkl).1
            have hfk := (hO k hkl).2
            rw [mix_same] at hck
            have hsh := wrap_pow u (Nat.lt_of_lt_of_le hlt (Nat.le_trans hn (by decide)))
            have hor := or_pw (b := u) hn (trn_small g u k n hu) hlt
            have HOY := (show Hid _ from hO); clear hO
            go_wp2_with (go_at_call 22; refine (has_any _ _ _ (by omega) (by omega)).mono ?_; rintro e w' ⟨rfl, rfl⟩)
            go_region
            all_goals go_wp2
            all_goals go_roundw
            case rel => exact ⟨k + 1, by omega, by go_num, by rw [mix_yes hb]; exact Own.set HOY.out k _ hkl, Below.drew (Below.setCell (p := ⟨w.heap.size, k, none⟩) hBy.out (Nat.le_refl _) _)⟩
            case measure => simp [intOf]; omega
        · have hkn : k = n := by omega
          subst hkn
          go_wp2
          go_roundw
          case rel => exact ⟨u + 1, by omega, by go_num, hO.congr (fun l hl => by simp [mix, hl]), hBy⟩
          case measure => simp [intOf]; omega
    · have hun : u = n := by omega
      subst hun
      go_wp2
      go_ret
      exact ⟨rfl, hO, hB.out⟩
end Go.Proofs.YtinblbkglkhjmaaDoor
