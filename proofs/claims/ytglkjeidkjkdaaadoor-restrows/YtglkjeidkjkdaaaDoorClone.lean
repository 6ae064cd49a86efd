/-
  That hasselaw.convexBegun answers true. Condition: the table of the least bits.
  What the reference's Inside, and hasselaw.numberIs answer. Conditions: sets of at most ten points.
  What the reference's May, and extend's mayFollow and goingOn answer. Conditions: an order of at most ten points that lies in a slice of numbers; a table of what goes behind each set.
  What slices.Clone answers of numbers. Conditions: at most ten.
-/
import Derived.Test.YtglkjeidkjkdaaaDoorWds
import Derived.Test.YtglkjeidkjkdaaaDoorExtM
import Derived.Test.YtglkjeidkjkdaaaDoorBuild
namespace Go.Proofs.YtglkjeidkjkdaaaDoor
set_option maxRecDepth 100000
open Go.RowKit

/-- The sets of three points on a line. -/
def lin (k : Nat) : Int := if k = 0 then 0 else if k = 1 then 1 else if k = 2 then 3 else if k = 3 then 4 else if k = 4 then 5 else if k = 5 then 6 else 7
theorem lin_in : FIn 3 7 lin := by
  have : ∀ k, k < 7 → 0 ≤ lin k ∧ lin k < ((pw 3 : Nat) : Int) := by decide +kernel
  exact this
theorem lin_ris : FRis 7 lin := by
  have : ∀ k, k < 7 → 0 < k → lin (k - 1) < lin k := by decide +kernel
  exact this
theorem lin_whl : Whl 3 7 lin := by
  constructor <;> decide +kernel
theorem lin_w : WCk 3 7 lin 0 := .inr ⟨3, rfl, by omega, lin_in, lin_ris, .inr ⟨rfl, lin_whl⟩⟩
theorem lin_s (s : Nat) (h : s < 8) : SCk 3 7 lin (s : Int) 0 := by
  have h8 : pw 3 = 8 := by decide
  exact .inr ⟨3, rfl, by omega, lin_w, .inr ⟨rfl, by rw [h8]; omega⟩⟩
theorem lin_num {F : Nat → Nat → Nat} {s v : Nat} {e : Ending} (hs : s < 8) (hv : F 3 s = v) (h : NumIs 3 7 lin (s : Int) F e) : e = .returned (.tuple #[.int .i64 (v : Nat), .int .i64 0]) := by
  rcases h with ⟨c, h0, h, _⟩ | ⟨n, s', h1, h2, _, _, _, _, _, _, h⟩
  · exact absurd (h.unique (lin_s s hs)) h0
  · obtain rfl : n = 3 := by omega
    obtain rfl : s' = s := by omega
    rw [h, hv]
theorem lin_word {F : Nat → Nat} {v : Nat} {e : Ending} (hv : F 3 = v) (h : WrdIs 3 7 lin F e) : e = .returned (.tuple #[.int .i64 (v : Nat), .int .i64 0]) := by
  rcases h with ⟨c, h0, h, _⟩ | ⟨n, h1, _, _, _, _, _, h⟩
  · exact absurd (h.unique lin_w) h0
  · obtain rfl : n = 3 := by omega
    rw [h, hv]
theorem lin_hul : hul (nat lin) 7 3 5 = 7 := by decide +kernel
theorem lin_crn : crn (nat lin) 7 3 7 = 5 := by decide +kernel
theorem lin_wrd : wy (mem (nat lin) 7) (pw 3 - 1) = 4 := by decide +kernel

set_option maxHeartbeats 1000000 in
theorem convexBegun_any (w : World) (hT : Tab w) : Calls Tryd.prog 6 #[] w fun e w' => e = .returned (.bool true) ∧ Below w.heap.size w w' := by
  obtain ⟨W1, HW1⟩ : ∃ W1, Hid (W1 = (w.alloc (.cells #[.int .i64 0, .int .i64 1, .int .i64 3, .int .i64 4, .int .i64 5, .int .i64 6, .int .i64 7] 3)).alloc (.cells #[.int .i64 3, .slice (some ⟨w.heap.size, 0, none⟩) 7 7] 36)) := ⟨_, rfl⟩
  have HB1 : Hid (Below w.heap.size w W1) := by rw [HW1.out]; exact ((Below.refl _ _).alloc (Nat.le_refl _) _).alloc (by simp) _
  have HR1 : Hid (Row W1 (some ⟨w.heap.size, 0, none⟩) 7 lin) := fun k hk => by
    refine ⟨w.heap.size, 0, rfl, ?_⟩
    rw [HW1.out]
    match k, hk with
    | 0, _ => simp [lin]
    | 1, _ => simp [lin]
    | 2, _ => simp [lin]
    | 3, _ => simp [lin]
    | 4, _ => simp [lin]
    | 5, _ => simp [lin]
    | 6, _ => simp [lin]
  have HT1 : Hid (Tab W1) := hT.step HB1.out
  have HC0 : Hid (∀ w', Below W1.heap.size W1 w' → w'.cell? ⟨w.heap.size + 1, 0, none⟩ = some (.int .i64 3)) := fun w' h => by
    have e : W1.cell? ⟨w.heap.size + 1, 0, none⟩ = some (.int .i64 3) := by rw [HW1.out]; simp
    exact (h.cell (World.block_lt_of_cell? _ _ e)).trans e
  have HC1 : Hid (∀ w', Below W1.heap.size W1 w' → w'.cell? ⟨w.heap.size + 1, 1, none⟩ = some (.slice (some ⟨w.heap.size, 0, none⟩) 7 7)) := fun w' h => by
    have e : W1.cell? ⟨w.heap.size + 1, 1, none⟩ = some (.slice (some ⟨w.heap.size, 0, none⟩) 7 7) := by rw [HW1.out]; simp
    exact (h.cell (World.block_lt_of_cell? _ _ e)).trans e
  have HHU : Hid (Calls Tryd.prog 21 #[.agg #[.int .i64 3, .slice (some ⟨w.heap.size, 0, none⟩) 7 7], .int .i64 5] W1 fun e w' => e = .returned (.tuple #[.int .i64 7, .int .i64 0]) ∧ Below W1.heap.size W1 w') :=
    (hullX_any 3 _ 7 7 lin 5 W1 (by unfold maxLen; omega) HR1.out HT1.out).mono fun e w' ⟨h, hb⟩ => ⟨lin_num (s := 5) (v := 7) (by omega) lin_hul h, hb⟩
  have HWD : Hid (∀ w2, Below W1.heap.size W1 w2 → Calls Tryd.prog 22 #[.agg #[.int .i64 3, .slice (some ⟨w.heap.size, 0, none⟩) 7 7]] w2 fun e w' => e = .returned (.tuple #[.int .i64 4, .int .i64 0]) ∧ Below w2.heap.size w2 w') := fun w2 h2 =>
    (words_any 3 _ 7 7 lin w2 (by unfold maxLen; omega) (HR1.out.below h2) (HT1.out.step h2)).mono fun e w' ⟨h, hb⟩ => ⟨lin_word (v := 4) lin_wrd h, hb⟩
  have HCN : Hid (∀ w2, Below W1.heap.size W1 w2 → Calls Tryd.prog 23 #[.agg #[.int .i64 3, .slice (some ⟨w.heap.size, 0, none⟩) 7 7], .int .i64 7] w2 fun e w' => e = .returned (.tuple #[.int .i64 5, .int .i64 0]) ∧ Below w2.heap.size w2 w') := fun w2 h2 =>
    (corners_any 3 _ 7 7 lin 7 w2 (by unfold maxLen; omega) (HR1.out.below h2) (HT1.out.step h2)).mono fun e w' ⟨h, hb⟩ => ⟨lin_num (s := 7) (v := 5) (by omega) lin_crn h, hb⟩
  clear hT
  go_enter Tryd.func6, Tryd.ntmps6
  go_wp2_with fail
  rw [← HW1.out]
  refine HHU.out.mono ?_
  rintro e w2 ⟨rfl, hb2⟩
  have HB2 : Hid (Below W1.heap.size W1 w2) := hb2
  have c0 := HC0.out _ hb2
  have c1 := HC1.out _ hb2
  clear hb2 HHU
  go_wp2_with fail
  refine (HWD.out _ HB2.out).mono ?_
  rintro e w3 ⟨rfl, hb3⟩
  have HB3 : Hid (Below W1.heap.size W1 w3) := Below.then HB2.out hb3
  clear c0 c1 hb3 HWD
  have c0 := HC0.out _ HB3.out
  have c1 := HC1.out _ HB3.out
  go_wp2_with fail
  refine (HCN.out _ HB3.out).mono ?_
  rintro e w4 ⟨rfl, hb4⟩
  have HB4 : Hid (Below W1.heap.size W1 w4) := Below.then HB3.out hb4
  clear c0 c1 hb4 HCN
  go_wp2_with fail
  go_ret
  exact ⟨rfl, Below.then HB1.out HB4.out⟩
end Go.Proofs.YtglkjeidkjkdaaaDoor
namespace Go.Proofs.YtglkjeidkjkdaaaDoor
set_option maxRecDepth 100000
open Go.RowKit

theorem hasX_as (s p : Nat) (w : World) (b : Bool) (h : s.testBit p = b) (hs : s < 9223372036854775808) (hp : p < 63) :
    Calls Tryd.prog 31 #[.int .i64 s, .int .i64 p] w fun e w' => e = .returned (.bool b) ∧ w' = w :=
  (has_any s p w hs hp).mono fun _ _ ⟨h1, h2⟩ => ⟨by rw [← h]; exact h1, h2.symm⟩
theorem in_as (s p : Nat) (w : World) (b : Bool) (h : s.testBit p = b) (hs : s < 9223372036854775808) (hp : p < 63) :
    Calls Tryd.prog 61 #[.int .i64 s, .int .i64 p] w fun e w' => e = .returned (.bool b) ∧ w' = w :=
  (in_any s p w hs hp).mono fun _ _ ⟨h1, h2⟩ => ⟨by rw [← h]; exact h1, h2.symm⟩

def SubI (a b : Nat) : Prop := ∀ j, a.testBit j = true → b.testBit j = true
theorem hvX_zero_bits {s k : Nat} (h : hv s k = 0) : ∀ j, k ≤ j → s.testBit j = false := by
  intro j hj
  have hlt : s < 2 ^ k := by
    unfold hv at h
    rcases Nat.div_eq_zero_iff.1 h with h1 | h1
    · have := Nat.two_pow_pos k; omega
    · exact h1
  exact Nat.testBit_lt_two_pow (Nat.lt_of_lt_of_le hlt (Nat.pow_le_pow_right (by decide) hj))
theorem hvX_big {s : Nat} (hs : s < 1024) {k : Nat} (hk : 10 ≤ k) : hv s k = 0 := by
  unfold hv
  exact Nat.div_eq_zero_iff.2 (.inr (Nat.lt_of_lt_of_le hs (Nat.le_trans (by decide : 1024 ≤ 2 ^ 10) (Nat.pow_le_pow_right (by decide) hk))))
theorem sub_iff {a b : Nat} (ha : a < 1024) (hb : b < 1024) : lack a b = 0 ↔ SubI a b := lack_zero a b (by omega) (by omega)
end Go.Proofs.YtglkjeidkjkdaaaDoor
namespace Go.Proofs.YtglkjeidkjkdaaaDoor
set_option maxRecDepth 100000
open Go.RowKit

theorem hasAll_as (s p : Nat) (v : Bool) (w : World) (hv : decide (lack p s = 0) = v) (hs : s < 9223372036854775808) (hp : p < 9223372036854775808) :
    Calls Tryd.prog 72 #[.int .i64 s, .int .i64 p] w fun e w' => e = .returned (.bool v) ∧ w = w' := by
  have h := i64_andNot p s hp hs
  have HV : Hid ((((lack p s : Nat) : Int) == 0) = v) := by rw [← hv, Hid, Bool.eq_iff_iff]; simp
  clear hv
  go_enter Tryd.func72, Tryd.ntmps72
  go_wp2
  go_ret
  exact ⟨ret_bool HV.out, rfl⟩

theorem follow_as (n : Nat) (a : Option Addr) (cap : Nat) (x : Value) (g : Nat → Nat) (s i : Nat) (v : Bool) (w : World) (hv : may g s i = v) (hg : ∀ k, k < n → g k < 1024) (hs : s < 1024) (hr : Row w a n (fun k => (g k : Nat))) (hi : i < n) (hn : n ≤ 10) :
    Calls Tryd.prog 52 #[.agg #[.slice a n cap, x], .int .i64 s, .int .i64 i] w fun e w' => e = .returned (.bool v) ∧ Below w.heap.size w w' := by
  obtain ⟨b, off, rfl, hc⟩ := hr.at hi
  have hck := hc i hi
  have hbk : b < w.heap.size := World.block_lt_of_cell? _ _ hck
  have hgj := hg i hi
  clear hc hr hg
  rcases (Bool.eq_false_or_eq_true (s.testBit i)).symm with hb | hb
  · have hve : v = decide (lack (g i) s = 0) := by rw [← hv, may, hb]; simp
    have HZ : Hid (decide (lack (g i) s = 0) = v) := hve.symm
    clear hv hve
    go_enter Tryd.func52, Tryd.ntmps52
    go_wp2_with (first | (go_at_call 31; refine (hasX_as s i _ _ hb (by omega) (by omega)).mono ?_; rintro e w' ⟨rfl, rfl⟩) | (go_at_call 72; refine (hasAll_as s (g i) v _ HZ.out (by omega) (by omega)).mono ?_; rintro e w' ⟨rfl, rfl⟩))
    go_ret
    exact ⟨rfl, (Below.refl _ _).alloc (Nat.le_refl _) _⟩
  · have HV : Hid (v = false) := by rw [← hv]; exact may_in hb
    obtain rfl := HV.out
    clear hv
    go_enter Tryd.func52, Tryd.ntmps52
    go_wp2_with (go_at_call 31; refine (hasX_as s i _ _ hb (by omega) (by omega)).mono ?_; rintro e w' ⟨rfl, rfl⟩)
    go_ret
    exact ⟨rfl, (Below.refl _ _).alloc (Nat.le_refl _) _⟩

theorem iwrap_pow (n : Nat) (h : n < 62) : IntKind.i64.wrap ((2 : Int) ^ n) = ((pw n : Nat) : Int) := by
  have := pw_small n h
  rw [show ((2 : Int) ^ n) = ((pw n : Nat) : Int) by simp [pw]]
  generalize pw n = m at *
  exact wrap_i64_small _ (by omega) (by omega)
/-- The table of what goes behind each set, from some set on. -/
def Tabl (w : World) (b n lo : Nat) (u : Nat → Nat) : Prop := ∀ s, s < pw n → lo ≤ s → w.cell? ⟨b, s, none⟩ = some (.int .i64 (ways u n s : Nat))
theorem Tabl.step {w w' : World} {b n lo : Nat} {u : Nat → Nat} (h : Tabl w b n lo u) (hb : Below w.heap.size w w') : Tabl w' b n lo u := fun s hs hl => by
  have := h s hs hl
  exact (hb.cell (World.block_lt_of_cell? _ _ this)).trans this

theorem going_any (n : Nat) (a : Option Addr) (cap b capb : Nat) (u : Nat → Nat) (s i : Nat) (w : World) (hn : n ≤ 10) (hg : ∀ k, k < n → u k < 1024) (hs : s < pw n) (hr : Row w a n (fun k => (u k : Nat))) (ht : Tabl w b n (s + 1) u) (hi : i < n) :
    Calls Tryd.prog 27 #[.agg #[.slice a n cap, .slice (some ⟨b, 0, none⟩) (pw n) capb], .int .i64 s, .int .i64 i] w fun e w' => e = .returned (.int .i64 (goes u n s i : Nat)) ∧ Below w.heap.size w w' := by
  have hpn := pw_le n hn
  have hs2 : s < 1024 := by omega
  have HB0 : Hid (Below w.heap.size w (w.alloc (.cells #[.slice a n cap, .slice (some ⟨b, 0, none⟩) (pw n) capb] 55))) := (Below.refl _ _).alloc (Nat.le_refl _) _
  have HR : Hid (Row (w.alloc (.cells #[.slice a n cap, .slice (some ⟨b, 0, none⟩) (pw n) capb] 55)) a n (fun k => (u k : Nat))) := hr.below HB0.out
  cases hm : may u s i
  · rw [goes_no hm]
    clear ht hr
    go_enter Tryd.func27, Tryd.ntmps27
    go_wp2_with fail
    refine (follow_as n a cap _ u s i false _ hm hg hs2 HR.out hi hn).mono ?_
    rintro e w1 ⟨rfl, hb1⟩
    have HB1 : Hid (Below w.heap.size w w1) := Below.then HB0.out hb1
    clear hb1
    go_wp2_with fail
    go_ret
    exact ⟨rfl, HB1.out⟩
  · rw [goes_yes hm]
    have hsb := may_out hm
    have hlt := add_lt hs hi hsb
    have hor : s ||| pw i = s + pw i := or_free hsb
    have hpi := pw_pos i
    have HT : Hid (∀ w', Below w.heap.size w w' → w'.cell? ⟨b, s + pw i, none⟩ = some (.int .i64 (ways u n (s + pw i) : Nat))) := fun w' hb => (ht.step hb) _ hlt (by omega)
    have hpw := wrap_pow i (by omega)
    have hpib : pw i < 1024 := by omega
    have ho := i64_or s (pw i) (by omega) (by omega)
    rw [hor] at ho
    clear ht hr
    generalize hN : pw n = N at *
    generalize ways u n (s + pw i) = X at *
    go_enter Tryd.func27, Tryd.ntmps27
    go_wp2_with fail
    refine (follow_as n a cap _ u s i true _ hm hg hs2 HR.out hi hn).mono ?_
    rintro e w1 ⟨rfl, hb1⟩
    have HB1 : Hid (Below w.heap.size w w1) := Below.then HB0.out hb1
    have hc := HT.out w1 HB1.out
    have hd0 : w1.cell? ⟨w.heap.size, 1, none⟩ = some (.slice (some ⟨b, 0, none⟩) N capb) := (hb1.cell (p := ⟨w.heap.size, 1, none⟩) (by simp)).trans (by simp)
    clear hb1 HT hor
    generalize hQ : s + pw i = Q at *
    have hQi : (Q : Int) < (N : Int) := by omega
    have hsh2 := iwrap_pow i (by omega)
    clear hQ hN
    go_wp2_with fail
    go_region
    go_wp2_with fail
    go_ret
    exact ⟨rfl, below_drewN HB1.out 1⟩
end Go.Proofs.YtglkjeidkjkdaaaDoor
namespace Go.Proofs.YtglkjeidkjkdaaaDoor
set_option maxRecDepth 100000
open Go.RowKit

set_option maxHeartbeats 1000000 in
theorem clone_any (n : Nat) (a : Option Addr) (cap : Nat) (g : Nat → Nat) (w : World) (hn : n ≤ 10) (hr : Row w a n (fun k => (g k : Nat))) :
    Calls Tryd.prog 51 #[.slice a n cap] w fun e w' => (∃ v, e = .returned v ∧ w'.ownsRow w.heap.size 3 1 v n (rowVals g n)) ∧ Below w.heap.size w w' := by
  obtain ⟨i0, hi, hz0, hz1, hz2⟩ := info_parts Tryd.info3
  rcases a with _ | a
  · have h0 : n = 0 := by
      rcases Nat.eq_zero_or_pos n with h | h
      · exact h
      · obtain ⟨b, off, e, _⟩ := hr 0 h; cases e
    subst h0
    clear hr
    have hq : ∀ w, (binOp .eql 22 (.slice none 0 cap) (.slice none 0 0)).run Tryd.prog w = .ok (.bool true) w := fun w => Lib.run_eql_slice_nil w 22 3 none 0 cap 0 0 Tryd.underlying22
    go_enter Tryd.func51, Tryd.ntmps51
    go_wp2_with fail
    go_ret
    exact ⟨⟨_, rfl, World.ownsRow_nil _ _ _ _⟩, Below.refl _ _⟩
  · have hq : ∀ w, (binOp .eql 22 (.slice (some a) n cap) (.slice none 0 0)).run Tryd.prog w = .ok (.bool false) w := fun w => Lib.run_eql_slice_nil w 22 3 (some a) n cap 0 0 Tryd.underlying22
    go_enter Tryd.func51, Tryd.ntmps51
    have hown : (w.alloc (.cells #[] 3)).ownsRow w.heap.size 3 1 (.slice (some ⟨w.heap.size, 0, none⟩) 0 0) 0 [] := World.ownsRow_made w #[] 0 (Nat.le_refl _) (by unfold maxLen; omega) (by simp)
    go_wp2_with (at_builtin; refine wpList_append_own _ rfl _ _ 22 rfl w.heap.size 3 i0 (.int .i64 0) 1 8 Tryd.underlying22 hi hz0 hz1 hz2 rfl (by decide) _ _ _ rfl hown a n cap (rowVals g n) rfl (by simp [rowVals]) ?c1 ?c2 ?c3 ?c4 ?c5 ?_)
    case c1 =>
      intro j u hj
      have hjn : j < n := by
        rcases Nat.lt_or_ge j n with h | h
        · exact h
        · rw [List.getElem?_eq_none (by simp [rowVals]; omega)] at hj; cases hj
      rw [rowVals_at g n j hjn] at hj
      cases hj
      obtain ⟨b, off, e, hc⟩ := hr j hjn
      cases e
      have hlt := World.block_lt_of_cell? _ _ hc
      have e2 : (⟨b, off, none⟩ : Addr).add j = ⟨b, off + j, none⟩ := by unfold Addr.add; split <;> simp_all
      rw [e2, World.cell?_alloc_old _ _ _ (Nat.ne_of_lt hlt)]
      exact hc
    case c2 =>
      intro u hu
      simp [rowVals] at hu
      obtain ⟨k, _, rfl⟩ := hu
      rfl
    case c3 => unfold maxLen; omega
    case c4 => omega
    case c5 => simp
    intro v' w2 hown' hgrow _
    have HO : Hid (w2.ownsRow w.heap.size 3 1 v' n (rowVals g n)) := by
      first
        | exact hown'
        | simpa using hown'
    have HB : Hid (Below w.heap.size w w2) := ((Below.refl _ _).alloc (Nat.le_refl _) _).grown hgrow (by simp) (by intro k hk; simp [Value.ownBlock] at hk; omega)
    clear hown' hgrow hown
    go_wp2_with fail
    go_ret
    exact ⟨⟨_, rfl, HO.out⟩, HB.out⟩
end Go.Proofs.YtglkjeidkjkdaaaDoor
