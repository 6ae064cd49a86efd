/-
  What order.Ends and the reference's Ends answer; hasselaw.OrderEnds returns true for every order. No condition but that a slice reads as a slice of numbers.
-/
import Derived.Test.YtnjmelbnamgjcaaSets
import Derived.Test.YtnjmelbnamgjcaaChecks
namespace Go.Proofs.Ytnjmelbnamgjcaa
open Go.RowKit

theorem Chk.good {n : Int} {len : Nat} {f : Nat → Int} (h : Chk n len f 0) : n = (len : Int) ∧ len ≤ 10 ∧ Rng len f ∧ Ord len (nat f) := by
  rcases h with ⟨h, _⟩ | ⟨m, hm, h10, ⟨h, _⟩ | ⟨rfl, ⟨h, _⟩ | ⟨hr, ⟨h, _⟩ | ⟨_, ho⟩⟩⟩⟩
  · cases h
  · cases h
  · cases h
  · cases h
  · exact ⟨hm, h10, hr, ho⟩
theorem Rng.row {w : World} {a : Option Addr} {len : Nat} {f : Nat → Int} (hr : Rng len f) (h : Row w a len f) : Row w a len (fun k => (nat f k : Nat)) := by
  intro j hj
  have := h j hj
  have e : f j = (nat f j : Nat) := by have := hr j hj; unfold nat; omega
  rw [e] at this
  exact this
theorem Rng.small {len : Nat} {f : Nat → Int} (hr : Rng len f) : ∀ k, k < len → nat f k < pw len := fun k hk => by
  have := hr k hk; unfold nat; omega
theorem Rng.small2 {len : Nat} {f : Nat → Int} (hr : Rng len f) (hl : len ≤ 10) : ∀ k, k < len → nat f k < 1024 := fun k hk =>
  Nat.lt_of_lt_of_le (hr.small k hk) (pw_le len hl)

def leastOf (g : Nat → Nat) (n : Nat) : Nat := setBy (fun p => g p == 0) n
def mostOf (g : Nat → Nat) (n : Nat) : Nat := setBy (fun p => trn g n p == 0) n

def EndsPost (n : Int) (len : Nat) (f : Nat → Int) (e : Ending) : Prop :=
  ∃ c : Int, Chk n len f c ∧ ((c ≠ 0 ∧ e = .returned (.tuple #[.int .i64 0, .int .i64 0, .int .i64 c])) ∨
    (c = 0 ∧ e = .returned (.tuple #[.int .i64 (leastOf (nat f) len : Nat), .int .i64 (mostOf (nat f) len : Nat), .int .i64 0])))

theorem ends_any (n : Int) (a : Option Addr) (len cap : Nat) (f : Nat → Int) (w : World) (hl : len ≤ maxLen) (hr : Row w a len f) :
    Calls Try.prog 17 #[.agg #[.int .i64 n, .slice a len cap]] w fun e w' => EndsPost n len f e ∧ Below w.heap.size w w' := by
  have K0 : Held (w.alloc (.cells #[.int .i64 n, .slice a len cap] 24)) w.heap.size n a len cap f := Held.box hr
  have HB0 : Hid (Below w.heap.size w (w.alloc (.cells #[.int .i64 n, .slice a len cap] 24))) := (Below.refl _ _).alloc (Nat.le_refl _) _
  go_enter Try.func17, Try.ntmps17
  go_wp2_with fail
  refine (check_any n a len cap f _ hl K0.row).mono ?_
  rintro e w1 ⟨⟨c, rfl, hc⟩, hb⟩
  have K1 := K0.step hb
  have HB1 : Hid (Below w.heap.size w w1) := Below.then HB0.out hb
  clear hb K0 HB0 hr
  by_cases h0 : c = 0
  · subst h0
    obtain ⟨rfl, h10, hrng, _⟩ := hc.good
    have KK : w1.drew.cell? ⟨w.heap.size, 0, none⟩ = some (.int .i64 (len : Int)) ∧ w1.drew.cell? ⟨w.heap.size, 1, none⟩ = some (.slice a len cap) ∧ Row w1.drew a len (fun k => (nat f k : Nat)) ∧ Below w.heap.size w w1.drew := ⟨K1.c0, K1.c1, hrng.row K1.row, HB1.out.drew⟩
    have HC : Hid (Chk (len : Int) len f 0) := hc
    have HG : Hid (∀ k, k < len → nat f k < 1024) := hrng.small2 h10
    clear K1 HB1 hc hrng
    go_wp2_with fail
    go_region_held3 (fun w' => w'.cell? ⟨w.heap.size, 0, none⟩ = some (.int .i64 (len : Int)) ∧ w'.cell? ⟨w.heap.size, 1, none⟩ = some (.slice a len cap) ∧ Row w' a len (fun k => (nat f k : Nat)) ∧ Below w.heap.size w w')
      (first | exact KK | assumption | exact kept_step (by assumption) (by assumption))
      (first
        | (go_at_call_of 35 (Value.slice a len cap); refine (bare_any len (nat f) a cap _ h10 (kept_row (w0 := w) (n := (len : Int)) (cap := cap) (by assumption))).mono ?_; rintro e w' ⟨rfl, rfl⟩)
        | (go_at_call 32; refine (turn_any len (nat f) a cap _ h10 HG.out (kept_row (w0 := w) (n := (len : Int)) (cap := cap) (by assumption))).mono ?_; rintro e w' ⟨rfl, ho, hb⟩)
        | (go_at_call 35; refine (bare_any len (trn (nat f) len) _ len _ h10 (Own.row (by assumption))).mono ?_; rintro e w' ⟨rfl, rfl⟩))
    all_goals go_wp2
    all_goals go_ret3
    all_goals exact ⟨⟨0, HC.out, .inr ⟨rfl, rfl⟩⟩, kept_below (n := (len : Int)) (a := a) (len := len) (cap := cap) (f := fun k => (nat f k : Nat)) (by assumption)⟩
  · have hne : (c != 0) = true := by simpa using h0
    go_wp2_with fail
    go_ret3
    exact ⟨⟨c, hc, .inl ⟨h0, rfl⟩⟩, HB1.out⟩

def lowTo (g : Nat → Nat) (i : Nat) : Nat → Bool
  | 0 => true
  | k + 1 => lowTo g i k && !(g i).testBit k
def highTo (g : Nat → Nat) (i : Nat) : Nat → Bool
  | 0 => true
  | k + 1 => highTo g i k && !(g k).testBit i
theorem lowTo_iff (g : Nat → Nat) (i : Nat) : ∀ n, lowTo g i n = true ↔ ∀ k, k < n → (g i).testBit k = false
  | 0 => by simp [lowTo]
  | n + 1 => by
    simp only [lowTo, Bool.and_eq_true, Bool.not_eq_true', lowTo_iff g i n]
    exact ⟨fun h => upto_succ h.1 h.2, fun h => ⟨fun k hk => h k (by omega), h n (by omega)⟩⟩
theorem highTo_iff (g : Nat → Nat) (i : Nat) : ∀ n, highTo g i n = true ↔ ∀ k, k < n → (g k).testBit i = false
  | 0 => by simp [highTo]
  | n + 1 => by
    simp only [highTo, Bool.and_eq_true, Bool.not_eq_true', highTo_iff g i n]
    exact ⟨fun h => upto_succ h.1 h.2, fun h => ⟨fun k hk => h k (by omega), h n (by omega)⟩⟩
theorem least_eq (g : Nat → Nat) (n : Nat) (hg : ∀ k, k < n → g k < pw n) : leastOf g n = setBy (fun i => lowTo g i n) n := by
  refine setBy_congr n fun i hi => ?_
  rw [Bool.eq_iff_iff, lowTo_iff]
  simp only [beq_iff_eq]
  constructor
  · intro h k _; rw [h]; simp
  · intro h
    refine eq_of_bits (hg i hi) (pw_pos n) fun k hk => ?_
    rw [h k hk]; simp
theorem most_eq (g : Nat → Nat) (n : Nat) : mostOf g n = setBy (fun i => highTo g i n) n := by
  refine setBy_congr n fun i hi => ?_
  rw [Bool.eq_iff_iff, highTo_iff]
  simp only [beq_iff_eq]
  constructor
  · intro h k hk
    have := setBy_bit (fun x => (g x).testBit i) n k
    rw [show setBy (fun x => (g x).testBit i) n = 0 from h] at this
    simpa [hk] using this.symm
  · intro h
    refine eq_of_bits (trn_small g n i n (Nat.le_refl _)) (pw_pos n) fun k hk => ?_
    rw [show trn g n i = setBy (fun x => (g x).testBit i) n from rfl, setBy_bit]
    simp [h k hk]

set_option maxHeartbeats 1000000 in
theorem refEnds_any (a : Option Addr) (len cap : Nat) (g : Nat → Nat) (w : World) (h10 : len ≤ 10) (hg : ∀ k, k < len → g k < 1024) (hr : Row w a len (fun k => (g k : Nat))) :
    Calls Try.prog 18 #[.agg #[.int .i64 (len : Int), .slice a len cap]] w fun e w' => e = .returned (.tuple #[.int .i64 (setBy (fun i => lowTo g i len) len : Nat), .int .i64 (setBy (fun i => highTo g i len) len : Nat)]) ∧ Below w.heap.size w w' := by
  have HH0 : Hid (Held (w.alloc (.cells #[.int .i64 (len : Int), .slice a len cap] 24)) w.heap.size len a len cap (fun k => (g k : Nat))) := Held.box hr
  have HB0 : Hid (Below w.heap.size w (w.alloc (.cells #[.int .i64 (len : Int), .slice a len cap] 24))) := (Below.refl _ _).alloc (Nat.le_refl _) _
  have HG : Hid (∀ k, k < len → g k < 1024) := hg
  clear hr hg
  obtain ⟨L, HL⟩ : ∃ L, Hid (L = fun i => lowTo g i len) := ⟨_, rfl⟩
  obtain ⟨H, HU⟩ : ∃ H, Hid (H = fun i => highTo g i len) := ⟨_, rfl⟩
  rw [← HL.out, ← HU.out]
  go_enter Try.func18, Try.ntmps18
  go_wp2
  go_loopw [4, 5, 6] (fun s t x wx => ∃ i : Nat, i ≤ len ∧ x = .int .i64 i ∧ s = .int .i64 (setBy L i : Nat) ∧ t = .int .i64 (setBy H i : Nat) ∧ Held wx w.heap.size len a len cap (fun k => (g k : Nat)) ∧ Hid (Below w.heap.size w wx)) (fun _ _ x _ => len - (intOf x).toNat)
  case atStart => exact ⟨0, Nat.zero_le _, rfl, rfl, rfl, HH0.out, HB0.out⟩
  case round =>
    obtain ⟨i, hi, rfl, rfl, rfl, hH, hB⟩ := hrel
    clear HH0 HB0
    have c0 := hH.c0
    have c1 := hH.c1
    by_cases hlt : i < len
    · go_wp2
      have HH1 : Hid (Held wr w.heap.size len a len cap (fun k => (g k : Nat))) := hH
      have HB1 : Hid (Below w.heap.size w wr) := hB.out
      clear hH hB c0 c1
      go_loopw [7, 8, 9] (fun s t x wy => ∃ k : Nat, k ≤ len ∧ x = .int .i64 k ∧ s = .bool (lowTo g i k) ∧ t = .bool (highTo g i k) ∧ Held wy w.heap.size len a len cap (fun k => (g k : Nat)) ∧ Hid (Below w.heap.size w wy)) (fun _ _ x _ => len - (intOf x).toNat)
      case atStart => exact ⟨0, Nat.zero_le _, rfl, rfl, rfl, HH1.out, HB1.out⟩
      case round =>
        obtain ⟨k, hk, rfl, rfl, rfl, hH, hB⟩ := hrel
        clear HH1 HB1
        have c0 := hH.c0
        have c1 := hH.c1
        by_cases hkl : k < len
        · have HLS : Hid (lowTo g i (k + 1) = (lowTo g i k && !(g i).testBit k)) := rfl
          have HHS : Hid (highTo g i (k + 1) = (highTo g i k && !(g k).testBit i)) := rfl
          generalize hl : lowTo g i k = lo at *
          generalize hh : highTo g i k = hi' at *
          clear hl hh
          cases lo <;> cases hi'
          · go_wp2
            go_roundw
            case rel => exact ⟨k + 1, by omega, by go_num, by rw [HLS.out]; rfl, by rw [HHS.out]; rfl, hH, hB⟩
            case measure => simp [intOf]; omega
          · go_wp2_with fail
            refine (less_any len a len cap g i k _ h10 HG.out hH.row (by omega) hkl).mono ?_
            rintro e w1 ⟨rfl, hb1⟩
            have Hb1 : Hid (Below wr.heap.size wr w1) := hb1; clear hb1
            go_wp2_with fail
            go_roundw
            case rel => exact ⟨k + 1, by omega, by go_num, by rw [HLS.out]; rfl, by rw [HHS.out]; rfl, hH.step Hb1.out, Below.then hB.out Hb1.out⟩
            case measure => simp [intOf]; omega
          · go_wp2_with fail
            refine (less_any len a len cap g k i _ h10 HG.out hH.row (by omega) hlt).mono ?_
            rintro e w1 ⟨rfl, hb1⟩
            have Hb1 : Hid (Below wr.heap.size wr w1) := hb1; clear hb1
            go_wp2_with fail
            go_roundw
            case rel => exact ⟨k + 1, by omega, by go_num, by rw [HLS.out]; rfl, by rw [HHS.out]; rfl, hH.step Hb1.out, Below.then hB.out Hb1.out⟩
            case measure => simp [intOf]; omega
          · go_wp2_with fail
            refine (less_any len a len cap g k i _ h10 HG.out hH.row (by omega) hlt).mono ?_
            rintro e w1 ⟨rfl, hb1⟩
            have H1 := hH.step hb1
            have d0 := H1.c0
            have d1 := H1.c1
            have Hb1 : Hid (Below wr.heap.size wr w1) := hb1; clear hb1
            go_wp2_with fail
            refine (less_any len a len cap g i k _ h10 HG.out H1.row (by omega) hkl).mono ?_
            rintro e w2 ⟨rfl, hb2⟩
            have Hb2 : Hid (Below w1.heap.size w1 w2) := hb2; clear hb2
            go_wp2_with fail
            go_roundw
            case rel => exact ⟨k + 1, by omega, by go_num, by rw [HLS.out]; rfl, by rw [HHS.out]; rfl, H1.step Hb2.out, Below.then (Below.then hB.out Hb1.out) Hb2.out⟩
            case measure => simp [intOf]; omega
        · have hkn : k = len := by omega
          subst hkn
          have HLY : Hid (L i = lowTo g i k) := by rw [HL.out]; rfl
          have HHY : Hid (H i = highTo g i k) := by rw [HU.out]; rfl
          have hs1 := setBy_lt L i
          have hs2 := setBy_lt H i
          have hp := pw_small i (Nat.lt_of_lt_of_le hlt (Nat.le_trans h10 (by decide)))
          have HE : Hid (∀ b c : Bool, L i = b → H i = c → setBy L (i + 1) = (if b = true then setBy L i + pw i else setBy L i) ∧ setBy H (i + 1) = (if c = true then setBy H i + pw i else setBy H i)) := fun b c hb hc => by simp only [setBy, hb, hc, and_self]
          generalize setBy L i = SL at *
          generalize setBy H i = SH at *
          generalize hl : lowTo g i k = lo at *
          generalize hh : highTo g i k = hi' at *
          clear hl hh HL HU
          obtain ⟨HE1, HE2⟩ := HE.out _ _ HLY.out HHY.out
          have HF1 : Hid (setBy L (i + 1) = (if lo = true then SL + pw i else SL)) := HE1
          have HF2 : Hid (setBy H (i + 1) = (if hi' = true then SH + pw i else SH)) := HE2
          clear HE HE1 HE2 HLY HHY
          cases lo <;> cases hi'
          all_goals
            go_wp2_with (go_at_call 25; refine (bit_any i _ (by omega)).mono ?_; rintro e w' ⟨rfl, rfl⟩)
            go_roundw
            case rel => exact ⟨i + 1, by omega, by go_num, by rw [HF1.out]; first | rfl | simp, by rw [HF2.out]; first | rfl | simp, hH, hB⟩
            case measure => simp [intOf]; omega
    · have hin : i = len := by omega
      subst hin
      go_wp2
      go_ret2
      exact ⟨rfl, hB.out⟩

theorem orderEnds_any (n : Int) (a : Option Addr) (len cap : Nat) (f : Nat → Int) (w : World) (hl : len ≤ maxLen) (hr : Row w a len f) :
    Calls Try.prog 6 #[.agg #[.int .i64 n, .slice a len cap]] w fun e w' => e = .returned (.bool true) ∧ Below w.heap.size w w' := by
  have K0 : Held (w.alloc (.cells #[.int .i64 n, .slice a len cap] 24)) w.heap.size n a len cap f := Held.box hr
  have HB0 : Hid (Below w.heap.size w (w.alloc (.cells #[.int .i64 n, .slice a len cap] 24))) := (Below.refl _ _).alloc (Nat.le_refl _) _
  clear hr
  go_enter Try.func6, Try.ntmps6
  go_wp2_with fail
  refine (ends_any n a len cap f _ hl K0.row).mono ?_
  rintro e w1 ⟨⟨c, hc, he⟩, hb⟩
  have K1 := K0.step hb
  have k0 := K1.c0
  have k1 := K1.c1
  have HB1 : Hid (Below w.heap.size w w1) := Below.then HB0.out hb
  clear hb K0 HB0
  rcases he with ⟨h0, rfl⟩ | ⟨rfl, rfl⟩
  · have hne : (c != 0) = true := by simpa using h0
    have hne2 : (c == 0) = false := by simpa using h0
    go_wp2_with fail
    refine (checkOrder_any n a len cap f _ hl K1.row).mono ?_
    rintro e w2 ⟨⟨c', rfl, hc'⟩, hb2⟩
    obtain rfl := Chk.unique hc' hc
    have HB2 : Hid (Below w.heap.size w w2) := Below.then HB1.out hb2
    clear hb2 HB1 K1 k0 k1 hc hc'
    go_wp2_with fail
    refine (orderBegun_any _).mono ?_
    rintro e w3 ⟨rfl, hb3⟩
    have HB3 : Hid (Below w.heap.size w w3) := Below.then HB2.out hb3
    clear hb3 HB2
    go_wp2_with fail
    refine (orderBegun_any _).mono ?_
    rintro e w4 ⟨rfl, hb4⟩
    have HB4 : Hid (Below w.heap.size w w4) := Below.then HB3.out hb4
    clear hb4 HB3
    go_wp2_with fail
    go_ret
    exact ⟨rfl, HB4.out⟩
  · obtain ⟨rfl, h10, hrng, _⟩ := hc.good
    go_wp2_with fail
    refine (checkOrder_any len a len cap f _ hl K1.row).mono ?_
    rintro e w2 ⟨⟨c', rfl, hc'⟩, hb2⟩
    obtain rfl := Chk.unique hc' hc
    have HB2 : Hid (Below w.heap.size w w2) := Below.then HB1.out hb2
    have K2 := K1.step hb2
    clear hb2 HB1 k0 k1 hc hc' K1
    go_wp2_with fail
    refine (orderBegun_any _).mono ?_
    rintro e w3 ⟨rfl, hb3⟩
    have HB3 : Hid (Below w.heap.size w w3) := Below.then HB2.out hb3
    have K3 := K2.step hb3
    have k0 := K3.c0
    have k1 := K3.c1
    clear hb3 HB2 K2
    go_wp2_with fail
    refine (refEnds_any a len cap (nat f) _ h10 (hrng.small2 h10) (hrng.row K3.row)).mono ?_
    rintro e w4 ⟨rfl, hb4⟩
    rw [← least_eq (nat f) len hrng.small, ← most_eq (nat f) len]
    have HB4 : Hid (Below w.heap.size w w4) := Below.then HB3.out hb4
    clear hb4 HB3 K3 k0 k1
    go_wp2_with fail
    go_ret
    exact ⟨rfl, HB4.out⟩
end Go.Proofs.Ytnjmelbnamgjcaa
