/-
  What match.Cover, the law's covered and the reference's Inside answer. No condition but that a slice reads as a slice of numbers.
-/
import Derived.Test.YtahnkmdhhdgfhaaMCover
import Derived.Test.YtahnkmdhhdgfhaaMDef
namespace Go.Proofs.Ytahnkmdhhdgfhaa
open Go.RowKit

def CoverPost (L R : Int) (len : Nat) (f : Nat → Int) (e : Ending) : Prop :=
  ∃ c : Int, GChk L R len f c ∧ ((c ≠ 0 ∧ e = .returned (.tuple #[.int .i64 0, .int .i64 0, .int .i64 c])) ∨
    (c = 0 ∧ ∃ x y : Nat, e = .returned (.tuple #[.int .i64 (x : Nat), .int .i64 (y : Nat), .int .i64 0]) ∧ CoverP (nat f) len R.toNat (len - dfc (nat f) len) x y))
set_option maxHeartbeats 1000000 in
theorem cover_any (L R : Int) (a : Option Addr) (len cap : Nat) (f : Nat → Int) (w : World) (hl : len ≤ maxLen) (hr : Row w a len f) :
    Calls Try.prog 15 #[.agg #[.int .i64 L, .int .i64 R, .slice a len cap]] w fun e w' => CoverPost L R len f e ∧ Below w.heap.size w w' := by
  have K0 : GHeld (w.alloc (.cells #[.int .i64 L, .int .i64 R, .slice a len cap] 24)) w.heap.size L R a len cap f := GHeld.box hr
  have HB0 : Hid (Below w.heap.size w (w.alloc (.cells #[.int .i64 L, .int .i64 R, .slice a len cap] 24))) := (Below.refl _ _).alloc (Nat.le_refl _) _
  clear hr
  go_enter Try.func15, Try.ntmps15
  go_wp2_with fail
  refine (mcheck_any L R a len cap f _ hl K0.row).mono ?_
  rintro e w1 ⟨⟨c, rfl, hc⟩, hb⟩
  have K1 := K0.step hb
  have HB1 : Hid (Below w.heap.size w w1) := Below.then HB0.out hb
  clear hb K0 HB0
  by_cases h0 : c = 0
  · subst h0
    obtain ⟨r, rfl, rfl, h10, hr10, hrng⟩ := hc.good
    have HC : Hid (GChk (len : Int) (r : Int) len f 0) := hc
    have HSM : Hid (Sm r len (nat f)) := hrng.small
    have H1 : Hid (GHeld w1 w.heap.size len r a len cap (fun k => (nat f k : Nat))) := ⟨K1.c0, K1.c1, K1.c2, hrng.row K1.row⟩
    have hpl := pw_le len h10
    have k0 := K1.c0
    have k1 := K1.c1
    have k2 := K1.c2
    clear hc hrng K1
    have l0 : ∀ w', Below w1.heap.size w1 w' → w'.cell? ⟨w.heap.size, 0, none⟩ = some (.int .i64 (len : Int)) := fun w' h => (H1.out.step h).c0
    have l1 : ∀ w', Below w1.heap.size w1 w' → w'.cell? ⟨w.heap.size, 1, none⟩ = some (.int .i64 (r : Int)) := fun w' h => (H1.out.step h).c1
    have l2 : ∀ w', Below w1.heap.size w1 w' → w'.cell? ⟨w.heap.size, 2, none⟩ = some (.slice a len cap) := fun w' h => (H1.out.step h).c2
    have LR : Hid (∀ w', Below w1.heap.size w1 w' → Row w' a len (fun k => (nat f k : Nat))) := fun w' h => (H1.out.step h).row
    have KK : Below w1.heap.size w1 w1.drew := (Below.refl _ _).drew
    have HOUT : Hid (∀ w', Below w1.heap.size w1 w' → Below w.heap.size w w') := fun w' h => Below.then HB1.out h
    clear k0 k1 k2 HB1
    go_wp2_with fail
    go_region_held3 (fun w' => Below w1.heap.size w1 w')
      (first | exact KK | assumption | exact Below.then (by assumption) (by assumption))
      (first
        | (go_at_call 26; refine (best_any len r a cap (nat f) _ h10 hr10 HSM.out (LR.out _ (by assumption))).mono ?_; rintro e w2 ⟨⟨b, G, rfl, hrow, hm⟩, hb2⟩)
        | (go_at_call 29; refine (comeTo_any len r a cap (nat f) _ len G _ h10 hr10 HSM.out (LR.out _ (by assumption)) hrow hm).mono ?_; rintro e w3 ⟨⟨x, y, rfl, hx, hcov⟩, hb3⟩))
    have hcnt := hm.count h10 hr10 HSM.out
    have HCP : Hid (CoverP (nat f) len r (len - dfc (nat f) len) (lack (pw len - 1) x) y) := by
      have e : cntM G len = len - dfc (nat f) len := by omega
      rw [← e]; exact hcov
    have hx2 : x < 1024 := Nat.lt_of_lt_of_le hx hpl
    have hpp := pw_pos len
    have hno : bits .andNot .i64 (((pw len : Nat) : Int) - 1) (x : Int) = ((lack (pw len - 1) x : Nat) : Int) := by
      have e := i64_andNot (pw len - 1) x (by omega) (Nat.lt_trans hx2 (by decide))
      rw [← e]; congr 1; omega
    clear hcov hm hrow hcnt
    all_goals go_wp2_with (go_at_call 30; refine (all_any _ _ h10).mono ?_; rintro e w' ⟨rfl, rfl⟩)
    go_ret3
    exact ⟨⟨0, HC.out, .inr ⟨rfl, _, y, rfl, by rw [Int.toNat_natCast]; exact HCP.out⟩⟩, HOUT.out _ (by assumption)⟩
  · have hne : (c != 0) = true := by simpa using h0
    have HC : Hid (GChk L R len f c) := hc
    clear hc
    go_wp2_with fail
    go_ret3
    exact ⟨⟨c, HC.out, .inl ⟨h0, rfl⟩⟩, HB1.out⟩

theorem isSet2_any (s : Int) (n : Nat) (w : World) (hn : n ≤ 10) :
    Calls Try.prog 31 #[.int .i64 s, .int .i64 n] w fun e w' => e = .returned (.bool (sts s n)) ∧ w = w' := by
  by_cases h0 : 0 ≤ s
  · by_cases h1 : s < ((pw n : Nat) : Int)
    · go_enter Try.func31, Try.ntmps31
      go_wp2_with (go_at_call 25; refine (bit_any n _ (by omega)).mono ?_; rintro e w' ⟨rfl, rfl⟩)
      go_ret
      exact ⟨ret_bool (by simp [sts, h0, h1]), rfl⟩
    · go_enter Try.func31, Try.ntmps31
      go_wp2_with (go_at_call 25; refine (bit_any n _ (by omega)).mono ?_; rintro e w' ⟨rfl, rfl⟩)
      go_ret
      exact ⟨ret_bool (by simp [sts, h0]), rfl⟩
  · have h0' : decide (0 ≤ s) = false := by simp; omega
    go_enter Try.func31, Try.ntmps31
    go_wp2
    go_ret
    exact ⟨ret_bool (by simp [sts]; omega), rfl⟩
theorem inside_any (a b : Nat) (v : Bool) (w : World) (ha : a < 1024) (hb : b < 1024) (hv : v = true ↔ Sub a b) :
    Calls Try.prog 32 #[.int .i64 a, .int .i64 b] w fun e w' => e = .returned (.bool v) ∧ w = w' := by
  have HV : Hid (v = true ↔ Sub a b) := hv
  clear hv
  go_enter Try.func32, Try.ntmps32
  go_wp2_with fail
  go_loop [0, 1] (fun x y => ∃ k : Nat, k ≤ 10 ∧ x = .int .i64 (hv a k : Nat) ∧ y = .int .i64 (hv b k : Nat) ∧ Hid (∀ j, j < k → a.testBit j = true → b.testBit j = true)) (fun x _ => (intOf x).toNat)
  case atStart => exact ⟨0, Nat.zero_le _, by rw [hv_zero], by rw [hv_zero], upto_zero⟩
  case round =>
    obtain ⟨k, hk, rfl, rfl, hok⟩ := hrel
    have h1 := hv_le a k
    have h2 := hv_le b k
    by_cases hz : hv a k = 0
    · have HY : Hid (v = true) := HV.out.2 (fun j hj => by
        rcases Nat.lt_or_ge j k with h3 | h3
        · exact hok.out j h3 hj
        · rw [hv_zero_bits hz j h3] at hj; cases hj)
      have hle : ((hv a k : Nat) : Int) ≤ 0 := by omega
      clear hz
      generalize hv a k = A at *
      generalize hv b k = B at *
      go_wp2_with fail
      go_ret
      exact ⟨ret_bool HY.out.symm, rfl⟩
    · have hpos : (0 : Int) < ((hv a k : Nat) : Int) := by omega
      have hk10 : k < 10 := by
        rcases Nat.lt_or_ge k 10 with h3 | h3
        · exact h3
        · exact absurd (hv_big ha h3) hz
      have HA : Hid (hv a (k + 1) = hv a k / 2) := hv_succ a k
      have HB : Hid (hv b (k + 1) = hv b k / 2) := hv_succ b k
      have ba := hv_bit a k
      have bb := hv_bit b k
      have HIN : Hid (∀ v', (v = true → v' = true) → (v' = true → v = true) → v = v') := fun v' h1 h2 => Bool.eq_iff_iff.2 ⟨h1, h2⟩
      rcases Nat.mod_two_eq_zero_or_one (hv a k) with ea | ea
      · have q1 : (((hv a k : Nat) : Int) % 2 == 1) = false := by simp; omega
        have HO1 : Hid (∀ j, j < k + 1 → a.testBit j = true → b.testBit j = true) := upto_succ hok.out (fun h => by rw [ba] at h; simp at h; omega)
        clear ba bb ea hz
        generalize hv a k = A at *
        generalize hv b k = B at *
        go_wp2_with fail
        go_round
        case rel => exact ⟨k + 1, by omega, by rw [HA.out]; simp, by rw [HB.out]; simp, HO1.out⟩
        case measure => simp [intOf]; omega
      · have q1 : (((hv a k : Nat) : Int) % 2 == 1) = true := by simp; omega
        rcases Nat.mod_two_eq_zero_or_one (hv b k) with eb | eb
        · have q2 : (((hv b k : Nat) : Int) % 2 == 0) = true := by simp; omega
          have HY : Hid (v = false) := by
            have e : v = false := by
              cases hv' : v
              · rfl
              · have := HV.out.1 hv' k (by rw [ba]; simp [ea])
                rw [bb] at this; simp [eb] at this
            exact e
          clear ba bb ea eb hz
          generalize hv a k = A at *
          generalize hv b k = B at *
          go_wp2_with fail
          go_ret
          exact ⟨ret_bool HY.out.symm, rfl⟩
        · have q2 : (((hv b k : Nat) : Int) % 2 == 0) = false := by simp; omega
          have HO1 : Hid (∀ j, j < k + 1 → a.testBit j = true → b.testBit j = true) := upto_succ hok.out (fun _ => by rw [bb]; simp [eb])
          clear ba bb ea eb hz
          generalize hv a k = A at *
          generalize hv b k = B at *
          go_wp2_with fail
          go_round
          case rel => exact ⟨k + 1, by omega, by rw [HA.out]; simp, by rw [HB.out]; simp, HO1.out⟩
          case measure => simp [intOf]; omega

/-- Is each pair that may go covered? -/
def CovOK (t : Nat → Nat) (l r : Nat) (A B : Int) : Prop := ∃ x y : Nat, A = x ∧ B = y ∧ x < pw l ∧ y < pw r ∧ ∀ i, i < l → x.testBit i = true ∨ Sub (t i) y
theorem covOK_no1 {t : Nat → Nat} {l r : Nat} {A B : Int} (h : sts A l = false) : ¬ CovOK t l r A B := by
  rintro ⟨x, y, rfl, rfl, hx, _⟩
  simp [sts] at h; omega
theorem covOK_no2 {t : Nat → Nat} {l r : Nat} {A B : Int} (h : sts B r = false) : ¬ CovOK t l r A B := by
  rintro ⟨x, y, rfl, rfl, _, hy, _⟩
  simp [sts] at h; omega
set_option maxHeartbeats 1000000 in
theorem covered_any (l r : Nat) (a : Option Addr) (cap : Nat) (t : Nat → Nat) (A B : Int) (w : World) (hl : l ≤ 10) (hr10 : r ≤ 10) (ht : Sm r l t) (hr : Row w a l (fun k => (t k : Nat))) :
    Calls Try.prog 16 #[.agg #[.int .i64 (l : Int), .int .i64 (r : Int), .slice a l cap], .int .i64 A, .int .i64 B] w fun e w' => Ans e (CovOK t l r A B) ∧ Below w.heap.size w w' := by
  have HB0 : Hid (Below w.heap.size w (w.alloc (.cells #[.int .i64 (l : Int), .int .i64 (r : Int), .slice a l cap] 24))) := (Below.refl _ _).alloc (Nat.le_refl _) _
  have K0 : GHeld (w.alloc (.cells #[.int .i64 (l : Int), .int .i64 (r : Int), .slice a l cap] 24)) w.heap.size l r a l cap (fun k => (t k : Nat)) := GHeld.box hr
  have hpl := pw_le l hl
  have hpr := pw_le r hr10
  have HT : Hid (∀ k, k < l → t k < 1024) := fun k hk => Nat.lt_of_lt_of_le (ht k hk) hpr
  clear hr ht
  cases hA : sts A l
  · have HNO : Hid (¬ CovOK t l r A B) := covOK_no1 hA
    go_enter Try.func16, Try.ntmps16
    go_wp2_with (go_at_call 31; refine (isSet2_any _ _ _ hl).mono ?_; rintro e w' ⟨rfl, rfl⟩)
    go_ret
    exact ⟨Ans.no HNO.out, HB0.out⟩
  · cases hB : sts B r
    · have HNO : Hid (¬ CovOK t l r A B) := covOK_no2 hB
      go_enter Try.func16, Try.ntmps16
      go_wp2_with (first
        | (go_at_call_of 31 (Value.int IntKind.i64 A); refine (isSet2_any A l _ hl).mono ?_; rintro e w' ⟨rfl, rfl⟩)
        | (go_at_call_of 31 (Value.int IntKind.i64 B); refine (isSet2_any B r _ hr10).mono ?_; rintro e w' ⟨rfl, rfl⟩))
      go_ret
      exact ⟨Ans.no HNO.out, HB0.out⟩
    · have hA' : 0 ≤ A ∧ A < (pw l : Nat) := by simpa [sts] using hA
      have hB' : 0 ≤ B ∧ B < (pw r : Nat) := by simpa [sts] using hB
      obtain ⟨x, rfl⟩ := Int.eq_ofNat_of_zero_le hA'.1
      obtain ⟨y, rfl⟩ := Int.eq_ofNat_of_zero_le hB'.1
      have hx : x < pw l := by omega
      have hy : y < pw r := by omega
      have hx2 : x < 1024 := Nat.lt_of_lt_of_le hx hpl
      have hy2 : y < 1024 := Nat.lt_of_lt_of_le hy hpr
      have HYES : Hid ((∀ i, i < l → x.testBit i = true ∨ Sub (t i) y) → CovOK t l r (x : Int) (y : Int)) := fun h => ⟨x, y, rfl, rfl, hx, hy, h⟩
      have HNO : Hid (∀ i, i < l → x.testBit i = false → ¬ Sub (t i) y → ¬ CovOK t l r (x : Int) (y : Int)) := fun i hi h1 h2 h => by
        obtain ⟨x', y', e1, e2, _, _, h3⟩ := h
        have e1' : x' = x := by omega
        have e2' : y' = y := by omega
        rw [e1', e2'] at h3
        rcases h3 i hi with h4 | h4
        · rw [h1] at h4; cases h4
        · exact h2 h4
      have HCS : Hid (∀ w, Calls Try.prog 31 #[.int .i64 (x : Int), .int .i64 l] w fun e w' => e = .returned (.bool true) ∧ w = w') := fun w => by rw [← hA]; exact isSet2_any _ _ _ hl
      have HCT : Hid (∀ w, Calls Try.prog 31 #[.int .i64 (y : Int), .int .i64 r] w fun e w' => e = .returned (.bool true) ∧ w = w') := fun w => by rw [← hB]; exact isSet2_any _ _ _ hr10
      clear hA hB hA' hB' hx hy
      go_enter Try.func16, Try.ntmps16
      go_wp2_with fail
      refine (HCS.out _).mono ?_
      rintro e w' ⟨rfl, rfl⟩
      go_wp2_with fail
      refine (HCT.out _).mono ?_
      rintro e w' ⟨rfl, rfl⟩
      go_wp2_with fail
      have c0 := K0.c0
      have c2 := K0.c2
      have HRW : Hid (Row (w.alloc (.cells #[.int .i64 (l : Int), .int .i64 (r : Int), .slice a l cap] 24)) a l (fun k => (t k : Nat))) := K0.row
      clear K0
      go_loop [7] (fun i => ∃ k : Nat, k ≤ l ∧ i = .int .i64 k ∧ Hid (∀ i, i < k → x.testBit i = true ∨ Sub (t i) y)) (fun i => l - (intOf i).toNat)
      case atStart => exact ⟨0, Nat.zero_le _, rfl, upto_zero⟩
      case round =>
        obtain ⟨k, hk, rfl, hok⟩ := hrel
        by_cases hkl : k < l
        · have hlk : (k : Int) < (l : Int) := by omega
          have hk63 : k < 63 := by omega
          rcases (Bool.eq_false_or_eq_true (x.testBit k)) with hb | hb
          · have HO1 : Hid (∀ i, i < k + 1 → x.testBit i = true ∨ Sub (t i) y) := upto_succ hok.out (.inl hb)
            go_wp2_with (go_at_call 27; refine (in_as _ _ _ _ hb (Nat.lt_trans hx2 (by decide)) hk63).mono ?_; rintro e w' ⟨rfl, rfl⟩)
            go_round
            case rel => exact ⟨k + 1, by omega, by go_num, HO1.out⟩
            case measure => simp [intOf]; omega
          · obtain ⟨b, off, rfl, hcc⟩ := HRW.out.at hkl
            have hck := hcc k hkl
            have htk := HT.out k hkl
            clear hcc
            by_cases hsb : Sub (t k) y
            · have HO1 : Hid (∀ i, i < k + 1 → x.testBit i = true ∨ Sub (t i) y) := upto_succ hok.out (.inr hsb)
              have HIN : Hid (∀ w, Calls Try.prog 32 #[.int .i64 (t k : Nat), .int .i64 (y : Nat)] w fun e w' => e = .returned (.bool true) ∧ w = w') := fun w => inside_any _ _ _ w htk hy2 (by simp [hsb])
              clear hsb
              go_wp2_with (first
                | (go_at_call 27; refine (in_as _ _ _ _ hb (Nat.lt_trans hx2 (by decide)) hk63).mono ?_; rintro e w' ⟨rfl, rfl⟩)
                | (go_at_call 32; refine (HIN.out _).mono ?_; rintro e w' ⟨rfl, rfl⟩))
              go_round
              case rel => exact ⟨k + 1, by omega, by go_num, HO1.out⟩
              case measure => simp [intOf]; omega
            · have HO1 : Hid (¬ CovOK t l r (x : Int) (y : Int)) := HNO.out k hkl hb hsb
              have HIN : Hid (∀ w, Calls Try.prog 32 #[.int .i64 (t k : Nat), .int .i64 (y : Nat)] w fun e w' => e = .returned (.bool false) ∧ w = w') := fun w => inside_any _ _ _ w htk hy2 (by simp [hsb])
              clear hsb
              go_wp2_with (first
                | (go_at_call 27; refine (in_as _ _ _ _ hb (Nat.lt_trans hx2 (by decide)) hk63).mono ?_; rintro e w' ⟨rfl, rfl⟩)
                | (go_at_call 32; refine (HIN.out _).mono ?_; rintro e w' ⟨rfl, rfl⟩))
              go_ret
              exact ⟨Ans.no HO1.out, HB0.out⟩
        · have HO1 : Hid (CovOK t l r (x : Int) (y : Int)) := HYES.out (fun i hi => hok.out i (by omega))
          have hge : (l : Int) ≤ (k : Int) := by omega
          go_wp2_with fail
          go_ret
          exact ⟨Ans.yes HO1.out, HB0.out⟩
end Go.Proofs.Ytahnkmdhhdgfhaa
