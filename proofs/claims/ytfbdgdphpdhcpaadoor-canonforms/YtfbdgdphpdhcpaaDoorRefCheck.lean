/-
  What the reference's Less and CheckOrder answer: CheckOrder the same as Check, whatever it is handed. No condition but that a slice reads as a slice of numbers.
-/
import Derived.Test.YtfbdgdphpdhcpaaDoorCheck
import Derived.Deep.QuietTactic
import Derived.BigQuiet
namespace Go.Proofs.YtfbdgdphpdhcpaaDoor
open Go.RowKit

theorem less_any (n : Int) (a : Option Addr) (len cap : Nat) (g : Nat → Nat) (i j : Nat) (w : World) (_hl : len ≤ 10) (hg : ∀ k, k < len → g k < 1024) (hr : Row w a len (fun k => (g k : Nat))) (hi : i < 63) (hj : j < len) :
    Calls Tryd.prog 38 #[.agg #[.int .i64 n, .slice a len cap], .int .i64 i, .int .i64 j] w fun e w' => e = .returned (.bool ((g j).testBit i)) ∧ Below w.heap.size w w' := by
  obtain ⟨b, off, rfl, hc⟩ := hr.at hj
  have hck := hc j hj
  have hbk : b < w.heap.size := World.block_lt_of_cell? _ _ hck
  have hgj := hg j hj
  clear hc hr hg
  go_enter Tryd.func38, Tryd.ntmps38
  go_wp2_with (go_at_call 54; refine (in_any _ _ _ (by omega) (by omega)).mono ?_; rintro e w' ⟨rfl, rfl⟩)
  go_ret
  exact ⟨rfl, (Below.refl _ _).alloc (Nat.le_refl _) _⟩

theorem bit_quiet (n : Nat) (w : World) (hn : n < 62) :
    Calls Tryd.prog 37 #[.int .i64 n] w fun e w' => e = .returned (.int .i64 (pw n : Nat)) ∧ w' = w :=
  (bit_any n w hn).mono fun _ _ ⟨h, h'⟩ => ⟨h, h'.symm⟩

/-- The reference's law: who is below somebody below i is below i; and i is not below i. -/
def RefAt (n : Nat) (g : Nat → Nat) (i : Nat) : Prop :=
  (∀ j, j < n → ∀ k, k < n → ¬ ((g k).testBit j = true ∧ (g i).testBit k = true ∧ (g i).testBit j = false)) ∧ (g i).testBit i = false
theorem refAt_iff (n : Nat) (g : Nat → Nat) (i : Nat) (hn : n ≤ 10) (hg : ∀ k, k < n → g k < pw n) (hi : i < n) : RefAt n g i ↔ OrdAt n g i := by
  have hp := pw_le n hn
  have hb : ∀ k, k < n → g k < 18446744073709551616 := fun k hk => by have := hg k hk; omega
  constructor
  · rintro ⟨h1, h2⟩
    refine ⟨h2, fun p hp hb1 => (lack_zero _ _ (hb p hp) (hb i hi)).2 fun j hj => ?_⟩
    have hjn : j < n := bit_of_lt (hg p hp) hj
    cases h : (g i).testBit j
    · exact absurd ⟨hj, hb1, h⟩ (h1 j hjn p hp)
    · rfl
  · rintro ⟨h1, h2⟩
    refine ⟨fun j hj k hk ⟨c1, c2, c3⟩ => ?_, h1⟩
    have := (lack_zero _ _ (hb k hk) (hb i hi)).1 (h2 k hk c2) j c1
    rw [c3] at this
    cases this

/-- An order lies in block b0, its sets are the row f. -/
def Held (w : World) (b0 : Nat) (n : Int) (a : Option Addr) (len cap : Nat) (f : Nat → Int) : Prop :=
  w.cell? ⟨b0, 0, none⟩ = some (.int .i64 n) ∧ w.cell? ⟨b0, 1, none⟩ = some (.slice a len cap) ∧ Row w a len f
theorem Held.c0 {w : World} {b0 : Nat} {n : Int} {a : Option Addr} {len cap : Nat} {f : Nat → Int} (h : Held w b0 n a len cap f) : w.cell? ⟨b0, 0, none⟩ = some (.int .i64 n) := h.1
theorem Held.c1 {w : World} {b0 : Nat} {n : Int} {a : Option Addr} {len cap : Nat} {f : Nat → Int} (h : Held w b0 n a len cap f) : w.cell? ⟨b0, 1, none⟩ = some (.slice a len cap) := h.2.1
theorem Held.row {w : World} {b0 : Nat} {n : Int} {a : Option Addr} {len cap : Nat} {f : Nat → Int} (h : Held w b0 n a len cap f) : Row w a len f := h.2.2
theorem Held.step {w w' : World} {b0 : Nat} {n : Int} {a : Option Addr} {len cap : Nat} {f : Nat → Int} (h : Held w b0 n a len cap f) (hb : Below w.heap.size w w') : Held w' b0 n a len cap f :=
  ⟨(hb.cell (World.block_lt_of_cell? _ _ h.1)).trans h.1, (hb.cell (World.block_lt_of_cell? _ _ h.2.1)).trans h.2.1, h.2.2.below hb⟩
theorem Held.box {w : World} {n : Int} {a : Option Addr} {len cap : Nat} {f : Nat → Int} (h : Row w a len f) : Held (w.alloc (.cells #[.int .i64 n, .slice a len cap] 24)) w.heap.size n a len cap f :=
  ⟨by simp, by simp, h.below ((Below.refl _ _).alloc (Nat.le_refl _) _)⟩
theorem below_drewN {B : Nat} {a w : World} (h : Below B a w) (n : Nat) : Below B a (w.drewN n) := h.trans ⟨rfl, rfl, rfl, Nat.le_refl _, fun _ _ => rfl⟩
theorem Below.then {w w1 w2 : World} (h : Below w.heap.size w w1) (k : Below w1.heap.size w1 w2) : Below w.heap.size w w2 := h.trans (k.mono h.size)

set_option maxHeartbeats 1000000 in
theorem checkOrder_any (n : Int) (a : Option Addr) (len cap : Nat) (f : Nat → Int) (w : World) (hl : len ≤ maxLen) (hr : Row w a len f) :
    Calls Tryd.prog 23 #[.agg #[.int .i64 n, .slice a len cap]] w fun e w' => (∃ c : Int, e = .returned (.int .i64 c) ∧ Chk n len f c) ∧ Below w.heap.size w w' := by
  unfold maxLen at hl
  have HR := (show Hid (Row w a len f) from hr)
  clear hr
  have hB : ∀ o, Below w.heap.size w (w.alloc o) := fun o => (Below.refl _ _).alloc (Nat.le_refl _) o
  have HB := (show Hid _ from hB)
  clear hB
  by_cases h0 : n < 0
  · have hd : decide (n < 0) = true := by simpa using h0
    go_enter Tryd.func23, Tryd.ntmps23
    go_wp2
    go_ret
    exact ⟨⟨_, rfl, .inl ⟨rfl, by omega⟩⟩, HB.out _⟩
  by_cases h1 : 10 < n
  · have hd : decide (n < 0) = false := by simpa using h0
    go_enter Tryd.func23, Tryd.ntmps23
    go_wp2
    go_ret
    exact ⟨⟨_, rfl, .inl ⟨rfl, by omega⟩⟩, HB.out _⟩
  obtain ⟨m, rfl⟩ := Int.eq_ofNat_of_zero_le (show 0 ≤ n by omega)
  have hm : m ≤ 10 := by omega
  clear h0 h1
  by_cases hlen : len = m
  · subst hlen
    go_enter Tryd.func23, Tryd.ntmps23
    go_wp2
    have H0 : Held (w.alloc (.cells #[.int .i64 (len : Int), .slice a len cap] 24)) w.heap.size len a len cap f := Held.box HR.out
    go_loopw [3] (fun i wr => ∃ k : Nat, k ≤ len ∧ i = .int .i64 k ∧ Hid (∀ j, j < k → 0 ≤ f j ∧ f j < (pw len : Nat)) ∧ Held wr w.heap.size len a len cap f ∧ Hid (Below w.heap.size w wr)) (fun i _ => len - (intOf i).toNat)
    case atStart => exact ⟨0, Nat.zero_le _, rfl, upto_zero, H0, HB.out _⟩
    case round =>
      obtain ⟨k, hk, rfl, hok, hH, hBw⟩ := hrel
      clear H0
      have c0 := hH.c0
      have c1 := hH.c1
      by_cases hlt : k < len
      · obtain ⟨b, off, rfl, hc⟩ := hH.row.at hlt
        have hck := hc k hlt
        clear hc
        have hlt' : (k : Int) < (len : Int) := by omega
        by_cases hs : f k < 0
        · have hsd : decide (f k < 0) = true := by simpa using hs
          go_wp2
          go_quiet (fail)
          go_wp2
          go_ret
          exact ⟨⟨_, rfl, .inr ⟨len, rfl, hm, .inr ⟨rfl, .inl ⟨rfl, fun h => by have := (h k hlt).1; omega⟩⟩⟩⟩, below_drewN hBw.out _⟩
        · have hsd : decide (f k < 0) = false := by simpa using hs
          by_cases hs2 : (pw len : Nat) ≤ f k
          · have hsd2 : decide (((pw len : Nat) : Int) ≤ f k) = true := by simpa using hs2
            go_wp2
            go_quiet ((go_at_call 37; exact Calls.quiet_of_same (bit_quiet _ _ (by omega))))
            go_wp2
            go_ret
            exact ⟨⟨_, rfl, .inr ⟨len, rfl, hm, .inr ⟨rfl, .inl ⟨rfl, fun h => by have := (h k hlt).2; omega⟩⟩⟩⟩, below_drewN hBw.out _⟩
          · have hsd2 : decide (((pw len : Nat) : Int) ≤ f k) = false := by simpa using hs2
            go_wp2
            go_quiet ((go_at_call 37; exact Calls.quiet_of_same (bit_quiet _ _ (by omega))))
            go_wp2
            go_roundw
            case rel => exact ⟨k + 1, by omega, by go_num, upto_succ hok.out ⟨by omega, by omega⟩, hH.step (below_drewN (Below.refl _ _) _), below_drewN hBw.out _⟩
            case measure => simp [intOf]; omega
      · have hkn : k = len := by omega
        subst hkn
        have HG : Hid (∀ j, j < k → f j = (nat f j : Nat)) := fun j hj => by have := hok.out j hj; unfold nat; omega
        have HG3 : Hid (∀ j, j < k → nat f j < pw k) := fun j hj => by have := hok.out j hj; unfold nat; omega
        have HG2 : Hid (∀ j, j < k → nat f j < 1024) := fun j hj => by have := HG3.out j hj; have := pw_le k hm; omega
        have HROW : Hid (∀ wx : World, Row wx a k f → Row wx a k (fun j => (nat f j : Nat))) := fun wx h j hj => by
          have := h j hj
          rw [HG.out j hj] at this; exact this
        have HEND : Hid (∀ i, i < k → ¬ RefAt k (nat f) i → Chk k k f 4) := fun i hi h => .inr ⟨k, rfl, hm, .inr ⟨rfl, .inr ⟨hok.out, .inl ⟨rfl, fun ho => h ((refAt_iff k (nat f) i hm HG3.out hi).2 (ho i hi))⟩⟩⟩⟩
        have HFIN : Hid ((∀ i, i < k → RefAt k (nat f) i) → Chk k k f 0) := fun h => .inr ⟨k, rfl, hm, .inr ⟨rfl, .inr ⟨hok.out, .inr ⟨rfl, fun i hi => (refAt_iff k (nat f) i hm HG3.out hi).1 (h i hi)⟩⟩⟩⟩
        clear HG HG3 hok HB HR
        go_wp2
        have HH0 := (show Hid _ from hH)
        have HB0 := (show Hid _ from hBw)
        clear hH hBw c0 c1
        go_loopw [4] (fun i wy => ∃ x : Nat, x ≤ k ∧ i = .int .i64 x ∧ Hid (∀ j, j < x → RefAt k (nat f) j) ∧ Held wy w.heap.size k a k cap f ∧ Hid (Below w.heap.size w wy)) (fun i _ => k - (intOf i).toNat)
        case atStart => exact ⟨0, Nat.zero_le _, rfl, upto_zero, HH0.out, HB0.out⟩
        case round =>
          obtain ⟨x, hx, rfl, hxs, hH, hBw⟩ := hrel
          clear HH0 HB0
          have c0 := hH.c0
          have c1 := hH.c1
          by_cases hxl : x < k
          · have hxl' : (x : Int) < (k : Int) := by omega
            go_wp2
            have HH1 := (show Hid _ from hH)
            have HB1 := (show Hid _ from hBw)
            clear hH hBw c0 c1
            go_loopw [5] (fun i wy => ∃ y : Nat, y ≤ k ∧ i = .int .i64 y ∧ Hid (∀ j, j < y → ∀ l, l < k → ¬ ((nat f l).testBit j = true ∧ (nat f x).testBit l = true ∧ (nat f x).testBit j = false)) ∧ Held wy w.heap.size k a k cap f ∧ Hid (Below w.heap.size w wy)) (fun i _ => k - (intOf i).toNat)
            case atStart => exact ⟨0, Nat.zero_le _, rfl, upto_zero, HH1.out, HB1.out⟩
            case round =>
              obtain ⟨y, hy, rfl, hys, hH, hBw⟩ := hrel
              clear HH1 HB1
              have c0 := hH.c0
              have c1 := hH.c1
              by_cases hyl : y < k
              · have hyl' : (y : Int) < (k : Int) := by omega
                go_wp2
                have HH2 := (show Hid _ from hH)
                have HB2 := (show Hid _ from hBw)
                clear hH hBw c0 c1
                go_loopw [6] (fun i wy => ∃ z : Nat, z ≤ k ∧ i = .int .i64 z ∧ Hid (∀ l, l < z → ¬ ((nat f l).testBit y = true ∧ (nat f x).testBit l = true ∧ (nat f x).testBit y = false)) ∧ Held wy w.heap.size k a k cap f ∧ Hid (Below w.heap.size w wy)) (fun i _ => k - (intOf i).toNat)
                case atStart => exact ⟨0, Nat.zero_le _, rfl, upto_zero, HH2.out, HB2.out⟩
                case round =>
                  obtain ⟨z, hz, rfl, hzs, hH, hBw⟩ := hrel
                  clear HH2 HB2
                  have c0 := hH.c0
                  have c1 := hH.c1
                  by_cases hzl : z < k
                  · have hzl' : (z : Int) < (k : Int) := by omega
                    cases b1 : (nat f z).testBit y
                    · go_wp2_with fail
                      refine (less_any k a k cap (nat f) y z _ hm HG2.out (HROW.out _ hH.row) (by omega) hzl).mono ?_
                      rintro e w1 ⟨rfl, hb1⟩
                      have Hb1 := (show Hid _ from hb1); clear hb1
                      go_wp2_with fail
                      go_roundw
                      case rel => exact ⟨z + 1, by omega, by go_num, upto_succ hzs.out (by rw [b1]; simp), hH.step Hb1.out, Below.then hBw.out Hb1.out⟩
                      case measure => simp [intOf]; omega
                    · cases b2 : (nat f x).testBit z
                      · go_wp2_with fail
                        refine (less_any k a k cap (nat f) y z _ hm HG2.out (HROW.out _ hH.row) (by omega) hzl).mono ?_
                        rintro e w1 ⟨rfl, hb1⟩
                        have H1 := hH.step hb1
                        have d0 := H1.c0
                        have d1 := H1.c1
                        have Hb1 := (show Hid _ from hb1); clear hb1
                        go_wp2_with fail
                        refine (less_any k a k cap (nat f) z x _ hm HG2.out (HROW.out _ H1.row) (by omega) hxl).mono ?_
                        rintro e w2 ⟨rfl, hb2⟩
                        have Hb2 := (show Hid _ from hb2); clear hb2
                        go_wp2_with fail
                        go_roundw
                        case rel => exact ⟨z + 1, by omega, by go_num, upto_succ hzs.out (by rw [b2]; simp), H1.step Hb2.out, Below.then (Below.then hBw.out Hb1.out) Hb2.out⟩
                        case measure => simp [intOf]; omega
                      · rcases (Bool.eq_false_or_eq_true ((nat f x).testBit y)).symm with b3 | b3
                        · go_wp2_with fail
                          refine (less_any k a k cap (nat f) y z _ hm HG2.out (HROW.out _ hH.row) (by omega) hzl).mono ?_
                          rintro e w1 ⟨rfl, hb1⟩
                          have H1 := hH.step hb1
                          have d0 := H1.c0
                          have d1 := H1.c1
                          have Hb1 := (show Hid _ from hb1); clear hb1
                          go_wp2_with fail
                          refine (less_any k a k cap (nat f) z x _ hm HG2.out (HROW.out _ H1.row) (by omega) hxl).mono ?_
                          rintro e w2 ⟨rfl, hb2⟩
                          have H2 := H1.step hb2
                          have e0 := H2.c0
                          have e1 := H2.c1
                          have Hb2 := (show Hid _ from hb2); clear hb2
                          go_wp2_with fail
                          refine (less_any k a k cap (nat f) y x _ hm HG2.out (HROW.out _ H2.row) (by omega) hxl).mono ?_
                          rintro e w3 ⟨rfl, hb3⟩
                          have Hb3 := (show Hid _ from hb3); clear hb3
                          go_wp2_with fail
                          go_ret
                          exact ⟨⟨_, rfl, HEND.out x hxl fun h => h.1 y hyl z hzl ⟨b1, b2, b3⟩⟩, Below.then (Below.then (Below.then hBw.out Hb1.out) Hb2.out) Hb3.out⟩
                        · go_wp2_with fail
                          refine (less_any k a k cap (nat f) y z _ hm HG2.out (HROW.out _ hH.row) (by omega) hzl).mono ?_
                          rintro e w1 ⟨rfl, hb1⟩
                          have H1 := hH.step hb1
                          have d0 := H1.c0
                          have d1 := H1.c1
                          have Hb1 := (show Hid _ from hb1); clear hb1
                          go_wp2_with fail
                          refine (less_any k a k cap (nat f) z x _ hm HG2.out (HROW.out _ H1.row) (by omega) hxl).mono ?_
                          rintro e w2 ⟨rfl, hb2⟩
                          have H2 := H1.step hb2
                          have e0 := H2.c0
                          have e1 := H2.c1
                          have Hb2 := (show Hid _ from hb2); clear hb2
                          go_wp2_with fail
                          refine (less_any k a k cap (nat f) y x _ hm HG2.out (HROW.out _ H2.row) (by omega) hxl).mono ?_
                          rintro e w3 ⟨rfl, hb3⟩
                          have Hb3 := (show Hid _ from hb3); clear hb3
                          go_wp2_with fail
                          go_roundw
                          case rel => exact ⟨z + 1, by omega, by go_num, upto_succ hzs.out (by rw [b3]; simp), H2.step Hb3.out, Below.then (Below.then (Below.then hBw.out Hb1.out) Hb2.out) Hb3.out⟩
                          case measure => simp [intOf]; omega
                  · have hzn : z = k := by omega
                    subst hzn
                    go_wp2
                    go_roundw
                    case rel => exact ⟨y + 1, by omega, by go_num, upto_succ hys.out hzs.out, hH, hBw⟩
                    case measure => simp [intOf]; omega
              · have hyn : y = k := by omega
                subst hyn
                cases b1 : (nat f x).testBit x
                · go_wp2_with fail
                  refine (less_any y a y cap (nat f) x x _ hm HG2.out (HROW.out _ hH.row) (by omega) hxl).mono ?_
                  rintro e w1 ⟨rfl, hb1⟩
                  have Hb1 := (show Hid _ from hb1); clear hb1
                  go_wp2_with fail
                  go_roundw
                  case rel => exact ⟨x + 1, by omega, by go_num, upto_succ hxs.out ⟨hys.out, b1⟩, hH.step Hb1.out, Below.then hBw.out Hb1.out⟩
                  case measure => simp [intOf]; omega
                · go_wp2_with fail
                  refine (less_any y a y cap (nat f) x x _ hm HG2.out (HROW.out _ hH.row) (by omega) hxl).mono ?_
                  rintro e w1 ⟨rfl, hb1⟩
                  have Hb1 := (show Hid _ from hb1); clear hb1
                  go_wp2_with fail
                  go_ret
                  exact ⟨⟨_, rfl, HEND.out x hxl fun h => by have := h.2; rw [b1] at this; cases this⟩, Below.then hBw.out Hb1.out⟩
          · have hxn : x = k := by omega
            subst hxn
            go_wp2
            go_ret
            exact ⟨⟨_, rfl, HFIN.out hxs.out⟩, hBw.out⟩
  · have hne : ((len : Int) != (m : Int)) = true := by simp; omega
    go_enter Tryd.func23, Tryd.ntmps23
    go_wp2
    go_ret
    exact ⟨⟨_, rfl, .inr ⟨m, rfl, hm, .inl ⟨rfl, hlen⟩⟩⟩, HB.out _⟩
end Go.Proofs.YtfbdgdphpdhcpaaDoor
