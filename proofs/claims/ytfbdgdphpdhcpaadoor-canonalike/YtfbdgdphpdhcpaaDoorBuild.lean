/-
  What the reference's Less and CheckOrder answer: CheckOrder the same as Check, whatever it is handed. No condition but that a slice reads as a slice of numbers.
  What order.reach does to a slice of the call's own: Warshall's rounds. Conditions: at most ten sets of so many points.
  What order.Make answers, whatever it is handed: the sets that Warshall's rounds come to. No condition but that a slice reads as a slice of pairs.
  Sets by a test on their points; what order.turn and order.bare answer. Conditions: at most ten sets of so many points.
  How the reference's OrderOf builds a slice in a struct of its own: what holds of it from round to round. No condition.
-/
import Derived.Test.YtfbdgdphpdhcpaaDoorCheck
import Derived.Deep.QuietTactic
import Derived.BigQuiet
namespace Go.Proofs.YtfbdgdphpdhcpaaDoor
open Go.RowKit

theorem less_any (n : Int) (a : Option Addr) (len cap : Nat) (g : Nat → Nat) (i j : Nat) (w : World) (_hl : len ≤ 10) (hg : ∀ k, k < len → g k < 1024) (hr : Row w a len (fun k => (g k : Nat))) (hi : i < 63) (hj : j < len) :
    Calls Tryd.prog 38 #[.agg #[.int .i64 n, .slice a len cap], .int .i64 i, .int .i64 j] w fun e w' => e = .returned (.bool ((g j).testBit i)) ∧ Below w.heap.size w w' := by
  obtain ⟨b, off, rfl, hc⟩ := hr.at hj
  have hck := hc j hj
  have hbk : b < w.heap.size := World.block_lt_of_cell? _ _ hck
  have hgj := hg j hj
  clear hc hr hg
  go_enter Tryd.func38, Tryd.ntmps38
  go_wp2_with (go_at_call 54; refine (in_any _ _ _ (by omega) (by omega)).mono ?_; rintro e w' ⟨rfl, rfl⟩)
  go_ret
  exact ⟨rfl, (Below.refl _ _).alloc (Nat.le_refl _) _⟩

theorem bit_quiet (n : Nat) (w : World) (hn : n < 62) :
    Calls Tryd.prog 37 #[.int .i64 n] w fun e w' => e = .returned (.int .i64 (pw n : Nat)) ∧ w' = w :=
  (bit_any n w hn).mono fun _ _ ⟨h, h'⟩ => ⟨h, h'.symm⟩

/-- The reference's law: who is below somebody below i is below i; and i is not below i. -/
def RefAt (n : Nat) (g : Nat → Nat) (i : Nat) : Prop :=
  (∀ j, j < n → ∀ k, k < n → ¬ ((g k).testBit j = true ∧ (g i).testBit k = true ∧ (g i).testBit j = false)) ∧ (g i).testBit i = false
theorem refAt_iff (n : Nat) (g : Nat → Nat) (i : Nat) (hn : n ≤ 10) (hg : ∀ k, k < n → g k < pw n) (hi : i < n) : RefAt n g i ↔ OrdAt n g i := by
  have hp := pw_le n hn
  have hb : ∀ k, k < n → g k < 18446744073709551616 := fun k hk => by have := hg k hk; omega
  constructor
  · rintro ⟨h1, h2⟩
    refine ⟨h2, fun p hp hb1 => (lack_zero _ _ (hb p hp) (hb i hi)).2 fun j hj => ?_⟩
    have hjn : j < n := bit_of_lt (hg p hp) hj
    cases h : (g i).testBit j
    · exact absurd ⟨hj, hb1, h⟩ (h1 j hjn p hp)
    · rfl
  · rintro ⟨h1, h2⟩
    refine ⟨fun j hj k hk ⟨c1, c2, c3⟩ => ?_, h1⟩
    have := (lack_zero _ _ (hb k hk) (hb i hi)).1 (h2 k hk c2) j c1
    rw [c3] at this
    cases this

/-- An order lies in block b0, its sets are the row f. -/
def Held (w : World) (b0 : Nat) (n : Int) (a : Option Addr) (len cap : Nat) (f : Nat → Int) : Prop :=
  w.cell? ⟨b0, 0, none⟩ = some (.int .i64 n) ∧ w.cell? ⟨b0, 1, none⟩ = some (.slice a len cap) ∧ Row w a len f
theorem Held.c0 {w : World} {b0 : Nat} {n : Int} {a : Option Addr} {len cap : Nat} {f : Nat → Int} (h : Held w b0 n a len cap f) : w.cell? ⟨b0, 0, none⟩ = some (.int .i64 n) := h.1
theorem Held.c1 {w : World} {b0 : Nat} {n : Int} {a : Option Addr} {len cap : Nat} {f : Nat → Int} (h : Held w b0 n a len cap f) : w.cell? ⟨b0, 1, none⟩ = some (.slice a len cap) := h.2.1
theorem Held.row {w : World} {b0 : Nat} {n : Int} {a : Option Addr} {len cap : Nat} {f : Nat → Int} (h : Held w b0 n a len cap f) : Row w a len f := h.2.2
theorem Held.step {w w' : World} {b0 : Nat} {n : Int} {a : Option Addr} {len cap : Nat} {f : Nat → Int} (h : Held w b0 n a len cap f) (hb : Below w.heap.size w w') : Held w' b0 n a len cap f :=
  ⟨(hb.cell (World.block_lt_of_cell? _ _ h.1)).trans h.1, (hb.cell (World.block_lt_of_cell? _ _ h.2.1)).trans h.2.1, h.2.2.below hb⟩
theorem Held.box {w : World} {n : Int} {a : Option Addr} {len cap : Nat} {f : Nat → Int} (h : Row w a len f) : Held (w.alloc (.cells #[.int .i64 n, .slice a len cap] 24)) w.heap.size n a len cap f :=
  ⟨by simp, by simp, h.below ((Below.refl _ _).alloc (Nat.le_refl _) _)⟩
theorem below_drewN {B : Nat} {a w : World} (h : Below B a w) (n : Nat) : Below B a (w.drewN n) := h.trans ⟨rfl, rfl, rfl, Nat.le_refl _, fun _ _ => rfl⟩
theorem Below.then {w w1 w2 : World} (h : Below w.heap.size w w1) (k : Below w1.heap.size w1 w2) : Below w.heap.size w w2 := h.trans (k.mono h.size)

set_option maxHeartbeats 1000000 in
theorem checkOrder_any (n : Int) (a : Option Addr) (len cap : Nat) (f : Nat → Int) (w : World) (hl : len ≤ maxLen) (hr : Row w a len f) :
    Calls Tryd.prog 23 #[.agg #[.int .i64 n, .slice a len cap]] w fun e w' => (∃ c : Int, e = .returned (.int .i64 c) ∧ Chk n len f c) ∧ Below w.heap.size w w' := by
  unfold maxLen at hl
  have HR := (show Hid (Row w a len f) from hr)
  clear hr
  have hB : ∀ o, Below w.heap.size w (w.alloc o) := fun o => (Below.refl _ _).alloc (Nat.le_refl _) o
  have HB := (show Hid _ from hB)
  clear hB
  by_cases h0 : n < 0
  · have hd : decide (n < 0) = true := by simpa using h0
    go_enter Tryd.func23, Tryd.ntmps23
    go_wp2
    go_ret
    exact ⟨⟨_, rfl, .inl ⟨rfl, by omega⟩⟩, HB.out _⟩
  by_cases h1 : 10 < n
  · have hd : decide (n < 0) = false := by simpa using h0
    go_enter Tryd.func23, Tryd.ntmps23
    go_wp2
    go_ret
    exact ⟨⟨_, rfl, .inl ⟨rfl, by omega⟩⟩, HB.out _⟩
  obtain ⟨m, rfl⟩ := Int.eq_ofNat_of_zero_le (show 0 ≤ n by omega)
  have hm : m ≤ 10 := by omega
  clear h0 h1
  by_cases hlen : len = m
  · subst hlen
    go_enter Tryd.func23, Tryd.ntmps23
    go_wp2
    have H0 : Held (w.alloc (.cells #[.int .i64 (len : Int), .slice a len cap] 24)) w.heap.size len a len cap f := Held.box HR.out
    go_loopw [3] (fun i wr => ∃ k : Nat, k ≤ len ∧ i = .int .i64 k ∧ Hid (∀ j, j < k → 0 ≤ f j ∧ f j < (pw len : Nat)) ∧ Held wr w.heap.size len a len cap f ∧ Hid (Below w.heap.size w wr)) (fun i _ => len - (intOf i).toNat)
    case atStart => exact ⟨0, Nat.zero_le _, rfl, upto_zero, H0, HB.out _⟩
    case round =>
      obtain ⟨k, hk, rfl, hok, hH, hBw⟩ := hrel
      clear H0
      have c0 := hH.c0
      have c1 := hH.c1
      by_cases hlt : k < len
      · obtain ⟨b, off, rfl, hc⟩ := hH.row.at hlt
        have hck := hc k hlt
        clear hc
        have hlt' : (k : Int) < (len : Int) := by omega
        by_cases hs : f k < 0
        · have hsd : decide (f k < 0) = true := by simpa using hs
          go_wp2
          go_quiet (fail)
          go_wp2
          go_ret
          exact ⟨⟨_, rfl, .inr ⟨len, rfl, hm, .inr ⟨rfl, .inl ⟨rfl, fun h => by have := (h k hlt).1; omega⟩⟩⟩⟩, below_drewN hBw.out _⟩
        · have hsd : decide (f k < 0) = false := by simpa using hs
          by_cases hs2 : (pw len : Nat) ≤ f k
          · have hsd2 : decide (((pw len : Nat) : Int) ≤ f k) = true := by simpa using hs2
            go_wp2
            go_quiet ((go_at_call 37; exact Calls.quiet_of_same (bit_quiet _ _ (by omega))))
            go_wp2
            go_ret
            exact ⟨⟨_, rfl, .inr ⟨len, rfl, hm, .inr ⟨rfl, .inl ⟨rfl, fun h => by have := (h k hlt).2; omega⟩⟩⟩⟩, below_drewN hBw.out _⟩
          · have hsd2 : decide (((pw len : Nat) : Int) ≤ f k) = false := by simpa using hs2
            go_wp2
            go_quiet ((go_at_call 37; exact Calls.quiet_of_same (bit_quiet _ _ (by omega))))
            go_wp2
            go_roundw
            case rel => exact ⟨k + 1, by omega, by go_num, upto_succ hok.out ⟨by omega, by omega⟩, hH.step (below_drewN (Below.refl _ _) _), below_drewN hBw.out _⟩
            case measure => simp [intOf]; omega
      · have hkn : k = len := by omega
        subst hkn
        have HG : Hid (∀ j, j < k → f j = (nat f j : Nat)) := fun j hj => by have := hok.out j hj; unfold nat; omega
        have HG3 : Hid (∀ j, j < k → nat f j < pw k) := fun j hj => by have := hok.out j hj; unfold nat; omega
        have HG2 : Hid (∀ j, j < k → nat f j < 1024) := fun j hj => by have := HG3.out j hj; have := pw_le k hm; omega
        have HROW : Hid (∀ wx : World, Row wx a k f → Row wx a k (fun j => (nat f j : Nat))) := fun wx h j hj => by
          have := h j hj
          rw [HG.out j hj] at this; exact this
        have HEND : Hid (∀ i, i < k → ¬ RefAt k (nat f) i → Chk k k f 4) := fun i hi h => .inr ⟨k, rfl, hm, .inr ⟨rfl, .inr ⟨hok.out, .inl ⟨rfl, fun ho => h ((refAt_iff k (nat f) i hm HG3.out hi).2 (ho i hi))⟩⟩⟩⟩
        have HFIN : Hid ((∀ i, i < k → RefAt k (nat f) i) → Chk k k f 0) := fun h => .inr ⟨k, rfl, hm, .inr ⟨rfl, .inr ⟨hok.out, .inr ⟨rfl, fun i hi => (refAt_iff k (nat f) i hm HG3.out hi).1 (h i hi)⟩⟩⟩⟩
        clear HG HG3 hok HB HR
        go_wp2
        have HH0 := (show Hid _ from hH)
        have HB0 := (show Hid _ from hBw)
        clear hH hBw c0 c1
        go_loopw [4] (fun i wy => ∃ x : Nat, x ≤ k ∧ i = .int .i64 x ∧ Hid (∀ j, j < x → RefAt k (nat f) j) ∧ Held wy w.heap.size k a k cap f ∧ Hid (Below w.heap.size w wy)) (fun i _ => k - (intOf i).toNat)
        case atStart => exact ⟨0, Nat.zero_le _, rfl, upto_zero, HH0.out, HB0.out⟩
        case round =>
          obtain ⟨x, hx, rfl, hxs, hH, hBw⟩ := hrel
          clear HH0 HB0
          have c0 := hH.c0
          have c1 := hH.c1
          by_cases hxl : x < k
          · have hxl' : (x : Int) < (k : Int) := by omega
            go_wp2
            have HH1 := (show Hid _ from hH)
            have HB1 := (show Hid _ from hBw)
            clear hH hBw c0 c1
            go_loopw [5] (fun i wy => ∃ y : Nat, y ≤ k ∧ i = .int .i64 y ∧ Hid (∀ j, j < y → ∀ l, l < k → ¬ ((nat f l).testBit j = true ∧ (nat f x).testBit l = true ∧ (nat f x).testBit j = false)) ∧ Held wy w.heap.size k a k cap f ∧ Hid (Below w.heap.size w wy)) (fun i _ => k - (intOf i).toNat)
            case atStart => exact ⟨0, Nat.zero_le _, rfl, upto_zero, HH1.out, HB1.out⟩
            case round =>
              obtain ⟨y, hy, rfl, hys, hH, hBw⟩ := hrel
              clear HH1 HB1
              have c0 := hH.c0
              have c1 := hH.c1
              by_cases hyl : y < k
              · have hyl' : (y : Int) < (k : Int) := by omega
                go_wp2
                have HH2 := (show Hid _ from hH)
                have HB2 := (show Hid _ from hBw)
                clear hH hBw c0 c1
                go_loopw [6] (fun i wy => ∃ z : Nat, z ≤ k ∧ i = .int .i64 z ∧ Hid (∀ l, l < z → ¬ ((nat f l).testBit y = true ∧ (nat f x).testBit l = true ∧ (nat f x).testBit y = false)) ∧ Held wy w.heap.size k a k cap f ∧ Hid (Below w.heap.size w wy)) (fun i _ => k - (intOf i).toNat)
                case atStart => exact ⟨0, Nat.zero_le _, rfl, upto_zero, HH2.out, HB2.out⟩
                case round =>
                  obtain ⟨z, hz, rfl, hzs, hH, hBw⟩ := hrel
                  clear HH2 HB2
                  have c0 := hH.c0
                  have c1 := hH.c1
                  by_cases hzl : z < k
                  · have hzl' : (z : Int) < (k : Int) := by omega
                    cases b1 : (nat f z).testBit y
                    · go_wp2_with fail
                      refine (less_any k a k cap (nat f) y z _ hm HG2.out (HROW.out _ hH.row) (by omega) hzl).mono ?_
                      rintro e w1 ⟨rfl, hb1⟩
                      have Hb1 := (show Hid _ from hb1); clear hb1
                      go_wp2_with fail
                      go_roundw
                      case rel => exact ⟨z + 1, by omega, by go_num, upto_succ hzs.out (by rw [b1]; simp), hH.step Hb1.out, Below.then hBw.out Hb1.out⟩
                      case measure => simp [intOf]; omega
                    · cases b2 : (nat f x).testBit z
                      · go_wp2_with fail
                        refine (less_any k a k cap (nat f) y z _ hm HG2.out (HROW.out _ hH.row) (by omega) hzl).mono ?_
                        rintro e w1 ⟨rfl, hb1⟩
                        have H1 := hH.step hb1
                        have d0 := H1.c0
                        have d1 := H1.c1
                        have Hb1 := (show Hid _ from hb1); clear hb1
                        go_wp2_with fail
                        refine (less_any k a k cap (nat f) z x _ hm HG2.out (HROW.out _ H1.row) (by omega) hxl).mono ?_
                        rintro e w2 ⟨rfl, hb2⟩
                        have Hb2 := (show Hid _ from hb2); clear hb2
                        go_wp2_with fail
                        go_roundw
                        case rel => exact ⟨z + 1, by omega, by go_num, upto_succ hzs.out (by rw [b2]; simp), H1.step Hb2.out, Below.then (Below.then hBw.out Hb1.out) Hb2.out⟩
                        case measure => simp [intOf]; omega
                      · rcases (Bool.eq_false_or_eq_true ((nat f x).testBit y)).symm with b3 | b3
                        · go_wp2_with fail
                          refine (less_any k a k cap (nat f) y z _ hm HG2.out (HROW.out _ hH.row) (by omega) hzl).mono ?_
                          rintro e w1 ⟨rfl, hb1⟩
                          have H1 := hH.step hb1
                          have d0 := H1.c0
                          have d1 := H1.c1
                          have Hb1 := (show Hid _ from hb1); clear hb1
                          go_wp2_with fail
                          refine (less_any k a k cap (nat f) z x _ hm HG2.out (HROW.out _ H1.row) (by omega) hxl).mono ?_
                          rintro e w2 ⟨rfl, hb2⟩
                          have H2 := H1.step hb2
                          have e0 := H2.c0
                          have e1 := H2.c1
                          have Hb2 := (show Hid _ from hb2); clear hb2
                          go_wp2_with fail
                          refine (less_any k a k cap (nat f) y x _ hm HG2.out (HROW.out _ H2.row) (by omega) hxl).mono ?_
                          rintro e w3 ⟨rfl, hb3⟩
                          have Hb3 := (show Hid _ from hb3); clear hb3
                          go_wp2_with fail
                          go_ret
                          exact ⟨⟨_, rfl, HEND.out x hxl fun h => h.1 y hyl z hzl ⟨b1, b2, b3⟩⟩, Below.then (Below.then (Below.then hBw.out Hb1.out) Hb2.out) Hb3.out⟩
                        · go_wp2_with fail
                          refine (less_any k a k cap (nat f) y z _ hm HG2.out (HROW.out _ hH.row) (by omega) hzl).mono ?_
                          rintro e w1 ⟨rfl, hb1⟩
                          have H1 := hH.step hb1
                          have d0 := H1.c0
                          have d1 := H1.c1
                          have Hb1 := (show Hid _ from hb1); clear hb1
                          go_wp2_with fail
                          refine (less_any k a k cap (nat f) z x _ hm HG2.out (HROW.out _ H1.row) (by omega) hxl).mono ?_
                          rintro e w2 ⟨rfl, hb2⟩
                          have H2 := H1.step hb2
                          have e0 := H2.c0
                          have e1 := H2.c1
                          have Hb2 := (show Hid _ from hb2); clear hb2
                          go_wp2_with fail
                          refine (less_any k a k cap (nat f) y x _ hm HG2.out (HROW.out _ H2.row) (by omega) hxl).mono ?_
                          rintro e w3 ⟨rfl, hb3⟩
                          have Hb3 := (show Hid _ from hb3); clear hb3
                          go_wp2_with fail
                          go_roundw
                          case rel => exact ⟨z + 1, by omega, by go_num, upto_succ hzs.out (by rw [b3]; simp), H2.step Hb3.out, Below.then (Below.then (Below.then hBw.out Hb1.out) Hb2.out) Hb3.out⟩
                          case measure => simp [intOf]; omega
                  · have hzn : z = k := by omega
                    subst hzn
                    go_wp2
                    go_roundw
                    case rel => exact ⟨y + 1, by omega, by go_num, upto_succ hys.out hzs.out, hH, hBw⟩
                    case measure => simp [intOf]; omega
              · have hyn : y = k := by omega
                subst hyn
                cases b1 : (nat f x).testBit x
                · go_wp2_with fail
                  refine (less_any y a y cap (nat f) x x _ hm HG2.out (HROW.out _ hH.row) (by omega) hxl).mono ?_
                  rintro e w1 ⟨rfl, hb1⟩
                  have Hb1 := (show Hid _ from hb1); clear hb1
                  go_wp2_with fail
                  go_roundw
                  case rel => exact ⟨x + 1, by omega, by go_num, upto_succ hxs.out ⟨hys.out, b1⟩, hH.step Hb1.out, Below.then hBw.out Hb1.out⟩
                  case measure => simp [intOf]; omega
                · go_wp2_with fail
                  refine (less_any y a y cap (nat f) x x _ hm HG2.out (HROW.out _ hH.row) (by omega) hxl).mono ?_
                  rintro e w1 ⟨rfl, hb1⟩
                  have Hb1 := (show Hid _ from hb1); clear hb1
                  go_wp2_with fail
                  go_ret
                  exact ⟨⟨_, rfl, HEND.out x hxl fun h => by have := h.2; rw [b1] at this; cases this⟩, Below.then hBw.out Hb1.out⟩
          · have hxn : x = k := by omega
            subst hxn
            go_wp2
            go_ret
            exact ⟨⟨_, rfl, HFIN.out hxs.out⟩, hBw.out⟩
  · have hne : ((len : Int) != (m : Int)) = true := by simp; omega
    go_enter Tryd.func23, Tryd.ntmps23
    go_wp2
    go_ret
    exact ⟨⟨_, rfl, .inr ⟨m, rfl, hm, .inl ⟨rfl, hlen⟩⟩⟩, HB.out _⟩
end Go.Proofs.YtfbdgdphpdhcpaaDoor
namespace Go.Proofs.YtfbdgdphpdhcpaaDoor
open Go.RowKit

/-- A slice of the call's own at the head of block b: the numbers g. -/
def Own (w : World) (b n : Nat) (g : Nat → Nat) : Prop := ∀ k, k < n → w.cell? ⟨b, k, none⟩ = some (.int .i64 (g k : Nat)) ∧ w.frozen? ⟨b, k, none⟩ = false
def upd (g : Nat → Nat) (u v k : Nat) : Nat := if k = u then v else g k
theorem upd_same (g : Nat → Nat) (u v : Nat) : upd g u v u = v := by simp [upd]
theorem upd_other (g : Nat → Nat) (u v k : Nat) (h : k ≠ u) : upd g u v k = g k := by simp [upd, h]
theorem Own.row {w : World} {b n : Nat} {g : Nat → Nat} (h : Own w b n g) : Row w (some ⟨b, 0, none⟩) n (fun k => (g k : Nat)) :=
  fun k hk => ⟨b, 0, rfl, by rw [Nat.zero_add]; exact (h k hk).1⟩
theorem Own.set {w : World} {b n : Nat} {g : Nat → Nat} (h : Own w b n g) (u v : Nat) (hu : u < n) : Own (w.setCell ⟨b, u, none⟩ (.int .i64 (v : Nat))) b n (upd g u v) := by
  intro k hk
  refine ⟨?_, by rw [World.frozen?_setCell]; exact (h k hk).2⟩
  by_cases e : k = u
  · subst e; rw [upd_same]; exact World.cell?_setCell_same _ _ _ (h k hk).1
  · rw [upd_other _ _ _ _ e, World.cell?_setCell_other _ _ _ _ (fun e2 => e (by injection e2 with _ h2; exact h2.symm))]; exact (h k hk).1
theorem Own.lt {w : World} {b n : Nat} {g : Nat → Nat} (h : Own w b n g) {k : Nat} (hk : k < n) : b < w.heap.size := World.block_lt_of_cell? _ _ (h k hk).1
theorem Own.keep {w w' : World} {b n B : Nat} {g : Nat → Nat} (h : Own w b n g) (hB : Below B w w') (hb : b < B) : Own w' b n g :=
  fun k hk => ⟨(hB.cell (p := ⟨b, k, none⟩) hb).trans (h k hk).1, (hB.frozen (p := ⟨b, k, none⟩) hb).trans (h k hk).2⟩
theorem Own.alloc {w : World} {b n : Nat} {g : Nat → Nat} (h : Own w b n g) (o : Obj) : Own (w.alloc o) b n g :=
  fun k hk => (h.keep ((Below.refl w.heap.size w).alloc (Nat.le_refl _) o) (h.lt hk)) k hk
theorem Own.drewN {w : World} {b n : Nat} {g : Nat → Nat} (h : Own w b n g) (m : Nat) : Own (w.drewN m) b n g := h

/-- All sets are sets of m points. -/
def Sm (m n : Nat) (g : Nat → Nat) : Prop := ∀ k, k < n → g k < pw m
theorem Sm.upd_or {m n : Nat} {g : Nat → Nat} (h : Sm m n g) {u x y : Nat} (hx : x < pw m) (hy : y < pw m) : Sm m n (upd g u (x ||| y)) := by
  intro k hk
  unfold upd
  split
  · exact Nat.or_lt_two_pow hx hy
  · exact h k hk

def reachIn (g : Nat → Nat) (t low : Nat) : Nat → Nat → Nat
  | 0 => g
  | k + 1 => if (reachIn g t low k k).testBit t = true then upd (reachIn g t low k) k (reachIn g t low k k ||| low) else reachIn g t low k
def reachOut (g : Nat → Nat) (n : Nat) : Nat → Nat → Nat
  | 0 => g
  | t + 1 => reachIn (reachOut g n t) t (reachOut g n t t) n
theorem reachIn_yes {g : Nat → Nat} {t low k : Nat} (h : (reachIn g t low k k).testBit t = true) : reachIn g t low (k + 1) = upd (reachIn g t low k) k (reachIn g t low k k ||| low) := by
  funext j; simp [reachIn, h]
theorem reachIn_no {g : Nat → Nat} {t low k : Nat} (h : (reachIn g t low k k).testBit t = false) : reachIn g t low (k + 1) = reachIn g t low k := by
  funext j; simp [reachIn, h]
theorem reachIn_sm {m n : Nat} {g : Nat → Nat} (h : Sm m n g) {t low : Nat} (hl : low < pw m) : ∀ k, k ≤ n → Sm m n (reachIn g t low k)
  | 0, _ => h
  | k + 1, hk => by
    have ih := reachIn_sm h (t := t) hl k (by omega)
    cases hb : (reachIn g t low k k).testBit t
    · rw [reachIn_no hb]; exact ih
    · rw [reachIn_yes hb]; exact ih.upd_or (ih k (by omega)) hl
theorem reachOut_sm {m n : Nat} {g : Nat → Nat} (h : Sm m n g) : ∀ t, t ≤ n → Sm m n (reachOut g n t)
  | 0, _ => h
  | t + 1, ht => by
    have ih := reachOut_sm h t (by omega)
    exact reachIn_sm ih (ih t (by omega)) n (Nat.le_refl _)

end Go.Proofs.YtfbdgdphpdhcpaaDoor
namespace Go.Proofs.YtfbdgdphpdhcpaaDoor
open Go.RowKit

theorem Tryd.info3 : (Tryd.prog.info? 3).map (fun i => (i.zero, i.size, i.bytes)) = some (some (.int .i64 0), 1, 8) := by kernel_rfl

/-- A slice of len pairs. -/
def PRow (w : World) (a : Option Addr) (len : Nat) (p : Nat → Int × Int) : Prop :=
  ∀ k, k < len → ∃ b off, a = some ⟨b, off, none⟩ ∧ w.cell? ⟨b, off + k * 2, none⟩ = some (.int .i64 (p k).1) ∧ w.cell? ⟨b, off + k * 2 + 1, none⟩ = some (.int .i64 (p k).2)
theorem PRow.below {w w' : World} {a : Option Addr} {len : Nat} {p : Nat → Int × Int} (h : PRow w a len p) (hb : Below w.heap.size w w') : PRow w' a len p := by
  intro k hk
  obtain ⟨b, off, rfl, hc, hd⟩ := h k hk
  exact ⟨b, off, rfl, (hb.cell (World.block_lt_of_cell? _ _ hc)).trans hc, (hb.cell (World.block_lt_of_cell? _ _ hd)).trans hd⟩

theorem own_made {w : World} {base b m : Nat} (h : w.ownsRow base 3 1 (.slice (some ⟨b, 0, none⟩) m m) m (madeCells (Value.int .i64 0).cells (m * 1)).toList) : Own w b m (fun _ => 0) := by
  intro k hk
  refine ⟨?_, h.frozenAt k⟩
  rw [h.cellAt k (by omega)]
  have e : (Value.int .i64 0).cells = #[Value.int .i64 0] := rfl
  rw [e, toList_madeCells_one]
  simp [hk]

theorem or_pw {x m b : Nat} (hm : m ≤ 10) (hx : x < pw m) (hb : b < m) : bits .or .i64 (x : Int) ((pw b : Nat) : Int) = ((x ||| pw b : Nat) : Int) := by
  have h1 := pw_le m hm
  have h2 := pw_le b (by omega)
  generalize pw m = P at *
  generalize pw b = Q at *
  exact i64_or x Q (by omega) (by omega)
def mk (p : Nat → Int × Int) : Nat → Nat → Nat
  | 0 => fun _ => 0
  | k + 1 => upd (mk p k) (p k).2.toNat (mk p k (p k).2.toNat ||| pw (p k).1.toNat)
def PIn (n : Int) (p : Nat → Int × Int) (k : Nat) : Prop := (0 ≤ (p k).1 ∧ (p k).1 < n) ∧ (0 ≤ (p k).2 ∧ (p k).2 < n)
theorem mk_sm {n : Nat} {p : Nat → Int × Int} : ∀ k, (∀ j, j < k → PIn n p j) → Sm n n (mk p k)
  | 0, _ => fun _ _ => pw_pos n
  | k + 1, h => by
    have ih := mk_sm (n := n) k (fun j hj => h j (by omega))
    obtain ⟨⟨h1, h2⟩, h3, h4⟩ := h k (by omega)
    refine ih.upd_or (ih _ (by omega)) ?_
    exact Nat.pow_lt_pow_right (by decide) (by omega)
/-- What Make must answer. -/
def Mk (n : Int) (len : Nat) (p : Nat → Int × Int) (c : Int) : Prop :=
  (c = 2 ∧ ¬ (0 ≤ n ∧ n ≤ 10)) ∨
  ∃ m : Nat, n = m ∧ m ≤ 10 ∧ ((c = 3 ∧ ¬ ∀ k, k < len → PIn m p k) ∨
    ((∀ k, k < len → PIn m p k) ∧ ((c = 4 ∧ ¬ Ord m (reachOut (mk p len) m m)) ∨ (c = 0 ∧ Ord m (reachOut (mk p len) m m)))))
def noOrder : Value := .agg #[.int .i64 0, .slice none 0 0]
def Made (n : Int) (len : Nat) (p : Nat → Int × Int) (w : World) (e : Ending) (w' : World) : Prop :=
  (∃ c, c ≠ 0 ∧ Mk n len p c ∧ e = .returned (.tuple #[noOrder, .int .i64 c])) ∨
  ∃ (m b : Nat), Mk n len p 0 ∧ n = m ∧ m ≤ 10 ∧ w.heap.size ≤ b ∧ e = .returned (.tuple #[.agg #[.int .i64 n, .slice (some ⟨b, 0, none⟩) m m], .int .i64 0]) ∧ Own w' b m (reachOut (mk p len) m m)

theorem resbox {w X : World} (h : Below (w.heap.size + 1) (w.alloc (.cells #[.int .i64 0, .slice none 0 0] 24)) X) :
    X.cell? ⟨w.heap.size, 0, none⟩ = some (.int .i64 0) ∧ X.cell? ⟨w.heap.size, 1, none⟩ = some (.slice none 0 0) ∧ X.frozen? ⟨w.heap.size, 0, none⟩ = false ∧ X.frozen? ⟨w.heap.size, 1, none⟩ = false :=
  ⟨(h.cell (p := ⟨w.heap.size, 0, none⟩) (Nat.lt_succ_self _)).trans (by simp), (h.cell (p := ⟨w.heap.size, 1, none⟩) (Nat.lt_succ_self _)).trans (by simp),
   (h.frozen (p := ⟨w.heap.size, 0, none⟩) (Nat.lt_succ_self _)).trans (by simp [World.frozen?_alloc_at]), (h.frozen (p := ⟨w.heap.size, 1, none⟩) (Nat.lt_succ_self _)).trans (by simp [World.frozen?_alloc_at])⟩
theorem out_below {w X : World} {o : Obj} (h : Below (w.heap.size + 1) (w.alloc o) X) : Below w.heap.size w X :=
  ((Below.refl _ _).alloc (Nat.le_refl _) o).trans (h.mono (Nat.le_succ _))

theorem set2 {w X : World} {u v : Value} (h : Below w.heap.size w X) : Below w.heap.size w ((X.setCell ⟨w.heap.size, 0, none⟩ u).setCell ⟨w.heap.size, 1, none⟩ v) :=
  (h.setCell (p := ⟨w.heap.size, 0, none⟩) (Nat.le_refl _) _).setCell (p := ⟨w.heap.size, 1, none⟩) (Nat.le_refl _) _
theorem Own.set2 {w X : World} {m : Nat} {g : Nat → Nat} {u v : Value} (h : Own X (w.heap.size + 1) m g) : Own ((X.setCell ⟨w.heap.size, 0, none⟩ u).setCell ⟨w.heap.size, 1, none⟩ v) (w.heap.size + 1) m g := by
  intro k hk
  refine ⟨?_, by rw [World.frozen?_setCell, World.frozen?_setCell]; exact (h k hk).2⟩
  rw [World.cell?_setCell_other _ _ _ _ (fun e => by injection e with e1; omega), World.cell?_setCell_other _ _ _ _ (fun e => by injection e with e1; omega)]
  exact (h k hk).1

end Go.Proofs.YtfbdgdphpdhcpaaDoor
namespace Go.Proofs.YtfbdgdphpdhcpaaDoor
open Go.RowKit

/-- The set of those of the first k points that P lets by. -/
def setBy (P : Nat → Bool) : Nat → Nat
  | 0 => 0
  | k + 1 => if P k = true then setBy P k + pw k else setBy P k
theorem setBy_yes {P : Nat → Bool} {k : Nat} (h : P k = true) : setBy P (k + 1) = setBy P k + pw k := by simp [setBy, h]
theorem setBy_no {P : Nat → Bool} {k : Nat} (h : P k = false) : setBy P (k + 1) = setBy P k := by simp [setBy, h]
theorem setBy_lt (P : Nat → Bool) : ∀ k, setBy P k < pw k
  | 0 => by simp [setBy, pw]
  | k + 1 => by
    have := setBy_lt P k
    rw [pw_succ]
    cases h : P k
    · rw [setBy_no h]; omega
    · rw [setBy_yes h]; omega
theorem setBy_congr {P Q : Nat → Bool} : ∀ k, (∀ i, i < k → P i = Q i) → setBy P k = setBy Q k
  | 0, _ => rfl
  | k + 1, h => by
    have ih := setBy_congr k (fun i hi => h i (by omega))
    have hk := h k (by omega)
    simp only [setBy, hk, ih]
theorem or_pw_add {x k : Nat} (h : x < pw k) : x ||| pw k = x + pw k := by
  have e := Nat.two_pow_add_eq_or_of_lt (show x < 2 ^ k from h) 1
  rw [Nat.mul_one] at e
  show x ||| 2 ^ k = x + 2 ^ k
  rw [Nat.or_comm, ← e]; omega
theorem pw_bit (k i : Nat) : (pw k).testBit i = decide (k = i) := Nat.testBit_two_pow
theorem setBy_bit (P : Nat → Bool) : ∀ k i, (setBy P k).testBit i = (decide (i < k) && P i)
  | 0, i => by simp [setBy]
  | k + 1, i => by
    have ih := setBy_bit P k i
    cases h : P k
    · rw [setBy_no h, ih]
      by_cases e : i = k
      · subst e; simp [h]
      · have : decide (i < k + 1) = decide (i < k) := by simp; omega
        rw [this]
    · rw [setBy_yes h, ← or_pw_add (setBy_lt P k), Nat.testBit_or, ih, pw_bit]
      by_cases e : i = k
      · subst e; simp [h]
      · have : decide (i < k + 1) = decide (i < k) := by simp; omega
        rw [this]
        have : decide (k = i) = false := by simp; omega
        simp [this]
theorem eq_of_bits {x y n : Nat} (hx : x < pw n) (hy : y < pw n) (h : ∀ i, i < n → x.testBit i = y.testBit i) : x = y := by
  apply Nat.eq_of_testBit_eq
  intro i
  by_cases hi : i < n
  · exact h i hi
  · have h1 : x.testBit i = false := by
      cases e : x.testBit i
      · rfl
      · exact absurd (bit_of_lt hx e) hi
    have h2 : y.testBit i = false := by
      cases e : y.testBit i
      · rfl
      · exact absurd (bit_of_lt hy e) hi
    rw [h1, h2]

/-- Those of the first u points above l. -/
def trn (g : Nat → Nat) (u l : Nat) : Nat := setBy (fun x => (g x).testBit l) u
def mix (g : Nat → Nat) (u k l : Nat) : Nat := if l < k then trn g (u + 1) l else trn g u l
theorem mix_zero (g : Nat → Nat) (u : Nat) : mix g u 0 = trn g u := by funext l; simp [mix]
theorem mix_same (g : Nat → Nat) (u k : Nat) : mix g u k k = trn g u k := by simp [mix]
theorem mix_yes {g : Nat → Nat} {u k : Nat} (h : (g u).testBit k = true) : mix g u (k + 1) = upd (mix g u k) k (trn g u k ||| pw u) := by
  funext l
  by_cases e : l = k
  · subst e
    rw [upd_same, or_pw_add (show trn g u l < pw u from setBy_lt _ u)]
    simp only [mix, Nat.lt_succ_self, if_true]
    exact setBy_yes h
  · rw [upd_other _ _ _ _ e]
    have : (l < k + 1) = (l < k) := by simp; omega
    simp only [mix, this]
theorem mix_no {g : Nat → Nat} {u k : Nat} (h : (g u).testBit k = false) : mix g u (k + 1) = mix g u k := by
  funext l
  by_cases e : l = k
  · subst e
    simp only [mix, Nat.lt_succ_self, if_true, Nat.lt_irrefl, if_false]
    exact setBy_no h
  · have : (l < k + 1) = (l < k) := by simp; omega
    simp only [mix, this]
theorem Own.congr {w : World} {b n : Nat} {g h : Nat → Nat} (ho : Own w b n g) (e : ∀ k, k < n → g k = h k) : Own w b n h :=
  fun k hk => by rw [← e k hk]; exact ho k hk
theorem trn_small (g : Nat → Nat) (u l m : Nat) (h : u ≤ m) : trn g u l < pw m := Nat.lt_of_lt_of_le (setBy_lt _ u) (Nat.pow_le_pow_right (by decide) h)

end Go.Proofs.YtfbdgdphpdhcpaaDoor
namespace Go.Proofs.YtfbdgdphpdhcpaaDoor
open Go.RowKit

def rowVals (F : Nat → Nat) (n : Nat) : List Value := (List.range n).map fun y => .int .i64 (F y : Nat)
theorem rowVals_succ (F : Nat → Nat) (n : Nat) : rowVals F (n + 1) = rowVals F n ++ [.int .i64 (F n : Nat)] := by simp [rowVals, List.range_succ]
theorem rowVals_at (F : Nat → Nat) (n k : Nat) (h : k < n) : (rowVals F n)[k]? = some (.int .i64 (F k : Nat)) := by simp [rowVals, h]
theorem owns_below {w w' : World} {base size n : Nat} {e : TypeId} {v : Value} {xs : List Value} (h : w.ownsRow base e size v n xs) (hb : Below w.heap.size w w') : w'.ownsRow base e size v n xs := by
  refine ⟨h.1, ?_⟩
  rcases h.2 with h2 | ⟨g, cap, cur, hv, hg, hh, r⟩
  · exact Or.inl h2
  · have hlt : g < w.heap.size := by
      rcases Nat.lt_or_ge g w.heap.size with h' | h'
      · exact h'
      · rw [Array.getElem?_eq_none h'] at hh; cases hh
    exact Or.inr ⟨g, cap, cur, hv, hg, by rw [hb.block g hlt]; exact hh, r⟩
theorem owns_block {w : World} {base size n : Nat} {e : TypeId} {v : Value} {xs : List Value} (h : w.ownsRow base e size v n xs) : ∀ k, v.ownBlock = some k → base ≤ k := by
  intro k hk
  rcases h.2 with ⟨rfl, _⟩ | ⟨g, cap, cur, rfl, hg, _⟩
  · cases hk
  · simp [Value.ownBlock] at hk; omega
theorem owns_form {w : World} {base size n : Nat} {e : TypeId} {v : Value} {xs : List Value} (h : w.ownsRow base e size v n xs) (hn : 0 < n) : ∃ g cap, v = .slice (some ⟨g, 0, none⟩) n cap := by
  rcases h.2 with ⟨_, h0⟩ | ⟨g, cap, _, hv, _⟩
  · omega
  · exact ⟨g, cap, hv⟩
theorem owns_row {w : World} {base n : Nat} {v : Value} {F : Nat → Nat} (h : w.ownsRow base 3 1 v n (rowVals F n)) : ∃ a cap, v = .slice a n cap ∧ Row w a n (fun k => (F k : Nat)) := by
  by_cases hn : 0 < n
  · obtain ⟨g, cap, rfl⟩ := owns_form h hn
    refine ⟨some ⟨g, 0, none⟩, cap, rfl, fun k hk => ⟨g, 0, rfl, ?_⟩⟩
    rw [Nat.zero_add, h.cellAt k (by omega), rowVals_at F n k hk]
  · obtain rfl : n = 0 := by omega
    rcases h.2 with ⟨rfl, _⟩ | ⟨g, cap, cur, rfl, _⟩
    · exact ⟨none, 0, rfl, fun k hk => absurd hk (Nat.not_lt_zero _)⟩
    · exact ⟨_, cap, rfl, fun k hk => absurd hk (Nat.not_lt_zero _)⟩

/-- After y rounds: the order that is built lies in block w.heap.size + 1, its slice is v. -/
def Building (w wx : World) (n y : Nat) (F : Nat → Nat) (v : Value) : Prop :=
  wx.cell? ⟨w.heap.size + 1, 0, none⟩ = some (.int .i64 (n : Int)) ∧ wx.cell? ⟨w.heap.size + 1, 1, none⟩ = some v ∧ wx.frozen? ⟨w.heap.size + 1, 1, none⟩ = false ∧
  wx.ownsRow (w.heap.size + 2) 3 1 v y (rowVals F y) ∧ Below (w.heap.size + 1) (w.alloc (.cells #[.int .i64 0, .slice none 0 0] 24)) wx
theorem Building.c0 {w wx : World} {n y : Nat} {F : Nat → Nat} {v : Value} (h : Building w wx n y F v) : wx.cell? ⟨w.heap.size + 1, 0, none⟩ = some (.int .i64 (n : Int)) := h.1
theorem Building.c1 {w wx : World} {n y : Nat} {F : Nat → Nat} {v : Value} (h : Building w wx n y F v) : wx.cell? ⟨w.heap.size + 1, 1, none⟩ = some v := h.2.1
theorem Building.f1 {w wx : World} {n y : Nat} {F : Nat → Nat} {v : Value} (h : Building w wx n y F v) : wx.frozen? ⟨w.heap.size + 1, 1, none⟩ = false := h.2.2.1
theorem Building.own {w wx : World} {n y : Nat} {F : Nat → Nat} {v : Value} (h : Building w wx n y F v) : wx.ownsRow (w.heap.size + 2) 3 1 v y (rowVals F y) := h.2.2.2.1
theorem Building.below {w wx : World} {n y : Nat} {F : Nat → Nat} {v : Value} (h : Building w wx n y F v) : Below (w.heap.size + 1) (w.alloc (.cells #[.int .i64 0, .slice none 0 0] 24)) wx := h.2.2.2.2
theorem Building.size {w wx : World} {n y : Nat} {F : Nat → Nat} {v : Value} (h : Building w wx n y F v) : w.heap.size + 2 ≤ wx.heap.size := World.block_lt_of_cell? _ _ h.1
theorem Building.start (w : World) (n : Nat) (F : Nat → Nat) : Building w ((w.alloc (.cells #[.int .i64 0, .slice none 0 0] 24)).alloc (.cells #[.int .i64 (n : Int), .slice none 0 0] 24)) n 0 F (.slice none 0 0) :=
  ⟨by simp, by simp, (World.frozen?_alloc_at _ _ _ _ (by simp)), World.ownsRow_nil _ _ _ _, (Below.refl _ _).alloc (by simp) _⟩
theorem Building.step {w wx w' : World} {n y : Nat} {F : Nat → Nat} {v : Value} (h : Building w wx n y F v) (hb : Below wx.heap.size wx w') : Building w w' n y F v := by
  have hs := h.size
  obtain ⟨h1, h2, h3, h4, h5⟩ := h
  exact ⟨(hb.cell (p := ⟨w.heap.size + 1, 0, none⟩) hs).trans h1, (hb.cell (p := ⟨w.heap.size + 1, 1, none⟩) hs).trans h2, (hb.frozen (p := ⟨w.heap.size + 1, 1, none⟩) hs).trans h3, owns_below h4 hb, h5.trans (hb.mono (by omega))⟩
/-- What append leaves, ahead of the store. -/
theorem Building.grown {w wx w1 : World} {o : Obj} {n y S : Nat} {F : Nat → Nat} {v v' : Value} (h : Building w wx n y F v) (hF : F y = S)
    (hown : w1.ownsRow (w.heap.size + 2) 3 1 v' (y + 1) (rowVals F y ++ [.int .i64 (S : Nat)])) (hg : (wx.alloc o).grownBy w1 v.ownBlock) :
    w1.cell? ⟨w.heap.size + 1, 1, none⟩ = some v ∧ w1.frozen? ⟨w.heap.size + 1, 1, none⟩ = false ∧ Building w (w1.setCell ⟨w.heap.size + 1, 1, none⟩ v') n (y + 1) F v' := by
  have hs := h.size
  have h' := h.step ((Below.refl _ _).alloc (Nat.le_refl _) o)
  have hb : Below (w.heap.size + 2) (wx.alloc o) w1 := (Below.refl _ _).grown hg (by simp; omega) (owns_block h.own)
  obtain ⟨h1, h2, h3, h4, h5⟩ := h'
  have c0 := (hb.cell (p := ⟨w.heap.size + 1, 0, none⟩) (by simp)).trans h1
  have c1 := (hb.cell (p := ⟨w.heap.size + 1, 1, none⟩) (by simp)).trans h2
  have f1 := (hb.frozen (p := ⟨w.heap.size + 1, 1, none⟩) (by simp)).trans h3
  refine ⟨c1, f1, ?_, World.cell?_setCell_same _ _ _ c1, by rw [World.frozen?_setCell]; exact f1, ?_, ?_⟩
  · rw [World.cell?_setCell_other _ _ _ _ (fun e => by injection e with _ e2; cases e2)]; exact c0
  · rw [rowVals_succ, hF]; exact ownsRow_setCell_below hown (by simp) _
  · exact (h5.trans (hb.mono (by omega))).setCell (p := ⟨w.heap.size + 1, 1, none⟩) (Nat.le_refl _) _
/-- A slice of n elements lies in a block from B on. -/
def Fresh (B : Nat) (a : Option Addr) (n : Nat) : Prop := 0 < n → ∃ b off, a = some ⟨b, off, none⟩ ∧ B ≤ b
theorem Fresh.mono {B B' : Nat} {a : Option Addr} {n : Nat} (h : Fresh B a n) (hb : B' ≤ B) : Fresh B' a n := fun hn => by
  obtain ⟨b, off, e, hl⟩ := h hn
  exact ⟨b, off, e, by omega⟩
theorem row_set2 {X : World} {B : Nat} {a : Option Addr} {n : Nat} {f : Nat → Int} {u v : Value} (h : Row X a n f) (hb : Fresh (B + 1) a n) :
    Row ((X.setCell ⟨B, 0, none⟩ u).setCell ⟨B, 1, none⟩ v) a n f := by
  intro k hk
  obtain ⟨b, off, rfl, hc⟩ := h k hk
  obtain ⟨b', off', e, hlt⟩ := hb (by omega)
  simp at e
  obtain ⟨rfl, rfl⟩ := e
  refine ⟨b, off, rfl, ?_⟩
  rw [World.cell?_setCell_other _ _ _ _ (fun e => by injection e with e1; omega), World.cell?_setCell_other _ _ _ _ (fun e => by injection e with e1; omega)]
  exact hc
/-- An order's box at block B that holds the zero order. -/
def ZBox (X : World) (B : Nat) : Prop := X.cell? ⟨B, 0, none⟩ = some (.int .i64 0) ∧ X.cell? ⟨B, 1, none⟩ = some (.slice none 0 0) ∧ X.frozen? ⟨B, 0, none⟩ = false ∧ X.frozen? ⟨B, 1, none⟩ = false
theorem ZBox.new (w : World) : ZBox (w.alloc (.cells #[.int .i64 0, .slice none 0 0] 24)) w.heap.size :=
  ⟨by simp, by simp, World.frozen?_alloc_at _ _ _ _ rfl, World.frozen?_alloc_at _ _ _ _ rfl⟩
theorem ZBox.step {X X' : World} {B : Nat} (h : ZBox X B) (hb : Below X.heap.size X X') : ZBox X' B := by
  have hlt : B < X.heap.size := World.block_lt_of_cell? _ _ h.1
  obtain ⟨h1, h2, h3, h4⟩ := h
  exact ⟨(hb.cell (p := ⟨B, 0, none⟩) hlt).trans h1, (hb.cell (p := ⟨B, 1, none⟩) hlt).trans h2, (hb.frozen (p := ⟨B, 0, none⟩) hlt).trans h3, (hb.frozen (p := ⟨B, 1, none⟩) hlt).trans h4⟩
theorem set2B {w X : World} {B : Nat} {u v : Value} (h : Below w.heap.size w X) (hB : w.heap.size ≤ B) : Below w.heap.size w ((X.setCell ⟨B, 0, none⟩ u).setCell ⟨B, 1, none⟩ v) :=
  (h.setCell (p := ⟨B, 0, none⟩) hB _).setCell (p := ⟨B, 1, none⟩) hB _
def OrderPost (w : World) (n : Nat) (F : Nat → Nat) (e : Ending) (w' : World) : Prop := ∃ a cap, e = .returned (.agg #[.int .i64 (n : Int), .slice a n cap]) ∧ Row w' a n (fun k => (F k : Nat)) ∧ Fresh w.heap.size a n
end Go.Proofs.YtfbdgdphpdhcpaaDoor
