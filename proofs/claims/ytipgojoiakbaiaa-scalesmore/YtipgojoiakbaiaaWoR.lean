/-
  What the reference's IsLine, Also, ToldIn answer. Conditions: an order of at most five points.
-/
import Derived.Test.YtipgojoiakbaiaaWoC
import Derived.Test.YtipgojoiakbaiaaWoL
namespace Go.Proofs.Ytipgojoiakbaiaa
open Go.RowKit
set_option maxRecDepth 100000

theorem apB_opn (g : Nat → Nat) (i k : Nat) : apB g i k = opn g i k := by unfold apB opn; rw [Bool.and_comm]
set_option maxHeartbeats 2000000 in
theorem isLine_any (n : Nat) (a : Option Addr) (cap : Nat) (g : Nat → Nat) (w : World) (hg : WOk n g) (hr : Row w a n (fun k => (g k : Nat))) :
    Calls Try.prog 20 #[.agg #[.int .i64 (n : Nat), .slice a n cap]] w fun e w' => Ans e (Lin n g) ∧ Below w.heap.size w w' := by
  obtain ⟨W0, HW0⟩ : ∃ W0, Hid (W0 = w.alloc (.cells #[.int .i64 (n : Nat), .slice a n cap] 24)) := ⟨_, rfl⟩
  have HW : Below w.heap.size w (w.alloc (.cells #[.int .i64 (n : Nat), .slice a n cap] 24)) := (Below.refl _ _).alloc (Nat.le_refl _) _
  have HK : Hid (Held W0 w.heap.size n a n cap (fun k => (g k : Nat))) := by rw [HW0.out]; exact Held.box hr
  have HBW : Hid (Below w.heap.size w W0) := by rw [HW0.out]; exact HW
  have HG : Hid (∀ k, k < n → g k < 1024) := fun k _ => Nat.lt_trans (hg.small k) (by decide)
  have h10 : n ≤ 10 := by have := hg.n5; omega
  clear hr HW hg
  go_enter Try.func20, Try.ntmps20
  go_wp2_with fail
  rw [← HW0.out]
  clear HW0
  go_loopw [3] (fun x wx => ∃ k : Nat, k ≤ n ∧ x = .int .i64 k ∧ Hid (∀ p, p < k → ∀ q, q < p → opn g p q = false) ∧ Hid (Below W0.heap.size W0 wx)) (fun x _ => n - (intOf x).toNat)
  case atStart => exact ⟨0, Nat.zero_le _, rfl, fun p hp => absurd hp (Nat.not_lt_zero _), Below.refl _ _⟩
  case round =>
    obtain ⟨k, hk, rfl, hok, hB⟩ := hrel
    have hH := HK.out.step hB.out
    have c0 := hH.c0
    by_cases hkn : k < n
    · have hkni : (k : Int) < (n : Int) := by omega
      clear hH
      go_wp2_with fail
      clear c0
      go_loopw [4] (fun x wx => ∃ j : Nat, j ≤ k ∧ x = .int .i64 j ∧ Hid (∀ q, q < j → opn g k q = false) ∧ Hid (Below W0.heap.size W0 wx)) (fun x _ => k - (intOf x).toNat)
      case atStart => exact ⟨0, Nat.zero_le _, rfl, fun p hp => absurd hp (Nat.not_lt_zero _), hB⟩
      case round =>
        clear hB
        obtain ⟨j, hj, rfl, hoj, hB⟩ := hrel
        have hH := HK.out.step hB.out
        have c0 := hH.c0
        have c1 := hH.c1
        by_cases hjk : j < k
        · have hjki : (j : Int) < (k : Int) := by omega
          cases hop : opn g k j
          · have HA : Hid (apB g k j = false) := (apB_opn g k j).trans hop
            have HO2 : Hid (∀ q, q < j + 1 → opn g k q = false) := upto_succ hoj.out hop
            clear hop
            go_wp2_with fail
            refine (apart_as n a cap g k j false _ HA.out h10 HG.out hH.row hkn (by omega) (by omega)).mono ?_
            rintro e w2 ⟨rfl, hb2⟩
            have HB2 : Hid (Below W0.heap.size W0 w2) := Below.then hB.out hb2
            clear hb2 hB hH c0 c1
            go_wp2_with fail
            go_roundw
            case rel => exact ⟨j + 1, by omega, by go_num, HO2, HB2⟩
            case measure => simp [intOf]; omega
          · have HA : Hid (apB g k j = true) := (apB_opn g k j).trans hop
            have HNO : Hid (¬ Lin n g) := fun h => by have := h j k hjk hkn; rw [opn_comm, hop] at this; cases this
            clear hop
            go_wp2_with fail
            refine (apart_as n a cap g k j true _ HA.out h10 HG.out hH.row hkn (by omega) (by omega)).mono ?_
            rintro e w2 ⟨rfl, hb2⟩
            have HB2 : Hid (Below w.heap.size w w2) := Below.then HBW.out (Below.then hB.out hb2)
            clear hb2 hB hH c0 c1
            go_wp2_with fail
            go_ret
            exact ⟨Ans.no HNO.out, HB2.out⟩
        · obtain rfl : j = k := by omega
          have HO2 : Hid (∀ p, p < j + 1 → ∀ q, q < p → opn g p q = false) := upto_succ hok.out hoj.out
          clear hH
          go_wp2_with fail
          go_roundw
          case rel => exact ⟨j + 1, by omega, by go_num, HO2, hB⟩
          case measure => simp [intOf]; omega
    · obtain rfl : k = n := by omega
      have HL : Hid (Lin k g) := fun a b h1 h2 => by rw [opn_comm]; exact hok.out b h2 a h1
      have HB2 : Hid (Below w.heap.size w wr) := Below.then HBW.out hB.out
      clear hH
      go_wp2_with fail
      go_ret
      exact ⟨Ans.yes HL.out, HB2.out⟩

theorem ent_also : Ent 41 := fun _ _ => rfl
/-- Is p below q when x stands ahead of y, too? -/
def alB (g : Nat → Nat) (x y p q : Nat) : Bool := (g q).testBit p || (upt g p x && upt g y q)
theorem al_set {n : Nat} {g : Nat → Nat} (h : WOk n g) {x y : Nat} (hx : x < n) (hy : y < n) (hne : x ≠ y) (ho : opn g x y = true) (q : Nat) : setBy (fun p => alB g x y p q) n = wth g x y q := by
  refine eq_of_bits (n := n) (setBy_lt _ _) ((h.wth hx hy hne ho).smn q) fun i hi => ?_
  rw [setBy_bit, Bool.eq_iff_iff, wth_bit]
  unfold alB upt
  simp only [hi, decide_true, Bool.true_and, Bool.or_eq_true, Bool.and_eq_true, decide_eq_true_eq]
  constructor
  · rintro (h1 | ⟨h1 | h1, h2 | h2⟩)
    · exact .inl h1
    · exact .inr ⟨.inl h2.symm, .inr h1⟩
    · exact .inr ⟨.inr h2, .inr h1⟩
    · exact .inr ⟨.inl h2.symm, .inl h1⟩
    · exact .inr ⟨.inr h2, .inl h1⟩
  · rintro (h1 | ⟨h1, h2⟩)
    · exact .inl h1
    · refine .inr ⟨?_, ?_⟩
      · rcases h2 with h2 | h2
        · exact .inr h2
        · exact .inl h2
      · rcases h1 with h1 | h1
        · exact .inl h1.symm
        · exact .inr h1
set_option maxHeartbeats 2000000 in
theorem also1_any {n : Nat} {a : Option Addr} {cap : Nat} {g : Nat → Nat} {x y p q B : Nat} {wx : World} (hg : WOk n g) (hx : x < n) (hy : y < n) (hp : p < n) (hq : q < n) (hH : Held wx B n a n cap (fun k => (g k : Nat))) (hcx : wx.cell? ⟨B + 1, 0, none⟩ = some (.int .i64 (x : Nat))) (hcy : wx.cell? ⟨B + 1 + 1, 0, none⟩ = some (.int .i64 (y : Nat))) :
    Calls Try.prog 41 #[.int .i64 (p : Nat), .int .i64 (q : Nat), .pointer (some ⟨B, 0, none⟩), .pointer (some ⟨B + 1, 0, none⟩), .pointer (some ⟨B + 1 + 1, 0, none⟩)] wx fun e w' => e = .returned (.bool (alB g x y p q)) ∧ Below wx.heap.size wx w' := by
  have HG : Hid (∀ k, k < n → g k < 1024) := fun k _ => Nat.lt_trans (hg.small k) (by decide)
  have h10 : n ≤ 10 := by have := hg.n5; omega
  have HH : Hid (Held wx B n a n cap (fun k => (g k : Nat))) := hH
  have c0 := hH.c0
  have c1 := hH.c1
  obtain ⟨R, HR⟩ : ∃ R, Hid (alB g x y p q = R) := ⟨_, rfl⟩
  rw [HR.out]
  clear hH
  cases h1 : (g q).testBit p
  · have H1 : Hid ((g q).testBit p = false) := h1
    cases h2 : upt g p x
    · have H2 : Hid (upt g p x = false) := h2
      obtain rfl : R = false := by rw [← HR.out]; unfold alB; rw [h1, h2]; rfl
      clear h1 h2 HR
      go_enter Try.func41, Try.ntmps41
      go_wp2_with fail
      refine (less_as n a n cap g p q false _ H1.out h10 HG.out HH.out.row (by omega) hq).mono ?_
      rintro e w1 ⟨rfl, hb1⟩
      have H1' := HH.out.step hb1
      have d0 := H1'.c0
      have d1 := H1'.c1
      have dx := (hb1.cell (World.block_lt_of_cell? _ _ hcx)).trans hcx
      clear c0 c1
      go_wp2_with fail
      refine (refUpto_any n a n cap g p x _ false H2.out h10 HG.out H1'.row (by omega) hx).mono ?_
      rintro e w2 ⟨rfl, hb2⟩
      have HB2 : Hid (Below wx.heap.size wx w2) := Below.then hb1 hb2
      clear hb1 hb2 H1' d0 d1 dx
      go_wp2_with fail
      go_ret
      exact ⟨rfl, HB2.out⟩
    · have H2 : Hid (upt g p x = true) := h2
      have H3 : Hid (upt g y q = R) := by rw [← HR.out]; unfold alB; rw [h1, h2]; rfl
      clear h1 h2 HR
      go_enter Try.func41, Try.ntmps41
      go_wp2_with fail
      refine (less_as n a n cap g p q false _ H1.out h10 HG.out HH.out.row (by omega) hq).mono ?_
      rintro e w1 ⟨rfl, hb1⟩
      have H1' := HH.out.step hb1
      have d0 := H1'.c0
      have d1 := H1'.c1
      have dx := (hb1.cell (World.block_lt_of_cell? _ _ hcx)).trans hcx
      clear c0 c1
      go_wp2_with fail
      refine (refUpto_any n a n cap g p x _ true H2.out h10 HG.out H1'.row (by omega) hx).mono ?_
      rintro e w2 ⟨rfl, hb2⟩
      have H2' := H1'.step hb2
      have e0 := H2'.c0
      have e1 := H2'.c1
      have ey := (hb2.cell (World.block_lt_of_cell? _ _ ((hb1.cell (World.block_lt_of_cell? _ _ hcy)).trans hcy))).trans ((hb1.cell (World.block_lt_of_cell? _ _ hcy)).trans hcy)
      have HB2 : Hid (Below wx.heap.size wx w2) := Below.then hb1 hb2
      clear hb1 hb2 H1' d0 d1 dx
      go_wp2_with fail
      refine (refUpto_any n a n cap g y q _ R H3.out h10 HG.out H2'.row (by omega) hq).mono ?_
      rintro e w3 ⟨rfl, hb3⟩
      have HB3 : Hid (Below wx.heap.size wx w3) := Below.then HB2.out hb3
      clear hb3 H2' e0 e1 ey
      go_wp2_with fail
      go_ret
      exact ⟨rfl, HB3.out⟩
  · have H1 : Hid ((g q).testBit p = true) := h1
    obtain rfl : R = true := by rw [← HR.out]; unfold alB; rw [h1]; rfl
    clear h1 HR
    go_enter Try.func41, Try.ntmps41
    go_wp2_with fail
    refine (less_as n a n cap g p q true _ H1.out h10 HG.out HH.out.row (by omega) hq).mono ?_
    rintro e w1 ⟨rfl, hb1⟩
    have HB1 : Hid (Below wx.heap.size wx w1) := hb1
    clear hb1 c0 c1
    go_wp2_with fail
    go_ret
    exact ⟨rfl, HB1.out⟩
end Go.Proofs.Ytipgojoiakbaiaa
