/-
  What the reference's WholeFamily, HullOf and CornersOf answer, and hasselaw.inFamily. Conditions: as each theorem says.
-/
import Derived.Test.YtjoklkbfcobfeaaDoorCrn
import Derived.Test.YtjoklkbfcobfeaaDoorRefFam
import Derived.Test.YtjoklkbfcobfeaaDoorRefAcc2
namespace Go.Proofs.YtjoklkbfcobfeaaDoor
open Go.RowKit

theorem tog_all (g : Nat → Nat) (k : Nat) : tog g 0 (k + 1) = tog g 0 k ||| g k := tog_yes (Nat.and_zero _)
set_option maxHeartbeats 2000000 in
theorem wholeFamily_any (N : Int) (a : Option Addr) (len cap : Nat) (f : Nat → Int) (w : World) (hl : len ≤ maxLen) (hr : Row w a len f) :
    Calls Tryd.prog 28 #[.agg #[.int .i64 N, .slice a len cap]] w fun e w' => (∃ c : Int, e = .returned (.int .i64 c) ∧ WCk N len f c) ∧ Below w.heap.size w w' := by
  obtain ⟨W0, HW0⟩ : ∃ W0, Hid (W0 = w.alloc (.cells #[.int .i64 N, .slice a len cap] 24)) := ⟨_, rfl⟩
  have HB0 : Hid (Below w.heap.size w W0) := by rw [HW0.out]; exact (Below.refl _ _).alloc (Nat.le_refl _) _
  have K0 : Held W0 w.heap.size N a len cap f := by rw [HW0.out]; exact Fam.box hr
  have k0 := K0.c0
  have k1 := K0.c1
  clear hr
  go_enter Tryd.func28, Tryd.ntmps28
  go_wp2_with fail
  rw [← HW0.out]
  refine (checkFamily_any N a len cap f W0 hl K0.row).mono ?_
  rintro e w1 ⟨⟨c, rfl, hc⟩, hb1⟩
  have HB1 : Hid (Below W0.heap.size W0 w1) := hb1
  clear hb1 k0 k1
  have HC : Hid (FChk N len f c) := hc
  by_cases h0 : c = 0
  · subst h0
    obtain ⟨n, rfl, h10, hin, hris⟩ := hc.good
    have HF : Hid (FIn n len f ∧ Ris len f) := ⟨hin, hris⟩
    have HG : Hid (∀ k, k < len → nat f k < pw n) := hin.small
    have hpn := pw_le n h10
    have hpp := pw_pos n
    have K1 := K0.step HB1.out
    have k0 := K1.c0
    have k1 := K1.c1
    have HRW : Hid (Row w1 a len (fun k => (nat f k : Nat))) := hin.row K1.row
    have HAC := (show Hid (Calls Tryd.prog 14 #[.agg #[.int .i64 (n : Nat), .slice a len cap]] w1 _) from refAcc_any n a len cap (nat f) w1 h10 hl hin.small HRW.out)
    have HTL : Hid (∀ k, k ≤ len → tog (nat f) 0 k < pw n) := fun k hk => tog_lt k (fun j hj => HG.out j (by omega))
    have HTS : Hid (∀ k, tog (nat f) 0 (k + 1) = tog (nat f) 0 k ||| nat f k) := fun k => tog_all _ k
    have HF4 : Hid (¬ Whl n len f → WCk n len f 4) := fun h => .inr ⟨n, rfl, h10, HF.out.1, HF.out.2, .inl ⟨rfl, h⟩⟩
    have HF0 : Hid (Whl n len f → WCk n len f 0) := fun h => .inr ⟨n, rfl, h10, HF.out.1, HF.out.2, .inr ⟨rfl, h⟩⟩
    unfold maxLen at hl
    clear hc hin hris
    go_wp2_with fail
    go_loop [4, 5] (fun t i => ∃ k : Nat, k ≤ len ∧ i = .int .i64 k ∧ t = .int .i64 (tog (nat f) 0 k : Nat)) (fun _ i => len - (intOf i).toNat)
    case atStart => exact ⟨0, Nat.zero_le _, rfl, rfl⟩
    case round =>
      obtain ⟨k, hk, rfl, rfl⟩ := hrel
      have htl := HTL.out k hk
      by_cases hlt : k < len
      · obtain ⟨b2, off, rfl, hcc⟩ := HRW.out k hlt
        have hc2 : w1.cell? ⟨b2, off + k, none⟩ = some (.int .i64 (nat f k : Nat)) := hcc
        have hlt' : (k : Int) < (len : Int) := by omega
        have hgk := HG.out k hlt
        clear hcc
        go_wp2_with fail
        refine (together_any (tog (nat f) 0 k) (nat f k) _ (by omega) (by omega)).mono ?_
        rintro e w2 ⟨rfl, rfl⟩
        go_wp2_with fail
        go_round
        case rel => exact ⟨k + 1, by omega, by go_num, by rw [HTS.out k]⟩
        case measure => simp [intOf]; omega
      · obtain rfl : k = len := by omega
        obtain ⟨t, HT⟩ : ∃ t, Hid (tog (nat f) 0 k = t) := ⟨_, rfl⟩
        rw [HT.out] at htl
        rw [HT.out]
        obtain ⟨A, HA⟩ : ∃ A, Hid (acc (nat f) k = A) := ⟨_, rfl⟩
        rw [HA.out] at HAC
        go_wp2_with fail
        refine HAC.out.mono ?_
        rintro e w2 ⟨rfl, hb2⟩
        have HB2 : Hid (Below W0.heap.size W0 w2) := Below.then HB1.out hb2
        clear hb2 HAC k0 k1
        have k0 := (K0.step HB2.out).c0
        cases A
        · have HN : Hid (¬ Whl n k f) := fun h => by have h1 := h.1; rw [HA.out] at h1; cases h1
          go_wp2_with fail
          go_ret
          exact ⟨⟨_, rfl, HF4.out HN.out⟩, Below.then HB0.out HB2.out⟩
        · by_cases ht : (t : Int) = ((pw n : Nat) : Int) - 1
          · have HY : Hid (Whl n k f) := ⟨HA.out, by rw [HT.out]; omega⟩
            have hne : ((t : Int) != ((pw n : Nat) : Int) - 1) = false := by simpa using ht
            clear ht
            go_wp2_with fail
            refine (bit_any n _ (by omega)).mono ?_
            rintro e w3 ⟨rfl, rfl⟩
            go_wp2_with fail
            go_ret
            exact ⟨⟨_, rfl, HF0.out HY.out⟩, Below.then HB0.out HB2.out⟩
          · have HN : Hid (¬ Whl n k f) := fun h => ht (by rw [← HT.out, h.2]; omega)
            have hne : ((t : Int) != ((pw n : Nat) : Int) - 1) = true := by simpa using ht
            clear ht
            go_wp2_with fail
            refine (bit_any n _ (by omega)).mono ?_
            rintro e w3 ⟨rfl, rfl⟩
            go_wp2_with fail
            go_ret
            exact ⟨⟨_, rfl, HF4.out HN.out⟩, Below.then HB0.out HB2.out⟩
  · have hne : (c != 0) = true := by simpa using h0
    clear hc
    go_wp2_with fail
    go_ret
    exact ⟨⟨c, rfl, .inl ⟨h0, HC.out⟩⟩, Below.then HB0.out HB1.out⟩
theorem inside_any (a b : Nat) (w : World) (ha : a < 9223372036854775808) (hb : b < 9223372036854775808) :
    Calls Tryd.prog 33 #[.int .i64 a, .int .i64 b] w fun e w' => e = .returned (.bool (lack a b == 0)) ∧ w = w' := by
  have HZ : Hid (lack a b = 0 ↔ ∀ i, a.testBit i = true → b.testBit i = true) := lack_zero a b (by omega) (by omega)
  obtain ⟨Q, HQ⟩ : ∃ Q, Hid (Q = (lack a b == 0)) := ⟨_, rfl⟩
  rw [← HQ.out]
  go_enter Tryd.func33, Tryd.ntmps33
  go_wp2
  go_loop [0, 1] (fun s t => ∃ k : Nat, s = .int .i64 (hv a k : Nat) ∧ t = .int .i64 (hv b k : Nat) ∧ Hid (∀ i, i < k → a.testBit i = true → b.testBit i = true)) (fun s _ => (intOf s).toNat)
  case atStart => exact ⟨0, by rw [hv_zero], by rw [hv_zero], upto_zero⟩
  case round =>
    obtain ⟨k, rfl, rfl, hok⟩ := hrel
    have hl := hv_le a k
    have hl2 := hv_le b k
    have h1 : (((hv a k : Nat) : Int) % 2 == 1) = a.testBit k := by rw [hv_bit, Bool.eq_iff_iff]; simp; omega
    have h2 : (((hv b k : Nat) : Int) % 2 == 0) = !b.testBit k := by rw [hv_bit, Bool.eq_iff_iff]; simp; omega
    by_cases hp : 0 < hv a k
    · have HA : Hid (hv a (k + 1) = hv a k / 2) := hv_succ a k
      have HB : Hid (hv b (k + 1) = hv b k / 2) := hv_succ b k
      cases ba : a.testBit k
      · rw [ba] at h1
        clear h2
        go_wp2
        go_round
        case rel => exact ⟨k + 1, by rw [HA.out]; simp, by rw [HB.out]; simp, upto_succ hok.out (fun h => by rw [ba] at h; cases h)⟩
        case measure => simp [intOf]; omega
      · rw [ba] at h1
        cases bb : b.testBit k
        · rw [bb] at h2
          have hne : ¬ lack a b = 0 := fun h => by have := HZ.out.1 h k ba; rw [bb] at this; cases this
          have HN : Hid (Q = false) := HQ.out.trans (by simpa using hne)
          clear hne
          go_wp2
          go_ret
          exact ⟨ret_bool HN.out.symm, rfl⟩
        · rw [bb] at h2
          go_wp2
          go_round
          case rel => exact ⟨k + 1, by rw [HA.out]; simp, by rw [HB.out]; simp, upto_succ hok.out (fun _ => bb)⟩
          case measure => simp [intOf]; omega
    · have h0 : hv a k = 0 := by omega
      have hz : lack a b = 0 := HZ.out.2 fun i hi => by
        rcases Nat.lt_or_ge i k with h | h
        · exact hok.out i h hi
        · rw [hv_bits h0 i h] at hi; cases hi
      have HN : Hid (Q = true) := HQ.out.trans (by simp [hz])
      clear h1 h2 hz
      go_wp2
      go_ret
      exact ⟨ret_bool HN.out.symm, rfl⟩
theorem numberIs_any (n e w0 want : Int) (w : World) (h : e = w0) (hv : (w0 ≠ 0 ∧ n = 0) ∨ (w0 = 0 ∧ n = want)) :
    Calls Tryd.prog 24 #[.int .i64 n, .int .i64 e, .int .i64 w0, .int .i64 want] w fun e w' => e = .returned (.bool true) ∧ w = w' := by
  subst h
  rcases hv with ⟨h0, rfl⟩ | ⟨rfl, rfl⟩
  · have hne : (e != 0) = true := by simpa using h0
    go_enter Tryd.func24, Tryd.ntmps24
    go_wp2
    go_ret
    exact ⟨rfl, rfl⟩
  · go_enter Tryd.func24, Tryd.ntmps24
    go_wp2
    go_ret
    exact ⟨rfl, rfl⟩
theorem isSetL_any (s : Int) (n : Nat) (w : World) (hn : n ≤ 10) :
    Calls Tryd.prog 47 #[.int .i64 s, .int .i64 n] w fun e w' => e = .returned (.bool (sts s n)) ∧ w = w' := by
  by_cases h0 : 0 ≤ s
  · by_cases h1 : s < (pw n : Nat)
    · go_enter Tryd.func47, Tryd.ntmps47
      go_wp2_with (go_at_call 31; refine (bit_any n _ (by omega)).mono ?_; rintro e w' ⟨rfl, rfl⟩)
      go_ret
      exact ⟨ret_bool (by simp [sts, h0, h1]), rfl⟩
    · go_enter Tryd.func47, Tryd.ntmps47
      go_wp2_with (go_at_call 31; refine (bit_any n _ (by omega)).mono ?_; rintro e w' ⟨rfl, rfl⟩)
      go_ret
      exact ⟨ret_bool (by simp [sts]; omega), rfl⟩
  · have h0' : decide (0 ≤ s) = false := by simp; omega
    go_enter Tryd.func47, Tryd.ntmps47
    go_wp2
    go_ret
    exact ⟨ret_bool (by simp [sts]; omega), rfl⟩


set_option maxHeartbeats 1000000 in
theorem inFamily_any (N : Int) (a : Option Addr) (len cap : Nat) (f : Nat → Int) (S : Int) (w : World) (hl : len ≤ maxLen) (hr : Row w a len f) :
    Calls Tryd.prog 22 #[.agg #[.int .i64 N, .slice a len cap], .int .i64 S] w fun e w' => (∃ c : Int, e = .returned (.int .i64 c) ∧ SCk N len f S c) ∧ Below w.heap.size w w' := by
  obtain ⟨W0, HW0⟩ : ∃ W0, Hid (W0 = w.alloc (.cells #[.int .i64 N, .slice a len cap] 24)) := ⟨_, rfl⟩
  have HB0 : Hid (Below w.heap.size w W0) := by rw [HW0.out]; exact (Below.refl _ _).alloc (Nat.le_refl _) _
  have K0 : Held W0 w.heap.size N a len cap f := by rw [HW0.out]; exact Fam.box hr
  have k0 := K0.c0
  have k1 := K0.c1
  clear hr
  go_enter Tryd.func22, Tryd.ntmps22
  go_wp2_with fail
  rw [← HW0.out]
  refine (wholeFamily_any N a len cap f W0 hl K0.row).mono ?_
  rintro e w1 ⟨⟨c, rfl, hc⟩, hb1⟩
  have HB1 : Hid (Below W0.heap.size W0 w1) := hb1
  clear k0 k1
  have k0 := (K0.step hb1).c0
  have k1 := (K0.step hb1).c1
  clear hb1
  have HC : Hid (WCk N len f c) := hc
  by_cases h0 : c = 0
  · subst h0
    obtain ⟨n, rfl, hn10, _, _, _⟩ := hc.good
    clear hc
    rcases (Bool.eq_false_or_eq_true (sts S n)).symm with hs | hs
    · have HS : Hid (¬ (0 ≤ S ∧ S < (pw n : Nat))) := by simpa [sts, Hid] using hs
      go_wp2_with fail
      refine (isSetL_any S n _ hn10).mono ?_
      rintro e w' ⟨rfl, rfl⟩
      rw [hs]
      go_wp2_with fail
      go_ret
      exact ⟨⟨_, rfl, .inr ⟨n, rfl, hn10, HC.out, .inl ⟨rfl, HS.out⟩⟩⟩, Below.then HB0.out HB1.out⟩
    · have HS : Hid (0 ≤ S ∧ S < (pw n : Nat)) := by simpa [sts, Hid] using hs
      go_wp2_with fail
      refine (isSetL_any S n _ hn10).mono ?_
      rintro e w' ⟨rfl, rfl⟩
      rw [hs]
      go_wp2_with fail
      go_ret
      exact ⟨⟨_, rfl, .inr ⟨n, rfl, hn10, HC.out, .inr ⟨rfl, HS.out⟩⟩⟩, Below.then HB0.out HB1.out⟩
  · have hne : (c == 0) = false := by simpa using h0
    clear hc
    go_wp2_with fail
    go_ret
    exact ⟨⟨c, rfl, .inl ⟨h0, HC.out⟩⟩, Below.then HB0.out HB1.out⟩

/-- Is p in the convex set C, or s not in it? -/
def hqB (s p C : Nat) : Bool := !(lack s C == 0) || C.testBit p
def rst (n x : Nat) : Nat := pw n - 1 - x
theorem rst_bit {n x : Nat} (hx : x < pw n) (i : Nat) : (rst n x).testBit i = (decide (i < n) && !x.testBit i) := by
  have e : rst n x = 2 ^ n - (x + 1) := by unfold rst pw; omega
  rw [e, Nat.testBit_two_pow_sub_succ hx]
theorem lack_rst {n s x : Nat} (h10 : n ≤ 10) (hs : s < pw n) (hx : x < pw n) : lack s (rst n x) = 0 ↔ x &&& s = 0 := by
  have hpn := pw_le n h10
  have hl : rst n x < 1024 := by unfold rst; omega
  rw [lack_zero s (rst n x) (by omega) (by omega)]
  constructor
  · intro h
    apply Nat.eq_of_testBit_eq
    intro i
    rw [Nat.testBit_and, Nat.zero_testBit]
    cases hb : s.testBit i
    · simp
    · have := h i hb
      rw [rst_bit hx] at this
      simp at this
      simp [this.2]
  · intro h i hb
    have h2 : (x &&& s).testBit i = false := by rw [h]; simp
    rw [Nat.testBit_and, hb, Bool.and_true] at h2
    rw [rst_bit hx, h2]
    simp [bit_of_lt hs hb]
theorem hul_ref {g : Nat → Nat} {len n s : Nat} (h10 : n ≤ 10) (hg : ∀ k, k < len → g k < pw n) (hs : s < pw n) : setBy (fun p => allB (fun i => hqB s p (rst n (g i))) len) n = hul g len n s := by
  refine eq_of_bits (setBy_lt _ n) (hul_lt g len n s) fun p hp => ?_
  rw [setBy_bit, hul_bit h10 hg]
  simp only [hp, decide_true, Bool.true_and]
  refine eq_of_iff ?_
  rw [allB_iff]
  constructor
  · intro h
    have : (tog g s len).testBit p = false := by
      cases e : (tog g s len).testBit p
      · rfl
      · obtain ⟨j, h1, h2, h3⟩ := tog_bit.1 e
        have h4 := h j h1
        unfold hqB at h4
        rw [(lack_rst h10 hs (hg j h1)).2 h2, rst_bit (hg j h1), h3] at h4
        simp at h4
    rw [this]; rfl
  · intro h j hj
    have h2 : (tog g s len).testBit p = false := by simpa using h
    unfold hqB
    by_cases e : g j &&& s = 0
    · have h3 : (g j).testBit p = false := by
        cases e2 : (g j).testBit p
        · rfl
        · rw [tog_bit.2 ⟨j, hj, e, e2⟩] at h2; cases h2
      rw [rst_bit (hg j hj), h3]; simp [hp]
    · have : ¬ lack s (rst n (g j)) = 0 := fun h => e ((lack_rst h10 hs (hg j hj)).1 h)
      simp [this]

set_option maxHeartbeats 4000000 in
theorem hullOf_any (n : Nat) (a : Option Addr) (len cap : Nat) (g : Nat → Nat) (s : Nat) (w : World) (h10 : n ≤ 10) (hl : len ≤ maxLen) (hg : ∀ k, k < len → g k < pw n) (hs : s < pw n) (hr : Row w a len (fun k => (g k : Nat))) :
    Calls Tryd.prog 23 #[.agg #[.int .i64 (n : Nat), .slice a len cap], .int .i64 (s : Nat)] w fun e w' => e = .returned (.int .i64 (hul g len n s : Nat)) ∧ Below w.heap.size w w' := by
  unfold maxLen at hl
  have hpn := pw_le n h10
  have hpp := pw_pos n
  obtain ⟨W0, HW0⟩ : ∃ W0, Hid (W0 = w.alloc (.cells #[.int .i64 (n : Nat), .slice a len cap] 24)) := ⟨_, rfl⟩
  have HB0 : Hid (Below w.heap.size w W0) := by rw [HW0.out]; exact (Below.refl _ _).alloc (Nat.le_refl _) _
  have K0 : Held W0 w.heap.size n a len cap (fun k => (g k : Nat)) := by rw [HW0.out]; exact Fam.box hr
  have HG : Hid (∀ k, k < len → g k < pw n) := hg
  obtain ⟨G, HGG⟩ : ∃ G : Nat → Nat → Bool, Hid (G = fun p j => allB (fun i => hqB s p (rst n (g i))) j) := ⟨_, rfl⟩
  have HG0 : Hid (∀ p, G p 0 = true) := fun p => by rw [HGG.out]; rfl
  have HGS : Hid (∀ p j, G p (j + 1) = (G p j && hqB s p (rst n (g j)))) := fun p j => by rw [HGG.out]; rfl
  obtain ⟨P, HP⟩ : ∃ P : Nat → Bool, Hid (P = fun p => G p len) := ⟨_, rfl⟩
  have HPA : Hid (∀ p, P p = G p len) := fun p => by rw [HP.out]
  have HE : Hid (setBy P n = hul g len n s) := by rw [Hid, HP.out, HGG.out]; exact hul_ref h10 hg hs
  rw [← HE.out]
  clear hr hg HGG HP
  go_enter Tryd.func23, Tryd.ntmps23
  go_wp2_with fail
  rw [← HW0.out]
  go_loopw [5, 6] (fun o i wx => ∃ k : Nat, k ≤ n ∧ i = .int .i64 k ∧ o = .int .i64 (setBy P k : Nat) ∧ Hid (Below W0.heap.size W0 wx)) (fun _ i _ => n - (intOf i).toNat)
  case atStart => exact ⟨0, Nat.zero_le _, rfl, rfl, Below.refl _ _⟩
  case round =>
    obtain ⟨k, hk, rfl, rfl, HBx⟩ := hrel
    have k0 := (K0.step HBx.out).c0
    by_cases hlt : k < n
    · have hlt' : (k : Int) < (n : Int) := by omega
      go_wp2_with fail
      go_loopw [7, 8] (fun o i wy => ∃ j : Nat, j ≤ len ∧ i = .int .i64 j ∧ o = .bool (G k j) ∧ Hid (Below W0.heap.size W0 wy)) (fun _ i _ => len - (intOf i).toNat)
      case atStart => exact ⟨0, Nat.zero_le _, rfl, by rw [HG0.out k], HBx⟩
      case round =>
        clear HBx k0
        obtain ⟨j, hj, rfl, rfl, HBx⟩ := hrel
        have K1 := K0.step HBx.out
        have k0 := K1.c0
        have k1 := K1.c1
        by_cases hlt2 : j < len
        · obtain ⟨b2, off, rfl, hcc⟩ := K1.row j hlt2
          have hc2 : wr.cell? ⟨b2, off + j, none⟩ = some (.int .i64 (g j : Nat)) := hcc
          have hlt2' : (j : Int) < (len : Int) := by omega
          have hgj := HG.out j hlt2
          have hgs := HGS.out k j
          obtain ⟨C, hC⟩ : ∃ C, rst n (g j) = C := ⟨_, rfl⟩
          rw [hC] at hgs
          have hCe : ((pw n : Nat) : Int) - 1 - ((g j : Nat) : Int) = (C : Int) := by rw [← hC]; unfold rst; omega
          have hCl : C < 1024 := by rw [← hC]; unfold rst; omega
          have HGE : Hid (G k (j + 1) = (G k j && (!(lack s C == 0) || C.testBit k))) := hgs
          clear hcc hgs hC K1
          rcases (Bool.eq_false_or_eq_true (G k j)).symm with ha | ha
          · rw [ha]
            go_wp2_with fail
            go_big_quiet (first | (go_at_call 31; exact Calls.quiet_of_same (bit_quiet n _ (by omega))))
            go_wp2_with fail
            go_roundw
            case rel => exact ⟨j + 1, by omega, by go_num, by rw [HGE.out, ha]; rfl, below_drewN HBx.out _⟩
            case measure => simp [intOf]; omega
          · rcases (Bool.eq_false_or_eq_true (lack s C == 0)).symm with hin | hin
            · rw [ha]
              go_wp2_with fail
              go_big_quiet (first | (go_at_call 31; exact Calls.quiet_of_same (bit_quiet n _ (by omega))))
              go_wp2_with fail
              refine (inside_any s C _ (by omega) (by omega)).mono ?_
              rintro e w2 ⟨rfl, rfl⟩
              rw [hin]
              go_wp2_with fail
              go_roundw
              case rel => exact ⟨j + 1, by omega, by go_num, by rw [HGE.out, ha, hin]; rfl, below_drewN HBx.out _⟩
              case measure => simp [intOf]; omega
            · rw [ha]
              go_wp2_with fail
              go_big_quiet (first | (go_at_call 31; exact Calls.quiet_of_same (bit_quiet n _ (by omega))))
              go_wp2_with fail
              refine (inside_any s C _ (by omega) (by omega)).mono ?_
              rintro e w2 ⟨rfl, rfl⟩
              rw [hin]
              go_wp2_with fail
              refine (in_any C k _ (by omega) (by omega)).mono ?_
              rintro e w3 ⟨rfl, rfl⟩
              go_wp2_with fail
              go_roundw
              case rel => exact ⟨j + 1, by omega, by go_num, by rw [HGE.out, ha, hin]; rfl, below_drewN HBx.out _⟩
              case measure => simp [intOf]; omega
        · obtain rfl : j = len := by omega
          have hl1 : setBy P k < 1024 := Nat.lt_of_lt_of_le (setBy_lt _ k) (pw_le k (by omega))
          have hl3 := pw_le k (by omega)
          have hpa := HPA.out k
          rw [← hpa]
          rcases (Bool.eq_false_or_eq_true (P k)).symm with ha | ha
          · have HS : Hid (setBy P (k + 1) = setBy P k) := setBy_no ha
            rw [ha]
            clear hpa
            go_wp2_with fail
            go_roundw
            case rel => exact ⟨k + 1, by omega, by go_num, by rw [HS.out], HBx⟩
            case measure => simp [intOf]; omega
          · have HS : Hid (setBy P (k + 1) = setBy P k + pw k) := setBy_yes ha
            rw [ha]
            clear hpa
            go_wp2_with fail
            refine (bit_any k _ (by omega)).mono ?_
            rintro e w' ⟨rfl, rfl⟩
            go_wp2_with fail
            go_roundw
            case rel => exact ⟨k + 1, by omega, by go_num, by rw [HS.out]; go_num, HBx⟩
            case measure => simp [intOf]; omega
    · obtain rfl : k = n := by omega
      go_wp2_with fail
      go_ret
      exact ⟨rfl, Below.then HB0.out HBx.out⟩

set_option maxHeartbeats 4000000 in
theorem cornersOf_any (n : Nat) (a : Option Addr) (len cap : Nat) (g : Nat → Nat) (s : Nat) (w : World) (h10 : n ≤ 10) (hl : len ≤ maxLen) (hg : ∀ k, k < len → g k < pw n) (hs : s < pw n) (hr : Row w a len (fun k => (g k : Nat))) :
    Calls Tryd.prog 26 #[.agg #[.int .i64 (n : Nat), .slice a len cap], .int .i64 (s : Nat)] w fun e w' => e = .returned (.int .i64 (crn g len n s : Nat)) ∧ Below w.heap.size w w' := by
  have hpn := pw_le n h10
  have hpp := pw_pos n
  have hs1 : s < 1024 := by omega
  obtain ⟨W0, HW0⟩ : ∃ W0, Hid (W0 = w.alloc (.cells #[.int .i64 (n : Nat), .slice a len cap] 24)) := ⟨_, rfl⟩
  have HB0 : Hid (Below w.heap.size w W0) := by rw [HW0.out]; exact (Below.refl _ _).alloc (Nat.le_refl _) _
  have K0 : Held W0 w.heap.size n a len cap (fun k => (g k : Nat)) := by rw [HW0.out]; exact Fam.box hr
  have HHA : Hid (∀ x, x < pw n → ∀ w', Below W0.heap.size W0 w' → Calls Tryd.prog 23 #[.agg #[.int .i64 (n : Nat), .slice a len cap], .int .i64 (x : Nat)] w' fun e w'' => e = .returned (.int .i64 (hul g len n x : Nat)) ∧ Below w'.heap.size w' w'') := fun x hx w' h => hullOf_any n a len cap g x w' h10 hl hg hx (K0.step h).row
  have hc0 : ∀ w', Below W0.heap.size W0 w' → w'.cell? ⟨w.heap.size, 0, none⟩ = some (.int .i64 (n : Nat)) := fun w' h => (K0.step h).c0
  have hc1 : ∀ w', Below W0.heap.size W0 w' → w'.cell? ⟨w.heap.size, 1, none⟩ = some (.slice a len cap) := fun w' h => (K0.step h).c1
  have HHL : Hid (∀ x, hul g len n x < pw n) := fun x => hul_lt _ _ _ _
  obtain ⟨H, HH⟩ : ∃ H : Nat → Nat, Hid (H = hul g len n) := ⟨_, rfl⟩
  rw [← HH.out] at HHA HHL
  obtain ⟨P, HP⟩ : ∃ P : Nat → Bool, Hid (P = fun p => s.testBit p && !(H (s - pw p)).testBit p) := ⟨_, rfl⟩
  have HPA : Hid (∀ p, P p = (s.testBit p && !(H (s - pw p)).testBit p)) := fun p => by rw [HP.out]
  have HE : Hid (setBy P n = crn g len n s) := by rw [Hid, HP.out, HH.out]; rfl
  rw [← HE.out]
  clear hr hg HP HH hl
  go_enter Tryd.func26, Tryd.ntmps26
  go_wp2_with fail
  rw [← HW0.out]
  go_loopw [5, 6] (fun o i wx => ∃ k : Nat, k ≤ n ∧ i = .int .i64 k ∧ o = .int .i64 (setBy P k : Nat) ∧ Hid (Below W0.heap.size W0 wx)) (fun _ i _ => n - (intOf i).toNat)
  case atStart => exact ⟨0, Nat.zero_le _, rfl, rfl, Below.refl _ _⟩
  case round =>
    obtain ⟨k, hk, rfl, rfl, HBx⟩ := hrel
    have k0 := (K0.step HBx.out).c0
    have hl1 : setBy P k < 1024 := Nat.lt_of_lt_of_le (setBy_lt _ k) (pw_le k (by omega))
    by_cases hlt : k < n
    · have hlt' : (k : Int) < (n : Int) := by omega
      have hl3 := pw_le k (by omega)
      have hpa := HPA.out k
      rcases (Bool.eq_false_or_eq_true (s.testBit k)).symm with hb | hb
      · rw [hb] at hpa
        have HS : Hid (setBy P (k + 1) = setBy P k) := setBy_no hpa
        clear hpa
        go_wp2_with fail
        refine wp_region_held_drew (S := (fun w' => Below W0.heap.size W0 w')) (by kernel_rfl) (HBx.out.drew) (fun hHeld => ?_)
        refine wpAnyH_take (i := 0) (oi := { dst := some 13, op := Go.Op.move (Go.Operand.tmp 1), type := 3, pos := "fix.go:475", after := #[], guard := none }) (v := ?_) rfl (by kernel_rfl) (by kernel_rfl) (by kernel_rfl) (fun _ _ _ h => h) (Or.inl ⟨by rfl, ?hy⟩) (by assumption) ?_
        case hy => (intro w9 hSw; (try dsimp only at hSw); go_simp; try with_reducible rfl)
        try simp only [Act.put, List.setIfInBounds_toArray, List.set_cons_zero, List.set_cons_succ]
        refine wpAnyH_take (i := 1) (oi := { dst := some 14, op := Go.Op.move (Go.Operand.tmp 6), type := 3, pos := "fix.go:475", after := #[], guard := none }) (v := ?_) rfl (by kernel_rfl) (by kernel_rfl) (by kernel_rfl) (fun _ _ _ h => h) (Or.inl ⟨by rfl, ?hy⟩) (by assumption) ?_
        case hy => (intro w9 hSw; (try dsimp only at hSw); go_simp; try with_reducible rfl)
        try simp only [Act.put, List.setIfInBounds_toArray, List.set_cons_zero, List.set_cons_succ]
        refine wpAnyH_ready (rs := [2]) (by kernel_rfl) (by simp) ?_
        refine AllReadyH.cons (o := { dst := some 15, op := Go.Op.call { callee := Go.Callee.value (Go.Operand.func 37), args := #[Go.Operand.tmp 13, Go.Operand.tmp 14], argTypes := #[3, 3] }, type := 4, pos := "fix.go:475", after := #[{ on := 0, ground := Go.Ground.data }, { on := 1, ground := Go.Ground.data }], guard := none }) rfl (fun K hK => ?_) AllReadyH.nil
        go_simp
        refine (in_as s k false _ (by omega) (by omega) hb).mono ?_
        rintro e w6 ⟨rfl, hw6⟩
        subst hw6
        refine hK.out _ _ ?_ (fun hHeld => ?_)
        · first | assumption | exact Below.then (by assumption) (by assumption)
        clear hK K
        try simp only [Act.put, List.setIfInBounds_toArray, List.set_cons_zero, List.set_cons_succ]
        refine wpAnyH_take (i := 3) (oi := { dst := some 16, op := Go.Op.move (Go.Operand.tmp 15), type := 4, pos := "fix.go:475", after := #[{ on := 2, ground := Go.Ground.data }, { on := 2, ground := Go.Ground.chain }], guard := none }) (v := ?_) rfl (by kernel_rfl) (by kernel_rfl) (by kernel_rfl) (fun _ _ _ h => h) (Or.inl ⟨by rfl, ?hy⟩) (by assumption) ?_
        case hy => (intro w9 hSw; (try dsimp only at hSw); go_simp; try with_reducible rfl)
        try simp only [Act.put, List.setIfInBounds_toArray, List.set_cons_zero, List.set_cons_succ]
        refine wpAnyH_take (i := 4) (oi := { dst := some 17, op := Go.Op.load 24 (Go.Operand.tmp 2), type := 24, pos := "fix.go:475", after := #[{ on := 3, ground := Go.Ground.guard }], guard := some (3, true) }) (v := undef) rfl (by kernel_rfl) (by kernel_rfl) (by kernel_rfl) (fun _ _ _ h => h) (Or.inr ⟨by rfl, rfl⟩) (by assumption) ?_
        try simp only [Act.put, List.setIfInBounds_toArray, List.set_cons_zero, List.set_cons_succ]
        refine wpAnyH_take (i := 5) (oi := { dst := some 18, op := Go.Op.move (Go.Operand.tmp 1), type := 3, pos := "fix.go:475", after := #[{ on := 3, ground := Go.Ground.guard }], guard := some (3, true) }) (v := undef) rfl (by kernel_rfl) (by kernel_rfl) (by kernel_rfl) (fun _ _ _ h => h) (Or.inr ⟨by rfl, rfl⟩) (by assumption) ?_
        try simp only [Act.put, List.setIfInBounds_toArray, List.set_cons_zero, List.set_cons_succ]
        refine wpAnyH_take (i := 6) (oi := { dst := some 19, op := Go.Op.move (Go.Operand.tmp 6), type := 3, pos := "fix.go:475", after := #[{ on := 3, ground := Go.Ground.guard }], guard := some (3, true) }) (v := undef) rfl (by kernel_rfl) (by kernel_rfl) (by kernel_rfl) (fun _ _ _ h => h) (Or.inr ⟨by rfl, rfl⟩) (by assumption) ?_
        try simp only [Act.put, List.setIfInBounds_toArray, List.set_cons_zero, List.set_cons_succ]
        refine wpAnyH_take (i := 7) (oi := { dst := some 20, op := Go.Op.call { callee := Go.Callee.value (Go.Operand.func 31), args := #[Go.Operand.tmp 19], argTypes := #[3] }, type := 3, pos := "fix.go:475", after := #[{ on := 6, ground := Go.Ground.data }, { on := 3, ground := Go.Ground.chain }, { on := 3, ground := Go.Ground.guard }], guard := some (3, true) }) (v := undef) rfl (by kernel_rfl) (by kernel_rfl) (by kernel_rfl) (fun _ _ _ h => h) (Or.inr ⟨by rfl, rfl⟩) (by assumption) ?_
        try simp only [Act.put, List.setIfInBounds_toArray, List.set_cons_zero, List.set_cons_succ]
        refine wpAnyH_take (i := 8) (oi := { dst := some 21, op := Go.Op.binOp Go.BinOp.sub 3 (Go.Operand.tmp 18) (Go.Operand.tmp 20) 3, type := 3, pos := "fix.go:475", after := #[{ on := 5, ground := Go.Ground.data }, { on := 7, ground := Go.Ground.data }, { on := 3, ground := Go.Ground.guard }], guard := some (3, true) }) (v := undef) rfl (by kernel_rfl) (by kernel_rfl) (by kernel_rfl) (fun _ _ _ h => h) (Or.inr ⟨by rfl, rfl⟩) (by assumption) ?_
        try simp only [Act.put, List.setIfInBounds_toArray, List.set_cons_zero, List.set_cons_succ]
        refine wpAnyH_take (i := 9) (oi := { dst := some 22, op := Go.Op.call { callee := Go.Callee.value (Go.Operand.func 23), args := #[Go.Operand.tmp 17, Go.Operand.tmp 21], argTypes := #[24, 3] }, type := 3, pos := "fix.go:475", after := #[{ on := 4, ground := Go.Ground.data }, { on := 8, ground := Go.Ground.data }, { on := 7, ground := Go.Ground.chain }, { on := 3, ground := Go.Ground.guard }], guard := some (3, true) }) (v := undef) rfl (by kernel_rfl) (by kernel_rfl) (by kernel_rfl) (fun _ _ _ h => h) (Or.inr ⟨by rfl, rfl⟩) (by assumption) ?_
        try simp only [Act.put, List.setIfInBounds_toArray, List.set_cons_zero, List.set_cons_succ]
        refine wpAnyH_take (i := 10) (oi := { dst := some 23, op := Go.Op.move (Go.Operand.tmp 6), type := 3, pos := "fix.go:475", after := #[{ on := 3, ground := Go.Ground.guard }], guard := some (3, true) }) (v := undef) rfl (by kernel_rfl) (by kernel_rfl) (by kernel_rfl) (fun _ _ _ h => h) (Or.inr ⟨by rfl, rfl⟩) (by assumption) ?_
        try simp only [Act.put, List.setIfInBounds_toArray, List.set_cons_zero, List.set_cons_succ]
        refine wpAnyH_take (i := 11) (oi := { dst := some 24, op := Go.Op.call { callee := Go.Callee.value (Go.Operand.func 37), args := #[Go.Operand.tmp 22, Go.Operand.tmp 23], argTypes := #[3, 3] }, type := 4, pos := "fix.go:475", after := #[{ on := 9, ground := Go.Ground.data }, { on := 10, ground := Go.Ground.data }, { on := 9, ground := Go.Ground.chain }, { on := 3, ground := Go.Ground.guard }], guard := some (3, true) }) (v := undef) rfl (by kernel_rfl) (by kernel_rfl) (by kernel_rfl) (fun _ _ _ h => h) (Or.inr ⟨by rfl, rfl⟩) (by assumption) ?_
        try simp only [Act.put, List.setIfInBounds_toArray, List.set_cons_zero, List.set_cons_succ]
        refine wpAnyH_take (i := 12) (oi := { dst := some 25, op := Go.Op.unOp Go.UnOp.not 4 (Go.Operand.tmp 24), type := 4, pos := "fix.go:475", after := #[{ on := 11, ground := Go.Ground.data }, { on := 3, ground := Go.Ground.guard }], guard := some (3, true) }) (v := undef) rfl (by kernel_rfl) (by kernel_rfl) (by kernel_rfl) (fun _ _ _ h => h) (Or.inr ⟨by rfl, rfl⟩) (by assumption) ?_
        try simp only [Act.put, List.setIfInBounds_toArray, List.set_cons_zero, List.set_cons_succ]
        refine wpAnyH_take (i := 13) (oi := { dst := some 26, op := Go.Op.pick (Go.Operand.tmp 16) (Go.Operand.tmp 25) (Go.Operand.const (Go.Value.bool false)), type := 4, pos := "fix.go:475", after := #[{ on := 3, ground := Go.Ground.data }, { on := 12, ground := Go.Ground.data }], guard := none }) (v := ?_) rfl (by kernel_rfl) (by kernel_rfl) (by kernel_rfl) (fun _ _ _ h => h) (Or.inl ⟨by rfl, ?hy⟩) (by assumption) ?_
        case hy => (intro w9 hSw; (try dsimp only at hSw); go_simp; try with_reducible rfl)
        try simp only [Act.put, List.setIfInBounds_toArray, List.set_cons_zero, List.set_cons_succ]
        refine wpAnyH_done (by kernel_rfl) ?_ _
        try simp only [Act.put, List.setIfInBounds_toArray, List.set_cons_zero, List.set_cons_succ]
        have HB7 := (show Hid (Below W0.heap.size W0 _) from hHeld)
        clear hHeld
        go_wp2_with fail
        go_roundw
        case rel => exact ⟨k + 1, by omega, by go_num, by rw [HS.out], HB7⟩
        case measure => simp [intOf]; omega
      · have hk10 : k < 10 := by omega
        have hsub := sub_lt' hs1 hk10 hb
        have hple := pw_le_bit hb
        obtain ⟨d, hd⟩ : ∃ d, s - pw k = d := ⟨_, rfl⟩
        rw [hd] at hsub hpa
        have hds : ((s : Nat) : Int) - ((pw k : Nat) : Int) = (d : Int) := by omega
        have hdw : IntKind.i64.wrap (d : Int) = (d : Int) := wrap_i64_small _ (by omega) (by omega)
        have HHU := (show Hid _ from HHA.out d (by omega))
        obtain ⟨h, hhd⟩ : ∃ h, H d = h := ⟨_, rfl⟩
        have hh := HHL.out d
        rw [hhd] at HHU hpa hh
        rw [hb, Bool.true_and] at hpa
        clear hd hhd hple
        cases hv : h.testBit k
        · rw [hv] at hpa
          have HS : Hid (setBy P (k + 1) = setBy P k + pw k) := setBy_yes hpa
          clear hpa
          go_wp2_with fail
          refine wp_region_held_drew (S := (fun w' => Below W0.heap.size W0 w')) (by kernel_rfl) (HBx.out.drew) (fun hHeld => ?_)
          refine wpAnyH_take (i := 0) (oi := { dst := some 13, op := Go.Op.move (Go.Operand.tmp 1), type := 3, pos := "fix.go:475", after := #[], guard := none }) (v := ?_) rfl (by kernel_rfl) (by kernel_rfl) (by kernel_rfl) (fun _ _ _ h => h) (Or.inl ⟨by rfl, ?hy⟩) (by assumption) ?_
          case hy => (intro w9 hSw; (try dsimp only at hSw); go_simp; try with_reducible rfl)
          try simp only [Act.put, List.setIfInBounds_toArray, List.set_cons_zero, List.set_cons_succ]
          refine wpAnyH_take (i := 1) (oi := { dst := some 14, op := Go.Op.move (Go.Operand.tmp 6), type := 3, pos := "fix.go:475", after := #[], guard := none }) (v := ?_) rfl (by kernel_rfl) (by kernel_rfl) (by kernel_rfl) (fun _ _ _ h => h) (Or.inl ⟨by rfl, ?hy⟩) (by assumption) ?_
          case hy => (intro w9 hSw; (try dsimp only at hSw); go_simp; try with_reducible rfl)
          try simp only [Act.put, List.setIfInBounds_toArray, List.set_cons_zero, List.set_cons_succ]
          refine wpAnyH_ready (rs := [2]) (by kernel_rfl) (by simp) ?_
          refine AllReadyH.cons (o := { dst := some 15, op := Go.Op.call { callee := Go.Callee.value (Go.Operand.func 37), args := #[Go.Operand.tmp 13, Go.Operand.tmp 14], argTypes := #[3, 3] }, type := 4, pos := "fix.go:475", after := #[{ on := 0, ground := Go.Ground.data }, { on := 1, ground := Go.Ground.data }], guard := none }) rfl (fun K hK => ?_) AllReadyH.nil
          go_simp
          refine (in_as s k true _ (by omega) (by omega) hb).mono ?_
          rintro e w6 ⟨rfl, hw6⟩
          subst hw6
          refine hK.out _ _ ?_ (fun hHeld => ?_)
          · first | assumption | exact Below.then (by assumption) (by assumption)
          clear hK K
          try simp only [Act.put, List.setIfInBounds_toArray, List.set_cons_zero, List.set_cons_succ]
          refine wpAnyH_take (i := 3) (oi := { dst := some 16, op := Go.Op.move (Go.Operand.tmp 15), type := 4, pos := "fix.go:475", after := #[{ on := 2, ground := Go.Ground.data }, { on := 2, ground := Go.Ground.chain }], guard := none }) (v := ?_) rfl (by kernel_rfl) (by kernel_rfl) (by kernel_rfl) (fun _ _ _ h => h) (Or.inl ⟨by rfl, ?hy⟩) (by assumption) ?_
          case hy => (intro w9 hSw; (try dsimp only at hSw); go_simp; try with_reducible rfl)
          try simp only [Act.put, List.setIfInBounds_toArray, List.set_cons_zero, List.set_cons_succ]
          refine wpAnyH_take (i := 4) (oi := { dst := some 17, op := Go.Op.load 24 (Go.Operand.tmp 2), type := 24, pos := "fix.go:475", after := #[{ on := 3, ground := Go.Ground.guard }], guard := some (3, true) }) (v := ?_) rfl (by kernel_rfl) (by kernel_rfl) (by kernel_rfl) (fun _ _ _ h => h) (Or.inl ⟨by rfl, ?hy⟩) (by assumption) ?_
          case hy => (intro w9 hSw; (try dsimp only at hSw); go_simp; try with_reducible rfl)
          try simp only [Act.put, List.setIfInBounds_toArray, List.set_cons_zero, List.set_cons_succ]
          refine wpAnyH_take (i := 5) (oi := { dst := some 18, op := Go.Op.move (Go.Operand.tmp 1), type := 3, pos := "fix.go:475", after := #[{ on := 3, ground := Go.Ground.guard }], guard := some (3, true) }) (v := ?_) rfl (by kernel_rfl) (by kernel_rfl) (by kernel_rfl) (fun _ _ _ h => h) (Or.inl ⟨by rfl, ?hy⟩) (by assumption) ?_
          case hy => (intro w9 hSw; (try dsimp only at hSw); go_simp; try with_reducible rfl)
          try simp only [Act.put, List.setIfInBounds_toArray, List.set_cons_zero, List.set_cons_succ]
          refine wpAnyH_take (i := 6) (oi := { dst := some 19, op := Go.Op.move (Go.Operand.tmp 6), type := 3, pos := "fix.go:475", after := #[{ on := 3, ground := Go.Ground.guard }], guard := some (3, true) }) (v := ?_) rfl (by kernel_rfl) (by kernel_rfl) (by kernel_rfl) (fun _ _ _ h => h) (Or.inl ⟨by rfl, ?hy⟩) (by assumption) ?_
          case hy => (intro w9 hSw; (try dsimp only at hSw); go_simp; try with_reducible rfl)
          try simp only [Act.put, List.setIfInBounds_toArray, List.set_cons_zero, List.set_cons_succ]
          refine wpAnyH_take (i := 10) (oi := { dst := some 23, op := Go.Op.move (Go.Operand.tmp 6), type := 3, pos := "fix.go:475", after := #[{ on := 3, ground := Go.Ground.guard }], guard := some (3, true) }) (v := ?_) rfl (by kernel_rfl) (by kernel_rfl) (by kernel_rfl) (fun _ _ _ h => h) (Or.inl ⟨by rfl, ?hy⟩) (by assumption) ?_
          case hy => (intro w9 hSw; (try dsimp only at hSw); go_simp; try with_reducible rfl)
          try simp only [Act.put, List.setIfInBounds_toArray, List.set_cons_zero, List.set_cons_succ]
          refine wpAnyH_ready (rs := [7]) (by kernel_rfl) (by simp) ?_
          refine AllReadyH.cons (o := { dst := some 20, op := Go.Op.call { callee := Go.Callee.value (Go.Operand.func 31), args := #[Go.Operand.tmp 19], argTypes := #[3] }, type := 3, pos := "fix.go:475", after := #[{ on := 6, ground := Go.Ground.data }, { on := 3, ground := Go.Ground.chain }, { on := 3, ground := Go.Ground.guard }], guard := some (3, true) }) rfl (fun K hK => ?_) AllReadyH.nil
          go_simp
          refine (bit_any k _ (by omega)).mono ?_
          rintro e w7 ⟨rfl, hw7⟩
          subst hw7
          refine hK.out _ _ ?_ (fun hHeld => ?_)
          · first | assumption | exact Below.then (by assumption) (by assumption)
          clear hK K
          try simp only [Act.put, List.setIfInBounds_toArray, List.set_cons_zero, List.set_cons_succ]
          refine wpAnyH_take (i := 8) (oi := { dst := some 21, op := Go.Op.binOp Go.BinOp.sub 3 (Go.Operand.tmp 18) (Go.Operand.tmp 20) 3, type := 3, pos := "fix.go:475", after := #[{ on := 5, ground := Go.Ground.data }, { on := 7, ground := Go.Ground.data }, { on := 3, ground := Go.Ground.guard }], guard := some (3, true) }) (v := .int .i64 ((d : Nat) : Int)) rfl (by kernel_rfl) (by kernel_rfl) (by kernel_rfl) (fun _ _ _ h => h) (Or.inl ⟨by rfl, ?hy⟩) (by assumption) ?_
          case hy => (intro w9 hSw; (try dsimp only at hSw); go_simp <;> (first | with_reducible rfl | (simp; omega) | omega))
          try simp only [Act.put, List.setIfInBounds_toArray, List.set_cons_zero, List.set_cons_succ]
          refine wpAnyH_ready (rs := [9]) (by kernel_rfl) (by simp) ?_
          refine AllReadyH.cons (o := { dst := some 22, op := Go.Op.call { callee := Go.Callee.value (Go.Operand.func 23), args := #[Go.Operand.tmp 17, Go.Operand.tmp 21], argTypes := #[24, 3] }, type := 3, pos := "fix.go:475", after := #[{ on := 4, ground := Go.Ground.data }, { on := 8, ground := Go.Ground.data }, { on := 7, ground := Go.Ground.chain }, { on := 3, ground := Go.Ground.guard }], guard := some (3, true) }) rfl (fun K hK => ?_) AllReadyH.nil
          go_simp
          refine (HHU.out _ hHeld).mono ?_
          rintro e w8 ⟨rfl, hb8⟩
          refine hK.out _ _ ?_ (fun hHeld => ?_)
          · first | assumption | exact Below.then (by assumption) (by assumption)
          clear hK K
          try simp only [Act.put, List.setIfInBounds_toArray, List.set_cons_zero, List.set_cons_succ]
          refine wpAnyH_ready (rs := [11]) (by kernel_rfl) (by simp) ?_
          refine AllReadyH.cons (o := { dst := some 24, op := Go.Op.call { callee := Go.Callee.value (Go.Operand.func 37), args := #[Go.Operand.tmp 22, Go.Operand.tmp 23], argTypes := #[3, 3] }, type := 4, pos := "fix.go:475", after := #[{ on := 9, ground := Go.Ground.data }, { on := 10, ground := Go.Ground.data }, { on := 9, ground := Go.Ground.chain }, { on := 3, ground := Go.Ground.guard }], guard := some (3, true) }) rfl (fun K hK => ?_) AllReadyH.nil
          go_simp
          refine (in_as h k false _ (by omega) (by omega) hv).mono ?_
          rintro e w9 ⟨rfl, hw9⟩
          subst hw9
          refine hK.out _ _ ?_ (fun hHeld => ?_)
          · first | assumption | exact Below.then (by assumption) (by assumption)
          clear hK K
          try simp only [Act.put, List.setIfInBounds_toArray, List.set_cons_zero, List.set_cons_succ]
          refine wpAnyH_take (i := 12) (oi := { dst := some 25, op := Go.Op.unOp Go.UnOp.not 4 (Go.Operand.tmp 24), type := 4, pos := "fix.go:475", after := #[{ on := 11, ground := Go.Ground.data }, { on := 3, ground := Go.Ground.guard }], guard := some (3, true) }) (v := ?_) rfl (by kernel_rfl) (by kernel_rfl) (by kernel_rfl) (fun _ _ _ h => h) (Or.inl ⟨by rfl, ?hy⟩) (by assumption) ?_
          case hy => (intro w9 hSw; (try dsimp only at hSw); go_simp; try with_reducible rfl)
          try simp only [Act.put, List.setIfInBounds_toArray, List.set_cons_zero, List.set_cons_succ]
          refine wpAnyH_take (i := 13) (oi := { dst := some 26, op := Go.Op.pick (Go.Operand.tmp 16) (Go.Operand.tmp 25) (Go.Operand.const (Go.Value.bool false)), type := 4, pos := "fix.go:475", after := #[{ on := 3, ground := Go.Ground.data }, { on := 12, ground := Go.Ground.data }], guard := none }) (v := ?_) rfl (by kernel_rfl) (by kernel_rfl) (by kernel_rfl) (fun _ _ _ h => h) (Or.inl ⟨by rfl, ?hy⟩) (by assumption) ?_
          case hy => (intro w9 hSw; (try dsimp only at hSw); go_simp; try with_reducible rfl)
          try simp only [Act.put, List.setIfInBounds_toArray, List.set_cons_zero, List.set_cons_succ]
          refine wpAnyH_done (by kernel_rfl) ?_ _
          try simp only [Act.put, List.setIfInBounds_toArray, List.set_cons_zero, List.set_cons_succ]
          have HB7 := (show Hid (Below W0.heap.size W0 w9) from hHeld)
          clear hHeld
          go_wp2_with fail
          refine (bit_any k _ (by omega)).mono ?_
          rintro e w' ⟨rfl, rfl⟩
          go_wp2_with fail
          go_roundw
          case rel => exact ⟨k + 1, by omega, by go_num, by rw [HS.out]; go_num, HB7⟩
          case measure => simp [intOf]; omega
        · rw [hv] at hpa
          have HS : Hid (setBy P (k + 1) = setBy P k) := setBy_no hpa
          clear hpa
          go_wp2_with fail
          refine wp_region_held_drew (S := (fun w' => Below W0.heap.size W0 w')) (by kernel_rfl) (HBx.out.drew) (fun hHeld => ?_)
          refine wpAnyH_take (i := 0) (oi := { dst := some 13, op := Go.Op.move (Go.Operand.tmp 1), type := 3, pos := "fix.go:475", after := #[], guard := none }) (v := ?_) rfl (by kernel_rfl) (by kernel_rfl) (by kernel_rfl) (fun _ _ _ h => h) (Or.inl ⟨by rfl, ?hy⟩) (by assumption) ?_
          case hy => (intro w9 hSw; (try dsimp only at hSw); go_simp; try with_reducible rfl)
          try simp only [Act.put, List.setIfInBounds_toArray, List.set_cons_zero, List.set_cons_succ]
          refine wpAnyH_take (i := 1) (oi := { dst := some 14, op := Go.Op.move (Go.Operand.tmp 6), type := 3, pos := "fix.go:475", after := #[], guard := none }) (v := ?_) rfl (by kernel_rfl) (by kernel_rfl) (by kernel_rfl) (fun _ _ _ h => h) (Or.inl ⟨by rfl, ?hy⟩) (by assumption) ?_
          case hy => (intro w9 hSw; (try dsimp only at hSw); go_simp; try with_reducible rfl)
          try simp only [Act.put, List.setIfInBounds_toArray, List.set_cons_zero, List.set_cons_succ]
          refine wpAnyH_ready (rs := [2]) (by kernel_rfl) (by simp) ?_
          refine AllReadyH.cons (o := { dst := some 15, op := Go.Op.call { callee := Go.Callee.value (Go.Operand.func 37), args := #[Go.Operand.tmp 13, Go.Operand.tmp 14], argTypes := #[3, 3] }, type := 4, pos := "fix.go:475", after := #[{ on := 0, ground := Go.Ground.data }, { on := 1, ground := Go.Ground.data }], guard := none }) rfl (fun K hK => ?_) AllReadyH.nil
          go_simp
          refine (in_as s k true _ (by omega) (by omega) hb).mono ?_
          rintro e w6 ⟨rfl, hw6⟩
          subst hw6
          refine hK.out _ _ ?_ (fun hHeld => ?_)
          · first | assumption | exact Below.then (by assumption) (by assumption)
          clear hK K
          try simp only [Act.put, List.setIfInBounds_toArray, List.set_cons_zero, List.set_cons_succ]
          refine wpAnyH_take (i := 3) (oi := { dst := some 16, op := Go.Op.move (Go.Operand.tmp 15), type := 4, pos := "fix.go:475", after := #[{ on := 2, ground := Go.Ground.data }, { on := 2, ground := Go.Ground.chain }], guard := none }) (v := ?_) rfl (by kernel_rfl) (by kernel_rfl) (by kernel_rfl) (fun _ _ _ h => h) (Or.inl ⟨by rfl, ?hy⟩) (by assumption) ?_
          case hy => (intro w9 hSw; (try dsimp only at hSw); go_simp; try with_reducible rfl)
          try simp only [Act.put, List.setIfInBounds_toArray, List.set_cons_zero, List.set_cons_succ]
          refine wpAnyH_take (i := 4) (oi := { dst := some 17, op := Go.Op.load 24 (Go.Operand.tmp 2), type := 24, pos := "fix.go:475", after := #[{ on := 3, ground := Go.Ground.guard }], guard := some (3, true) }) (v := ?_) rfl (by kernel_rfl) (by kernel_rfl) (by kernel_rfl) (fun _ _ _ h => h) (Or.inl ⟨by rfl, ?hy⟩) (by assumption) ?_
          case hy => (intro w9 hSw; (try dsimp only at hSw); go_simp; try with_reducible rfl)
          try simp only [Act.put, List.setIfInBounds_toArray, List.set_cons_zero, List.set_cons_succ]
          refine wpAnyH_take (i := 5) (oi := { dst := some 18, op := Go.Op.move (Go.Operand.tmp 1), type := 3, pos := "fix.go:475", after := #[{ on := 3, ground := Go.Ground.guard }], guard := some (3, true) }) (v := ?_) rfl (by kernel_rfl) (by kernel_rfl) (by kernel_rfl) (fun _ _ _ h => h) (Or.inl ⟨by rfl, ?hy⟩) (by assumption) ?_
          case hy => (intro w9 hSw; (try dsimp only at hSw); go_simp; try with_reducible rfl)
          try simp only [Act.put, List.setIfInBounds_toArray, List.set_cons_zero, List.set_cons_succ]
          refine wpAnyH_take (i := 6) (oi := { dst := some 19, op := Go.Op.move (Go.Operand.tmp 6), type := 3, pos := "fix.go:475", after := #[{ on := 3, ground := Go.Ground.guard }], guard := some (3, true) }) (v := ?_) rfl (by kernel_rfl) (by kernel_rfl) (by kernel_rfl) (fun _ _ _ h => h) (Or.inl ⟨by rfl, ?hy⟩) (by assumption) ?_
          case hy => (intro w9 hSw; (try dsimp only at hSw); go_simp; try with_reducible rfl)
          try simp only [Act.put, List.setIfInBounds_toArray, List.set_cons_zero, List.set_cons_succ]
          refine wpAnyH_take (i := 10) (oi := { dst := some 23, op := Go.Op.move (Go.Operand.tmp 6), type := 3, pos := "fix.go:475", after := #[{ on := 3, ground := Go.Ground.guard }], guard := some (3, true) }) (v := ?_) rfl (by kernel_rfl) (by kernel_rfl) (by kernel_rfl) (fun _ _ _ h => h) (Or.inl ⟨by rfl, ?hy⟩) (by assumption) ?_
          case hy => (intro w9 hSw; (try dsimp only at hSw); go_simp; try with_reducible rfl)
          try simp only [Act.put, List.setIfInBounds_toArray, List.set_cons_zero, List.set_cons_succ]
          refine wpAnyH_ready (rs := [7]) (by kernel_rfl) (by simp) ?_
          refine AllReadyH.cons (o := { dst := some 20, op := Go.Op.call { callee := Go.Callee.value (Go.Operand.func 31), args := #[Go.Operand.tmp 19], argTypes := #[3] }, type := 3, pos := "fix.go:475", after := #[{ on := 6, ground := Go.Ground.data }, { on := 3, ground := Go.Ground.chain }, { on := 3, ground := Go.Ground.guard }], guard := some (3, true) }) rfl (fun K hK => ?_) AllReadyH.nil
          go_simp
          refine (bit_any k _ (by omega)).mono ?_
          rintro e w7 ⟨rfl, hw7⟩
          subst hw7
          refine hK.out _ _ ?_ (fun hHeld => ?_)
          · first | assumption | exact Below.then (by assumption) (by assumption)
          clear hK K
          try simp only [Act.put, List.setIfInBounds_toArray, List.set_cons_zero, List.set_cons_succ]
          refine wpAnyH_take (i := 8) (oi := { dst := some 21, op := Go.Op.binOp Go.BinOp.sub 3 (Go.Operand.tmp 18) (Go.Operand.tmp 20) 3, type := 3, pos := "fix.go:475", after := #[{ on := 5, ground := Go.Ground.data }, { on := 7, ground := Go.Ground.data }, { on := 3, ground := Go.Ground.guard }], guard := some (3, true) }) (v := .int .i64 ((d : Nat) : Int)) rfl (by kernel_rfl) (by kernel_rfl) (by kernel_rfl) (fun _ _ _ h => h) (Or.inl ⟨by rfl, ?hy⟩) (by assumption) ?_
          case hy => (intro w9 hSw; (try dsimp only at hSw); go_simp <;> (first | with_reducible rfl | (simp; omega) | omega))
          try simp only [Act.put, List.setIfInBounds_toArray, List.set_cons_zero, List.set_cons_succ]
          refine wpAnyH_ready (rs := [9]) (by kernel_rfl) (by simp) ?_
          refine AllReadyH.cons (o := { dst := some 22, op := Go.Op.call { callee := Go.Callee.value (Go.Operand.func 23), args := #[Go.Operand.tmp 17, Go.Operand.tmp 21], argTypes := #[24, 3] }, type := 3, pos := "fix.go:475", after := #[{ on := 4, ground := Go.Ground.data }, { on := 8, ground := Go.Ground.data }, { on := 7, ground := Go.Ground.chain }, { on := 3, ground := Go.Ground.guard }], guard := some (3, true) }) rfl (fun K hK => ?_) AllReadyH.nil
          go_simp
          refine (HHU.out _ hHeld).mono ?_
          rintro e w8 ⟨rfl, hb8⟩
          refine hK.out _ _ ?_ (fun hHeld => ?_)
          · first | assumption | exact Below.then (by assumption) (by assumption)
          clear hK K
          try simp only [Act.put, List.setIfInBounds_toArray, List.set_cons_zero, List.set_cons_succ]
          refine wpAnyH_ready (rs := [11]) (by kernel_rfl) (by simp) ?_
          refine AllReadyH.cons (o := { dst := some 24, op := Go.Op.call { callee := Go.Callee.value (Go.Operand.func 37), args := #[Go.Operand.tmp 22, Go.Operand.tmp 23], argTypes := #[3, 3] }, type := 4, pos := "fix.go:475", after := #[{ on := 9, ground := Go.Ground.data }, { on := 10, ground := Go.Ground.data }, { on := 9, ground := Go.Ground.chain }, { on := 3, ground := Go.Ground.guard }], guard := some (3, true) }) rfl (fun K hK => ?_) AllReadyH.nil
          go_simp
          refine (in_as h k true _ (by omega) (by omega) hv).mono ?_
          rintro e w9 ⟨rfl, hw9⟩
          subst hw9
          refine hK.out _ _ ?_ (fun hHeld => ?_)
          · first | assumption | exact Below.then (by assumption) (by assumption)
          clear hK K
          try simp only [Act.put, List.setIfInBounds_toArray, List.set_cons_zero, List.set_cons_succ]
          refine wpAnyH_take (i := 12) (oi := { dst := some 25, op := Go.Op.unOp Go.UnOp.not 4 (Go.Operand.tmp 24), type := 4, pos := "fix.go:475", after := #[{ on := 11, ground := Go.Ground.data }, { on := 3, ground := Go.Ground.guard }], guard := some (3, true) }) (v := ?_) rfl (by kernel_rfl) (by kernel_rfl) (by kernel_rfl) (fun _ _ _ h => h) (Or.inl ⟨by rfl, ?hy⟩) (by assumption) ?_
          case hy => (intro w9 hSw; (try dsimp only at hSw); go_simp; try with_reducible rfl)
          try simp only [Act.put, List.setIfInBounds_toArray, List.set_cons_zero, List.set_cons_succ]
          refine wpAnyH_take (i := 13) (oi := { dst := some 26, op := Go.Op.pick (Go.Operand.tmp 16) (Go.Operand.tmp 25) (Go.Operand.const (Go.Value.bool false)), type := 4, pos := "fix.go:475", after := #[{ on := 3, ground := Go.Ground.data }, { on := 12, ground := Go.Ground.data }], guard := none }) (v := ?_) rfl (by kernel_rfl) (by kernel_rfl) (by kernel_rfl) (fun _ _ _ h => h) (Or.inl ⟨by rfl, ?hy⟩) (by assumption) ?_
          case hy => (intro w9 hSw; (try dsimp only at hSw); go_simp; try with_reducible rfl)
          try simp only [Act.put, List.setIfInBounds_toArray, List.set_cons_zero, List.set_cons_succ]
          refine wpAnyH_done (by kernel_rfl) ?_ _
          try simp only [Act.put, List.setIfInBounds_toArray, List.set_cons_zero, List.set_cons_succ]
          have HB7 := (show Hid (Below W0.heap.size W0 w9) from hHeld)
          clear hHeld
          go_wp2_with fail
          go_roundw
          case rel => exact ⟨k + 1, by omega, by go_num, by rw [HS.out], HB7⟩
          case measure => simp [intOf]; omega
    · obtain rfl : k = n := by omega
      go_wp2_with fail
      go_ret
      exact ⟨rfl, Below.then HB0.out HBx.out⟩
end Go.Proofs.YtjoklkbfcobfeaaDoor
