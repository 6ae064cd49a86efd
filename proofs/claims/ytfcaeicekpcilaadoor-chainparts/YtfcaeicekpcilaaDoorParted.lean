/-
  That hasselaw.parted answers true of lists that part the points into chains. Conditions: an order of at most ten points that lies in a slice of numbers; a slice of slices of numbers.
-/
import Derived.Test.YtfcaeicekpcilaaDoorPartedM
import Derived.Test.YtfcaeicekpcilaaDoorWide
namespace Go.Proofs.YtfcaeicekpcilaaDoor
open Go.RowKit

theorem isChain_as (n : Nat) (a : Option Addr) (cap : Nat) (g : Nat → Nat) (S : Nat) (v : Bool) (w : World) (hv : chB g n S = v) (h10 : n ≤ 10) (hg : ∀ j, j < n → g j < 1024) (hr : Row w a n (fun k => (g k : Nat))) (hS : S < 1024) :
    Calls Tryd.prog 34 #[.agg #[.int .i64 (n : Int), .slice a n cap], .int .i64 S] w fun e w' => e = .returned (.bool v) ∧ Below w.heap.size w w' :=
  (isChain_any n a cap g S w h10 hg hr hS).mono fun _ _ ⟨h1, h2⟩ => ⟨by rw [← hv]; exact h1, h2⟩

set_option maxHeartbeats 2000000 in
theorem parted_any (n : Nat) (a : Option Addr) (cap : Nat) (g : Nat → Nat) (al : Option Addr) (m capl : Nat) (LL : Nat → List Nat) (w : World) (h10 : n ≤ 10) (hg : ∀ j, j < n → g j < 1024) (ho : Ord n g) (hP : Ptd g n m LL) (hm : m ≤ 10) (hln : ∀ k, k < m → (LL k).length ≤ 1024) (hr : Row w a n (fun k => (g k : Nat))) (hL : LSl w (.slice al m capl) m LL) :
    Calls Tryd.prog 14 #[.agg #[.int .i64 (n : Int), .slice a n cap], .slice al m capl] w fun e w' => e = .returned (.bool true) ∧ Below w.heap.size w w' := by
  have HB0 : Hid (Below w.heap.size w (w.alloc (.cells #[.int .i64 (n : Int), .slice a n cap] 24))) := (Below.refl _ _).alloc (Nat.le_refl _) _
  obtain ⟨W0, HW0⟩ : ∃ W0, Hid (W0 = w.alloc (.cells #[.int .i64 (n : Int), .slice a n cap] 24)) := ⟨_, rfl⟩
  have HK : Hid (Held W0 w.heap.size n a n cap (fun k => (g k : Nat))) := by rw [HW0.out]; exact Held.box hr
  have HL : Hid (LSl W0 (.slice al m capl) m LL) := by rw [HW0.out]; exact hL.below HB0.out
  have HBW : Hid (Below w.heap.size w W0) := by rw [HW0.out]; exact HB0.out
  have HG : Hid (∀ j, j < n → g j < 1024) := hg
  have HP : Hid (Ptd g n m LL) := hP
  have HO : Hid (Ord n g) := ho
  have HLN : Hid (∀ k, k < m → (LL k).length ≤ 1024) := hln
  have hpn := pw_le n h10
  clear hr hL hg hP ho HB0 hln
  go_enter Tryd.func14, Tryd.ntmps14
  go_wp2_with fail
  rw [← HW0.out]
  clear HW0
  go_loopw [5, 6, 7] (fun s c x wx => ∃ i S : Nat, i ≤ m ∧ x = .int .i64 i ∧ s = .int .i64 (S : Nat) ∧ c = .int .i64 (pc S : Nat) ∧ Hid (SeenO n LL i S) ∧ Hid (Below W0.heap.size W0 wx)) (fun _ _ x _ => m - (intOf x).toNat)
  case atStart => exact ⟨0, 0, Nat.zero_le _, rfl, rfl, rfl, SeenO.start n LL, Below.refl _ _⟩
  case round =>
    obtain ⟨i, S, hi, rfl, rfl, rfl, hS, hB⟩ := hrel
    have hSl := hS.out.1
    have hpc : pc S ≤ 10 := pc_le2 S
    by_cases him : i < m
    · have HSI : Hid (SeenI n LL i 0 S 0) := hS.out.into
      have hil : (i : Int) < (m : Int) := by omega
      have HIL : Hid (∀ w', Below W0.heap.size W0 w' → ∃ b off a2 cap2, al = some ⟨b, off, none⟩ ∧ w'.cell? ⟨b, off + i, none⟩ = some (.slice a2 (LL i).length cap2) ∧ Row w' a2 (LL i).length (fun k => (nth (LL i) k : Nat))) := fun w' h => by
        obtain ⟨a9, c9, e9, hrow⟩ := HL.out.below h
        simp only [Value.slice.injEq] at e9
        obtain ⟨b, off, e, v', hc, a2, cap2, rfl, hr2⟩ := hrow i him
        exact ⟨b, off, a2, cap2, by rw [e9.1, e], hc, hr2⟩
      have hLn := HLN.out i him
      have HPI : Hid (∀ t S T, SeenI n LL i t S T → t < (LL i).length → (nth (LL i) t < n ∧ S.testBit (nth (LL i) t) = false ∧ T.testBit (nth (LL i) t) = false) ∧ SeenI n LL i (t + 1) (S + pw (nth (LL i) t)) (T + pw (nth (LL i) t))) := fun t S T h ht => ⟨h.new HP.out HO.out him ht, h.put HP.out HO.out him ht⟩
      have HPE : Hid (∀ S T, SeenI n LL i (LL i).length S T → chB g n T = true ∧ T ≠ 0 ∧ SeenO n LL (i + 1) S) := fun S T h => ⟨h.chain HP.out him, h.some HP.out him, h.out⟩
      have HBI : Hid (Below W0.heap.size W0 wr) := hB.out
      clear hS hB
      obtain ⟨Z, HZ⟩ : ∃ Z, Hid (Z = (LL i).length) := ⟨_, rfl⟩
      rw [← HZ.out] at HIL hLn HPI HPE
      obtain ⟨M, HM⟩ : ∃ M, Hid (M = nth (LL i)) := ⟨_, rfl⟩
      rw [← HM.out] at HPI
      have HIL2 : Hid (∀ w', Below W0.heap.size W0 w' → ∃ b off a2 cap2, al = some ⟨b, off, none⟩ ∧ w'.cell? ⟨b, off + i, none⟩ = some (.slice a2 Z cap2) ∧ Row w' a2 Z (fun k => (M k : Nat))) := by rw [HM.out]; exact HIL.out
      clear HIL HM HZ HLN HP HL
      go_wp2_with fail
      go_loopw [5, 6, 8, 9] (fun s c q x wx => ∃ t S T : Nat, t ≤ Z ∧ x = .int .i64 t ∧ s = .int .i64 (S : Nat) ∧ q = .int .i64 (T : Nat) ∧ c = .int .i64 (pc S : Nat) ∧ Hid (SeenI n LL i t S T) ∧ Hid (Below W0.heap.size W0 wx)) (fun _ _ _ x _ => Z - (intOf x).toNat)
      case atStart => exact ⟨0, S, 0, Nat.zero_le _, rfl, rfl, rfl, rfl, HSI.out, HBI.out⟩
      case round =>
        clear HSI HBI hSl hpc
        obtain ⟨t, S, T, ht, rfl, rfl, rfl, rfl, hS, hB⟩ := hrel
        have hSl := hS.out.1
        have hTl := hS.out.2.1
        have hpc : pc S ≤ 10 := pc_le2 S
        obtain ⟨b1, o1, a2, cap2, rfl, hc1, hr2⟩ := HIL2.out wr hB.out
        have hH := HK.out.step hB.out
        have c0 := hH.c0
        have c1 := hH.c1
        by_cases htl : t < Z
        · obtain ⟨b2, o2, rfl, hcc⟩ := hr2.at htl
          have hc2 := hcc t htl
          obtain ⟨⟨hMn, hSb, hTb⟩, hNext⟩ := HPI.out t S T hS.out htl
          have hpca := pc_add h10 hSl hMn hSb
          have HN : Hid (SeenI n LL i (t + 1) (S + pw (M t)) (T + pw (M t))) := hNext
          have HPC : Hid (pc (S + pw (M t)) = pc S + 1) := hpca
          have hps := pw_small (M t) (by omega)
          have htl' : (t : Int) < (Z : Int) := by omega
          have hMn' : (M t : Int) < (n : Int) := by omega
          clear hcc hr2 hNext hpca hS hTb hH c1
          generalize M t = p at *
          generalize pc S = C at *
          go_wp2_with (first
            | (go_at_call 33; refine (in_as S p _ false hSb (by omega) (by omega)).mono ?_; rintro e w' ⟨rfl, rfl⟩)
            | (go_at_call 25; refine (bit_any p _ (by omega)).mono ?_; rintro e w' ⟨rfl, rfl⟩))
          go_roundw
          case rel => exact ⟨t + 1, S + pw p, T + pw p, by omega, by go_num, by go_num, by go_num, by rw [HPC.out]; go_num, HN.out, hB.out⟩
          case measure => simp [intOf]; omega
        · have htz : t = Z := by omega
          subst htz
          obtain ⟨hch, hT0, hO⟩ := HPE.out S T hS.out
          have HO2 : Hid (SeenO n LL (i + 1) S) := hO
          have hge : (t : Int) ≤ (t : Int) := by omega
          have hTz : (((T : Nat) : Int) == 0) = false := by simpa using hT0
          clear hS hO hr2 hT0
          obtain ⟨C, HCC⟩ : ∃ C, Hid (C = pc S) := ⟨_, rfl⟩
          rw [← HCC.out] at hpc ⊢
          go_wp2_with fail
          refine (isChain_as n a cap g T true _ hch h10 HG.out hH.row (by omega)).mono ?_
          rintro e w1 ⟨rfl, hb1⟩
          have HB1 : Hid (Below W0.heap.size W0 w1) := Below.then hB.out hb1
          clear hb1 hB hH c0 c1 hc1
          go_wp2_with fail
          go_roundw
          case rel => exact ⟨i + 1, S, by omega, by go_num, rfl, by rw [HCC.out], HO2.out, HB1.out⟩
          case measure => simp [intOf]; omega
    · have hin : i = m := by omega
      subst hin
      have hfull := hS.out.full h10 HP.out
      have hH := HK.out.step hB.out
      have c0 := hH.c0
      rw [hfull]
      clear hS hH
      go_wp2_with fail
      go_ret
      exact ⟨rfl, Below.then HBW.out hB.out⟩
end Go.Proofs.YtfcaeicekpcilaaDoor
