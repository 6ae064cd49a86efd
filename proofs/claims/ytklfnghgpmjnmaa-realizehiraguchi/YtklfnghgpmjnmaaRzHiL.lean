/-
  What hasselaw.RealizeHiraguchi answers: true. No condition but that a slice reads as a slice of numbers.
-/
import Derived.Test.YtklfnghgpmjnmaaRzDiL
import Derived.Test.YtklfnghgpmjnmaaWide
namespace Go.Proofs.Ytklfnghgpmjnmaa
open Go.RowKit
set_option maxRecDepth 100000

theorem pcn_nmB {A : Nat → Bool} {n : Nat} : ∀ k, pcn (setBy A n) k = nmB (fun i => decide (i < n) && A i) k
  | 0 => rfl
  | k + 1 => by
    rw [pcn, nmB, pcn_nmB k, setBy_bit]
    cases decide (k < n) && A k <;> simp
theorem nmB_more {P : Nat → Bool} {n : Nat} (h : ∀ k, n ≤ k → P k = false) : ∀ d, nmB P (n + d) = nmB P n
  | 0 => rfl
  | d + 1 => by rw [← Nat.add_assoc, nmB, nmB_more h d, h (n + d) (by omega)]; simp
theorem pc_nmB {A : Nat → Bool} {n : Nat} (hn : n ≤ 10) : pc (setBy A n) = nmB A n := by
  unfold pc
  rw [pcn_nmB]
  obtain ⟨d, hd⟩ := Nat.exists_eq_add_of_le hn
  rw [hd, nmB_more (fun k hk => by simp; omega) d]
  refine Nat.le_antisymm (nmB_le _ fun k _ h => ?_) (nmB_le _ fun k hk h => ?_)
  · simp at h; exact h.2
  · simp [hk, h]
theorem dim_wide {g : Nat → Nat} {n k : Nat} (hn : n ≤ 10) (hs : Srd n (ltU g n)) (hu : Sm n n g) (ho : Ord n g) (h : Dim g n k) : k ≤ max 1 (pc (wid g n (pw n))) := by
  by_cases e : 0 < n
  · obtain ⟨c, hc, ⟨A, a1, a2, a3⟩, ch, c1, c2⟩ := dilworth hs e
    have h1 := h.2.2 c hc (hs.chains ch c1 c2)
    have hS : setBy A n < pw n := setBy_lt A n
    have h2 := wid_max g n (pw n) (setBy A n) hS ((antB_iff g n _).2 fun i hi j hj b1 b2 => ?_)
    · rw [pc_nmB hn] at h2
      omega
    · rw [setBy_bit] at b1 b2
      simp [hi] at b1
      simp [hj] at b2
      have h3 := a2 i j b1 b2
      unfold ltU at h3
      simpa [hj] using h3
  · obtain rfl : n = 0 := by omega
    have h1 := h.2.2 1 (by decide) (rz_some (by decide) hu ho)
    omega
set_option maxHeartbeats 4000000 in
theorem realizeHiraguchi_any (n : Int) (a : Option Addr) (len cap : Nat) (f : Nat → Int) (w : World) (hl : len ≤ maxLen) (hr : Row w a len f) :
    Calls Try.prog 7 #[.agg #[.int .i64 n, .slice a len cap]] w fun e w' => e = .returned (.bool true) ∧ Below w.heap.size w w' := by
  obtain ⟨W0, HW0⟩ : ∃ W0, Hid (W0 = w.alloc (.cells #[.int .i64 n, .slice a len cap] 25)) := ⟨_, rfl⟩
  have HBW : Hid (Below w.heap.size w W0) := by rw [HW0.out]; exact (Below.refl _ _).alloc (Nat.le_refl _) _
  have HK0 : Hid (Held W0 w.heap.size n a len cap f) := by rw [HW0.out]; exact Held.box hr
  have HK : Hid (∀ w', Below W0.heap.size W0 w' → Held w' w.heap.size n a len cap f) := fun w' hb => HK0.out.step hb
  clear hr
  go_enter Try.func7, Try.ntmps7
  go_wp2_with fail
  rw [← HW0.out]
  clear HW0 HK0
  refine (realizeBegun_any _).mono ?_
  rintro e wb ⟨rfl, hbb⟩
  have HBB : Hid (Below W0.heap.size W0 wb) := hbb
  clear hbb
  have c0 := (HK.out _ HBB.out).c0
  have c1 := (HK.out _ HBB.out).c1
  go_wp2_with fail
  refine (dim_any n a len cap f _ hl (HK.out _ HBB.out).row).mono ?_
  rintro e w1 ⟨⟨c, hc, hv⟩, hb1⟩
  have HB1 : Hid (Below W0.heap.size W0 w1) := Below.then HBB.out hb1
  have HC : Hid (SCk n len f c) := hc
  clear hb1 c0 c1 HBB hc
  have c0 := (HK.out _ HB1.out).c0
  have c1 := (HK.out _ HB1.out).c1
  by_cases e0 : c = 0
  · subst e0
    have hck := HC.out.good.2.2
    obtain ⟨rfl, hsml⟩ := HC.out.sml
    have HM : Hid (Sml len f) := hsml
    have HCK : Hid (Chk (len : Nat) len f 0) := hck
    clear hsml hck
    rcases hv with ⟨h, _⟩ | ⟨_, l, al, cl, T, hd, hcov, rfl, hrr, hT⟩
    · exact absurd rfl h
    clear hcov hrr hT
    obtain ⟨Ln, HLn⟩ : ∃ Ln : Nat, Hid (Ln = l.length) := ⟨_, rfl⟩
    rw [← HLn.out] at hd ⊢
    have hL0 : 1 ≤ Ln := hd.1
    have h7 := HM.out.h7
    have hLW := dim_wide (by omega) HM.out.srd HM.out.sm HM.out.ord hd
    have hL4 : 4 ≤ len → Ln ≤ len / 2 := fun h => hd.2.2 _ (by omega) ((HM.out.srd.hira h7).2 h)
    have HW4 : Hid (wid (nat f) len (pw len) < 1024) := Nat.lt_of_lt_of_le (wid_lt (nat f) len (pw_pos len) _ (Nat.le_refl _)) (pw_le len (by omega))
    have HL4 : Hid (4 ≤ len → Ln ≤ len / 2) := hL4
    clear hd hL4
    go_wp2_with fail
    refine (widest_any (len : Nat) a len cap f _ hl (HK.out _ HB1.out).row).mono ?_
    rintro e w2 ⟨⟨c', hc', hv⟩, hb2⟩
    obtain rfl := hc'.unique HCK.out
    clear hc'
    rcases hv with ⟨h, _⟩ | ⟨_, rfl⟩
    · exact absurd rfl h
    have HB2 : Hid (Below W0.heap.size W0 w2) := Below.then HB1.out hb2
    clear hb2 c0 c1
    have c0 := (HK.out _ HB2.out).c0
    have c1 := (HK.out _ HB2.out).c1
    generalize wid (nat f) len (pw len) = X at *
    have hL0' : (1 : Int) ≤ (Ln : Int) := by omega
    have hp10 : pc X ≤ 10 := pcn_le X 10
    go_wp2_with fail
    refine (refSize_any X _ HW4.out).mono ?_
    rintro e w3 ⟨rfl, rfl⟩
    by_cases hm1 : ((pc X : Nat) : Int) ≤ 1
    · have hL1 : (Ln : Int) ≤ 1 := by omega
      by_cases h4 : len < 4
      · have h4' : (len : Int) < 4 := by omega
        go_wp2_with fail
        go_ret
        exact ⟨rfl, Below.then HBW.out HB2.out⟩
      · have h4' : ¬ (len : Int) < 4 := by omega
        have hq := HL4.out (by omega)
        have hq2 : (Ln : Int) ≤ (len : Int) / 2 := by omega
        go_wp2_with fail
        go_ret
        exact ⟨rfl, Below.then HBW.out HB2.out⟩
    · have hm2 : (1 : Int) < ((pc X : Nat) : Int) := by omega
      have hL1 : (Ln : Int) ≤ ((pc X : Nat) : Int) := by omega
      by_cases h4 : len < 4
      · have h4' : (len : Int) < 4 := by omega
        go_wp2_with fail
        go_ret
        exact ⟨rfl, Below.then HBW.out HB2.out⟩
      · have h4' : ¬ (len : Int) < 4 := by omega
        have hq := HL4.out (by omega)
        have hq2 : (Ln : Int) ≤ (len : Int) / 2 := by omega
        go_wp2_with fail
        go_ret
        exact ⟨rfl, Below.then HBW.out HB2.out⟩
  · rcases hv with ⟨_, rfl⟩ | ⟨h, _⟩
    · have h0 : (c != 0) = true := by simpa using e0
      go_wp2_with fail
      refine (widest_any n a len cap f _ hl (HK.out _ HB1.out).row).mono ?_
      rintro e w2 ⟨⟨c', hc', hv⟩, hb2⟩
      have HB2 : Hid (Below w.heap.size w w2) := Below.then HBW.out (Below.then HB1.out hb2)
      clear hb2 c0 c1 hc'
      rcases hv with ⟨_, rfl⟩ | ⟨_, rfl⟩
      · go_wp2_with fail
        go_ret
        exact ⟨rfl, HB2.out⟩
      · go_wp2_with fail
        go_ret
        exact ⟨rfl, HB2.out⟩
    · exact absurd h e0
end Go.Proofs.Ytklfnghgpmjnmaa
