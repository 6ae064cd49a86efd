/-
  What poly.Zeta answers. Condition: a slice reads as a slice of numbers.
-/
import Derived.Test.YtncjlfhgenmheabDoorOntP
namespace Go.Proofs.YtncjlfhgenmheabDoor
open Go.RowKit Go.Maps

theorem tops_upto {g : Nat → Nat} {n : Nat} (hn : n ≤ 10) (hg : ∀ k, k < n → g k < pw n) (ho : Ord n g) : tops g n ≤ n := by
  rcases Nat.eq_zero_or_pos (tops g n) with h | h
  · omega
  · have h1 : 0 < tot g n (tops g n - 1) := (tot_pos hn hg ho _).2 (by omega)
    rw [← cN_succ hn hg ho] at h1
    unfold cN at h1
    rw [sumTo_pos] at h1
    obtain ⟨S, hS, hp⟩ := h1
    have h2 : pc S = tops g n - 1 + 1 := by
      cases hc : (pc S == tops g n - 1 + 1)
      · rw [hc, Bool.and_false] at hp; simp [ind] at hp
      · simpa using hc
    have := pc_upto hn hS
    omega
theorem chs_len {g : Nat → Nat} {n : Nat} : (chs g n).length = tops g n + 1 := by rw [chs, chTo_len]
theorem chs_next {g : Nat → Nat} {n i : Nat} (hi : i < tops g n) : nth (chs g n) (i + 1) = tot g n i := by
  simp [nth, chs, chTo, mapTo, hi]
theorem tot_small {g : Nat → Nat} {n : Nat} (hn : n ≤ 10) (hg : ∀ k, k < n → g k < pw n) (ho : Ord n g) (i : Nat) : tot g n i ≤ 10240 := by
  have h := sumTo_le (φ := en g n i) (B := 1024) n (fun u hu => en_le hn hg ho i u hu)
  have : n * 1024 ≤ 10 * 1024 := Nat.mul_le_mul hn (Nat.le_refl _)
  unfold tot; omega
set_option maxHeartbeats 1000000 in
theorem zeta_any (N : Int) (a : Option Addr) (len cap : Nat) (f : Nat → Int) (n : Int) (w : World) (hl : len ≤ maxLen) (hr : Row w a len f) :
    Calls Tryd.prog 10 #[.agg #[.int .i64 N, .slice a len cap], .int .i64 n] w fun e w' => VPost N len f n (-20) zetV e ∧ Below w.heap.size w w' := by
  have K0 : Held (w.alloc (.cells #[.int .i64 N, .slice a len cap] 24)) w.heap.size N a len cap f := Held.box hr
  have HB0 : Hid (Below w.heap.size w (w.alloc (.cells #[.int .i64 N, .slice a len cap] 24))) := (Below.refl _ _).alloc (Nat.le_refl _) _
  clear hr
  go_enter Tryd.func10, Tryd.ntmps10
  go_wp2_with fail
  refine (pcheck_any N a len cap f n (-20) _ hl K0.row).mono ?_
  rintro e w1 ⟨⟨c, rfl, hc⟩, hb⟩
  have K1 := K0.step hb
  have k0 := K1.c0
  have k1 := K1.c1
  have HB1 : Hid (Below w.heap.size w w1) := Below.then HB0.out hb
  have HC : Hid (StCk N len f n (-20) c) := hc
  clear hb K0 HB0 hc
  by_cases h0 : c = 0
  · subst h0
    obtain ⟨hck, hn1, hn2⟩ := HC.out.good
    have HCK : Hid (Chk N len f 0) := hck
    clear hck
    go_wp2_with fail
    refine (chains_any N a len cap f _ hl K1.row).mono ?_
    rintro e w2 ⟨⟨c2, v, hc2, rfl, hv⟩, hb2⟩
    obtain rfl : c2 = 0 := Chk.unique hc2 HCK.out
    have HB2 : Hid (Below w.heap.size w w2) := Below.then HB1.out hb2
    rcases hv with ⟨h0, _⟩ | ⟨_, hv⟩
    · exact absurd rfl h0
    obtain ⟨rfl, h10, hrng, hord⟩ := HCK.out.good
    obtain ⟨av, cv, rfl, hcap, hrv⟩ := hv
    obtain ⟨T, HT⟩ : ∃ T, Hid ((chs (nat f) len).length = T + 1) := ⟨_, chs_len⟩
    have hT : T ≤ 10 := by
      have h1 := HT.out
      rw [chs_len] at h1
      have := tops_upto h10 hrng.small hord
      omega
    obtain ⟨ab, ao, rfl, hcc⟩ := hrv.at (k := 0) (by rw [HT.out]; omega)
    have HR : Hid (∀ b' : Option Addr, (2 ≤ cv → b' = some ⟨ab, ao + 1, none⟩) → Row w2 b' T (fun k => wz ((nth (chs (nat f) len) (k + 1) : Nat) : Int))) := fun b' hb' k hk => by
      have h1 := HT.out
      refine ⟨ab, ao + 1, hb' (by omega), ?_⟩
      have h2 := hcc (k + 1) (by omega)
      rw [show ao + 1 + k = ao + (k + 1) by omega]
      refine h2.trans ?_
      have h3 : nth (chs (nat f) len) (k + 1) ≤ 10240 := by
        rw [chs_len] at h1
        rw [chs_next (by omega)]; exact tot_small h10 hrng.small hord k
      show some (Value.int .i64 _) = some (Value.int .i64 (wz _))
      rw [wz_small (by omega) (by omega)]
    have HV : Hid (wz (adB (fun k => ((nth (chs (nat f) len) (k + 1) : Nat) : Int)) (n - 2) T) = wz (zetV (nat f) len n)) := by
      show _ = _
      unfold zetV; rw [HT.out, Nat.add_sub_cancel]
    rw [HT.out] at hcap ⊢
    clear hb2 K1 hc2 hrv hrng hord hcc HB1 k0 k1 HT
    by_cases hcv : cv = 1
    · subst hcv
      obtain rfl : T = 0 := by omega
      have HR1 := HR.out (some ⟨ab, ao, none⟩) (fun h => absurd h (by omega))
      clear HR
      go_wp2_with fail
      refine (added_any (fun k => ((nth (chs (nat f) len) (k + 1) : Nat) : Int)) (n - 2) (some ⟨ab, ao, none⟩) 0 0 _ (by omega) (by omega) (by omega) HR1).mono ?_
      rintro e w3 ⟨rfl, rfl⟩
      rw [HV.out]
      go_wp2_with fail
      go_ret2
      exact ⟨⟨0, _, HC.out, rfl, .inr ⟨rfl, rfl⟩⟩, HB2.out⟩
    · have HR1 := HR.out (some ⟨ab, ao + 1, none⟩) (fun _ => rfl)
      clear HR
      go_wp2_with fail
      refine (added_any (fun k => ((nth (chs (nat f) len) (k + 1) : Nat) : Int)) (n - 2) (some ⟨ab, ao + 1, none⟩) T (cv - 1) _ (by omega) (by omega) (by omega) HR1).mono ?_
      rintro e w3 ⟨rfl, rfl⟩
      rw [HV.out]
      go_wp2_with fail
      go_ret2
      exact ⟨⟨0, _, HC.out, rfl, .inr ⟨rfl, rfl⟩⟩, HB2.out⟩
  · have hne : (c != 0) = true := by simpa using h0
    go_wp2_with fail
    go_ret2
    exact ⟨⟨c, _, HC.out, rfl, .inl ⟨h0, rfl⟩⟩, HB1.out⟩
end Go.Proofs.YtncjlfhgenmheabDoor
