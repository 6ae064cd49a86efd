/-
  What binomial.Of, poly.added, poly.check and the reference's Binomial answer. Conditions: numbers from -25 up to 24, and k below 12; slices that read as slices of numbers.
-/
import Derived.Test.YtncjlfhgenmheabDoorPolM
import Derived.Test.YtncjlfhgenmheabDoorGood
namespace Go.Proofs.YtncjlfhgenmheabDoor
open Go.RowKit

theorem tdiv_in {x d : Int} (h1 : -1000000000000000 < x) (h2 : x < 1000000000000000) : -1000000000000000 ≤ Int.tdiv x d ∧ Int.tdiv x d ≤ 1000000000000000 := by
  have h := Int.natAbs_tdiv_le_natAbs x d
  omega
set_option maxHeartbeats 1000000 in
theorem binOf_any (n : Int) (k : Nat) (w : World) (h1 : -25 ≤ n) (h2 : n < 25) (hk : k < 12) :
    Calls Tryd.prog 43 #[.int .i64 n, .int .i64 (k : Nat)] w fun e w' => e = .returned (.int .i64 (bn n k)) ∧ w = w' := by
  go_enter Tryd.func43, Tryd.ntmps43
  go_wp2
  go_loop [5, 8] (fun x i => ∃ j : Nat, j ≤ k ∧ i = .int .i64 (j : Nat) ∧ x = .int .i64 (bn n j)) (fun _ i => k - (intOf i).toNat)
  case atStart => exact ⟨0, Nat.zero_le _, rfl, rfl⟩
  case round =>
    obtain ⟨j, hj, rfl, rfl⟩ := hrel
    by_cases hjk : j < k
    · have hm := bn_mul h1 h2 (k := j) (by omega)
      have hq := tdiv_in (d := (j : Int) + 1) hm.1 hm.2
      have HS : Hid (bn n (j + 1) = Int.tdiv (bn n j * (n - (j : Int))) ((j : Int) + 1)) := bn_succ n j
      have hs := bn_small h1 h2 (k := j) (by omega)
      generalize bn n j = X at *
      have hne : ¬ ((j : Int) + 1 = 0) := by omega
      go_wp2
      go_round
      case rel => exact ⟨j + 1, by omega, by go_num, by rw [HS.out]⟩
      case measure => simp [intOf]; omega
    · obtain rfl : j = k := by omega
      go_wp2
      go_ret
      exact ⟨rfl, rfl⟩
/-- What comes of numbers with binomials. -/
def adB (F : Nat → Int) (n : Int) (k : Nat) : Int := sumI (fun j => F j * bn n j) k
theorem wz_mulr (a b : Int) : wrap64 (wz a * b) = wz (a * b) := by
  rw [← wz_is]
  obtain ⟨k, hk⟩ := wz_k a
  exact wz_eq (k := k * b) (by rw [hk, Int.add_mul, Int.mul_assoc])
theorem ad_step (F : Nat → Int) (n : Int) (k : Nat) : wrap64 (wz (adB F n k) + wrap64 (wz (F k) * bn n k)) = wz (adB F n (k + 1)) := by
  rw [wz_mulr, wz_add]; rfl
set_option maxHeartbeats 1000000 in
theorem added_any (F : Nat → Int) (n : Int) (a : Option Addr) (len cap : Nat) (w : World) (h1 : -25 ≤ n) (h2 : n < 25) (hl : len ≤ 12) (hr : Row w a len (fun k => wz (F k))) :
    Calls Tryd.prog 25 #[.slice a len cap, .int .i64 n] w fun e w' => e = .returned (.int .i64 (wz (adB F n len))) ∧ w = w' := by
  have HR : Hid (Row w a len (fun k => wz (F k))) := hr
  clear hr
  go_enter Tryd.func25, Tryd.ntmps25
  go_wp2_with fail
  go_loop [5, 10] (fun x i => ∃ j : Nat, j ≤ len ∧ i = .int .i64 (j : Nat) ∧ x = .int .i64 (wz (adB F n j))) (fun _ i => len - (intOf i).toNat)
  case atStart => exact ⟨0, Nat.zero_le _, rfl, by simp [adB, sumI, wz]⟩
  case round =>
    obtain ⟨j, hj, rfl, rfl⟩ := hrel
    by_cases hjk : j < len
    · obtain ⟨b', off', rfl, hcc⟩ := HR.out.at hjk
      have hck := hcc j hjk
      have hlr : (j : Int) < (len : Int) := by omega
      have hY := ad_step F n j
      clear hcc
      generalize wz (F j) = Y at *
      generalize wz (adB F n j) = X at *
      go_wp2_with fail
      refine (binOf_any n j _ h1 h2 (by omega)).mono ?_
      rintro e w1 ⟨rfl, rfl⟩
      go_wp2_with fail
      go_round
      case rel => exact ⟨j + 1, by omega, by go_num, by rw [hY]⟩
      case measure => simp [intOf]; omega
    · obtain rfl : j = len := by omega
      go_wp2_with fail
      go_ret
      exact ⟨rfl, rfl⟩

/-- What must be said of an order and a number of steps, from the least one on. -/
def StCk (N : Int) (len : Nat) (f : Nat → Int) (n least : Int) (c : Int) : Prop := (c ≠ 0 ∧ Chk N len f c) ∨ (Chk N len f 0 ∧ ((c = 3 ∧ (n < least ∨ 20 < n)) ∨ (c = 0 ∧ least ≤ n ∧ n ≤ 20)))
theorem StCk.unique {N : Int} {len : Nat} {f : Nat → Int} {n least c c' : Int} (h : StCk N len f n least c) (h' : StCk N len f n least c') : c = c' := by
  rcases h with ⟨h0, h⟩ | ⟨h, k⟩ <;> rcases h' with ⟨h0', h'⟩ | ⟨h', k'⟩
  · exact h.unique h'
  · exact absurd (h.unique h') h0
  · exact absurd (h'.unique h) h0'
  · rcases k with ⟨rfl, k⟩ | ⟨rfl, k⟩ <;> rcases k' with ⟨rfl, k'⟩ | ⟨rfl, k'⟩ <;> first | rfl | (exfalso; omega)
theorem StCk.good {N : Int} {len : Nat} {f : Nat → Int} {n least : Int} (h : StCk N len f n least 0) : Chk N len f 0 ∧ least ≤ n ∧ n ≤ 20 := by
  rcases h with ⟨h0, _⟩ | ⟨h, ⟨h0, _⟩ | ⟨_, h2⟩⟩
  · exact absurd rfl h0
  · cases h0
  · exact ⟨h, h2⟩
set_option maxHeartbeats 1000000 in
theorem pcheck_any (N : Int) (a : Option Addr) (len cap : Nat) (f : Nat → Int) (n least : Int) (w : World) (hl : len ≤ maxLen) (hr : Row w a len f) :
    Calls Tryd.prog 23 #[.agg #[.int .i64 N, .slice a len cap], .int .i64 n, .int .i64 least] w fun e w' => (∃ c, e = .returned (.int .i64 c) ∧ StCk N len f n least c) ∧ Below w.heap.size w w' := by
  have K0 : Held (w.alloc (.cells #[.int .i64 N, .slice a len cap] 24)) w.heap.size N a len cap f := Held.box hr
  have HB0 : Hid (Below w.heap.size w (w.alloc (.cells #[.int .i64 N, .slice a len cap] 24))) := (Below.refl _ _).alloc (Nat.le_refl _) _
  clear hr
  go_enter Tryd.func23, Tryd.ntmps23
  go_wp2_with fail
  refine (check_any N a len cap f _ hl K0.row).mono ?_
  rintro e w1 ⟨⟨c, rfl, hc⟩, hb⟩
  have HB1 : Hid (Below w.heap.size w w1) := Below.then HB0.out hb
  have HC : Hid (Chk N len f c) := hc
  clear hb K0 HB0 hc
  by_cases h0 : c = 0
  · subst h0
    by_cases h1 : n < least
    · have HK : Hid (StCk N len f n least 3) := .inr ⟨HC.out, .inl ⟨rfl, .inl h1⟩⟩
      go_wp2_with fail
      go_ret
      exact ⟨⟨3, rfl, HK.out⟩, HB1.out⟩
    · by_cases h2 : 20 < n
      · have HK : Hid (StCk N len f n least 3) := .inr ⟨HC.out, .inl ⟨rfl, .inr h2⟩⟩
        have h1' : decide (n < least) = false := by simpa using h1
        have h2' : decide (20 < n) = true := by simpa using h2
        go_wp2_with fail
        go_ret
        exact ⟨⟨3, rfl, HK.out⟩, HB1.out⟩
      · have HK : Hid (StCk N len f n least 0) := .inr ⟨HC.out, .inr ⟨rfl, by omega, by omega⟩⟩
        have h1' : decide (n < least) = false := by simpa using h1
        have h2' : decide (20 < n) = false := by simpa using h2
        go_wp2_with fail
        go_ret
        exact ⟨⟨0, rfl, HK.out⟩, HB1.out⟩
  · have hne : (c != 0) = true := by simpa using h0
    have HK : Hid (StCk N len f n least c) := .inl ⟨h0, HC.out⟩
    go_wp2_with fail
    go_ret
    exact ⟨⟨c, rfl, HK.out⟩, HB1.out⟩
end Go.Proofs.YtncjlfhgenmheabDoor
