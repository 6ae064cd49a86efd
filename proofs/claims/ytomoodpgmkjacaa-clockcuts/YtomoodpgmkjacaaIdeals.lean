/-
  What order.Ideals and the reference's Inside, Ideal and Ideals answer. No condition but that a slice reads as a slice of numbers.
-/
import Derived.Test.YtomoodpgmkjacaaNats
namespace Go.Proofs.Ytomoodpgmkjacaa
open Go.RowKit

def fil (I : Nat → Bool) : Nat → List Nat
  | 0 => []
  | k + 1 => if I k = true then fil I k ++ [k] else fil I k
theorem fil_yes {I : Nat → Bool} {k : Nat} (h : I k = true) : fil I (k + 1) = fil I k ++ [k] := by simp [fil, h]
theorem fil_no {I : Nat → Bool} {k : Nat} (h : I k = false) : fil I (k + 1) = fil I k := by simp [fil, h]
theorem fil_len (I : Nat → Bool) : ∀ k, (fil I k).length ≤ k
  | 0 => by simp [fil]
  | k + 1 => by
    have ih := fil_len I k
    cases h : I k
    · rw [fil_no h]; omega
    · rw [fil_yes h, List.length_append]; simp; exact ih
def idlTo (g : Nat → Nat) (s : Nat) : Nat → Bool
  | 0 => true
  | k + 1 => idlTo g s k && !(s.testBit k && lack (g k) s != 0)
theorem idlTo_iff (g : Nat → Nat) (s : Nat) : ∀ n, idlTo g s n = true ↔ ∀ p, p < n → s.testBit p = true → lack (g p) s = 0
  | 0 => by simp [idlTo]
  | n + 1 => by
    simp only [idlTo, Bool.and_eq_true, idlTo_iff g s n]
    constructor
    · rintro ⟨h1, h2⟩
      refine upto_succ h1 fun hb => ?_
      simpa [hb] using h2
    · intro h
      refine ⟨fun p hp => h p (by omega), ?_⟩
      cases hb : s.testBit n
      · simp
      · simp [h n (by omega) hb]
theorem idlTo_false {g : Nat → Nat} {s n k : Nat} (hk : k < n) (hb : s.testBit k = true) (hl : lack (g k) s ≠ 0) : idlTo g s n = false := by
  cases e : idlTo g s n
  · rfl
  · exact absurd ((idlTo_iff g s n).1 e k hk hb) hl
def idls (g : Nat → Nat) (n : Nat) : List Nat := fil (fun s => idlTo g s n) (pw n)

theorem hv_bits {a k : Nat} (h : hv a k = 0) (i : Nat) (hi : k ≤ i) : a.testBit i = false := by
  have h2 : hv a i = 0 := by
    obtain ⟨d, rfl⟩ : ∃ d, i = k + d := ⟨i - k, by omega⟩
    unfold hv at h ⊢
    rw [Nat.pow_add, ← Nat.div_div_eq_div_mul, h, Nat.zero_div]
  rw [hv_bit, h2]; rfl

theorem inside_any (a b : Nat) (w : World) (ha : a < 9223372036854775808) (hb : b < 9223372036854775808) :
    Calls Try.prog 45 #[.int .i64 a, .int .i64 b] w fun e w' => e = .returned (.bool (lack a b == 0)) ∧ w = w' := by
  have HZ : Hid (lack a b = 0 ↔ ∀ i, a.testBit i = true → b.testBit i = true) := lack_zero a b (by omega) (by omega)
  obtain ⟨Q, HQ⟩ : ∃ Q, Hid (Q = (lack a b == 0)) := ⟨_, rfl⟩
  rw [← HQ.out]
  go_enter Try.func45, Try.ntmps45
  go_wp2
  go_loop [0, 1] (fun s t => ∃ k : Nat, s = .int .i64 (hv a k : Nat) ∧ t = .int .i64 (hv b k : Nat) ∧ Hid (∀ i, i < k → a.testBit i = true → b.testBit i = true)) (fun s _ => (intOf s).toNat)
  case atStart => exact ⟨0, by rw [hv_zero], by rw [hv_zero], upto_zero⟩
  case round =>
    obtain ⟨k, rfl, rfl, hok⟩ := hrel
    have hl := hv_le a k
    have hl2 := hv_le b k
    have h1 : (((hv a k : Nat) : Int) % 2 == 1) = a.testBit k := by rw [hv_bit, Bool.eq_iff_iff]; simp; omega
    have h2 : (((hv b k : Nat) : Int) % 2 == 0) = !b.testBit k := by rw [hv_bit, Bool.eq_iff_iff]; simp; omega
    by_cases hp : 0 < hv a k
    · have HA : Hid (hv a (k + 1) = hv a k / 2) := hv_succ a k
      have HB : Hid (hv b (k + 1) = hv b k / 2) := hv_succ b k
      cases ba : a.testBit k
      · rw [ba] at h1
        clear h2
        go_wp2
        go_round
        case rel => exact ⟨k + 1, by rw [HA.out]; simp, by rw [HB.out]; simp, upto_succ hok.out (fun h => by rw [ba] at h; cases h)⟩
        case measure => simp [intOf]; omega
      · rw [ba] at h1
        cases bb : b.testBit k
        · rw [bb] at h2
          have hne : ¬ lack a b = 0 := fun h => by have := HZ.out.1 h k ba; rw [bb] at this; cases this
          have HN : Hid (Q = false) := HQ.out.trans (by simpa using hne)
          clear hne
          go_wp2
          go_ret
          exact ⟨ret_bool HN.out.symm, rfl⟩
        · rw [bb] at h2
          go_wp2
          go_round
          case rel => exact ⟨k + 1, by rw [HA.out]; simp, by rw [HB.out]; simp, upto_succ hok.out (fun _ => bb)⟩
          case measure => simp [intOf]; omega
    · have h0 : hv a k = 0 := by omega
      have hz : lack a b = 0 := HZ.out.2 fun i hi => by
        rcases Nat.lt_or_ge i k with h | h
        · exact hok.out i h hi
        · rw [hv_bits h0 i h] at hi; cases hi
      have HN : Hid (Q = true) := HQ.out.trans (by simp [hz])
      clear h1 h2 hz
      go_wp2
      go_ret
      exact ⟨ret_bool HN.out.symm, rfl⟩

theorem ideal_any (a : Option Addr) (len cap : Nat) (g : Nat → Nat) (s : Nat) (w : World) (h10 : len ≤ 10) (hs : s < 1024) (hg : ∀ k, k < len → g k < 1024) (hr : Row w a len (fun k => (g k : Nat))) :
    Calls Try.prog 32 #[.agg #[.int .i64 (len : Int), .slice a len cap], .int .i64 s] w fun e w' => e = .returned (.bool (idlTo g s len)) ∧ Below w.heap.size w w' := by
  have K0 : Held (w.alloc (.cells #[.int .i64 (len : Int), .slice a len cap] 29)) w.heap.size len a len cap (fun k => (g k : Nat)) := Held.box hr
  have HB0 : Hid (Below w.heap.size w (w.alloc (.cells #[.int .i64 (len : Int), .slice a len cap] 29))) := (Below.refl _ _).alloc (Nat.le_refl _) _
  have HG : Hid (∀ k, k < len → g k < 1024) := hg
  have HR : Hid (Row w a len (fun k => (g k : Nat))) := hr
  clear hg hr K0
  obtain ⟨Q, HQ⟩ : ∃ Q, Hid (Q = idlTo g s len) := ⟨_, rfl⟩
  rw [← HQ.out]
  go_enter Try.func32, Try.ntmps32
  go_wp2
  go_loop [5] (fun t => ∃ k : Nat, k ≤ len ∧ t = .int .i64 k ∧ Hid (∀ p, p < k → s.testBit p = true → lack (g p) s = 0)) (fun t => len - (intOf t).toNat)
  case atStart => exact ⟨0, Nat.zero_le _, rfl, upto_zero⟩
  case round =>
    obtain ⟨k, hk, rfl, hok⟩ := hrel
    by_cases hlt : k < len
    · obtain ⟨b, off, rfl, hc⟩ := HR.out.at hlt
      have hck := hc k hlt
      have hbk : b < w.heap.size := World.block_lt_of_cell? _ _ hck
      have hgk := HG.out k hlt
      clear hc
      have hlt' : (k : Int) < (len : Int) := by omega
      cases hb : s.testBit k
      · go_wp2_with (go_at_call 43; refine (in_any _ _ _ (by omega) (by omega)).mono ?_; rintro e w' ⟨rfl, rfl⟩)
        go_round
        case rel => exact ⟨k + 1, by omega, by go_num, upto_succ hok.out (fun h => by rw [hb] at h; cases h)⟩
        case measure => simp [intOf]; omega
      · by_cases hz : lack (g k) s = 0
        · have hz' : (lack (g k) s == 0) = true := by simp [hz]
          have HZ : Hid (lack (g k) s = 0) := hz
          clear hz
          go_wp2_with (first | (go_at_call 43; refine (in_any _ _ _ (by omega) (by omega)).mono ?_; rintro e w' ⟨rfl, rfl⟩) | (go_at_call 45; refine (inside_any _ _ _ (by omega) (by omega)).mono ?_; rintro e w' ⟨rfl, rfl⟩))
          go_round
          case rel => exact ⟨k + 1, by omega, by go_num, upto_succ hok.out (fun _ => HZ.out)⟩
          case measure => simp [intOf]; omega
        · have hz' : (lack (g k) s == 0) = false := by simpa using hz
          have HN : Hid (Q = false) := HQ.out.trans (idlTo_false hlt hb hz)
          clear hz
          go_wp2_with (first | (go_at_call 43; refine (in_any _ _ _ (by omega) (by omega)).mono ?_; rintro e w' ⟨rfl, rfl⟩) | (go_at_call 45; refine (inside_any _ _ _ (by omega) (by omega)).mono ?_; rintro e w' ⟨rfl, rfl⟩))
          go_ret
          exact ⟨ret_bool HN.out.symm, HB0.out⟩
    · have hkn : k = len := by omega
      subst hkn
      have HN : Hid (Q = true) := HQ.out.trans ((idlTo_iff g s k).2 hok.out)
      go_wp2
      go_ret
      exact ⟨ret_bool HN.out.symm, HB0.out⟩
end Go.Proofs.Ytomoodpgmkjacaa
