/-
  What sets.EachOnce, realize.ahead and the reference's Place and IsPermutation answer. Conditions: at most ten points; a slice reads as a slice of numbers.
  What realize's packed answers: sets of at most seven points, side by side in one number. Conditions: at most seven sets.
-/
import Derived.Test.YtinblbkglkhjmaaDoorPermM
import Derived.Test.YtinblbkglkhjmaaDoorWoQ
import Derived.Test.YtinblbkglkhjmaaDoorNthM
import Derived.Laws.BitsAllLaws
namespace Go.Proofs.YtinblbkglkhjmaaDoor
open Go.RowKit

theorem hasP_as (s p : Nat) (b : Bool) (w : World) (h : s.testBit p = b) (hs : s < 9223372036854775808) (hp : p < 63) :
    Calls Tryd.prog 22 #[.int .i64 s, .int .i64 p] w fun e w' => e = .returned (.bool b) ∧ w = w' := by
  rw [← h]; exact has_any s p w hs hp

set_option maxHeartbeats 2000000 in
theorem once_any (a : Option Addr) (m cap n : Nat) (f : Nat → Int) (w : World) (hm : m ≤ maxLen) (h10 : n ≤ 10) (hr : Row w a m f) :
    Calls Tryd.prog 52 #[.slice a m cap, .int .i64 n] w fun e w' => Ans e (m = n ∧ Once f n n) ∧ w = w' := by
  unfold maxLen at hm
  have HR : Hid (Row w a m f) := hr
  clear hr
  by_cases e1 : m = n
  · subst e1
    have hpl := pw_le m h10
    go_enter Tryd.func52, Tryd.ntmps52
    go_wp2_with fail
    go_loopw [5, 14] (fun s i wx => ∃ k : Nat, k ≤ m ∧ i = .int .i64 k ∧ s = .int .i64 (pl f m k : Nat) ∧ wx = w ∧ Hid (Once f m k)) (fun _ i _ => m - (intOf i).toNat)
    case atStart => exact ⟨0, Nat.zero_le _, rfl, by rw [pl_zero]; rfl, rfl, fun j hj => absurd hj (Nat.not_lt_zero _)⟩
    case round =>
      obtain ⟨k, hk, rfl, rfl, rfl, HO⟩ := hrel
      by_cases hlt : k < m
      · obtain ⟨b, off, rfl, hc⟩ := HR.out k hlt
        have hS := pl_lt f m k
        rcases (Bool.eq_false_or_eq_true (pnt (f k) m)).symm with hp | hp
        · have HN : Hid (¬ (m = m ∧ Once f m m)) := fun h => by
            have := (h.2 k hlt).1
            simp [pnt] at hp; omega
          generalize f k = X at *
          generalize pl f m k = S at *
          go_wp2_with (go_at_call 39; refine (isPoint_as X m _ false hp).mono ?_; rintro e w' ⟨rfl, hww⟩; subst hww)
          go_ret
          exact ⟨Ans.no HN.out, rfl⟩
        · obtain ⟨x, hx, hxm⟩ := pnt_nat hp
          have hbit := pl_bit (f := f) (k := k) hxm
          have HNX : Hid (pl f m (k + 1) = pl f m k ||| pw x) := pl_next hxm hx
          have HIF : Hid ((pl f m k).testBit x = false → Once f m (k + 1)) := fun q j hj => by
            by_cases e : j = k
            · subst e
              refine ⟨⟨by omega, by omega⟩, fun i hi e => ?_⟩
              have := (sn_iff (f := f) (i := x) j).2 ⟨i, hi, by rw [e, hx]⟩
              rw [← hbit, q] at this; cases this
            · exact HO.out j (by omega)
          have HIT : Hid ((pl f m k).testBit x = true → ¬ (m = m ∧ Once f m m)) := fun q h => by
            rw [hbit] at q
            obtain ⟨j, hj, e⟩ := (sn_iff k).1 q
            exact (h.2 k hlt).2 j hj (by rw [e, hx])
          rw [hx] at hc hp
          have hsh := wrap_pow x (by omega)
          have hor : bits .or .i64 ((pl f m k : Nat) : Int) ((pw x : Nat) : Int) = ((pl f m k ||| pw x : Nat) : Int) := or_pw h10 hS hxm
          clear hbit
          generalize pl f m k = S at *
          rcases (Bool.eq_false_or_eq_true (S.testBit x)).symm with hb | hb
          · have HON := (show Hid _ from HIF.out hb)
            clear HIF HIT
            go_wp2_with (first
              | (go_at_call 39; refine (isPoint_as (x : Nat) m _ true hp).mono ?_; rintro e w' ⟨rfl, hww⟩; subst hww)
              | (go_at_call 22; refine (hasP_as S x false _ hb (by omega) (by omega)).mono ?_; rintro e w' ⟨rfl, hww⟩; subst hww))
            go_roundw
            case rel => exact ⟨k + 1, by omega, by go_num, by rw [HNX.out], by first | rfl | trivial, HON.out⟩
            case measure => simp [intOf]; omega
          · have HN := (show Hid _ from HIT.out hb)
            clear HIF HIT
            go_wp2_with (first
              | (go_at_call 39; refine (isPoint_as (x : Nat) m _ true hp).mono ?_; rintro e w' ⟨rfl, hww⟩; subst hww)
              | (go_at_call 22; refine (hasP_as S x true _ hb (by omega) (by omega)).mono ?_; rintro e w' ⟨rfl, hww⟩; subst hww))
            go_ret
            exact ⟨Ans.no HN.out, rfl⟩
      · obtain rfl : k = m := by omega
        go_wp2_with fail
        go_ret
        exact ⟨Ans.yes ⟨by first | rfl | trivial, HO.out⟩, by first | rfl | trivial⟩
  · have d1 : ((m : Int) != (n : Int)) = true := by simp; omega
    go_enter Tryd.func52, Tryd.ntmps52
    go_wp2_with fail
    go_ret
    exact ⟨Ans.no (fun h => e1 h.1), rfl⟩

/-- Where x stands first; or nowhere. -/
def PlaceAt (f : Nat → Int) (m : Nat) (x : Nat) (r : Int) : Prop := (∃ j : Nat, j < m ∧ r = j ∧ f j = x ∧ ∀ i, i < j → f i ≠ x) ∨ (r = -1 ∧ ∀ j, j < m → f j ≠ x)
set_option maxHeartbeats 2000000 in
theorem ahead_any (a : Option Addr) (n cap : Nat) (f : Nat → Int) (w : World) (h10 : n ≤ 10) (ho : Once f n n) (hr : Row w a n f) :
    Calls Tryd.prog 50 #[.slice a n cap] w fun e w' => e = .returned (.slice (some ⟨w.heap.size, 0, none⟩) n n) ∧ Own w' w.heap.size n (bf f n n) ∧ Below w.heap.size w w' := by
  have HR : Hid (Row w a n f) := hr
  have HO : Hid (Once f n n) := ho
  clear hr ho
  have hpl := pw_le n h10
  obtain ⟨i0, hi, hz0, hz1, hz2⟩ := info_parts Tryd.info3
  go_enter Tryd.func50, Tryd.ntmps50
  go_wp2_with (at_make; refine wpList_make_full _ rfl _ _ 22 rfl w.heap.size 3 i0 (.int .i64 0) 1 Tryd.underlying22 hi hz0 hz1 .i64 .i64 _ _ n rfl rfl rfl rfl (by rw [hz2]; omega) (by unfold maxLen; omega) (Nat.le_refl _) ?_; intro w1 hown1 hgrow1)
  have HB1 : Hid (Below w.heap.size w w1) := (Below.refl _ _).grown hgrow1 (Nat.le_refl _) (by simp)
  have HO1 : Hid (Own w1 w.heap.size n (bf f n 0)) := own_made hown1
  clear hown1 hgrow1 hi hz0 hz1 hz2
  go_loopw [4, 12] (fun s i wx => ∃ k : Nat, k ≤ n ∧ i = .int .i64 k ∧ s = .int .i64 (pl f n k : Nat) ∧ Hid (Own wx w.heap.size n (bf f n k)) ∧ Hid (Below w.heap.size w wx)) (fun _ i _ => n - (intOf i).toNat)
  case atStart => exact ⟨0, Nat.zero_le _, rfl, by rw [pl_zero]; rfl, HO1.out, HB1.out⟩
  case round =>
    clear HO1 HB1
    obtain ⟨k, hk, rfl, rfl, HW, HB⟩ := hrel
    by_cases hlt : k < n
    · obtain ⟨b, off, rfl, hc0⟩ := HR.out k hlt
      have hc := (HB.out.cell (World.block_lt_of_cell? _ _ hc0)).trans hc0
      obtain ⟨x, hx⟩ := Int.eq_ofNat_of_zero_le (HO.out k hlt).1.1
      have hxn : x < n := by have := (HO.out k hlt).1.2; omega
      have HNX : Hid (pl f n (k + 1) = pl f n k ||| pw x) := pl_next hxn hx
      have HBF : Hid (bf f n (k + 1) = upd (bf f n k) x (pl f n k)) := by
        show _ = _
        rw [bf, hx]; rfl
      have hS := pl_lt f n k
      have hsh := wrap_pow x (by omega)
      have hor : bits .or .i64 ((pl f n k : Nat) : Int) ((pw x : Nat) : Int) = ((pl f n k ||| pw x : Nat) : Int) := or_pw h10 hS hxn
      have dx := (HW.out x hxn).1
      have fx := (HW.out x hxn).2
      have HW2 : Hid (Own (wr.setCell ⟨w.heap.size, x, none⟩ (.int .i64 (pl f n k : Nat))) w.heap.size n (upd (bf f n k) x (pl f n k))) := HW.out.set x (pl f n k) hxn
      have HB2 : Hid (Below w.heap.size w (wr.setCell ⟨w.heap.size, x, none⟩ (.int .i64 (pl f n k : Nat)))) := Below.setCell (p := ⟨w.heap.size, x, none⟩) HB.out (Nat.le_refl _) _
      rw [hx] at hc
      have hxn' : (x : Int) < (n : Int) := by omega
      generalize pl f n k = S at *
      generalize bf f n k x = Z at *
      clear HW HB hc0
      go_wp2_with fail
      go_roundw
      case rel => exact ⟨k + 1, by omega, by go_num, by rw [HNX.out], by rw [HBF.out]; exact HW2.out, HB2.out⟩
      case measure => simp [intOf]; omega
    · obtain rfl : k = n := by omega
      go_wp2_with fail
      go_ret
      exact ⟨rfl, HW.out, HB.out⟩
end Go.Proofs.YtinblbkglkhjmaaDoor
namespace Go.Proofs.YtinblbkglkhjmaaDoor
open Go.RowKit

/-- The first k sets, side by side. -/
def pkd (g : Nat → Nat) : Nat → Nat
  | 0 => 0
  | k + 1 => pkd g k ||| (g k <<< (7 * k))
theorem pkd_lt {g : Nat → Nat} (hg : ∀ k, g k < 128) : ∀ k, pkd g k < 2 ^ (7 * k)
  | 0 => by simp [pkd]
  | k + 1 => by
    have h1 := pkd_lt hg k
    have h2 : g k <<< (7 * k) < 2 ^ (7 * (k + 1)) := by
      rw [Nat.shiftLeft_eq, show 7 * (k + 1) = 7 + 7 * k by omega, Nat.pow_add]
      exact Nat.mul_lt_mul_of_pos_right (hg k) (Nat.pow_pos (by omega))
    exact Nat.or_lt_two_pow (Nat.lt_of_lt_of_le h1 (Nat.pow_le_pow_right (by omega) (by omega))) h2
theorem pkd_bit {g : Nat → Nat} (hg : ∀ k, g k < 128) (n b a : Nat) (hb : b < n) (ha : a < 7) : (pkd g n).testBit (7 * b + a) = (g b).testBit a := by
  induction n with
  | zero => omega
  | succ n ih =>
    rw [pkd, Nat.testBit_or, Nat.testBit_shiftLeft]
    by_cases h : b < n
    · rw [ih h]
      have : ¬ 7 * n ≤ 7 * b + a := by omega
      simp [this]
    · obtain rfl : b = n := by omega
      have h0 : (pkd g b).testBit (7 * b + a) = false := Nat.testBit_lt_two_pow (Nat.lt_of_lt_of_le (pkd_lt hg b) (Nat.pow_le_pow_right (by omega) (by omega)))
      rw [h0]
      simp [show 7 * b + a - 7 * b = a by omega]

theorem shl_or {S x k : Nat} (hk : k < 7) (hx : x < 128) (hS : S < 2 ^ (7 * k)) : bits .or .u64 (S : Int) (IntKind.u64.wrap ((x : Int) * 2 ^ (k * 7))) = ((S ||| x <<< (7 * k) : Nat) : Int) := by
  have h1 : 2 ^ (7 * k) ≤ 2 ^ 42 := Nat.pow_le_pow_right (by omega) (by omega)
  have h2 : x <<< (7 * k) ≤ 127 * 2 ^ 42 := by
    rw [Nat.shiftLeft_eq]
    exact Nat.mul_le_mul (by omega) h1
  have h3 : ((x : Int) * 2 ^ (k * 7)) = ((x <<< (7 * k) : Nat) : Int) := by
    rw [Nat.shiftLeft_eq, Nat.mul_comm 7 k]; simp
  rw [h3]
  have h4 : IntKind.u64.wrap ((x <<< (7 * k) : Nat) : Int) = ((x <<< (7 * k) : Nat) : Int) := by
    generalize x <<< (7 * k) = y at *
    simp only [IntKind.wrap, IntKind.bits, IntKind.signed]
    have : (y : Int) % 18446744073709551616 = y := Int.emod_eq_of_lt (by omega) (by omega)
    simpa using this
  rw [h4]
  exact u64_or_nat _ _ (by omega) (by omega)

theorem packed_any (a : Option Addr) (n cap : Nat) (g : Nat → Nat) (w : World) (h7 : n ≤ 7) (hg : ∀ k, g k < 128) (hr : Row w a n (fun k => (g k : Nat))) :
    Calls Tryd.prog 49 #[.slice a n cap] w fun e w' => e = .returned (.int .u64 (pkd g n : Nat)) ∧ w' = w := by
  have HR : Hid (Row w a n (fun k => (g k : Nat))) := hr
  clear hr
  go_enter Tryd.func49, Tryd.ntmps49
  go_wp2_with fail
  go_loop [3, 8] (fun s i => ∃ k : Nat, k ≤ n ∧ i = .int .i64 k ∧ s = .int .u64 (pkd g k : Nat)) (fun _ i => n - (intOf i).toNat)
  case atStart => exact ⟨0, Nat.zero_le _, rfl, rfl⟩
  case round =>
    obtain ⟨k, hk, rfl, rfl⟩ := hrel
    by_cases hlt : k < n
    · obtain ⟨b, off, rfl, hc0⟩ := HR.out.at hlt
      have hc := hc0 k hlt
      have hx := hg k
      have HNX : Hid (pkd g (k + 1) = pkd g k ||| (g k <<< (7 * k))) := rfl
      have hS := pkd_lt hg k
      generalize hgk : g k = x at *
      generalize pkd g k = S at *
      clear hc0
      go_wp2_with fail
      refine ⟨⟨k + 1, by omega, by go_num, ?_⟩, by simp [intOf]; omega⟩
      rw [HNX.out, shl_or (by omega) hx hS]
    · obtain rfl : k = n := by omega
      go_wp2_with fail
      go_ret
      exact ⟨rfl, rfl⟩
end Go.Proofs.YtinblbkglkhjmaaDoor
