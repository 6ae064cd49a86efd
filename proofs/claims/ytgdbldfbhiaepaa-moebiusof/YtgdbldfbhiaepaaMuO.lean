/-
  What the reference's Upto and OrderMu answer, and hasselaw.numberIs and numbersAre of numbers. Conditions: an order of at most ten points that lies in a slice of numbers.
-/
import Derived.Test.YtgdbldfbhiaepaaMuR
import Derived.Test.YtgdbldfbhiaepaaSumQ
namespace Go.Proofs.Ytgdbldfbhiaepaa
open Go.RowKit Go.Maps

set_option maxHeartbeats 1000000 in
theorem upto_any (n : Int) (a : Option Addr) (len cap : Nat) (g : Nat → Nat) (i j : Nat) (w : World) (v : Bool) (hv : uptB (blw g) i j = v) (hl : len ≤ 10) (hg : ∀ k, k < len → g k < 1024) (hr : Row w a len (fun k => (g k : Nat))) (hi : i < 63) (hj : j < len) :
    Calls Try.prog 34 #[.agg #[.int .i64 n, .slice a len cap], .int .i64 i, .int .i64 j] w fun e w' => e = .returned (.bool v) ∧ Below w.heap.size w w' := by
  have HG : Hid (∀ k, k < len → g k < 1024) := hg
  have HR : Hid (Row w a len (fun k => (g k : Nat))) := hr
  clear hg hr
  by_cases hij : i = j
  · subst hij
    have hvt : v = true := by rw [← hv]; simp [uptB]
    subst hvt
    clear hv
    go_enter Try.func34, Try.ntmps34
    go_wp2_with fail
    go_ret
    exact ⟨rfl, (Below.refl _ _).alloc (Nat.le_refl _) _⟩
  · have hne : ((i : Int) == (j : Int)) = false := by simp; omega
    have HV : Hid ((g j).testBit i = v) := by
      have e : uptB (blw g) i j = (g j).testBit i := by simp [uptB, hij, blw]
      exact e.symm.trans hv
    clear hv
    go_enter Try.func34, Try.ntmps34
    go_wp2_with fail
    refine (less_any n a len cap g i j _ hl HG.out (HR.out.below ((Below.refl _ _).alloc (Nat.le_refl _) _)) hi hj).mono ?_
    rintro e w1 ⟨rfl, hb⟩
    rw [HV.out]
    have HB : Hid (Below w.heap.size w w1) := Below.then ((Below.refl _ _).alloc (Nat.le_refl _) _) hb
    clear hb
    go_wp2_with fail
    go_ret
    exact ⟨rfl, HB.out⟩
theorem tr_ord {g : Nat → Nat} {n : Nat} (hn : n ≤ 10) (hg : ∀ k, k < n → g k < pw n) (ho : Ord n g) : Tr (blw g) n := fun a b c _ hb hc h1 h2 => by
  have hp := pw_le n hn
  have b1 : g b < 18446744073709551616 := by have := hg b hb; omega
  have b2 : g c < 18446744073709551616 := by have := hg c hc; omega
  exact (lack_zero _ _ b1 b2).1 ((ho c hc).2 b hb h2) a h1
theorem ent_om : Ent 33 := fun _ _ => rfl
set_option maxHeartbeats 1000000 in
theorem om1_any {g : Nat → Nat} {n : Nat} {caps : Array Value} {w : World} (h10 : n ≤ 10) (hg : ∀ k, k < n → g k < pw n) (h : PB g n caps w) {x y : Nat} (hx : x < n) (hy : y < n) :
    Calls Try.prog 33 (#[.int .i64 (x : Nat), .int .i64 (y : Nat)] ++ caps) w fun e w' => e = .returned (.bool (uptB (blw g) x y)) ∧ Below w.heap.size w w' := by
  obtain ⟨b, a, cap, rfl, hH⟩ := h
  have HG : Hid (∀ k, k < n → g k < 1024) := fun k hk => Nat.lt_of_lt_of_le (hg k hk) (pw_le n h10)
  have c0 := hH.c0
  have c1 := hH.c1
  clear hg
  go_enter Try.func33, Try.ntmps33
  go_wp2_with fail
  refine (upto_any n a n cap g x y w _ rfl h10 HG.out hH.row (by omega) hy).mono ?_
  rintro e w1 ⟨rfl, hb⟩
  have HB : Hid (Below w.heap.size w w1) := hb
  clear hb hH c0 c1
  go_wp2_with fail
  go_ret
  exact ⟨rfl, HB.out⟩
theorem muO_mu1 (g : Nat → Nat) (n a b : Nat) : mu1 (blw g) n (ht g n) a b = muO g n a b := rfl
set_option maxHeartbeats 1000000 in
theorem orderMu_any (n : Nat) (a : Option Addr) (cap : Nat) (g : Nat → Nat) (x y : Nat) (w : World) (h10 : n ≤ 10) (hg : ∀ k, k < n → g k < pw n) (ho : Ord n g) (hr : Row w a n (fun k => (g k : Nat))) (hx : x < n) (hy : y < n) :
    Calls Try.prog 11 #[.agg #[.int .i64 (n : Nat), .slice a n cap], .int .i64 (x : Nat), .int .i64 (y : Nat)] w fun e w' => e = .returned (.int .i64 (wz (muO g n x y))) ∧ Below w.heap.size w w' := by
  have K0 : Held (w.alloc (.cells #[.int .i64 (n : Int), .slice a n cap] 24)) w.heap.size n a n cap (fun k => (g k : Nat)) := Held.box hr
  have hb0 : Below w.heap.size w (w.alloc (.cells #[.int .i64 (n : Int), .slice a n cap] 24)) := (Below.refl _ _).alloc (Nat.le_refl _) _
  have hcl : CloL n 33 #[.pointer (some ⟨w.heap.size, 0, none⟩)] (uptB (blw g)) (w.alloc (.cells #[.int .i64 (n : Int), .slice a n cap] 24)) :=
    fun _ _ hx hy _ hW => om1_any h10 hg ⟨_, a, cap, rfl, K0.step hW⟩ hx hy
  have HC : Hid (Calls Try.prog 32 #[.int .i64 (n : Nat), .func (.func 33) #[] #[.pointer (some ⟨w.heap.size, 0, none⟩)], .int .i64 (x : Nat), .int .i64 (y : Nat)] (w.alloc (.cells #[.int .i64 (n : Int), .slice a n cap] 24)) fun e w' => e = .returned (.int .i64 (wz (muO g n x y))) ∧ Below w.heap.size w w') := by
    refine (muOf_any (N := tops g n) (by omega) hy (rk_ord h10 hg ho) (tr_ord h10 hg ho) (fun x hx => ht_lt_tops hx) ent_om hcl (tops g n - ht g n x + 1) x _ hx (by omega) (Below.refl _ _)).mono ?_
    rintro e w' ⟨rfl, hb⟩
    exact ⟨rfl, Below.then hb0 hb⟩
  clear hb0 hcl K0 hr ho hg
  go_enter Try.func11, Try.ntmps11
  go_wp2_with fail
  refine (Calls.mono HC.out) ?_
  rintro e w1 ⟨rfl, hb⟩
  have HB : Hid (Below w.heap.size w w1) := hb
  clear hb HC
  go_wp2_with fail
  go_ret
  exact ⟨rfl, HB.out⟩

set_option maxHeartbeats 1000000 in
theorem numI_any (c x y : Int) (w : World) (h : (c ≠ 0 ∧ x = 0) ∨ (c = 0 ∧ x = y)) :
    Calls Try.prog 13 #[.int .i64 x, .int .i64 c, .int .i64 c, .int .i64 y] w fun e w' => e = .returned (.bool true) ∧ Below w.heap.size w w' := by
  rcases h with ⟨h0, rfl⟩ | ⟨rfl, rfl⟩
  · have hne : (c != 0) = true := by simpa using h0
    go_enter Try.func13, Try.ntmps13
    go_wp2_with fail
    go_ret
    exact ⟨rfl, Below.refl _ _⟩
  · go_enter Try.func13, Try.ntmps13
    go_wp2_with fail
    go_ret
    exact ⟨rfl, Below.refl _ _⟩
set_option maxHeartbeats 1000000 in
theorem numsI_any (c : Int) (n : Nat) (F : Nat → Int) (v v' : Value) (w : World) (hl : n ≤ maxLen) (h1 : (c ≠ 0 ∧ v = .slice none 0 0 ∧ v' = .slice none 0 0) ∨ (c = 0 ∧ ISl w v n F ∧ ISl w v' n F)) :
    Calls Try.prog 20 #[v, .int .i64 c, .int .i64 c, v'] w fun e w' => e = .returned (.bool true) ∧ Below w.heap.size w w' := by
  rcases h1 with ⟨h0, rfl, rfl⟩ | ⟨rfl, ⟨a, ca, rfl, hr⟩, ⟨b, cb, rfl, hr'⟩⟩
  · exact numbersAre_any c [] _ _ _ (by unfold maxLen; simp) (.inl ⟨h0, rfl, rfl⟩)
  · have HA : Hid (Row w a n F) := hr
    have HB' : Hid (Row w b n F) := hr'
    clear hr hr'
    go_enter Try.func20, Try.ntmps20
    go_wp2_with fail
    refine (same_any a b n ca n cb F F _ hl hl HA.out HB'.out).mono ?_
    rintro e w1 ⟨⟨q, rfl, hq⟩, hB⟩
    obtain rfl : q = true := hq.2 ⟨rfl, fun _ _ => rfl⟩
    have HB : Hid (Below w.heap.size w w1) := hB
    clear hq hB
    go_wp2_with fail
    go_ret
    exact ⟨rfl, HB.out⟩
end Go.Proofs.Ytgdbldfbhiaepaa
