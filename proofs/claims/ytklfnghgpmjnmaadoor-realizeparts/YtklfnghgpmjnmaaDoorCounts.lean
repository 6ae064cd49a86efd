/-
  What extend.Count answers, and that hasselaw.extendBegun answers true. No condition but that a slice reads as a slice of numbers.
-/
import Derived.Test.YtklfnghgpmjnmaaDoorGood
namespace Go.Proofs.YtklfnghgpmjnmaaDoor
open Go.RowKit

def CountPost (n : Int) (len : Nat) (f : Nat → Int) (e : Ending) : Prop :=
  ∃ c : Int, Chk n len f c ∧ ((c ≠ 0 ∧ e = .returned (.tuple #[.int .i64 0, .int .i64 c])) ∨
    (c = 0 ∧ e = .returned (.tuple #[.int .i64 (ways (nat f) len 0 : Nat), .int .i64 0])))

theorem rcount_any (n b : Nat) (x : Value) (u : Nat → Nat) (w : World) (ht : Tabl w b n 0 u) :
    Calls Tryd.prog 40 #[.agg #[x, .slice (some ⟨b, 0, none⟩) (pw n) (pw n)]] w fun e w' => e = .returned (.int .i64 (ways u n 0 : Nat)) ∧ Below w.heap.size w w' := by
  have hc := ht 0 (pw_pos n) (Nat.le_refl _)
  have hlt : b < w.heap.size := World.block_lt_of_cell? _ _ hc
  have hpi : (0 : Int) < ((pw n : Nat) : Int) := by have := pw_pos n; omega
  clear ht
  generalize ways u n 0 = V at *
  go_enter Tryd.func40, Tryd.ntmps40
  go_wp2_with fail
  go_ret
  exact ⟨rfl, (Below.refl _ _).alloc (Nat.le_refl _) _⟩

set_option maxHeartbeats 1000000 in
theorem count_any (n : Int) (a : Option Addr) (len cap : Nat) (f : Nat → Int) (w : World) (hl : len ≤ maxLen) (hr : Row w a len f) :
    Calls Tryd.prog 33 #[.agg #[.int .i64 n, .slice a len cap]] w fun e w' => CountPost n len f e ∧ Below w.heap.size w w' := by
  have K0 : Held (w.alloc (.cells #[.int .i64 n, .slice a len cap] 24)) w.heap.size n a len cap f := Held.box hr
  have HB0 : Hid (Below w.heap.size w (w.alloc (.cells #[.int .i64 n, .slice a len cap] 24))) := (Below.refl _ _).alloc (Nat.le_refl _) _
  clear hr
  go_enter Tryd.func33, Tryd.ntmps33
  go_wp2_with fail
  refine (check_any n a len cap f _ hl K0.row).mono ?_
  rintro e w1 ⟨⟨c, rfl, hc⟩, hb⟩
  have K1 := K0.step hb
  have HB1 : Hid (Below w.heap.size w w1) := Below.then HB0.out hb
  clear hb K0 HB0
  by_cases h0 : c = 0
  · subst h0
    obtain ⟨rfl, h10, hrng, hord⟩ := hc.good
    have HC : Hid (Chk (len : Int) len f 0) := hc
    have k0 := K1.c0
    have k1 := K1.c1
    have HFIN : Hid (∀ v, v = ways (nat f) len 0 → CountPost len len f (.returned (.tuple #[.int .i64 (v : Nat), .int .i64 0]))) := fun v hv => ⟨0, HC.out, .inr ⟨rfl, by rw [hv]⟩⟩
    go_wp2_with fail
    refine (layOut_any len a cap (nat f) none 0 0 (fun _ => (0, 0)) _ h10 hrng.small (hrng.row K1.row) (fun k hk => absurd hk (Nat.not_lt_zero _)) (by omega) (fun k hk => absurd hk (Nat.not_lt_zero _))).mono ?_
    rintro e w2 ⟨⟨ac, cc, b, rfl, _, htab⟩, hb2⟩
    have HB2 : Hid (Below w.heap.size w w2) := Below.then HB1.out hb2
    have HT : Hid (Tabl w2 b len 0 (nat f)) := htab
    clear hb2 HB1 htab K1 k0 k1
    go_wp2_with fail
    refine (rcount_any len b _ (nat f) _ HT.out).mono ?_
    rintro e w3 ⟨rfl, hb3⟩
    have HB3 : Hid (Below w.heap.size w w3) := Below.then HB2.out hb3
    clear hb3 HB2 hrng hord hc
    go_wp2_with fail
    go_ret2
    exact ⟨HFIN.out _ rfl, HB3.out⟩
  · have hne : (c != 0) = true := by simpa using h0
    have HC : Hid (Chk n len f c) := hc
    clear hc
    go_wp2_with fail
    go_ret2
    exact ⟨⟨c, HC.out, .inl ⟨h0, rfl⟩⟩, HB1.out⟩

/-- Three points apart have six rows. -/
theorem three_rows (u : Nat → Nat) (h : ∀ k, k < 3 → u k = 0) : ways u 3 0 = 6 := by
  have m : ∀ s i, i < 3 → may u s i = !s.testBit i := fun s i hi => by
    have e : lack (u i) s = 0 := by rw [h i hi]; simp [lack]
    simp [may, e]
  have e8 : pw 3 = 8 := by decide
  have p0 : pw 0 = 1 := by decide
  have p1 : pw 1 = 2 := by decide
  have p2 : pw 2 = 4 := by decide
  have w7 : ways u 3 7 = 1 := by have := ways_all u 3; rw [e8] at this; exact this
  have go : ∀ s, s + 1 < 8 → ways u 3 s = (if s.testBit 0 = true then 0 else ways u 3 (s + 1)) + (if s.testBit 1 = true then 0 else ways u 3 (s + 2)) + (if s.testBit 2 = true then 0 else ways u 3 (s + 4)) := fun s hs => by
    rw [ways_eq (by rw [e8]; exact hs)]
    simp only [sumTo, goes, m s 0 (by decide), m s 1 (by decide), m s 2 (by decide), p0, p1, p2, Nat.zero_add]
    cases s.testBit 0 <;> cases s.testBit 1 <;> cases s.testBit 2 <;> simp
  have w6 : ways u 3 6 = 1 := by rw [go 6 (by decide)]; simp (decide := true) [w7]
  have w5 : ways u 3 5 = 1 := by rw [go 5 (by decide)]; simp (decide := true) [w7]
  have w3 : ways u 3 3 = 1 := by rw [go 3 (by decide)]; simp (decide := true) [w7]
  have w4 : ways u 3 4 = 2 := by rw [go 4 (by decide)]; simp (decide := true) [w5, w6]
  have w2 : ways u 3 2 = 2 := by rw [go 2 (by decide)]; simp (decide := true) [w3, w6]
  have w1 : ways u 3 1 = 2 := by rw [go 1 (by decide)]; simp (decide := true) [w3, w5]
  rw [go 0 (by decide)]; simp (decide := true) [w1, w2, w4]
theorem zero_chk : Chk 3 3 (fun _ => 0) 0 := by
  refine .inr ⟨3, rfl, by omega, .inr ⟨rfl, .inr ⟨?_, .inr ⟨rfl, ?_⟩⟩⟩⟩
  · unfold Rng; decide +kernel
  · unfold Ord OrdAt nat; decide +kernel

end Go.Proofs.YtklfnghgpmjnmaaDoor
