/-
  What extend.Ahead and extend.Both answer. No condition but that a slice reads as a slice of numbers.
-/
import Derived.Test.YtdnpegjekckmgaaAheadM
import Derived.Test.YtdnpegjekckmgaaCounts
namespace Go.Proofs.Ytdnpegjekckmgaa
open Go.RowKit

theorem isPoint_any (p n : Int) (w : World) :
    Calls Try.prog 11 #[.int .i64 p, .int .i64 n] w fun e w' => e = .returned (.bool (pnt p n)) ∧ w = w' := by
  by_cases h0 : 0 ≤ p
  · by_cases h1 : p < n
    · go_enter Try.func11, Try.ntmps11
      go_wp2
      go_ret
      exact ⟨ret_bool (by simp [pnt, h0, h1]), rfl⟩
    · go_enter Try.func11, Try.ntmps11
      go_wp2
      go_ret
      exact ⟨ret_bool (by simp [pnt, h1]), rfl⟩
  · have h0' : decide (0 ≤ p) = false := by simp; omega
    go_enter Try.func11, Try.ntmps11
    go_wp2
    go_ret
    exact ⟨ret_bool (by simp [pnt]; omega), rfl⟩
theorem isPoint_as (p n : Int) (w : World) (v : Bool) (h : pnt p n = v) :
    Calls Try.prog 11 #[.int .i64 p, .int .i64 n] w fun e w' => e = .returned (.bool v) ∧ w = w' :=
  (isPoint_any p n w).mono fun _ _ ⟨h1, h2⟩ => ⟨by rw [← h]; exact h1, h2⟩
theorem pnt_nat {p : Int} {n : Nat} (h : pnt p n = true) : ∃ q : Nat, p = (q : Nat) ∧ q < n := by
  simp [pnt] at h
  exact ⟨p.toNat, by omega, by omega⟩

def AheadPost (n : Int) (len : Nat) (f : Nat → Int) (A B : Int) (e : Ending) : Prop :=
  ∃ c : Int, Chk n len f c ∧ ((c ≠ 0 ∧ e = .returned (.tuple #[.int .i64 0, .int .i64 c])) ∨
    (c = 0 ∧ (pnt A n && pnt B n) = false ∧ e = .returned (.tuple #[.int .i64 0, .int .i64 3])) ∨
    (c = 0 ∧ ∃ x y : Nat, A = (x : Nat) ∧ B = (y : Nat) ∧ x < len ∧ y < len ∧ e = .returned (.tuple #[.int .i64 (ways (bth (nat f) x y y) len 0 : Nat), .int .i64 0])))

set_option maxHeartbeats 1000000 in
theorem ahead_any (n : Int) (a : Option Addr) (len cap : Nat) (f : Nat → Int) (A B : Int) (w : World) (hl : len ≤ maxLen) (hr : Row w a len f) :
    Calls Try.prog 6 #[.agg #[.int .i64 n, .slice a len cap], .int .i64 A, .int .i64 B] w fun e w' => AheadPost n len f A B e ∧ Below w.heap.size w w' := by
  have K0 : Held (w.alloc (.cells #[.int .i64 n, .slice a len cap] 24)) w.heap.size n a len cap f := Held.box hr
  have HB0 : Hid (Below w.heap.size w (w.alloc (.cells #[.int .i64 n, .slice a len cap] 24))) := (Below.refl _ _).alloc (Nat.le_refl _) _
  clear hr
  go_enter Try.func6, Try.ntmps6
  go_wp2_with fail
  refine (check_any n a len cap f _ hl K0.row).mono ?_
  rintro e w1 ⟨⟨c, rfl, hc⟩, hb⟩
  have K1 := K0.step hb
  have HB1 : Hid (Below w.heap.size w w1) := Below.then HB0.out hb
  clear hb K0 HB0
  by_cases h0 : c = 0
  · subst h0
    have HC : Hid (Chk n len f 0) := hc
    have k0 := K1.c0
    cases hA : pnt A n
    · clear hc
      go_wp2_with (go_at_call 11; refine (isPoint_as A n _ false hA).mono ?_; rintro e w' ⟨rfl, rfl⟩)
      go_ret2
      exact ⟨⟨0, HC.out, .inr (.inl ⟨rfl, by rw [hA]; rfl, rfl⟩)⟩, HB1.out⟩
    · cases hB : pnt B n
      · clear hc
        go_wp2_with (first
          | (go_at_call_of 11 (Value.int IntKind.i64 A); refine (isPoint_as A n _ true hA).mono ?_; rintro e w' ⟨rfl, rfl⟩)
          | (go_at_call 11; refine (isPoint_as B n _ false hB).mono ?_; rintro e w' ⟨rfl, rfl⟩))
        go_ret2
        exact ⟨⟨0, HC.out, .inr (.inl ⟨rfl, by rw [hA, hB]; rfl, rfl⟩)⟩, HB1.out⟩
      · obtain ⟨rfl, h10, hrng, hord⟩ := hc.good
        obtain ⟨x, rfl, hx⟩ := pnt_nat hA
        obtain ⟨y, rfl, hy⟩ := pnt_nat hB
        have k1 := K1.c1
        have HFIN : Hid (∀ v, v = ways (bth (nat f) x y y) len 0 → AheadPost len len f (x : Nat) (y : Nat) (.returned (.tuple #[.int .i64 (v : Nat), .int .i64 0]))) := fun v hv => ⟨0, HC.out, .inr (.inr ⟨rfl, x, y, rfl, rfl, hx, hy, by rw [hv]⟩)⟩
        go_wp2_with (first
          | (go_at_call_of 11 (Value.int IntKind.i64 (x : Int)); refine (isPoint_as _ len _ true hA).mono ?_; rintro e w' ⟨rfl, rfl⟩)
          | (go_at_call 11; refine (isPoint_as _ len _ true hB).mono ?_; rintro e w' ⟨rfl, rfl⟩))
        refine (layOut_any len a cap (nat f) (some ⟨w1.heap.size, 0, none⟩) 1 1 (fun _ => (x, y)) _ h10 hrng.small ((hrng.row K1.row).below ((Below.refl _ _).alloc (Nat.le_refl _) _)) ?kr (by omega) ?pr).mono ?_
        case kr =>
          intro k hk
          refine ⟨w1.heap.size, 0, rfl, ?_⟩
          match k, hk with
          | 0, _ => simp
        case pr =>
          intro k _
          exact ⟨hx, hy⟩
        rintro e w2 ⟨⟨ac, cc, b, rfl, _, htab⟩, hb2⟩
        have HB2 : Hid (Below w.heap.size w w2) := Below.then (HB1.out.alloc HB1.out.size _) hb2
        have HT : Hid (Tabl w2 b len 0 (bth (nat f) x y y)) := by rw [← bth_one]; exact htab
        clear hb2 HB1 htab K1 k0 k1
        go_wp2_with fail
        refine (rcount_any len b _ _ _ HT.out).mono ?_
        rintro e w3 ⟨rfl, hb3⟩
        have HB3 : Hid (Below w.heap.size w w3) := Below.then HB2.out hb3
        clear hb3 HB2 hrng hord hc
        go_wp2_with fail
        go_ret2
        exact ⟨HFIN.out _ rfl, HB3.out⟩
  · have hne : (c != 0) = true := by simpa using h0
    have HC : Hid (Chk n len f c) := hc
    clear hc
    go_wp2_with fail
    go_ret2
    exact ⟨⟨c, HC.out, .inl ⟨h0, rfl⟩⟩, HB1.out⟩
def BothPost (n : Int) (len : Nat) (f : Nat → Int) (A B C : Int) (e : Ending) : Prop :=
  ∃ c : Int, Chk n len f c ∧ ((c ≠ 0 ∧ e = .returned (.tuple #[.int .i64 0, .int .i64 c])) ∨
    (c = 0 ∧ (pnt A n && (pnt B n && pnt C n)) = false ∧ e = .returned (.tuple #[.int .i64 0, .int .i64 3])) ∨
    (c = 0 ∧ ∃ x y z : Nat, A = (x : Nat) ∧ B = (y : Nat) ∧ C = (z : Nat) ∧ x < len ∧ y < len ∧ z < len ∧ e = .returned (.tuple #[.int .i64 (ways (bth (nat f) x y z) len 0 : Nat), .int .i64 0])))

set_option maxHeartbeats 1000000 in
theorem both_any (n : Int) (a : Option Addr) (len cap : Nat) (f : Nat → Int) (A B C : Int) (w : World) (hl : len ≤ maxLen) (hr : Row w a len f) :
    Calls Try.prog 7 #[.agg #[.int .i64 n, .slice a len cap], .int .i64 A, .int .i64 B, .int .i64 C] w fun e w' => BothPost n len f A B C e ∧ Below w.heap.size w w' := by
  have K0 : Held (w.alloc (.cells #[.int .i64 n, .slice a len cap] 24)) w.heap.size n a len cap f := Held.box hr
  have HB0 : Hid (Below w.heap.size w (w.alloc (.cells #[.int .i64 n, .slice a len cap] 24))) := (Below.refl _ _).alloc (Nat.le_refl _) _
  clear hr
  go_enter Try.func7, Try.ntmps7
  go_wp2_with fail
  refine (check_any n a len cap f _ hl K0.row).mono ?_
  rintro e w1 ⟨⟨c, rfl, hc⟩, hb⟩
  have K1 := K0.step hb
  have HB1 : Hid (Below w.heap.size w w1) := Below.then HB0.out hb
  clear hb K0 HB0
  by_cases h0 : c = 0
  · subst h0
    have HC : Hid (Chk n len f 0) := hc
    have k0 := K1.c0
    obtain ⟨va, HA⟩ : ∃ v, Hid (pnt A n = v) := ⟨_, rfl⟩
    obtain ⟨vb, HBB⟩ : ∃ v, Hid (pnt B n = v) := ⟨_, rfl⟩
    obtain ⟨vc, HCC⟩ : ∃ v, Hid (pnt C n = v) := ⟨_, rfl⟩
    cases va
    · clear hc
      go_wp2_with (go_at_call 11; refine (isPoint_as A n _ false HA.out).mono ?_; rintro e w' ⟨rfl, rfl⟩)
      go_ret2
      exact ⟨⟨0, HC.out, .inr (.inl ⟨rfl, by rw [HA.out]; rfl, rfl⟩)⟩, HB1.out⟩
    cases vb
    · clear hc
      go_wp2_with fail
      refine (isPoint_as A n _ true HA.out).mono ?_
      rintro e w' ⟨rfl, rfl⟩
      go_wp2_with fail
      refine (isPoint_as B n _ false HBB.out).mono ?_
      rintro e w' ⟨rfl, rfl⟩
      go_wp2_with fail
      go_ret2
      exact ⟨⟨0, HC.out, .inr (.inl ⟨rfl, by rw [HA.out, HBB.out]; rfl, rfl⟩)⟩, HB1.out⟩
    cases vc
    · clear hc
      go_wp2_with fail
      refine (isPoint_as A n _ true HA.out).mono ?_
      rintro e w' ⟨rfl, rfl⟩
      go_wp2_with fail
      refine (isPoint_as B n _ true HBB.out).mono ?_
      rintro e w' ⟨rfl, rfl⟩
      go_wp2_with fail
      refine (isPoint_as C n _ false HCC.out).mono ?_
      rintro e w' ⟨rfl, rfl⟩
      go_wp2_with fail
      go_ret2
      exact ⟨⟨0, HC.out, .inr (.inl ⟨rfl, by rw [HA.out, HBB.out, HCC.out]; rfl, rfl⟩)⟩, HB1.out⟩
    obtain ⟨rfl, h10, hrng, hord⟩ := hc.good
    obtain ⟨x, rfl, hx⟩ := pnt_nat HA.out
    obtain ⟨y, rfl, hy⟩ := pnt_nat HBB.out
    obtain ⟨z, rfl, hz⟩ := pnt_nat HCC.out
    have k1 := K1.c1
    have HFIN : Hid (∀ v, v = ways (bth (nat f) x y z) len 0 → BothPost len len f (x : Nat) (y : Nat) (z : Nat) (.returned (.tuple #[.int .i64 (v : Nat), .int .i64 0]))) := fun v hv => ⟨0, HC.out, .inr (.inr ⟨rfl, x, y, z, rfl, rfl, rfl, hx, hy, hz, by rw [hv]⟩)⟩
    go_wp2_with fail
    refine (isPoint_as _ len _ true HA.out).mono ?_
    rintro e w' ⟨rfl, rfl⟩
    go_wp2_with fail
    refine (isPoint_as _ len _ true HBB.out).mono ?_
    rintro e w' ⟨rfl, rfl⟩
    go_wp2_with fail
    refine (isPoint_as _ len _ true HCC.out).mono ?_
    rintro e w' ⟨rfl, rfl⟩
    go_wp2_with fail
    refine (layOut_any len a cap (nat f) (some ⟨w1.heap.size, 0, none⟩) 2 2 (fun k => if k = 0 then (x, y) else (x, z)) _ h10 hrng.small ((hrng.row K1.row).below ((Below.refl _ _).alloc (Nat.le_refl _) _)) ?kr (by omega) ?pr).mono ?_
    case kr =>
      intro k hk
      refine ⟨w1.heap.size, 0, rfl, ?_⟩
      match k, hk with
      | 0, _ => simp
      | 1, _ => simp
    case pr =>
      intro k _
      by_cases e : k = 0 <;> simp [e, hx, hy, hz]
    rintro e w2 ⟨⟨ac, cc, b, rfl, _, htab⟩, hb2⟩
    have HB2 : Hid (Below w.heap.size w w2) := Below.then (HB1.out.alloc HB1.out.size _) hb2
    have HT : Hid (Tabl w2 b len 0 (bth (nat f) x y z)) := htab
    clear hb2 HB1 htab K1 k0 k1
    go_wp2_with fail
    refine (rcount_any len b _ _ _ HT.out).mono ?_
    rintro e w3 ⟨rfl, hb3⟩
    have HB3 : Hid (Below w.heap.size w w3) := Below.then HB2.out hb3
    clear hb3 HB2 hrng hord hc
    go_wp2_with fail
    go_ret2
    exact ⟨HFIN.out _ rfl, HB3.out⟩
  · have hne : (c != 0) = true := by simpa using h0
    have HC : Hid (Chk n len f c) := hc
    clear hc
    go_wp2_with fail
    go_ret2
    exact ⟨⟨c, HC.out, .inl ⟨h0, rfl⟩⟩, HB1.out⟩
end Go.Proofs.Ytdnpegjekckmgaa
