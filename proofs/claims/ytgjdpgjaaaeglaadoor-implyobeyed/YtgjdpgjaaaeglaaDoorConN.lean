/-
  What concept.checkSet, Marks, Things, Concepts and Next answer, whatever they are handed. No condition but that a slice reads as a slice of numbers.
-/
import Derived.Test.YtgjdpgjaaaeglaaDoorConC
namespace Go.Proofs.YtgjdpgjaaaeglaaDoor
open Go.RowKit

/-- What checkSet must answer of a context and a set of N. -/
def SChk (L R N : Int) (len : Nat) (f : Nat → Int) (S : Int) (c : Int) : Prop :=
  (c ≠ 0 ∧ GChk L R len f c) ∨ (GChk L R len f 0 ∧ ∃ k : Nat, N = k ∧ k ≤ 10 ∧ ((c = 3 ∧ ¬ (0 ≤ S ∧ S < (pw k : Nat))) ∨ (c = 0 ∧ 0 ≤ S ∧ S < (pw k : Nat))))
theorem SChk.unique {L R N : Int} {len : Nat} {f : Nat → Int} {S c c' : Int} (h : SChk L R N len f S c) (h' : SChk L R N len f S c') : c = c' := by
  rcases h with ⟨h0, h⟩ | ⟨h, k, rfl, hk, h2⟩
  · rcases h' with ⟨_, h'⟩ | ⟨h', _⟩
    · exact GChk.unique h h'
    · exact absurd (GChk.unique h h') h0
  · rcases h' with ⟨h0, h'⟩ | ⟨_, k', e, _, h2'⟩
    · exact absurd (GChk.unique h' h) h0
    · obtain rfl : k' = k := by omega
      rcases h2 with ⟨rfl, h2⟩ | ⟨rfl, h2⟩ <;> rcases h2' with ⟨rfl, h2'⟩ | ⟨rfl, h2'⟩ <;> first | rfl | (exact absurd h2 h2') | (exact absurd h2' h2)
theorem GRng.row {l r : Nat} {f : Nat → Int} {w : World} {a : Option Addr} (hr : GRng l r f) (h : Row w a l f) : Row w a l (fun k => (nat f k : Nat)) := fun k hk => by
  obtain ⟨b, off, e, hc⟩ := h k hk
  refine ⟨b, off, e, ?_⟩
  have := hr k hk
  rw [hc]
  show some (Value.int .i64 (f k)) = some (Value.int .i64 ((f k).toNat : Int))
  congr 2; omega
theorem GRng.small {l r : Nat} {f : Nat → Int} (hr : GRng l r f) : ∀ k, k < l → nat f k < pw r := fun k hk => by have := hr k hk; unfold nat; omega
theorem GRng.small2 {l r : Nat} {f : Nat → Int} (hr : GRng l r f) (h : r ≤ 10) : ∀ k, k < l → nat f k < 1024 := fun k hk => Nat.lt_of_lt_of_le (hr.small k hk) (pw_le r h)

theorem checkSet_any (L R N : Int) (a : Option Addr) (len cap : Nat) (f : Nat → Int) (S : Int) (w : World) (hl : len ≤ maxLen) (hr : Row w a len f) (hN : GChk L R len f 0 → ∃ k : Nat, N = k ∧ k ≤ 10) :
    Calls Tryd.prog 49 #[.agg #[.int .i64 L, .int .i64 R, .slice a len cap], .int .i64 S, .int .i64 N] w fun e w' => (∃ c : Int, e = .returned (.int .i64 c) ∧ SChk L R N len f S c) ∧ Below w.heap.size w w' := by
  have K0 : GHeld (w.alloc (.cells #[.int .i64 L, .int .i64 R, .slice a len cap] 39)) w.heap.size L R a len cap f := GHeld.box hr
  have HB0 : Hid (Below w.heap.size w (w.alloc (.cells #[.int .i64 L, .int .i64 R, .slice a len cap] 39))) := (Below.refl _ _).alloc (Nat.le_refl _) _
  have HN : Hid (GChk L R len f 0 → ∃ k : Nat, N = k ∧ k ≤ 10) := hN
  clear hr hN
  go_enter Tryd.func49, Tryd.ntmps49
  go_wp2_with fail
  refine (ccheck_any L R a len cap f _ hl K0.row).mono ?_
  rintro e w1 ⟨⟨c, rfl, hc⟩, hb⟩
  have HB1 : Hid (Below w.heap.size w w1) := Below.then HB0.out hb
  clear hb K0 HB0
  by_cases h0 : c = 0
  · subst h0
    obtain ⟨k, rfl, hk⟩ := HN.out hc
    have HC : Hid (GChk L R len f 0) := hc
    clear hc HN
    by_cases hs : 0 ≤ S ∧ S < (pw k : Nat)
    · have hsd : sts S k = true := by simpa [sts] using hs
      have HS : Hid (0 ≤ S ∧ S < (pw k : Nat)) := hs; clear hs
      go_wp2_with (go_at_call 42; refine (isSet_any _ _ _ hk).mono ?_; rintro e w' ⟨rfl, rfl⟩)
      go_ret
      exact ⟨⟨_, rfl, .inr ⟨HC.out, k, rfl, hk, .inr ⟨rfl, HS.out⟩⟩⟩, HB1.out⟩
    · have hsd : sts S k = false := by simpa [sts] using hs
      have HS : Hid (¬ (0 ≤ S ∧ S < (pw k : Nat))) := hs; clear hs
      go_wp2_with (go_at_call 42; refine (isSet_any _ _ _ hk).mono ?_; rintro e w' ⟨rfl, rfl⟩)
      go_ret
      exact ⟨⟨_, rfl, .inr ⟨HC.out, k, rfl, hk, .inl ⟨rfl, HS.out⟩⟩⟩, HB1.out⟩
  · have hne : (c != 0) = true := by simpa using h0
    have HC : Hid (GChk L R len f c) := hc
    clear hc HN
    go_wp2_with fail
    go_ret
    exact ⟨⟨_, rfl, .inl ⟨h0, HC.out⟩⟩, HB1.out⟩

theorem good_L {L R : Int} {len : Nat} {f : Nat → Int} (h : GChk L R len f 0) : ∃ k : Nat, L = k ∧ k ≤ 10 := by
  obtain ⟨r, e, _, h1, _⟩ := h.good
  exact ⟨len, e, h1⟩
theorem good_R {L R : Int} {len : Nat} {f : Nat → Int} (h : GChk L R len f 0) : ∃ k : Nat, R = k ∧ k ≤ 10 := by
  obtain ⟨r, _, e, _, h1, _⟩ := h.good
  exact ⟨r, e, h1⟩
/-- A number beside an errno: what F says of a good context and set. -/
def NumIs (L R N : Int) (len : Nat) (f : Nat → Int) (S : Int) (F : Nat → Nat → Nat → Nat → Prop) (e : Ending) : Prop :=
  (∃ c : Int, c ≠ 0 ∧ SChk L R N len f S c ∧ e = .returned (.tuple #[.int .i64 0, .int .i64 c])) ∨
  (∃ r s x : Nat, L = (len : Int) ∧ R = (r : Int) ∧ len ≤ 10 ∧ r ≤ 10 ∧ GRng len r f ∧ S = (s : Int) ∧ s < 1024 ∧ SChk L R N len f S 0 ∧ F len r s x ∧ e = .returned (.tuple #[.int .i64 (x : Nat), .int .i64 0]))

set_option maxHeartbeats 1000000 in
theorem marks_any (L R : Int) (a : Option Addr) (len cap : Nat) (f : Nat → Int) (S : Int) (w : World) (hl : len ≤ maxLen) (hr : Row w a len f) :
    Calls Tryd.prog 45 #[.agg #[.int .i64 L, .int .i64 R, .slice a len cap], .int .i64 S] w fun e w' => NumIs L R L len f S (fun n r s x => s < pw n ∧ x = mks (nat f) n r s) e ∧ Below w.heap.size w w' := by
  have K0 : GHeld (w.alloc (.cells #[.int .i64 L, .int .i64 R, .slice a len cap] 39)) w.heap.size L R a len cap f := GHeld.box hr
  have HB0 : Hid (Below w.heap.size w (w.alloc (.cells #[.int .i64 L, .int .i64 R, .slice a len cap] 39))) := (Below.refl _ _).alloc (Nat.le_refl _) _
  clear hr
  go_enter Tryd.func45, Tryd.ntmps45
  go_wp2_with fail
  refine (checkSet_any L R L a len cap f S _ hl K0.row good_L).mono ?_
  rintro e w1 ⟨⟨c, rfl, hc⟩, hb⟩
  have K1 := K0.step hb
  have HB1 : Hid (Below w.heap.size w w1) := Below.then HB0.out hb
  clear hb K0 HB0
  by_cases h0 : c = 0
  · subst h0
    have HC : Hid (SChk L R L len f S 0) := hc
    rcases hc with ⟨h, _⟩ | ⟨hg, k, e1, hk, ⟨h, _⟩ | ⟨_, hs0, hs1⟩⟩
    · exact absurd rfl h
    · cases h
    obtain ⟨r, rfl, rfl, h10, r10, hrng⟩ := hg.good
    obtain rfl : len = k := by omega
    obtain ⟨s, rfl⟩ := Int.eq_ofNat_of_zero_le hs0
    have hs : s < 1024 := by have := pw_le len h10; omega
    have hsp : s < pw len := by omega
    have HRG : Hid (GRng len r f) := hrng
    have HCALL : Hid (Calls Tryd.prog 51 #[.agg #[.int .i64 (len : Int), .int .i64 (r : Int), .slice a len cap], .int .i64 (s : Nat)] w1 _) := marksOf_any a len r cap (nat f) s w1 h10 r10 (hrng.small2 r10) (hrng.row K1.row) hs
    have k0 := K1.c0
    have k1 := K1.c1
    have k2 := K1.c2
    clear hrng hg K1 hs0 hs1 e1
    go_wp2_with fail
    refine HCALL.out.mono ?_
    rintro e w2 ⟨rfl, hb2⟩
    have HB2 : Hid (Below w.heap.size w w2) := Below.then HB1.out hb2
    clear hb2 HCALL k0 k1 k2
    go_wp2_with fail
    go_ret2
    exact ⟨.inr ⟨r, s, _, rfl, rfl, h10, r10, HRG.out, rfl, hs, HC.out, ⟨hsp, rfl⟩, rfl⟩, HB2.out⟩
  · have hne : (c != 0) = true := by simpa using h0
    have HC : Hid (SChk L R L len f S c) := hc
    clear hc K1
    go_wp2_with fail
    go_ret2
    exact ⟨.inl ⟨c, h0, HC.out, rfl⟩, HB1.out⟩
set_option maxHeartbeats 1000000 in
theorem things_any (L R : Int) (a : Option Addr) (len cap : Nat) (f : Nat → Int) (S : Int) (w : World) (hl : len ≤ maxLen) (hr : Row w a len f) :
    Calls Tryd.prog 44 #[.agg #[.int .i64 L, .int .i64 R, .slice a len cap], .int .i64 S] w fun e w' => NumIs L R R len f S (fun n r s x => s < pw r ∧ x = ths (nat f) n s) e ∧ Below w.heap.size w w' := by
  have K0 : GHeld (w.alloc (.cells #[.int .i64 L, .int .i64 R, .slice a len cap] 39)) w.heap.size L R a len cap f := GHeld.box hr
  have HB0 : Hid (Below w.heap.size w (w.alloc (.cells #[.int .i64 L, .int .i64 R, .slice a len cap] 39))) := (Below.refl _ _).alloc (Nat.le_refl _) _
  clear hr
  go_enter Tryd.func44, Tryd.ntmps44
  go_wp2_with fail
  refine (checkSet_any L R R a len cap f S _ hl K0.row good_R).mono ?_
  rintro e w1 ⟨⟨c, rfl, hc⟩, hb⟩
  have K1 := K0.step hb
  have HB1 : Hid (Below w.heap.size w w1) := Below.then HB0.out hb
  clear hb K0 HB0
  by_cases h0 : c = 0
  · subst h0
    have HC : Hid (SChk L R R len f S 0) := hc
    rcases hc with ⟨h, _⟩ | ⟨hg, k, e1, hk, ⟨h, _⟩ | ⟨_, hs0, hs1⟩⟩
    · exact absurd rfl h
    · cases h
    obtain ⟨r, rfl, rfl, h10, r10, hrng⟩ := hg.good
    obtain rfl : r = k := by omega
    obtain ⟨s, rfl⟩ := Int.eq_ofNat_of_zero_le hs0
    have hs : s < 1024 := by have := pw_le r r10; omega
    have hsp : s < pw r := by omega
    have HRG : Hid (GRng len r f) := hrng
    have HCALL : Hid (Calls Tryd.prog 50 #[.agg #[.int .i64 (len : Int), .int .i64 (r : Int), .slice a len cap], .int .i64 (s : Nat)] w1 _) := thingsWith_any a len r cap (nat f) s w1 h10 (hrng.small2 r10) (hrng.row K1.row) hs
    have k0 := K1.c0
    have k1 := K1.c1
    have k2 := K1.c2
    clear hrng hg K1 hs0 hs1 e1
    go_wp2_with fail
    refine HCALL.out.mono ?_
    rintro e w2 ⟨rfl, hb2⟩
    have HB2 : Hid (Below w.heap.size w w2) := Below.then HB1.out hb2
    clear hb2 HCALL k0 k1 k2
    go_wp2_with fail
    go_ret2
    exact ⟨.inr ⟨r, s, _, rfl, rfl, h10, r10, HRG.out, rfl, hs, HC.out, ⟨hsp, rfl⟩, rfl⟩, HB2.out⟩
  · have hne : (c != 0) = true := by simpa using h0
    have HC : Hid (SChk L R R len f S c) := hc
    clear hc K1
    go_wp2_with fail
    go_ret2
    exact ⟨.inl ⟨c, h0, HC.out, rfl⟩, HB1.out⟩

/-- What Next must answer. -/
def NextIs (L R : Int) (len : Nat) (f : Nat → Int) (S : Int) (e : Ending) : Prop :=
  (∃ c : Int, c ≠ 0 ∧ SChk L R R len f S c ∧ e = .returned (.tuple #[.int .i64 0, .int .i64 c])) ∨
  (∃ r s : Nat, L = (len : Int) ∧ R = (r : Int) ∧ len ≤ 10 ∧ r ≤ 10 ∧ GRng len r f ∧ S = (s : Int) ∧ s < pw r ∧ SChk L R R len f S 0 ∧
    ((nxt (clm (nat f) len r) s r = none ∧ e = .returned (.tuple #[.int .i64 0, .int .i64 5])) ∨ ∃ x, nxt (clm (nat f) len r) s r = some x ∧ e = .returned (.tuple #[.int .i64 (x : Nat), .int .i64 0])))
end Go.Proofs.YtgjdpgjaaaeglaaDoor
