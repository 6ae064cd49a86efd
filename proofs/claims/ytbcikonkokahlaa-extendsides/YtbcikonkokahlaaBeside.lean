/-
  What order.Beside answers, whatever it is handed. Conditions: slices read as slices of numbers; a nil one has no room.
-/
import Derived.Test.YtbcikonkokahlaaJoins
namespace Go.Proofs.Ytbcikonkokahlaa
open Go.RowKit

/-- What must be said of two orders that are put together. -/
def JChk (n1 : Int) (len1 : Nat) (f1 : Nat → Int) (n2 : Int) (len2 : Nat) (f2 : Nat → Int) (c : Int) : Prop :=
  (c ≠ 0 ∧ Chk2 n1 len1 f1 n2 len2 f2 c) ∨ (Chk2 n1 len1 f1 n2 len2 f2 0 ∧ ((c = 2 ∧ 10 < len1 + len2) ∨ (c = 0 ∧ len1 + len2 ≤ 10)))
theorem JChk.unique {n1 : Int} {len1 : Nat} {f1 : Nat → Int} {n2 : Int} {len2 : Nat} {f2 : Nat → Int} {c c' : Int} (h : JChk n1 len1 f1 n2 len2 f2 c) (h' : JChk n1 len1 f1 n2 len2 f2 c') : c = c' := by
  rcases h with ⟨h0, h⟩ | ⟨h, k⟩ <;> rcases h' with ⟨h0', h'⟩ | ⟨h', k'⟩
  · exact h.unique h'
  · exact absurd (h.unique h') h0
  · exact absurd (h'.unique h) h0'
  · omega
theorem Chk2.good {n1 : Int} {len1 : Nat} {f1 : Nat → Int} {n2 : Int} {len2 : Nat} {f2 : Nat → Int} (h : Chk2 n1 len1 f1 n2 len2 f2 0) : Chk n1 len1 f1 0 ∧ Chk n2 len2 f2 0 := by
  rcases h with ⟨h, _⟩ | h
  · exact absurd rfl h
  · exact h
def BesidePost (u : Nat → Nat) (n1 : Int) (len1 : Nat) (f1 : Nat → Int) (n2 : Int) (len2 : Nat) (f2 : Nat → Int) (e : Ending) (w' : World) : Prop :=
  ∃ (c : Int) (x : Value), JChk n1 len1 f1 n2 len2 f2 c ∧ e = .returned (.tuple #[x, .int .i64 c]) ∧ OrdErr c ((len1 + len2 : Nat) : Int) (len1 + len2) (fun k => (jn (nat f1) len1 (nat f2) (u len1) k : Nat)) x w'

theorem two_new (w : World) (n1 : Int) (a1 : Option Addr) (len1 cap1 : Nat) (n2 : Int) (a2 : Option Addr) (len2 cap2 : Nat) : Two (w.alloc (.cells #[.int .i64 n1, .slice a1 len1 cap1, .int .i64 n2, .slice a2 len2 cap2] 24)) w.heap.size n1 a1 len1 cap1 n2 a2 len2 cap2 :=
  ⟨by simp, by simp, by simp, by simp⟩

set_option maxHeartbeats 2000000 in
theorem beside_any (n1 : Int) (a1 : Option Addr) (len1 cap1 : Nat) (f1 : Nat → Int) (n2 : Int) (a2 : Option Addr) (len2 cap2 : Nat) (f2 : Nat → Int) (w : World) (hl1 : len1 ≤ maxLen) (hl2 : len2 ≤ maxLen)
    (hz : a1 = none → len1 = 0 ∧ cap1 = 0) (hr1 : Row w a1 len1 f1) (hr2 : Row w a2 len2 f2) :
    Calls Try.prog 6 #[.agg #[.int .i64 n1, .slice a1 len1 cap1], .agg #[.int .i64 n2, .slice a2 len2 cap2]] w fun e w' => BesidePost (fun _ => 0) n1 len1 f1 n2 len2 f2 e w' ∧ Below w.heap.size w w' := by
  obtain ⟨W3, HW⟩ : ∃ W3, Hid (W3 = ((w.alloc (.cells #[.int .i64 n1, .slice a1 len1 cap1] 24)).alloc (.cells #[.int .i64 n2, .slice a2 len2 cap2] 24)).alloc (.cells #[.int .i64 0, .slice none 0 0] 24)) := ⟨_, rfl⟩
  have b1 := (Below.refl w.heap.size w).alloc (Nat.le_refl _) (.cells #[.int .i64 n1, .slice a1 len1 cap1] 24)
  have X3 := ((Box.new w n1 a1 len1 cap1).step ((Below.refl _ _).alloc (Nat.le_refl _) (.cells #[.int .i64 n2, .slice a2 len2 cap2] 24))).step ((Below.refl _ _).alloc (Nat.le_refl _) (.cells #[.int .i64 0, .slice none 0 0] 24))
  have Y3 := (Box.new (w.alloc (.cells #[.int .i64 n1, .slice a1 len1 cap1] 24)) n2 a2 len2 cap2).step ((Below.refl _ _).alloc (Nat.le_refl _) (.cells #[.int .i64 0, .slice none 0 0] 24))
  have Z3 := ZBox.new ((w.alloc (.cells #[.int .i64 n1, .slice a1 len1 cap1] 24)).alloc (.cells #[.int .i64 n2, .slice a2 len2 cap2] 24))
  simp only [World.size_alloc] at Y3 Z3
  have hbw : Below w.heap.size w W3 := by rw [HW.out]; exact (b1.alloc (by simp) _).alloc (by simp; omega) _
  rw [← HW.out] at X3 Y3 Z3
  have hsz : w.heap.size + 3 = W3.heap.size := by rw [HW.out]; simp
  have bW := (Below.refl W3.heap.size W3).alloc (Nat.le_refl _) (.cells #[.int .i64 n1, .slice a1 len1 cap1, .int .i64 n2, .slice a2 len2 cap2] 24)
  have R1 := (hr1.below hbw).below bW
  have R2 := (hr2.below hbw).below bW
  have T4 := two_new W3 n1 a1 len1 cap1 n2 a2 len2 cap2
  have X4 := X3.step bW
  have Y4 := Y3.step bW
  have Z4 := Z3.step bW
  have HB4 : Hid (Below w.heap.size w (W3.alloc (.cells #[.int .i64 n1, .slice a1 len1 cap1, .int .i64 n2, .slice a2 len2 cap2] 24))) := hbw.alloc hbw.size _
  obtain ⟨x30, x31⟩ := X3
  obtain ⟨y30, y31⟩ := Y3
  clear b1 bW hbw Z3
  go_enter Try.func6, Try.ntmps6
  go_wp2_with fail
  rw [← HW.out]
  refine (checkAll_any n1 a1 len1 cap1 f1 n2 a2 len2 cap2 f2 W3.heap.size _ hl1 hl2 T4 R1 R2).mono ?_
  rintro e w5 ⟨⟨c, rfl, hc⟩, hb⟩
  have X5 := X4.step hb
  have Y5 := Y4.step hb
  have Z5 := Z4.step hb
  have Q1 := R1.below hb
  have Q2 := R2.below hb
  have HB5 : Hid (Below w.heap.size w w5) := Below.then HB4.out hb
  clear hb X4 Y4 Z4 R1 R2 T4 HB4 x30 x31 y30 y31 HW
  by_cases h0 : c = 0
  · subst h0
    obtain ⟨g1, g2⟩ := hc.good
    obtain ⟨rfl, h10, hrng1, _⟩ := g1.good
    obtain ⟨rfl, h20, hrng2, _⟩ := g2.good
    have HC : Hid (Chk2 (len1 : Int) len1 f1 (len2 : Int) len2 f2 0) := hc
    obtain ⟨x0, x1⟩ := X5
    obtain ⟨y0, y1⟩ := Y5
    clear hc g1 g2
    go_wp2_with fail
    refine (join_any a1 len1 cap1 (nat f1) a2 len2 cap2 (nat f2) 0 _ h10 h20 hrng2.small (pw_pos len1) hz (hrng1.row Q1) (hrng2.row Q2)).mono ?_
    rintro e w6 ⟨⟨c6, x6, rfl, hc6, hx6, hf6⟩, hb⟩
    obtain ⟨r0, r1, r2, r3⟩ := Z5.step hb
    have HB6 : Hid (Below w.heap.size w w6) := Below.then HB5.out hb
    have HJ : Hid (JChk (len1 : Int) len1 f1 (len2 : Int) len2 f2 c6) := .inr ⟨HC.out, hc6⟩
    have hl6 : w.heap.size + 2 < w5.heap.size := World.block_lt_of_cell? _ _ Z5.1
    clear hb Z5 HB5 hc6 x0 x1 y0 y1 Q1 Q2
    rcases hx6 with ⟨h6, rfl⟩ | ⟨rfl, a6, cap6, rfl, hr6⟩
    · unfold noOrder
      go_wp2_with fail
      exact bodyPost_ret (v := .tuple #[noOrder, .int .i64 c6]) (by simp [results, Try.results6, go_sem, noOrder, r0, r1]) rfl ⟨⟨c6, _, HJ.out, rfl, .inl ⟨h6, rfl⟩⟩, set2B HB6.out (by omega)⟩
    · have HRW : Hid (Row w6 a6 (len1 + len2) (fun k => (jn (nat f1) len1 (nat f2) 0 k : Nat))) := hr6
      have HFR : Hid (Fresh (w.heap.size + 2 + 1) a6 (len1 + len2)) := (hf6 _ _ _ _ rfl).mono (by omega)
      clear hr6 hf6
      go_wp2_with fail
      refine bodyPost_ret (v := .tuple #[.agg #[.int .i64 ((len1 + len2 : Nat) : Int), .slice a6 (len1 + len2) cap6], .int .i64 0]) ?_ rfl ⟨⟨0, _, HJ.out, rfl, .inr ⟨rfl, a6, cap6, rfl, row_set2 HRW.out HFR.out⟩⟩, set2B HB6.out (by omega)⟩
      simp [results, Try.results6, go_sem, r0, r1]
  · have hne : (c != 0) = true := by simpa using h0
    obtain ⟨r0, r1, r2, r3⟩ := Z5
    have HJ : Hid (JChk n1 len1 f1 n2 len2 f2 c) := .inl ⟨h0, hc⟩
    clear hc
    go_wp2_with fail
    exact bodyPost_ret (v := .tuple #[noOrder, .int .i64 c]) (by simp [results, Try.results6, go_sem, noOrder, r0, r1]) rfl ⟨⟨c, _, HJ.out, rfl, .inl ⟨h0, rfl⟩⟩, set2B HB5.out (by omega)⟩
end Go.Proofs.Ytbcikonkokahlaa
