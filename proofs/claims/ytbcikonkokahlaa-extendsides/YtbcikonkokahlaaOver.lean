/-
  What order.Over answers, whatever it is handed. Conditions: slices read as slices of numbers; a nil one has no room.
-/
import Derived.Test.YtbcikonkokahlaaBeside
namespace Go.Proofs.Ytbcikonkokahlaa
open Go.RowKit

theorem o5_step {w w1 w2 : World} {b0 b1 : Nat} {u0 u1 u2 u3 : Value}
    (h : w1.cell? ⟨b0, 0, none⟩ = some u0 ∧ w1.cell? ⟨b0, 1, none⟩ = some u1 ∧ w1.cell? ⟨b1, 0, none⟩ = some u2 ∧ w1.cell? ⟨b1, 1, none⟩ = some u3 ∧ Below w.heap.size w w1)
    (hb : Below w1.heap.size w1 w2) :
    w2.cell? ⟨b0, 0, none⟩ = some u0 ∧ w2.cell? ⟨b0, 1, none⟩ = some u1 ∧ w2.cell? ⟨b1, 0, none⟩ = some u2 ∧ w2.cell? ⟨b1, 1, none⟩ = some u3 ∧ Below w.heap.size w w2 := by
  obtain ⟨h1, h2, h3, h4, h6⟩ := h
  exact ⟨(hb.cell (World.block_lt_of_cell? _ _ h1)).trans h1, (hb.cell (World.block_lt_of_cell? _ _ h2)).trans h2, (hb.cell (World.block_lt_of_cell? _ _ h3)).trans h3, (hb.cell (World.block_lt_of_cell? _ _ h4)).trans h4, Below.then h6 hb⟩
theorem o5_below {w w1 : World} {b0 b1 : Nat} {u0 u1 u2 u3 : Value}
    (h : w1.cell? ⟨b0, 0, none⟩ = some u0 ∧ w1.cell? ⟨b0, 1, none⟩ = some u1 ∧ w1.cell? ⟨b1, 0, none⟩ = some u2 ∧ w1.cell? ⟨b1, 1, none⟩ = some u3 ∧ Below w.heap.size w w1) : Below w.heap.size w w1 := h.2.2.2.2
theorem o5_set2 {w w1 : World} {u0 u1 u2 u3 x y : Value}
    (h : w1.cell? ⟨w.heap.size, 0, none⟩ = some u0 ∧ w1.cell? ⟨w.heap.size, 1, none⟩ = some u1 ∧ w1.cell? ⟨w.heap.size + 1, 0, none⟩ = some u2 ∧ w1.cell? ⟨w.heap.size + 1, 1, none⟩ = some u3 ∧ Below w.heap.size w w1) :
    ((w1.setCell ⟨w.heap.size + 1 + 1, 0, none⟩ x).setCell ⟨w.heap.size + 1 + 1, 1, none⟩ y).cell? ⟨w.heap.size, 0, none⟩ = some u0 ∧ ((w1.setCell ⟨w.heap.size + 1 + 1, 0, none⟩ x).setCell ⟨w.heap.size + 1 + 1, 1, none⟩ y).cell? ⟨w.heap.size, 1, none⟩ = some u1 ∧ ((w1.setCell ⟨w.heap.size + 1 + 1, 0, none⟩ x).setCell ⟨w.heap.size + 1 + 1, 1, none⟩ y).cell? ⟨w.heap.size + 1, 0, none⟩ = some u2 ∧ ((w1.setCell ⟨w.heap.size + 1 + 1, 0, none⟩ x).setCell ⟨w.heap.size + 1 + 1, 1, none⟩ y).cell? ⟨w.heap.size + 1, 1, none⟩ = some u3 ∧ Below w.heap.size w ((w1.setCell ⟨w.heap.size + 1 + 1, 0, none⟩ x).setCell ⟨w.heap.size + 1 + 1, 1, none⟩ y) := by
  have key : ∀ (b o : Nat), b < w.heap.size + 2 → ((w1.setCell ⟨w.heap.size + 1 + 1, 0, none⟩ x).setCell ⟨w.heap.size + 1 + 1, 1, none⟩ y).cell? ⟨b, o, none⟩ = w1.cell? ⟨b, o, none⟩ := fun b o hb => by
    rw [World.cell?_setCell_other _ _ _ _ (fun e => by injection e with e1; omega), World.cell?_setCell_other _ _ _ _ (fun e => by injection e with e1; omega)]
  obtain ⟨h1, h2, h3, h4, h6⟩ := h
  exact ⟨(key _ _ (by omega)).trans h1, (key _ _ (by omega)).trans h2, (key _ _ (by omega)).trans h3, (key _ _ (by omega)).trans h4, set2B h6 (by omega)⟩
theorem OrdErr.set2 {c n : Int} {len : Nat} {F : Nat → Int} {x : Value} {X : World} {B : Nat} {u v : Value} (h : OrdErr c n len F x X) (hf : OrdFresh (B + 1) x) : OrdErr c n len F x ((X.setCell ⟨B, 0, none⟩ u).setCell ⟨B, 1, none⟩ v) := by
  rcases h with h | ⟨h0, a, cap, hx, hr⟩
  · exact .inl h
  · exact .inr ⟨h0, a, cap, hx, row_set2 hr (hf _ _ _ _ hx)⟩
theorem ordErr_form {c n : Int} {len : Nat} {F : Nat → Int} {x : Value} {w : World} (h : OrdErr c n len F x w) : ∃ n' a l cap, x = .agg #[.int .i64 n', .slice a l cap] := by
  rcases h with ⟨_, rfl⟩ | ⟨_, a, cap, rfl, _⟩
  · exact ⟨0, none, 0, 0, rfl⟩
  · exact ⟨n, a, len, cap, rfl⟩

set_option maxHeartbeats 2000000 in
theorem over_any (n1 : Int) (a1 : Option Addr) (len1 cap1 : Nat) (f1 : Nat → Int) (n2 : Int) (a2 : Option Addr) (len2 cap2 : Nat) (f2 : Nat → Int) (w : World) (hl1 : len1 ≤ maxLen) (hl2 : len2 ≤ maxLen)
    (hz : a1 = none → len1 = 0 ∧ cap1 = 0) (hr1 : Row w a1 len1 f1) (hr2 : Row w a2 len2 f2) :
    Calls Try.prog 7 #[.agg #[.int .i64 n1, .slice a1 len1 cap1], .agg #[.int .i64 n2, .slice a2 len2 cap2]] w fun e w' => BesidePost (fun m => pw m - 1) n1 len1 f1 n2 len2 f2 e w' ∧ Below w.heap.size w w' := by
  obtain ⟨W3, HW⟩ : ∃ W3, Hid (W3 = ((w.alloc (.cells #[.int .i64 n1, .slice a1 len1 cap1] 24)).alloc (.cells #[.int .i64 n2, .slice a2 len2 cap2] 24)).alloc (.cells #[.int .i64 0, .slice none 0 0] 24)) := ⟨_, rfl⟩
  have b1 := (Below.refl w.heap.size w).alloc (Nat.le_refl _) (.cells #[.int .i64 n1, .slice a1 len1 cap1] 24)
  have X3 := ((Box.new w n1 a1 len1 cap1).step ((Below.refl _ _).alloc (Nat.le_refl _) (.cells #[.int .i64 n2, .slice a2 len2 cap2] 24))).step ((Below.refl _ _).alloc (Nat.le_refl _) (.cells #[.int .i64 0, .slice none 0 0] 24))
  have Y3 := (Box.new (w.alloc (.cells #[.int .i64 n1, .slice a1 len1 cap1] 24)) n2 a2 len2 cap2).step ((Below.refl _ _).alloc (Nat.le_refl _) (.cells #[.int .i64 0, .slice none 0 0] 24))
  have Z3 := ZBox.new ((w.alloc (.cells #[.int .i64 n1, .slice a1 len1 cap1] 24)).alloc (.cells #[.int .i64 n2, .slice a2 len2 cap2] 24))
  simp only [World.size_alloc] at Y3 Z3
  have hbw : Below w.heap.size w W3 := by rw [HW.out]; exact (b1.alloc (by simp) _).alloc (by simp; omega) _
  rw [← HW.out] at X3 Y3 Z3
  have hsz : w.heap.size + 3 = W3.heap.size := by rw [HW.out]; simp
  have bW := (Below.refl W3.heap.size W3).alloc (Nat.le_refl _) (.cells #[.int .i64 n1, .slice a1 len1 cap1, .int .i64 n2, .slice a2 len2 cap2] 24)
  have R1 := (hr1.below hbw).below bW
  have R2 := (hr2.below hbw).below bW
  have T4 := two_new W3 n1 a1 len1 cap1 n2 a2 len2 cap2
  have X4 := X3.step bW
  have Y4 := Y3.step bW
  have Z4 := Z3.step bW
  have HB4 : Hid (Below w.heap.size w (W3.alloc (.cells #[.int .i64 n1, .slice a1 len1 cap1, .int .i64 n2, .slice a2 len2 cap2] 24))) := hbw.alloc hbw.size _
  obtain ⟨x30, x31⟩ := X3
  obtain ⟨y30, y31⟩ := Y3
  clear b1 bW hbw Z3
  go_enter Try.func7, Try.ntmps7
  go_wp2_with fail
  rw [← HW.out]
  refine (checkAll_any n1 a1 len1 cap1 f1 n2 a2 len2 cap2 f2 W3.heap.size _ hl1 hl2 T4 R1 R2).mono ?_
  rintro e w5 ⟨⟨c, rfl, hc⟩, hb⟩
  have X5 := X4.step hb
  have Y5 := Y4.step hb
  have Z5 := Z4.step hb
  have Q1 := R1.below hb
  have Q2 := R2.below hb
  have HB5 : Hid (Below w.heap.size w w5) := Below.then HB4.out hb
  clear hb X4 Y4 Z4 R1 R2 T4 HB4 x30 x31 y30 y31 HW
  by_cases h0 : c = 0
  · subst h0
    obtain ⟨g1, g2⟩ := hc.good
    obtain ⟨rfl, h10, hrng1, _⟩ := g1.good
    obtain ⟨rfl, h20, hrng2, _⟩ := g2.good
    have HC : Hid (Chk2 (len1 : Int) len1 f1 (len2 : Int) len2 f2 0) := hc
    have KK : w5.drew.cell? ⟨w.heap.size, 0, none⟩ = some (.int .i64 (len1 : Int)) ∧ w5.drew.cell? ⟨w.heap.size, 1, none⟩ = some (.slice a1 len1 cap1) ∧ w5.drew.cell? ⟨w.heap.size + 1, 0, none⟩ = some (.int .i64 (len2 : Int)) ∧ w5.drew.cell? ⟨w.heap.size + 1, 1, none⟩ = some (.slice a2 len2 cap2) ∧ Below w.heap.size w w5.drew := ⟨X5.1, X5.2, Y5.1, Y5.2, HB5.out.drew⟩
    have HR1 : Hid (Row w a1 len1 (fun k => (nat f1 k : Nat))) := hrng1.row hr1
    have HR2 : Hid (Row w a2 len2 (fun k => (nat f2 k : Nat))) := hrng2.row hr2
    have HZ5 : Hid (ZBox w5.drew (w.heap.size + 2)) := Z5
    have hl6 : w.heap.size + 2 < w5.heap.size := World.block_lt_of_cell? _ _ Z5.1
    have HS2 : Hid (∀ k, k < len2 → nat f2 k < pw len2) := hrng2.small
    have HPP : Hid (pw len1 - 1 < pw len1) := Nat.sub_lt (pw_pos len1) (by decide)
    have HPI : Hid (((pw len1 : Nat) : Int) - 1 = ((pw len1 - 1 : Nat) : Int)) := by have := pw_pos len1; show ((pw len1 : Nat) : Int) - 1 = ((pw len1 - 1 : Nat) : Int); omega
    clear hc g1 g2 X5 Y5 Z5 Q1 Q2 hrng1 hrng2 HB5 hr1 hr2
    go_wp2_with fail
    go_region_held3 (fun w' => w'.cell? ⟨w.heap.size, 0, none⟩ = some (.int .i64 (len1 : Int)) ∧ w'.cell? ⟨w.heap.size, 1, none⟩ = some (.slice a1 len1 cap1) ∧ w'.cell? ⟨w.heap.size + 1, 0, none⟩ = some (.int .i64 (len2 : Int)) ∧ w'.cell? ⟨w.heap.size + 1, 1, none⟩ = some (.slice a2 len2 cap2) ∧ Below w.heap.size w w')
      (first | exact KK | assumption | exact o5_step (by assumption) (by assumption) | exact o5_set2 (by assumption))
      (first
        | (go_at_call 13; refine (all_any len1 _ h10).mono ?_; rintro e w' ⟨rfl, rfl⟩; rw [HPI.out])
        | (go_at_call 12; refine (join_any a1 len1 cap1 (nat f1) a2 len2 cap2 (nat f2) (pw len1 - 1) _ h10 h20 HS2.out HPP.out hz (HR1.out.below (o5_below (by assumption))) (HR2.out.below (o5_below (by assumption)))).mono ?_; rintro e w6 ⟨⟨c6, x6, rfl, hc6, hx6, hf6⟩, hb⟩; obtain ⟨r0, r1, r2, r3⟩ := HZ5.out.step hb; obtain ⟨n6, a6, l6, cap6, hx6e⟩ := ordErr_form hx6; subst hx6e))
    all_goals go_wp2
    refine bodyPost_ret (v := .tuple #[.agg #[.int .i64 n6, .slice a6 l6 cap6], .int .i64 c6]) ?_ rfl ⟨⟨c6, _, .inr ⟨HC.out, hc6⟩, rfl, hx6.set2 ?_⟩, ?_⟩
    · simp [results, Try.results7, go_sem, r0, r1]
    · exact fun n a len cap e => (hf6 n a len cap e).mono hl6
    · exact o5_below (by assumption)
  · have hne : (c != 0) = true := by simpa using h0
    obtain ⟨r0, r1, r2, r3⟩ := Z5
    have HJ : Hid (JChk n1 len1 f1 n2 len2 f2 c) := .inl ⟨h0, hc⟩
    clear hc
    go_wp2_with fail
    exact bodyPost_ret (v := .tuple #[noOrder, .int .i64 c]) (by simp [results, Try.results7, go_sem, noOrder, r0, r1]) rfl ⟨⟨c, _, HJ.out, rfl, .inl ⟨h0, rfl⟩⟩, set2B HB5.out (by omega)⟩
end Go.Proofs.Ytbcikonkokahlaa
