/-
  What promote.Promote, Demote and Evacuate answer, whatever they are handed. No condition but that slices read as slices of numbers.
-/
import Derived.Test.YtnommlfenaijoabPrW
namespace Go.Proofs.Ytnommlfenaijoab
set_option maxRecDepth 100000
open Go.RowKit

/-- A slice of n numbers R. -/
def RowV (w : World) (v : Value) (n : Nat) (R : Nat → Nat) : Prop := ∃ a cap, v = .slice a n cap ∧ Row w a n (fun k => ((R k : Nat) : Int))
theorem RowV.step {w w' : World} {v : Value} {n : Nat} {R : Nat → Nat} (h : RowV w v n R) (hb : Below w.heap.size w w') : RowV w' v n R := by
  obtain ⟨a, cap, e, hr⟩ := h
  exact ⟨a, cap, e, hr.below hb⟩
theorem old_ne {w : World} {ao : Option Addr} {n : Nat} {f : Nat → Int} {B : Nat} (h : Row w ao n f) (hn : 0 < n) (hB : w.heap.size ≤ B) : ∀ b off, ao = some ⟨b, off, none⟩ → b ≠ B := fun b off e => by
  obtain ⟨b', off', e', hc⟩ := h 0 hn
  rw [e'] at e
  simp at e
  have := World.block_lt_of_cell? _ _ hc
  simp at this
  omega
theorem own_of {w : World} {base n B cap : Nat} {r : Nat → Nat} (h : w.ownsRow base 3 1 (.slice (some ⟨B, 0, none⟩) n cap) n (rowVals r n)) : Own w B n r ∧ base ≤ B ∧ B < w.heap.size := by
  refine ⟨fun k hk => ⟨?_, h.frozenAt k⟩, (h.lt B rfl).1, (h.lt B rfl).2⟩
  rw [h.cellAt k (by omega)]
  exact rowVals_at r n k hk
theorem goUp0_any (ao : Option Addr) (l0 co : Nat) (a1 : Option Addr) (l1 c1 : Nat) (n s : Int) (w : World) (hs : s ≤ 0) (hs1 : -1 ≤ s) :
    Calls Try.prog 12 #[.agg #[.int .i64 n, .slice ao l0 co, .slice a1 l1 c1], .int .i64 s] w fun e w' => e = .returned (.tuple #[]) ∧ Below w.heap.size w w' := by
  have HB : Hid (Below w.heap.size w (w.alloc (.cells #[.int .i64 n, .slice ao l0 co, .slice a1 l1 c1] 35))) := bel_one _ _
  have hd : decide ((0 : Int) < s) = false := by simp; omega
  have hd2 : ¬ (0 : Int) < s := by omega
  go_enter Try.func12, Try.ntmps12
  go_wp2_with fail
  generalize w.alloc (.cells #[.int .i64 n, .slice ao l0 co, .slice a1 l1 c1] 35) = W at *
  go_loopw [6] (fun t wx => t = .int .i64 0 ∧ wx = W) (fun _ _ => 0)
  case atStart => exact ⟨rfl, rfl⟩
  case round =>
    obtain ⟨rfl, rfl⟩ := hrel
    go_wp2_with fail
    go_end0
    exact ⟨rfl, HB.out⟩
theorem goDown0_any (ao : Option Addr) (l0 co : Nat) (a1 : Option Addr) (l1 c1 : Nat) (n s : Int) (w : World) (hs : s ≤ 0) (hs1 : -1 ≤ s) :
    Calls Try.prog 13 #[.agg #[.int .i64 n, .slice ao l0 co, .slice a1 l1 c1], .int .i64 s] w fun e w' => e = .returned (.tuple #[]) ∧ Below w.heap.size w w' := by
  have HB : Hid (Below w.heap.size w (w.alloc (.cells #[.int .i64 n, .slice ao l0 co, .slice a1 l1 c1] 35))) := bel_one _ _
  have hd2 : ¬ (0 : Int) ≤ s - 1 := by omega
  go_enter Try.func13, Try.ntmps13
  go_wp2_with fail
  generalize w.alloc (.cells #[.int .i64 n, .slice ao l0 co, .slice a1 l1 c1] 35) = W at *
  go_loopw [4] (fun t wx => t = .int .i64 (s - 1) ∧ wx = W) (fun _ _ => 0)
  case atStart => exact ⟨rfl, rfl⟩
  case round =>
    obtain ⟨rfl, rfl⟩ := hrel
    go_wp2_with fail
    go_end0
    exact ⟨rfl, HB.out⟩
/-- What a call answers that hands back a row and an errno. -/
def ProPost (n : Int) (len : Nat) (f : Nat → Int) (lr : Nat) (r : Nat → Int) (R : Nat → Nat) (e : Ending) (w' : World) : Prop :=
  ∃ c v, e = .returned (.tuple #[v, .int .i64 c]) ∧ RkC n len f lr r c ∧ ((c ≠ 0 ∧ v = .slice none 0 0) ∨ (c = 0 ∧ RowV w' v len R))
/-- A walker's box. -/
def WBox (w : World) (b : Nat) (n : Int) (ao : Option Addr) (len co : Nat) (a1 : Option Addr) (l1 c1 : Nat) : Prop :=
  w.cell? ⟨b, 0, none⟩ = some (.int .i64 n) ∧ w.cell? ⟨b, 1, none⟩ = some (.slice ao len co) ∧ w.cell? ⟨b, 2, none⟩ = some (.slice a1 l1 c1)
theorem WBox.kp {w w' : World} {b : Nat} {n : Int} {ao : Option Addr} {len co : Nat} {a1 : Option Addr} {l1 c1 B : Nat} (h : WBox w b n ao len co a1 l1 c1) (hg : w.grownBy w' (some B)) (hne : b ≠ B) : WBox w' b n ao len co a1 l1 c1 :=
  ⟨hg.cell h.1 (fun e => hne (by injection e)), hg.cell h.2.1 (fun e => hne (by injection e)), hg.cell h.2.2 (fun e => hne (by injection e))⟩
theorem WBox.step {w w' : World} {b : Nat} {n : Int} {ao : Option Addr} {len co : Nat} {a1 : Option Addr} {l1 c1 : Nat} (h : WBox w b n ao len co a1 l1 c1) (hb : Below w.heap.size w w') : WBox w' b n ao len co a1 l1 c1 :=
  ⟨cell_step hb h.1, cell_step hb h.2.1, cell_step hb h.2.2⟩
theorem wbox_new (w : World) (n : Int) (ao : Option Addr) (len co : Nat) (a1 : Option Addr) (l1 c1 : Nat) (W : World)
    (hW : w.alloc (.cells #[.int .i64 n, .slice ao len co, .slice a1 l1 c1] 35) = W) :
    WBox W w.heap.size n ao len co a1 l1 c1 ∧ Below w.heap.size w W ∧ w.heap.size < W.heap.size := by
  subst hW
  exact ⟨⟨by simp, by simp, by simp⟩, bel_one w _, by simp⟩

set_option maxHeartbeats 4000000 in
theorem promote_any (n : Int) (ao : Option Addr) (len co : Nat) (f : Nat → Int) (ar : Option Addr) (lr cr : Nat) (r : Nat → Int) (w : World) (hl : len ≤ maxLen) (hlr : lr ≤ maxLen) (ho : Row w ao len f) (hr : Row w ar lr r) :
    Calls Try.prog 5 #[.agg #[.int .i64 n, .slice ao len co], .slice ar lr cr] w fun e w' => ProPost n len f lr r (up (nat f) (len - 1) (nat r)) e w' ∧ Below w.heap.size w w' := by
  have HB0 : Hid (Below w.heap.size w (w.alloc (.cells #[.int .i64 n, .slice ao len co] 24))) := bel_one w _
  have K0 : Hid (Held (w.alloc (.cells #[.int .i64 n, .slice ao len co] 24)) w.heap.size n ao len co f) := Held.box ho
  have HRo : Hid (Row w ao len f) := ho
  have HRr : Hid (Row w ar lr r) := hr
  clear ho hr
  have k0 := K0.out.c0
  have k1 := K0.out.c1
  go_enter Try.func5, Try.ntmps5
  go_wp2_with fail
  refine (walkerOf_any n ao len co f ar lr cr r _ hl hlr K0.out.row (HRr.out.below HB0.out)).mono ?_
  rintro e w1 ⟨⟨c, x, rfl, hc, hx⟩, hb1⟩
  have HB1 : Hid (Below w.heap.size w w1) := Below.then HB0.out hb1
  have HC : Hid (RkC n len f lr r c) := hc
  have hsz0 : (w.alloc (.cells #[.int .i64 n, .slice ao len co] 24)).heap.size = w.heap.size + 1 := by simp
  rw [hsz0] at hx
  clear hc hb1 HB0 K0 k0 k1 hsz0
  by_cases h0 : c = 0
  · subst h0
    obtain ⟨v, rfl, hown⟩ : ∃ v, x = .agg #[.int .i64 n, .slice ao len co, v] ∧ w1.ownsRow (w.heap.size + 1) 3 1 v len (rowVals (nat r) len) := by
      rcases hx with ⟨h, _⟩ | ⟨_, h⟩
      · exact absurd rfl h
      · exact h
    obtain ⟨hck, rfl, hrow⟩ := HC.out.good
    obtain ⟨rfl, h10, hrng, _⟩ := hck.good
    have HRW : Hid (Rw (nat f) lr (nat r)) := rw_of h10 (hrng.small2 h10) hrow
    have HG : Hid (∀ k, k < lr → nat f k < 1024) := hrng.small2 h10
    have HRN : Hid (Row w ao lr (fun k => ((nat f k : Nat) : Int))) := hrng.row HRo.out
    clear hck hrng hrow hx
    obtain ⟨a5, c5, rfl, hr5⟩ := owns_row hown
    have HR5 : Hid (Row w1 a5 lr (fun k => ((nat r k : Nat) : Int))) := hr5
    have HOW : Hid (w1.ownsRow (w.heap.size + 1) 3 1 (.slice a5 lr c5) lr (rowVals (nat r) lr)) := hown
    clear hr5 hown
    obtain ⟨hbox, hbW, hsW⟩ := wbox_new w1 lr ao lr co a5 lr c5 _ rfl
    have HBW := (show Hid (Below w.heap.size w _) from Below.then HB1.out hbW)
    have HBX := (show Hid (WBox _ _ _ _ _ _ _ _ _) from hbox)
    have HB1W := (show Hid (Below w1.heap.size w1 _) from hbW)
    obtain ⟨d0, d1, d2⟩ := hbox
    clear hbW
    go_wp2_with fail
    generalize w1.alloc (.cells #[.int .i64 (lr : Int), .slice ao lr co, .slice a5 lr c5] 35) = W at *
    by_cases hz : lr = 0
    · have hz1 : (lr : Int) < 1 := by omega
      have HRZ0 : Hid (∀ k, ¬ k < lr) := fun k => by omega
      clear hz
      refine (goUp0_any ao lr co a5 lr c5 _ _ W (by omega) (by omega)).mono ?_
      rintro e w2 ⟨rfl, hb2⟩
      obtain ⟨e0, e1, e2⟩ := HBX.out.step hb2
      have HB3 : Hid (Below w.heap.size w w2) := Below.then HBW.out hb2
      have HRZ : Hid (RowV w2 (.slice a5 lr c5) lr (up (nat f) (lr - 1) (nat r))) := ⟨a5, c5, rfl, fun k hk => absurd hk (HRZ0.out k)⟩
      clear d0 d1 d2 hb2 e0 e1
      go_wp2_with fail
      go_ret2
      exact ⟨⟨_, _, rfl, HC.out, .inr ⟨rfl, HRZ.out⟩⟩, HB3.out⟩
    · obtain ⟨B, cap, hv⟩ := owns_form HOW.out (by omega : 0 < lr)
      injection hv with hv1 hv2 hv3
      subst hv1 hv3
      obtain ⟨hO, hB1, hB2⟩ := own_of HOW.out
      have HO : Hid (Own W B lr (nat r)) := fun k hk => hO.keep HB1W.out hB2 k hk
      have HNE : Hid (∀ b off, ao = some ⟨b, off, none⟩ → b ≠ B) := old_ne HRN.out (by omega) (by omega)
      have HRoW : Hid (Row W ao lr (fun k => ((nat f k : Nat) : Int))) := HRN.out.below HBW.out
      have hBW : B < W.heap.size := by have := HB1W.out.size; omega
      have hwB : w.heap.size ≤ B := by omega
      have hbB : w1.heap.size ≠ B := by omega
      clear hO
      refine (goUp_any lr ao co (nat f) B c5 (nat r) (lr - 1) _ W h10 HG.out HRoW.out HNE.out HO.out HRW.out hBW (.inr (by omega)) (.inl (by omega))).mono ?_
      rintro e w2 ⟨rfl, hO2, hg2⟩
      obtain ⟨e0, e1, e2⟩ := HBX.out.kp hg2 hbB
      have HB3 : Hid (Below w.heap.size w w2) := HBW.out.grown hg2 HBW.out.size (fun k hk => by injection hk with hk; omega)
      have HRZ : Hid (RowV w2 (.slice (some ⟨B, 0, none⟩) lr c5) lr (up (nat f) (lr - 1) (nat r))) := ⟨_, _, rfl, hO2.row⟩
      clear d0 d1 d2 hg2 e0 e1 hO2
      go_wp2_with fail
      go_ret2
      exact ⟨⟨_, _, rfl, HC.out, .inr ⟨rfl, HRZ.out⟩⟩, HB3.out⟩
  · have hne : (c != 0) = true := by simpa using h0
    obtain rfl : x = .agg #[.int .i64 0, .slice none 0 0, .slice none 0 0] := by
      rcases hx with ⟨_, h⟩ | ⟨h, _⟩
      · exact h
      · exact absurd h h0
    have H0 : Hid (c ≠ 0) := h0
    clear h0 hx
    go_wp2_with fail
    go_ret2
    exact ⟨⟨_, _, rfl, HC.out, .inl ⟨H0.out, rfl⟩⟩, HB1.out.alloc HB1.out.size _⟩

set_option maxHeartbeats 4000000 in
theorem demote_any (n : Int) (ao : Option Addr) (len co : Nat) (f : Nat → Int) (ar : Option Addr) (lr cr : Nat) (r : Nat → Int) (w : World) (hl : len ≤ maxLen) (hlr : lr ≤ maxLen) (ho : Row w ao len f) (hr : Row w ar lr r) :
    Calls Try.prog 7 #[.agg #[.int .i64 n, .slice ao len co], .slice ar lr cr] w fun e w' => ProPost n len f lr r (dn (nat f) (len - 1) (nat r)) e w' ∧ Below w.heap.size w w' := by
  have HB0 : Hid (Below w.heap.size w (w.alloc (.cells #[.int .i64 n, .slice ao len co] 24))) := bel_one w _
  have K0 : Hid (Held (w.alloc (.cells #[.int .i64 n, .slice ao len co] 24)) w.heap.size n ao len co f) := Held.box ho
  have HRo : Hid (Row w ao len f) := ho
  have HRr : Hid (Row w ar lr r) := hr
  clear ho hr
  have k0 := K0.out.c0
  have k1 := K0.out.c1
  go_enter Try.func7, Try.ntmps7
  go_wp2_with fail
  refine (walkerOf_any n ao len co f ar lr cr r _ hl hlr K0.out.row (HRr.out.below HB0.out)).mono ?_
  rintro e w1 ⟨⟨c, x, rfl, hc, hx⟩, hb1⟩
  have HB1 : Hid (Below w.heap.size w w1) := Below.then HB0.out hb1
  have HC : Hid (RkC n len f lr r c) := hc
  have hsz0 : (w.alloc (.cells #[.int .i64 n, .slice ao len co] 24)).heap.size = w.heap.size + 1 := by simp
  rw [hsz0] at hx
  clear hc hb1 HB0 K0 k0 k1 hsz0
  by_cases h0 : c = 0
  · subst h0
    obtain ⟨v, rfl, hown⟩ : ∃ v, x = .agg #[.int .i64 n, .slice ao len co, v] ∧ w1.ownsRow (w.heap.size + 1) 3 1 v len (rowVals (nat r) len) := by
      rcases hx with ⟨h, _⟩ | ⟨_, h⟩
      · exact absurd rfl h
      · exact h
    obtain ⟨hck, rfl, hrow⟩ := HC.out.good
    obtain ⟨rfl, h10, hrng, _⟩ := hck.good
    have HRW : Hid (Rw (nat f) lr (nat r)) := rw_of h10 (hrng.small2 h10) hrow
    have HG : Hid (∀ k, k < lr → nat f k < 1024) := hrng.small2 h10
    have HRN : Hid (Row w ao lr (fun k => ((nat f k : Nat) : Int))) := hrng.row HRo.out
    clear hck hrng hrow hx
    obtain ⟨a5, c5, rfl, hr5⟩ := owns_row hown
    have HR5 : Hid (Row w1 a5 lr (fun k => ((nat r k : Nat) : Int))) := hr5
    have HOW : Hid (w1.ownsRow (w.heap.size + 1) 3 1 (.slice a5 lr c5) lr (rowVals (nat r) lr)) := hown
    clear hr5 hown
    obtain ⟨hbox, hbW, hsW⟩ := wbox_new w1 lr ao lr co a5 lr c5 _ rfl
    have HBW := (show Hid (Below w.heap.size w _) from Below.then HB1.out hbW)
    have HBX := (show Hid (WBox _ _ _ _ _ _ _ _ _) from hbox)
    have HB1W := (show Hid (Below w1.heap.size w1 _) from hbW)
    obtain ⟨d0, d1, d2⟩ := hbox
    clear hbW
    go_wp2_with fail
    generalize w1.alloc (.cells #[.int .i64 (lr : Int), .slice ao lr co, .slice a5 lr c5] 35) = W at *
    by_cases hz : lr = 0
    · have hz1 : (lr : Int) < 1 := by omega
      have HRZ0 : Hid (∀ k, ¬ k < lr) := fun k => by omega
      clear hz
      refine (goDown0_any ao lr co a5 lr c5 _ _ W (by omega) (by omega)).mono ?_
      rintro e w2 ⟨rfl, hb2⟩
      obtain ⟨e0, e1, e2⟩ := HBX.out.step hb2
      have HB3 : Hid (Below w.heap.size w w2) := Below.then HBW.out hb2
      have HRZ : Hid (RowV w2 (.slice a5 lr c5) lr (dn (nat f) (lr - 1) (nat r))) := ⟨a5, c5, rfl, fun k hk => absurd hk (HRZ0.out k)⟩
      clear d0 d1 d2 hb2 e0 e1
      go_wp2_with fail
      go_ret2
      exact ⟨⟨_, _, rfl, HC.out, .inr ⟨rfl, HRZ.out⟩⟩, HB3.out⟩
    · obtain ⟨B, cap, hv⟩ := owns_form HOW.out (by omega : 0 < lr)
      injection hv with hv1 hv2 hv3
      subst hv1 hv3
      obtain ⟨hO, hB1, hB2⟩ := own_of HOW.out
      have HO : Hid (Own W B lr (nat r)) := fun k hk => hO.keep HB1W.out hB2 k hk
      have HNE : Hid (∀ b off, ao = some ⟨b, off, none⟩ → b ≠ B) := old_ne HRN.out (by omega) (by omega)
      have HRoW : Hid (Row W ao lr (fun k => ((nat f k : Nat) : Int))) := HRN.out.below HBW.out
      have hBW : B < W.heap.size := by have := HB1W.out.size; omega
      have hwB : w.heap.size ≤ B := by omega
      have hbB : w1.heap.size ≠ B := by omega
      clear hO
      refine (goDown_any lr ao co (nat f) B c5 (nat r) (lr - 1) _ W h10 HG.out HRoW.out HNE.out HO.out HRW.out hBW (.inr (by omega)) (.inl (by omega))).mono ?_
      rintro e w2 ⟨rfl, hO2, hg2⟩
      obtain ⟨e0, e1, e2⟩ := HBX.out.kp hg2 hbB
      have HB3 : Hid (Below w.heap.size w w2) := HBW.out.grown hg2 HBW.out.size (fun k hk => by injection hk with hk; omega)
      have HRZ : Hid (RowV w2 (.slice (some ⟨B, 0, none⟩) lr c5) lr (dn (nat f) (lr - 1) (nat r))) := ⟨_, _, rfl, hO2.row⟩
      clear d0 d1 d2 hg2 e0 e1 hO2
      go_wp2_with fail
      go_ret2
      exact ⟨⟨_, _, rfl, HC.out, .inr ⟨rfl, HRZ.out⟩⟩, HB3.out⟩
  · have hne : (c != 0) = true := by simpa using h0
    obtain rfl : x = .agg #[.int .i64 0, .slice none 0 0, .slice none 0 0] := by
      rcases hx with ⟨_, h⟩ | ⟨h, _⟩
      · exact h
      · exact absurd h h0
    have H0 : Hid (c ≠ 0) := h0
    clear h0 hx
    go_wp2_with fail
    go_ret2
    exact ⟨⟨_, _, rfl, HC.out, .inl ⟨H0.out, rfl⟩⟩, HB1.out.alloc HB1.out.size _⟩

set_option maxHeartbeats 4000000 in
theorem evacuate_any (n : Int) (ao : Option Addr) (len co : Nat) (f : Nat → Int) (ar : Option Addr) (lr cr : Nat) (r : Nat → Int) (w : World) (hl : len ≤ maxLen) (hlr : lr ≤ maxLen) (ho : Row w ao len f) (hr : Row w ar lr r) :
    Calls Try.prog 6 #[.agg #[.int .i64 n, .slice ao len co], .slice ar lr cr] w fun e w' => ProPost n len f lr r (ev (nat f) (len - 1) (nat r)) e w' ∧ Below w.heap.size w w' := by
  have HB0 : Hid (Below w.heap.size w (w.alloc (.cells #[.int .i64 n, .slice ao len co] 24))) := bel_one w _
  have K0 : Hid (Held (w.alloc (.cells #[.int .i64 n, .slice ao len co] 24)) w.heap.size n ao len co f) := Held.box ho
  have HRo : Hid (Row w ao len f) := ho
  have HRr : Hid (Row w ar lr r) := hr
  clear ho hr
  have k0 := K0.out.c0
  have k1 := K0.out.c1
  go_enter Try.func6, Try.ntmps6
  go_wp2_with fail
  refine (walkerOf_any n ao len co f ar lr cr r _ hl hlr K0.out.row (HRr.out.below HB0.out)).mono ?_
  rintro e w1 ⟨⟨c, x, rfl, hc, hx⟩, hb1⟩
  have HB1 : Hid (Below w.heap.size w w1) := Below.then HB0.out hb1
  have HC : Hid (RkC n len f lr r c) := hc
  have hsz0 : (w.alloc (.cells #[.int .i64 n, .slice ao len co] 24)).heap.size = w.heap.size + 1 := by simp
  rw [hsz0] at hx
  clear hc hb1 HB0 K0 k0 k1 hsz0
  by_cases h0 : c = 0
  · subst h0
    obtain ⟨v, rfl, hown⟩ : ∃ v, x = .agg #[.int .i64 n, .slice ao len co, v] ∧ w1.ownsRow (w.heap.size + 1) 3 1 v len (rowVals (nat r) len) := by
      rcases hx with ⟨h, _⟩ | ⟨_, h⟩
      · exact absurd rfl h
      · exact h
    obtain ⟨hck, rfl, hrow⟩ := HC.out.good
    obtain ⟨rfl, h10, hrng, _⟩ := hck.good
    have HRW : Hid (Rw (nat f) lr (nat r)) := rw_of h10 (hrng.small2 h10) hrow
    have HG : Hid (∀ k, k < lr → nat f k < 1024) := hrng.small2 h10
    have HRN : Hid (Row w ao lr (fun k => ((nat f k : Nat) : Int))) := hrng.row HRo.out
    clear hck hrng hrow hx
    obtain ⟨a5, c5, rfl, hr5⟩ := owns_row hown
    have HR5 : Hid (Row w1 a5 lr (fun k => ((nat r k : Nat) : Int))) := hr5
    have HOW : Hid (w1.ownsRow (w.heap.size + 1) 3 1 (.slice a5 lr c5) lr (rowVals (nat r) lr)) := hown
    clear hr5 hown
    obtain ⟨hbox, hbW, hsW⟩ := wbox_new w1 lr ao lr co a5 lr c5 _ rfl
    have HBW := (show Hid (Below w.heap.size w _) from Below.then HB1.out hbW)
    have HBX := (show Hid (WBox _ _ _ _ _ _ _ _ _) from hbox)
    have HB1W := (show Hid (Below w1.heap.size w1 _) from hbW)
    obtain ⟨d0, d1, d2⟩ := hbox
    clear hbW
    go_wp2_with fail
    generalize w1.alloc (.cells #[.int .i64 (lr : Int), .slice ao lr co, .slice a5 lr c5] 35) = W at *
    by_cases hz : lr = 0
    · have HRZ : Hid (RowV W (.slice a5 lr c5) lr (ev (nat f) (lr - 1) (nat r))) := ⟨a5, c5, rfl, fun k hk => absurd hk (by omega)⟩
      have hzz : ¬ (0 : Int) < (lr : Int) - 1 := by omega
      clear hz
      go_loopw [8] (fun t wx => t = .int .i64 ((lr : Int) - 1) ∧ wx = W) (fun _ _ => 0)
      case atStart => exact ⟨rfl, rfl⟩
      case round =>
        obtain ⟨rfl, rfl⟩ := hrel
        go_wp2_with fail
        go_ret2
        exact ⟨⟨_, _, rfl, HC.out, .inr ⟨rfl, HRZ.out⟩⟩, HBW.out⟩
    · obtain ⟨B, cap, hv⟩ := owns_form HOW.out (by omega : 0 < lr)
      injection hv with hv1 hv2 hv3
      subst hv1 hv3
      obtain ⟨hO, hB1, hB2⟩ := own_of HOW.out
      have HO : Hid (Own W B lr (nat r)) := fun k hk => hO.keep HB1W.out hB2 k hk
      have HNE : Hid (∀ b off, ao = some ⟨b, off, none⟩ → b ≠ B) := old_ne HRN.out (by omega) (by omega)
      have HRoW : Hid (Row W ao lr (fun k => ((nat f k : Nat) : Int))) := HRN.out.below HBW.out
      have hBW : B < W.heap.size := by have := HB1W.out.size; omega
      have hwB : w.heap.size ≤ B := by omega
      have hbB : w1.heap.size ≠ B := by omega
      clear hO
      clear d0 d1 d2
      go_loopw [8] (fun t wx => ∃ (z : Int) (j : Nat) (X : Nat → Nat), j < lr ∧ z = (j : Int) ∧ t = .int .i64 z ∧ Hid (Own wx B lr X) ∧ Hid (Rw (nat f) lr X) ∧ Hid (ev (nat f) j X = ev (nat f) (lr - 1) (nat r)) ∧ Hid (W.grownBy wx (some B))) (fun t _ => (intOf t).toNat)
      case atStart => exact ⟨(lr : Int) - 1, lr - 1, nat r, by omega, by omega, rfl, HO.out, HRW.out, rfl, World.grownBy.refl _ _⟩
      case round =>
        clear HO
        obtain ⟨z, j, X, hj, rfl, rfl, hOk, hRk, hEk, hGk⟩ := hrel
        obtain ⟨e0, e1, e2⟩ := HBX.out.kp hGk.out hbB
        by_cases hlt : 0 < j
        · obtain ⟨k, rfl⟩ : ∃ k, j = k + 1 := ⟨j - 1, by omega⟩
          have HRo2 : Hid (Row wr ao lr (fun k => ((nat f k : Nat) : Int))) := HRoW.out.kp hGk.out HNE.out
          have hpos : (0 : Int) < ((k + 1 : Nat) : Int) := by omega
          have hsz3 : B < wr.heap.size := by have := hGk.out.size; omega
          go_wp2_with fail
          refine (goUp_any lr ao co (nat f) B c5 X (k + 1) _ wr h10 HG.out HRo2.out HNE.out hOk.out hRk.out hsz3 (.inr hj) (.inl rfl)).mono ?_
          rintro e w2 ⟨rfl, hO2, hg2⟩
          have HO2 : Hid (Own w2 B lr (up (nat f) (k + 1) X)) := hO2
          have HG2 : Hid (W.grownBy w2 (some B)) := hGk.out.trans hg2
          have HR2 : Hid (Rw (nat f) lr (up (nat f) (k + 1) X)) := hRk.out.up (k + 1) hj
          have HE2 : Hid (ev (nat f) k (up (nat f) (k + 1) X) = ev (nat f) (lr - 1) (nat r)) := hEk.out
          clear hO2 hg2 hOk hGk hRk hEk e0 e1 e2
          have hm1 : ((k + 1 : Nat) : Int) - 1 = (k : Int) := by omega
          go_wp2_with fail
          go_roundw
          case rel => exact ⟨(k : Int), k, up (nat f) (k + 1) X, by omega, rfl, by first | rfl | go_num, HO2.out, HR2.out, HE2.out, HG2.out⟩
          case measure => simp [intOf]
        · obtain rfl : j = 0 := by omega
          have HB3 : Hid (Below w.heap.size w wr) := HBW.out.grown hGk.out HBW.out.size (fun k hk => by injection hk with hk; omega)
          have HRZ : Hid (RowV wr (.slice (some ⟨B, 0, none⟩) lr c5) lr (ev (nat f) (lr - 1) (nat r))) := by
            have := hOk.out.row
            rw [show X = ev (nat f) (lr - 1) (nat r) from hEk.out] at this
            exact ⟨_, _, rfl, this⟩
          go_wp2_with fail
          go_ret2
          exact ⟨⟨_, _, rfl, HC.out, .inr ⟨rfl, HRZ.out⟩⟩, HB3.out⟩
  · have hne : (c != 0) = true := by simpa using h0
    obtain rfl : x = .agg #[.int .i64 0, .slice none 0 0, .slice none 0 0] := by
      rcases hx with ⟨_, h⟩ | ⟨h, _⟩
      · exact h
      · exact absurd h h0
    have H0 : Hid (c ≠ 0) := h0
    clear h0 hx
    go_wp2_with fail
    go_ret2
    exact ⟨⟨_, _, rfl, HC.out, .inl ⟨H0.out, rfl⟩⟩, HB1.out.alloc HB1.out.size _⟩
end Go.Proofs.Ytnommlfenaijoab
