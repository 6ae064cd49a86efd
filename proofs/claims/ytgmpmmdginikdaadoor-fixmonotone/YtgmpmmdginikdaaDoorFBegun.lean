/-
  hasselaw.fixBegun answers true. Condition: the library's table lies in its variable.
-/
import Derived.Test.YtgmpmmdginikdaaDoorCoreP
import Derived.Test.YtgmpmmdginikdaaDoorFixL
import Derived.Test.YtgmpmmdginikdaaDoorPair
namespace Go.Proofs.YtgmpmmdginikdaaDoor
open Go.RowKit

def gLad (k : Nat) : Nat := if k = 0 then 0 else if k = 1 then 1 else 3
def fLad (k : Nat) : Int := (gLad k : Nat)
theorem ladder_any (w : World) : Calls Tryd.prog 33 #[] w fun e w' => (∃ a, e = .returned (.agg #[.int .i64 3, .slice a 3 3]) ∧ Row w' a 3 fLad) ∧ Below w.heap.size w w' := by
  go_enter Tryd.func33, Tryd.ntmps33
  go_wp2_with fail
  refine bodyPost_ret (v := .agg #[.int .i64 3, .slice (some ⟨w.heap.size + 1, 0, none⟩) 3 3]) (by simp [results, Tryd.results33, go_sem]) rfl ⟨⟨_, rfl, ?_⟩, ?_⟩
  · intro k hk
    refine ⟨w.heap.size + 1, 0, rfl, ?_⟩
    match k, hk with
    | 0, _ => simp [fLad, gLad]
    | 1, _ => simp [fLad, gLad]
    | 2, _ => simp [fLad, gLad]
  · exact ((Below.refl _ _).alloc (Nat.le_refl _) _).alloc (by simp) _
theorem natLad : nat fLad = gLad := by funext k; simp [nat, fLad]
theorem lad_chk : Chk 3 3 fLad 0 := by
  refine .inr ⟨3, rfl, by omega, .inr ⟨rfl, .inr ⟨?_, .inr ⟨rfl, ?_⟩⟩⟩⟩
  · unfold Rng fLad; decide +kernel
  · rw [natLad]; unfold Ord OrdAt; decide +kernel
/-- The ladder that lies at a. -/
def ladA (a : Option Addr) : OA := ⟨3, a, 3, 3, fLad⟩
theorem lad_cnt (a b : Option Addr) : cntM (ladA a) (ladA b) = 10 := by
  show (cmp (upB (nat fLad)) (upB (nat fLad)) 3 3 []).length = 10
  rw [natLad]; decide +kernel
theorem lad_core (a : Option Addr) : core (ladA a).g (trn (ladA a).g (ladA a).q) (ladA a).q (pw (ladA a).q - 1) (pw (ladA a).q - 1) = 4 := by
  show core (nat fLad) (trn (nat fLad) 3) 3 (pw 3 - 1) (pw 3 - 1) = 4
  rw [natLad]; decide +kernel
theorem lad_in {a : Option Addr} {w : World} (h : Row w a 3 fLad) : (ladA a).In w := ⟨show 3 ≤ maxLen by unfold maxLen; omega, h⟩
theorem cnt_lad {a b : Option Addr} {e : Ending} (h : CntPost (ladA a) (ladA b) e) : e = .returned (.tuple #[.int .i64 10, .int .i64 0]) := by
  obtain ⟨c0, c, v, hc0, hc, rfl, hv⟩ := h
  obtain rfl : c0 = 0 := hc0.one (.inr ⟨lad_chk, lad_chk⟩)
  obtain rfl : c = 0 := by
    rcases hc with ⟨h, _⟩ | ⟨_, ⟨_, h⟩ | ⟨h, _⟩⟩
    · exact absurd rfl h
    · exact absurd ⟨by show 3 ≤ 5; omega, by show 3 ≤ 5; omega⟩ h
    · exact h
  rcases hv with ⟨h, _⟩ | ⟨_, h⟩
  · exact absurd rfl h
  · rw [h, lad_cnt]; rfl
theorem core_lad {a : Option Addr} {e : Ending} (h : CorePost (ladA a) e) : e = .returned (.tuple #[.int .i64 4, .int .i64 0]) := by
  obtain ⟨c, v, hc, rfl, hv⟩ := h
  obtain rfl : c = 0 := Chk.unique hc lad_chk
  rcases hv with ⟨h, _⟩ | ⟨_, h⟩
  · exact absurd rfl h
  · rw [h, lad_core]; rfl

theorem pair_la {x : Value} {w : World} (h : PairIs x w) : ∃ A : LA, A.v = x ∧ A.In w ∧ A.Ck 0 ∧ A.q = 2 ∧ A.n = 2 ∧ A.m = (fun x y => min x y) ∧ A.j = fun x y => max x y := by
  obtain ⟨b, b', R, R', rfl, h1, h2⟩ := h
  refine ⟨⟨2, some ⟨b, 0, none⟩, 2, 2, _, _, some ⟨b', 0, none⟩, 2, 2, _, _⟩, rfl, ⟨show 2 ≤ maxLen by unfold maxLen; omega, show 2 ≤ maxLen by unfold maxLen; omega, h1.rr (by unfold maxLen; omega), h2.rr (by unfold maxLen; omega)⟩, ?_, rfl, rfl, nat2_cast _, nat2_cast _⟩
  exact LCk.of (n := 2) (by omega) (by omega) (fun _ _ => rfl) (fun _ _ => rfl) lat2
def f11 (_ : Nat) : Int := 1
theorem fck_pair {A : LA} {a : Option Addr} (hA : A.Ck 0) (en : A.n = 2) (em : A.m = fun x y => min x y) : FCk A ⟨a, 2, 2, f11⟩ 0 :=
  .inr ⟨hA, .inr ⟨.inr ⟨by rw [en]; rfl, .inr ⟨rfl, fun k _ => by rw [en]; exact ⟨show (0 : Int) ≤ 1 by decide, show (1 : Int) < 2 by decide⟩⟩⟩, .inr ⟨rfl, by
    rw [em]
    intro x y _ _ _
    rfl⟩⟩⟩
theorem least_pair {A : LA} {a : Option Addr} {T : Nat → Nat → Nat} {e : Ending} (hA : A.Ck 0) (en : A.n = 2) (em : A.m = fun x y => min x y) (h : FPost A ⟨a, 2, 2, f11⟩ T e) : e = .returned (.tuple #[.int .i64 1, .int .i64 0]) := by
  obtain ⟨c, v, hc, rfl, hv⟩ := h
  obtain rfl : c = 0 := hc.one (fck_pair hA en em)
  rcases hv with ⟨h, _⟩ | ⟨_, x, rfl, _, hx⟩
  · exact absurd rfl h
  · have hx' : 1 = x := hx
    rw [← hx']; rfl

set_option maxHeartbeats 2000000 in
theorem fixBegun_any (w : World) (hT : Tab w) : Calls Tryd.prog 11 #[] w fun e w' => e = .returned (.bool true) ∧ Below w.heap.size w w' := by
  have HT : Hid (Tab w) := hT
  clear hT
  go_enter Tryd.func11, Tryd.ntmps11
  go_wp2_with fail
  refine (ladder_any _).mono ?_
  rintro e w1 ⟨⟨a, rfl, hr1⟩, hb1⟩
  have HB1 : Hid (Below w.heap.size w w1) := hb1
  have HR1 : Hid (Row w1 a 3 fLad) := hr1
  clear hb1 hr1
  go_wp2_with fail
  refine (ladder_any _).mono ?_
  rintro e w2 ⟨⟨b, rfl, hr2⟩, hb2⟩
  have HB2 : Hid (Below w.heap.size w w2) := Below.then HB1.out hb2
  have HC : Hid (Calls Tryd.prog 14 #[(ladA a).v, (ladA b).v] w2 fun e w' => e = .returned (.tuple #[.int .i64 10, .int .i64 0]) ∧ Below w2.heap.size w2 w') := (count_any (ladA a) (ladA b) w2 (lad_in (HR1.out.below hb2)) (lad_in hr2)).mono fun e w' h => ⟨cnt_lad h.1, h.2⟩
  clear hb2 hr2 HB1 HR1
  go_wp2_with fail
  refine (Calls.mono HC.out) ?_
  rintro e w3 ⟨rfl, hb3⟩
  have HB3 : Hid (Below w.heap.size w w3) := Below.then HB2.out hb3
  clear hb3 HC HB2
  go_wp2_with fail
  refine (pair_any _).mono ?_
  rintro e w4 ⟨⟨x, rfl, hx⟩, hb4⟩
  obtain ⟨A, rfl, hA, cA, qA, nA, mA, jA⟩ := pair_la hx
  have hb5 : Below w4.heap.size w4 (w4.alloc (.cells #[.int .i64 1, .int .i64 1] 3)) := (Below.refl _ _).alloc (Nat.le_refl _) _
  have HB5 : Hid (Below w.heap.size w (w4.alloc (.cells #[.int .i64 1, .int .i64 1] 3))) := Below.then (Below.then HB3.out hb4) hb5
  have HL : Hid (Calls Tryd.prog 24 #[A.v, .slice (some ⟨w4.heap.size, 0, none⟩) 2 2] (w4.alloc (.cells #[.int .i64 1, .int .i64 1] 3)) fun e w' => e = .returned (.tuple #[.int .i64 1, .int .i64 0]) ∧ Below (w4.alloc (.cells #[.int .i64 1, .int .i64 1] 3)).heap.size (w4.alloc (.cells #[.int .i64 1, .int .i64 1] 3)) w') :=
    (least_any A ⟨some ⟨w4.heap.size, 0, none⟩, 2, 2, f11⟩ _ (hA.step hb5) ⟨by unfold maxLen; simp only; omega, fun k hk => ⟨_, _, rfl, by
      simp only at hk
      rcases (by omega : k = 0 ∨ k = 1) with rfl | rfl <;> simp [f11]⟩⟩).mono fun e w' h => ⟨least_pair cA nA mA h.1, h.2⟩
  clear hx hA cA qA nA mA jA hb4 hb5 HB3
  go_wp2_with fail
  refine (Calls.mono HL.out) ?_
  rintro e w5 ⟨rfl, hb6⟩
  have HB6 : Hid (Below w.heap.size w w5) := Below.then HB5.out hb6
  clear hb6 HL HB5
  go_wp2_with fail
  refine (ladder_any _).mono ?_
  rintro e w6 ⟨⟨d, rfl, hr6⟩, hb7⟩
  have HB7 : Hid (Below w.heap.size w w6) := Below.then HB6.out hb7
  have HC : Hid (Calls Tryd.prog 22 #[(ladA d).v] w6 fun e w' => e = .returned (.tuple #[.int .i64 4, .int .i64 0]) ∧ Below w6.heap.size w6 w') := (core_any (ladA d) w6 (lad_in hr6) (HT.out.step HB7.out)).mono fun e w' h => ⟨core_lad h.1, h.2⟩
  clear hb7 hr6 HB6
  go_wp2_with fail
  refine (Calls.mono HC.out) ?_
  rintro e w7 ⟨rfl, hb8⟩
  have HB8 : Hid (Below w.heap.size w w7) := Below.then HB7.out hb8
  clear hb8 HC HB7 HT
  go_wp2_with fail
  go_ret
  exact ⟨rfl, HB8.out⟩
end Go.Proofs.YtgmpmmdginikdaaDoor
