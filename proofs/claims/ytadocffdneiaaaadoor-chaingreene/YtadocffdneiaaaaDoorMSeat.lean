/-
  What match's search for a place answers, and does. Conditions: a graph of at most ten points on either side; the matching and what was tried lie in blocks of their own.
-/
import Derived.Test.YtadocffdneiaaaaDoorMBestM
import Derived.Test.YtadocffdneiaaaaDoorMSeated
namespace Go.Proofs.YtadocffdneiaaaaDoor
open Go.RowKit

theorem sub_le {a b : Nat} (h : Sub a b) : a ≤ b := by
  have e : a &&& b = a := by
    apply Nat.eq_of_testBit_eq
    intro k
    rw [Nat.testBit_and]
    cases ha : a.testBit k
    · rfl
    · rw [h k ha]; rfl
  rw [← e]; exact Nat.and_le_right
/-- Two blocks may have been written; the others are as they were. -/
structure Chg (bh bt : Nat) (w w' : World) : Prop where
  os : w'.os = w.os
  tape : w'.tape = w.tape
  output : w'.output = w.output
  size : w.heap.size ≤ w'.heap.size
  block : ∀ k, k < w.heap.size → k ≠ bh → k ≠ bt → w'.heap[k]? = w.heap[k]?
theorem Chg.refl (bh bt : Nat) (w : World) : Chg bh bt w w := ⟨rfl, rfl, rfl, Nat.le_refl _, fun _ _ _ _ => rfl⟩
theorem Chg.trans {bh bt : Nat} {w w1 w2 : World} (h : Chg bh bt w w1) (k : Chg bh bt w1 w2) : Chg bh bt w w2 :=
  ⟨k.os.trans h.os, k.tape.trans h.tape, k.output.trans h.output, Nat.le_trans h.size k.size, fun j hj h1 h2 => (k.block j (Nat.lt_of_lt_of_le hj h.size) h1 h2).trans (h.block j hj h1 h2)⟩
theorem Chg.drew {bh bt : Nat} {w w1 : World} (h : Chg bh bt w w1) : Chg bh bt w w1.drew := h.trans ⟨rfl, rfl, rfl, Nat.le_refl _, fun _ _ _ _ => rfl⟩
theorem Chg.drewN {bh bt : Nat} {w w1 : World} (h : Chg bh bt w w1) (n : Nat) : Chg bh bt w (w1.drewN n) := h.trans ⟨rfl, rfl, rfl, Nat.le_refl _, fun _ _ _ _ => rfl⟩
theorem heap_set_other (w : World) (b j k : Nat) (v : Value) (h : k ≠ b) : (w.setCell ⟨b, j, none⟩ v).heap[k]? = w.heap[k]? := heap_setCell_other w ⟨b, j, none⟩ k v (fun e => h e)
theorem Chg.set1 {bh bt : Nat} {w w1 : World} (h : Chg bh bt w w1) (j : Nat) (v : Value) : Chg bh bt w (w1.setCell ⟨bh, j, none⟩ v) :=
  h.trans ⟨rfl, rfl, rfl, by simp, fun k _ h1 _ => heap_set_other w1 bh j k v h1⟩
theorem Chg.set2 {bh bt : Nat} {w w1 : World} (h : Chg bh bt w w1) (j : Nat) (v : Value) : Chg bh bt w (w1.setCell ⟨bt, j, none⟩ v) :=
  h.trans ⟨rfl, rfl, rfl, by simp, fun k _ _ h2 => heap_set_other w1 bt j k v h2⟩

/-- The matching in its blocks. -/
structure MW (w : World) (bm bh bt l r : Nat) (a : Option Addr) (cap : Nat) (t : Nat → Nat) (H : Nat → Int) (T : Nat) : Prop where
  c0 : w.cell? ⟨bm, 0, none⟩ = some (.int .i64 (l : Int))
  c1 : w.cell? ⟨bm, 1, none⟩ = some (.int .i64 (r : Int))
  c2 : w.cell? ⟨bm, 2, none⟩ = some (.slice a l cap)
  c3 : w.cell? ⟨bm, 3, none⟩ = some (.slice (some ⟨bh, 0, none⟩) r r)
  row : ∀ k, k < l → ∃ b off, a = some ⟨b, off, none⟩ ∧ b ≠ bh ∧ b ≠ bt ∧ w.cell? ⟨b, off + k, none⟩ = some (.int .i64 (t k : Nat))
  hold : ∀ k, k < r → w.cell? ⟨bh, k, none⟩ = some (.int .i64 (H k)) ∧ w.frozen? ⟨bh, k, none⟩ = false
  tc : w.cell? ⟨bt, 0, none⟩ = some (.int .i64 (T : Nat))
  tf : w.frozen? ⟨bt, 0, none⟩ = false
  n1 : bm ≠ bh
  n2 : bm ≠ bt
  n3 : bh ≠ bt
theorem MW.drew {w : World} {bm bh bt l r : Nat} {a : Option Addr} {cap : Nat} {t : Nat → Nat} {H : Nat → Int} {T : Nat} (h : MW w bm bh bt l r a cap t H T) : MW w.drew bm bh bt l r a cap t H T :=
  ⟨h.c0, h.c1, h.c2, h.c3, h.row, h.hold, h.tc, h.tf, h.n1, h.n2, h.n3⟩
theorem MW.drewN {w : World} {bm bh bt l r : Nat} {a : Option Addr} {cap : Nat} {t : Nat → Nat} {H : Nat → Int} {T : Nat} (h : MW w bm bh bt l r a cap t H T) (n : Nat) : MW (w.drewN n) bm bh bt l r a cap t H T :=
  ⟨h.c0, h.c1, h.c2, h.c3, h.row, h.hold, h.tc, h.tf, h.n1, h.n2, h.n3⟩
theorem set_far (w : World) (b j b' j' : Nat) (v : Value) (h : b' ≠ b) : (w.setCell ⟨b, j, none⟩ v).cell? ⟨b', j', none⟩ = w.cell? ⟨b', j', none⟩ :=
  World.cell?_setCell_other _ _ _ _ (fun e => by injection e with e1; exact h e1.symm)
theorem MW.setT {w : World} {bm bh bt l r : Nat} {a : Option Addr} {cap : Nat} {t : Nat → Nat} {H : Nat → Int} {T : Nat} (h : MW w bm bh bt l r a cap t H T) (T' : Nat) : MW (w.setCell ⟨bt, 0, none⟩ (.int .i64 (T' : Nat))) bm bh bt l r a cap t H T' where
  c0 := by rw [set_far _ _ _ _ _ _ h.n2]; exact h.c0
  c1 := by rw [set_far _ _ _ _ _ _ h.n2]; exact h.c1
  c2 := by rw [set_far _ _ _ _ _ _ h.n2]; exact h.c2
  c3 := by rw [set_far _ _ _ _ _ _ h.n2]; exact h.c3
  row := fun k hk => by
    obtain ⟨b, off, e, h1, h2, hc⟩ := h.row k hk
    exact ⟨b, off, e, h1, h2, by rw [set_far _ _ _ _ _ _ h2]; exact hc⟩
  hold := fun k hk => ⟨by rw [set_far _ _ _ _ _ _ h.n3]; exact (h.hold k hk).1, by rw [World.frozen?_setCell]; exact (h.hold k hk).2⟩
  tc := World.cell?_setCell_same _ _ _ h.tc
  tf := by rw [World.frozen?_setCell]; exact h.tf
  n1 := h.n1
  n2 := h.n2
  n3 := h.n3
theorem MW.setH {w : World} {bm bh bt l r : Nat} {a : Option Addr} {cap : Nat} {t : Nat → Nat} {H : Nat → Int} {T : Nat} (h : MW w bm bh bt l r a cap t H T) (q : Nat) (v : Int) (hq : q < r) : MW (w.setCell ⟨bh, q, none⟩ (.int .i64 v)) bm bh bt l r a cap t (updI H q v) T where
  c0 := by rw [set_far _ _ _ _ _ _ h.n1]; exact h.c0
  c1 := by rw [set_far _ _ _ _ _ _ h.n1]; exact h.c1
  c2 := by rw [set_far _ _ _ _ _ _ h.n1]; exact h.c2
  c3 := by rw [set_far _ _ _ _ _ _ h.n1]; exact h.c3
  row := fun k hk => by
    obtain ⟨b, off, e, h1, h2, hc⟩ := h.row k hk
    exact ⟨b, off, e, h1, h2, by rw [set_far _ _ _ _ _ _ h1]; exact hc⟩
  hold := fun k hk => by
    refine ⟨?_, by rw [World.frozen?_setCell]; exact (h.hold k hk).2⟩
    by_cases e : k = q
    · subst e; rw [updI_same]; exact World.cell?_setCell_same _ _ _ (h.hold k hk).1
    · rw [updI_other e, World.cell?_setCell_other _ _ _ _ (fun e2 => e (by injection e2 with _ h2; exact h2.symm))]; exact (h.hold k hk).1
  tc := by rw [set_far _ _ _ _ _ _ (fun e => h.n3 e.symm)]; exact h.tc
  tf := by rw [World.frozen?_setCell]; exact h.tf
  n1 := h.n1
  n2 := h.n2
  n3 := h.n3

def SeatPost (bm bh bt l r : Nat) (a : Option Addr) (cap : Nat) (t : Nat → Nat) (H : Nat → Int) (T v : Nat) (w : World) (e : Ending) (w' : World) : Prop :=
  ∃ (b : Bool) (H' : Nat → Int) (T' : Nat), e = .returned (.bool b) ∧ MW w' bm bh bt l r a cap t H' T' ∧ Chg bh bt w w' ∧ (b = true → SeatT t l r T H v H' T') ∧ (b = false → H' = H ∧ SeatF t l r T H v T')
theorem lack_testBit {x T q : Nat} (hx : x < 1024) (hT : T < 1024) : (lack x T).testBit q = (x.testBit q && !T.testBit q) := lack_bit x T q (by omega) (by omega)

set_option maxHeartbeats 1000000 in
theorem seat_any (bm bh bt l r : Nat) (a : Option Addr) (cap : Nat) (t : Nat → Nat) (H : Nat → Int) (_hl : l ≤ 10) (hr10 : r ≤ 10) (ht : Sm r l t) (hV : Val t l r H) : ∀ (m T v : Nat) (w : World), pw r - T < m → T < pw r → v < l → InjOff r T H → ¬ HeldOff r T H v → MW w bm bh bt l r a cap t H T →
    Calls Tryd.prog 34 #[.pointer (some ⟨bm, 0, none⟩), .int .i64 v, .pointer (some ⟨bt, 0, none⟩)] w fun e w' => SeatPost bm bh bt l r a cap t H T v w e w' := by
  intro m
  induction m with
  | zero => intro T v w h; exact absurd h (Nat.not_lt_zero _)
  | succ m ih =>
    intro T v w hm hT hv hI hN hW
    have IH : Hid (∀ (T1 u : Nat) (w1 : World), T < T1 → T1 < pw r → u < l → InjOff r T1 H → ¬ HeldOff r T1 H u → MW w1 bm bh bt l r a cap t H T1 →
        Calls Tryd.prog 34 #[.pointer (some ⟨bm, 0, none⟩), .int .i64 u, .pointer (some ⟨bt, 0, none⟩)] w1 fun e w' => SeatPost bm bh bt l r a cap t H T1 u w1 e w') := fun T1 u w1 h1 h2 h3 h4 h5 h6 => ih T1 u w1 (by omega) h2 h3 h4 h5 h6
    have HI0 : Hid (SeatI t l r T H v 0 T) := SeatI.start hT
    have HI : Hid (InjOff r T H) := hI
    have HN : Hid (¬ HeldOff r T H v) := hN
    have HV : Hid (Val t l r H) := hV
    have htv : t v < pw r := ht v hv
    have hpr := pw_le r hr10
    have HW : Hid (MW w bm bh bt l r a cap t H T) := hW
    have d1 := hW.c1
    clear hI hN hm ih hV hW
    go_enter Tryd.func34, Tryd.ntmps34
    go_wp2_with fail
    clear d1
    go_loopw [13] (fun x wx => ∃ q Tc : Nat, q ≤ r ∧ x = .int .i64 q ∧ Hid (MW wx bm bh bt l r a cap t H Tc) ∧ Hid (Chg bh bt w wx) ∧ Hid (SeatI t l r T H v q Tc)) (fun x _ => r - (intOf x).toNat)
    case atStart => exact ⟨0, T, Nat.zero_le _, rfl, HW.out, Chg.refl _ _ _, HI0.out⟩
    case round =>
      clear HW HI0
      obtain ⟨q, Tc, hq, rfl, HW, HC, HS⟩ := hrel
      by_cases hqr : q < r
      · have hlq : (q : Int) < (r : Int) := by omega
        have hlv : (v : Int) < (l : Int) := by omega
        obtain ⟨b, off, rfl, hbh, hbt, hcv⟩ := HW.out.row v hv
        have c2 := HW.out.c2
        have c3 := HW.out.c3
        have ct := HW.out.tc
        have hTc : Tc < 1024 := Nat.lt_of_lt_of_le HS.out.lt hpr
        have htv2 : t v < 1024 := Nat.lt_of_lt_of_le htv hpr
        have hand := i64_andNot (t v) Tc (by omega) (by omega)
        have hlk := lack_le (t v) Tc
        have hlb := lack_testBit (q := q) htv2 hTc
        generalize lack (t v) Tc = Lk at *
        rcases (Bool.eq_false_or_eq_true ((t v).testBit q)).symm with hb1 | hb1
        · have hb : Lk.testBit q = false := by rw [hlb, hb1]; rfl
          have HS1 : Hid (SeatI t l r T H v (q + 1) Tc) := HS.out.skip1 hb1
          clear hlb
          go_wp2
          go_quiet ((go_at_call 22; exact Calls.quiet_of_same (has_as _ _ _ _ hb (by omega) (by omega))))
          go_wp2
          go_roundw
          case rel => exact ⟨q + 1, Tc, by omega, by go_num, HW.out.drewN _, HC.out.drewN _, HS1.out⟩
          case measure => simp [intOf]; omega
        · rcases (Bool.eq_false_or_eq_true (Tc.testBit q)) with hb2 | hb2
          · have hb : Lk.testBit q = false := by rw [hlb, hb1, hb2]; rfl
            have HS1 : Hid (SeatI t l r T H v (q + 1) Tc) := HS.out.skip2 hb2
            clear hlb
            go_wp2
            go_quiet ((go_at_call 22; exact Calls.quiet_of_same (has_as _ _ _ _ hb (by omega) (by omega))))
            go_wp2
            go_roundw
            case rel => exact ⟨q + 1, Tc, by omega, by go_num, HW.out.drewN _, HC.out.drewN _, HS1.out⟩
            case measure => simp [intOf]; omega
          · have hb : Lk.testBit q = true := by rw [hlb, hb1, hb2]; rfl
            have hsh := wrap_pow q (by omega)
            have hsh2 := iwrap_pow q (by omega)
            have hpq : pw q < 1024 := Nat.lt_of_lt_of_le (Nat.pow_lt_pow_right (by decide) hqr) hpr
            have hor := i64_or Tc (pw q) (by omega) (by omega)
            have htf := HW.out.tf
            clear hlb
            go_wp2
            go_quiet ((go_at_call 22; exact Calls.quiet_of_same (has_as _ _ _ _ hb (by omega) (by omega))))
            have e2 : (wr.drewN nq).cell? ⟨bt, 0, none⟩ = some (.int .i64 (Tc : Nat)) := ct
            have e3 : (wr.drewN nq).frozen? ⟨bt, 0, none⟩ = false := htf
            have HW2 : Hid (MW (wr.drewN nq) bm bh bt l r (some ⟨b, off, none⟩) cap t H Tc) := HW.out.drewN _
            have HC2 : Hid (Chg bh bt w (wr.drewN nq)) := HC.out.drewN _
            clear c2 c3 ct htf hcv HW HC
            generalize wr.drewN nq = W2 at *
            obtain ⟨T1, HT1⟩ : ∃ T1, Hid (T1 = Tc ||| pw q) := ⟨_, rfl⟩
            rw [← HT1.out] at hor
            have HW3 : Hid (MW (W2.setCell ⟨bt, 0, none⟩ (.int .i64 (T1 : Nat))).drew bm bh bt l r (some ⟨b, off, none⟩) cap t H T1) := (HW2.out.setT T1).drew
            have HC3 : Hid (Chg bh bt w (W2.setCell ⟨bt, 0, none⟩ (.int .i64 (T1 : Nat))).drew) := (HC2.out.set2 0 _).drew
            have g3 := HW3.out.c3
            have g4 := (HW3.out.hold q hqr).1
            have hT1 : T1 < pw r := by rw [HT1.out]; exact or_lt HS.out.lt hqr
            rcases HV.out q hqr with hf | ⟨u, hul, hu, _⟩
            · have hz : (H q == -1) = true := by rw [hf]; rfl
              have g5 := (HW3.out.hold q hqr).2
              have HT : Hid (SeatT t l r T H v (updI H q v) T1) := by rw [HT1.out]; exact HS.out.free HV.out HI.out HN.out hv hqr hb1 hb2 hf
              go_wp2_with fail
              go_region
              all_goals go_wp2_with fail
              go_ret
              exact ⟨true, updI H q v, T1, rfl, HW3.out.setH q v hqr, HC3.out.set1 q _, fun _ => HT.out, fun h => by cases h⟩
            · have hz : (((u : Nat) : Int) == -1) = false := by simp
              have HP : Hid (InjOff r T1 H ∧ ¬ HeldOff r T1 H u) := by rw [HT1.out]; exact HS.out.pre HI.out hqr hb2 hu
              have hTT : T < T1 := by
                have h1 : T ≤ Tc := sub_le HS.out.sub
                have h2 := or_gt hb2
                rw [← HT1.out] at h2
                omega
              have HU : Hid (H q = u) := hu
              rw [hu] at g4
              clear hu
              go_wp2_with fail
              go_region
              all_goals go_wp2_with fail
              refine (IH.out T1 u _ hTT hT1 hul HP.out.1 HP.out.2 HW3.out).mono ?_
              rintro e w4 ⟨b4, H4, T4, rfl, hW4, hC4, hT4, hF4⟩
              have HC4 : Hid (Chg bh bt w w4) := HC3.out.trans hC4
              cases b4
              · obtain ⟨e4, hF⟩ := hF4 rfl
                subst e4
                have HS4 : Hid (SeatI t l r T H4 v (q + 1) T4) := by rw [HT1.out] at hF; exact HS.out.failed hul HU.out hF
                have HW4 : Hid (MW w4 bm bh bt l r (some ⟨b, off, none⟩) cap t H4 T4) := hW4
                clear hW4 hC4 hT4 hF4 hF g3 g4 e2 e3 hz
                go_wp2_with fail
                go_roundw
                case rel => exact ⟨q + 1, T4, by omega, by go_num, HW4.out, HC4.out, HS4.out⟩
                case measure => simp [intOf]; omega
              · have hT := hT4 rfl
                have HT : Hid (SeatT t l r T H v (updI H4 q v) T4) := by rw [HT1.out] at hT; exact HS.out.found HI.out HN.out hv hqr hb1 hb2 HU.out hT
                have HW4 : Hid (MW w4 bm bh bt l r (some ⟨b, off, none⟩) cap t H4 T4) := hW4
                have k3 := hW4.c3
                have k4 := (hW4.hold q hqr).1
                have k5 := (hW4.hold q hqr).2
                clear hW4 hC4 hT4 hF4 hT g3 g4 e2 e3 hz
                go_wp2_with fail
                go_ret
                exact ⟨true, updI H4 q v, T4, rfl, HW4.out.setH q v hqr, HC4.out.set1 q _, fun _ => HT.out, fun h => by cases h⟩
      · have hqn : q = r := by omega
        have HF : Hid (SeatF t l r T H v Tc) := by have h := HS.out; rw [hqn] at h; exact h.done htv
        clear hqn
        go_wp2_with fail
        go_ret
        exact ⟨false, H, Tc, rfl, HW.out, HC.out, fun h => (by cases h), fun _ => ⟨rfl, HF.out⟩⟩
end Go.Proofs.YtadocffdneiaaaaDoor
