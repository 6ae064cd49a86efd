/-
  What slices.Equal and promote.Orbit answer, whatever Orbit is handed. No condition but that slices read as slices of numbers.
-/
import Derived.Deep.QuietTactic
import Derived.Test.YtnommlfenaijoabPrQ
namespace Go.Proofs.Ytnommlfenaijoab
set_option maxRecDepth 100000
open Go.RowKit

theorem equal_any (a b : Option Addr) (la ca lb cb : Nat) (f g : Nat → Int) (w : World) (hl : la ≤ maxLen) (hl2 : lb ≤ maxLen) (ha : Row w a la f) (hb : Row w b lb g) :
    Calls Try.prog 14 #[.slice a la ca, .slice b lb cb] w fun e w' => Ans e (SameRows la lb f g) ∧ Below w.heap.size w w' := by
  unfold maxLen at hl hl2
  by_cases hlen : la = lb
  · subst hlen
    have HA := (show Hid _ from ha); have HB := (show Hid _ from hb); clear ha hb
    go_enter Try.func14, Try.ntmps14
    go_wp2
    go_loopw [13] (fun i wx => ∃ k : Nat, k ≤ la ∧ i = .int .i64 k ∧ Hid (∀ j, j < k → f j = g j) ∧ Row wx a la f ∧ Row wx b la g ∧ Hid (Below w.heap.size w wx)) (fun i _ => la - (intOf i).toNat)
    case atStart => exact ⟨0, Nat.zero_le _, rfl, upto_zero, HA.out, HB.out, Below.refl _ _⟩
    case round =>
      obtain ⟨k, hk, rfl, hok, hA, hB, hW⟩ := hrel
      clear HA HB
      by_cases hlt : k < la
      · obtain ⟨b1, o1, rfl, hc1⟩ := hA.at hlt
        obtain ⟨b2, o2, rfl, hc2⟩ := hB.at hlt
        have d1 := hc1 k hlt
        have d2 := hc2 k hlt
        clear hc1 hc2
        have hlt' : (k : Int) < (la : Int) := by omega
        by_cases he : f k = g k
        · have hne : (f k != g k) = false := by simpa using he
          have HE := (show Hid _ from he); clear he
          go_wp2
          go_quiet (fail)
          go_wp2
          go_roundw
          case rel => exact ⟨k + 1, by omega, by go_num, upto_succ hok.out HE.out, hA, hB, below_drewN hW.out _⟩
          case measure => simp [intOf]; omega
        · have hne : (f k != g k) = true := by simpa using he
          go_wp2
          go_quiet (fail)
          go_wp2
          go_ret
          exact ⟨Ans.no (fun h => he (h.2 k hlt)), below_drewN hW.out _⟩
      · have hkn : k = la := by omega
        subst hkn
        go_wp2
        go_ret
        exact ⟨Ans.yes ⟨rfl, hok.out⟩, hW.out⟩
  · have hne : ((la : Int) != (lb : Int)) = true := by simp; omega
    clear ha hb
    go_enter Try.func14, Try.ntmps14
    go_wp2
    go_ret
    exact ⟨Ans.no (fun h => hlen h.1), Below.refl _ _⟩
/-- How often a row must be promoted till it is there again. -/
def OrbIs (u : Nat → Nat) (n : Nat) (r : Nat → Nat) (t : Int) : Prop :=
  ∃ T : Nat, t = (T : Int) ∧ 1 ≤ T ∧ T ≤ 10000000000 ∧ (∀ i, i < n → its u (n - 1) T r i = r i) ∧ ∀ s, 1 ≤ s → s < T → ¬ ∀ i, i < n → its u (n - 1) s r i = r i
theorem OrbIs.one {u : Nat → Nat} {n : Nat} {r : Nat → Nat} {t t' : Int} (h : OrbIs u n r t) (h' : OrbIs u n r t') : t = t' := by
  obtain ⟨T, rfl, h1, _, h2, h3⟩ := h
  obtain ⟨T', rfl, k1, _, k2, k3⟩ := h'
  rcases Nat.lt_trichotomy T T' with e | e | e
  · exact absurd h2 (k3 T h1 e)
  · rw [e]
  · exact absurd k2 (h3 T' k1 e)
def OrbPost (n : Int) (len : Nat) (f : Nat → Int) (lr : Nat) (r : Nat → Int) (e : Ending) : Prop :=
  ∃ c t, e = .returned (.tuple #[.int .i64 t, .int .i64 c]) ∧ RkC n len f lr r c ∧ ((c ≠ 0 ∧ t = 0) ∨ (c = 0 ∧ OrbIs (nat f) len (nat r) t))

set_option maxHeartbeats 4000000 in
theorem orbit_any (n : Int) (ao : Option Addr) (len co : Nat) (f : Nat → Int) (ar : Option Addr) (lr cr : Nat) (r : Nat → Int) (w : World) (hl : len ≤ maxLen) (hlr : lr ≤ maxLen) (ho : Row w ao len f) (hr : Row w ar lr r) :
    Calls Try.prog 9 #[.agg #[.int .i64 n, .slice ao len co], .slice ar lr cr] w fun e w' => OrbPost n len f lr r e ∧ Below w.heap.size w w' := by
  have HB0 : Hid (Below w.heap.size w (w.alloc (.cells #[.int .i64 n, .slice ao len co] 24))) := bel_one w _
  have K0 : Hid (Held (w.alloc (.cells #[.int .i64 n, .slice ao len co] 24)) w.heap.size n ao len co f) := Held.box ho
  have HRo : Hid (Row w ao len f) := ho
  have HRr : Hid (Row w ar lr r) := hr
  clear ho hr
  have k0 := K0.out.c0
  have k1 := K0.out.c1
  go_enter Try.func9, Try.ntmps9
  go_wp2_with fail
  refine (walkerOf_any n ao len co f ar lr cr r _ hl hlr K0.out.row (HRr.out.below HB0.out)).mono ?_
  rintro e w1 ⟨⟨c, x, rfl, hc, hx⟩, hb1⟩
  have HB1 : Hid (Below w.heap.size w w1) := Below.then HB0.out hb1
  have HC : Hid (RkC n len f lr r c) := hc
  have hsz0 : (w.alloc (.cells #[.int .i64 n, .slice ao len co] 24)).heap.size = w.heap.size + 1 := by simp
  rw [hsz0] at hx
  clear hc hb1 HB0 K0 k0 k1 hsz0
  by_cases h0 : c = 0
  · subst h0
    obtain ⟨v, rfl, hown⟩ : ∃ v, x = .agg #[.int .i64 n, .slice ao len co, v] ∧ w1.ownsRow (w.heap.size + 1) 3 1 v len (rowVals (nat r) len) := by
      rcases hx with ⟨h, _⟩ | ⟨_, h⟩
      · exact absurd rfl h
      · exact h
    obtain ⟨hck, rfl, hrow⟩ := HC.out.good
    obtain ⟨rfl, h10, hrng, _⟩ := hck.good
    have HRW : Hid (Rw (nat f) lr (nat r)) := rw_of h10 (hrng.small2 h10) hrow
    have HG : Hid (∀ k, k < lr → nat f k < 1024) := hrng.small2 h10
    have HRP : Hid (∀ k, k < lr → r k = ((nat r k : Nat) : Int)) := fun k hk => nat_eq (hrow k hk).1
    have HRN : Hid (Row w ao lr (fun k => ((nat f k : Nat) : Int))) := hrng.row HRo.out
    clear hck hrng hrow hx
    obtain ⟨a5, c5, rfl, hr5⟩ := owns_row hown
    have HR5 : Hid (Row w1 a5 lr (fun k => ((nat r k : Nat) : Int))) := hr5
    have HOW : Hid (w1.ownsRow (w.heap.size + 1) 3 1 (.slice a5 lr c5) lr (rowVals (nat r) lr)) := hown
    clear hr5 hown
    obtain ⟨hbox, hbW, hsW⟩ := wbox_new w1 lr ao lr co a5 lr c5 _ rfl
    have HBW := (show Hid (Below w.heap.size w _) from Below.then HB1.out hbW)
    have HBX := (show Hid (WBox _ _ _ _ _ _ _ _ _) from hbox)
    have HB1W := (show Hid (Below w1.heap.size w1 _) from hbW)
    obtain ⟨d0, d1, d2⟩ := hbox
    clear hbW
    go_wp2_with fail
    generalize w1.alloc (.cells #[.int .i64 (lr : Int), .slice ao lr co, .slice a5 lr c5] 35) = W at *
    by_cases hz : lr = 0
    · have hz1 : (lr : Int) < 1 := by omega
      have HRZ0 : Hid (∀ k, ¬ k < lr) := fun k => by omega
      have HOI : Hid (OrbIs (nat f) lr (nat r) 1) := ⟨1, rfl, Nat.le_refl _, by omega, fun i hi => absurd hi (HRZ0.out i), fun s h1 h2 => absurd h1 (by omega)⟩
      clear hz
      refine (goUp0_any ao lr co a5 lr c5 _ _ W (by omega) (by omega)).mono ?_
      rintro e w2 ⟨rfl, hb2⟩
      obtain ⟨e0, e1, e2⟩ := HBX.out.step hb2
      have HB3 : Hid (Below w.heap.size w w2) := Below.then HBW.out hb2
      have HRa : Hid (Row w2 a5 lr r) := fun k hk => absurd hk (HRZ0.out k)
      have HRb : Hid (Row w2 ar lr r) := fun k hk => absurd hk (HRZ0.out k)
      clear d0 d1 d2 hb2 e0 e1
      go_wp2_with fail
      go_loopw [8] (fun t wx => t = .int .i64 1 ∧ wx = w2) (fun _ _ => 0)
      case atStart => exact ⟨rfl, rfl⟩
      case round =>
        obtain ⟨rfl, rfl⟩ := hrel
        go_wp2_with fail
        refine (equal_any a5 ar lr c5 lr cr r r _ hlr hlr HRa.out HRb.out).mono ?_
        rintro e w3 ⟨⟨v, rfl, hv⟩, hb3⟩
        obtain rfl : v = true := hv.2 ⟨rfl, fun _ _ => rfl⟩
        have HB4 : Hid (Below w.heap.size w w3) := Below.then HB3.out hb3
        clear hv hb3 e2
        go_wp2_with fail
        go_ret2
        exact ⟨⟨_, _, rfl, HC.out, .inr ⟨rfl, HOI.out⟩⟩, HB4.out⟩
    · obtain ⟨B, cap, hv⟩ := owns_form HOW.out (by omega : 0 < lr)
      injection hv with hv1 hv2 hv3
      subst hv1 hv3
      obtain ⟨hO, hB1, hB2⟩ := own_of HOW.out
      have HO : Hid (Own W B lr (nat r)) := fun k hk => hO.keep HB1W.out hB2 k hk
      have HNE : Hid (∀ b off, ao = some ⟨b, off, none⟩ → b ≠ B) := old_ne HRN.out (by omega) (by omega)
      have HRoW : Hid (Row W ao lr (fun k => ((nat f k : Nat) : Int))) := HRN.out.below HBW.out
      have hBW : B < W.heap.size := by have := HB1W.out.size; omega
      have hwB : w.heap.size ≤ B := by omega
      have hbB : w1.heap.size ≠ B := by omega
      clear hO
      obtain ⟨T0, hT1, hT2, hT3⟩ := again h10 HRW.out (show lr - 1 < lr by omega)
      have HT3 : Hid (∀ i, i < lr → its (nat f) (lr - 1) T0 (nat r) i = nat r i) := hT3
      have HNR : Hid (∀ b off, ar = some ⟨b, off, none⟩ → b ≠ B) := old_ne HRr.out (by omega) (by omega)
      clear hT3
      refine (goUp_any lr ao co (nat f) B c5 (nat r) (lr - 1) _ W h10 HG.out HRoW.out HNE.out HO.out HRW.out hBW (.inr (by omega)) (.inl (by omega))).mono ?_
      rintro e w2 ⟨rfl, hO2, hg2⟩
      have HO2 : Hid (Own w2 B lr (its (nat f) (lr - 1) 1 (nat r))) := hO2
      have HG2 : Hid (W.grownBy w2 (some B)) := hg2
      clear hO2 hg2 HO d0 d1 d2
      go_wp2_with fail
      go_loopw [8] (fun t wx => ∃ T : Nat, 1 ≤ T ∧ T ≤ T0 ∧ t = .int .i64 (T : Int) ∧ Hid (Own wx B lr (its (nat f) (lr - 1) T (nat r))) ∧ Hid (∀ s, 1 ≤ s → s < T → ¬ ∀ i, i < lr → its (nat f) (lr - 1) s (nat r) i = nat r i) ∧ Hid (W.grownBy wx (some B))) (fun t _ => T0 - (intOf t).toNat)
      case atStart => exact ⟨1, Nat.le_refl _, hT1, rfl, HO2.out, fun s h1 h2 => absurd h1 (by omega), HG2.out⟩
      case round =>
        clear HO2 HG2
        obtain ⟨T, ht1, ht2, rfl, hOk, hNk, hGk⟩ := hrel
        obtain ⟨e0, e1, e2⟩ := HBX.out.kp hGk.out hbB
        have HRa : Hid (Row wr (some ⟨B, 0, none⟩) lr (fun k => ((its (nat f) (lr - 1) T (nat r) k : Nat) : Int))) := hOk.out.row
        have HRb : Hid (Row wr ar lr r) := (HRr.out.below HBW.out).kp hGk.out HNR.out
        go_wp2_with fail
        refine (equal_any _ ar lr c5 lr cr _ r wr hlr hlr HRa.out HRb.out).mono ?_
        rintro e w3 ⟨⟨v, rfl, hv⟩, hb3⟩
        have HG3 : Hid (W.grownBy w3 (some B)) := hGk.out.trans (kp_of hb3)
        have HO3 : Hid (Own w3 B lr (its (nat f) (lr - 1) T (nat r))) := fun k hk => hOk.out.keep hb3 (hOk.out.lt hk) k hk
        clear e0 e1 e2 hb3 hOk hGk HRa HRb
        cases v
        · have HNO : Hid (¬ ∀ i, i < lr → its (nat f) (lr - 1) T (nat r) i = nat r i) := fun h => by
            have : false = true := hv.2 ⟨rfl, fun k hk => by rw [HRP.out k hk]; exact congrArg Int.ofNat (h k hk)⟩
            cases this
          have hlt : T < T0 := by
            rcases Nat.lt_or_ge T T0 with h | h
            · exact h
            · have e : T = T0 := by omega
              rw [e] at HNO
              exact absurd HT3.out HNO.out
          have HN3 : Hid (∀ s, 1 ≤ s → s < T + 1 → ¬ ∀ i, i < lr → its (nat f) (lr - 1) s (nat r) i = nat r i) := fun s h1 h2 => by
            by_cases e : s = T
            · rw [e]; exact HNO.out
            · exact hNk.out s h1 (by omega)
          obtain ⟨e0, e1, e2⟩ := HBX.out.kp HG3.out hbB
          have HRo2 : Hid (Row w3 ao lr (fun k => ((nat f k : Nat) : Int))) := HRoW.out.kp HG3.out HNE.out
          have hsz3 : B < w3.heap.size := by have := HG3.out.size; omega
          clear hv hNk
          go_wp2_with fail
          refine (goUp_any lr ao co (nat f) B c5 (its (nat f) (lr - 1) T (nat r)) (lr - 1) _ w3 h10 HG.out HRo2.out HNE.out HO3.out (HRW.out.its (show lr - 1 < lr by omega) T) hsz3 (.inr (by omega)) (.inl (by omega))).mono ?_
          rintro e w4 ⟨rfl, hO4, hg4⟩
          have HO4 : Hid (Own w4 B lr (its (nat f) (lr - 1) (T + 1) (nat r))) := hO4
          have HG4 : Hid (W.grownBy w4 (some B)) := HG3.out.trans hg4
          clear hO4 hg4 e0 e1 e2 HO3 HG3
          go_wp2_with fail
          go_roundw
          case rel => exact ⟨T + 1, by omega, by omega, by go_num, HO4.out, HN3.out, HG4.out⟩
          case measure => simp [intOf]; omega
        · have HOI : Hid (OrbIs (nat f) lr (nat r) (T : Int)) := by
            refine ⟨T, rfl, ht1, by omega, fun i hi => ?_, hNk.out⟩
            have h1 : ((its (nat f) (lr - 1) T (nat r) i : Nat) : Int) = r i := (hv.1 rfl).2 i hi
            rw [HRP.out i hi] at h1
            omega
          have HB4 : Hid (Below w.heap.size w w3) := HBW.out.grown HG3.out HBW.out.size (fun k hk => by injection hk with hk; omega)
          clear hv
          go_wp2_with fail
          go_ret2
          exact ⟨⟨_, _, rfl, HC.out, .inr ⟨rfl, HOI.out⟩⟩, HB4.out⟩
  · have hne : (c != 0) = true := by simpa using h0
    obtain rfl : x = .agg #[.int .i64 0, .slice none 0 0, .slice none 0 0] := by
      rcases hx with ⟨_, h⟩ | ⟨h, _⟩
      · exact h
      · exact absurd h h0
    have H0 : Hid (c ≠ 0) := h0
    clear h0 hx
    go_wp2_with fail
    go_ret2
    exact ⟨⟨_, _, rfl, HC.out, .inl ⟨H0.out, rfl⟩⟩, HB1.out.alloc HB1.out.size _⟩
end Go.Proofs.Ytnommlfenaijoab
