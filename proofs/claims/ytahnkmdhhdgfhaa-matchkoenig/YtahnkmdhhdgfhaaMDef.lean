/-
  What match.Best and the reference's Deficit answer. No condition but that a slice reads as a slice of numbers.
-/
import Derived.Test.YtahnkmdhhdgfhaaMKoenM
namespace Go.Proofs.Ytahnkmdhhdgfhaa
open Go.RowKit

theorem dfc_small (t : Nat → Nat) (l k : Nat) : maxTo (lk1 t l) k ≤ 10 := (maxTo_le_iff _ _ _).2 fun s _ => by
  have := pc_le s
  unfold lk1; omega

theorem wrap_i64_int (n : Int) (h0 : -1000000 ≤ n) (h1 : n ≤ 1000000) : IntKind.i64.wrap n = n := by
  simp [IntKind.wrap, IntKind.bits, IntKind.signed]; omega

set_option maxHeartbeats 1000000 in
theorem deficit_any (len r : Nat) (a : Option Addr) (cap : Nat) (t : Nat → Nat) (w : World) (h10 : len ≤ 10) (hr10 : r ≤ 10) (ht : Sm r len t) (hr : Row w a len (fun k => (t k : Nat))) :
    Calls Try.prog 14 #[.agg #[.int .i64 (len : Int), .int .i64 (r : Int), .slice a len cap]] w fun e w' => e = .returned (.int .i64 (dfc t len : Nat)) ∧ Below w.heap.size w w' := by
  have K0 : GHeld (w.alloc (.cells #[.int .i64 (len : Int), .int .i64 (r : Int), .slice a len cap] 24)) w.heap.size len r a len cap (fun k => (t k : Nat)) := GHeld.box hr
  have HB0 : Hid (Below w.heap.size w (w.alloc (.cells #[.int .i64 (len : Int), .int .i64 (r : Int), .slice a len cap] 24))) := (Below.refl _ _).alloc (Nat.le_refl _) _
  have HT : Hid (Sm r len t) := ht
  have hpw := pw_le len h10
  have hpr := pw_le r hr10
  have HOL : Hid (∀ s, orTo t s len < pw r) := fun s => orTo_lt ht len (Nat.le_refl _)
  clear hr ht
  obtain ⟨φ, Hφ⟩ : ∃ φ, Hid (φ = lk1 t len) := ⟨_, rfl⟩
  have HPA : Hid (∀ s, φ s = pc s - pc (orTo t s len)) := fun s => by rw [Hφ.out]; rfl
  have HBIT : Hid (∀ w, Calls Try.prog 25 #[.int .i64 (len : Nat)] w fun e w' => e = .returned (.int .i64 (pw len : Nat)) ∧ w = w') := fun w => bit_any len w (by omega)
  have HEND : Hid (dfc t len = maxTo φ (pw len)) := by rw [Hφ.out]; exact rfl
  have HSM : Hid (∀ k, maxTo φ k ≤ 10) := fun k => by rw [Hφ.out]; exact dfc_small t len k
  clear Hφ
  generalize pw len = N at *
  go_enter Try.func14, Try.ntmps14
  go_wp2_with fail
  go_loopw [3, 4] (fun x i wx => ∃ s : Nat, s ≤ N ∧ i = .int .i64 s ∧ x = .int .i64 (maxTo φ s : Nat) ∧ GHeld wx w.heap.size len r a len cap (fun k => (t k : Nat)) ∧ Hid (Below w.heap.size w wx)) (fun _ i _ => N - (intOf i).toNat)
  case atStart => exact ⟨0, Nat.zero_le _, rfl, rfl, K0, HB0.out⟩
  case round =>
    clear K0 HB0
    obtain ⟨s, hs, rfl, rfl, hH, hB⟩ := hrel
    have c0 := hH.c0
    have c1 := hH.c1
    have c2 := hH.c2
    by_cases hlt : s < N
    · have hPs := HPA.out s
      have hO := HOL.out s
      have hp1 := pc_le (orTo t s len)
      have hp2 := pc_le s
      have hO2 : orTo t s len < 1024 := Nat.lt_of_lt_of_le hO hpr
      have hsN : (s : Int) < (N : Int) := by omega
      have hm := HSM.out s
      have HSZ : Hid (∀ w, Calls Try.prog 17 #[.int .i64 (s : Nat)] w fun e w' => e = .returned (.int .i64 (pc s : Nat)) ∧ w = w') := fun w => refSize_any s w (by omega)
      have HSO : Hid (∀ w, Calls Try.prog 17 #[.int .i64 (orTo t s len : Nat)] w fun e w' => e = .returned (.int .i64 (pc (orTo t s len) : Nat)) ∧ w = w') := fun w => refSize_any _ w hO2
      clear hO
      generalize hpO : pc (orTo t s len) = pO at *
      generalize hps : pc s = ps at *
      have HPS : Hid (φ s = ps - pO) := hPs
      clear hpO hps hPs
      go_wp2_with (first
        | (go_at_call 25; refine (HBIT.out _).mono ?_; rintro e w' ⟨rfl, rfl⟩)
        | (go_at_call_of 17 (Value.int IntKind.i64 ((s : Nat) : Int)); refine (HSZ.out _).mono ?_; rintro e w' ⟨rfl, rfl⟩))
      have hwr : IntKind.i64.wrap ((ps : Int) - (pO : Int)) = (ps : Int) - (pO : Int) := wrap_i64_int _ (by omega) (by omega)
      have l0 : ∀ w', Below wr.heap.size wr w' → w'.cell? ⟨w.heap.size, 0, none⟩ = some (.int .i64 (len : Int)) := fun w' h => (hH.step h).c0
      have l1 : ∀ w', Below wr.heap.size wr w' → w'.cell? ⟨w.heap.size, 1, none⟩ = some (.int .i64 (r : Int)) := fun w' h => (hH.step h).c1
      have l2 : ∀ w', Below wr.heap.size wr w' → w'.cell? ⟨w.heap.size, 2, none⟩ = some (.slice a len cap) := fun w' h => (hH.step h).c2
      have LR : Hid (∀ w', Below wr.heap.size wr w' → Row w' a len (fun k => (t k : Nat))) := fun w' h => (hH.step h).row
      have KK : Below wr.heap.size wr wr.drew := (Below.refl _ _).drew
      have HKEEP : Hid (∀ w', Below wr.heap.size wr w' → GHeld w' w.heap.size len r a len cap (fun k => (t k : Nat)) ∧ Below w.heap.size w w') := fun w' h => ⟨hH.step h, Below.then hB.out h⟩
      clear hH hB c0 c1 c2
      go_region_held3 (fun w' => Below wr.heap.size wr w')
        (first | exact KK | assumption | exact Below.then (by assumption) (by assumption))
        (first
          | (go_at_call 28; refine (with_any len r a cap t s _ h10 hr10 HT.out (by omega) (LR.out _ (by assumption))).mono ?_; rintro e w1 ⟨rfl, hb1⟩)
          | (go_at_call_of 17 (Value.int IntKind.i64 ((s : Nat) : Int)); refine (HSZ.out _).mono ?_; rintro e w1 ⟨rfl, rfl⟩)
          | (go_at_call 17; refine (HSO.out _).mono ?_; rintro e w1 ⟨rfl, rfl⟩))
      by_cases hd : maxTo φ s < ps - pO
      · have HM : Hid (maxTo φ (s + 1) = ps - pO) := by
          have e := maxTo_ge (φ := φ) (k := s) (by rw [HPS.out]; exact hd)
          rw [HPS.out] at e; exact e
        have hdi : decide (((maxTo φ s : Nat) : Int) < (ps : Int) - (pO : Int)) = true := by simp; omega
        generalize maxTo φ s = M at *
        all_goals go_wp2_with fail
        all_goals go_roundw
        case rel => exact ⟨s + 1, by omega, by go_num, by rw [HM.out]; go_num, (HKEEP.out _ (by assumption)).1, (HKEEP.out _ (by assumption)).2⟩
        case measure => simp [intOf]; omega
      · have HM : Hid (maxTo φ (s + 1) = maxTo φ s) := maxTo_le (by rw [HPS.out]; omega)
        have hdi : decide (((maxTo φ s : Nat) : Int) < (ps : Int) - (pO : Int)) = false := by simp; omega
        generalize maxTo φ s = M at *
        all_goals go_wp2_with fail
        all_goals go_roundw
        case rel => exact ⟨s + 1, by omega, by go_num, by rw [HM.out], (HKEEP.out _ (by assumption)).1, (HKEEP.out _ (by assumption)).2⟩
        case measure => simp [intOf]; omega
    · have hsn : s = N := by omega
      have HT1 : Hid (dfc t len = maxTo φ s) := by rw [hsn]; exact HEND.out
      have hle : (N : Int) ≤ (s : Int) := by omega
      clear hsn
      go_wp2_with (go_at_call 25; refine (HBIT.out _).mono ?_; rintro e w' ⟨rfl, rfl⟩)
      go_ret
      exact ⟨ret_int (congrArg Int.ofNat HT1.out.symm), hB.out⟩

/-- What comes with a code: of each on the left who goes with it, or nothing. -/
def BestPost (L R : Int) (len : Nat) (f : Nat → Int) (e : Ending) (w' : World) : Prop :=
  ∃ (c : Int) (v : Value), GChk L R len f c ∧ e = .returned (.tuple #[v, .int .i64 c]) ∧ ((c ≠ 0 ∧ v = .slice none 0 0) ∨ (c = 0 ∧ ∃ b G, v = .slice (some ⟨b, 0, none⟩) len len ∧ Row w' (some ⟨b, 0, none⟩) len G ∧ Mates (nat f) len R.toNat G))
theorem best2_any (L R : Int) (a : Option Addr) (len cap : Nat) (f : Nat → Int) (w : World) (hl : len ≤ maxLen) (hr : Row w a len f) :
    Calls Try.prog 12 #[.agg #[.int .i64 L, .int .i64 R, .slice a len cap]] w fun e w' => BestPost L R len f e w' ∧ Below w.heap.size w w' := by
  have K0 : GHeld (w.alloc (.cells #[.int .i64 L, .int .i64 R, .slice a len cap] 24)) w.heap.size L R a len cap f := GHeld.box hr
  have HB0 : Hid (Below w.heap.size w (w.alloc (.cells #[.int .i64 L, .int .i64 R, .slice a len cap] 24))) := (Below.refl _ _).alloc (Nat.le_refl _) _
  clear hr
  go_enter Try.func12, Try.ntmps12
  go_wp2_with fail
  refine (mcheck_any L R a len cap f _ hl K0.row).mono ?_
  rintro e w1 ⟨⟨c, rfl, hc⟩, hb⟩
  have K1 := K0.step hb
  have HB1 : Hid (Below w.heap.size w w1) := Below.then HB0.out hb
  clear hb K0 HB0
  by_cases h0 : c = 0
  · subst h0
    obtain ⟨r, rfl, rfl, h10, hr10, hrng⟩ := hc.good
    have HC : Hid (GChk (len : Int) (r : Int) len f 0) := hc
    have k0 := K1.c0
    have k1 := K1.c1
    have k2 := K1.c2
    go_wp2_with fail
    refine (best_any len r a cap (nat f) _ h10 hr10 hrng.small (hrng.row K1.row)).mono ?_
    rintro e w2 ⟨⟨b, G, rfl, hrow, hm⟩, hb2⟩
    have HRW : Hid (Row w2 (some ⟨b, 0, none⟩) len G) := hrow
    have HM : Hid (Mates (nat f) len ((r : Int)).toNat G) := by rw [Int.toNat_natCast]; exact hm
    have HB2 : Hid (Below w.heap.size w w2) := Below.then HB1.out hb2
    clear hb2 HB1 K1 k0 k1 k2 hc hrow hm
    go_wp2_with fail
    go_ret2
    exact ⟨⟨0, _, HC.out, rfl, .inr ⟨rfl, b, G, rfl, HRW.out, HM.out⟩⟩, HB2.out⟩
  · have hne : (c != 0) = true := by simpa using h0
    have HC : Hid (GChk L R len f c) := hc
    clear hc
    go_wp2_with fail
    go_ret2
    exact ⟨⟨c, _, HC.out, rfl, .inl ⟨h0, rfl⟩⟩, HB1.out⟩
end Go.Proofs.Ytahnkmdhhdgfhaa
