/-
  What the reference's Upto, Bound and CutsOf answer. Conditions: an order of at most ten points.
  What the reference's CutsOf, and hasselaw's setOf and numberIs answer. Conditions: as each theorem says.
  What complete.Cuts answers; hasselaw.completeBegun answers true. Condition of Cuts: a slice reads as a slice of numbers.
  hasselaw.conceptBegun, inContext and numberIs; for every context that is handed in hasselaw.ConceptChecks and ConceptConcepts return true. No condition.
  What slices.Index answers of a number that is in the list: its first place. Conditions: a list of at most forty numbers.
  What quotient.pairsOf answers: each element with the first one of its class. Conditions: a list of at most forty numbers.
-/
import Derived.Deep.RegionHeld3
import Derived.Test.YthhnngmfbbljaaaGreatCutsP
import Derived.Test.YthhnngmfbbljaaaGreatSets
import Derived.Test.YthhnngmfbbljaaaGreatLate
import Derived.Test.YthhnngmfbbljaaaGreatConK
import Derived.Test.YthhnngmfbbljaaaGreatTogM
namespace Go.Proofs.YthhnngmfbbljaaaGreat
set_option maxRecDepth 100000
open Go.RowKit

theorem bnA_keep {g : Nat → Nat} {s : Nat} {up : Bool} {i k : Nat} (h : bnT g s up i k = false) : bnA g s up i (k + 1) = bnA g s up i k := by
  show (allB _ k && !(bnT g s up i k)) = allB _ k
  rw [h]; exact Bool.and_true _
theorem bnA_drop {g : Nat → Nat} {s : Nat} {up : Bool} {i k : Nat} (h : bnT g s up i k = true) : bnA g s up i (k + 1) = false := by
  show (allB _ k && !(bnT g s up i k)) = false
  rw [h]; exact Bool.and_false _
end Go.Proofs.YthhnngmfbbljaaaGreat
namespace Go.Proofs.YthhnngmfbbljaaaGreat
set_option maxRecDepth 100000
open Go.RowKit

theorem bnd_1024 (g : Nat → Nat) {n : Nat} (h10 : n ≤ 10) (s : Nat) (up : Bool) : bnd g n s up < 1024 := Nat.lt_of_lt_of_le (bnd_lt g n s up) (pw_le n h10)

end Go.Proofs.YthhnngmfbbljaaaGreat
namespace Go.Proofs.YthhnngmfbbljaaaGreat
set_option maxRecDepth 100000
open Go.RowKit

/-- What a call answers that hands back a list and an errno. -/
def ListPost (c : Int) (l : List Nat) (v : Value) (w : World) : Prop := (c ≠ 0 ∧ v = .slice none 0 0) ∨ (c = 0 ∧ NSl w v l)
set_option maxHeartbeats 1000000 in
theorem cutsX_any (n : Int) (a : Option Addr) (len cap : Nat) (f : Nat → Int) (w : World) (hl : len ≤ maxLen) (hr : Row w a len f) :
    Calls Tryz.prog 21 #[.agg #[.int .i64 n, .slice a len cap]] w fun e w' => (∃ c v, Chk n len f c ∧ e = .returned (.tuple #[v, .int .i64 c]) ∧ ListPost c (cuts (nat f) len) v w') ∧ Below w.heap.size w w' := by
  have K0 : Held (w.alloc (.cells #[.int .i64 n, .slice a len cap] 24)) w.heap.size n a len cap f := Held.box hr
  have HB0 : Hid (Below w.heap.size w (w.alloc (.cells #[.int .i64 n, .slice a len cap] 24))) := (Below.refl _ _).alloc (Nat.le_refl _) _
  clear hr
  go_enter Tryz.func21, Tryz.ntmps21
  go_wp2_with fail
  refine (dual_any n a len cap f _ hl K0.row).mono ?_
  rintro e w1 ⟨⟨c, x, hc, rfl, hx⟩, hb⟩
  have K1 := K0.step hb
  have HB1 : Hid (Below w.heap.size w w1) := Below.then HB0.out hb
  clear hb K0 HB0
  rcases hx with ⟨h0, rfl⟩ | ⟨rfl, a', cap', rfl, hr'⟩
  · have hne : (c != 0) = true := by simpa using h0
    have HC : Hid (Chk n len f c) := hc
    clear hc K1
    unfold noOrder
    go_wp2_with fail
    go_ret2
    exact ⟨⟨c, _, HC.out, rfl, .inl ⟨h0, rfl⟩⟩, HB1.out.alloc HB1.out.size _⟩
  · obtain ⟨rfl, h10, hrng, ho⟩ := hc.good
    have HC : Hid (Chk (len : Int) len f 0) := hc
    have K2 := K1.step ((Below.refl w1.heap.size w1).alloc (Nat.le_refl _) (.cells #[.int .i64 (len : Int), .slice a' len cap'] 24))
    have HR : Hid (Row (w1.alloc (.cells #[.int .i64 (len : Int), .slice a' len cap'] 24)) a' len (fun k => ((trn (nat f) len k : Nat) : Int))) := hr'.below ((Below.refl w1.heap.size w1).alloc (Nat.le_refl _) _)
    have HRA : Hid (Row (w1.alloc (.cells #[.int .i64 (len : Int), .slice a' len cap'] 24)) a len (fun k => ((nat f k : Nat) : Int))) := hrng.row K2.row
    have HG : Hid (∀ k, k < len → nat f k < 1024) := hrng.small2 h10
    have k0 := K2.c0
    have k1 := K2.c1
    have k0' := K1.c0
    have k1' := K1.c1
    clear hc hr' ho hrng K1 K2
    go_wp2_with fail
    refine (allCuts_any a a' len cap cap' (nat f) _ h10 HG.out HRA.out HR.out).mono ?_
    rintro e w2 ⟨⟨v, rfl, hv⟩, hb2⟩
    have HV : Hid (NSl w2 v (cuts (nat f) len)) := hv
    have HB2 : Hid (Below w.heap.size w w2) := Below.then (HB1.out.alloc HB1.out.size _) hb2
    clear hv hb2 HB1 k0 k1 k0' k1' HR HRA
    go_wp2_with fail
    go_ret2
    exact ⟨⟨0, v, HC.out, rfl, .inr ⟨rfl, HV.out⟩⟩, HB2.out⟩

def z2 (_ : Nat) : Int := 0
def l3 : Nat → Int
  | 0 => 0
  | 1 => 1
  | _ => 3
theorem z2_chk : Chk 2 2 z2 0 := .inr ⟨2, rfl, by omega, .inr ⟨rfl, .inr ⟨fun k _ => ⟨Int.le_refl 0, show (0 : Int) < _ by decide⟩, .inr ⟨rfl, by unfold Ord OrdAt; decide⟩⟩⟩⟩
theorem l3_chk : Chk 3 3 l3 0 := .inr ⟨3, rfl, by omega, .inr ⟨rfl, .inr ⟨fun k hk => by
  rcases (by omega : k = 0 ∨ k = 1 ∨ k = 2) with rfl | rfl | rfl <;> decide, .inr ⟨rfl, by unfold Ord OrdAt; decide⟩⟩⟩⟩
theorem z2_cuts : cuts (nat z2) 2 = [0, 1, 2, 3] := by decide
theorem l3_up : low (trn (nat l3) 3) 3 2 = 6 := by decide
theorem l3_low : low (nat l3) 3 2 = 3 := by decide
theorem l3_sts : sts 2 3 = true := by decide
theorem l3_sck {c : Int} (h : SCk 3 3 l3 2 c) : c = 0 := h.unique (.inr ⟨l3_chk, .inr ⟨rfl, l3_sts⟩⟩)

theorem ladder_any (w : World) : Calls Tryz.prog 23 #[] w fun e w' => (∃ a cap, e = .returned (.agg #[.int .i64 3, .slice a 3 cap]) ∧ Row w' a 3 l3) ∧ Below w.heap.size w w' := by
  go_enter Tryz.func23, Tryz.ntmps23
  go_wp2_with fail
  refine bodyPost_ret (v := .agg #[.int .i64 3, .slice (some ⟨w.heap.size + 1, 0, none⟩) 3 3]) (by simp [results, Tryz.results23, go_sem]) rfl ⟨⟨_, _, rfl, ?_⟩, ?_⟩
  · intro k hk
    refine ⟨w.heap.size + 1, 0, rfl, ?_⟩
    match k, hk with
    | 0, _ => simp [l3]
    | 1, _ => simp [l3]
    | 2, _ => simp [l3]
  · exact ((Below.refl _ _).alloc (Nat.le_refl _) _).alloc (by simp) _

set_option maxHeartbeats 2000000 in
theorem completeBegun_any (w : World) : Calls Tryz.prog 5 #[] w fun e w' => e = .returned (.bool true) ∧ Below w.heap.size w w' := by
  go_enter Tryz.func5, Tryz.ntmps5
  go_wp2_with fail
  refine (cutsX_any 2 _ 2 2 z2 _ (by unfold maxLen; omega) ?_).mono ?_
  · intro k hk
    refine ⟨w.heap.size, 0, rfl, ?_⟩
    match k, hk with
    | 0, _ => simp [z2]
    | 1, _ => simp [z2]
  rintro e w1 ⟨⟨c, v, hc, rfl, hv⟩, hb⟩
  obtain rfl := hc.unique z2_chk
  have HB1 : Hid (Below w.heap.size w w1) := Below.then ((Below.refl _ _).alloc (Nat.le_refl _) _) hb
  have HV : Hid (NSl w1 v [0, 1, 2, 3]) := by
    rcases hv with ⟨h, _⟩ | ⟨_, h⟩
    · exact absurd rfl h
    · rw [z2_cuts] at h; exact h
  clear hc hv hb
  go_wp2_with fail
  refine (ladder_any _).mono ?_
  rintro e w2 ⟨⟨a, cap, rfl, hr⟩, hb2⟩
  have HB2 : Hid (Below w.heap.size w w2) := Below.then HB1.out hb2
  have HV2 : Hid (NSl w2 v [0, 1, 2, 3]) := HV.out.below hb2
  have HR : Hid (Row w2 a 3 l3) := hr
  clear hr hb2 HB1 HV
  go_wp2_with fail
  refine (upperX_any 3 a 3 cap l3 2 _ (by unfold maxLen; omega) HR.out).mono ?_
  rintro e w3 ⟨⟨c, hc, x, rfl, hx⟩, hb3⟩
  obtain rfl := l3_sck hc
  obtain rfl : x = 6 := by
    rcases hx with ⟨h, _⟩ | ⟨_, h⟩
    · exact absurd rfl h
    · rw [h]; exact congrArg (fun t : Nat => (t : Int)) l3_up
  have HB3 : Hid (Below w.heap.size w w3) := Below.then HB2.out hb3
  have HV3 : Hid (NSl w3 v [0, 1, 2, 3]) := HV2.out.below hb3
  clear hc hx hb3 HB2 HV2 HR
  go_wp2_with fail
  refine (ladder_any _).mono ?_
  rintro e w4 ⟨⟨a4, cap4, rfl, hr⟩, hb4⟩
  have HB4 : Hid (Below w.heap.size w w4) := Below.then HB3.out hb4
  have HV4 : Hid (NSl w4 v [0, 1, 2, 3]) := HV3.out.below hb4
  have HR : Hid (Row w4 a4 3 l3) := hr
  clear hr hb4 HB3 HV3
  go_wp2_with fail
  refine (lowerX_any 3 a4 3 cap4 l3 2 _ (by unfold maxLen; omega) HR.out).mono ?_
  rintro e w5 ⟨⟨c, hc, x, rfl, hx⟩, hb5⟩
  obtain rfl := l3_sck hc
  obtain rfl : x = 3 := by
    rcases hx with ⟨h, _⟩ | ⟨_, h⟩
    · exact absurd rfl h
    · rw [h]; exact congrArg (fun t : Nat => (t : Int)) l3_low
  have HB5 : Hid (Below w.heap.size w w5) := Below.then HB4.out hb5
  obtain ⟨va, vc, rfl, hvr⟩ := HV4.out.below hb5
  have HVR : Hid (Row w5 va 4 (fun k => ((nth [0, 1, 2, 3] k : Nat) : Int))) := hvr
  clear hc hx hb5 HB4 HV4 HR hvr
  go_wp2_with fail
  refine (same_any va _ 4 vc 4 4 (fun k => ((nth [0, 1, 2, 3] k : Nat) : Int)) (fun k => ((nth [0, 1, 2, 3] k : Nat) : Int)) _ (by unfold maxLen; omega) (by unfold maxLen; omega) (HVR.out.below ((Below.refl _ _).alloc (Nat.le_refl _) _)) ?_).mono ?_
  · intro k hk
    refine ⟨w5.heap.size, 0, rfl, ?_⟩
    match k, hk with
    | 0, _ => simp [nth]
    | 1, _ => simp [nth]
    | 2, _ => simp [nth]
    | 3, _ => simp [nth]
  rintro e w6 ⟨⟨q, rfl, hq⟩, hb6⟩
  obtain rfl : q = true := hq.2 ⟨rfl, fun _ _ => rfl⟩
  have HB6 : Hid (Below w.heap.size w w6) := Below.then (HB5.out.alloc HB5.out.size _) hb6
  clear hq hb6 HB5 HVR
  go_wp2_with fail
  go_ret
  exact ⟨rfl, HB6.out⟩
end Go.Proofs.YthhnngmfbbljaaaGreat
namespace Go.Proofs.YthhnngmfbbljaaaGreat
set_option maxRecDepth 100000
open Go.RowKit

theorem begun_cons : cons (nat fun _ => 0) 1 1 = [(0, 1), (1, 0)] := by decide +kernel
theorem begun_nxt : nxt (clm (nat fun _ => 0) 1 1) 0 1 = some 1 := by decide +kernel
theorem begun_chk {c : Int} (h : GChk 1 1 1 (fun _ => 0) c) : c = 0 := by
  refine GChk.unique h (.inr ⟨1, 1, rfl, rfl, by decide, by decide, .inr ⟨rfl, .inr ⟨rfl, fun k hk => ?_⟩⟩⟩)
  exact ⟨Int.le_refl _, show (0 : Int) < ((pw 1 : Nat) : Int) by decide⟩
theorem begun_schk {c : Int} (h : SChk 1 1 1 1 (fun _ => 0) 0 c) : c = 0 := by
  refine SChk.unique h (.inr ⟨?_, 1, rfl, by decide, .inr ⟨rfl, Int.le_refl _, by decide⟩⟩)
  refine .inr ⟨1, 1, rfl, rfl, by decide, by decide, .inr ⟨rfl, .inr ⟨rfl, fun k hk => ?_⟩⟩⟩
  exact ⟨Int.le_refl _, show (0 : Int) < ((pw 1 : Nat) : Int) by decide⟩
theorem row_zero1 (w : World) : Row (w.alloc (.cells #[.int .i64 0] 3)) (some ⟨w.heap.size, 0, none⟩) 1 (fun _ => 0) := fun k hk => by
  obtain rfl : k = 0 := by omega
  exact ⟨w.heap.size, 0, rfl, by simp⟩
theorem begun_pairs (w : World) : PSl (w.alloc (.cells #[.int .i64 0, .int .i64 1, .int .i64 1, .int .i64 0] 59)) (.slice (some ⟨w.heap.size, 0, none⟩) 2 2) [(0, 1), (1, 0)] := by
  refine ⟨_, 2, rfl, fun k hk => ⟨w.heap.size, 0, rfl, ?_⟩⟩
  have hk2 : k < 2 := hk
  rcases k with _ | _ | k
  · simp [pairAt]
  · simp [pairAt]
  · omega

set_option maxHeartbeats 1000000 in
theorem conceptBegun_any (w : World) : Calls Tryz.prog 6 #[] w fun e w' => e = .returned (.bool true) ∧ Below w.heap.size w w' := by
  obtain ⟨w0, HW0⟩ : ∃ w0, Hid (w0 = w.alloc (.cells #[.int .i64 0] 3)) := ⟨_, rfl⟩
  have HB0 : Hid (Below w.heap.size w w0) := by rw [Hid, HW0.out]; exact (Below.refl _ _).alloc (Nat.le_refl _) _
  have HR0 : Hid (Row w0 (some ⟨w.heap.size, 0, none⟩) 1 (fun _ => 0)) := by rw [Hid, HW0.out]; exact row_zero1 w
  go_enter Tryz.func6, Tryz.ntmps6
  go_wp2_with fail
  rw [← HW0.out]
  refine (concepts_any 1 1 (some ⟨w.heap.size, 0, none⟩) 1 1 (fun _ => 0) w0 (by unfold maxLen; omega) HR0.out).mono ?_
  rintro e w1 ⟨h, hb1⟩
  have HB1 : Hid (Below w.heap.size w w1) := Below.then HB0.out hb1
  clear hb1 HW0 HB0 HR0
  obtain ⟨pa, pc, HE1, HP1⟩ : ∃ pa pc, Hid (e = .returned (.tuple #[.slice pa 2 pc, .int .i64 0])) ∧ Hid (PSl w1 (.slice pa 2 pc) [(0, 1), (1, 0)]) := by
    rcases h with ⟨c, h0, hc, _⟩ | ⟨r, v, _, _, hr, _, _, _, rfl, hv⟩
    · exact absurd (begun_chk hc) h0
    obtain rfl : r = 1 := by omega
    rw [begun_cons] at hv
    obtain ⟨pa, pc, rfl, hpr⟩ := hv
    exact ⟨pa, pc, rfl, pa, pc, rfl, hpr⟩
  obtain rfl := HE1.out
  clear h HE1
  obtain ⟨w2, HW2⟩ : ∃ w2, Hid (w2 = w1.alloc (.cells #[.int .i64 0] 3)) := ⟨_, rfl⟩
  have HB2 : Hid (Below w1.heap.size w1 w2) := by rw [Hid, HW2.out]; exact (Below.refl _ _).alloc (Nat.le_refl _) _
  have HR2 : Hid (Row w2 (some ⟨w1.heap.size, 0, none⟩) 1 (fun _ => 0)) := by rw [Hid, HW2.out]; exact row_zero1 w1
  go_wp2_with fail
  rw [← HW2.out]
  refine (next_any 1 1 (some ⟨w1.heap.size, 0, none⟩) 1 1 (fun _ => 0) 0 w2 (by unfold maxLen; omega) HR2.out).mono ?_
  rintro e w3 ⟨h, hb3⟩
  have HB3 : Hid (Below w.heap.size w w3) := Below.then (Below.then HB1.out HB2.out) hb3
  have HP3 : Hid (PSl w3 (.slice pa 2 pc) [(0, 1), (1, 0)]) := (HP1.out.below HB2.out).below hb3
  clear hb3 HW2 HB2 HR2 HP1 HB1
  have HN : Hid (e = .returned (.tuple #[.int .i64 1, .int .i64 0])) := by
    rcases h with ⟨c, h0, hc, _⟩ | ⟨r, s, _, hr, _, _, _, hs, _, _, ⟨hn, _⟩ | ⟨x, hx, he⟩⟩
    · exact absurd (begun_schk hc) h0
    · obtain rfl : r = 1 := by omega
      obtain rfl : s = 0 := by omega
      rw [begun_nxt] at hn; cases hn
    · obtain rfl : r = 1 := by omega
      obtain rfl : s = 0 := by omega
      rw [begun_nxt] at hx; cases hx; exact he
  obtain rfl := HN.out
  clear h HN
  obtain ⟨w4, HW4⟩ : ∃ w4, Hid (w4 = w3.alloc (.cells #[.int .i64 0, .int .i64 1, .int .i64 1, .int .i64 0] 59)) := ⟨_, rfl⟩
  have HB4 : Hid (Below w3.heap.size w3 w4) := by rw [Hid, HW4.out]; exact (Below.refl _ _).alloc (Nat.le_refl _) _
  have HQ4 : Hid (PSl w4 (.slice (some ⟨w3.heap.size, 0, none⟩) 2 2) [(0, 1), (1, 0)]) := by rw [Hid, HW4.out]; exact begun_pairs w3
  go_wp2_with fail
  rw [← HW4.out]
  refine (samePairs_any _ _ [(0, 1), (1, 0)] w4 (by decide) (HP3.out.below HB4.out) HQ4.out).mono ?_
  rintro e w5 ⟨rfl, hb5⟩
  have HB5 : Hid (Below w.heap.size w w5) := Below.then (Below.then HB3.out HB4.out) hb5
  clear hb5 HW4 HB4 HQ4 HP3 HB3
  go_wp2_with fail
  go_ret
  exact ⟨rfl, HB5.out⟩

end Go.Proofs.YthhnngmfbbljaaaGreat
namespace Go.Proofs.YthhnngmfbbljaaaGreat
set_option maxRecDepth 100000
open Go.RowKit

/-- The first of an element's class. -/
theorem first_one {c : Nat → Nat} {a b : Nat} (ha : frst c a = true) (hb : frst c b = true) (e : c a = c b) : a = b := by
  rcases Nat.lt_trichotomy a b with h | h | h
  · exact absurd e (frst_iff.1 hb a h)
  · exact h
  · exact absurd e.symm (frst_iff.1 ha b h)
set_option maxHeartbeats 1000000 in
theorem index_any (q : Nat) (a : Option Addr) (cap : Nat) (c : Nat → Nat) (x : Nat) (w : World) (h40 : q ≤ 40) (hx : x < q) (hr : Row w a q (fun k => (c k : Nat))) :
    Calls Tryz.prog 86 #[.slice a q cap, .int .i64 (c x : Nat)] w fun e w' => (∃ f : Nat, e = .returned (.int .i64 (f : Nat)) ∧ f ≤ x ∧ c f = c x ∧ frst c f = true) ∧ w = w' := by
  have HR : Hid (Row w a q (fun k => (c k : Nat))) := hr
  clear hr
  obtain ⟨v, HV⟩ : ∃ v, Hid (v = c x) := ⟨_, rfl⟩
  rw [← HV.out]
  go_enter Tryz.func86, Tryz.ntmps86
  go_wp2_with fail
  go_loopw [8] (fun i wx => ∃ k : Nat, k ≤ x ∧ i = .int .i64 k ∧ wx = w ∧ Hid (∀ j, j < k → c j ≠ v)) (fun i _ => q - (intOf i).toNat)
  case atStart => exact ⟨0, Nat.zero_le _, rfl, rfl, upto_zero⟩
  case round =>
    obtain ⟨k, hk, rfl, rfl, HN⟩ := hrel
    obtain ⟨b, off, rfl, hcc⟩ := HR.out.at (show k < q by omega)
    have ck := hcc k (by omega)
    have hlk : (k : Int) < (q : Int) := by omega
    clear hcc
    by_cases e : c k = v
    · have he : (((v : Nat) : Int) == ((c k : Nat) : Int)) = true := by rw [e]; simp
      have HF : Hid (frst c k = true) := frst_iff.2 (fun j hj h => HN.out j hj (h.trans e))
      have HE : Hid (c k = v) := e
      clear e
      go_wp2_with fail
      go_ret
      exact ⟨⟨k, rfl, hk, HE.out, HF.out⟩, rfl⟩
    · have he : (((v : Nat) : Int) == ((c k : Nat) : Int)) = false := by simp; omega
      have HN2 : Hid (∀ j, j < k + 1 → c j ≠ v) := upto_succ HN.out e
      have hkx : k < x := by
        rcases Nat.lt_or_eq_of_le hk with h | h
        · exact h
        · subst h; exact absurd HV.out.symm e
      clear e
      generalize c k = C at *
      go_wp2_with fail
      go_roundw
      case rel => exact ⟨k + 1, by omega, by go_num, by first | rfl | trivial, HN2⟩
      case measure => simp [intOf]; omega
end Go.Proofs.YthhnngmfbbljaaaGreat
namespace Go.Proofs.YthhnngmfbbljaaaGreat
open Go.RowKit

/-- Pairs that may be written. -/
def POwn (w : World) (b n : Nat) (F G : Nat → Nat) : Prop := ∀ k, k < n → (w.cell? ⟨b, k * 2, none⟩ = some (.int .i64 (F k : Nat)) ∧ w.cell? ⟨b, k * 2 + 1, none⟩ = some (.int .i64 (G k : Nat))) ∧ w.frozen? ⟨b, k * 2, none⟩ = false ∧ w.frozen? ⟨b, k * 2 + 1, none⟩ = false
theorem POwn.set {w : World} {b n : Nat} {F G : Nat → Nat} (h : POwn w b n F G) (u x y : Nat) (hu : u < n) : POwn ((w.setCell ⟨b, u * 2, none⟩ (.int .i64 (x : Nat))).setCell ⟨b, u * 2 + 1, none⟩ (.int .i64 (y : Nat))) b n (upd F u x) (upd G u y) := fun k hk => by
  obtain ⟨⟨h1, h2⟩, h3, h4⟩ := h k hk
  obtain ⟨⟨g1, g2⟩, _, _⟩ := h u hu
  have ne : ∀ {i j : Nat}, i ≠ j → (⟨b, i, none⟩ : Addr) ≠ ⟨b, j, none⟩ := fun hij e => by injection e with _ e2; exact hij e2
  refine ⟨⟨?_, ?_⟩, by rw [World.frozen?_setCell, World.frozen?_setCell]; exact h3, by rw [World.frozen?_setCell, World.frozen?_setCell]; exact h4⟩
  · by_cases e : k = u
    · subst e
      rw [upd_same, World.cell?_setCell_other _ _ _ _ (ne (by omega))]
      exact World.cell?_setCell_same _ _ _ g1
    · rw [upd_other _ _ _ _ e, World.cell?_setCell_other _ _ _ _ (ne (by omega)), World.cell?_setCell_other _ _ _ _ (ne (by omega))]
      exact h1
  · by_cases e : k = u
    · subst e
      rw [upd_same]
      exact World.cell?_setCell_same _ _ _ (show _ = some (.int .i64 (G k : Nat)) from by rw [World.cell?_setCell_other _ _ _ _ (ne (by omega))]; exact g2)
    · rw [upd_other _ _ _ _ e, World.cell?_setCell_other _ _ _ _ (ne (by omega)), World.cell?_setCell_other _ _ _ _ (ne (by omega))]
      exact h2
theorem zero_at (n j : Nat) (h : j < n) : (madeCells (Value.agg #[.int .i64 0, .int .i64 0]).cells n).toList[j]? = some (.int .i64 0) := by
  have e : (Value.agg #[.int .i64 0, .int .i64 0]).cells = #[Value.int .i64 0, .int .i64 0] := rfl
  rw [e]
  unfold madeCells
  rcases Nat.mod_two_eq_zero_or_one j with hj | hj <;> simp [h, hj]
theorem pown_made {w : World} {base b m : Nat} (h : w.ownsRow base 94 2 (.slice (some ⟨b, 0, none⟩) m m) m (madeCells (Value.agg #[.int .i64 0, .int .i64 0]).cells (m * 2)).toList) : POwn w b m (fun _ => 0) (fun _ => 0) := fun k hk =>
  ⟨⟨by rw [h.cellAt (k * 2) (by omega), zero_at _ _ (by omega)]; rfl, by rw [h.cellAt (k * 2 + 1) (by omega), zero_at _ _ (by omega)]; rfl⟩, h.frozenAt _, h.frozenAt _⟩
theorem POwn.congr {w : World} {b n : Nat} {F G F' G' : Nat → Nat} (h : POwn w b n F G) (e : ∀ k, k < n → F k = F' k ∧ G k = G' k) : POwn w b n F' G' := fun k hk => by
  obtain ⟨e1, e2⟩ := e k hk
  rw [← e1, ← e2]
  exact h k hk
theorem POwn.far {w w' : World} {b n : Nat} {F G : Nat → Nat} (h : POwn w b n F G) (e : w = w') : POwn w' b n F G := e ▸ h
/-- The first of an element's class. -/
def fstC (c : Nat → Nat) (x : Nat) : Nat := ((List.range (x + 1)).find? fun i => c i == c x).getD 0
theorem fstC_is {c : Nat → Nat} {x f : Nat} (hf : f ≤ x) (e : c f = c x) (hfr : frst c f = true) : fstC c x = f := by
  unfold fstC
  have : (List.range (x + 1)).find? (fun i => c i == c x) = some f := by
    rw [List.find?_range_eq_some]
    refine ⟨by simpa using e, by simp; omega, fun j hj => ?_⟩
    have := frst_iff.1 hfr j hj
    rw [e] at this
    simpa using this
  rw [this]; rfl
def pofTo (c : Nat → Nat) (k x : Nat) : Nat := if x < k then fstC c x else 0
def idTo (k x : Nat) : Nat := if x < k then x else 0
theorem pofTo_succ (c : Nat → Nat) (k : Nat) : pofTo c (k + 1) = upd (pofTo c k) k (fstC c k) := by
  funext x
  by_cases e : x = k
  · subst e; rw [upd_same]; unfold pofTo; rw [if_pos (by omega)]
  · rw [upd_other _ _ _ _ e]
    unfold pofTo
    by_cases l : x < k
    · rw [if_pos (by omega), if_pos l]
    · rw [if_neg (by omega), if_neg l]
theorem idTo_succ (k : Nat) : idTo (k + 1) = upd (idTo k) k k := by
  funext x
  by_cases e : x = k
  · subst e; rw [upd_same]; unfold idTo; rw [if_pos (by omega)]
  · rw [upd_other _ _ _ _ e]
    unfold idTo
    by_cases l : x < k
    · rw [if_pos (by omega), if_pos l]
    · rw [if_neg (by omega), if_neg l]

set_option maxRecDepth 100000 in
set_option maxHeartbeats 2000000 in
theorem pairsOf_any (q : Nat) (a : Option Addr) (cap : Nat) (c : Nat → Nat) (w : World) (h40 : q ≤ 40) (hr : Row w a q (fun k => (c k : Nat))) :
    Calls Tryz.prog 62 #[.slice a q cap] w fun e w' => (∃ B, e = .returned (.slice (some ⟨B, 0, none⟩) q q) ∧ POwn w' B q (fstC c) (fun x => x) ∧ w.heap.size ≤ B) ∧ Below w.heap.size w w' := by
  obtain ⟨i0, hi, hz0, hz1, hz2⟩ := info_parts Tryz.infoRU
  have HR : Hid (∀ wx, Below w.heap.size w wx → Row wx a q (fun k => (c k : Nat))) := fun wx h => hr.below h
  clear hr
  go_enter Tryz.func62, Tryz.ntmps62
  go_wp2_with (at_make; refine wpList_make_full _ rfl _ _ 92 rfl w.heap.size 94 i0 (.agg #[.int .i64 0, .int .i64 0]) 2 Tryz.underlying92 hi hz0 hz1 .i64 .i64 _ _ q rfl rfl rfl rfl (by rw [hz2]; omega) (by unfold maxLen; omega) (Nat.le_refl _) ?_; intro w1 hown1 hgrow1)
  have HO1 : Hid (POwn w1 w.heap.size q (pofTo c 0) (idTo 0)) := (pown_made hown1).congr (fun k _ => by simp [pofTo, idTo])
  have HB1 : Hid (Below w.heap.size w w1) := (Below.refl _ _).grown hgrow1 (Nat.le_refl _) (by simp)
  clear hown1 hgrow1 hi hz0 hz1 hz2
  go_loopw [11] (fun i wx => ∃ k : Nat, k ≤ q ∧ i = .int .i64 k ∧ Hid (POwn wx w.heap.size q (pofTo c k) (idTo k)) ∧ Hid (Below w.heap.size w wx)) (fun i _ => q - (intOf i).toNat)
  case atStart => exact ⟨0, Nat.zero_le _, rfl, HO1.out, HB1.out⟩
  case round =>
    obtain ⟨k, hk, rfl, HO, HB⟩ := hrel
    clear HO1 HB1
    by_cases hlt : k < q
    · have HI := (show Hid _ from index_any q a cap c k wr h40 hlt (HR.out _ HB.out))
      obtain ⟨b, off, rfl, hcc⟩ := (HR.out _ HB.out).at hlt
      have ck := hcc k hlt
      have hlk : (k : Int) < (q : Int) := by omega
      obtain ⟨⟨p1, p2⟩, p3, p4⟩ := HO.out k hlt
      clear hcc
      go_wp2_with fail
      refine Calls.mono HI.out ?_
      rintro e w' ⟨⟨f, rfl, hf, ef, hfr⟩, rfl⟩
      have HF : Hid (fstC c k = f) := fstC_is hf ef hfr
      clear hf ef hfr HI
      go_wp2_with fail
      go_roundw
      case rel => exact ⟨k + 1, by omega, by go_num, by rw [pofTo_succ, idTo_succ, HF.out]; exact HO.out.set k f k hlt, (HB.out.setCell (p := ⟨w.heap.size, k * 2, none⟩) (Nat.le_refl _) _).setCell (p := ⟨w.heap.size, k * 2 + 1, none⟩) (Nat.le_refl _) _⟩
      case measure => simp [intOf]; omega
    · obtain rfl : k = q := by omega
      have HE : Hid (POwn wr w.heap.size k (fstC c) (fun x => x)) := HO.out.congr (fun x hx => by unfold pofTo idTo; rw [if_pos hx, if_pos hx]; exact ⟨rfl, rfl⟩)
      go_wp2_with fail
      go_ret
      exact ⟨⟨_, rfl, HE.out, Nat.le_refl _⟩, HB.out⟩
end Go.Proofs.YthhnngmfbbljaaaGreat
