/-
  What complete.Cuts answers; hasselaw.completeBegun answers true. Condition of Cuts: a slice reads as a slice of numbers.
-/
import Derived.Test.YtpdhfibollealaaDoorCutsP
import Derived.Test.YtpdhfibollealaaDoorRefCheck
namespace Go.Proofs.YtpdhfibollealaaDoor
open Go.RowKit

/-- What a call answers that hands back a list and an errno. -/
def ListPost (c : Int) (l : List Nat) (v : Value) (w : World) : Prop := (c ≠ 0 ∧ v = .slice none 0 0) ∨ (c = 0 ∧ NSl w v l)
set_option maxHeartbeats 1000000 in
theorem cutsX_any (n : Int) (a : Option Addr) (len cap : Nat) (f : Nat → Int) (w : World) (hl : len ≤ maxLen) (hr : Row w a len f) :
    Calls Tryd.prog 8 #[.agg #[.int .i64 n, .slice a len cap]] w fun e w' => (∃ c v, Chk n len f c ∧ e = .returned (.tuple #[v, .int .i64 c]) ∧ ListPost c (cuts (nat f) len) v w') ∧ Below w.heap.size w w' := by
  have K0 : Held (w.alloc (.cells #[.int .i64 n, .slice a len cap] 24)) w.heap.size n a len cap f := Held.box hr
  have HB0 : Hid (Below w.heap.size w (w.alloc (.cells #[.int .i64 n, .slice a len cap] 24))) := (Below.refl _ _).alloc (Nat.le_refl _) _
  clear hr
  go_enter Tryd.func8, Tryd.ntmps8
  go_wp2_with fail
  refine (dual_any n a len cap f _ hl K0.row).mono ?_
  rintro e w1 ⟨⟨c, x, hc, rfl, hx⟩, hb⟩
  have K1 := K0.step hb
  have HB1 : Hid (Below w.heap.size w w1) := Below.then HB0.out hb
  clear hb K0 HB0
  rcases hx with ⟨h0, rfl⟩ | ⟨rfl, a', cap', rfl, hr'⟩
  · have hne : (c != 0) = true := by simpa using h0
    have HC : Hid (Chk n len f c) := hc
    clear hc K1
    unfold noOrder
    go_wp2_with fail
    go_ret2
    exact ⟨⟨c, _, HC.out, rfl, .inl ⟨h0, rfl⟩⟩, HB1.out.alloc HB1.out.size _⟩
  · obtain ⟨rfl, h10, hrng, ho⟩ := hc.good
    have HC : Hid (Chk (len : Int) len f 0) := hc
    have K2 := K1.step ((Below.refl w1.heap.size w1).alloc (Nat.le_refl _) (.cells #[.int .i64 (len : Int), .slice a' len cap'] 24))
    have HR : Hid (Row (w1.alloc (.cells #[.int .i64 (len : Int), .slice a' len cap'] 24)) a' len (fun k => ((trn (nat f) len k : Nat) : Int))) := hr'.below ((Below.refl w1.heap.size w1).alloc (Nat.le_refl _) _)
    have HRA : Hid (Row (w1.alloc (.cells #[.int .i64 (len : Int), .slice a' len cap'] 24)) a len (fun k => ((nat f k : Nat) : Int))) := hrng.row K2.row
    have HG : Hid (∀ k, k < len → nat f k < 1024) := hrng.small2 h10
    have k0 := K2.c0
    have k1 := K2.c1
    have k0' := K1.c0
    have k1' := K1.c1
    clear hc hr' ho hrng K1 K2
    go_wp2_with fail
    refine (allCuts_any a a' len cap cap' (nat f) _ h10 HG.out HRA.out HR.out).mono ?_
    rintro e w2 ⟨⟨v, rfl, hv⟩, hb2⟩
    have HV : Hid (NSl w2 v (cuts (nat f) len)) := hv
    have HB2 : Hid (Below w.heap.size w w2) := Below.then (HB1.out.alloc HB1.out.size _) hb2
    clear hv hb2 HB1 k0 k1 k0' k1' HR HRA
    go_wp2_with fail
    go_ret2
    exact ⟨⟨0, v, HC.out, rfl, .inr ⟨rfl, HV.out⟩⟩, HB2.out⟩

theorem NSl.below {w w' : World} {v : Value} {l : List Nat} (h : NSl w v l) (hb : Below w.heap.size w w') : NSl w' v l := by
  obtain ⟨a, cap, rfl, hr⟩ := h
  exact ⟨a, cap, rfl, hr.below hb⟩
def z2 (_ : Nat) : Int := 0
def l3 : Nat → Int
  | 0 => 0
  | 1 => 1
  | _ => 3
theorem z2_chk : Chk 2 2 z2 0 := .inr ⟨2, rfl, by omega, .inr ⟨rfl, .inr ⟨fun k _ => ⟨Int.le_refl 0, show (0 : Int) < _ by decide⟩, .inr ⟨rfl, by unfold Ord OrdAt; decide⟩⟩⟩⟩
theorem l3_chk : Chk 3 3 l3 0 := .inr ⟨3, rfl, by omega, .inr ⟨rfl, .inr ⟨fun k hk => by
  rcases (by omega : k = 0 ∨ k = 1 ∨ k = 2) with rfl | rfl | rfl <;> decide, .inr ⟨rfl, by unfold Ord OrdAt; decide⟩⟩⟩⟩
theorem z2_cuts : cuts (nat z2) 2 = [0, 1, 2, 3] := by decide
theorem l3_up : low (trn (nat l3) 3) 3 2 = 6 := by decide
theorem l3_low : low (nat l3) 3 2 = 3 := by decide
theorem l3_sts : sts 2 3 = true := by decide
theorem l3_sck {c : Int} (h : SCk 3 3 l3 2 c) : c = 0 := h.unique (.inr ⟨l3_chk, .inr ⟨rfl, l3_sts⟩⟩)

theorem ladder_any (w : World) : Calls Tryd.prog 10 #[] w fun e w' => (∃ a cap, e = .returned (.agg #[.int .i64 3, .slice a 3 cap]) ∧ Row w' a 3 l3) ∧ Below w.heap.size w w' := by
  go_enter Tryd.func10, Tryd.ntmps10
  go_wp2_with fail
  refine bodyPost_ret (v := .agg #[.int .i64 3, .slice (some ⟨w.heap.size + 1, 0, none⟩) 3 3]) (by simp [results, Tryd.results10, go_sem]) rfl ⟨⟨_, _, rfl, ?_⟩, ?_⟩
  · intro k hk
    refine ⟨w.heap.size + 1, 0, rfl, ?_⟩
    match k, hk with
    | 0, _ => simp [l3]
    | 1, _ => simp [l3]
    | 2, _ => simp [l3]
  · exact ((Below.refl _ _).alloc (Nat.le_refl _) _).alloc (by simp) _

set_option maxHeartbeats 2000000 in
theorem completeBegun_any (w : World) : Calls Tryd.prog 4 #[] w fun e w' => e = .returned (.bool true) ∧ Below w.heap.size w w' := by
  go_enter Tryd.func4, Tryd.ntmps4
  go_wp2_with fail
  refine (cutsX_any 2 _ 2 2 z2 _ (by unfold maxLen; omega) ?_).mono ?_
  · intro k hk
    refine ⟨w.heap.size, 0, rfl, ?_⟩
    match k, hk with
    | 0, _ => simp [z2]
    | 1, _ => simp [z2]
  rintro e w1 ⟨⟨c, v, hc, rfl, hv⟩, hb⟩
  obtain rfl := hc.unique z2_chk
  have HB1 : Hid (Below w.heap.size w w1) := Below.then ((Below.refl _ _).alloc (Nat.le_refl _) _) hb
  have HV : Hid (NSl w1 v [0, 1, 2, 3]) := by
    rcases hv with ⟨h, _⟩ | ⟨_, h⟩
    · exact absurd rfl h
    · rw [z2_cuts] at h; exact h
  clear hc hv hb
  go_wp2_with fail
  refine (ladder_any _).mono ?_
  rintro e w2 ⟨⟨a, cap, rfl, hr⟩, hb2⟩
  have HB2 : Hid (Below w.heap.size w w2) := Below.then HB1.out hb2
  have HV2 : Hid (NSl w2 v [0, 1, 2, 3]) := HV.out.below hb2
  have HR : Hid (Row w2 a 3 l3) := hr
  clear hr hb2 HB1 HV
  go_wp2_with fail
  refine (upperX_any 3 a 3 cap l3 2 _ (by unfold maxLen; omega) HR.out).mono ?_
  rintro e w3 ⟨⟨c, hc, x, rfl, hx⟩, hb3⟩
  obtain rfl := l3_sck hc
  obtain rfl : x = 6 := by
    rcases hx with ⟨h, _⟩ | ⟨_, h⟩
    · exact absurd rfl h
    · rw [h]; exact congrArg (fun t : Nat => (t : Int)) l3_up
  have HB3 : Hid (Below w.heap.size w w3) := Below.then HB2.out hb3
  have HV3 : Hid (NSl w3 v [0, 1, 2, 3]) := HV2.out.below hb3
  clear hc hx hb3 HB2 HV2 HR
  go_wp2_with fail
  refine (ladder_any _).mono ?_
  rintro e w4 ⟨⟨a4, cap4, rfl, hr⟩, hb4⟩
  have HB4 : Hid (Below w.heap.size w w4) := Below.then HB3.out hb4
  have HV4 : Hid (NSl w4 v [0, 1, 2, 3]) := HV3.out.below hb4
  have HR : Hid (Row w4 a4 3 l3) := hr
  clear hr hb4 HB3 HV3
  go_wp2_with fail
  refine (lowerX_any 3 a4 3 cap4 l3 2 _ (by unfold maxLen; omega) HR.out).mono ?_
  rintro e w5 ⟨⟨c, hc, x, rfl, hx⟩, hb5⟩
  obtain rfl := l3_sck hc
  obtain rfl : x = 3 := by
    rcases hx with ⟨h, _⟩ | ⟨_, h⟩
    · exact absurd rfl h
    · rw [h]; exact congrArg (fun t : Nat => (t : Int)) l3_low
  have HB5 : Hid (Below w.heap.size w w5) := Below.then HB4.out hb5
  obtain ⟨va, vc, rfl, hvr⟩ := HV4.out.below hb5
  have HVR : Hid (Row w5 va 4 (fun k => ((nth [0, 1, 2, 3] k : Nat) : Int))) := hvr
  clear hc hx hb5 HB4 HV4 HR hvr
  go_wp2_with fail
  refine (same_any va _ 4 vc 4 4 (fun k => ((nth [0, 1, 2, 3] k : Nat) : Int)) (fun k => ((nth [0, 1, 2, 3] k : Nat) : Int)) _ (by unfold maxLen; omega) (by unfold maxLen; omega) (HVR.out.below ((Below.refl _ _).alloc (Nat.le_refl _) _)) ?_).mono ?_
  · intro k hk
    refine ⟨w5.heap.size, 0, rfl, ?_⟩
    match k, hk with
    | 0, _ => simp [nth]
    | 1, _ => simp [nth]
    | 2, _ => simp [nth]
    | 3, _ => simp [nth]
  rintro e w6 ⟨⟨q, rfl, hq⟩, hb6⟩
  obtain rfl : q = true := hq.2 ⟨rfl, fun _ _ => rfl⟩
  have HB6 : Hid (Below w.heap.size w w6) := Below.then (HB5.out.alloc HB5.out.size _) hb6
  clear hq hb6 HB5 HVR
  go_wp2_with fail
  go_ret
  exact ⟨rfl, HB6.out⟩
end Go.Proofs.YtpdhfibollealaaDoor
