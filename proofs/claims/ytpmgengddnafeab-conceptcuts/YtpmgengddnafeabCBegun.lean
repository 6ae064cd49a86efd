/-
  What complete.Cuts answers; hasselaw.completeBegun answers true. Condition of Cuts: a slice reads as a slice of numbers.
-/
import Derived.Test.YtpmgengddnafeabCutsP
namespace Go.Proofs.Ytpmgengddnafeab
open Go.RowKit

/-- What a call answers that hands back a list and an errno. -/
def ListPost (c : Int) (l : List Nat) (v : Value) (w : World) : Prop := (c ≠ 0 ∧ v = .slice none 0 0) ∨ (c = 0 ∧ NSl w v l)
set_option maxHeartbeats 1000000 in
theorem cutsX_any (n : Int) (a : Option Addr) (len cap : Nat) (f : Nat → Int) (w : World) (hl : len ≤ maxLen) (hr : Row w a len f) :
    Calls Try.prog 18 #[.agg #[.int .i64 n, .slice a len cap]] w fun e w' => (∃ c v, Chk n len f c ∧ e = .returned (.tuple #[v, .int .i64 c]) ∧ ListPost c (cuts (nat f) len) v w') ∧ Below w.heap.size w w' := by
  have K0 : Held (w.alloc (.cells #[.int .i64 n, .slice a len cap] 44)) w.heap.size n a len cap f := Held.box hr
  have HB0 : Hid (Below w.heap.size w (w.alloc (.cells #[.int .i64 n, .slice a len cap] 44))) := (Below.refl _ _).alloc (Nat.le_refl _) _
  clear hr
  go_enter Try.func18, Try.ntmps18
  go_wp2_with fail
  refine (dual_any n a len cap f _ hl K0.row).mono ?_
  rintro e w1 ⟨⟨c, x, hc, rfl, hx⟩, hb⟩
  have K1 := K0.step hb
  have HB1 : Hid (Below w.heap.size w w1) := Below.then HB0.out hb
  clear hb K0 HB0
  rcases hx with ⟨h0, rfl⟩ | ⟨rfl, a', cap', rfl, hr'⟩
  · have hne : (c != 0) = true := by simpa using h0
    have HC : Hid (Chk n len f c) := hc
    clear hc K1
    unfold noOrder
    go_wp2_with fail
    go_ret2
    exact ⟨⟨c, _, HC.out, rfl, .inl ⟨h0, rfl⟩⟩, HB1.out.alloc HB1.out.size _⟩
  · obtain ⟨rfl, h10, hrng, ho⟩ := hc.good
    have HC : Hid (Chk (len : Int) len f 0) := hc
    have K2 := K1.step ((Below.refl w1.heap.size w1).alloc (Nat.le_refl _) (.cells #[.int .i64 (len : Int), .slice a' len cap'] 44))
    have HR : Hid (Row (w1.alloc (.cells #[.int .i64 (len : Int), .slice a' len cap'] 44)) a' len (fun k => ((trn (nat f) len k : Nat) : Int))) := hr'.below ((Below.refl w1.heap.size w1).alloc (Nat.le_refl _) _)
    have HRA : Hid (Row (w1.alloc (.cells #[.int .i64 (len : Int), .slice a' len cap'] 44)) a len (fun k => ((nat f k : Nat) : Int))) := hrng.row K2.row
    have HG : Hid (∀ k, k < len → nat f k < 1024) := hrng.small2 h10
    have k0 := K2.c0
    have k1 := K2.c1
    have k0' := K1.c0
    have k1' := K1.c1
    clear hc hr' ho hrng K1 K2
    go_wp2_with fail
    refine (allCuts_any a a' len cap cap' (nat f) _ h10 HG.out HRA.out HR.out).mono ?_
    rintro e w2 ⟨⟨v, rfl, hv⟩, hb2⟩
    have HV : Hid (NSl w2 v (cuts (nat f) len)) := hv
    have HB2 : Hid (Below w.heap.size w w2) := Below.then (HB1.out.alloc HB1.out.size _) hb2
    clear hv hb2 HB1 k0 k1 k0' k1' HR HRA
    go_wp2_with fail
    go_ret2
    exact ⟨⟨0, v, HC.out, rfl, .inr ⟨rfl, HV.out⟩⟩, HB2.out⟩

theorem NSl.below {w w' : World} {v : Value} {l : List Nat} (h : NSl w v l) (hb : Below w.heap.size w w') : NSl w' v l := by
  obtain ⟨a, cap, rfl, hr⟩ := h
  exact ⟨a, cap, rfl, hr.below hb⟩
def z2 (_ : Nat) : Int := 0
def l3 : Nat → Int
  | 0 => 0
  | 1 => 1
  | _ => 3
theorem z2_chk : Chk 2 2 z2 0 := .inr ⟨2, rfl, by omega, .inr ⟨rfl, .inr ⟨fun k _ => ⟨Int.le_refl 0, show (0 : Int) < _ by decide⟩, .inr ⟨rfl, by unfold Ord OrdAt; decide⟩⟩⟩⟩
theorem l3_chk : Chk 3 3 l3 0 := .inr ⟨3, rfl, by omega, .inr ⟨rfl, .inr ⟨fun k hk => by
  rcases (by omega : k = 0 ∨ k = 1 ∨ k = 2) with rfl | rfl | rfl <;> decide, .inr ⟨rfl, by unfold Ord OrdAt; decide⟩⟩⟩⟩
theorem z2_cuts : cuts (nat z2) 2 = [0, 1, 2, 3] := by decide
theorem l3_up : low (trn (nat l3) 3) 3 2 = 6 := by decide
theorem l3_low : low (nat l3) 3 2 = 3 := by decide
theorem l3_sts : sts 2 3 = true := by decide
theorem l3_sck {c : Int} (h : SCk 3 3 l3 2 c) : c = 0 := h.unique (.inr ⟨l3_chk, .inr ⟨rfl, l3_sts⟩⟩)

end Go.Proofs.Ytpmgengddnafeab
