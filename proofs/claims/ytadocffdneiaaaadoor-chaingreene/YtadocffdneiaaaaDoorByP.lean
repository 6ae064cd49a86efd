/-
  What chain.ByChains and chain.ByAntichains answer. Conditions: a slice reads as a slice of numbers; the library's table lies in its variable.
-/
import Derived.Test.YtadocffdneiaaaaDoorGainP
namespace Go.Proofs.YtadocffdneiaaaaDoor
open Go.RowKit

/-- The shape of an order by its foes. -/
def shape (F : Nat → Nat) (n : Nat) : List Nat := shp (Msh F n) (frs F n (pw n - 1))
theorem shape_len (F : Nat → Nat) {n : Nat} (hn : n ≤ 10) : (shape F n).length ≤ 10 := by
  unfold shape; rw [shp_len]; exact Nat.le_trans (fr_top hn) hn
def ByPost (n : Int) (len : Nat) (f : Nat → Int) (F : Nat → Nat) (e : Ending) (w' : World) : Prop :=
  ∃ (c : Int) (v : Value), Chk n len f c ∧ e = .returned (.tuple #[v, .int .i64 c]) ∧ ((c ≠ 0 ∧ v = .slice none 0 0) ∨ (c = 0 ∧ NSl w' v (shape F len)))

set_option maxHeartbeats 1000000 in
theorem byChains_any (n : Int) (a : Option Addr) (len cap : Nat) (f : Nat → Int) (w : World) (hl : len ≤ maxLen) (hr : Row w a len f) (hT : Tab w) :
    Calls Tryd.prog 5 #[.agg #[.int .i64 n, .slice a len cap]] w fun e w' => ByPost n len f (kin (nat f) len) e w' ∧ Below w.heap.size w w' := by
  have K0 : Held (w.alloc (.cells #[.int .i64 n, .slice a len cap] 24)) w.heap.size n a len cap f := Held.box hr
  have HB0 : Hid (Below w.heap.size w (w.alloc (.cells #[.int .i64 n, .slice a len cap] 24))) := (Below.refl _ _).alloc (Nat.le_refl _) _
  have HT : Hid (Tab w) := hT
  clear hr hT
  go_enter Tryd.func5, Tryd.ntmps5
  go_wp2_with fail
  refine (relatives_any n a len cap f _ hl K0.row).mono ?_
  rintro e w1 ⟨⟨c, hc, hx⟩, hb1⟩
  have HB1 : Hid (Below w.heap.size w w1) := Below.then HB0.out hb1
  have HC : Hid (Chk n len f c) := hc
  clear hb1 K0 HB0
  rcases hx with ⟨h0, rfl⟩ | ⟨rfl, b, rfl, hown, _⟩
  · have hne : (c != 0) = true := by simpa using h0
    clear hc
    go_wp2_with fail
    exact bodyPost_ret (v := .tuple #[.slice none 0 0, .int .i64 c]) (by simp [results, Tryd.results5, go_sem]) rfl ⟨⟨c, _, HC.out, rfl, .inl ⟨h0, rfl⟩⟩, HB1.out⟩
  · obtain ⟨rfl, h10, hrng, hord⟩ := hc.good
    have HF : Hid (Foe (kin (nat f) len) len) := kin_foe h10 hrng.small hord
    have HO : Hid (Row w1 (some ⟨b, 0, none⟩) len (fun k => (kin (nat f) len k : Nat))) := hown.row
    have HTW : Hid (Tab w1) := HT.out.step HB1.out
    clear hc hrng hord hown
    go_wp2_with fail
    refine (gains_any len (some ⟨b, 0, none⟩) len _ _ HF.out HO.out HTW.out).mono ?_
    rintro e w2 ⟨⟨v, rfl, hv⟩, hb2⟩
    have HV : Hid (NSl w2 v (shape (kin (nat f) len) len)) := hv
    have HB2 : Hid (Below w.heap.size w w2) := Below.then HB1.out hb2
    clear hv hb2
    go_wp2_with fail
    exact bodyPost_ret (v := .tuple #[v, .int .i64 0]) (by simp [results, Tryd.results5, go_sem]) rfl ⟨⟨0, _, HC.out, rfl, .inr ⟨rfl, HV.out⟩⟩, HB2.out⟩

set_option maxHeartbeats 1000000 in
theorem byAnti_any (n : Int) (a : Option Addr) (len cap : Nat) (f : Nat → Int) (w : World) (hl : len ≤ maxLen) (hr : Row w a len f) (hT : Tab w) :
    Calls Tryd.prog 6 #[.agg #[.int .i64 n, .slice a len cap]] w fun e w' => ByPost n len f (strg (nat f) len) e w' ∧ Below w.heap.size w w' := by
  have K0 : Held (w.alloc (.cells #[.int .i64 n, .slice a len cap] 24)) w.heap.size n a len cap f := Held.box hr
  have HB0 : Hid (Below w.heap.size w (w.alloc (.cells #[.int .i64 n, .slice a len cap] 24))) := (Below.refl _ _).alloc (Nat.le_refl _) _
  have HT : Hid (Tab w) := hT
  clear hr hT
  go_enter Tryd.func6, Tryd.ntmps6
  go_wp2_with fail
  refine (relatives_any n a len cap f _ hl K0.row).mono ?_
  rintro e w1 ⟨⟨c, hc, hx⟩, hb1⟩
  have HB1 : Hid (Below w.heap.size w w1) := Below.then HB0.out hb1
  have HC : Hid (Chk n len f c) := hc
  clear hb1 K0 HB0
  rcases hx with ⟨h0, rfl⟩ | ⟨rfl, b, rfl, hown, _⟩
  · have hne : (c != 0) = true := by simpa using h0
    clear hc
    go_wp2_with fail
    exact bodyPost_ret (v := .tuple #[.slice none 0 0, .int .i64 c]) (by simp [results, Tryd.results6, go_sem]) rfl ⟨⟨c, _, HC.out, rfl, .inl ⟨h0, rfl⟩⟩, HB1.out⟩
  · obtain ⟨rfl, h10, hrng, hord⟩ := hc.good
    have HF : Hid (Foe (strg (nat f) len) len) := strg_foe h10 hrng.small
    have HKS : Hid (∀ k, k < len → kin (nat f) len k < 1024) := fun k hk => set_small (kin_lt hrng.small k hk) h10
    have HO : Hid (Row w1 (some ⟨b, 0, none⟩) len (fun k => (kin (nat f) len k : Nat))) := hown.row
    clear hc hrng hord hown
    go_wp2_with fail
    refine (strangers_any len (some ⟨b, 0, none⟩) len _ _ h10 HKS.out HO.out).mono ?_
    rintro e w2 ⟨⟨rfl, hown2⟩, hb2⟩
    have HO2 : Hid (Row w2 (some ⟨w1.heap.size, 0, none⟩) len (fun k => (strg (nat f) len k : Nat))) := Own.row (g := strg (nat f) len) hown2
    have HB2 : Hid (Below w.heap.size w w2) := Below.then HB1.out hb2
    have HTW : Hid (Tab w2) := HT.out.step HB2.out
    clear hown2 hb2 HO
    go_wp2_with fail
    refine (gains_any len (some ⟨w1.heap.size, 0, none⟩) len _ _ HF.out HO2.out HTW.out).mono ?_
    rintro e w3 ⟨⟨v, rfl, hv⟩, hb3⟩
    have HV : Hid (NSl w3 v (shape (strg (nat f) len) len)) := hv
    have HB3 : Hid (Below w.heap.size w w3) := Below.then HB2.out hb3
    clear hv hb3
    go_wp2_with fail
    exact bodyPost_ret (v := .tuple #[v, .int .i64 0]) (by simp [results, Tryd.results6, go_sem]) rfl ⟨⟨0, _, HC.out, rfl, .inr ⟨rfl, HV.out⟩⟩, HB3.out⟩
end Go.Proofs.YtadocffdneiaaaaDoor
