/-
  What poly.Onto, poly.Value, poly.Strict and poly.Zeta answer. Conditions: a slice reads as a slice of numbers; for Strict the table of the least bits.
-/
import Derived.Test.YtncjlfhgenmheabDoorIdlM
namespace Go.Proofs.YtncjlfhgenmheabDoor
open Go.RowKit Go.Maps

/-- How many lists of ideals there are that go up k times, from that of no points to that of all. -/
def onF (g : Nat → Nat) (n k : Nat) : Int := atI (idls g n) (fun _ => true) k ((idls g n).length - 1)
/-- .. each time by points of which none is below another one. -/
def stF (g : Nat → Nat) (n k : Nat) : Int := atI (idls g n) (antB g n) k ((idls g n).length - 1)
def OnPost (n : Int) (len : Nat) (f : Nat → Int) (e : Ending) (w' : World) : Prop := ∃ (c : Int) (v : Value), Chk n len f c ∧ e = .returned (.tuple #[v, .int .i64 c]) ∧
  ((c ≠ 0 ∧ v = .slice none 0 0) ∨ (c = 0 ∧ ∃ b : Nat, v = .slice (some ⟨b, 0, none⟩) (len + 1 : Nat) (len + 1 : Nat) ∧ Row w' (some ⟨b, 0, none⟩) (len + 1) (fun k => wz (onF (nat f) len k))))
theorem ent_on : EntZ 19 := fun _ _ => rfl
theorem ent_st : EntZ 30 := fun _ _ => rfl
theorem on1_any (n : Nat) (w : World) : CloM n 19 #[] (fun _ => true) w := fun s _ W _ => by
  show Calls Tryd.prog 19 #[.int .i64 (s : Nat)] W fun e w' => e = .returned (.bool true) ∧ Below W.heap.size W w'
  go_enter Tryd.func19, Tryd.ntmps19
  go_wp2
  go_ret
  exact ⟨rfl, Below.refl _ _⟩
set_option maxHeartbeats 1000000 in
theorem onto_any (n : Int) (a : Option Addr) (len cap : Nat) (f : Nat → Int) (w : World) (hl : len ≤ maxLen) (hr : Row w a len f) :
    Calls Tryd.prog 7 #[.agg #[.int .i64 n, .slice a len cap]] w fun e w' => OnPost n len f e w' ∧ Below w.heap.size w w' := by
  have K0 : Held (w.alloc (.cells #[.int .i64 n, .slice a len cap] 24)) w.heap.size n a len cap f := Held.box hr
  have HB0 : Hid (Below w.heap.size w (w.alloc (.cells #[.int .i64 n, .slice a len cap] 24))) := (Below.refl _ _).alloc (Nat.le_refl _) _
  clear hr
  go_enter Tryd.func7, Tryd.ntmps7
  go_wp2_with fail
  refine (ideals_any n a len cap f _ hl K0.row).mono ?_
  rintro e w1 ⟨⟨c, v, hc, rfl, hv⟩, hb⟩
  have k0 := (K0.step hb).c0
  have HB1 : Hid (Below w.heap.size w w1) := Below.then HB0.out hb
  have HC : Hid (Chk n len f c) := hc
  clear hb K0 HB0 hc
  rcases hv with ⟨h0, rfl⟩ | ⟨rfl, hv, _⟩
  · have hne : (c != 0) = true := by simpa using h0
    go_wp2_with fail
    go_ret2
    exact ⟨⟨c, _, HC.out, rfl, .inl ⟨h0, rfl⟩⟩, HB1.out⟩
  · obtain ⟨rfl, h10, hrng, _⟩ := HC.out.good
    obtain ⟨av, cv, rfl, hcap, hrv⟩ := hv
    have HL : Hid (Rises len (idls (nat f) len)) := idls_rise h10 hrng.small
    have HLC : Hid (Calls Tryd.prog 18 #[.int .i64 (len : Nat), .slice av (idls (nat f) len).length cv, .func (.func 19) #[] #[]] w1 fun e w' => (∃ b : Nat, e = .returned (.slice (some ⟨b, 0, none⟩) (len + 1 : Nat) (len + 1 : Nat)) ∧ Row w' (some ⟨b, 0, none⟩) (len + 1) (fun t => wz (onF (nat f) len t))) ∧ Below w1.heap.size w1 w') :=
      lists_any len (idls (nat f) len) (fun _ => true) av cv _ #[] w1 h10 HL.out hcap hrv ent_on (on1_any len w1)
    clear hcap hrv hrng HL
    generalize (idls (nat f) len).length = LL at *
    go_wp2_with fail
    refine (Calls.mono HLC.out) ?_
    rintro e w2 ⟨⟨b, rfl, hr2⟩, hb2⟩
    have HR2 : Hid (Row w2 (some ⟨b, 0, none⟩) (len + 1) (fun t => wz (onF (nat f) len t))) := hr2
    have HB2 : Hid (Below w.heap.size w w2) := Below.then HB1.out hb2
    clear hr2 hb2 HLC HB1
    go_wp2_with fail
    go_ret2
    exact ⟨⟨0, _, HC.out, rfl, .inr ⟨rfl, b, rfl, HR2.out⟩⟩, HB2.out⟩

/-- What comes with binomials. -/
def VPost (N : Int) (len : Nat) (f : Nat → Int) (n least : Int) (V : (Nat → Nat) → Nat → Int → Int) (e : Ending) : Prop := ∃ (c : Int) (v : Value), StCk N len f n least c ∧ e = .returned (.tuple #[v, .int .i64 c]) ∧
  ((c ≠ 0 ∧ v = .int .i64 0) ∨ (c = 0 ∧ v = .int .i64 (wz (V (nat f) len n))))
def valV (g : Nat → Nat) (len : Nat) (n : Int) : Int := adB (onF g len) n (len + 1)
def strV (g : Nat → Nat) (len : Nat) (n : Int) : Int := adB (stF g len) n (len + 1)
def zetV (g : Nat → Nat) (len : Nat) (n : Int) : Int := adB (fun k => (nth (chs g len) (k + 1) : Nat)) (n - 2) ((chs g len).length - 1)

set_option maxHeartbeats 1000000 in
theorem value_any (N : Int) (a : Option Addr) (len cap : Nat) (f : Nat → Int) (n : Int) (w : World) (hl : len ≤ maxLen) (hr : Row w a len f) :
    Calls Tryd.prog 14 #[.agg #[.int .i64 N, .slice a len cap], .int .i64 n] w fun e w' => VPost N len f n (-20) valV e ∧ Below w.heap.size w w' := by
  have K0 : Held (w.alloc (.cells #[.int .i64 N, .slice a len cap] 24)) w.heap.size N a len cap f := Held.box hr
  have HB0 : Hid (Below w.heap.size w (w.alloc (.cells #[.int .i64 N, .slice a len cap] 24))) := (Below.refl _ _).alloc (Nat.le_refl _) _
  clear hr
  go_enter Tryd.func14, Tryd.ntmps14
  go_wp2_with fail
  refine (pcheck_any N a len cap f n (-20) _ hl K0.row).mono ?_
  rintro e w1 ⟨⟨c, rfl, hc⟩, hb⟩
  have K1 := K0.step hb
  have k0 := K1.c0
  have k1 := K1.c1
  have HB1 : Hid (Below w.heap.size w w1) := Below.then HB0.out hb
  have HC : Hid (StCk N len f n (-20) c) := hc
  clear hb K0 HB0 hc
  by_cases h0 : c = 0
  · subst h0
    obtain ⟨hck, hn1, hn2⟩ := HC.out.good
    have HCK : Hid (Chk N len f 0) := hck
    clear hck
    go_wp2_with fail
    refine (onto_any N a len cap f _ hl K1.row).mono ?_
    rintro e w2 ⟨⟨c2, v, hc2, rfl, hv⟩, hb2⟩
    obtain rfl : c2 = 0 := Chk.unique hc2 HCK.out
    have HB2 : Hid (Below w.heap.size w w2) := Below.then HB1.out hb2
    rcases hv with ⟨h0, _⟩ | ⟨_, b, rfl, hrv⟩
    · exact absurd rfl h0
    obtain ⟨_, h10, _, _⟩ := HCK.out.good
    have HR : Hid (Row w2 (some ⟨b, 0, none⟩) (len + 1) (fun k => wz (onF (nat f) len k))) := hrv
    clear hb2 K1 hc2 hrv HB1 k0 k1
    go_wp2_with fail
    refine (added_any (onF (nat f) len) n (some ⟨b, 0, none⟩) (len + 1) (len + 1) _ (by omega) (by omega) (by omega) HR.out).mono ?_
    rintro e w3 ⟨rfl, rfl⟩
    have HV : Hid (wz (adB (onF (nat f) len) n (len + 1)) = wz (valV (nat f) len n)) := rfl
    rw [HV.out]
    go_wp2_with fail
    go_ret2
    exact ⟨⟨0, _, HC.out, rfl, .inr ⟨rfl, rfl⟩⟩, HB2.out⟩
  · have hne : (c != 0) = true := by simpa using h0
    go_wp2_with fail
    go_ret2
    exact ⟨⟨c, _, HC.out, rfl, .inl ⟨h0, rfl⟩⟩, HB1.out⟩

theorem st1_any {n : Nat} {a : Option Addr} {cap : Nat} {g : Nat → Nat} {B : Nat} {w : World} (h10 : n ≤ 10) (hg : ∀ j, j < n → g j < pw n) (h : Held w B n a n cap (fun k => (g k : Nat))) (hT : Tab w) : CloM n 30 #[.pointer (some ⟨B, 0, none⟩)] (antB g n) w := fun s hs W hW => by
  have hH := h.step hW
  have c0 := hH.c0
  have c1 := hH.c1
  have HR : Hid (Row W a n (fun k => (g k : Nat))) := hH.row
  have HG : Hid (∀ j, j < n → g j < pw n) := hg
  have HT : Hid (Tab W) := hT.step hW
  have HS : Hid (s < pw n) := hs
  clear h hg hs hT hH
  show Calls Tryd.prog 30 #[.int .i64 (s : Nat), .pointer (some ⟨B, 0, none⟩)] W fun e w' => e = .returned (.bool (antB g n s)) ∧ Below W.heap.size W w'
  go_enter Tryd.func30, Tryd.ntmps30
  go_wp2_with fail
  refine (isApart_any n a cap g s _ h10 HG.out HR.out HS.out HT.out).mono ?_
  rintro e w1 ⟨rfl, hb1⟩
  have HB1 : Hid (Below W.heap.size W w1) := hb1
  clear hb1
  go_wp2_with fail
  go_ret
  exact ⟨rfl, HB1.out⟩
set_option maxHeartbeats 1000000 in
theorem strict_any (N : Int) (a : Option Addr) (len cap : Nat) (f : Nat → Int) (n : Int) (w : World) (hl : len ≤ maxLen) (hr : Row w a len f) (hT : Tab w) :
    Calls Tryd.prog 15 #[.agg #[.int .i64 N, .slice a len cap], .int .i64 n] w fun e w' => VPost N len f n 0 strV e ∧ Below w.heap.size w w' := by
  have K0 : Held (w.alloc (.cells #[.int .i64 N, .slice a len cap] 24)) w.heap.size N a len cap f := Held.box hr
  have HB0 : Hid (Below w.heap.size w (w.alloc (.cells #[.int .i64 N, .slice a len cap] 24))) := (Below.refl _ _).alloc (Nat.le_refl _) _
  have HT : Hid (Tab w) := hT
  clear hr hT
  go_enter Tryd.func15, Tryd.ntmps15
  go_wp2_with fail
  refine (pcheck_any N a len cap f n 0 _ hl K0.row).mono ?_
  rintro e w1 ⟨⟨c, rfl, hc⟩, hb⟩
  have K1 := K0.step hb
  have k0 := K1.c0
  have k1 := K1.c1
  have HB1 : Hid (Below w.heap.size w w1) := Below.then HB0.out hb
  have HC : Hid (StCk N len f n 0 c) := hc
  clear hb K0 HB0 hc
  by_cases h0 : c = 0
  · subst h0
    obtain ⟨hck, hn1, hn2⟩ := HC.out.good
    have HCK : Hid (Chk N len f 0) := hck
    clear hck
    go_wp2_with fail
    refine (ideals_any N a len cap f _ hl K1.row).mono ?_
    rintro e w2 ⟨⟨c2, v, hc2, rfl, hv⟩, hb2⟩
    obtain rfl : c2 = 0 := Chk.unique hc2 HCK.out
    have HB2 : Hid (Below w.heap.size w w2) := Below.then HB1.out hb2
    rcases hv with ⟨h0, _⟩ | ⟨_, hv, _⟩
    · exact absurd rfl h0
    obtain ⟨rfl, h10, hrng, _⟩ := HCK.out.good
    obtain ⟨av, cv, rfl, hcap, hrv⟩ := hv
    have K2 := K1.step hb2
    have d0 := K2.c0
    have HL : Hid (Rises len (idls (nat f) len)) := idls_rise h10 hrng.small
    have HH : Held w2 w.heap.size len a len cap (fun k => (nat f k : Nat)) := ⟨K2.c0, K2.c1, hrng.row K2.row⟩
    have HLC : Hid (Calls Tryd.prog 18 #[.int .i64 (len : Nat), .slice av (idls (nat f) len).length cv, .func (.func 30) #[] #[.pointer (some ⟨w.heap.size, 0, none⟩)]] w2 fun e w' => (∃ b : Nat, e = .returned (.slice (some ⟨b, 0, none⟩) (len + 1 : Nat) (len + 1 : Nat)) ∧ Row w' (some ⟨b, 0, none⟩) (len + 1) (fun t => wz (stF (nat f) len t))) ∧ Below w2.heap.size w2 w') :=
      lists_any len (idls (nat f) len) (antB (nat f) len) av cv _ _ w2 h10 HL.out hcap hrv ent_st (st1_any h10 hrng.small HH (HT.out.step HB2.out))
    clear hb2 K1 K2 hc2 hcap hrv hrng HL HB1 k0 k1 HH
    generalize (idls (nat f) len).length = LL at *
    go_wp2_with fail
    refine (Calls.mono HLC.out) ?_
    rintro e w3 ⟨⟨b, rfl, hr2⟩, hb3⟩
    have HR : Hid (Row w3 (some ⟨b, 0, none⟩) (len + 1) (fun t => wz (stF (nat f) len t))) := hr2
    have HB3 : Hid (Below w.heap.size w w3) := Below.then HB2.out hb3
    clear hr2 hb3 HLC HB2 d0
    go_wp2_with fail
    refine (added_any (stF (nat f) len) n (some ⟨b, 0, none⟩) (len + 1) (len + 1) _ (by omega) (by omega) (by omega) HR.out).mono ?_
    rintro e w4 ⟨rfl, rfl⟩
    have HV : Hid (wz (adB (stF (nat f) len) n (len + 1)) = wz (strV (nat f) len n)) := rfl
    rw [HV.out]
    go_wp2_with fail
    go_ret2
    exact ⟨⟨0, _, HC.out, rfl, .inr ⟨rfl, rfl⟩⟩, HB3.out⟩
  · have hne : (c != 0) = true := by simpa using h0
    go_wp2_with fail
    go_ret2
    exact ⟨⟨c, _, HC.out, rfl, .inl ⟨h0, rfl⟩⟩, HB1.out⟩
end Go.Proofs.YtncjlfhgenmheabDoor
