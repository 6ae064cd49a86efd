/-
  What embed.Into, Least, Divides and Corners answer, whatever they are handed. No condition but that slices read as slices of numbers.
-/
import Derived.Test.YtimpgcmkdcmhkabDoorEmT
namespace Go.Proofs.YtimpgcmkdcmhkabDoor
set_option maxRecDepth 100000
open Go.RowKit

theorem bel_more {w v : World} (h : Below w.heap.size w v) (c : Obj) : Below w.heap.size w (v.alloc c) := h.alloc h.size _
/-- One of two. -/
def sel2 {α : Type} (x0 x1 : α) : Nat → α
  | 0 => x0
  | _ => x1
theorem rr2 {w : World} {a0 a1 : Option Addr} {l0 k0 l1 k1 : Nat} {f0 f1 : Nat → Int} (m0 : l0 ≤ maxLen) (m1 : l1 ≤ maxLen) (r0 : Row w a0 l0 f0) (r1 : Row w a1 l1 f1) :
    RR (w.alloc (.cells #[.slice a0 l0 k0, .slice a1 l1 k1] 22)) (some ⟨w.heap.size, 0, none⟩) 2 (sel2 (a0, l0, k0) (a1, l1, k1)) (sel2 f0 f1) := fun k hk => by
  have hb : Below w.heap.size w (w.alloc (.cells #[.slice a0 l0 k0, .slice a1 l1 k1] 22)) := (Below.refl _ _).alloc (Nat.le_refl _) _
  rcases (by omega : k = 0 ∨ k = 1) with rfl | rfl
  · exact ⟨_, _, rfl, by simp [sel2], m0, r0.below hb⟩
  · exact ⟨_, _, rfl, by simp [sel2], m1, r1.below hb⟩
/-- What is wrong with two words. -/
def WC2 (n : Int) (len : Nat) (f : Nat → Int) (la : Nat) (fa : Nat → Int) (lb : Nat) (fb : Nat → Int) (c : Int) : Prop := WCk n len f 2 (sel2 (none, la, 0) (none, lb, 0)) (sel2 fa fb) c
theorem many2 {a0 a1 b0 b1 : Option Addr} {l0 k0 l1 k1 j0 j1 : Nat} : Many 2 (sel2 (a0, l0, k0) (a1, l1, k1)) ↔ Many 2 (sel2 (b0, l0, j0) (b1, l1, j1)) := by
  constructor
  · rintro (h | ⟨k, h1, h2⟩)
    · exact .inl h
    · refine .inr ⟨k, h1, ?_⟩
      rcases (by omega : k = 0 ∨ k = 1) with rfl | rfl <;> exact h2
  · rintro (h | ⟨k, h1, h2⟩)
    · exact .inl h
    · refine .inr ⟨k, h1, ?_⟩
      rcases (by omega : k = 0 ∨ k = 1) with rfl | rfl <;> exact h2
theorem lets2 {n : Int} {a0 a1 b0 b1 : Option Addr} {l0 k0 l1 k1 j0 j1 : Nat} {F : Nat → Nat → Int} : Lets n 2 (sel2 (a0, l0, k0) (a1, l1, k1)) F ↔ Lets n 2 (sel2 (b0, l0, j0) (b1, l1, j1)) F := by
  constructor <;>
  · intro h k hk i hi
    refine h k hk i ?_
    rcases (by omega : k = 0 ∨ k = 1) with rfl | rfl <;> exact hi
theorem WCk.two {n : Int} {len : Nat} {f : Nat → Int} {a0 a1 : Option Addr} {l0 k0 l1 k1 : Nat} {F0 F1 : Nat → Int} {c : Int} (h : WCk n len f 2 (sel2 (a0, l0, k0) (a1, l1, k1)) (sel2 F0 F1) c) : WC2 n len f l0 F0 l1 F1 c := by
  unfold WC2 WCk at *
  rw [many2 (b0 := none) (b1 := none) (j0 := 0) (j1 := 0), lets2 (b0 := none) (b1 := none) (j0 := 0) (j1 := 0)] at h
  exact h
theorem WC2.good {n : Int} {len : Nat} {f : Nat → Int} {la : Nat} {fa : Nat → Int} {lb : Nat} {fb : Nat → Int} (h : WC2 n len f la fa lb fb 0) :
    Chk n len f 0 ∧ la ≤ 12 ∧ lb ≤ 12 ∧ (∀ i, i < la → 0 ≤ fa i ∧ fa i < n) ∧ ∀ i, i < lb → 0 ≤ fb i ∧ fb i < n := by
  obtain ⟨h1, h2, h3⟩ := WCk.good h
  exact ⟨h1, Nat.le_of_not_lt fun h => h2 (.inr ⟨0, by omega, h⟩), Nat.le_of_not_lt fun h => h2 (.inr ⟨1, by omega, h⟩), h3 0 (by omega), h3 1 (by omega)⟩
def IntoPost (n : Int) (len : Nat) (f : Nat → Int) (la : Nat) (fa : Nat → Int) (lb : Nat) (fb : Nat → Int) (e : Ending) : Prop :=
  ∃ c v, e = .returned (.tuple #[.bool v, .int .i64 c]) ∧ WC2 n len f la fa lb fb c ∧ ((c ≠ 0 ∧ v = false) ∨ (c = 0 ∧ v = goesB (nat f) la (nat fa) lb (nat fb)))

set_option maxHeartbeats 2000000 in
theorem into_any (n : Int) (ao : Option Addr) (len co : Nat) (f : Nat → Int) (a : Option Addr) (la ca : Nat) (fa : Nat → Int) (b : Option Addr) (lb cb : Nat) (fb : Nat → Int) (w : World) (hl : len ≤ maxLen) (ho : Row w ao len f)
    (hla : la ≤ maxLen) (ha : Row w a la fa) (hlb : lb ≤ maxLen) (hb : Row w b lb fb) :
    Calls Tryd.prog 9 #[.agg #[.int .i64 n, .slice ao len co], .slice a la ca, .slice b lb cb] w fun e w' => IntoPost n len f la fa lb fb e ∧ Below w.heap.size w w' := by
  have HB0 : Hid (Below w.heap.size w (w.alloc (.cells #[.int .i64 n, .slice ao len co] 24))) := bel_one w _
  have K0 : Hid (Held (w.alloc (.cells #[.int .i64 n, .slice ao len co] 24)) w.heap.size n ao len co f) := Held.box ho
  have HA : Hid (Row w a la fa) := ha
  have HBB : Hid (Row w b lb fb) := hb
  clear ho ha hb
  go_enter Tryd.func9, Tryd.ntmps9
  generalize hC : Code.region 1 _ false = C
  go_wp2_with fail
  have HA1 : Hid (Row _ a la fa) := HA.out.below HB0.out
  have HB1 : Hid (Row _ b lb fb) := HBB.out.below HB0.out
  generalize hW : w.alloc (.cells #[.int .i64 n, .slice ao len co] 24) = W1 at *
  generalize hn0 : w.heap.size = B0 at *
  have k0 := K0.out.c0
  have k1 := K0.out.c1
  have HR := (show Hid (RR _ _ _ _ _) from rr2 (k0 := ca) (k1 := cb) hla hlb HA1.out HB1.out)
  have HBn : Hid (Below W1.heap.size W1 (W1.alloc (.cells #[.slice a la ca, .slice b lb cb] 22))) := bel_one _ _
  rw [← hC]
  clear hC C
  go_wp2_with fail
  refine (checkWords_any n ao len co f _ 2 2 _ _ _ hl (K0.out.step HBn.out).row (by unfold maxLen; omega) HR.out).mono ?_
  rintro e w2 ⟨⟨c, rfl, hc⟩, hb2⟩
  have HC : Hid (WC2 n len f la fa lb fb c) := hc.two
  have HBB2 : Hid (Below W1.heap.size W1 w2) := Below.then HBn.out hb2
  have K2 : Hid (Held w2 B0 n ao len co f) := K0.out.step HBB2.out
  have HA2 : Hid (Row w2 a la fa) := HA1.out.below HBB2.out
  have HB2 : Hid (Row w2 b lb fb) := HB1.out.below HBB2.out
  have HBW : Hid (Below w.heap.size w w2) := by rw [hn0]; exact HB0.out.trans (HBB2.out.mono (by rw [← hW, ← hn0]; simp))
  clear hc hb2 HR HBn k0 k1 K0 HA1 HB1 HA HBB HB0 hW HBB2
  have k0 := K2.out.c0
  have k1 := K2.out.c1
  by_cases h0 : c = 0
  · subst h0
    obtain ⟨hck, hla, hlb, hfa, hfb⟩ := HC.out.good
    obtain ⟨rfl, h10, hrng, _⟩ := hck.good
    have HRo : Hid (Row w2 ao len (fun k => ((nat f k : Nat) : Int))) := hrng.row K2.out.row
    have HG : Hid (∀ k, k < len → nat f k < 1024) := hrng.small2 h10
    have HA3 : Hid (Row w2 a la (fun k => ((nat fa k : Nat) : Int))) := row_nat HA2.out (fun k hk => (hfa k hk).1)
    have HB3 : Hid (Row w2 b lb (fun k => ((nat fb k : Nat) : Int))) := row_nat HB2.out (fun k hk => (hfb k hk).1)
    have HFA : Hid (∀ i, i < la → nat fa i < len) := fun i hi => by have := hfa i hi; unfold nat; omega
    have HFB : Hid (∀ i, i < lb → nat fb i < len) := fun i hi => by have := hfb i hi; unfold nat; omega
    clear hck hrng hfa hfb
    go_wp2_with fail
    refine (goesInto_any len ao len co (nat f) a la ca (nat fa) b lb cb (nat fb) w2 h10 HG.out HRo.out HA3.out HB3.out hla hlb HFA.out HFB.out).mono ?_
    rintro e w3 ⟨rfl, hb3⟩
    have HB4 : Hid (Below w.heap.size w w3) := Below.then HBW.out hb3
    clear hb3 k0 k1 K2
    go_wp2_with fail
    go_ret2
    exact ⟨⟨_, _, rfl, HC.out, .inr ⟨rfl, rfl⟩⟩, HB4.out⟩
  · have hne : (c != 0) = true := by simpa using h0
    have H0 : Hid (c ≠ 0) := h0
    clear h0
    go_wp2_with fail
    go_ret2
    exact ⟨⟨_, _, rfl, HC.out, .inl ⟨H0.out, rfl⟩⟩, HBW.out⟩

def LeastPost (K : Nat) (n : Int) (len : Nat) (f : Nat → Int) (m : Nat) (S : Nat → Option Addr × Nat × Nat) (F : Nat → Nat → Int) (e : Ending) (w' : World) : Prop :=
  ∃ c v, e = .returned (.tuple #[v, .int .i64 c]) ∧ WCk n len f m S F c ∧ ((c ≠ 0 ∧ v = .slice none 0 0) ∨ (c = 0 ∧ NSl w' v (lst (wdP (nat f) S F) m m) ∧ ∀ k, v.ownBlock = some k → K ≤ k))
theorem box2 (w : World) (o : Obj) (v : Value) (t : Nat) (W : World) (h : (w.alloc o).alloc (.cells #[v] t) = W) : Below w.heap.size w W ∧ Below (w.alloc o).heap.size (w.alloc o) W ∧ W.cell? ⟨w.heap.size + 1, 0, none⟩ = some v := by
  subst h
  have s1 : (w.alloc o).heap.size = w.heap.size + 1 := by simp
  refine ⟨bel_more (bel_one _ _) _, bel_one _ _, ?_⟩
  rw [← s1]; simp

set_option maxHeartbeats 2000000 in
theorem leastX_any (n : Int) (ao : Option Addr) (len co : Nat) (f : Nat → Int) (a : Option Addr) (m cap : Nat) (S : Nat → Option Addr × Nat × Nat) (F : Nat → Nat → Int) (w : World) (hl : len ≤ maxLen) (ho : Row w ao len f) (hm : m ≤ maxLen) (hr : RR w a m S F) :
    Calls Tryd.prog 8 #[.agg #[.int .i64 n, .slice ao len co], .slice a m cap] w fun e w' => LeastPost w.heap.size n len f m S F e w' ∧ Below w.heap.size w w' := by
  have K0 : Hid (Held (w.alloc (.cells #[.int .i64 n, .slice ao len co] 24)) w.heap.size n ao len co f) := Held.box ho
  have HR0 : Hid (RR w a m S F) := hr
  clear ho hr
  go_enter Tryd.func8, Tryd.ntmps8
  generalize hC : Code.region 1 _ false = C
  go_wp2_with fail
  generalize hW : (w.alloc (.cells #[.int .i64 n, .slice ao len co] 24)).alloc (.cells #[.slice a m cap] 25) = W
  obtain ⟨hb, hb', c1⟩ := box2 w _ _ _ W hW
  have K1 : Hid (Held W w.heap.size n ao len co f) := K0.out.step hb'
  have HB1 : Hid (Below w.heap.size w W) := hb
  have HR : Hid (RR W a m S F) := HR0.out.below hb
  clear hb hb' HR0 K0 hW
  have k0 := K1.out.c0
  have k1 := K1.out.c1
  rw [← hC]
  clear hC C
  go_wp2_with fail
  refine (checkWords_any n ao len co f a m cap S F W hl K1.out.row hm HR.out).mono ?_
  rintro e w2 ⟨⟨c, rfl, hc⟩, hb2⟩
  have HC : Hid (WCk n len f m S F c) := hc
  have K2 : Hid (Held w2 w.heap.size n ao len co f) := K1.out.step hb2
  have HR2 : Hid (RR w2 a m S F) := HR.out.below hb2
  have HB2 : Hid (Below w.heap.size w w2) := Below.then HB1.out hb2
  have d1 := cell_step hb2 c1
  clear hc hb2 K1 HR HB1 k0 k1 c1
  have k0 := K2.out.c0
  have k1 := K2.out.c1
  by_cases h0 : c = 0
  · subst h0
    obtain ⟨hck, hM, hL⟩ := HC.out.good
    obtain ⟨rfl, h10, hrng, _⟩ := hck.good
    have K3 : Held w2 w.heap.size len ao len co (fun k => ((nat f k : Nat) : Int)) := ⟨K2.out.c0, K2.out.c1, hrng.row K2.out.row⟩
    have HQ := (show Hid (Clo2 _ _ _ _ _) from least1_any len ao len co w.heap.size (w.heap.size + 1) f a m cap S F w2 h10 (hrng.small2 h10) K3 d1 HR2.out hM hL)
    have hm12 : m ≤ 12 := Nat.le_of_not_lt fun h => hM (.inl h)
    clear K3 hck hM hL hrng
    go_wp2_with fail
    refine (least_any m 20 _ _ w2 hm12 ent_least1 HQ.out).mono ?_
    rintro e w3 ⟨⟨v, rfl, hv, hnew⟩, hb3⟩
    have HV : Hid (NSl w3 v (lst (wdP (nat f) S F) m m) ∧ ∀ k, v.ownBlock = some k → w.heap.size ≤ k) := ⟨hv, fun k hk => Nat.le_trans HB2.out.size (hnew k hk)⟩
    have HB3 : Hid (Below w.heap.size w w3) := Below.then HB2.out hb3
    clear hv hnew hb3 k0 k1 K2 d1 HQ
    go_wp2_with fail
    go_ret2
    exact ⟨⟨_, _, rfl, HC.out, .inr ⟨rfl, HV.out⟩⟩, HB3.out⟩
  · have hne : (c != 0) = true := by simpa using h0
    have H0 : Hid (c ≠ 0) := h0
    clear h0
    go_wp2_with fail
    go_ret2
    exact ⟨⟨_, _, rfl, HC.out, .inl ⟨H0.out, rfl⟩⟩, HB2.out⟩

/-- What is wrong with two rows. -/
def NC2 (la : Nat) (fa : Nat → Int) (lb : Nat) (fb : Nat → Int) (c : Int) : Prop := NCk 2 (sel2 (none, la, 0) (none, lb, 0)) (sel2 fa fb) c
theorem frm2 {a0 a1 b0 b1 : Option Addr} {l0 k0 l1 k1 j0 j1 : Nat} : Frm 2 (sel2 (a0, l0, k0) (a1, l1, k1)) ↔ Frm 2 (sel2 (b0, l0, j0) (b1, l1, j1)) := by
  constructor <;>
  · intro h k hk
    have := h k hk
    rcases (by omega : k = 0 ∨ k = 1) with rfl | rfl <;> exact this
theorem num2 {a0 a1 b0 b1 : Option Addr} {l0 k0 l1 k1 j0 j1 : Nat} {F : Nat → Nat → Int} : Num 2 (sel2 (a0, l0, k0) (a1, l1, k1)) F ↔ Num 2 (sel2 (b0, l0, j0) (b1, l1, j1)) F := by
  constructor <;>
  · intro h k hk i hi
    refine h k hk i ?_
    rcases (by omega : k = 0 ∨ k = 1) with rfl | rfl <;> exact hi
theorem NCk.two {a0 a1 : Option Addr} {l0 k0 l1 k1 : Nat} {F0 F1 : Nat → Int} {c : Int} (h : NCk 2 (sel2 (a0, l0, k0) (a1, l1, k1)) (sel2 F0 F1) c) : NC2 l0 F0 l1 F1 c := by
  unfold NC2 NCk at *
  rw [many2 (b0 := none) (b1 := none) (j0 := 0) (j1 := 0), frm2 (b0 := none) (b1 := none) (j0 := 0) (j1 := 0), num2 (b0 := none) (b1 := none) (j0 := 0) (j1 := 0)] at h
  exact h
theorem NC2.good {la : Nat} {fa : Nat → Int} {lb : Nat} {fb : Nat → Int} (h : NC2 la fa lb fb 0) : la ≤ 12 ∧ lb = la := by
  obtain ⟨h1, h2, _⟩ := NCk.good h
  exact ⟨Nat.le_of_not_lt fun h => h1 (.inr ⟨0, by omega, h⟩), h2 1 (by omega)⟩
def DivPost (la : Nat) (fa : Nat → Int) (lb : Nat) (fb : Nat → Int) (e : Ending) : Prop :=
  ∃ c v, e = .returned (.tuple #[.bool v, .int .i64 c]) ∧ NC2 la fa lb fb c ∧ ((c ≠ 0 ∧ v = false) ∨ (c = 0 ∧ v = divB la fa fb))

set_option maxHeartbeats 2000000 in
theorem dividesX_any (a : Option Addr) (la ca : Nat) (fa : Nat → Int) (b : Option Addr) (lb cb : Nat) (fb : Nat → Int) (w : World) (hla : la ≤ maxLen) (ha : Row w a la fa) (hlb : lb ≤ maxLen) (hb : Row w b lb fb) :
    Calls Tryd.prog 12 #[.slice a la ca, .slice b lb cb] w fun e w' => DivPost la fa lb fb e ∧ Below w.heap.size w w' := by
  have HR := (show Hid (RR _ _ _ _ _) from rr2 (k0 := ca) (k1 := cb) hla hlb ha hb)
  have HB0 : Hid (Below w.heap.size w (w.alloc (.cells #[.slice a la ca, .slice b lb cb] 22))) := bel_one _ _
  have HA : Hid (Row (w.alloc (.cells #[.slice a la ca, .slice b lb cb] 22)) a la fa) := ha.below HB0.out
  have HB : Hid (Row (w.alloc (.cells #[.slice a la ca, .slice b lb cb] 22)) b lb fb) := hb.below HB0.out
  clear ha hb
  go_enter Tryd.func12, Tryd.ntmps12
  go_wp2_with fail
  refine (checkRows_any _ 2 2 _ _ _ (by unfold maxLen; omega) HR.out).mono ?_
  rintro e w' ⟨⟨c, rfl, hc⟩, rfl⟩
  have HC : Hid (NC2 la fa lb fb c) := hc.two
  clear hc HR
  generalize w.alloc (.cells #[.slice a la ca, .slice b lb cb] 22) = W at *
  by_cases h0 : c = 0
  · subst h0
    obtain ⟨h12, rfl⟩ := HC.out.good
    go_wp2_with fail
    refine (divides_any a lb ca fa b cb fb W h12 HA.out HB.out).mono ?_
    rintro e w' ⟨rfl, hw⟩
    subst hw
    go_wp2_with fail
    go_ret2
    exact ⟨⟨_, _, rfl, HC.out, .inr ⟨rfl, rfl⟩⟩, HB0.out⟩
  · have hne : (c != 0) = true := by simpa using h0
    have H0 : Hid (c ≠ 0) := h0
    clear h0
    go_wp2_with fail
    go_ret2
    exact ⟨⟨_, _, rfl, HC.out, .inl ⟨H0.out, rfl⟩⟩, HB0.out⟩
def CornPost (K : Nat) (m : Nat) (S : Nat → Option Addr × Nat × Nat) (F : Nat → Nat → Int) (e : Ending) (w' : World) : Prop :=
  ∃ c v, e = .returned (.tuple #[v, .int .i64 c]) ∧ NCk m S F c ∧ ((c ≠ 0 ∧ v = .slice none 0 0) ∨ (c = 0 ∧ NSl w' v (lst (rwP S F) m m) ∧ ∀ k, v.ownBlock = some k → K ≤ k))
theorem box1 (w : World) (v : Value) (t : Nat) : (w.alloc (.cells #[v] t)).cell? ⟨w.heap.size, 0, none⟩ = some v := by simp

set_option maxHeartbeats 2000000 in
theorem corners_any (a : Option Addr) (m cap : Nat) (S : Nat → Option Addr × Nat × Nat) (F : Nat → Nat → Int) (w : World) (hm : m ≤ maxLen) (hr : RR w a m S F) :
    Calls Tryd.prog 11 #[.slice a m cap] w fun e w' => CornPost w.heap.size m S F e w' ∧ Below w.heap.size w w' := by
  have HB : Hid (Below w.heap.size w (w.alloc (.cells #[.slice a m cap] 25))) := bel_one _ _
  have HR : Hid (RR (w.alloc (.cells #[.slice a m cap] 25)) a m S F) := hr.below HB.out
  have c1 := box1 w (.slice a m cap) 25
  clear hr
  go_enter Tryd.func11, Tryd.ntmps11
  generalize hC : Code.region 1 _ false = C
  go_wp2_with fail
  generalize w.alloc (.cells #[.slice a m cap] 25) = W at *
  rw [← hC]
  clear hC C
  go_wp2_with fail
  refine (checkRows_any a m cap S F W hm HR.out).mono ?_
  rintro e w' ⟨⟨c, rfl, hc⟩, hw⟩
  subst hw
  have HC : Hid (NCk m S F c) := hc
  clear hc
  by_cases h0 : c = 0
  · subst h0
    obtain ⟨hM, hFr, _⟩ := HC.out.good
    have HQ := (show Hid (Clo2 _ _ _ _ _) from corn1_any w.heap.size a m cap S F W c1 HR.out hM hFr)
    have hm12 : m ≤ 12 := Nat.le_of_not_lt fun h => hM (.inl h)
    clear hM hFr
    go_wp2_with fail
    refine (least_any m 23 _ _ W hm12 ent_corn1 HQ.out).mono ?_
    rintro e w3 ⟨⟨v, rfl, hv, hnew⟩, hb3⟩
    have HV : Hid (NSl w3 v (lst (rwP S F) m m) ∧ ∀ k, v.ownBlock = some k → w.heap.size ≤ k) := ⟨hv, fun k hk => Nat.le_trans HB.out.size (hnew k hk)⟩
    have HB3 : Hid (Below w.heap.size w w3) := Below.then HB.out hb3
    clear hv hnew hb3 c1 HQ
    go_wp2_with fail
    go_ret2
    exact ⟨⟨_, _, rfl, HC.out, .inr ⟨rfl, HV.out⟩⟩, HB3.out⟩
  · have hne : (c != 0) = true := by simpa using h0
    have H0 : Hid (c ≠ 0) := h0
    clear h0
    go_wp2_with fail
    go_ret2
    exact ⟨⟨_, _, rfl, HC.out, .inl ⟨H0.out, rfl⟩⟩, HB.out⟩
end Go.Proofs.YtimpgcmkdcmhkabDoor
