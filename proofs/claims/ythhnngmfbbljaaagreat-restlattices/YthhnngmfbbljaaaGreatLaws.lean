/-
  What lattice.Check answers, whatever it is handed. No condition but that slices read as slices of rows.
  What lattice.Modular and lattice.Distributive answer, whatever they are handed. No condition but that slices read as slices of rows.
-/
import Derived.Test.YthhnngmfbbljaaaGreatLRows
namespace Go.Proofs.YthhnngmfbbljaaaGreat
set_option maxRecDepth 100000
open Go.RowKit

def nat2 (F : Nat → Nat → Int) (x y : Nat) : Nat := (F x y).toNat
/-- What Check must answer. -/
def LCk (n : Int) (la : Nat) (SA : Nat → Option Addr × Nat × Nat) (FA : Nat → Nat → Int) (lb : Nat) (SB : Nat → Option Addr × Nat × Nat) (FB : Nat → Nat → Int) (c : Int) : Prop :=
  (c = 2 ∧ ¬ (1 ≤ n ∧ n ≤ 40)) ∨ ((1 ≤ n ∧ n ≤ 40) ∧
    ((c = 1 ∧ ¬ (Sq n la SA ∧ Sq n lb SB)) ∨ ((Sq n la SA ∧ Sq n lb SB) ∧
      ((c = 3 ∧ ¬ (Rg n la SA FA ∧ Rg n lb SB FB)) ∨ ((Rg n la SA FA ∧ Rg n lb SB FB) ∧
        ((c = 4 ∧ ¬ (Lws n.toNat (nat2 FA) (nat2 FB) ∧ Lws n.toNat (nat2 FB) (nat2 FA))) ∨ (c = 0 ∧ (Lws n.toNat (nat2 FA) (nat2 FB) ∧ Lws n.toNat (nat2 FB) (nat2 FA)))))))))
theorem LCk.one {n : Int} {la : Nat} {SA : Nat → Option Addr × Nat × Nat} {FA : Nat → Nat → Int} {lb : Nat} {SB : Nat → Option Addr × Nat × Nat} {FB : Nat → Nat → Int} {c d : Int} (h : LCk n la SA FA lb SB FB c) (h' : LCk n la SA FA lb SB FB d) : c = d := by
  rcases h with ⟨rfl, h⟩ | ⟨h1, ⟨rfl, h⟩ | ⟨h2, ⟨rfl, h⟩ | ⟨h3, ⟨rfl, h⟩ | ⟨rfl, h⟩⟩⟩⟩ <;> rcases h' with ⟨rfl, h'⟩ | ⟨h1', ⟨rfl, h'⟩ | ⟨h2', ⟨rfl, h'⟩ | ⟨h3', ⟨rfl, h'⟩ | ⟨rfl, h'⟩⟩⟩⟩ <;> first | rfl | exact absurd (by assumption) h | exact absurd (by assumption) h'
/-- Where a row begins. -/
def rAt (s : Option Addr × Nat × Nat) : Nat × Nat × Nat := match s.1 with | some p => (p.block, p.off, s.2.2) | none => (0, 0, s.2.2)
theorem RR.tb {w : World} {a : Option Addr} {q : Nat} {S : Nat → Option Addr × Nat × Nat} {F : Nat → Nat → Int} (h : RR w a q S F) (hq : 1 ≤ q) (hs : Sq (q : Int) q S) (hg : Rg (q : Int) q S F) :
    ∃ b off, a = some ⟨b, off, none⟩ ∧ Tb w b off q (fun x => rAt (S x)) (nat2 F) ∧ Inn q (nat2 F) := by
  obtain ⟨b, off, rfl, _⟩ := h 0 (by omega)
  refine ⟨b, off, rfl, fun x hx => ?_, fun x y hx hy => ?_⟩
  · obtain ⟨b1, off1, e, hc, _, hr⟩ := h x hx
    cases e
    have hl : (S x).2.1 = q := by have := hs.2 x hx; omega
    obtain ⟨b2, off2, e2, _⟩ := hr 0 (by omega)
    refine ⟨?_, fun y hy => ?_⟩
    · rw [hc, hl]; simp only [rAt, e2]
    · obtain ⟨b3, off3, e3, hc3⟩ := hr y (by omega)
      have := hg x hx y (by omega)
      have e4 : F x y = ((nat2 F x y : Nat) : Int) := by unfold nat2; omega
      rw [e4] at hc3
      rw [e3] at e2
      simp only [rAt, e3]; exact hc3
  · have hl : (S x).2.1 = q := by have := hs.2 x hx; omega
    have := hg x hx y (by omega)
    unfold nat2; omega
theorem LCk.good {n : Int} {la : Nat} {SA : Nat → Option Addr × Nat × Nat} {FA : Nat → Nat → Int} {lb : Nat} {SB : Nat → Option Addr × Nat × Nat} {FB : Nat → Nat → Int} (h : LCk n la SA FA lb SB FB 0) :
    ∃ q : Nat, n = q ∧ 1 ≤ q ∧ q ≤ 40 ∧ la = q ∧ lb = q ∧ Sq (q : Int) q SA ∧ Sq (q : Int) q SB ∧ Rg (q : Int) q SA FA ∧ Rg (q : Int) q SB FB ∧ Lat q (nat2 FA) (nat2 FB) := by
  rcases h with ⟨h, _⟩ | ⟨h1, ⟨h, _⟩ | ⟨h2, ⟨h, _⟩ | ⟨h3, ⟨h, _⟩ | ⟨_, h⟩⟩⟩⟩
  · omega
  · omega
  · omega
  · omega
  obtain ⟨q, rfl⟩ := Int.eq_ofNat_of_zero_le (show 0 ≤ n by omega)
  have e1 : la = q := by have := h2.1.1; omega
  have e2 : lb = q := by have := h2.2.1; omega
  subst e1; subst e2
  have hin : ∀ {S : Nat → Option Addr × Nat × Nat} {F : Nat → Nat → Int}, Sq (lb : Int) lb S → Rg (lb : Int) lb S F → Inn lb (nat2 F) := fun {S F} hs hg x y hx hy => by
    have hl : (S x).2.1 = lb := by have := hs.2 x hx; omega
    have := hg x hx y (by omega)
    unfold nat2; omega
  exact ⟨lb, rfl, by omega, by omega, rfl, rfl, h2.1, h2.2, h3.1, h3.2, ⟨hin h2.1 h3.1, hin h2.2 h3.2, h.1, h.2⟩⟩

theorem index2_0 (A B : Value) (w : World) : Sem.run Tryz.prog (Instr.index 106 (.agg #[A, B]) (.int .i64 0)) w = .ok A w := by
  simp [go_sem, Instr.index]
theorem index2_1 (A B : Value) (w : World) : Sem.run Tryz.prog (Instr.index 106 (.agg #[A, B]) (.int .i64 1)) w = .ok B w := by
  simp [go_sem, Instr.index]

set_option maxHeartbeats 2000000 in
theorem lCheck_any (n : Int) (a : Option Addr) (la ca : Nat) (SA : Nat → Option Addr × Nat × Nat) (FA : Nat → Nat → Int) (b : Option Addr) (lb cb : Nat) (SB : Nat → Option Addr × Nat × Nat) (FB : Nat → Nat → Int) (w : World) (hla : la ≤ maxLen) (hlb : lb ≤ maxLen) (hra : RR w a la SA FA) (hrb : RR w b lb SB FB) :
    Calls Tryz.prog 57 #[.agg #[.int .i64 n, .slice a la ca, .slice b lb cb]] w fun e w' => (∃ c, e = .returned (.int .i64 c) ∧ LCk n la SA FA lb SB FB c) ∧ Below w.heap.size w w' := by
  have HRA : Hid (RR w a la SA FA) := hra
  have HRB : Hid (RR w b lb SB FB) := hrb
  have B1 : Below w.heap.size w (w.alloc (.cells #[.int .i64 n, .slice a la ca, .slice b lb cb] 27)) := (Below.refl _ _).alloc (Nat.le_refl _) _
  have HB1 : Hid (Below w.heap.size w (w.alloc (.cells #[.int .i64 n, .slice a la ca, .slice b lb cb] 27))) := B1
  clear hra hrb B1
  by_cases h1 : n < 1
  · have HN : Hid (LCk n la SA FA lb SB FB 2) := .inl ⟨rfl, by omega⟩
    go_enter Tryz.func57, Tryz.ntmps57
    go_wp2_with fail
    go_ret
    exact ⟨⟨2, rfl, HN.out⟩, HB1.out⟩
  · have h1' : decide (n < 1) = false := by simpa using h1
    by_cases h2 : 40 < n
    · have HN : Hid (LCk n la SA FA lb SB FB 2) := .inl ⟨rfl, by omega⟩
      go_enter Tryz.func57, Tryz.ntmps57
      go_wp2_with fail
      go_ret
      exact ⟨⟨2, rfl, HN.out⟩, HB1.out⟩
    · have h2' : decide (40 < n) = false := by simpa using h2
      go_enter Tryz.func57, Tryz.ntmps57
      go_wp2_with fail
      refine (tables_any n a b la ca lb cb _).mono ?_
      rintro e w1 ⟨rfl, hb1⟩
      have k0 : w1.cell? ⟨w.heap.size, 0, none⟩ = some (.int .i64 n) := (hb1.cell (by simp)).trans (by simp)
      have HB2 : Hid (Below w.heap.size w w1) := Below.then HB1.out hb1
      have hsz : w.heap.size < w1.heap.size := by have := hb1.size; simp at this; omega
      have HB3 : Hid (Below w.heap.size w (w1.alloc (.cells #[.slice a la ca, .slice b lb cb] 106))) := HB2.out.alloc (by omega) _
      have d0 : (w1.alloc (.cells #[.slice a la ca, .slice b lb cb] 106)).cell? ⟨w1.heap.size, 0, none⟩ = some (.slice a la ca) := by simp
      have d1 : (w1.alloc (.cells #[.slice a la ca, .slice b lb cb] 106)).cell? ⟨w1.heap.size, 1, none⟩ = some (.slice b lb cb) := by simp
      have d2 : (w1.alloc (.cells #[.slice a la ca, .slice b lb cb] 106)).cell? ⟨w.heap.size, 0, none⟩ = some (.int .i64 n) := cell_step ((Below.refl _ _).alloc (Nat.le_refl _) _) k0
      clear hb1 HB2 HB1 k0
      obtain ⟨q, rfl⟩ := Int.eq_ofNat_of_zero_le (show 0 ≤ n by omega)
      have ix0 := index2_0 (.slice a la ca) (.slice b lb cb)
      have ix1 := index2_1 (.slice a la ca) (.slice b lb cb)
      go_wp2_with fail
      generalize w1.alloc (.cells #[.slice a la ca, .slice b lb cb] 106) = W2 at *
      generalize w1.heap.size = u at *
      go_loopw [21] (fun i wx => ∃ k : Nat, k ≤ 2 ∧ i = .int .i64 k ∧ wx = W2 ∧ Hid ((0 < k → Sq q la SA) ∧ (1 < k → Sq q lb SB))) (fun i _ => 2 - (intOf i).toNat)
      case atStart => exact ⟨0, Nat.zero_le _, rfl, rfl, fun h => absurd h (Nat.lt_irrefl _), fun h => absurd h (by omega)⟩
      case round =>
        obtain ⟨k, hk, rfl, rfl, HK⟩ := hrel
        rcases (by omega : k = 0 ∨ k = 1 ∨ k = 2) with rfl | rfl | rfl
        · go_wp2_with fail
          refine (isSquare_any q a la ca SA FA _ hla (HRA.out.below HB3.out)).mono ?_
          rintro e w' ⟨⟨v, rfl, hv⟩, hww⟩
          subst hww
          rcases v with _ | _
          · have HN : Hid (LCk q la SA FA lb SB FB 1) := .inr ⟨⟨by omega, by omega⟩, .inl ⟨rfl, fun h => by have := hv.2 h.1; cases this⟩⟩
            clear hv HK
            go_wp2_with fail
            go_ret
            exact ⟨⟨1, rfl, HN.out⟩, HB3.out⟩
          · have HN : Hid (Sq q la SA) := hv.1 rfl
            clear hv HK
            go_wp2_with fail
            go_roundw
            case rel => exact ⟨1, by omega, rfl, by first | rfl | trivial, fun _ => HN.out, fun h => absurd h (by omega)⟩
            case measure => simp [intOf]
        · go_wp2_with fail
          refine (isSquare_any q b lb cb SB FB _ hlb (HRB.out.below HB3.out)).mono ?_
          rintro e w' ⟨⟨v, rfl, hv⟩, hww⟩
          subst hww
          have HK0 : Hid (Sq q la SA) := HK.out.1 (by omega)
          rcases v with _ | _
          · have HN : Hid (LCk q la SA FA lb SB FB 1) := .inr ⟨⟨by omega, by omega⟩, .inl ⟨rfl, fun h => by have := hv.2 h.2; cases this⟩⟩
            clear hv HK
            go_wp2_with fail
            go_ret
            exact ⟨⟨1, rfl, HN.out⟩, HB3.out⟩
          · have HN : Hid (Sq q lb SB) := hv.1 rfl
            clear hv HK
            go_wp2_with fail
            go_roundw
            case rel => exact ⟨2, by omega, rfl, by first | rfl | trivial, fun _ => HK0.out, fun _ => HN.out⟩
            case measure => simp [intOf]
        · have HS1 : Hid (Sq q la SA) := HK.out.1 (by omega)
          have HS2 : Hid (Sq q lb SB) := HK.out.2 (by omega)
          clear HK
          go_wp2_with fail
          go_loopw [31] (fun i wx => ∃ k : Nat, k ≤ 2 ∧ i = .int .i64 k ∧ wx = wr ∧ Hid ((0 < k → Rg q la SA FA) ∧ (1 < k → Rg q lb SB FB))) (fun i _ => 2 - (intOf i).toNat)
          case atStart => exact ⟨0, Nat.zero_le _, rfl, rfl, fun h => absurd h (Nat.lt_irrefl _), fun h => absurd h (by omega)⟩
          case round =>
            obtain ⟨k, hk, rfl, rfl, HK⟩ := hrel
            rcases (by omega : k = 0 ∨ k = 1 ∨ k = 2) with rfl | rfl | rfl
            · go_wp2_with fail
              refine (isOfElements_any q a la ca SA FA _ hla (HRA.out.below HB3.out)).mono ?_
              rintro e w' ⟨⟨v, rfl, hv⟩, hww⟩
              subst hww
              rcases v with _ | _
              · have HN : Hid (LCk q la SA FA lb SB FB 3) := .inr ⟨⟨by omega, by omega⟩, .inr ⟨⟨HS1.out, HS2.out⟩, .inl ⟨rfl, fun h => by have := hv.2 h.1; cases this⟩⟩⟩
                clear hv HK
                go_wp2_with fail
                go_ret
                exact ⟨⟨3, rfl, HN.out⟩, HB3.out⟩
              · have HN : Hid (Rg q la SA FA) := hv.1 rfl
                clear hv HK
                go_wp2_with fail
                go_roundw
                case rel => exact ⟨_, _, _, _, _, _, _, _, _, _, _, ⟨1, by omega, rfl, by first | rfl | trivial, fun _ => HN.out, fun h => absurd h (by omega)⟩, rfl⟩
                case measure => simp [intOf]
            · go_wp2_with fail
              refine (isOfElements_any q b lb cb SB FB _ hlb (HRB.out.below HB3.out)).mono ?_
              rintro e w' ⟨⟨v, rfl, hv⟩, hww⟩
              subst hww
              have HK0 : Hid (Rg q la SA FA) := HK.out.1 (by omega)
              rcases v with _ | _
              · have HN : Hid (LCk q la SA FA lb SB FB 3) := .inr ⟨⟨by omega, by omega⟩, .inr ⟨⟨HS1.out, HS2.out⟩, .inl ⟨rfl, fun h => by have := hv.2 h.2; cases this⟩⟩⟩
                clear hv HK
                go_wp2_with fail
                go_ret
                exact ⟨⟨3, rfl, HN.out⟩, HB3.out⟩
              · have HN : Hid (Rg q lb SB FB) := hv.1 rfl
                clear hv HK
                go_wp2_with fail
                go_roundw
                case rel => exact ⟨_, _, _, _, _, _, _, _, _, _, _, ⟨2, by omega, rfl, by first | rfl | trivial, fun _ => HK0.out, fun _ => HN.out⟩, rfl⟩
                case measure => simp [intOf]
            · have hg1 := HK.out.1 (by omega)
              have hg2 := HK.out.2 (by omega)
              have HG : Hid (Rg q la SA FA ∧ Rg q lb SB FB) := ⟨hg1, hg2⟩
              have hs1 := HS1.out
              have hs2 := HS2.out
              obtain rfl : la = q := by have := hs1.1; omega
              obtain rfl : lb = la := by have := hs2.1; omega
              obtain ⟨b1, o1, rfl, ht1, hi1⟩ := (HRA.out.below HB3.out).tb (by omega) hs1 hg1
              obtain ⟨b2, o2, rfl, ht2, hi2⟩ := (HRB.out.below HB3.out).tb (by omega) hs2 hg2
              have HT1 : Hid (Tb wr b1 o1 lb (fun x => rAt (SA x)) (nat2 FA)) := ht1
              have HT2 : Hid (Tb wr b2 o2 lb (fun x => rAt (SB x)) (nat2 FB)) := ht2
              have HI1 : Hid (Inn lb (nat2 FA)) := hi1
              have HI2 : Hid (Inn lb (nat2 FB)) := hi2
              clear HK hg1 hg2 hs1 hs2 ht1 ht2 hi1 hi2
              have HD : Hid (wr.cell? ⟨u, 0, none⟩ = some (.slice (some ⟨b1, o1, none⟩) lb ca) ∧ wr.cell? ⟨u, 1, none⟩ = some (.slice (some ⟨b2, o2, none⟩) lb cb)) := ⟨d0, d1⟩
              generalize wr = W3 at *
              go_wp2_with fail
              clear d0 d1 d2
              go_loopw [41] (fun i wx => ∃ k : Nat, k ≤ 2 ∧ i = .int .i64 k ∧ Hid (Below W3.heap.size W3 wx) ∧ Hid ((0 < k → Lws lb (nat2 FA) (nat2 FB)) ∧ (1 < k → Lws lb (nat2 FB) (nat2 FA)))) (fun i _ => 2 - (intOf i).toNat)
              case atStart => exact ⟨0, Nat.zero_le _, rfl, Below.refl _ _, fun h => absurd h (Nat.lt_irrefl _), fun h => absurd h (by omega)⟩
              case round =>
                obtain ⟨k, hk, rfl, HX, HK⟩ := hrel
                have d0 := cell_step HX.out HD.out.1
                have d1 := cell_step HX.out HD.out.2
                rcases (by omega : k = 0 ∨ k = 1 ∨ k = 2) with rfl | rfl | rfl
                · go_wp2_with fail
                  refine (lawful_any lb b1 o1 ca b2 o2 cb _ _ (nat2 FA) (nat2 FB) _ (by omega) HI1.out HI2.out (HT1.out.step HX.out) (HT2.out.step HX.out)).mono ?_
                  rintro e w' ⟨⟨v, rfl, hv⟩, hbw⟩
                  have HX2 : Hid (Below W3.heap.size W3 w') := Below.then HX.out hbw
                  clear hbw HX
                  rcases v with _ | _
                  · have HN : Hid (LCk lb lb SA FA lb SB FB 4) := .inr ⟨⟨by omega, by omega⟩, .inr ⟨⟨HS1.out, HS2.out⟩, .inr ⟨HG.out, .inl ⟨rfl, fun h => by have := hv.2 h.1; cases this⟩⟩⟩⟩
                    clear hv HK
                    go_wp2_with fail
                    go_ret
                    exact ⟨⟨4, rfl, HN.out⟩, Below.then HB3.out HX2.out⟩
                  · have HN : Hid (Lws lb (nat2 FA) (nat2 FB)) := hv.1 rfl
                    clear hv HK
                    go_wp2_with fail
                    go_roundw
                    case rel => exact ⟨_, _, _, _, _, _, _, _, _, _, _, _, _, _, _, ⟨1, by omega, rfl, HX2.out, fun _ => HN.out, fun h => absurd h (by omega)⟩, rfl⟩
                    case measure => simp [intOf]
                · go_wp2_with fail
                  refine (lawful_any lb b2 o2 cb b1 o1 ca _ _ (nat2 FB) (nat2 FA) _ (by omega) HI2.out HI1.out (HT2.out.step HX.out) (HT1.out.step HX.out)).mono ?_
                  rintro e w' ⟨⟨v, rfl, hv⟩, hbw⟩
                  have HX2 : Hid (Below W3.heap.size W3 w') := Below.then HX.out hbw
                  have HK0 : Hid (Lws lb (nat2 FA) (nat2 FB)) := HK.out.1 (by omega)
                  clear hbw HX
                  rcases v with _ | _
                  · have HN : Hid (LCk lb lb SA FA lb SB FB 4) := .inr ⟨⟨by omega, by omega⟩, .inr ⟨⟨HS1.out, HS2.out⟩, .inr ⟨HG.out, .inl ⟨rfl, fun h => by have := hv.2 h.2; cases this⟩⟩⟩⟩
                    clear hv HK
                    go_wp2_with fail
                    go_ret
                    exact ⟨⟨4, rfl, HN.out⟩, Below.then HB3.out HX2.out⟩
                  · have HN : Hid (Lws lb (nat2 FB) (nat2 FA)) := hv.1 rfl
                    clear hv HK
                    go_wp2_with fail
                    go_roundw
                    case rel => exact ⟨_, _, _, _, _, _, _, _, _, _, _, _, _, _, _, ⟨2, by omega, rfl, HX2.out, fun _ => HK0.out, fun _ => HN.out⟩, rfl⟩
                    case measure => simp [intOf]
                · have HN : Hid (LCk lb lb SA FA lb SB FB 0) := .inr ⟨⟨by omega, by omega⟩, .inr ⟨⟨HS1.out, HS2.out⟩, .inr ⟨HG.out, .inr ⟨rfl, HK.out.1 (by omega), HK.out.2 (by omega)⟩⟩⟩⟩
                  clear HK
                  go_wp2_with fail
                  go_ret
                  exact ⟨⟨0, rfl, HN.out⟩, Below.then HB3.out HX.out⟩
end Go.Proofs.YthhnngmfbbljaaaGreat
namespace Go.Proofs.YthhnngmfbbljaaaGreat
set_option maxRecDepth 100000
open Go.RowKit

/-- What such a call must answer. -/
def LawPost (P : (Nat → Nat → Nat) → (Nat → Nat → Nat) → Nat → Nat → Nat → Bool) (n : Int) (la : Nat) (SA : Nat → Option Addr × Nat × Nat) (FA : Nat → Nat → Int) (lb : Nat) (SB : Nat → Option Addr × Nat × Nat) (FB : Nat → Nat → Int) (e : Ending) : Prop :=
  ∃ (c : Int) (v : Bool), LCk n la SA FA lb SB FB c ∧ e = .returned (.tuple #[.bool v, .int .i64 c]) ∧ ((c ≠ 0 ∧ v = false) ∨ (c = 0 ∧ (v = true ↔ All3 n.toNat (P (nat2 FA) (nat2 FB)))))

/-- A lattice in a variable. -/
def LB (w : World) (B : Nat) (n : Int) (a : Option Addr) (la ca : Nat) (b : Option Addr) (lb cb : Nat) : Prop :=
  w.cell? ⟨B, 0, none⟩ = some (.int .i64 n) ∧ w.cell? ⟨B, 1, none⟩ = some (.slice a la ca) ∧ w.cell? ⟨B, 2, none⟩ = some (.slice b lb cb)
theorem LB.step {w w' : World} {B : Nat} {n : Int} {a : Option Addr} {la ca : Nat} {b : Option Addr} {lb cb : Nat} (h : LB w B n a la ca b lb cb) (hb : Below w.heap.size w w') : LB w' B n a la ca b lb cb :=
  ⟨cell_step hb h.1, cell_step hb h.2.1, cell_step hb h.2.2⟩
theorem LB.new (w : World) (n : Int) (a : Option Addr) (la ca : Nat) (b : Option Addr) (lb cb : Nat) : LB (w.alloc (.cells #[.int .i64 n, .slice a la ca, .slice b lb cb] 27)) w.heap.size n a la ca b lb cb :=
  ⟨by simp, by simp, by simp⟩

end Go.Proofs.YthhnngmfbbljaaaGreat
