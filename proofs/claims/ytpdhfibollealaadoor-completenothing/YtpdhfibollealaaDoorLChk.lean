/-
  What lattice.Check answers, whatever it is handed. No condition but that slices read as slices of rows.
-/
import Derived.Test.YtpdhfibollealaaDoorLRows
namespace Go.Proofs.YtpdhfibollealaaDoor
open Go.RowKit

def nat2 (F : Nat → Nat → Int) (x y : Nat) : Nat := (F x y).toNat
/-- What Check must answer. -/
def LCk (n : Int) (la : Nat) (SA : Nat → Option Addr × Nat × Nat) (FA : Nat → Nat → Int) (lb : Nat) (SB : Nat → Option Addr × Nat × Nat) (FB : Nat → Nat → Int) (c : Int) : Prop :=
  (c = 2 ∧ ¬ (1 ≤ n ∧ n ≤ 40)) ∨ ((1 ≤ n ∧ n ≤ 40) ∧
    ((c = 1 ∧ ¬ (Sq n la SA ∧ Sq n lb SB)) ∨ ((Sq n la SA ∧ Sq n lb SB) ∧
      ((c = 3 ∧ ¬ (Rg n la SA FA ∧ Rg n lb SB FB)) ∨ ((Rg n la SA FA ∧ Rg n lb SB FB) ∧
        ((c = 4 ∧ ¬ (Lws n.toNat (nat2 FA) (nat2 FB) ∧ Lws n.toNat (nat2 FB) (nat2 FA))) ∨ (c = 0 ∧ (Lws n.toNat (nat2 FA) (nat2 FB) ∧ Lws n.toNat (nat2 FB) (nat2 FA)))))))))
theorem LCk.one {n : Int} {la : Nat} {SA : Nat → Option Addr × Nat × Nat} {FA : Nat → Nat → Int} {lb : Nat} {SB : Nat → Option Addr × Nat × Nat} {FB : Nat → Nat → Int} {c d : Int} (h : LCk n la SA FA lb SB FB c) (h' : LCk n la SA FA lb SB FB d) : c = d := by
  rcases h with ⟨rfl, h⟩ | ⟨h1, ⟨rfl, h⟩ | ⟨h2, ⟨rfl, h⟩ | ⟨h3, ⟨rfl, h⟩ | ⟨rfl, h⟩⟩⟩⟩ <;> rcases h' with ⟨rfl, h'⟩ | ⟨h1', ⟨rfl, h'⟩ | ⟨h2', ⟨rfl, h'⟩ | ⟨h3', ⟨rfl, h'⟩ | ⟨rfl, h'⟩⟩⟩⟩ <;> first | rfl | exact absurd (by assumption) h | exact absurd (by assumption) h'
/-- Where a row begins. -/
def rAt (s : Option Addr × Nat × Nat) : Nat × Nat × Nat := match s.1 with | some p => (p.block, p.off, s.2.2) | none => (0, 0, s.2.2)
theorem RR.tb {w : World} {a : Option Addr} {q : Nat} {S : Nat → Option Addr × Nat × Nat} {F : Nat → Nat → Int} (h : RR w a q S F) (hq : 1 ≤ q) (hs : Sq (q : Int) q S) (hg : Rg (q : Int) q S F) :
    ∃ b off, a = some ⟨b, off, none⟩ ∧ Tb w b off q (fun x => rAt (S x)) (nat2 F) ∧ Inn q (nat2 F) := by
  obtain ⟨b, off, rfl, _⟩ := h 0 (by omega)
  refine ⟨b, off, rfl, fun x hx => ?_, fun x y hx hy => ?_⟩
  · obtain ⟨b1, off1, e, hc, _, hr⟩ := h x hx
    cases e
    have hl : (S x).2.1 = q := by have := hs.2 x hx; omega
    obtain ⟨b2, off2, e2, _⟩ := hr 0 (by omega)
    refine ⟨?_, fun y hy => ?_⟩
    · rw [hc, hl]; simp only [rAt, e2]
    · obtain ⟨b3, off3, e3, hc3⟩ := hr y (by omega)
      have := hg x hx y (by omega)
      have e4 : F x y = ((nat2 F x y : Nat) : Int) := by unfold nat2; omega
      rw [e4] at hc3
      rw [e3] at e2
      simp only [rAt, e3]; exact hc3
  · have hl : (S x).2.1 = q := by have := hs.2 x hx; omega
    have := hg x hx y (by omega)
    unfold nat2; omega
theorem LCk.good {n : Int} {la : Nat} {SA : Nat → Option Addr × Nat × Nat} {FA : Nat → Nat → Int} {lb : Nat} {SB : Nat → Option Addr × Nat × Nat} {FB : Nat → Nat → Int} (h : LCk n la SA FA lb SB FB 0) :
    ∃ q : Nat, n = q ∧ 1 ≤ q ∧ q ≤ 40 ∧ la = q ∧ lb = q ∧ Sq (q : Int) q SA ∧ Sq (q : Int) q SB ∧ Rg (q : Int) q SA FA ∧ Rg (q : Int) q SB FB ∧ Lat q (nat2 FA) (nat2 FB) := by
  rcases h with ⟨h, _⟩ | ⟨h1, ⟨h, _⟩ | ⟨h2, ⟨h, _⟩ | ⟨h3, ⟨h, _⟩ | ⟨_, h⟩⟩⟩⟩
  · omega
  · omega
  · omega
  · omega
  obtain ⟨q, rfl⟩ := Int.eq_ofNat_of_zero_le (show 0 ≤ n by omega)
  have e1 : la = q := by have := h2.1.1; omega
  have e2 : lb = q := by have := h2.2.1; omega
  subst e1; subst e2
  have hin : ∀ {S : Nat → Option Addr × Nat × Nat} {F : Nat → Nat → Int}, Sq (lb : Int) lb S → Rg (lb : Int) lb S F → Inn lb (nat2 F) := fun {S F} hs hg x y hx hy => by
    have hl : (S x).2.1 = lb := by have := hs.2 x hx; omega
    have := hg x hx y (by omega)
    unfold nat2; omega
  exact ⟨lb, rfl, by omega, by omega, rfl, rfl, h2.1, h2.2, h3.1, h3.2, ⟨hin h2.1 h3.1, hin h2.2 h3.2, h.1, h.2⟩⟩

theorem index2_0 (A B : Value) (w : World) : Sem.run Tryd.prog (Instr.index 50 (.agg #[A, B]) (.int .i64 0)) w = .ok A w := by
  simp [go_sem, Instr.index]
theorem index2_1 (A B : Value) (w : World) : Sem.run Tryd.prog (Instr.index 50 (.agg #[A, B]) (.int .i64 1)) w = .ok B w := by
  simp [go_sem, Instr.index]

end Go.Proofs.YtpdhfibollealaaDoor
