/-
  What hasselaw.not answers: a formula that says no. Conditions: a formula lies there.
-/
import Derived.Test.YtfkkjebgccnlnaaVldP
import Derived.Test.YtfkkjebgccnlnaaHBeg
import Derived.Test.YtfkkjebgccnlnaaGliM
namespace Go.Proofs.Ytfkkjebgccnlnaa
set_option maxRecDepth 100000
open Go.RowKit

theorem FRep.full {w : World} (T : FT) : ∀ v, FRep w T v → Full T := by
  induction T using FT.ind with
  | leaf => exact fun _ h => h.elim
  | mk k x n kid ih =>
    rintro v ⟨a, cap, _, _, h⟩ i hi
    obtain ⟨_, _, _, _, _, _, _, _, _, hr⟩ := h i hi
    exact ih i _ hr
def fF : FT := .mk 1 0 0 (fun _ => .leaf)
/-- Not a formula. -/
def nF (T : FT) : FT := .mk 5 0 2 (fun i => if i = 0 then T else fF)
theorem nF_cf {T : FT} (h : cf T = 0) : cf (nF T) = 0 := by
  unfold nF
  rw [cf_eq]
  simp [cfK, foldI, h, fF, cf]
theorem nF_val {q : Nat} {m j : Nat → Nat → Nat} {f : Nat → Nat} (T : FT) : val q m j f (nF T) = imp q m j (val q m j f T) (en m q) := by simp [nF, val, fF]
theorem nF_rep {w : World} {T : FT} {b : Nat} {k x : Int} {a : Option Addr} {l c : Nat} (hf : FRep w T (.agg #[.int .i64 k, .int .i64 x, .slice a l c]))
    (h0 : w.cell? ⟨b, 0, none⟩ = some (.int .i64 k)) (h1 : w.cell? ⟨b, 1, none⟩ = some (.int .i64 x)) (h2 : w.cell? ⟨b, 2, none⟩ = some (.slice a l c)) (h3 : w.cell? ⟨b, 3, none⟩ = some (.int .i64 1)) (h4 : w.cell? ⟨b, 4, none⟩ = some (.int .i64 0)) (h5 : w.cell? ⟨b, 5, none⟩ = some (.slice none 0 0)) :
    FRep w (nF T) (.agg #[.int .i64 5, .int .i64 0, .slice (some ⟨b, 0, none⟩) 2 2]) := by
  refine ⟨some ⟨b, 0, none⟩, 2, rfl, by unfold maxLen; omega, fun i hi => ⟨b, 0, rfl, ?_⟩⟩
  rcases (by omega : i = 0 ∨ i = 1) with rfl | rfl
  · exact ⟨k, x, a, l, c, ⟨by simpa using h0, by simpa using h1, by simpa using h2⟩, hf⟩
  · exact ⟨1, 0, none, 0, 0, ⟨h3, h4, h5⟩, ⟨none, 0, rfl, by unfold maxLen; omega, fun i hi => absurd hi (Nat.not_lt_zero _)⟩⟩
def notW (w : World) (k x : Int) (a : Option Addr) (l cap : Nat) : World :=
  ((w.alloc (.cells #[.int .i64 k, .int .i64 x, .slice a l cap] 27)).alloc (.cells #[.int .i64 5, .int .i64 0, .slice (some ⟨w.heap.size + 1 + 1, 0, none⟩) 2 2] 27)).alloc
    (.cells #[.int .i64 k, .int .i64 x, .slice a l cap, .int .i64 1, .int .i64 0, .slice none 0 0] 27)
set_option maxHeartbeats 2000000 in
theorem not_any (T : FT) (v : Value) (w : World) (hf : FRep w T v) : Calls Try.prog 7 #[v] w fun e w' => (∃ x, e = .returned x ∧ FRep w' (nF T) x) ∧ Below w.heap.size w w' := by
  obtain ⟨k, x, a, l, cap, rfl⟩ := hf.form
  have hb : Below w.heap.size w (notW w k x a l cap) := by
    unfold notW
    refine ((((Below.refl _ _).alloc (Nat.le_refl _) _).alloc ?_ _).alloc ?_ _) <;> simp <;> omega
  have HB : Hid (Below w.heap.size w (notW w k x a l cap)) := hb
  have HP : Hid (FRep (notW w k x a l cap) (nF T) (.agg #[.int .i64 5, .int .i64 0, .slice (some ⟨w.heap.size + 1 + 1, 0, none⟩) 2 2])) :=
    nF_rep (FRep.step hb _ _ hf) (by simp [notW, go_sem]) (by simp [notW, go_sem]) (by simp [notW, go_sem]) (by simp [notW, go_sem]) (by simp [notW, go_sem]) (by simp [notW, go_sem])
  clear hf hb
  go_enter Try.func7, Try.ntmps7
  go_wp2_with fail
  exact bodyPost_ret (v := .agg #[.int .i64 5, .int .i64 0, .slice (some ⟨w.heap.size + 1 + 1, 0, none⟩) 2 2]) (by simp [results, Try.results7, go_sem]) rfl ⟨⟨_, rfl, HP.out⟩, HB.out⟩
end Go.Proofs.Ytfkkjebgccnlnaa
