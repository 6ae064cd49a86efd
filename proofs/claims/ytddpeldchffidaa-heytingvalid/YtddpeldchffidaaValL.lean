/-
  What the reference's ValueOf answers. Conditions: as the theorem says.
-/
import Derived.Test.YtddpeldchffidaaValV
import Derived.Test.YtddpeldchffidaaValR
import Derived.Test.YtddpeldchffidaaHBeg
namespace Go.Proofs.Ytddpeldchffidaa
set_option maxRecDepth 100000
open Go.RowKit

theorem valueOf_any {w : World} {n b off ca b' off' cb : Nat} {R R' : Nat → Nat × Nat × Nat} {m j : Nat → Nat → Nat} (h1 : 1 ≤ n) (h40 : n ≤ 40) (hl : Lat n m j) (hd : All3 n (disB m j)) (htm : Tb w b off n R m) (htj : Tb w b' off' n R' j) {f : Nat → Nat} {c co cc : Nat}
    (hr : ∀ i, i < 3 → w.cell? ⟨c, co + i, none⟩ = some (.int .i64 (f i : Nat))) (hfq : ∀ i, i < 3 → f i < n) (T : FT) : ∀ v w', cf T = 0 → FRep w T v → Below w.heap.size w w' →
    Calls Try.prog 26 #[.agg #[.int .i64 (n : Nat), .slice (some ⟨b, off, none⟩) n ca, .slice (some ⟨b', off', none⟩) n cb], v, .slice (some ⟨c, co, none⟩) 3 cc] w' fun e w'' => e = .returned (.int .i64 (val n m j f T : Nat)) ∧ Below w'.heap.size w' w'' := by
  induction T using FT.ind with
  | leaf => exact fun _ _ _ h => h.elim
  | mk k x l kid ih =>
    intro v w' hc hf hb
    obtain ⟨a, cap, rfl, hn, hk⟩ := hf
    rcases cf_zero hc with ⟨rfl, rfl⟩ | ⟨rfl, rfl, hx1, hx2⟩ | ⟨hk3, rfl, a0, a1⟩
    · rw [val_one]; exact rvalue_false h1 h40 hl (htm.step hb) x a 0 cap _
    · obtain ⟨X, rfl⟩ : ∃ X : Nat, x = (X : Nat) := ⟨x.toNat, by omega⟩
      rw [val_var]
      exact rvalue_var X (by omega) a 0 cap c co cc (f X) (cell_step hb (hr X (by omega)))
    · obtain ⟨kb, ko, rfl, k0, x0, s0, l0, c0, ⟨g1, g2, g3⟩, g4⟩ := hk 0 (by omega)
      obtain ⟨kb', ko', e, k1, x1, s1, l1, c1, ⟨p1, p2, p3⟩, p4⟩ := hk 1 (by omega)
      cases e
      rw [val_two hk3]
      simp only [Nat.zero_mul, Nat.add_zero, Nat.one_mul] at g1 g2 g3 p1 p2 p3
      rw [Nat.add_assoc] at p2 p3
      exact rvalue_two h1 h40 hl hd (htm.step hb) (htj.step hb) k x hk3 (val_lt hl h1 hfq _ a0) (val_lt hl h1 hfq _ a1) ⟨⟨cell_step hb g1, cell_step hb g2⟩, cell_step hb g3⟩ ⟨⟨cell_step hb p1, cell_step hb p2⟩, cell_step hb p3⟩ (fun w'' hw => ih 0 _ w'' a0 g4 (Below.then hb hw)) (fun w'' hw => ih 1 _ w'' a1 p4 (Below.then hb hw))
end Go.Proofs.Ytddpeldchffidaa
