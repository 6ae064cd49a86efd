/-
  What heyting.value answers of a list that is newer than the algebra. Conditions: slices read as slices of rows and of numbers, a value as a formula.
-/
import Derived.Test.YtddpeldchffidaaValP
import Derived.Test.YtddpeldchffidaaHeyP
import Derived.Test.YtddpeldchffidaaFmK
namespace Go.Proofs.Ytddpeldchffidaa
set_option maxRecDepth 100000
open Go.RowKit

theorem val_two {q : Nat} {m j : Nat → Nat → Nat} {f : Nat → Nat} {k x : Int} {l : Nat} {kid : Nat → FT} (hk : k = 3 ∨ k = 4 ∨ k = 5) : val q m j f (.mk k x l kid) = if k = 3 then m (val q m j f (kid 0)) (val q m j f (kid 1)) else if k = 4 then j (val q m j f (kid 0)) (val q m j f (kid 1)) else imp q m j (val q m j f (kid 0)) (val q m j f (kid 1)) := by
  rcases hk with rfl | rfl | rfl <;> simp [val]
theorem val_one {q : Nat} {m j : Nat → Nat → Nat} {f : Nat → Nat} {x : Int} {l : Nat} {kid : Nat → FT} : val q m j f (.mk 1 x l kid) = en m q := by simp [val]
theorem val_var {q : Nat} {m j : Nat → Nat → Nat} {f : Nat → Nat} {x : Nat} {l : Nat} {kid : Nat → FT} : val q m j f (.mk 2 (x : Nat) l kid) = f x := by simp [val]
theorem value_alg {w0 : World} {A n b off ca b' off' cb : Nat} {R R' : Nat → Nat × Nat × Nat} {m j : Nat → Nat → Nat} (B : Base w0 n b off b' off' R R' m j) (hA : A = w0.heap.size) {f : Nat → Nat} {c co cc : Nat}
    (hcA : c ≠ A) (hfq : ∀ i, i < 3 → f i < n) (T : FT) : ∀ v w, cf T = 0 → FRep w0 T v → St w0 A n b off ca b' off' cb (imp n m j) w → (∀ i, i < 3 → w.cell? ⟨c, co + i, none⟩ = some (.int .i64 (f i : Nat))) →
    Calls Try.prog 15 #[.iface 36 (.pointer (some ⟨A, 0, none⟩)), v, .slice (some ⟨c, co, none⟩) 3 cc] w fun e w' => e = .returned (.int .i64 (val n m j f T : Nat)) ∧ St w0 A n b off ca b' off' cb (imp n m j) w' ∧ But A w w' := by
  induction T using FT.ind with
  | leaf => exact fun _ _ _ h => h.elim
  | mk k x l kid ih =>
    intro v w hc hf hs hr
    obtain ⟨a, cap, rfl, hn, hk⟩ := hf
    have hstay : ∀ w', But A w w' → ∀ i, i < 3 → w'.cell? ⟨c, co + i, none⟩ = some (.int .i64 (f i : Nat)) := fun w' hb i hi => (hb.cell (p := ⟨c, co + i, none⟩) (World.block_lt_of_cell? _ _ (hr i hi)) hcA).trans (hr i hi)
    rcases cf_zero hc with ⟨rfl, rfl⟩ | ⟨rfl, rfl, hx1, hx2⟩ | ⟨hk3, rfl, a0, a1⟩
    · rw [val_one]; exact value_false B hA hs x a 0 cap _
    · obtain ⟨X, rfl⟩ : ∃ X : Nat, x = (X : Nat) := ⟨x.toNat, by omega⟩
      rw [val_var]
      exact value_variable hs X (by omega) a 0 cap c co cc (f X) (hr X (by omega))
    · obtain ⟨kb, ko, rfl, k0, x0, s0, l0, c0, ⟨g1, g2, g3⟩, g4⟩ := hk 0 (by omega)
      obtain ⟨kb', ko', e, k1, x1, s1, l1, c1, ⟨p1, p2, p3⟩, p4⟩ := hk 1 (by omega)
      cases e
      have hlt : kb < A := by rw [hA]; exact World.block_lt_of_cell? _ _ g1
      rw [val_two hk3]
      simp only [Nat.zero_mul, Nat.add_zero, Nat.one_mul] at g1 g2 g3 p1 p2 p3
      exact value_two B hA hs k x hk3 (val_lt B.lat B.h1 hfq _ a0) (val_lt B.lat B.h1 hfq _ a1) hlt ⟨⟨g1, g2⟩, g3⟩ ⟨⟨p1, by simpa [Nat.add_assoc] using p2⟩, by simpa [Nat.add_assoc] using p3⟩ (fun w' hw hb => ih 0 _ w' a0 g4 hw (hstay w' hb)) (fun w' hw hb => ih 1 _ w' a1 p4 hw (hstay w' hb))
theorem chk_cf {T : FT} (h : chkF T = 0) : cf T = 0 := by
  unfold chkF at h
  split at h
  · omega
  · exact h
/-- The two variables of a call. -/
def LF (w : World) (B : Nat) (L : LA) (k x : Int) (a : Option Addr) (l cap : Nat) : Prop := LB w B L.n L.a L.la L.ca L.b L.lb L.cb ∧ w.cell? ⟨B + 1, 0, none⟩ = some (.int .i64 k) ∧ w.cell? ⟨B + 1, 1, none⟩ = some (.int .i64 x) ∧ w.cell? ⟨B + 1, 2, none⟩ = some (.slice a l cap)
theorem LF.step {w w' : World} {B : Nat} {L : LA} {k x : Int} {a : Option Addr} {l cap : Nat} (h : LF w B L k x a l cap) (hb : Below w.heap.size w w') : LF w' B L k x a l cap := ⟨h.1.step hb, cell_step hb h.2.1, cell_step hb h.2.2.1, cell_step hb h.2.2.2⟩
end Go.Proofs.Ytddpeldchffidaa
