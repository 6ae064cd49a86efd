/-
  What extend.Nth answers. No condition but that a slice reads as a slice of numbers.
-/
import Derived.Test.YtipgojoiakbaiaaCounts
import Derived.Test.YtipgojoiakbaiaaNthM
namespace Go.Proofs.Ytipgojoiakbaiaa
open Go.RowKit

/-- The rows' box: what each point needs, and how they go on. -/
structure RHeld (w : World) (B : Nat) (ac : Option Addr) (cc b n : Nat) (u : Nat → Nat) : Prop where
  c0 : w.cell? ⟨B, 0, none⟩ = some (.slice ac n cc)
  c1 : w.cell? ⟨B, 1, none⟩ = some (.slice (some ⟨b, 0, none⟩) (pw n) (pw n))
  row : Row w ac n (fun k => (u k : Nat))
  tab : Tabl w b n 0 u
theorem RHeld.step {w w' : World} {B : Nat} {ac : Option Addr} {cc b n : Nat} {u : Nat → Nat} (h : RHeld w B ac cc b n u) (hb : Below w.heap.size w w') : RHeld w' B ac cc b n u :=
  ⟨(hb.cell (World.block_lt_of_cell? _ _ h.c0)).trans h.c0, (hb.cell (World.block_lt_of_cell? _ _ h.c1)).trans h.c1, h.row.below hb, h.tab.step hb⟩
theorem RHeld.box {w : World} {ac : Option Addr} {cc b n : Nat} {u : Nat → Nat} (hr : Row w ac n (fun k => (u k : Nat))) (ht : Tabl w b n 0 u) :
    RHeld (w.alloc (.cells #[.slice ac n cc, .slice (some ⟨b, 0, none⟩) (pw n) (pw n)] 73)) w.heap.size ac cc b n u :=
  ⟨by simp, by simp, hr.below ((Below.refl _ _).alloc (Nat.le_refl _) _), ht.step ((Below.refl _ _).alloc (Nat.le_refl _) _)⟩
theorem Tabl.up {w : World} {b n lo : Nat} {u : Nat → Nat} (h : Tabl w b n 0 u) : Tabl w b n lo u := fun s hs _ => h s hs (Nat.zero_le _)

def NthPost (n : Int) (len : Nat) (f : Nat → Int) (K : Int) (e : Ending) (w' : World) : Prop :=
  ∃ c : Int, Chk n len f c ∧ ((c ≠ 0 ∧ e = .returned (.tuple #[.slice none 0 0, .int .i64 c])) ∨
    (c = 0 ∧ ¬ (0 ≤ K ∧ K < (ways (nat f) len 0 : Nat)) ∧ e = .returned (.tuple #[.slice none 0 0, .int .i64 3])) ∨
    (c = 0 ∧ ∃ k : Nat, K = (k : Nat) ∧ k < ways (nat f) len 0 ∧ ∃ a cap, e = .returned (.tuple #[.slice a len cap, .int .i64 0]) ∧ Row w' a len (fun j => (nP (nat f) len k j : Nat))))

end Go.Proofs.Ytipgojoiakbaiaa
