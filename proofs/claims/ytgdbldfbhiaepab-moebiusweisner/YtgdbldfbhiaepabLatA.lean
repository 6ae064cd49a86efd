/-
  Lattices as they come in, one name each; who is below whom in a lattice. No condition.
-/
import Derived.Test.YtgdbldfbhiaepabLaws
import Derived.Test.YtgdbldfbhiaepabChainsM
import Derived.Test.YtgdbldfbhiaepabMuM
namespace Go.Proofs.Ytgdbldfbhiaepab
open Go.RowKit

/-- A lattice as it comes in. -/
structure LA where
  n : Int
  a : Option Addr
  la : Nat
  ca : Nat
  SA : Nat → Option Addr × Nat × Nat
  FA : Nat → Nat → Int
  b : Option Addr
  lb : Nat
  cb : Nat
  SB : Nat → Option Addr × Nat × Nat
  FB : Nat → Nat → Int
def LA.v (L : LA) : Value := .agg #[.int .i64 L.n, .slice L.a L.la L.ca, .slice L.b L.lb L.cb]
def LA.In (L : LA) (w : World) : Prop := L.la ≤ maxLen ∧ L.lb ≤ maxLen ∧ RR w L.a L.la L.SA L.FA ∧ RR w L.b L.lb L.SB L.FB
theorem LA.In.step {L : LA} {w w' : World} (h : L.In w) (hb : Below w.heap.size w w') : L.In w' := ⟨h.1, h.2.1, h.2.2.1.below hb, h.2.2.2.below hb⟩
def LA.Ck (L : LA) (c : Int) : Prop := LCk L.n L.la L.SA L.FA L.lb L.SB L.FB c
def LA.q (L : LA) : Nat := L.n.toNat
def LA.m (L : LA) : Nat → Nat → Nat := nat2 L.FA
def LA.j (L : LA) : Nat → Nat → Nat := nat2 L.FB
theorem LCk.open {n : Int} {la : Nat} {SA : Nat → Option Addr × Nat × Nat} {FA : Nat → Nat → Int} {lb : Nat} {SB : Nat → Option Addr × Nat × Nat} {FB : Nat → Nat → Int} {a b : Option Addr} {w : World} (hc : LCk n la SA FA lb SB FB 0) (hra : RR w a la SA FA) (hrb : RR w b lb SB FB) :
    ∃ q b1 o1 b2 o2 : Nat, n = (q : Nat) ∧ a = some ⟨b1, o1, none⟩ ∧ q = la ∧ b = some ⟨b2, o2, none⟩ ∧ q = lb ∧ 1 ≤ q ∧ q ≤ 40 ∧ Lat q (nat2 FA) (nat2 FB) ∧ Tb w b1 o1 q (fun x => rAt (SA x)) (nat2 FA) ∧ Tb w b2 o2 q (fun x => rAt (SB x)) (nat2 FB) := by
  obtain ⟨q, rfl, h1, h40, rfl, rfl, hs1, hs2, hg1, hg2, hlat⟩ := hc.good
  obtain ⟨b1, o1, rfl, ht1, _⟩ := hra.tb h1 hs1 hg1
  obtain ⟨b2, o2, rfl, ht2, _⟩ := hrb.tb h1 hs2 hg2
  exact ⟨_, b1, o1, b2, o2, rfl, rfl, rfl, rfl, rfl, h1, h40, hlat, ht1, ht2⟩

/-- Is x below y in a lattice? -/
def sB (m : Nat → Nat → Nat) (x y : Nat) : Bool := !(x == y) && m x y == x
theorem sB_iff (m : Nat → Nat → Nat) (x y : Nat) : sB m x y = true ↔ x ≠ y ∧ m x y = x := by simp [sB]
theorem Lat.trans {n : Nat} {m j : Nat → Nat → Nat} (h : Lat n m j) {x y z : Nat} (hx : x < n) (hy : y < n) (hz : z < n) (h1 : m x y = x) (h2 : m y z = y) : m x z = x := by
  have := h.al.trans (x := ⟨x, hx⟩) (y := ⟨y, hy⟩) (z := ⟨z, hz⟩) (Fin.ext h1) (Fin.ext h2)
  exact congrArg Fin.val this
theorem Lat.anti {n : Nat} {m j : Nat → Nat → Nat} (h : Lat n m j) {x y : Nat} (hx : x < n) (hy : y < n) (h1 : m x y = x) (h2 : m y x = y) : x = y := by
  have := h.al.anti (x := ⟨x, hx⟩) (y := ⟨y, hy⟩) (Fin.ext h1) (Fin.ext h2)
  exact congrArg Fin.val this
theorem Lat.tr {n : Nat} {m j : Nat → Nat → Nat} (h : Lat n m j) : Tr (sB m) n := fun a b c ha hb hc h1 h2 => by
  rw [sB_iff] at *
  have h3 := h.trans ha hb hc h1.2 h2.2
  refine ⟨fun e => ?_, h3⟩
  subst e
  exact h1.1 (h.anti ha hb h1.2 h2.2)
/-- How many are below. -/
def rkC (B : Nat → Nat → Bool) (n x : Nat) : Nat := sumTo (fun l => ind (B l x)) n
theorem rkC_lt {B : Nat → Nat → Bool} {n : Nat} (ht : Tr B n) (hi : ∀ x, x < n → B x x = false) : Rk B n (rkC B n) := fun l x hl hx h => by
  unfold rkC
  have key : ∀ k, k ≤ n → sumTo (fun y => ind (B y l)) k + (if l < k then 1 else 0) ≤ sumTo (fun y => ind (B y x)) k := fun k => by
    induction k with
    | zero => intro _; simp [sumTo]
    | succ k ih =>
      intro hk
      have h1 := ih (by omega)
      rw [sumTo, sumTo]
      by_cases e : l = k
      · subst e
        rw [hi l hl, h]
        simp [ind] at *
        omega
      · have h2 : ind (B k l) ≤ ind (B k x) := by
          cases hkl : B k l
          · simp [ind]
          · rw [ht k l x (by omega) hl hx hkl h]; exact Nat.le_refl _
        have e3 : (if l < k + 1 then 1 else 0) = (if l < k then 1 else 0) := by
          by_cases hlk : l < k
          · rw [if_pos hlk, if_pos (by omega)]
          · rw [if_neg hlk, if_neg (by omega)]
        rw [e3]; omega
  have := key n (Nat.le_refl _)
  rw [if_pos hl] at this
  omega
theorem rkC_le (B : Nat → Nat → Bool) (n x : Nat) : rkC B n x ≤ n := ind_sum_le _ n
theorem rkC_small {B : Nat → Nat → Bool} {n x : Nat} (hx : x < n) (h : B x x = false) : rkC B n x < n := by
  unfold rkC
  have key : ∀ k, sumTo (fun l => ind (B l x)) k + (if x < k then 1 else 0) ≤ k := fun k => by
    induction k with
    | zero => simp [sumTo]
    | succ k ih =>
      rw [sumTo]
      by_cases e : x = k
      · subst e
        rw [h]
        simp [ind] at *
        omega
      · have h2 := ind_le (B k x)
        have e3 : (if x < k + 1 then 1 else 0) = (if x < k then 1 else 0) := by
          by_cases hlk : x < k
          · rw [if_pos hlk, if_pos (by omega)]
          · rw [if_neg hlk, if_neg (by omega)]
        rw [e3]; omega
  have := key n
  rw [if_pos hx] at this
  omega
theorem sB_irr (m : Nat → Nat → Nat) (x : Nat) : sB m x x = false := by simp [sB]
theorem Lat.rk {n : Nat} {m j : Nat → Nat → Nat} (h : Lat n m j) : Rk (sB m) n (rkC (sB m) n) := rkC_lt h.tr fun x _ => sB_irr m x
/-- Mu of two elements. -/
def muL (m : Nat → Nat → Nat) (n a b : Nat) : Int := mu1 (sB m) n (rkC (sB m) n) a b
end Go.Proofs.Ytgdbldfbhiaepab
