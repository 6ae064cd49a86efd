/-
  What the reference's Upto answers, and the closure Tables$1 that asks it. Conditions: an order of at most ten points.
-/
import Derived.Test.YtjcinkippaknnaaDoorLatO
import Derived.Test.YtjcinkippaknnaaDoorRefCheck
namespace Go.Proofs.YtjcinkippaknnaaDoor
open Go.RowKit

/-- Is i the point j, or below it? -/
def upB (g : Nat → Nat) (i j : Nat) : Bool := decide (i = j) || (g j).testBit i
theorem upB_iff {g : Nat → Nat} {i j : Nat} : upB g i j = true ↔ leO g i j := by
  unfold upB
  rw [leO_iff, Bool.or_eq_true, decide_eq_true_iff]
  constructor
  · rintro (h | h)
    · exact .inr h.symm
    · exact .inl h
  · rintro (h | h)
    · exact .inr h
    · exact .inl h.symm
set_option maxHeartbeats 1000000 in
theorem upto_any (n : Int) (a : Option Addr) (len cap : Nat) (g : Nat → Nat) (i j : Nat) (w : World) (v : Bool) (hv : upB g i j = v) (hl : len ≤ 10) (hg : ∀ k, k < len → g k < 1024) (hr : Row w a len (fun k => (g k : Nat))) (hi : i < 63) (hj : j < len) :
    Calls Tryd.prog 39 #[.agg #[.int .i64 n, .slice a len cap], .int .i64 i, .int .i64 j] w fun e w' => e = .returned (.bool v) ∧ Below w.heap.size w w' := by
  have HG : Hid (∀ k, k < len → g k < 1024) := hg
  have HR : Hid (Row w a len (fun k => (g k : Nat))) := hr
  clear hg hr
  by_cases hij : i = j
  · subst hij
    have hvt : v = true := by rw [← hv]; simp [upB]
    subst hvt
    clear hv
    go_enter Tryd.func39, Tryd.ntmps39
    go_wp2_with fail
    go_ret
    exact ⟨rfl, (Below.refl _ _).alloc (Nat.le_refl _) _⟩
  · have hne : ((i : Int) == (j : Int)) = false := by simp; omega
    have HV : Hid ((g j).testBit i = v) := by
      have e : upB g i j = (g j).testBit i := by simp [upB, hij]
      exact e.symm.trans hv
    clear hv
    go_enter Tryd.func39, Tryd.ntmps39
    go_wp2_with fail
    refine (less_any n a len cap g i j _ hl HG.out (HR.out.below ((Below.refl _ _).alloc (Nat.le_refl _) _)) hi hj).mono ?_
    rintro e w1 ⟨rfl, hb⟩
    rw [HV.out]
    have HB : Hid (Below w.heap.size w w1) := Below.then ((Below.refl _ _).alloc (Nat.le_refl _) _) hb
    clear hb
    go_wp2_with fail
    go_ret
    exact ⟨rfl, HB.out⟩

/-- A closure that answers P of two numbers below n, wherever what lay at first still lies. -/
def Clo2 (n F : Nat) (caps : Array Value) (P : Nat → Nat → Bool) (w : World) : Prop :=
  ∀ x y : Nat, x < n → y < n → ∀ W : World, Below w.heap.size w W → Calls Tryd.prog F (#[.int .i64 (x : Nat), .int .i64 (y : Nat)] ++ caps) W fun e w' => e = .returned (.bool (P x y)) ∧ Below W.heap.size W w'
theorem ent_tab1 : Ent 38 := fun _ _ => rfl
theorem tab1_any (n B : Nat) (a : Option Addr) (cap : Nat) (g : Nat → Nat) (w : World) (h10 : n ≤ 10) (hg : ∀ k, k < n → g k < 1024) (hH : Held w B (n : Int) a n cap (fun k => (g k : Nat))) :
    Clo2 n 38 #[.pointer (some ⟨B, 0, none⟩)] (upB g) w := fun x y hx hy W hW => by
  show Calls Tryd.prog 38 #[.int .i64 (x : Nat), .int .i64 (y : Nat), .pointer (some ⟨B, 0, none⟩)] W _
  have H1 := hH.step hW
  have k0 := H1.c0
  have k1 := H1.c1
  have HU := upto_any (n : Int) a n cap g x y W (upB g x y) rfl h10 hg H1.row (by omega) hy
  clear hW hH hg
  go_enter Tryd.func38, Tryd.ntmps38
  go_wp2_with fail
  refine HU.mono ?_
  rintro e w1 ⟨rfl, hb⟩
  have HB : Hid (Below W.heap.size W w1) := hb
  clear hb HU k0 k1 H1
  go_wp2_with fail
  go_ret
  exact ⟨rfl, HB.out⟩
/-- The reference's search: is z below x and y, and are all such up to z, as far as k? -/
def loB (P : Nat → Nat → Bool) (x y z : Nat) : Nat → Bool
  | 0 => P z x && P z y
  | k + 1 => loB P x y z k && (!P k x || (!P k y || P k z))
def hgB (P : Nat → Nat → Bool) (x y z : Nat) : Nat → Bool
  | 0 => P x z && P y z
  | k + 1 => hgB P x y z k && (!P x k || (!P y k || P z k))
theorem loB_iff {P : Nat → Nat → Bool} {x y z : Nat} : ∀ k, loB P x y z k = true ↔ (P z x = true ∧ P z y = true) ∧ ∀ w, w < k → P w x = true → P w y = true → P w z = true
  | 0 => by
    unfold loB
    rw [Bool.and_eq_true]
    exact ⟨fun h => ⟨h, fun w hw => absurd hw (Nat.not_lt_zero _)⟩, fun h => h.1⟩
  | k + 1 => by
    unfold loB
    rw [Bool.and_eq_true, loB_iff k]
    constructor
    · rintro ⟨⟨h1, h2⟩, h3⟩
      refine ⟨h1, fun w hw a b => ?_⟩
      by_cases e : w = k
      · subst e; simpa [a, b] using h3
      · exact h2 w (by omega) a b
    · rintro ⟨h1, h2⟩
      refine ⟨⟨h1, fun w hw => h2 w (by omega)⟩, ?_⟩
      cases a : P k x
      · rfl
      · cases b : P k y
        · rfl
        · simp [h2 k (by omega) a b]
theorem hgB_is (P : Nat → Nat → Bool) (x y z : Nat) : ∀ k, hgB P x y z k = loB (fun a b => P b a) x y z k
  | 0 => rfl
  | k + 1 => by unfold hgB loB; rw [hgB_is P x y z k]
/-- The search finds the meet. -/
theorem lo_mt {n : Nat} {g : Nat → Nat} (hg : Sm n n g) {x y z : Nat} (hx : x < n) : loB (upB g) x y z n = true ↔ Mt g x y z := by
  rw [loB_iff, mt_iff, upB_iff, upB_iff]
  constructor
  · rintro ⟨h1, h2⟩
    exact ⟨h1, fun k a b => upB_iff.1 (h2 k (leO_lt hg hx a) (upB_iff.2 a) (upB_iff.2 b))⟩
  · rintro ⟨h1, h2⟩
    exact ⟨h1, fun k _ a b => upB_iff.2 (h2 k (upB_iff.1 a) (upB_iff.1 b))⟩
theorem hg_mt {n : Nat} {g : Nat → Nat} {x y z : Nat} (hx : x < n) (hz : z < n) : hgB (upB g) x y z n = true ↔ Mt (trn g n) x y z := by
  rw [hgB_is, loB_iff, mt_iff]
  constructor
  · rintro ⟨⟨h1, h2⟩, h3⟩
    refine ⟨⟨(leO_dual hz).2 (upB_iff.1 h1), (leO_dual hz).2 (upB_iff.1 h2)⟩, fun k a b => ?_⟩
    have hk := leO_lt (trn_sm g n) hx a
    exact (leO_dual hk).2 (upB_iff.1 (h3 k hk (upB_iff.2 ((leO_dual hk).1 a)) (upB_iff.2 ((leO_dual hk).1 b))))
  · rintro ⟨⟨h1, h2⟩, h3⟩
    refine ⟨⟨upB_iff.2 ((leO_dual hz).1 h1), upB_iff.2 ((leO_dual hz).1 h2)⟩, fun k hk a b => ?_⟩
    exact upB_iff.2 ((leO_dual hk).1 (h3 k ((leO_dual hk).2 (upB_iff.1 a)) ((leO_dual hk).2 (upB_iff.1 b))))
end Go.Proofs.YtjcinkippaknnaaDoor
