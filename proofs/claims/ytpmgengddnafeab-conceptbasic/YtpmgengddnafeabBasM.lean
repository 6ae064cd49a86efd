/-
  The concepts' places with what two have in common and what they close to together are a lattice. Conditions: as each theorem says.
-/
import Derived.Test.YtpmgengddnafeabConT
import Derived.Test.YtpmgengddnafeabTriM
namespace Go.Proofs.Ytpmgengddnafeab

theorem Closing.or {n : Nat} {C : Nat → Nat} (hC : Closing n C) {a b : Nat} (ha : a < pw n) (hb : b < pw n) : C (a ||| C b) = C (a ||| b) := by
  obtain ⟨h1, h2⟩ := hC
  have hCb := (h1 b hb).1
  have hab : a ||| b < pw n := Nat.or_lt_two_pow ha hb
  have haC : a ||| C b < pw n := Nat.or_lt_two_pow ha hCb
  apply Nat.eq_of_testBit_eq
  intro i
  rw [Bool.eq_iff_iff]
  constructor
  · refine h2 _ _ haC (h1 _ hab).1 (h1 _ hab).2.2 (fun j hj => ?_) i
    rw [Nat.testBit_or, Bool.or_eq_true] at hj
    rcases hj with hj | hj
    · exact (h1 _ hab).2.1 j (by rw [Nat.testBit_or, hj]; rfl)
    · exact h2 b _ hb (h1 _ hab).1 (h1 _ hab).2.2 (fun k hk => (h1 _ hab).2.1 k (by rw [Nat.testBit_or, hk, Bool.or_true])) j hj
  · refine h2 _ _ hab (h1 _ haC).1 (h1 _ haC).2.2 (fun j hj => ?_) i
    rw [Nat.testBit_or, Bool.or_eq_true] at hj
    rcases hj with hj | hj
    · exact (h1 _ haC).2.1 j (by rw [Nat.testBit_or, hj]; rfl)
    · exact (h1 _ haC).2.1 j (by rw [Nat.testBit_or, (h1 b hb).2.1 j hj, Bool.or_true])
theorem or_self' (a : Nat) : a ||| a = a := by apply Nat.eq_of_testBit_eq; intro i; rw [Nat.testBit_or, Bool.or_self]
theorem and_self' (a : Nat) : a &&& a = a := by apply Nat.eq_of_testBit_eq; intro i; rw [Nat.testBit_and, Bool.and_self]
theorem or_and_abs (a b : Nat) : a ||| (a &&& b) = a := by apply Nat.eq_of_testBit_eq; intro i; rw [Nat.testBit_or, Nat.testBit_and]; cases a.testBit i <;> simp

variable {h : Nat → Nat} {n m : Nat}
theorem con_lat (h10 : n ≤ 10) (m10 : m ≤ 10) (hh : ∀ k, k < n → h k < 1024) : Lat (tsets h n m).length (cnm h n m) (cnj h n m) := by
  have hr := tsets_rises h n m
  have hC := clt_closing (m := m) h10 m10 hh
  have hm := fun x y hx hy => cnm_is (x := x) (y := y) (m := m) h10 m10 hh hx hy
  have hj := fun x y hx hy => cnj_is (x := x) (y := y) (m := m) h10 m10 hh hx hy
  have hb : ∀ x, x < (tsets h n m).length → nth (tsets h n m) x < pw n := fun x hx => (tsets_at hx).1
  have hcl : ∀ x, x < (tsets h n m).length → clt h n m (nth (tsets h n m) x) = nth (tsets h n m) x := fun x hx => (tsets_at hx).2
  refine ⟨fun x y hx hy => (hm x y hx hy).1, fun x y hx hy => (hj x y hx hy).1, lws_iff.2 fun x y z hx hy hz => ⟨?_, ?_, ?_, ?_⟩, lws_iff.2 fun x y z hx hy hz => ⟨?_, ?_, ?_, ?_⟩⟩
  · refine hr.one (hm x x hx hx).1 hx ?_
    rw [(hm x x hx hx).2, and_self']
  · refine hr.one (hm x y hx hy).1 (hm y x hy hx).1 ?_
    rw [(hm x y hx hy).2, (hm y x hy hx).2, Nat.and_comm]
  · have h1 := hm y z hy hz
    have h2 := hm x y hx hy
    refine hr.one (hm x _ hx h1.1).1 (hm _ z h2.1 hz).1 ?_
    rw [(hm x _ hx h1.1).2, (hm _ z h2.1 hz).2, h1.2, h2.2, Nat.and_assoc]
  · have h1 := hj x y hx hy
    refine hr.one (hm x _ hx h1.1).1 hx ?_
    rw [(hm x _ hx h1.1).2, h1.2]
    apply Nat.eq_of_testBit_eq
    intro i
    rw [Nat.testBit_and]
    cases e : (nth (tsets h n m) x).testBit i
    · rfl
    · rw [(hC.1 _ (tor_lt hx hy)).2.1 i (by rw [Nat.testBit_or, e]; rfl)]; rfl
  · refine hr.one (hj x x hx hx).1 hx ?_
    rw [(hj x x hx hx).2, or_self', hcl x hx]
  · refine hr.one (hj x y hx hy).1 (hj y x hy hx).1 ?_
    rw [(hj x y hx hy).2, (hj y x hy hx).2, Nat.or_comm]
  · have h1 := hj y z hy hz
    have h2 := hj x y hx hy
    refine hr.one (hj x _ hx h1.1).1 (hj _ z h2.1 hz).1 ?_
    rw [(hj x _ hx h1.1).2, (hj _ z h2.1 hz).2, h1.2, h2.2, hC.or (hb x hx) (tor_lt hy hz), Nat.or_comm (clt h n m _) _, hC.or (hb z hz) (tor_lt hx hy), Nat.or_comm (nth (tsets h n m) z) _, Nat.or_assoc]
  · have h1 := hm x y hx hy
    refine hr.one (hj x _ hx h1.1).1 hx ?_
    rw [(hj x _ hx h1.1).2, h1.2, or_and_abs, hcl x hx]
/-- The marks of what two close to together are those that both have. -/
theorem con_join (h10 : n ≤ 10) (m10 : m ≤ 10) (hh : ∀ k, k < n → h k < 1024) {x y : Nat} (hx : x < (tsets h n m).length) (hy : y < (tsets h n m).length) : mks h n m (nth (tsets h n m) (cnj h n m x y)) = mks h n m (nth (tsets h n m) x) &&& mks h n m (nth (tsets h n m) y) := by
  rw [(cnj_is h10 m10 hh hx hy).2, ← wil_or]
  exact wil_same h10 m10 hh (tor_lt hx hy)
theorem cons_at2 {k : Nat} (hk : k < (tsets h n m).length) : (pairAt (cons h n m) k).2 = ((mks h n m (nth (tsets h n m) k) : Nat) : Int) := by
  unfold pairAt cons nth
  rw [List.getD_eq_getElem?_getD, List.getD_eq_getElem?_getD, List.getElem?_map, List.getElem?_eq_getElem hk]; rfl
end Go.Proofs.Ytpmgengddnafeab
