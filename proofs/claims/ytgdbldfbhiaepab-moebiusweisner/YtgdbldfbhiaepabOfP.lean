/-
  What moebius.Of answers. Condition: slices read as slices of rows and of numbers.
-/
import Derived.Test.YtgdbldfbhiaepabLatA
import Derived.Test.YtgdbldfbhiaepabBoth
import Derived.Test.YtgdbldfbhiaepabMuP
namespace Go.Proofs.Ytgdbldfbhiaepab
open Go.RowKit Go.Maps

theorem ent_of1 : Ent 20 := fun _ _ => rfl
set_option maxHeartbeats 1000000 in
theorem of1_any {q B b off cap : Nat} {b' : Option Addr} {lb cb : Nat} {R : Nat → Nat × Nat × Nat} {m : Nat → Nat → Nat} {w : World} (h : LB w B (q : Nat) (some ⟨b, off, none⟩) q cap b' lb cb) (ht : Tb w b off q R m) {x y : Nat} (hx : x < q) (hy : y < q) :
    Calls Try.prog 20 #[.int .i64 (x : Nat), .int .i64 (y : Nat), .pointer (some ⟨B, 0, none⟩)] w fun e w' => e = .returned (.bool (sB m x y)) ∧ Below w.heap.size w w' := by
  obtain ⟨c0, c1, c2⟩ := h
  have HT : Hid (Tb w b off q R m) := ht
  clear ht
  go_enter Try.func20, Try.ntmps20
  go_wp2_with fail
  refine (isBelow_any q b off cap b' lb cb R m x y w HT.out hx hy).mono ?_
  rintro e w1 ⟨rfl, hb⟩
  have HB : Hid (Below w.heap.size w w1) := hb
  clear hb HT c0 c1 c2
  have HE : Hid ((!(x == y) && m x y == x) = sB m x y) := rfl
  rw [HE.out]
  go_wp2_with fail
  go_ret
  exact ⟨rfl, HB.out⟩

/-- What must be said of a lattice and two elements. -/
def OfCk (A : LA) (p q : Int) (c : Int) : Prop := (c ≠ 0 ∧ A.Ck c) ∨ (A.Ck 0 ∧ ((c = 3 ∧ (pnt p A.n = false ∨ pnt q A.n = false)) ∨ (c = 0 ∧ pnt p A.n = true ∧ pnt q A.n = true)))
theorem OfCk.unique {A : LA} {p q c c' : Int} (h : OfCk A p q c) (h' : OfCk A p q c') : c = c' := by
  rcases h with ⟨h0, h⟩ | ⟨h, k⟩ <;> rcases h' with ⟨h0', h'⟩ | ⟨h', k'⟩
  · exact LCk.one h h'
  · exact absurd (LCk.one h h') h0
  · exact absurd (LCk.one h' h) h0'
  · rcases k with ⟨rfl, k⟩ | ⟨rfl, k1, k2⟩ <;> rcases k' with ⟨rfl, k'⟩ | ⟨rfl, k1', k2'⟩
    · rfl
    · rcases k with k | k
      · rw [k] at k1'; cases k1'
      · rw [k] at k2'; cases k2'
    · rcases k' with k' | k'
      · rw [k'] at k1; cases k1
      · rw [k'] at k2; cases k2
    · rfl
def OfPost (A : LA) (p q : Int) (e : Ending) : Prop := ∃ (c : Int) (v : Value), OfCk A p q c ∧ e = .returned (.tuple #[v, .int .i64 c]) ∧
  ((c ≠ 0 ∧ v = .int .i64 0) ∨ (c = 0 ∧ ∃ x y : Nat, p = x ∧ q = y ∧ x < A.q ∧ y < A.q ∧ v = .int .i64 (wz (muL A.m A.q x y))))
theorem OfPost.bad {A : LA} {p q c' : Int} {e : Ending} (h : OfPost A p q e) (hc : OfCk A p q c') (h0 : c' ≠ 0) : e = .returned (.tuple #[.int .i64 0, .int .i64 c']) := by
  obtain ⟨c, v, hc1, rfl, hv⟩ := h
  obtain rfl := hc1.unique hc
  rcases hv with ⟨_, rfl⟩ | ⟨h, _⟩
  · rfl
  · exact absurd h h0
theorem OfPost.ok {A : LA} {x y : Nat} {e : Ending} (h : OfPost A x y e) (hc : OfCk A x y 0) : e = .returned (.tuple #[.int .i64 (wz (muL A.m A.q x y)), .int .i64 0]) := by
  obtain ⟨c, v, hc1, rfl, hv⟩ := h
  obtain rfl := hc1.unique hc
  rcases hv with ⟨h, _⟩ | ⟨_, x', y', hx, hy, _, _, rfl⟩
  · exact absurd rfl h
  · obtain rfl : x = x' := by omega
    obtain rfl : y = y' := by omega
    rfl

set_option maxHeartbeats 2000000 in
theorem of_any (A : LA) (p q : Int) (w : World) (hA : A.In w) :
    Calls Try.prog 8 #[A.v, .int .i64 p, .int .i64 q] w fun e w' => OfPost A p q e ∧ Below w.heap.size w w' := by
  obtain ⟨X, hX⟩ : ∃ X, X = A := ⟨_, rfl⟩
  have HX : Hid (X = A) := hX
  have HI : Hid (X.In w) := by rw [hX]; exact hA
  have HPO : Hid (∀ e, OfPost X p q e → OfPost A p q e) := fun e h => by rw [← HX.out]; exact h
  have HCK : Hid (∀ wx, X.In wx → Calls Try.prog 5 #[A.v] wx fun e w' => (∃ c, e = .returned (.int .i64 c) ∧ X.Ck c) ∧ Below wx.heap.size wx w') := fun wx h => by
    rw [HX.out] at h ⊢
    exact lCheck_any _ _ _ _ _ _ _ _ _ _ _ wx h.1 h.2.1 h.2.2.1 h.2.2.2
  have HOP : Hid (X.Ck 0 → ∀ wx, X.In wx → ∃ q b1 o1 : Nat, ∃ R, A.n = (q : Nat) ∧ A.a = some ⟨b1, o1, none⟩ ∧ q = A.la ∧ q ≤ 40 ∧ X.q = q ∧ X.n = (q : Nat) ∧ Lat q X.m X.j ∧ Tb wx b1 o1 q R X.m) := fun hc wx h => by
    rw [HX.out] at h hc ⊢
    obtain ⟨q, b1, o1, b2, o2, e1, e2, e3, e4, e5, h1, h40, hlat, ht1, ht2⟩ := LCk.open hc h.2.2.1 h.2.2.2
    exact ⟨q, b1, o1, _, e1, e2, e3, h40, by unfold LA.q; omega, e1, hlat, ht1⟩
  have HN : Hid (X.n = A.n) := by rw [HX.out]; exact rfl
  clear hX HX hA
  obtain ⟨n, a, la, ca, SA, FA, b, lb, cb, SB, FB⟩ := A
  simp only [LA.v] at *
  have K0 := LB.new w n a la ca b lb cb
  have hb0 : Below w.heap.size w (w.alloc (.cells #[.int .i64 n, .slice a la ca, .slice b lb cb] 24)) := (Below.refl _ _).alloc (Nat.le_refl _) _
  obtain ⟨W0, HW0⟩ : ∃ W0, Hid (W0 = w.alloc (.cells #[.int .i64 n, .slice a la ca, .slice b lb cb] 24)) := ⟨_, rfl⟩
  rw [← HW0.out] at K0 hb0
  have HB0 : Hid (Below w.heap.size w W0) := hb0
  have HI0 : Hid (X.In W0) := HI.out.step hb0
  obtain ⟨k0, k1, k2⟩ := K0
  clear hb0 HI
  go_enter Try.func8, Try.ntmps8
  go_wp2_with fail
  rw [← HW0.out]
  go_wp2_with fail
  refine (HCK.out _ HI0.out).mono ?_
  rintro e W2 ⟨⟨c, rfl, hc⟩, hb⟩
  have K1 : LB W2 w.heap.size n a la ca b lb cb := LB.step ⟨k0, k1, k2⟩ hb
  have HB1 : Hid (Below w.heap.size w W2) := Below.then HB0.out hb
  have HI1 : Hid (X.In W2) := HI0.out.step hb
  have HC : Hid (X.Ck c) := hc
  clear hb HB0 hc HCK k0 k1 k2 HI0 HW0
  obtain ⟨k0, k1, k2⟩ := K1
  by_cases h0 : c = 0
  · subst h0
    cases hp : pnt p n
    · have HK : Hid (OfCk X p q 3) := .inr ⟨HC.out, .inl ⟨rfl, .inl (by rw [HN.out]; exact hp)⟩⟩
      go_wp2_with fail
      refine (isPoint_is p n _ _ hp).mono ?_
      rintro e w3 ⟨rfl, rfl⟩
      clear hp
      go_wp2_with fail
      go_ret2
      exact ⟨HPO.out _ ⟨3, _, HK.out, rfl, .inl ⟨by decide, rfl⟩⟩, HB1.out⟩
    · go_wp2_with fail
      refine (isPoint_is p n _ _ hp).mono ?_
      rintro e w3 ⟨rfl, rfl⟩
      cases hq : pnt q n
      · have HK : Hid (OfCk X p q 3) := .inr ⟨HC.out, .inl ⟨rfl, .inr (by rw [HN.out]; exact hq)⟩⟩
        go_wp2_with fail
        refine (isPoint_is q n _ _ hq).mono ?_
        rintro e w3 ⟨rfl, rfl⟩
        clear hp hq
        go_wp2_with fail
        go_ret2
        exact ⟨HPO.out _ ⟨3, _, HK.out, rfl, .inl ⟨by decide, rfl⟩⟩, HB1.out⟩
      · have HK : Hid (OfCk X p q 0) := .inr ⟨HC.out, .inr ⟨rfl, by rw [HN.out]; exact hp, by rw [HN.out]; exact hq⟩⟩
        go_wp2_with fail
        refine (isPoint_is q n _ _ hq).mono ?_
        rintro e w3 ⟨rfl, rfl⟩
        obtain ⟨q', b1, o1, R, rfl, rfl, rfl, h40, eq, en, hlat, htb⟩ := HOP.out HC.out W2 HI1.out
        have hp' := of_decide_eq_true hp
        have hq' := of_decide_eq_true hq
        clear hp hq
        obtain ⟨x, rfl⟩ : ∃ x : Nat, p = x := ⟨p.toNat, by omega⟩
        obtain ⟨y, rfl⟩ : ∃ y : Nat, q = y := ⟨q.toNat, by omega⟩
        have hx : x < q' := by omega
        have hy : y < q' := by omega
        have HXQ : Hid (x < X.q ∧ y < X.q) := by rw [eq]; exact ⟨hx, hy⟩
        have HMU : Hid (Calls Try.prog 22 #[.int .i64 (q' : Nat), .func (.func 20) #[] #[.pointer (some ⟨w.heap.size, 0, none⟩)], .int .i64 (x : Nat), .int .i64 (y : Nat)] W2 fun e w' => e = .returned (.int .i64 (wz (muL X.m X.q x y))) ∧ Below W2.heap.size W2 w') := by
          rw [eq]
          exact mu_any x y h40 hx hy hlat.rk ent_of1 fun x y hx hy W hW => of1_any (LB.step ⟨k0, k1, k2⟩ hW) (htb.step hW) hx hy
        clear hp' hq' eq en hlat htb HOP HI1
        go_wp2_with fail
        refine (Calls.mono HMU.out) ?_
        rintro e w9 ⟨rfl, hb9⟩
        have HB9 : Hid (Below w.heap.size w w9) := Below.then HB1.out hb9
        clear hb9 HMU
        generalize hZ : wz (muL X.m X.q x y) = Z
        have HZ : Hid (wz (muL X.m X.q x y) = Z) := hZ
        clear hZ
        go_wp2_with fail
        go_ret2
        exact ⟨HPO.out _ ⟨0, _, HK.out, rfl, .inr ⟨rfl, x, y, rfl, rfl, HXQ.out.1, HXQ.out.2, by rw [HZ.out]; rfl⟩⟩, HB9.out⟩
  · have hne : (c != 0) = true := by simpa using h0
    go_wp2_with fail
    go_ret2
    exact ⟨HPO.out _ ⟨c, _, .inl ⟨h0, HC.out⟩, rfl, .inl ⟨h0, rfl⟩⟩, HB1.out⟩
end Go.Proofs.Ytgdbldfbhiaepab
