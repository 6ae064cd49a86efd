/-
  Tables of numbers that lie in slices of slices, and what lattice.isLawful answers of two. Conditions: at most forty elements, all that stands there is one of them.
-/
import Derived.Test.YtappekjkcgmheabAlways
namespace Go.Proofs.Ytappekjkcgmheab
open Go.RowKit

/-- A table of n rows of n elements. -/
def Tb (w : World) (b off n : Nat) (R : Nat → Nat × Nat × Nat) (m : Nat → Nat → Nat) : Prop :=
  ∀ x, x < n → w.cell? ⟨b, off + x, none⟩ = some (.slice (some ⟨(R x).1, (R x).2.1, none⟩) n (R x).2.2) ∧ ∀ y, y < n → w.cell? ⟨(R x).1, (R x).2.1 + y, none⟩ = some (.int .i64 (m x y : Nat))
theorem Tb.step {w w' : World} {b off n : Nat} {R : Nat → Nat × Nat × Nat} {m : Nat → Nat → Nat} (h : Tb w b off n R m) (hb : Below w.heap.size w w') : Tb w' b off n R m := fun x hx =>
  ⟨(hb.cell (World.block_lt_of_cell? _ _ (h x hx).1)).trans (h x hx).1, fun y hy => (hb.cell (World.block_lt_of_cell? _ _ ((h x hx).2 y hy))).trans ((h x hx).2 y hy)⟩
theorem cell_step {w w' : World} {p : Addr} {v : Value} (hb : Below w.heap.size w w') (h : w.cell? p = some v) : w'.cell? p = some v := (hb.cell (World.block_lt_of_cell? _ _ h)).trans h
theorem int_beq (a b : Nat) : (((a : Nat) : Int) == ((b : Nat) : Int)) = (a == b) := by
  rw [Bool.eq_iff_iff, beq_iff_eq, beq_iff_eq]
  omega

theorem ent_lawful1 : Ent 41 := fun _ _ => rfl

set_option maxHeartbeats 4000000 in
theorem lawful1_any (n c d b off cap b' off' cap' : Nat) (R R' : Nat → Nat × Nat × Nat) (m j : Nat → Nat → Nat) (w : World) (_ : n ≤ 40) (hm : Inn n m) (hj : Inn n j)
    (hc : w.cell? ⟨c, 0, none⟩ = some (.slice (some ⟨b, off, none⟩) n cap)) (hd : w.cell? ⟨d, 0, none⟩ = some (.slice (some ⟨b', off', none⟩) n cap')) (ht : Tb w b off n R m) (ho : Tb w b' off' n R' j) :
    Clo n 41 #[.pointer (some ⟨c, 0, none⟩), .pointer (some ⟨d, 0, none⟩)] (lawB m j) w := fun x y z hx hy hz W hW => by
  show Calls Try.prog 41 #[.int .i64 (x : Nat), .int .i64 (y : Nat), .int .i64 (z : Nat), .pointer (some ⟨c, 0, none⟩), .pointer (some ⟨d, 0, none⟩)] W _
  have cT := cell_step hW hc
  have cO := cell_step hW hd
  have hxy := hm x y hx hy
  have hyz := hm y z hy hz
  have hjxy := hj x y hx hy
  have HT := ht.step hW
  have HO := ho.step hW
  have r1 := (HT x hx).1
  have r2 := (HT y hy).1
  have r3 := (HT _ hxy).1
  have r4 := (HO x hx).1
  have e1 := (HT x hx).2 x hx
  have e2 := (HT x hx).2 y hy
  have e3 := (HT y hy).2 x hx
  have e4 := (HT y hy).2 z hz
  have e5 := (HT x hx).2 _ hyz
  have e6 := (HT _ hxy).2 z hz
  have e7 := (HO x hx).2 y hy
  have e8 := (HT x hx).2 _ hjxy
  clear HT HO ht ho hc hd hm hj hW
  unfold lawB
  obtain ⟨v1, hv1⟩ : ∃ v, (m x x == x) = v := ⟨_, rfl⟩
  obtain ⟨v2, hv2⟩ : ∃ v, (m x y == m y x) = v := ⟨_, rfl⟩
  obtain ⟨v3, hv3⟩ : ∃ v, (m x (m y z) == m (m x y) z) = v := ⟨_, rfl⟩
  obtain ⟨v4, hv4⟩ : ∃ v, (m x (j x y) == x) = v := ⟨_, rfl⟩
  rw [hv1, hv2, hv3, hv4]
  rw [← int_beq] at hv1 hv2 hv3 hv4
  have ix : (x : Int) < (n : Int) := by omega
  have iy : (y : Int) < (n : Int) := by omega
  have iz : (z : Int) < (n : Int) := by omega
  have ixy : ((m x y : Nat) : Int) < (n : Int) := by omega
  have iyz : ((m y z : Nat) : Int) < (n : Int) := by omega
  have jxy : ((j x y : Nat) : Int) < (n : Int) := by omega
  have hKK : Hid (Below W.heap.size W W) := Below.refl _ _
  rcases v1 with _ | _
  · go_enter Try.func41, Try.ntmps41
    go_wp2
    simp only [List.append_eq, List.cons_append, List.nil_append]
    go_big_quiet (fail)
    go_wp2
    go_ret
    exact ⟨rfl, below_drewN hKK.out _⟩
  · rcases v2 with _ | _
    · go_enter Try.func41, Try.ntmps41
      go_wp2
      simp only [List.append_eq, List.cons_append, List.nil_append]
      go_big_quiet (fail)
      go_wp2
      go_ret
      exact ⟨rfl, below_drewN hKK.out _⟩
    · rcases v3 with _ | _
      · go_enter Try.func41, Try.ntmps41
        go_wp2
        simp only [List.append_eq, List.cons_append, List.nil_append]
        go_big_quiet (fail)
        go_wp2
        go_ret
        exact ⟨rfl, below_drewN hKK.out _⟩
      · rcases v4 with _ | _
        · go_enter Try.func41, Try.ntmps41
          go_wp2
          simp only [List.append_eq, List.cons_append, List.nil_append]
          go_big_quiet (fail)
          go_wp2
          go_ret
          exact ⟨rfl, below_drewN hKK.out _⟩
        · go_enter Try.func41, Try.ntmps41
          go_wp2
          simp only [List.append_eq, List.cons_append, List.nil_append]
          go_big_quiet (fail)
          go_wp2
          go_ret
          exact ⟨rfl, below_drewN hKK.out _⟩

set_option maxHeartbeats 1000000 in
theorem lawful_any (n b off cap b' off' cap' : Nat) (R R' : Nat → Nat × Nat × Nat) (m j : Nat → Nat → Nat) (w : World) (h40 : n ≤ 40) (hm : Inn n m) (hj : Inn n j) (ht : Tb w b off n R m) (ho : Tb w b' off' n R' j) :
    Calls Try.prog 30 #[.slice (some ⟨b, off, none⟩) n cap, .slice (some ⟨b', off', none⟩) n cap'] w fun e w' => (∃ v, e = .returned (.bool v) ∧ (v = true ↔ Lws n m j)) ∧ Below w.heap.size w w' := by
  have B1 : Below w.heap.size w (w.alloc (.cells #[.slice (some ⟨b, off, none⟩) n cap] 22)) := (Below.refl _ _).alloc (Nat.le_refl _) _
  have B2 : Below w.heap.size w ((w.alloc (.cells #[.slice (some ⟨b, off, none⟩) n cap] 22)).alloc (.cells #[.slice (some ⟨b', off', none⟩) n cap'] 22)) := B1.alloc (by simp) _
  have c1 : ((w.alloc (.cells #[.slice (some ⟨b, off, none⟩) n cap] 22)).alloc (.cells #[.slice (some ⟨b', off', none⟩) n cap'] 22)).cell? ⟨w.heap.size, 0, none⟩ = some (.slice (some ⟨b, off, none⟩) n cap) := by simp
  have c2 : ((w.alloc (.cells #[.slice (some ⟨b, off, none⟩) n cap] 22)).alloc (.cells #[.slice (some ⟨b', off', none⟩) n cap'] 22)).cell? ⟨w.heap.size + 1, 0, none⟩ = some (.slice (some ⟨b', off', none⟩) n cap') := by simp
  have HQ := (show Hid _ from lawful1_any n w.heap.size (w.heap.size + 1) b off cap b' off' cap' R R' m j _ h40 hm hj c1 c2 (ht.step B2) (ho.step B2))
  have HB2 : Hid (Below w.heap.size w _) := B2
  clear c1 c2 B1 B2 ht ho hm hj
  go_enter Try.func30, Try.ntmps30
  go_wp2_with fail
  refine (always_any n 41 _ _ _ h40 ent_lawful1 HQ.out).mono ?_
  rintro e w' ⟨⟨v, rfl, hv⟩, hbw⟩
  have HW2 : Hid (Below w.heap.size w w') := Below.then HB2.out hbw
  clear hbw HB2 HQ
  go_wp2_with fail
  go_ret
  exact ⟨⟨_, rfl, hv⟩, HW2.out⟩
end Go.Proofs.Ytappekjkcgmheab
