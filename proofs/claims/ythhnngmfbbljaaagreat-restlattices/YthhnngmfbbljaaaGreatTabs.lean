/-
  What seek.Three answers, handed a closure: the first three numbers of which it is so. Conditions: at most forty numbers; the closure answers P in each world that leaves the first one as it was, and writes nothing there.
  What lattice.always answers, handed a closure: whether it holds of each three. Conditions: at most forty elements; the closure answers P in each world that leaves the first one as it was.
  Tables of numbers that lie in slices of slices, and what lattice.isLawful answers of two. Conditions: at most forty elements, all that stands there is one of them.
-/
import Derived.Test.YthhnngmfbbljaaaGreatTriM
namespace Go.Proofs.YthhnngmfbbljaaaGreat
set_option maxRecDepth 100000
open Go.RowKit

/-- A closure that answers P of three numbers below n, wherever what lay at first still lies. -/
def Clo (n F : Nat) (caps : Array Value) (P : Nat → Nat → Nat → Bool) (w : World) : Prop :=
  ∀ x y z : Nat, x < n → y < n → z < n → ∀ W : World, Below w.heap.size w W → Calls Tryz.prog F (#[.int .i64 (x : Nat), .int .i64 (y : Nat), .int .i64 (z : Nat)] ++ caps) W fun e w' => e = .returned (.bool (P x y z)) ∧ Below W.heap.size W w'

/-- The number is that of a function with a body. -/
def Ent (F : Nat) : Prop := ∀ (args : Array Value) (w : World), Sem.run Tryz.prog (callFunc F args) w = .ok (.enter F args) w

theorem row3 (w : World) (a b c : Nat) : NSl (w.alloc (.cells #[.int .i64 (a : Nat), .int .i64 (b : Nat), .int .i64 (c : Nat)] 3)) (.slice (some ⟨w.heap.size, 0, none⟩) 3 3) [a, b, c] := by
  refine ⟨_, 3, rfl, fun k hk => ⟨_, _, rfl, ?_⟩⟩
  simp only [List.length_cons, List.length_nil] at hk
  rcases (by omega : k = 0 ∨ k = 1 ∨ k = 2) with rfl | rfl | rfl <;> simp [nth]

set_option maxHeartbeats 2000000 in
theorem three_any (n F : Nat) (caps : Array Value) (P : Nat → Nat → Nat → Bool) (w : World) (h40 : n ≤ 40) (hF : Ent F) (hcl : Clo n F caps P w) :
    Calls Tryz.prog 71 #[.int .i64 n, .func (.func F) #[] caps] w fun e w' => (∃ v l ok, e = .returned (.tuple #[v, .bool ok]) ∧ First3 n P l ok ∧ NSl w' v l) ∧ Below w.heap.size w w' := by
  have HCL : Hid (Clo n F caps P w) := hcl
  clear hcl
  go_enter Tryz.func71, Tryz.ntmps71
  go_wp2_with fail
  go_loopw [10] (fun i wx => ∃ a : Nat, a ≤ n ∧ i = .int .i64 a ∧ Hid (No3 n P a 0 0) ∧ Hid (Below w.heap.size w wx)) (fun i _ => n - (intOf i).toNat)
  case atStart => exact ⟨0, Nat.zero_le _, rfl, No3.zero n P, Below.refl _ _⟩
  case round =>
    obtain ⟨a, ha, rfl, HU, HW⟩ := hrel
    by_cases hal : a < n
    · go_wp2_with fail
      go_loopw [14] (fun i wx => ∃ b : Nat, b ≤ n ∧ i = .int .i64 b ∧ Hid (No3 n P a b 0) ∧ Hid (Below w.heap.size w wx)) (fun i _ => n - (intOf i).toNat)
      case atStart => exact ⟨0, Nat.zero_le _, rfl, HU.out, HW.out⟩
      case round =>
        clear HU HW
        obtain ⟨b, hb, rfl, HU, HW⟩ := hrel
        by_cases hbl : b < n
        · go_wp2_with fail
          go_loopw [18] (fun i wx => ∃ c : Nat, c ≤ n ∧ i = .int .i64 c ∧ Hid (No3 n P a b c) ∧ Hid (Below w.heap.size w wx)) (fun i _ => n - (intOf i).toNat)
          case atStart => exact ⟨0, Nat.zero_le _, rfl, HU.out, HW.out⟩
          case round =>
            clear HU HW
            obtain ⟨c, hc, rfl, HU, HW⟩ := hrel
            by_cases hcl : c < n
            · have HC := HCL.out a b c hal hbl hcl _ HW.out
              rcases (Bool.eq_false_or_eq_true (P a b c)).symm with hp | hp
              · have HN : Hid (No3 n P a b (c + 1)) := HU.out.next hp
                rw [hp] at HC
                clear HU hp
                go_wp2_with fail
                rw [hF, Oper.upon_enter]
                refine HC.mono ?_
                rintro e w' ⟨rfl, hbw⟩
                have HW2 : Hid (Below w.heap.size w w') := Below.then HW.out hbw
                clear HC hbw HW
                go_wp2_with fail
                go_roundw
                case rel => exact ⟨c + 1, by omega, by go_num, HN.out, HW2.out⟩
                case measure => simp [intOf]; omega
              · have HF : Hid (First3 n P [a, b, c] true) := .inl ⟨rfl, a, b, c, ⟨hal, hbl, hcl⟩, hp, HU.out, rfl⟩
                rw [hp] at HC
                clear HU hp
                go_wp2_with fail
                rw [hF, Oper.upon_enter]
                refine HC.mono ?_
                rintro e w' ⟨rfl, hbw⟩
                have HW2 : Hid (Below w.heap.size w w') := Below.then HW.out hbw
                have hsz := HW2.out.size
                clear HC hbw HW
                have HN3 := (show Hid _ from row3 w' a b c)
                have HB3 : Hid (Below w.heap.size w (w'.alloc (.cells #[.int .i64 (a : Nat), .int .i64 (b : Nat), .int .i64 (c : Nat)] 3))) := HW2.out.alloc hsz _
                clear hsz
                go_wp2_with fail
                go_ret2
                exact ⟨⟨_, _, _, rfl, HF.out, HN3.out⟩, HB3.out⟩
            · obtain rfl : c = n := by omega
              have HN : Hid (No3 c P a (b + 1) 0) := HU.out.y
              clear HU
              go_wp2_with fail
              go_roundw
              case rel => exact ⟨b + 1, by omega, by go_num, HN.out, HW.out⟩
              case measure => simp [intOf]; omega
        · obtain rfl : b = n := by omega
          have HN : Hid (No3 b P (a + 1) 0 0) := HU.out.x
          clear HU
          go_wp2_with fail
          go_roundw
          case rel => exact ⟨a + 1, by omega, by go_num, HN.out, HW.out⟩
          case measure => simp [intOf]; omega
    · obtain rfl : a = n := by omega
      have HF : Hid (First3 a P [] false) := .inr ⟨rfl, rfl, fun x y z hx hy hz => HU.out x y z hx hy hz (.inl hx)⟩
      clear HU
      go_wp2_with fail
      go_ret2
      exact ⟨⟨_, _, _, rfl, HF.out, none, 0, rfl, fun k hk => absurd hk (Nat.not_lt_zero _)⟩, HW.out⟩
end Go.Proofs.YthhnngmfbbljaaaGreat
namespace Go.Proofs.YthhnngmfbbljaaaGreat
set_option maxRecDepth 100000
open Go.RowKit

theorem Clo.step {n F : Nat} {caps : Array Value} {P : Nat → Nat → Nat → Bool} {w W : World} (h : Clo n F caps P w) (hb : Below w.heap.size w W) : Clo n F caps P W :=
  fun x y z hx hy hz W' hW => h x y z hx hy hz W' (Below.then hb hW)

theorem ent_always1 : Ent 108 := fun _ _ => rfl

theorem always1_any (n F c : Nat) (caps : Array Value) (P : Nat → Nat → Nat → Bool) (w : World) (hF : Ent F) (hcl : Clo n F caps P w) (hc : w.cell? ⟨c, 0, none⟩ = some (.func (.func F) #[] caps)) :
    Clo n 108 #[.pointer (some ⟨c, 0, none⟩)] (fun x y z => !P x y z) w := fun x y z hx hy hz W hW => by
  have hcW : W.cell? ⟨c, 0, none⟩ = some (.func (.func F) #[] caps) := (hW.cell (World.block_lt_of_cell? _ _ hc)).trans hc
  have HC := hcl x y z hx hy hz W hW
  have HB : Hid (Below w.heap.size w W) := hW
  show Calls Tryz.prog 108 #[.int .i64 (x : Nat), .int .i64 (y : Nat), .int .i64 (z : Nat), .pointer (some ⟨c, 0, none⟩)] W _
  clear hcl hc hW
  go_enter Tryz.func108, Tryz.ntmps108
  go_wp2_with fail
  rw [hF, Oper.upon_enter]
  refine HC.mono ?_
  rintro e w' ⟨rfl, hbw⟩
  have HW2 : Hid (Below W.heap.size W w') := hbw
  clear HC hbw
  go_wp2_with fail
  go_ret
  exact ⟨rfl, HW2.out⟩

set_option maxHeartbeats 1000000 in
theorem always_any (n F : Nat) (caps : Array Value) (P : Nat → Nat → Nat → Bool) (w : World) (h40 : n ≤ 40) (hF : Ent F) (hcl : Clo n F caps P w) :
    Calls Tryz.prog 95 #[.int .i64 n, .func (.func F) #[] caps] w fun e w' => (∃ b, e = .returned (.bool b) ∧ (b = true ↔ All3 n P)) ∧ Below w.heap.size w w' := by
  have HB0 : Hid (Below w.heap.size w (w.alloc (.cells #[.func (.func F) #[] caps] 102))) := (Below.refl _ _).alloc (Nat.le_refl _) _
  have hc : (w.alloc (.cells #[.func (.func F) #[] caps] 102)).cell? ⟨w.heap.size, 0, none⟩ = some (.func (.func F) #[] caps) := by simp
  have HQ := (show Hid _ from always1_any n F w.heap.size caps P _ hF (hcl.step HB0.out) hc)
  clear hcl hc
  go_enter Tryz.func95, Tryz.ntmps95
  go_wp2_with fail
  refine (three_any n 108 _ _ _ h40 ent_always1 HQ.out).mono ?_
  rintro e w' ⟨⟨v, l, ok, rfl, hf, hn⟩, hbw⟩
  have HW2 : Hid (Below w.heap.size w w') := Below.then HB0.out hbw
  have HE : Hid ((!ok) = true ↔ All3 n P) := by
    rcases ok with _ | _
    · refine ⟨fun _ x y z hx hy hz => ?_, fun _ => rfl⟩
      rcases hf with ⟨h, _⟩ | ⟨_, _, h⟩
      · cases h
      · have := h x y z hx hy hz; simpa using this
    · refine ⟨fun h => (by cases h), fun h => ?_⟩
      obtain ⟨x, y, z, hx, hy, hz, hp⟩ := hf.ok.mp rfl
      have := h x y z hx hy hz
      rw [this] at hp; cases hp
  clear hf hn hbw HQ HB0
  go_wp2_with fail
  go_ret
  exact ⟨⟨_, rfl, HE.out⟩, HW2.out⟩
end Go.Proofs.YthhnngmfbbljaaaGreat
namespace Go.Proofs.YthhnngmfbbljaaaGreat
set_option maxRecDepth 100000
open Go.RowKit

/-- A table of n rows of n elements. -/
def Tb (w : World) (b off n : Nat) (R : Nat → Nat × Nat × Nat) (m : Nat → Nat → Nat) : Prop :=
  ∀ x, x < n → w.cell? ⟨b, off + x, none⟩ = some (.slice (some ⟨(R x).1, (R x).2.1, none⟩) n (R x).2.2) ∧ ∀ y, y < n → w.cell? ⟨(R x).1, (R x).2.1 + y, none⟩ = some (.int .i64 (m x y : Nat))
theorem Tb.step {w w' : World} {b off n : Nat} {R : Nat → Nat × Nat × Nat} {m : Nat → Nat → Nat} (h : Tb w b off n R m) (hb : Below w.heap.size w w') : Tb w' b off n R m := fun x hx =>
  ⟨(hb.cell (World.block_lt_of_cell? _ _ (h x hx).1)).trans (h x hx).1, fun y hy => (hb.cell (World.block_lt_of_cell? _ _ ((h x hx).2 y hy))).trans ((h x hx).2 y hy)⟩
theorem cell_step {w w' : World} {p : Addr} {v : Value} (hb : Below w.heap.size w w') (h : w.cell? p = some v) : w'.cell? p = some v := (hb.cell (World.block_lt_of_cell? _ _ h)).trans h
theorem int_beq (a b : Nat) : (((a : Nat) : Int) == ((b : Nat) : Int)) = (a == b) := by
  rw [Bool.eq_iff_iff, beq_iff_eq, beq_iff_eq]
  omega

theorem ent_lawful1 : Ent 96 := fun _ _ => rfl

set_option maxHeartbeats 4000000 in
theorem lawful1_any (n c d b off cap b' off' cap' : Nat) (R R' : Nat → Nat × Nat × Nat) (m j : Nat → Nat → Nat) (w : World) (_ : n ≤ 40) (hm : Inn n m) (hj : Inn n j)
    (hc : w.cell? ⟨c, 0, none⟩ = some (.slice (some ⟨b, off, none⟩) n cap)) (hd : w.cell? ⟨d, 0, none⟩ = some (.slice (some ⟨b', off', none⟩) n cap')) (ht : Tb w b off n R m) (ho : Tb w b' off' n R' j) :
    Clo n 96 #[.pointer (some ⟨c, 0, none⟩), .pointer (some ⟨d, 0, none⟩)] (lawB m j) w := fun x y z hx hy hz W hW => by
  show Calls Tryz.prog 96 #[.int .i64 (x : Nat), .int .i64 (y : Nat), .int .i64 (z : Nat), .pointer (some ⟨c, 0, none⟩), .pointer (some ⟨d, 0, none⟩)] W _
  have cT := cell_step hW hc
  have cO := cell_step hW hd
  have hxy := hm x y hx hy
  have hyz := hm y z hy hz
  have hjxy := hj x y hx hy
  have HT := ht.step hW
  have HO := ho.step hW
  have r1 := (HT x hx).1
  have r2 := (HT y hy).1
  have r3 := (HT _ hxy).1
  have r4 := (HO x hx).1
  have e1 := (HT x hx).2 x hx
  have e2 := (HT x hx).2 y hy
  have e3 := (HT y hy).2 x hx
  have e4 := (HT y hy).2 z hz
  have e5 := (HT x hx).2 _ hyz
  have e6 := (HT _ hxy).2 z hz
  have e7 := (HO x hx).2 y hy
  have e8 := (HT x hx).2 _ hjxy
  clear HT HO ht ho hc hd hm hj hW
  unfold lawB
  obtain ⟨v1, hv1⟩ : ∃ v, (m x x == x) = v := ⟨_, rfl⟩
  obtain ⟨v2, hv2⟩ : ∃ v, (m x y == m y x) = v := ⟨_, rfl⟩
  obtain ⟨v3, hv3⟩ : ∃ v, (m x (m y z) == m (m x y) z) = v := ⟨_, rfl⟩
  obtain ⟨v4, hv4⟩ : ∃ v, (m x (j x y) == x) = v := ⟨_, rfl⟩
  rw [hv1, hv2, hv3, hv4]
  rw [← int_beq] at hv1 hv2 hv3 hv4
  have ix : (x : Int) < (n : Int) := by omega
  have iy : (y : Int) < (n : Int) := by omega
  have iz : (z : Int) < (n : Int) := by omega
  have ixy : ((m x y : Nat) : Int) < (n : Int) := by omega
  have iyz : ((m y z : Nat) : Int) < (n : Int) := by omega
  have jxy : ((j x y : Nat) : Int) < (n : Int) := by omega
  have hKK : Hid (Below W.heap.size W W) := Below.refl _ _
  rcases v1 with _ | _
  · go_enter Tryz.func96, Tryz.ntmps96
    go_wp2
    simp only [List.append_eq, List.cons_append, List.nil_append]
    go_big_quiet (fail)
    go_wp2
    go_ret
    exact ⟨rfl, below_drewN hKK.out _⟩
  · rcases v2 with _ | _
    · go_enter Tryz.func96, Tryz.ntmps96
      go_wp2
      simp only [List.append_eq, List.cons_append, List.nil_append]
      go_big_quiet (fail)
      go_wp2
      go_ret
      exact ⟨rfl, below_drewN hKK.out _⟩
    · rcases v3 with _ | _
      · go_enter Tryz.func96, Tryz.ntmps96
        go_wp2
        simp only [List.append_eq, List.cons_append, List.nil_append]
        go_big_quiet (fail)
        go_wp2
        go_ret
        exact ⟨rfl, below_drewN hKK.out _⟩
      · rcases v4 with _ | _
        · go_enter Tryz.func96, Tryz.ntmps96
          go_wp2
          simp only [List.append_eq, List.cons_append, List.nil_append]
          go_big_quiet (fail)
          go_wp2
          go_ret
          exact ⟨rfl, below_drewN hKK.out _⟩
        · go_enter Tryz.func96, Tryz.ntmps96
          go_wp2
          simp only [List.append_eq, List.cons_append, List.nil_append]
          go_big_quiet (fail)
          go_wp2
          go_ret
          exact ⟨rfl, below_drewN hKK.out _⟩

set_option maxHeartbeats 1000000 in
theorem lawful_any (n b off cap b' off' cap' : Nat) (R R' : Nat → Nat × Nat × Nat) (m j : Nat → Nat → Nat) (w : World) (h40 : n ≤ 40) (hm : Inn n m) (hj : Inn n j) (ht : Tb w b off n R m) (ho : Tb w b' off' n R' j) :
    Calls Tryz.prog 81 #[.slice (some ⟨b, off, none⟩) n cap, .slice (some ⟨b', off', none⟩) n cap'] w fun e w' => (∃ v, e = .returned (.bool v) ∧ (v = true ↔ Lws n m j)) ∧ Below w.heap.size w w' := by
  have B1 : Below w.heap.size w (w.alloc (.cells #[.slice (some ⟨b, off, none⟩) n cap] 25)) := (Below.refl _ _).alloc (Nat.le_refl _) _
  have B2 : Below w.heap.size w ((w.alloc (.cells #[.slice (some ⟨b, off, none⟩) n cap] 25)).alloc (.cells #[.slice (some ⟨b', off', none⟩) n cap'] 25)) := B1.alloc (by simp) _
  have c1 : ((w.alloc (.cells #[.slice (some ⟨b, off, none⟩) n cap] 25)).alloc (.cells #[.slice (some ⟨b', off', none⟩) n cap'] 25)).cell? ⟨w.heap.size, 0, none⟩ = some (.slice (some ⟨b, off, none⟩) n cap) := by simp
  have c2 : ((w.alloc (.cells #[.slice (some ⟨b, off, none⟩) n cap] 25)).alloc (.cells #[.slice (some ⟨b', off', none⟩) n cap'] 25)).cell? ⟨w.heap.size + 1, 0, none⟩ = some (.slice (some ⟨b', off', none⟩) n cap') := by simp
  have HQ := (show Hid _ from lawful1_any n w.heap.size (w.heap.size + 1) b off cap b' off' cap' R R' m j _ h40 hm hj c1 c2 (ht.step B2) (ho.step B2))
  have HB2 : Hid (Below w.heap.size w _) := B2
  clear c1 c2 B1 B2 ht ho hm hj
  go_enter Tryz.func81, Tryz.ntmps81
  go_wp2_with fail
  refine (always_any n 96 _ _ _ h40 ent_lawful1 HQ.out).mono ?_
  rintro e w' ⟨⟨v, rfl, hv⟩, hbw⟩
  have HW2 : Hid (Below w.heap.size w w') := Below.then HB2.out hbw
  clear hbw HB2 HQ
  go_wp2_with fail
  go_ret
  exact ⟨⟨_, rfl, hv⟩, HW2.out⟩
end Go.Proofs.YthhnngmfbbljaaaGreat
