/-
  For every two orders and map that are handed in, hasselaw.SpaceConnected returns true, and writes nothing that was there. Condition: the table of the least bits.
-/
import Derived.Deep.RegionHeld3
import Derived.Test.YtggngpnenbjidabDoorConM
namespace Go.Proofs.YtggngpnenbjidabDoor
set_option maxRecDepth 100000
open Go.RowKit

theorem in_as (s p : Nat) (v : Bool) (w : World) (hs : s < 9223372036854775808) (hp : p < 63) (h : s.testBit p = v) :
    Calls Tryd.prog 20 #[.int .i64 s, .int .i64 p] w fun e w' => e = .returned (.bool v) ∧ w = w' :=
  (in_any s p w hs hp).mono fun _ _ ⟨h1, h2⟩ => ⟨by rw [← h]; exact h1, h2⟩
/-- To which piece it went so far. -/
def ToOk (Ls T : List Nat) (f : Nat → Nat) (n k : Nat) (t : Int) : Prop := t = -1 ∨ ∃ m q : Nat, t = m ∧ m < T.length ∧ q < n ∧ (nth Ls k).testBit q = true ∧ (nth T m).testBit (f q) = true

set_option maxHeartbeats 8000000 in
theorem spaceConnected_any (n1 : Int) (a1 : Option Addr) (l1 c1 : Nat) (F1 : Nat → Int) (n2 : Int) (a2 : Option Addr) (l2 c2 : Nat) (F2 : Nat → Int) (a3 : Option Addr) (l3 c3 : Nat) (F3 : Nat → Int) (w : World)
    (m1 : l1 ≤ maxLen) (m2 : l2 ≤ maxLen) (m3 : l3 ≤ maxLen) (r1 : Row w a1 l1 F1) (r2 : Row w a2 l2 F2) (r3 : Row w a3 l3 F3) (hT : Tab w) :
    Calls Tryd.prog 5 #[.agg #[.int .i64 n1, .slice a1 l1 c1], .agg #[.int .i64 n2, .slice a2 l2 c2], .slice a3 l3 c3] w fun e w' => e = .returned (.bool true) ∧ Below w.heap.size w w' := by
  have hb1 : Below w.heap.size w (w.alloc (.cells #[.int .i64 n1, .slice a1 l1 c1] 24)) := bel_one w _
  have hb2 := bel_one (w.alloc (.cells #[.int .i64 n1, .slice a1 l1 c1] 24)) (.cells #[.int .i64 n2, .slice a2 l2 c2] 24)
  have HB : Hid (Below w.heap.size w ((w.alloc (.cells #[.int .i64 n1, .slice a1 l1 c1] 24)).alloc (.cells #[.int .i64 n2, .slice a2 l2 c2] 24))) := Below.then hb1 hb2
  have K1 : Hid (Held ((w.alloc (.cells #[.int .i64 n1, .slice a1 l1 c1] 24)).alloc (.cells #[.int .i64 n2, .slice a2 l2 c2] 24)) w.heap.size n1 a1 l1 c1 F1) := (Held.box r1).step hb2
  have K2 : Hid (Held ((w.alloc (.cells #[.int .i64 n1, .slice a1 l1 c1] 24)).alloc (.cells #[.int .i64 n2, .slice a2 l2 c2] 24)) (w.heap.size + 1) n2 a2 l2 c2 F2) := by
    have := Held.box (n := n2) (cap := c2) (r2.below hb1)
    rw [World.size_alloc] at this
    exact this
  have R3 : Hid (Row ((w.alloc (.cells #[.int .i64 n1, .slice a1 l1 c1] 24)).alloc (.cells #[.int .i64 n2, .slice a2 l2 c2] 24)) a3 l3 F3) := r3.below HB.out
  have HT : Hid (Tab ((w.alloc (.cells #[.int .i64 n1, .slice a1 l1 c1] 24)).alloc (.cells #[.int .i64 n2, .slice a2 l2 c2] 24))) := hT.step HB.out
  clear r1 r2 r3 hT hb1 hb2
  go_enter Tryd.func5, Tryd.ntmps5
  generalize hC : Code.region 1 _ false = C
  go_wp2_with fail
  generalize (w.alloc (.cells #[.int .i64 n1, .slice a1 l1 c1] 24)).alloc (.cells #[.int .i64 n2, .slice a2 l2 c2] 24) = W0 at *
  rw [← hC]
  clear hC C
  go_wp2_with fail
  refine (spaceBegun_any W0 HT.out).mono ?_
  rintro e w1 ⟨rfl, hb1⟩
  have H1 : Hid (Below W0.heap.size W0 w1) := hb1
  clear hb1
  have k0 := (K1.out.step H1.out).c0
  have k1 := (K1.out.step H1.out).c1
  have k2 := (K2.out.step H1.out).c0
  have k3 := (K2.out.step H1.out).c1
  go_wp2_with fail
  refine (smooth_any n1 a1 l1 c1 F1 n2 a2 l2 c2 F2 a3 l3 c3 F3 w1 m1 m2 m3 (K1.out.step H1.out).row (K2.out.step H1.out).row (R3.out.below H1.out) (HT.out.step H1.out)).mono ?_
  rintro e w2 ⟨⟨c, v, hc, rfl, hv⟩, hb2⟩
  have H2 : Hid (Below W0.heap.size W0 w2) := Below.then H1.out hb2
  clear hb2 H1 k0 k1 k2 k3
  by_cases h0 : c = 0
  · subst h0
    cases v
    · have HF : Hid (Below w.heap.size w w2) := Below.then HB.out H2.out
      clear hc hv
      go_wp2_with fail
      go_ret
      exact ⟨rfl, HF.out⟩
    · obtain ⟨hA, hB, hM⟩ := hc.good
      obtain ⟨e1, h10, hrg1, hord1⟩ := Chk.good hA
      obtain ⟨e2, h20, hrg2, hord2⟩ := Chk.good hB
      have e1' : n1 = (l1 : Int) := e1
      have e2' : n2 = (l2 : Int) := e2
      subst e1'
      subst e2'
      obtain ⟨e3, hf3, hrow3⟩ := MA.open (f := ⟨a3, l3, c3, F3⟩) (n := l1) (n' := l2) hM
      have e3' : l3 = l1 := e3
      subst e3'
      have HF3 : Hid (∀ k, k < l3 → nat F3 k < l2) := hf3
      have hpl := pw_le l3 h10
      have hpl2 := pw_le l2 h20
      have HSM : Hid (∀ a b, a < l3 → b < l3 → (nat F1 b).testBit a = true → upt (nat F2) (nat F3 a) (nat F3 b) = true) := by
        have q1 : OA.q ⟨(l3 : Int), a1, l3, c1, F1⟩ = l3 := Int.toNat_natCast l3
        have q2 : OA.q ⟨(l2 : Int), a2, l2, c2, F2⟩ = l2 := Int.toNat_natCast l2
        have hsm : SmL ⟨(l3 : Int), a1, l3, c1, F1⟩ ⟨(l2 : Int), a2, l2, c2, F2⟩ ⟨a3, l3, c3, F3⟩ := by
          rcases hv with ⟨h, _⟩ | ⟨_, h⟩
          · exact absurd rfl h
          · exact h.1 rfl
        unfold SmL at hsm
        rw [q1, q2] at hsm
        exact fun a b ha hb e => smooth_mono h10 h20 hrg2.small hord2 hf3 hsm ha hb e
      have HCA : Hid (Chk (l3 : Int) l3 F1 0) := hA
      have HCB : Hid (Chk (l2 : Int) l2 F2 0) := hB
      have LR3 : Hid (∀ w', Below W0.heap.size W0 w' → Row w' a3 l3 (fun k => ((nat F3 k : Nat) : Int))) := fun w' h => hrow3 w' ⟨m3, R3.out.below h⟩
      clear hc hv hA hB hM e1 e2 e3 hf3 hrow3 hrg1 hrg2 hord1 hord2 R3
      have k0 := (K1.out.step H2.out).c0
      have k1 := (K1.out.step H2.out).c1
      go_wp2_with fail
      refine (pieces_call l3 a1 l3 c1 F1 w2 m1 (K1.out.step H2.out).row (HT.out.step H2.out)).mono ?_
      rintro e w3 ⟨⟨c, v3, rfl, hc, hv⟩, hb3⟩
      obtain rfl : c = 0 := hc.unique HCA.out
      obtain ⟨Ls, hN3, hP3, hL3⟩ : ∃ L, NSl w3 v3 L ∧ PcL (hld (nat F1) l3) L (pw l3 - 1) 0 ∧ L.length ≤ 1024 := by
        rcases hv with ⟨h, _⟩ | ⟨_, L, h1, h2, h3, _⟩
        · exact absurd rfl h
        · exact ⟨L, h1, h2, h3⟩
      have H3 : Hid (Below W0.heap.size W0 w3) := Below.then H2.out hb3
      have HN3 : Hid (NSl w3 v3 Ls) := hN3
      have HP3 : Hid (PFacts (nat F1) l3 Ls (pw l3 - 1)) := pcl_all h10 hP3
      clear hc hv hb3 hN3 hP3 H2 k0 k1
      have k2 := (K2.out.step H3.out).c0
      have k3 := (K2.out.step H3.out).c1
      go_wp2_with fail
      refine (pieces_call l2 a2 l2 c2 F2 w3 m2 (K2.out.step H3.out).row (HT.out.step H3.out)).mono ?_
      rintro e w4 ⟨⟨c, v4, rfl, hc, hv⟩, hb4⟩
      obtain rfl : c = 0 := hc.unique HCB.out
      obtain ⟨T, hN4, hP4, hL4⟩ : ∃ L, NSl w4 v4 L ∧ PcL (hld (nat F2) l2) L (pw l2 - 1) 0 ∧ L.length ≤ 1024 := by
        rcases hv with ⟨h, _⟩ | ⟨_, L, h1, h2, h3, _⟩
        · exact absurd rfl h
        · exact ⟨L, h1, h2, h3⟩
      have H4 : Hid (Below W0.heap.size W0 w4) := Below.then H3.out hb4
      have HP4 : Hid (PFacts (nat F2) l2 T (pw l2 - 1)) := pcl_all h20 hP4
      obtain ⟨va, vc, rfl, hrow3⟩ := HN3.out
      obtain ⟨ta, tc, rfl, hrow4⟩ := hN4
      have HX3 : Hid (∀ w', Below w4.heap.size w4 w' → Row w' va Ls.length (fun k => (nth Ls k : Nat))) := fun w' h => (hrow3.below hb4).below h
      have HX4 : Hid (∀ w', Below w4.heap.size w4 w' → Row w' ta T.length (fun k => (nth T k : Nat))) := fun w' h => hrow4.below h
      have HXF : Hid (∀ w', Below w4.heap.size w4 w' → Row w' a3 l3 (fun k => ((nat F3 k : Nat) : Int))) := fun w' h => LR3.out w' (Below.then H4.out h)
      have HX0 : Hid (∀ w', Below w4.heap.size w4 w' → w'.cell? ⟨w.heap.size, 0, none⟩ = some (.int .i64 (l3 : Int))) := fun w' h => (K1.out.step (Below.then H4.out h)).c0
      have HXB : Hid (∀ w', Below w4.heap.size w4 w' → Below w.heap.size w w') := fun w' h => Below.then HB.out (Below.then H4.out h)
      have HSL : Hid (∀ k, k < Ls.length → nth Ls k < 1024) := fun k hk => by
        apply Nat.lt_of_le_of_lt (m := pw l3 - 1)
        · exact sub_le fun i hi => (HP3.out.1 k hk i hi).1
        · have := pw_pos l3; omega
      have HTL : Hid (∀ k, k < T.length → nth T k < 1024) := fun k hk => by
        apply Nat.lt_of_le_of_lt (m := pw l2 - 1)
        · exact sub_le fun i hi => (HP4.out.1 k hk i hi).1
        · have := pw_pos l2; omega
      have HTO : Hid (∀ k, k < Ls.length → ∀ m0 q0 m q, m0 < T.length → m < T.length → (nth Ls k).testBit q0 = true → (nth Ls k).testBit q = true → (nth T m0).testBit (nat F3 q0) = true → (nth T m).testBit (nat F3 q) = true → m0 = m) := fun k hk m0 q0 m q h1 h2 h3 h4 h5 h6 => by
        obtain ⟨i1, i2⟩ := HP3.out.1 k hk q0 h3
        have hq0 := full_in.1 i1
        have c1 := (i2 q).1 h4
        have c2 := cn_map HF3.out HSM.out hq0 c1
        have h7 := ((HP4.out.1 m0 h1 _ h5).2 _).2 c2
        exact HP4.out.2 m0 m h1 h2 _ h7 h6
      have HB4 : Hid (Below w4.heap.size w4 w4) := Below.refl _ _
      clear hc hv hb4 hrow3 hrow4 hP4 HN3 H3 H4 HP3 HP4 HSM k2 k3 LR3 HT K1 K2 HB HCA HCB
      generalize w4 = W at *
      go_wp2_with fail
      go_loopw [12] (fun i wx => ∃ k : Nat, k ≤ Ls.length ∧ i = .int .i64 k ∧ Hid (Below W.heap.size W wx)) (fun i _ => Ls.length - (intOf i).toNat)
      case atStart => exact ⟨0, Nat.zero_le _, rfl, HB4.out⟩
      case round =>
        clear HB4
        obtain ⟨k, hk, rfl, HBx⟩ := hrel
        by_cases hkl : k < Ls.length
        · have hkl' : (k : Int) < (Ls.length : Int) := by omega
          obtain ⟨s, hse⟩ : ∃ s, nth Ls k = s := ⟨_, rfl⟩
          have hs10 : s < 1024 := by rw [← hse]; exact HSL.out k hkl
          have HTK : Hid (∀ m0 q0 m q, m0 < T.length → m < T.length → s.testBit q0 = true → s.testBit q = true → (nth T m0).testBit (nat F3 q0) = true → (nth T m).testBit (nat F3 q) = true → m0 = m) := by
            have := HTO.out k hkl
            rw [hse] at this
            exact this
          obtain ⟨b5, o5, rfl, _⟩ := HX3.out _ HBx.out k hkl
          have d5 : ∀ w', Below W.heap.size W w' → w'.cell? ⟨b5, o5 + k, none⟩ = some (.int .i64 (s : Nat)) := fun w' h => by
            obtain ⟨b4, o4, e4, h4⟩ := HX3.out w' h k hkl
            simp at e4
            obtain ⟨rfl, rfl⟩ := e4
            rw [← hse]; exact h4
          go_wp2_with fail
          go_loopw [13, 14] (fun t i wx => ∃ (tv : Int) (q : Nat), q ≤ l3 ∧ t = .int .i64 tv ∧ i = .int .i64 q ∧ Hid (ToOk Ls T (nat F3) l3 k tv) ∧ Hid (Below W.heap.size W wx)) (fun _ i _ => l3 - (intOf i).toNat)
          case atStart => exact ⟨-1, 0, Nat.zero_le _, rfl, rfl, .inl rfl, HBx.out⟩
          case round =>
            clear HBx
            obtain ⟨tv, q, hq, rfl, rfl, HTV, HBx⟩ := hrel
            have k0 := HX0.out _ HBx.out
            by_cases hql : q < l3
            · have hql' : (q : Int) < (l3 : Int) := by omega
              obtain ⟨b3, o3, rfl, _⟩ := HXF.out _ HBx.out q hql
              have d3 : ∀ w', Below W.heap.size W w' → w'.cell? ⟨b3, o3 + q, none⟩ = some (.int .i64 ((nat F3 q : Nat) : Int)) := fun w' h => by
                obtain ⟨b4, o4, e4, h4⟩ := HXF.out w' h q hql
                simp at e4
                obtain ⟨rfl, rfl⟩ := e4
                exact h4
              have hf := HF3.out q hql
              go_wp2_with fail
              go_loopw [13, 15] (fun t i wx => ∃ (tv : Int) (m : Nat), m ≤ T.length ∧ t = .int .i64 tv ∧ i = .int .i64 m ∧ Hid (ToOk Ls T (nat F3) l3 k tv) ∧ Hid (Below W.heap.size W wx)) (fun _ i _ => T.length - (intOf i).toNat)
              case atStart => exact ⟨tv, 0, Nat.zero_le _, rfl, rfl, HTV, HBx⟩
              case round =>
                clear HTV HBx k0
                obtain ⟨tv, m, hm, rfl, rfl, HTV, HBx⟩ := hrel
                have d5x := d5 _ HBx.out
                by_cases hml : m < T.length
                · have hml' : (m : Int) < (T.length : Int) := by omega
                  cases hbs : s.testBit q
                  · go_wp2_with (go_at_call 20; refine (in_as s q false _ (by omega) (by omega) hbs).mono ?_; rintro e w' ⟨rfl, rfl⟩)
                    go_roundw
                    case rel => exact ⟨tv, q + 1, by omega, rfl, by go_num, HTV, HBx⟩
                    case measure => simp [intOf]; omega
                  · obtain ⟨tm, hte⟩ : ∃ tm, nth T m = tm := ⟨_, rfl⟩
                    have ht10 : tm < 1024 := by rw [← hte]; exact HTL.out m hml
                    obtain ⟨b6, o6, rfl, _⟩ := HX4.out _ HBx.out m hml
                    have d6 : ∀ w', Below W.heap.size W w' → w'.cell? ⟨b6, o6 + m, none⟩ = some (.int .i64 (tm : Nat)) := fun w' h => by
                      obtain ⟨b4, o4, e4, h4⟩ := HX4.out w' h m hml
                      simp at e4
                      obtain ⟨rfl, rfl⟩ := e4
                      rw [← hte]; exact h4
                    cases hb : tm.testBit (nat F3 q)
                    · go_wp2_with (go_at_call 20; refine (in_as s q true _ (by omega) (by omega) hbs).mono ?_; rintro e w' ⟨rfl, rfl⟩)
                      refine wp_region_held_drew (S := (fun w' => Below W.heap.size W w')) (by kernel_rfl) (HBx.out.drew) (fun hHeld => ?_)
                      refine wpAnyH_take (i := 0) (oi := { dst := some 73, op := Go.Op.move (Go.Operand.tmp 10), type := 22, pos := "sperner.go:455", after := #[], guard := none }) (v := ?_) rfl (by kernel_rfl) (by kernel_rfl) (by kernel_rfl) (fun _ _ _ h => h) (Or.inl ⟨by rfl, ?hy⟩) (by assumption) ?_
                      case hy => (intro w9 hSw; (try dsimp only at hSw); go_simp; try with_reducible rfl)
                      try simp only [Act.put, List.setIfInBounds_toArray, List.set_cons_zero, List.set_cons_succ]
                      refine wpAnyH_take (i := 1) (oi := { dst := some 74, op := Go.Op.move (Go.Operand.tmp 15), type := 3, pos := "sperner.go:455", after := #[], guard := none }) (v := ?_) rfl (by kernel_rfl) (by kernel_rfl) (by kernel_rfl) (fun _ _ _ h => h) (Or.inl ⟨by rfl, ?hy⟩) (by assumption) ?_
                      case hy => (intro w9 hSw; (try dsimp only at hSw); go_simp; try with_reducible rfl)
                      try simp only [Act.put, List.setIfInBounds_toArray, List.set_cons_zero, List.set_cons_succ]
                      refine wpAnyH_take (i := 2) (oi := { dst := some 75, op := Go.Op.indexAddr 22 (Go.Operand.tmp 73) (Go.Operand.tmp 74), type := 0, pos := "sperner.go:455", after := #[{ on := 0, ground := Go.Ground.data }, { on := 1, ground := Go.Ground.data }], guard := none }) (v := ?_) rfl (by kernel_rfl) (by kernel_rfl) (by kernel_rfl) (fun _ _ _ h => h) (Or.inl ⟨by rfl, ?hy⟩) (by assumption) ?_
                      case hy => (intro w9 hSw; (try dsimp only at hSw); go_simp; try with_reducible rfl)
                      try simp only [Act.put, List.setIfInBounds_toArray, List.set_cons_zero, List.set_cons_succ]
                      refine wpAnyH_take (i := 3) (oi := { dst := some 76, op := Go.Op.load 3 (Go.Operand.tmp 75), type := 3, pos := "sperner.go:455", after := #[{ on := 2, ground := Go.Ground.data }], guard := none }) (v := ?_) rfl (by kernel_rfl) (by kernel_rfl) (by kernel_rfl) (fun _ _ _ h => h) (Or.inl ⟨by rfl, ?hy⟩) (by assumption) ?_
                      case hy => (intro w9 hSw; (try dsimp only at hSw); go_simp; try with_reducible rfl)
                      try simp only [Act.put, List.setIfInBounds_toArray, List.set_cons_zero, List.set_cons_succ]
                      refine wpAnyH_take (i := 4) (oi := { dst := some 77, op := Go.Op.move (Go.Operand.tmp 2), type := 22, pos := "sperner.go:455", after := #[], guard := none }) (v := ?_) rfl (by kernel_rfl) (by kernel_rfl) (by kernel_rfl) (fun _ _ _ h => h) (Or.inl ⟨by rfl, ?hy⟩) (by assumption) ?_
                      case hy => (intro w9 hSw; (try dsimp only at hSw); go_simp; try with_reducible rfl)
                      try simp only [Act.put, List.setIfInBounds_toArray, List.set_cons_zero, List.set_cons_succ]
                      refine wpAnyH_take (i := 5) (oi := { dst := some 78, op := Go.Op.move (Go.Operand.tmp 14), type := 3, pos := "sperner.go:455", after := #[], guard := none }) (v := ?_) rfl (by kernel_rfl) (by kernel_rfl) (by kernel_rfl) (fun _ _ _ h => h) (Or.inl ⟨by rfl, ?hy⟩) (by assumption) ?_
                      case hy => (intro w9 hSw; (try dsimp only at hSw); go_simp; try with_reducible rfl)
                      try simp only [Act.put, List.setIfInBounds_toArray, List.set_cons_zero, List.set_cons_succ]
                      refine wpAnyH_take (i := 6) (oi := { dst := some 79, op := Go.Op.indexAddr 22 (Go.Operand.tmp 77) (Go.Operand.tmp 78), type := 0, pos := "sperner.go:455", after := #[{ on := 4, ground := Go.Ground.data }, { on := 5, ground := Go.Ground.data }], guard := none }) (v := ?_) rfl (by kernel_rfl) (by kernel_rfl) (by kernel_rfl) (fun _ _ _ h => h) (Or.inl ⟨by rfl, ?hy⟩) (by assumption) ?_
                      case hy => (intro w9 hSw; (try dsimp only at hSw); go_simp; try with_reducible rfl)
                      try simp only [Act.put, List.setIfInBounds_toArray, List.set_cons_zero, List.set_cons_succ]
                      refine wpAnyH_take (i := 7) (oi := { dst := some 80, op := Go.Op.load 3 (Go.Operand.tmp 79), type := 3, pos := "sperner.go:455", after := #[{ on := 6, ground := Go.Ground.data }], guard := none }) (v := ?_) rfl (by kernel_rfl) (by kernel_rfl) (by kernel_rfl) (fun _ _ _ h => h) (Or.inl ⟨by rfl, ?hy⟩) (by assumption) ?_
                      case hy => (intro w9 hSw; (try dsimp only at hSw); go_simp; try with_reducible rfl)
                      try simp only [Act.put, List.setIfInBounds_toArray, List.set_cons_zero, List.set_cons_succ]
                      refine wpAnyH_ready (rs := [8]) (by kernel_rfl) (by simp) ?_
                      refine AllReadyH.cons (o := { dst := some 81, op := Go.Op.call { callee := Go.Callee.value (Go.Operand.func 20), args := #[Go.Operand.tmp 76, Go.Operand.tmp 80], argTypes := #[3, 3] }, type := 4, pos := "sperner.go:455", after := #[{ on := 3, ground := Go.Ground.data }, { on := 7, ground := Go.Ground.data }], guard := none }) rfl (fun K hK => ?_) AllReadyH.nil
                      go_simp
                      refine (in_as tm (nat F3 q) false _ (by omega) (by omega) hb).mono ?_
                      rintro e w9 ⟨rfl, rfl⟩
                      refine hK.out _ _ ?_ (fun hHeld => ?_)
                      · first | assumption | exact hHeld
                      clear hK K
                      try simp only [Act.put, List.setIfInBounds_toArray, List.set_cons_zero, List.set_cons_succ]
                      refine wpAnyH_take (i := 9) (oi := { dst := some 82, op := Go.Op.unOp Go.UnOp.not 4 (Go.Operand.tmp 81), type := 4, pos := "sperner.go:455", after := #[{ on := 8, ground := Go.Ground.data }], guard := none }) (v := ?_) rfl (by kernel_rfl) (by kernel_rfl) (by kernel_rfl) (fun _ _ _ h => h) (Or.inl ⟨by rfl, ?hy⟩) (by assumption) ?_
                      case hy => (intro w9 hSw; (try dsimp only at hSw); go_simp; try with_reducible rfl)
                      try simp only [Act.put, List.setIfInBounds_toArray, List.set_cons_zero, List.set_cons_succ]
                      refine wpAnyH_done (by kernel_rfl) ?_ _
                      try simp only [Act.put, List.setIfInBounds_toArray, List.set_cons_zero, List.set_cons_succ]
                      have HB9 := (show Hid (Below W.heap.size W _) from hHeld)
                      go_wp2_with fail
                      go_roundw
                      case rel => exact ⟨tv, m + 1, by omega, rfl, by go_num, HTV, HB9⟩
                      case measure => simp [intOf]; omega
                    · have HNEW : Hid (ToOk Ls T (nat F3) l3 k (m : Nat)) := .inr ⟨m, q, rfl, hml, hql, by rw [hse]; exact hbs, by rw [hte]; exact hb⟩
                      have hcond : tv = -1 ∨ tv = (m : Int) := by
                        rcases HTV.out with h | ⟨m0, q0, h1, h2, h3, h4, h5⟩
                        · exact .inl h
                        · right
                          rw [hse] at h4
                          have := HTK.out m0 q0 m q h2 hml h4 hbs h5 (by rw [hte]; exact hb)
                          omega
                      clear HTV
                      rcases hcond with rfl | rfl
                      · go_wp2_with (go_at_call 20; refine (in_as s q true _ (by omega) (by omega) hbs).mono ?_; rintro e w' ⟨rfl, rfl⟩)
                        refine wp_region_held_drew (S := (fun w' => Below W.heap.size W w')) (by kernel_rfl) (HBx.out.drew) (fun hHeld => ?_)
                        refine wpAnyH_take (i := 0) (oi := { dst := some 73, op := Go.Op.move (Go.Operand.tmp 10), type := 22, pos := "sperner.go:455", after := #[], guard := none }) (v := ?_) rfl (by kernel_rfl) (by kernel_rfl) (by kernel_rfl) (fun _ _ _ h => h) (Or.inl ⟨by rfl, ?hy⟩) (by assumption) ?_
                        case hy => (intro w9 hSw; (try dsimp only at hSw); go_simp; try with_reducible rfl)
                        try simp only [Act.put, List.setIfInBounds_toArray, List.set_cons_zero, List.set_cons_succ]
                        refine wpAnyH_take (i := 1) (oi := { dst := some 74, op := Go.Op.move (Go.Operand.tmp 15), type := 3, pos := "sperner.go:455", after := #[], guard := none }) (v := ?_) rfl (by kernel_rfl) (by kernel_rfl) (by kernel_rfl) (fun _ _ _ h => h) (Or.inl ⟨by rfl, ?hy⟩) (by assumption) ?_
                        case hy => (intro w9 hSw; (try dsimp only at hSw); go_simp; try with_reducible rfl)
                        try simp only [Act.put, List.setIfInBounds_toArray, List.set_cons_zero, List.set_cons_succ]
                        refine wpAnyH_take (i := 2) (oi := { dst := some 75, op := Go.Op.indexAddr 22 (Go.Operand.tmp 73) (Go.Operand.tmp 74), type := 0, pos := "sperner.go:455", after := #[{ on := 0, ground := Go.Ground.data }, { on := 1, ground := Go.Ground.data }], guard := none }) (v := ?_) rfl (by kernel_rfl) (by kernel_rfl) (by kernel_rfl) (fun _ _ _ h => h) (Or.inl ⟨by rfl, ?hy⟩) (by assumption) ?_
                        case hy => (intro w9 hSw; (try dsimp only at hSw); go_simp; try with_reducible rfl)
                        try simp only [Act.put, List.setIfInBounds_toArray, List.set_cons_zero, List.set_cons_succ]
                        refine wpAnyH_take (i := 3) (oi := { dst := some 76, op := Go.Op.load 3 (Go.Operand.tmp 75), type := 3, pos := "sperner.go:455", after := #[{ on := 2, ground := Go.Ground.data }], guard := none }) (v := ?_) rfl (by kernel_rfl) (by kernel_rfl) (by kernel_rfl) (fun _ _ _ h => h) (Or.inl ⟨by rfl, ?hy⟩) (by assumption) ?_
                        case hy => (intro w9 hSw; (try dsimp only at hSw); go_simp; try with_reducible rfl)
                        try simp only [Act.put, List.setIfInBounds_toArray, List.set_cons_zero, List.set_cons_succ]
                        refine wpAnyH_take (i := 4) (oi := { dst := some 77, op := Go.Op.move (Go.Operand.tmp 2), type := 22, pos := "sperner.go:455", after := #[], guard := none }) (v := ?_) rfl (by kernel_rfl) (by kernel_rfl) (by kernel_rfl) (fun _ _ _ h => h) (Or.inl ⟨by rfl, ?hy⟩) (by assumption) ?_
                        case hy => (intro w9 hSw; (try dsimp only at hSw); go_simp; try with_reducible rfl)
                        try simp only [Act.put, List.setIfInBounds_toArray, List.set_cons_zero, List.set_cons_succ]
                        refine wpAnyH_take (i := 5) (oi := { dst := some 78, op := Go.Op.move (Go.Operand.tmp 14), type := 3, pos := "sperner.go:455", after := #[], guard := none }) (v := ?_) rfl (by kernel_rfl) (by kernel_rfl) (by kernel_rfl) (fun _ _ _ h => h) (Or.inl ⟨by rfl, ?hy⟩) (by assumption) ?_
                        case hy => (intro w9 hSw; (try dsimp only at hSw); go_simp; try with_reducible rfl)
                        try simp only [Act.put, List.setIfInBounds_toArray, List.set_cons_zero, List.set_cons_succ]
                        refine wpAnyH_take (i := 6) (oi := { dst := some 79, op := Go.Op.indexAddr 22 (Go.Operand.tmp 77) (Go.Operand.tmp 78), type := 0, pos := "sperner.go:455", after := #[{ on := 4, ground := Go.Ground.data }, { on := 5, ground := Go.Ground.data }], guard := none }) (v := ?_) rfl (by kernel_rfl) (by kernel_rfl) (by kernel_rfl) (fun _ _ _ h => h) (Or.inl ⟨by rfl, ?hy⟩) (by assumption) ?_
                        case hy => (intro w9 hSw; (try dsimp only at hSw); go_simp; try with_reducible rfl)
                        try simp only [Act.put, List.setIfInBounds_toArray, List.set_cons_zero, List.set_cons_succ]
                        refine wpAnyH_take (i := 7) (oi := { dst := some 80, op := Go.Op.load 3 (Go.Operand.tmp 79), type := 3, pos := "sperner.go:455", after := #[{ on := 6, ground := Go.Ground.data }], guard := none }) (v := ?_) rfl (by kernel_rfl) (by kernel_rfl) (by kernel_rfl) (fun _ _ _ h => h) (Or.inl ⟨by rfl, ?hy⟩) (by assumption) ?_
                        case hy => (intro w9 hSw; (try dsimp only at hSw); go_simp; try with_reducible rfl)
                        try simp only [Act.put, List.setIfInBounds_toArray, List.set_cons_zero, List.set_cons_succ]
                        refine wpAnyH_ready (rs := [8]) (by kernel_rfl) (by simp) ?_
                        refine AllReadyH.cons (o := { dst := some 81, op := Go.Op.call { callee := Go.Callee.value (Go.Operand.func 20), args := #[Go.Operand.tmp 76, Go.Operand.tmp 80], argTypes := #[3, 3] }, type := 4, pos := "sperner.go:455", after := #[{ on := 3, ground := Go.Ground.data }, { on := 7, ground := Go.Ground.data }], guard := none }) rfl (fun K hK => ?_) AllReadyH.nil
                        go_simp
                        refine (in_as tm (nat F3 q) true _ (by omega) (by omega) hb).mono ?_
                        rintro e w9 ⟨rfl, rfl⟩
                        refine hK.out _ _ ?_ (fun hHeld => ?_)
                        · first | assumption | exact hHeld
                        clear hK K
                        try simp only [Act.put, List.setIfInBounds_toArray, List.set_cons_zero, List.set_cons_succ]
                        refine wpAnyH_take (i := 9) (oi := { dst := some 82, op := Go.Op.unOp Go.UnOp.not 4 (Go.Operand.tmp 81), type := 4, pos := "sperner.go:455", after := #[{ on := 8, ground := Go.Ground.data }], guard := none }) (v := ?_) rfl (by kernel_rfl) (by kernel_rfl) (by kernel_rfl) (fun _ _ _ h => h) (Or.inl ⟨by rfl, ?hy⟩) (by assumption) ?_
                        case hy => (intro w9 hSw; (try dsimp only at hSw); go_simp; try with_reducible rfl)
                        try simp only [Act.put, List.setIfInBounds_toArray, List.set_cons_zero, List.set_cons_succ]
                        refine wpAnyH_done (by kernel_rfl) ?_ _
                        try simp only [Act.put, List.setIfInBounds_toArray, List.set_cons_zero, List.set_cons_succ]
                        have HB9 := (show Hid (Below W.heap.size W _) from hHeld)
                        go_wp2_with fail
                        go_roundw
                        case rel => exact ⟨_, m + 1, by omega, rfl, by go_num, HNEW, HB9⟩
                        case measure => simp [intOf]; omega
                      · have hnn : (((m : Nat) : Int) != ((m : Nat) : Int)) = false := by simp
                        go_wp2_with (go_at_call 20; refine (in_as s q true _ (by omega) (by omega) hbs).mono ?_; rintro e w' ⟨rfl, rfl⟩)
                        refine wp_region_held_drew (S := (fun w' => Below W.heap.size W w')) (by kernel_rfl) (HBx.out.drew) (fun hHeld => ?_)
                        refine wpAnyH_take (i := 0) (oi := { dst := some 73, op := Go.Op.move (Go.Operand.tmp 10), type := 22, pos := "sperner.go:455", after := #[], guard := none }) (v := ?_) rfl (by kernel_rfl) (by kernel_rfl) (by kernel_rfl) (fun _ _ _ h => h) (Or.inl ⟨by rfl, ?hy⟩) (by assumption) ?_
                        case hy => (intro w9 hSw; (try dsimp only at hSw); go_simp; try with_reducible rfl)
                        try simp only [Act.put, List.setIfInBounds_toArray, List.set_cons_zero, List.set_cons_succ]
                        refine wpAnyH_take (i := 1) (oi := { dst := some 74, op := Go.Op.move (Go.Operand.tmp 15), type := 3, pos := "sperner.go:455", after := #[], guard := none }) (v := ?_) rfl (by kernel_rfl) (by kernel_rfl) (by kernel_rfl) (fun _ _ _ h => h) (Or.inl ⟨by rfl, ?hy⟩) (by assumption) ?_
                        case hy => (intro w9 hSw; (try dsimp only at hSw); go_simp; try with_reducible rfl)
                        try simp only [Act.put, List.setIfInBounds_toArray, List.set_cons_zero, List.set_cons_succ]
                        refine wpAnyH_take (i := 2) (oi := { dst := some 75, op := Go.Op.indexAddr 22 (Go.Operand.tmp 73) (Go.Operand.tmp 74), type := 0, pos := "sperner.go:455", after := #[{ on := 0, ground := Go.Ground.data }, { on := 1, ground := Go.Ground.data }], guard := none }) (v := ?_) rfl (by kernel_rfl) (by kernel_rfl) (by kernel_rfl) (fun _ _ _ h => h) (Or.inl ⟨by rfl, ?hy⟩) (by assumption) ?_
                        case hy => (intro w9 hSw; (try dsimp only at hSw); go_simp; try with_reducible rfl)
                        try simp only [Act.put, List.setIfInBounds_toArray, List.set_cons_zero, List.set_cons_succ]
                        refine wpAnyH_take (i := 3) (oi := { dst := some 76, op := Go.Op.load 3 (Go.Operand.tmp 75), type := 3, pos := "sperner.go:455", after := #[{ on := 2, ground := Go.Ground.data }], guard := none }) (v := ?_) rfl (by kernel_rfl) (by kernel_rfl) (by kernel_rfl) (fun _ _ _ h => h) (Or.inl ⟨by rfl, ?hy⟩) (by assumption) ?_
                        case hy => (intro w9 hSw; (try dsimp only at hSw); go_simp; try with_reducible rfl)
                        try simp only [Act.put, List.setIfInBounds_toArray, List.set_cons_zero, List.set_cons_succ]
                        refine wpAnyH_take (i := 4) (oi := { dst := some 77, op := Go.Op.move (Go.Operand.tmp 2), type := 22, pos := "sperner.go:455", after := #[], guard := none }) (v := ?_) rfl (by kernel_rfl) (by kernel_rfl) (by kernel_rfl) (fun _ _ _ h => h) (Or.inl ⟨by rfl, ?hy⟩) (by assumption) ?_
                        case hy => (intro w9 hSw; (try dsimp only at hSw); go_simp; try with_reducible rfl)
                        try simp only [Act.put, List.setIfInBounds_toArray, List.set_cons_zero, List.set_cons_succ]
                        refine wpAnyH_take (i := 5) (oi := { dst := some 78, op := Go.Op.move (Go.Operand.tmp 14), type := 3, pos := "sperner.go:455", after := #[], guard := none }) (v := ?_) rfl (by kernel_rfl) (by kernel_rfl) (by kernel_rfl) (fun _ _ _ h => h) (Or.inl ⟨by rfl, ?hy⟩) (by assumption) ?_
                        case hy => (intro w9 hSw; (try dsimp only at hSw); go_simp; try with_reducible rfl)
                        try simp only [Act.put, List.setIfInBounds_toArray, List.set_cons_zero, List.set_cons_succ]
                        refine wpAnyH_take (i := 6) (oi := { dst := some 79, op := Go.Op.indexAddr 22 (Go.Operand.tmp 77) (Go.Operand.tmp 78), type := 0, pos := "sperner.go:455", after := #[{ on := 4, ground := Go.Ground.data }, { on := 5, ground := Go.Ground.data }], guard := none }) (v := ?_) rfl (by kernel_rfl) (by kernel_rfl) (by kernel_rfl) (fun _ _ _ h => h) (Or.inl ⟨by rfl, ?hy⟩) (by assumption) ?_
                        case hy => (intro w9 hSw; (try dsimp only at hSw); go_simp; try with_reducible rfl)
                        try simp only [Act.put, List.setIfInBounds_toArray, List.set_cons_zero, List.set_cons_succ]
                        refine wpAnyH_take (i := 7) (oi := { dst := some 80, op := Go.Op.load 3 (Go.Operand.tmp 79), type := 3, pos := "sperner.go:455", after := #[{ on := 6, ground := Go.Ground.data }], guard := none }) (v := ?_) rfl (by kernel_rfl) (by kernel_rfl) (by kernel_rfl) (fun _ _ _ h => h) (Or.inl ⟨by rfl, ?hy⟩) (by assumption) ?_
                        case hy => (intro w9 hSw; (try dsimp only at hSw); go_simp; try with_reducible rfl)
                        try simp only [Act.put, List.setIfInBounds_toArray, List.set_cons_zero, List.set_cons_succ]
                        refine wpAnyH_ready (rs := [8]) (by kernel_rfl) (by simp) ?_
                        refine AllReadyH.cons (o := { dst := some 81, op := Go.Op.call { callee := Go.Callee.value (Go.Operand.func 20), args := #[Go.Operand.tmp 76, Go.Operand.tmp 80], argTypes := #[3, 3] }, type := 4, pos := "sperner.go:455", after := #[{ on := 3, ground := Go.Ground.data }, { on := 7, ground := Go.Ground.data }], guard := none }) rfl (fun K hK => ?_) AllReadyH.nil
                        go_simp
                        refine (in_as tm (nat F3 q) true _ (by omega) (by omega) hb).mono ?_
                        rintro e w9 ⟨rfl, rfl⟩
                        refine hK.out _ _ ?_ (fun hHeld => ?_)
                        · first | assumption | exact hHeld
                        clear hK K
                        try simp only [Act.put, List.setIfInBounds_toArray, List.set_cons_zero, List.set_cons_succ]
                        refine wpAnyH_take (i := 9) (oi := { dst := some 82, op := Go.Op.unOp Go.UnOp.not 4 (Go.Operand.tmp 81), type := 4, pos := "sperner.go:455", after := #[{ on := 8, ground := Go.Ground.data }], guard := none }) (v := ?_) rfl (by kernel_rfl) (by kernel_rfl) (by kernel_rfl) (fun _ _ _ h => h) (Or.inl ⟨by rfl, ?hy⟩) (by assumption) ?_
                        case hy => (intro w9 hSw; (try dsimp only at hSw); go_simp; try with_reducible rfl)
                        try simp only [Act.put, List.setIfInBounds_toArray, List.set_cons_zero, List.set_cons_succ]
                        refine wpAnyH_done (by kernel_rfl) ?_ _
                        try simp only [Act.put, List.setIfInBounds_toArray, List.set_cons_zero, List.set_cons_succ]
                        have HB9 := (show Hid (Below W.heap.size W _) from hHeld)
                        go_wp2_with fail
                        go_roundw
                        case rel => exact ⟨_, m + 1, by omega, rfl, by go_num, HNEW, HB9⟩
                        case measure => simp [intOf]; omega
                · obtain rfl : m = T.length := by omega
                  go_wp2_with fail
                  go_roundw
                  case rel => exact ⟨tv, q + 1, by omega, rfl, by go_num, HTV, HBx⟩
                  case measure => simp [intOf]; omega
            · obtain rfl : q = l3 := by omega
              go_wp2_with fail
              go_roundw
              case rel => exact ⟨k + 1, by omega, by go_num, HBx⟩
              case measure => simp [intOf]; omega
        · obtain rfl : k = Ls.length := by omega
          have HF : Hid (Below w.heap.size w wr) := HXB.out _ HBx.out
          go_wp2_with fail
          go_ret
          exact ⟨rfl, HF.out⟩
  · have hne : (c != 0) = true := by simpa using h0
    have HF : Hid (Below w.heap.size w w2) := Below.then HB.out H2.out
    clear hc hv h0
    go_wp2_with fail
    go_ret
    exact ⟨rfl, HF.out⟩
end Go.Proofs.YtggngpnenbjidabDoor
