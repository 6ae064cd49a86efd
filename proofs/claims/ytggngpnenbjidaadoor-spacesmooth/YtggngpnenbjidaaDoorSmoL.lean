/-
  For every two orders and map that are handed in, hasselaw.SpaceSmooth returns true, and writes nothing that was there. Condition: the table of the least bits.
-/
import Derived.Deep.RegionHeld3
import Derived.Test.YtggngpnenbjidaaDoorSmoP
import Derived.Test.YtggngpnenbjidaaDoorOpnL
import Derived.Test.YtggngpnenbjidaaDoorTurL
namespace Go.Proofs.YtggngpnenbjidaaDoor
set_option maxRecDepth 100000
open Go.RowKit

theorem in_as (s p : Nat) (v : Bool) (w : World) (hs : s < 9223372036854775808) (hp : p < 63) (h : s.testBit p = v) :
    Calls Tryd.prog 30 #[.int .i64 s, .int .i64 p] w fun e w' => e = .returned (.bool v) ∧ w = w' :=
  (in_any s p w hs hp).mono fun _ _ ⟨h1, h2⟩ => ⟨by rw [← h]; exact h1, h2⟩

set_option maxHeartbeats 8000000 in
theorem spaceSmooth_any (n1 : Int) (a1 : Option Addr) (l1 c1 : Nat) (F1 : Nat → Int) (n2 : Int) (a2 : Option Addr) (l2 c2 : Nat) (F2 : Nat → Int) (a3 : Option Addr) (l3 c3 : Nat) (F3 : Nat → Int) (w : World)
    (m1 : l1 ≤ maxLen) (m2 : l2 ≤ maxLen) (m3 : l3 ≤ maxLen) (r1 : Row w a1 l1 F1) (r2 : Row w a2 l2 F2) (r3 : Row w a3 l3 F3) (hT : Tab w) :
    Calls Tryd.prog 8 #[.agg #[.int .i64 n1, .slice a1 l1 c1], .agg #[.int .i64 n2, .slice a2 l2 c2], .slice a3 l3 c3] w fun e w' => e = .returned (.bool true) ∧ Below w.heap.size w w' := by
  have hb1 : Below w.heap.size w (w.alloc (.cells #[.int .i64 n1, .slice a1 l1 c1] 24)) := bel_one w _
  have hb2 := bel_one (w.alloc (.cells #[.int .i64 n1, .slice a1 l1 c1] 24)) (.cells #[.int .i64 n2, .slice a2 l2 c2] 24)
  have HB : Hid (Below w.heap.size w ((w.alloc (.cells #[.int .i64 n1, .slice a1 l1 c1] 24)).alloc (.cells #[.int .i64 n2, .slice a2 l2 c2] 24))) := Below.then hb1 hb2
  have K1 : Hid (Held ((w.alloc (.cells #[.int .i64 n1, .slice a1 l1 c1] 24)).alloc (.cells #[.int .i64 n2, .slice a2 l2 c2] 24)) w.heap.size n1 a1 l1 c1 F1) := (Held.box r1).step hb2
  have K2 : Hid (Held ((w.alloc (.cells #[.int .i64 n1, .slice a1 l1 c1] 24)).alloc (.cells #[.int .i64 n2, .slice a2 l2 c2] 24)) (w.heap.size + 1) n2 a2 l2 c2 F2) := by
    have := Held.box (n := n2) (cap := c2) (r2.below hb1)
    rw [World.size_alloc] at this
    exact this
  have R3 : Hid (Row ((w.alloc (.cells #[.int .i64 n1, .slice a1 l1 c1] 24)).alloc (.cells #[.int .i64 n2, .slice a2 l2 c2] 24)) a3 l3 F3) := r3.below HB.out
  have HT : Hid (Tab ((w.alloc (.cells #[.int .i64 n1, .slice a1 l1 c1] 24)).alloc (.cells #[.int .i64 n2, .slice a2 l2 c2] 24))) := hT.step HB.out
  clear r1 r2 r3 hT hb1 hb2
  go_enter Tryd.func8, Tryd.ntmps8
  generalize hC : Code.region 1 _ false = C
  go_wp2_with fail
  generalize (w.alloc (.cells #[.int .i64 n1, .slice a1 l1 c1] 24)).alloc (.cells #[.int .i64 n2, .slice a2 l2 c2] 24) = W at *
  rw [← hC]
  clear hC C
  have k0 := K1.out.c0
  have k1 := K1.out.c1
  have k2 := K2.out.c0
  have k3 := K2.out.c1
  go_wp2_with fail
  refine (smooth_any n1 a1 l1 c1 F1 n2 a2 l2 c2 F2 a3 l3 c3 F3 W m1 m2 m3 K1.out.row K2.out.row R3.out HT.out).mono ?_
  rintro e w1 ⟨⟨c, v, hc, rfl, hv⟩, hb1⟩
  have HC : Hid (MoCk ⟨n1, a1, l1, c1, F1⟩ ⟨n2, a2, l2, c2, F2⟩ ⟨a3, l3, c3, F3⟩ c) := hc
  have HV : Hid ((c ≠ 0 ∧ v = false) ∨ (c = 0 ∧ (v = true ↔ SmL ⟨n1, a1, l1, c1, F1⟩ ⟨n2, a2, l2, c2, F2⟩ ⟨a3, l3, c3, F3⟩))) := hv
  have H1 : Hid (Below W.heap.size W w1) := hb1
  clear hc hv hb1 k0 k1 k2 k3
  have k0 := (K1.out.step H1.out).c0
  have k1 := (K1.out.step H1.out).c1
  have k2 := (K2.out.step H1.out).c0
  have k3 := (K2.out.step H1.out).c1
  go_wp2_with fail
  refine (mapsTo_any ⟨n1, a1, l1, c1, F1⟩ ⟨n2, a2, l2, c2, F2⟩ ⟨a3, l3, c3, F3⟩ w1 ⟨m1, (K1.out.step H1.out).row⟩ ⟨m2, (K2.out.step H1.out).row⟩ ⟨m3, R3.out.below H1.out⟩).mono ?_
  rintro e w2 ⟨⟨c', rfl, hc'⟩, hb2⟩
  obtain rfl := HC.out.one hc'
  have H2 : Hid (Below W.heap.size W w2) := Below.then H1.out hb2
  clear hc' hb2 H1 k0 k1 k2 k3
  by_cases h0 : c = 0
  · subst h0
    obtain ⟨hA, hB, hM⟩ := HC.out.good
    obtain ⟨e1, h10, hrg1, hord1⟩ := Chk.good hA
    obtain ⟨e2, h20, hrg2, hord2⟩ := Chk.good hB
    have e1' : n1 = (l1 : Int) := e1
    have e2' : n2 = (l2 : Int) := e2
    subst e1'
    subst e2'
    obtain ⟨e3, hf3, hrow3⟩ := MA.open (f := ⟨a3, l3, c3, F3⟩) (n := l1) (n' := l2) hM
    have e3' : l3 = l1 := e3
    subst e3'
    have HF3 : Hid (∀ k, k < l3 → nat F3 k < l2) := hf3
    have hpl := pw_le l3 h10
    have hpl2 := pw_le l2 h20
    have LR1 : Hid (∀ w', Below W.heap.size W w' → Row w' a1 l3 (fun k => ((nat F1 k : Nat) : Int))) := fun w' h => hrg1.row (K1.out.step h).row
    have LR2 : Hid (∀ w', Below W.heap.size W w' → Row w' a2 l2 (fun k => ((nat F2 k : Nat) : Int))) := fun w' h => hrg2.row (K2.out.step h).row
    have LR3 : Hid (∀ w', Below W.heap.size W w' → Row w' a3 l3 (fun k => ((nat F3 k : Nat) : Int))) := fun w' h => hrow3 w' ⟨m3, R3.out.below h⟩
    have HG1 : Hid (∀ k, k < l3 → nat F1 k < 1024) := hrg1.small2 h10
    have HG2 : Hid (∀ k, k < l2 → nat F2 k < 1024) := hrg2.small2 h20
    have HVS : Hid (v = true ↔ ∀ s, s ∈ opn (nat F2) l2 → frm (nat F3) l3 s ∈ opn (nat F1) l3) := by
      have q1 : OA.q ⟨(l3 : Int), a1, l3, c1, F1⟩ = l3 := Int.toNat_natCast l3
      have q2 : OA.q ⟨(l2 : Int), a2, l2, c2, F2⟩ = l2 := Int.toNat_natCast l2
      rcases HV.out with ⟨h, _⟩ | ⟨_, h⟩
      · exact absurd rfl h
      · refine h.trans ?_
        unfold SmL
        rw [q1, q2]
        exact Iff.rfl
    have l0 : ∀ w', Below W.heap.size W w' → w'.cell? ⟨w.heap.size, 0, none⟩ = some (.int .i64 (l3 : Int)) := fun w' h => (K1.out.step h).c0
    have l1 : ∀ w', Below W.heap.size W w' → w'.cell? ⟨w.heap.size, 1, none⟩ = some (.slice a1 l3 c1) := fun w' h => (K1.out.step h).c1
    have q0 : ∀ w', Below W.heap.size W w' → w'.cell? ⟨w.heap.size + 1, 0, none⟩ = some (.int .i64 (l2 : Int)) := fun w' h => (K2.out.step h).c0
    have q1 : ∀ w', Below W.heap.size W w' → w'.cell? ⟨w.heap.size + 1, 1, none⟩ = some (.slice a2 l2 c2) := fun w' h => (K2.out.step h).c1
    clear hA hB hM e1 e2 e3 hf3 hrow3 hrg1 hrg2 hord1 hord2 HC HV R3
    go_wp2_with fail
    refine wp_region_held_drew (S := (fun w' => Below W.heap.size W w')) (by kernel_rfl) (H2.out.drew) (fun hHeld => ?_)
    refine wpAnyH_take (i := 0) (oi := { dst := some 30, op := Go.Op.load 24 (Go.Operand.tmp 4), type := 24, pos := "sperner.go:383", after := #[], guard := none }) (v := ?_) rfl (by kernel_rfl) (by kernel_rfl) (by kernel_rfl) (fun _ _ _ h => h) (Or.inl ⟨by rfl, ?hy⟩) (by assumption) ?_
    case hy => (intro w9 hSw; (try dsimp only at hSw); go_simp; try with_reducible rfl)
    try simp only [Act.put, List.setIfInBounds_toArray, List.set_cons_zero, List.set_cons_succ]
    refine wpAnyH_take (i := 2) (oi := { dst := some 32, op := Go.Op.load 24 (Go.Operand.tmp 3), type := 24, pos := "sperner.go:383", after := #[], guard := none }) (v := ?_) rfl (by kernel_rfl) (by kernel_rfl) (by kernel_rfl) (fun _ _ _ h => h) (Or.inl ⟨by rfl, ?hy⟩) (by assumption) ?_
    case hy => (intro w9 hSw; (try dsimp only at hSw); go_simp; try with_reducible rfl)
    try simp only [Act.put, List.setIfInBounds_toArray, List.set_cons_zero, List.set_cons_succ]
    refine wpAnyH_ready (rs := [1]) (by kernel_rfl) (by simp) ?_
    refine AllReadyH.cons (o := { dst := some 31, op := Go.Op.call { callee := Go.Callee.value (Go.Operand.func 11), args := #[Go.Operand.tmp 30], argTypes := #[24] }, type := 22, pos := "sperner.go:383", after := #[{ on := 0, ground := Go.Ground.data }], guard := none }) rfl (fun K hK => ?_) AllReadyH.nil
    go_simp
    refine (refOpens_any a2 l2 c2 (nat F2) _ h20 HG2.out (LR2.out _ (by assumption))).mono ?_
    rintro e w5 ⟨⟨v5, rfl, hn5⟩, hb5⟩
    refine hK.out _ _ ?_ (fun hHeld => ?_)
    · first | assumption | exact Below.then (by assumption) (by assumption)
    clear hK K
    try simp only [Act.put, List.setIfInBounds_toArray, List.set_cons_zero, List.set_cons_succ]
    refine wpAnyH_ready (rs := [3]) (by kernel_rfl) (by simp) ?_
    refine AllReadyH.cons (o := { dst := some 33, op := Go.Op.call { callee := Go.Callee.value (Go.Operand.func 11), args := #[Go.Operand.tmp 32], argTypes := #[24] }, type := 22, pos := "sperner.go:383", after := #[{ on := 2, ground := Go.Ground.data }, { on := 1, ground := Go.Ground.chain }], guard := none }) rfl (fun K hK => ?_) AllReadyH.nil
    go_simp
    refine (refOpens_any a1 l3 c1 (nat F1) _ h10 HG1.out (LR1.out _ (by assumption))).mono ?_
    rintro e w6 ⟨⟨v6, rfl, hn6⟩, hb6⟩
    refine hK.out _ _ ?_ (fun hHeld => ?_)
    · first | assumption | exact Below.then (by assumption) (by assumption)
    clear hK K
    try simp only [Act.put, List.setIfInBounds_toArray, List.set_cons_zero, List.set_cons_succ]
    refine wpAnyH_take (i := 4) (oi := { dst := some 11, op := Go.Op.assign (Go.Operand.tmp 31), type := 22, pos := "sperner.go:383", after := #[{ on := 1, ground := Go.Ground.data }, { on := 3, ground := Go.Ground.chain }, { on := 0, ground := Go.Ground.phase }, { on := 1, ground := Go.Ground.phase }, { on := 2, ground := Go.Ground.textOnly Go.Departure.lateStores }, { on := 3, ground := Go.Ground.textOnly Go.Departure.lateStoresUnsure }], guard := none }) (v := ?_) rfl (by kernel_rfl) (by kernel_rfl) (by kernel_rfl) (fun _ _ _ h => h) (Or.inl ⟨by rfl, ?hy⟩) (by assumption) ?_
    case hy => (intro w9 hSw; (try dsimp only at hSw); go_simp; try with_reducible rfl)
    try simp only [Act.put, List.setIfInBounds_toArray, List.set_cons_zero, List.set_cons_succ]
    refine wpAnyH_take (i := 5) (oi := { dst := some 12, op := Go.Op.assign (Go.Operand.tmp 33), type := 22, pos := "sperner.go:383", after := #[{ on := 3, ground := Go.Ground.data }, { on := 4, ground := Go.Ground.chain }, { on := 0, ground := Go.Ground.phase }, { on := 1, ground := Go.Ground.phase }, { on := 2, ground := Go.Ground.phase }, { on := 3, ground := Go.Ground.phase }, { on := 4, ground := Go.Ground.phase }], guard := none }) (v := ?_) rfl (by kernel_rfl) (by kernel_rfl) (by kernel_rfl) (fun _ _ _ h => h) (Or.inl ⟨by rfl, ?hy⟩) (by assumption) ?_
    case hy => (intro w9 hSw; (try dsimp only at hSw); go_simp; try with_reducible rfl)
    try simp only [Act.put, List.setIfInBounds_toArray, List.set_cons_zero, List.set_cons_succ]
    refine wpAnyH_done (by kernel_rfl) ?_ _
    try simp only [Act.put, List.setIfInBounds_toArray, List.set_cons_zero, List.set_cons_succ]
    have H6 : Hid (Below W.heap.size W w6) := hHeld
    have HN5 : Hid (NSl w6 v5 (opn (nat F2) l2)) := hn5.below hb6
    have HN6 : Hid (NSl w6 v6 (opn (nat F1) l3)) := hn6
    have HL5 : Hid ((opn (nat F2) l2).length ≤ 1024) := idls_len _ _ h20
    have HL6 : Hid ((opn (nat F1) l3).length ≤ 1024) := idls_len _ _ h10
    have HS5 : Hid (∀ s, s ∈ opn (nat F2) l2 → s < pw l2) := fun s hs => ((opn_mem h20).1 hs).1
    clear hn5 hn6 hb5 hb6 H2 q0 q1
    generalize opn (nat F2) l2 = L at *
    generalize opn (nat F1) l3 = M at *
    obtain ⟨va, vc, rfl, hrow5⟩ := HN5.out
    obtain ⟨ma, mc, rfl, hrow6⟩ := HN6.out
    have HX5 : Hid (∀ w', Below w6.heap.size w6 w' → Row w' va L.length (fun k => (nth L k : Nat))) := fun w' h => hrow5.below h
    have HX6 : Hid (∀ w', Below w6.heap.size w6 w' → Row w' ma M.length (fun k => (nth M k : Nat))) := fun w' h => hrow6.below h
    have HX3 : Hid (∀ w', Below w6.heap.size w6 w' → Row w' a3 l3 (fun k => ((nat F3 k : Nat) : Int))) := fun w' h => LR3.out w' (Below.then H6.out h)
    have HX0 : Hid (∀ w', Below w6.heap.size w6 w' → w'.cell? ⟨w.heap.size, 0, none⟩ = some (.int .i64 (l3 : Int))) := fun w' h => l0 w' (Below.then H6.out h)
    have HXB : Hid (∀ w', Below w6.heap.size w6 w' → Below w.heap.size w w') := fun w' h => Below.then HB.out (Below.then H6.out h)
    have HXT : Hid (∀ w', Below w6.heap.size w6 w' → Tab w') := fun w' h => HT.out.step (Below.then H6.out h)
    have hl5 := HL5.out
    have hl6 := HL6.out
    have HB6 : Hid (Below w6.heap.size w6 w6) := Below.refl _ _
    clear hrow5 hrow6 HN5 HN6 l0 l1 H6 LR1 LR2 LR3 HT K1 K2 HB
    generalize hW6 : w6 = W6 at *
    clear hW6
    go_wp2_with fail
    go_loopw [10, 13] (fun b i wx => ∃ (bb : Bool) (i' : Nat), i' ≤ L.length ∧ b = .bool bb ∧ i = .int .i64 i' ∧ Hid (bb = true ↔ ∀ j, j < i' → frm (nat F3) l3 (nth L j) ∈ M) ∧ Hid (Below W6.heap.size W6 wx)) (fun _ i _ => L.length - (intOf i).toNat)
    case atStart => exact ⟨true, 0, Nat.zero_le _, rfl, rfl, ⟨fun _ => upto_zero, fun _ => rfl⟩, HB6.out⟩
    case round =>
      clear HB6
      obtain ⟨bb, i, hi, rfl, rfl, HBB, HBx⟩ := hrel
      by_cases hil : i < L.length
      · have hil' : (i : Int) < (L.length : Int) := by omega
        obtain ⟨s, hse⟩ : ∃ s, nth L i = s := ⟨_, rfl⟩
        have hsl : s < pw l2 := by rw [← hse]; exact HS5.out _ (nth_mem hil)
        obtain ⟨b5, o5, rfl, _⟩ := HX5.out _ HBx.out i hil
        have d5 : ∀ w', Below W6.heap.size W6 w' → w'.cell? ⟨b5, o5 + i, none⟩ = some (.int .i64 (s : Nat)) := fun w' h => by
          obtain ⟨b4, o4, e4, h4⟩ := HX5.out w' h i hil
          simp at e4
          obtain ⟨rfl, rfl⟩ := e4
          rw [← hse]; exact h4
        obtain ⟨P, HP⟩ : ∃ P : Nat → Bool, Hid ((fun k => s.testBit (nat F3 k)) = P) := ⟨_, rfl⟩
        have HPI : Hid (∀ k, P k = s.testBit (nat F3 k)) := fun k => by rw [← HP.out]
        have HFR : Hid (frm (nat F3) l3 s = setBy P l3) := by rw [← HP.out]; rfl
        go_wp2_with fail
        go_loopw [14, 15] (fun o c wx => ∃ k : Nat, k ≤ l3 ∧ o = .int .i64 (setBy P k : Nat) ∧ c = .int .i64 k ∧ Hid (Below W6.heap.size W6 wx)) (fun _ c _ => l3 - (intOf c).toNat)
        case atStart => exact ⟨0, Nat.zero_le _, rfl, rfl, HBx.out⟩
        case round =>
          clear HBx
          obtain ⟨k, hk, rfl, rfl, HBx⟩ := hrel
          have k0 := HX0.out _ HBx.out
          by_cases hkl : k < l3
          · have hkl' : (k : Int) < (l3 : Int) := by omega
            obtain ⟨b3, o3, rfl, _⟩ := HX3.out _ HBx.out k hkl
            have d3 : ∀ w', Below W6.heap.size W6 w' → w'.cell? ⟨b3, o3 + k, none⟩ = some (.int .i64 ((nat F3 k : Nat) : Int)) := fun w' h => by
              obtain ⟨b4, o4, e4, h4⟩ := HX3.out w' h k hkl
              simp at e4
              obtain ⟨rfl, rfl⟩ := e4
              exact h4
            have hf := HF3.out k hkl
            have hsk := setBy_lt P k
            have hpk : pw k ≤ 1024 := pw_le k (by omega)
            cases hb : s.testBit (nat F3 k)
            · have HS : Hid (setBy P (k + 1) = setBy P k) := setBy_no (by rw [HPI.out, hb])
              go_wp2_with fail
              refine wp_region_held_drew (S := (fun w' => Below W6.heap.size W6 w')) (by kernel_rfl) (HBx.out.drew) (fun hHeld => ?_)
              refine wpAnyH_take (i := 0) (oi := { dst := some 46, op := Go.Op.move (Go.Operand.tmp 11), type := 22, pos := "sperner.go:388", after := #[], guard := none }) (v := ?_) rfl (by kernel_rfl) (by kernel_rfl) (by kernel_rfl) (fun _ _ _ h => h) (Or.inl ⟨by rfl, ?hy⟩) (by assumption) ?_
              case hy => (intro w9 hSw; (try dsimp only at hSw); go_simp; try with_reducible rfl)
              try simp only [Act.put, List.setIfInBounds_toArray, List.set_cons_zero, List.set_cons_succ]
              refine wpAnyH_take (i := 1) (oi := { dst := some 47, op := Go.Op.move (Go.Operand.tmp 13), type := 3, pos := "sperner.go:388", after := #[], guard := none }) (v := ?_) rfl (by kernel_rfl) (by kernel_rfl) (by kernel_rfl) (fun _ _ _ h => h) (Or.inl ⟨by rfl, ?hy⟩) (by assumption) ?_
              case hy => (intro w9 hSw; (try dsimp only at hSw); go_simp; try with_reducible rfl)
              try simp only [Act.put, List.setIfInBounds_toArray, List.set_cons_zero, List.set_cons_succ]
              refine wpAnyH_take (i := 2) (oi := { dst := some 48, op := Go.Op.indexAddr 22 (Go.Operand.tmp 46) (Go.Operand.tmp 47), type := 0, pos := "sperner.go:388", after := #[{ on := 0, ground := Go.Ground.data }, { on := 1, ground := Go.Ground.data }], guard := none }) (v := ?_) rfl (by kernel_rfl) (by kernel_rfl) (by kernel_rfl) (fun _ _ _ h => h) (Or.inl ⟨by rfl, ?hy⟩) (by assumption) ?_
              case hy => (intro w9 hSw; (try dsimp only at hSw); go_simp; try with_reducible rfl)
              try simp only [Act.put, List.setIfInBounds_toArray, List.set_cons_zero, List.set_cons_succ]
              refine wpAnyH_take (i := 3) (oi := { dst := some 49, op := Go.Op.load 3 (Go.Operand.tmp 48), type := 3, pos := "sperner.go:388", after := #[{ on := 2, ground := Go.Ground.data }], guard := none }) (v := ?_) rfl (by kernel_rfl) (by kernel_rfl) (by kernel_rfl) (fun _ _ _ h => h) (Or.inl ⟨by rfl, ?hy⟩) (by assumption) ?_
              case hy => (intro w9 hSw; (try dsimp only at hSw); go_simp; try with_reducible rfl)
              try simp only [Act.put, List.setIfInBounds_toArray, List.set_cons_zero, List.set_cons_succ]
              refine wpAnyH_take (i := 4) (oi := { dst := some 50, op := Go.Op.move (Go.Operand.tmp 2), type := 22, pos := "sperner.go:388", after := #[], guard := none }) (v := ?_) rfl (by kernel_rfl) (by kernel_rfl) (by kernel_rfl) (fun _ _ _ h => h) (Or.inl ⟨by rfl, ?hy⟩) (by assumption) ?_
              case hy => (intro w9 hSw; (try dsimp only at hSw); go_simp; try with_reducible rfl)
              try simp only [Act.put, List.setIfInBounds_toArray, List.set_cons_zero, List.set_cons_succ]
              refine wpAnyH_take (i := 5) (oi := { dst := some 51, op := Go.Op.move (Go.Operand.tmp 15), type := 3, pos := "sperner.go:388", after := #[], guard := none }) (v := ?_) rfl (by kernel_rfl) (by kernel_rfl) (by kernel_rfl) (fun _ _ _ h => h) (Or.inl ⟨by rfl, ?hy⟩) (by assumption) ?_
              case hy => (intro w9 hSw; (try dsimp only at hSw); go_simp; try with_reducible rfl)
              try simp only [Act.put, List.setIfInBounds_toArray, List.set_cons_zero, List.set_cons_succ]
              refine wpAnyH_take (i := 6) (oi := { dst := some 52, op := Go.Op.indexAddr 22 (Go.Operand.tmp 50) (Go.Operand.tmp 51), type := 0, pos := "sperner.go:388", after := #[{ on := 4, ground := Go.Ground.data }, { on := 5, ground := Go.Ground.data }], guard := none }) (v := ?_) rfl (by kernel_rfl) (by kernel_rfl) (by kernel_rfl) (fun _ _ _ h => h) (Or.inl ⟨by rfl, ?hy⟩) (by assumption) ?_
              case hy => (intro w9 hSw; (try dsimp only at hSw); go_simp; try with_reducible rfl)
              try simp only [Act.put, List.setIfInBounds_toArray, List.set_cons_zero, List.set_cons_succ]
              refine wpAnyH_take (i := 7) (oi := { dst := some 53, op := Go.Op.load 3 (Go.Operand.tmp 52), type := 3, pos := "sperner.go:388", after := #[{ on := 6, ground := Go.Ground.data }], guard := none }) (v := ?_) rfl (by kernel_rfl) (by kernel_rfl) (by kernel_rfl) (fun _ _ _ h => h) (Or.inl ⟨by rfl, ?hy⟩) (by assumption) ?_
              case hy => (intro w9 hSw; (try dsimp only at hSw); go_simp; try with_reducible rfl)
              try simp only [Act.put, List.setIfInBounds_toArray, List.set_cons_zero, List.set_cons_succ]
              refine wpAnyH_ready (rs := [8]) (by kernel_rfl) (by simp) ?_
              refine AllReadyH.cons (o := { dst := some 54, op := Go.Op.call { callee := Go.Callee.value (Go.Operand.func 30), args := #[Go.Operand.tmp 49, Go.Operand.tmp 53], argTypes := #[3, 3] }, type := 4, pos := "sperner.go:388", after := #[{ on := 3, ground := Go.Ground.data }, { on := 7, ground := Go.Ground.data }], guard := none }) rfl (fun K hK => ?_) AllReadyH.nil
              go_simp
              refine (in_as s (nat F3 k) false _ (by omega) (by omega) hb).mono ?_
              rintro e w9 ⟨rfl, rfl⟩
              refine hK.out _ _ ?_ (fun hHeld => ?_)
              · first | assumption | exact hHeld
              clear hK K
              try simp only [Act.put, List.setIfInBounds_toArray, List.set_cons_zero, List.set_cons_succ]
              refine wpAnyH_done (by kernel_rfl) ?_ _
              try simp only [Act.put, List.setIfInBounds_toArray, List.set_cons_zero, List.set_cons_succ]
              have HB9 := (show Hid (Below W6.heap.size W6 _) from hHeld)
              go_wp2_with fail
              go_roundw
              case rel => exact ⟨k + 1, by omega, by rw [HS.out], by go_num, HB9⟩
              case measure => simp [intOf]; omega
            · have HS : Hid (setBy P (k + 1) = setBy P k + pw k) := setBy_yes (by rw [HPI.out, hb])
              go_wp2_with fail
              refine wp_region_held_drew (S := (fun w' => Below W6.heap.size W6 w')) (by kernel_rfl) (HBx.out.drew) (fun hHeld => ?_)
              refine wpAnyH_take (i := 0) (oi := { dst := some 46, op := Go.Op.move (Go.Operand.tmp 11), type := 22, pos := "sperner.go:388", after := #[], guard := none }) (v := ?_) rfl (by kernel_rfl) (by kernel_rfl) (by kernel_rfl) (fun _ _ _ h => h) (Or.inl ⟨by rfl, ?hy⟩) (by assumption) ?_
              case hy => (intro w9 hSw; (try dsimp only at hSw); go_simp; try with_reducible rfl)
              try simp only [Act.put, List.setIfInBounds_toArray, List.set_cons_zero, List.set_cons_succ]
              refine wpAnyH_take (i := 1) (oi := { dst := some 47, op := Go.Op.move (Go.Operand.tmp 13), type := 3, pos := "sperner.go:388", after := #[], guard := none }) (v := ?_) rfl (by kernel_rfl) (by kernel_rfl) (by kernel_rfl) (fun _ _ _ h => h) (Or.inl ⟨by rfl, ?hy⟩) (by assumption) ?_
              case hy => (intro w9 hSw; (try dsimp only at hSw); go_simp; try with_reducible rfl)
              try simp only [Act.put, List.setIfInBounds_toArray, List.set_cons_zero, List.set_cons_succ]
              refine wpAnyH_take (i := 2) (oi := { dst := some 48, op := Go.Op.indexAddr 22 (Go.Operand.tmp 46) (Go.Operand.tmp 47), type := 0, pos := "sperner.go:388", after := #[{ on := 0, ground := Go.Ground.data }, { on := 1, ground := Go.Ground.data }], guard := none }) (v := ?_) rfl (by kernel_rfl) (by kernel_rfl) (by kernel_rfl) (fun _ _ _ h => h) (Or.inl ⟨by rfl, ?hy⟩) (by assumption) ?_
              case hy => (intro w9 hSw; (try dsimp only at hSw); go_simp; try with_reducible rfl)
              try simp only [Act.put, List.setIfInBounds_toArray, List.set_cons_zero, List.set_cons_succ]
              refine wpAnyH_take (i := 3) (oi := { dst := some 49, op := Go.Op.load 3 (Go.Operand.tmp 48), type := 3, pos := "sperner.go:388", after := #[{ on := 2, ground := Go.Ground.data }], guard := none }) (v := ?_) rfl (by kernel_rfl) (by kernel_rfl) (by kernel_rfl) (fun _ _ _ h => h) (Or.inl ⟨by rfl, ?hy⟩) (by assumption) ?_
              case hy => (intro w9 hSw; (try dsimp only at hSw); go_simp; try with_reducible rfl)
              try simp only [Act.put, List.setIfInBounds_toArray, List.set_cons_zero, List.set_cons_succ]
              refine wpAnyH_take (i := 4) (oi := { dst := some 50, op := Go.Op.move (Go.Operand.tmp 2), type := 22, pos := "sperner.go:388", after := #[], guard := none }) (v := ?_) rfl (by kernel_rfl) (by kernel_rfl) (by kernel_rfl) (fun _ _ _ h => h) (Or.inl ⟨by rfl, ?hy⟩) (by assumption) ?_
              case hy => (intro w9 hSw; (try dsimp only at hSw); go_simp; try with_reducible rfl)
              try simp only [Act.put, List.setIfInBounds_toArray, List.set_cons_zero, List.set_cons_succ]
              refine wpAnyH_take (i := 5) (oi := { dst := some 51, op := Go.Op.move (Go.Operand.tmp 15), type := 3, pos := "sperner.go:388", after := #[], guard := none }) (v := ?_) rfl (by kernel_rfl) (by kernel_rfl) (by kernel_rfl) (fun _ _ _ h => h) (Or.inl ⟨by rfl, ?hy⟩) (by assumption) ?_
              case hy => (intro w9 hSw; (try dsimp only at hSw); go_simp; try with_reducible rfl)
              try simp only [Act.put, List.setIfInBounds_toArray, List.set_cons_zero, List.set_cons_succ]
              refine wpAnyH_take (i := 6) (oi := { dst := some 52, op := Go.Op.indexAddr 22 (Go.Operand.tmp 50) (Go.Operand.tmp 51), type := 0, pos := "sperner.go:388", after := #[{ on := 4, ground := Go.Ground.data }, { on := 5, ground := Go.Ground.data }], guard := none }) (v := ?_) rfl (by kernel_rfl) (by kernel_rfl) (by kernel_rfl) (fun _ _ _ h => h) (Or.inl ⟨by rfl, ?hy⟩) (by assumption) ?_
              case hy => (intro w9 hSw; (try dsimp only at hSw); go_simp; try with_reducible rfl)
              try simp only [Act.put, List.setIfInBounds_toArray, List.set_cons_zero, List.set_cons_succ]
              refine wpAnyH_take (i := 7) (oi := { dst := some 53, op := Go.Op.load 3 (Go.Operand.tmp 52), type := 3, pos := "sperner.go:388", after := #[{ on := 6, ground := Go.Ground.data }], guard := none }) (v := ?_) rfl (by kernel_rfl) (by kernel_rfl) (by kernel_rfl) (fun _ _ _ h => h) (Or.inl ⟨by rfl, ?hy⟩) (by assumption) ?_
              case hy => (intro w9 hSw; (try dsimp only at hSw); go_simp; try with_reducible rfl)
              try simp only [Act.put, List.setIfInBounds_toArray, List.set_cons_zero, List.set_cons_succ]
              refine wpAnyH_ready (rs := [8]) (by kernel_rfl) (by simp) ?_
              refine AllReadyH.cons (o := { dst := some 54, op := Go.Op.call { callee := Go.Callee.value (Go.Operand.func 30), args := #[Go.Operand.tmp 49, Go.Operand.tmp 53], argTypes := #[3, 3] }, type := 4, pos := "sperner.go:388", after := #[{ on := 3, ground := Go.Ground.data }, { on := 7, ground := Go.Ground.data }], guard := none }) rfl (fun K hK => ?_) AllReadyH.nil
              go_simp
              refine (in_as s (nat F3 k) true _ (by omega) (by omega) hb).mono ?_
              rintro e w9 ⟨rfl, rfl⟩
              refine hK.out _ _ ?_ (fun hHeld => ?_)
              · first | assumption | exact hHeld
              clear hK K
              try simp only [Act.put, List.setIfInBounds_toArray, List.set_cons_zero, List.set_cons_succ]
              refine wpAnyH_done (by kernel_rfl) ?_ _
              try simp only [Act.put, List.setIfInBounds_toArray, List.set_cons_zero, List.set_cons_succ]
              have HB9 := (show Hid (Below W6.heap.size W6 _) from hHeld)
              go_wp2_with (go_at_call 21; refine (bit_any k _ (by omega)).mono ?_; rintro e w' ⟨rfl, rfl⟩)
              go_roundw
              case rel => exact ⟨k + 1, by omega, by rw [HS.out]; go_num, by go_num, HB9⟩
              case measure => simp [intOf]; omega
          · obtain rfl : k = l3 := by omega
            rw [← HFR.out]
            cases bb
            · have HBB2 : Hid (false = true ↔ ∀ j, j < i + 1 → frm (nat F3) k (nth L j) ∈ M) := ⟨fun h => (by cases h), fun h => HBB.out.2 fun j hj => h j (by omega)⟩
              clear HBB
              go_wp2_with fail
              go_roundw
              case rel => exact ⟨false, i + 1, by omega, rfl, by go_num, HBB2, HBx⟩
              case measure => simp [intOf]; omega
            · by_cases hm : frm (nat F3) k s ∈ M
              · have HBB2 : Hid (∀ j, j < i + 1 → frm (nat F3) k (nth L j) ∈ M) := upto_succ (HBB.out.1 rfl) (by rw [hse]; exact hm)
                have HMM := (show Hid _ from mem_nth hm)
                clear HBB hm
                go_wp2_with fail
                refine (place_in M ma M.length mc (frm (nat F3) k s) _ (by unfold maxLen; omega) rfl (HX6.out _ HBx.out) HMM.out).mono ?_
                rintro e w9 ⟨⟨r, rfl⟩, rfl⟩
                go_wp2_with fail
                go_roundw
                case rel => exact ⟨true, i + 1, by omega, rfl, by go_num, ⟨fun _ => HBB2.out, fun _ => rfl⟩, HBx⟩
                case measure => simp [intOf]; omega
              · have HBB2 : Hid (false = true ↔ ∀ j, j < i + 1 → frm (nat F3) k (nth L j) ∈ M) := ⟨fun h => (by cases h), fun h => absurd (by rw [← hse]; exact h i (by omega)) hm⟩
                have HMM : Hid (∀ q, q < M.length → nth M q ≠ frm (nat F3) k s) := fun q hq e => hm (e ▸ nth_mem hq)
                clear HBB hm
                go_wp2_with fail
                refine (place_out M ma M.length mc (frm (nat F3) k s) _ (by unfold maxLen; omega) rfl (HX6.out _ HBx.out) HMM.out).mono ?_
                rintro e w9 ⟨rfl, rfl⟩
                go_wp2_with fail
                go_roundw
                case rel => exact ⟨false, i + 1, by omega, rfl, by go_num, HBB2, HBx⟩
                case measure => simp [intOf]; omega
      · obtain rfl : i = L.length := by omega
        have hvb : v = bb := by
          rw [Bool.eq_iff_iff]
          refine HVS.out.trans (Iff.trans ?_ HBB.out.symm)
          constructor
          · exact fun h j hj => h _ (nth_mem hj)
          · intro h s hs
            obtain ⟨j, hj, rfl⟩ := mem_nth hs
            exact h j hj
        subst hvb
        have HBF : Hid (Below w.heap.size w wr) := HXB.out _ HBx.out
        clear HBB HVS
        go_wp2_with fail
        refine (spaceBegun_any _ (HXT.out _ HBx.out)).mono ?_
        rintro e w7 ⟨rfl, hb7⟩
        have HB7 : Hid (Below w.heap.size w w7) := Below.then HBF.out hb7
        clear hb7
        go_wp2_with fail
        refine (truthIs_any 0 v v _ (.inr ⟨rfl, rfl⟩)).mono ?_
        rintro e w8 ⟨rfl, rfl⟩
        go_wp2_with fail
        go_ret
        exact ⟨rfl, HB7.out⟩
  · have hne : (c == 0) = false := by simpa using h0
    obtain rfl : v = false := by
      rcases HV.out with ⟨_, h⟩ | ⟨h, _⟩
      · exact h
      · exact absurd h h0
    have H0 : Hid (c ≠ 0) := h0
    clear h0 HV HC
    go_wp2_with fail
    go_loopw [10, 13] (fun b i wx => b = .bool false ∧ i = .int .i64 0 ∧ wx = w2) (fun _ _ _ => 0)
    case atStart => exact ⟨rfl, rfl, rfl⟩
    case round =>
      obtain ⟨rfl, rfl, rfl⟩ := hrel
      go_wp2_with fail
      refine (spaceBegun_any _ (HT.out.step H2.out)).mono ?_
      rintro e w7 ⟨rfl, hb7⟩
      have HB7 : Hid (Below w.heap.size w w7) := Below.then (Below.then HB.out H2.out) hb7
      clear hb7
      go_wp2_with fail
      refine (truthIs_any c false false _ (.inl ⟨H0.out, rfl⟩)).mono ?_
      rintro e w8 ⟨rfl, rfl⟩
      go_wp2_with fail
      go_ret
      exact ⟨rfl, HB7.out⟩
end Go.Proofs.YtggngpnenbjidaaDoor
