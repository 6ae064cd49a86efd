/-
  What the reference's CheckWeights answers, whatever lists it is handed. No condition but that slices read as slices of rows.
-/
import Derived.Deep.RegionHeld3
import Derived.Test.YtoagfjikjdacoaaChkW
namespace Go.Proofs.Ytoagfjikjdacoaa
set_option maxRecDepth 100000
open Go.RowKit

/-- What has been found so far. -/
def Found (c : Int) (P : Prop) : Prop := (c = 0 ∧ P) ∨ (c = 3 ∧ ¬ P)
theorem Found.mono {c : Int} {P Q : Prop} (h : Found c P) (e : P ↔ Q) : Found c Q := by
  rcases h with ⟨h1, h2⟩ | ⟨h1, h2⟩
  · exact .inl ⟨h1, e.1 h2⟩
  · exact .inr ⟨h1, fun q => h2 (e.2 q)⟩
def InrTo (i y : Nat) (S : Nat → Option Addr × Nat × Nat) (F : Nat → Nat → Int) : Prop := Inr i S F ∧ ∀ j, j < y → 0 ≤ F i j ∧ F i j ≤ 1000

set_option maxHeartbeats 4000000 in
theorem checkWeights_any (N : Int) (a : Option Addr) (m cap : Nat) (S : Nat → Option Addr × Nat × Nat) (F : Nat → Nat → Int) (w : World) (hm : m ≤ maxLen) (hr : RR w a m S F) :
    Calls Try.prog 10 #[.int .i64 N, .slice a m cap] w fun e w' => (∃ c : Int, e = .returned (.int .i64 c) ∧ WChk N m S F c) ∧ Below w.heap.size w w' := by
  have HR : Hid (RR w a m S F) := hr
  clear hr
  unfold maxLen at hm
  by_cases hn : 0 ≤ N ∧ N ≤ 6
  · obtain ⟨n, rfl⟩ := Int.eq_ofNat_of_zero_le hn.1
    have hn6 : n ≤ 6 := by omega
    have hps := pw6 hn6
    have z1 : ¬ (n : Int) < 0 := by omega
    have z2 : ¬ 6 < (n : Int) := by omega
    clear hn
    go_enter Try.func10, Try.ntmps10
    go_wp2_with fail
    go_loopw [5, 6] (fun o i wx => ∃ (k : Nat) (c : Int), k ≤ m ∧ o = .int .i64 c ∧ i = .int .i64 k ∧ Hid (Frm n k S) ∧ Hid (Found c (Inr k S F)) ∧ Hid (Below w.heap.size w wx)) (fun _ i _ => m - (intOf i).toNat)
    case atStart => exact ⟨0, 0, Nat.zero_le _, rfl, rfl, upto_zero, .inl ⟨rfl, fun j hj => absurd hj (Nat.not_lt_zero _)⟩, Below.refl _ _⟩
    case round =>
      obtain ⟨k, c, hk, rfl, rfl, HK, HC, HW⟩ := hrel
      by_cases hlt : k < m
      · obtain ⟨b, off, rfl, hc, hl, hrow⟩ := HR.out k hlt
        unfold maxLen at hl
        have e0 : ∀ w', Below w.heap.size w w' → w'.cell? ⟨b, off + k, none⟩ = some (.slice (S k).1 (S k).2.1 (S k).2.2) := fun w' h => (h.cell (World.block_lt_of_cell? _ _ hc)).trans hc
        have hlt' : (k : Int) < (m : Int) := by omega
        have HRow : Hid (∀ w', Below w.heap.size w w' → Row w' (S k).1 (S k).2.1 (F k)) := fun w' h => hrow.below h
        clear hrow hc
        generalize hs1 : (S k).1 = r1 at *
        generalize hs2 : (S k).2.1 = r2 at *
        generalize hs3 : (S k).2.2 = r3 at *
        have HS2 : Hid ((S k).2.1 = r2) := hs2
        by_cases he : r2 = pw n
        · have he' : ((r2 : Int) != ((pw n : Nat) : Int)) = false := by simp; omega
          have HN : Hid (Frm n (k + 1) S) := upto_succ HK.out (by rw [HS2.out]; exact he)
          have HC0 : Hid (Found c (InrTo k 0 S F)) := HC.out.mono ⟨fun h => ⟨h, upto_zero⟩, fun h => h.1⟩
          clear HC HK hs1 hs2 hs3
          go_wp2_with fail
          refine wp_region_held_drew (S := (fun w' => Below w.heap.size w w')) (by kernel_rfl) (below_drewN HW.out 1) (fun hHeld => ?_)
          refine wpAnyH_take (i := 0) (oi := { dst := some 20, op := Go.Op.move (Go.Operand.tmp 1), type := 39, pos := "quotient.go:461", after := #[], guard := none }) (v := ?_) rfl (by kernel_rfl) (by kernel_rfl) (by kernel_rfl) (fun _ _ _ h => h) (Or.inl ⟨by rfl, ?hy⟩) (by assumption) ?_
          case hy => (intro w9 hSw; (try dsimp only at hSw); go_simp; try with_reducible rfl)
          try simp only [Act.put, List.setIfInBounds_toArray, List.set_cons_zero, List.set_cons_succ]
          refine wpAnyH_take (i := 1) (oi := { dst := some 21, op := Go.Op.move (Go.Operand.tmp 6), type := 3, pos := "quotient.go:461", after := #[], guard := none }) (v := ?_) rfl (by kernel_rfl) (by kernel_rfl) (by kernel_rfl) (fun _ _ _ h => h) (Or.inl ⟨by rfl, ?hy⟩) (by assumption) ?_
          case hy => (intro w9 hSw; (try dsimp only at hSw); go_simp; try with_reducible rfl)
          try simp only [Act.put, List.setIfInBounds_toArray, List.set_cons_zero, List.set_cons_succ]
          refine wpAnyH_take (i := 2) (oi := { dst := some 22, op := Go.Op.indexAddr 39 (Go.Operand.tmp 20) (Go.Operand.tmp 21), type := 0, pos := "quotient.go:461", after := #[{ on := 0, ground := Go.Ground.data }, { on := 1, ground := Go.Ground.data }], guard := none }) (v := ?_) rfl (by kernel_rfl) (by kernel_rfl) (by kernel_rfl) (fun _ _ _ h => h) (Or.inl ⟨by rfl, ?hy⟩) (by assumption) ?_
          case hy => (intro w9 hSw; (try dsimp only at hSw); go_simp; try with_reducible rfl)
          try simp only [Act.put, List.setIfInBounds_toArray, List.set_cons_zero, List.set_cons_succ]
          refine wpAnyH_take (i := 3) (oi := { dst := some 23, op := Go.Op.load 22 (Go.Operand.tmp 22), type := 22, pos := "quotient.go:461", after := #[{ on := 2, ground := Go.Ground.data }], guard := none }) (v := ?_) rfl (by kernel_rfl) (by kernel_rfl) (by kernel_rfl) (fun _ _ _ h => h) (Or.inl ⟨by rfl, ?hy⟩) (by assumption) ?_
          case hy => (intro w9 hSw; (try dsimp only at hSw); go_simp; try with_reducible rfl)
          try simp only [Act.put, List.setIfInBounds_toArray, List.set_cons_zero, List.set_cons_succ]
          refine wpAnyH_take (i := 4) (oi := { dst := some 24, op := Go.Op.call { callee := Go.Callee.builtin Go.Builtin.len, args := #[Go.Operand.tmp 23], argTypes := #[22] }, type := 3, pos := "quotient.go:461", after := #[{ on := 3, ground := Go.Ground.data }], guard := none }) (v := ?_) rfl (by kernel_rfl) (by kernel_rfl) (by kernel_rfl) (fun _ _ _ h => h) (Or.inl ⟨by rfl, ?hy⟩) (by assumption) ?_
          case hy => (intro w9 hSw; (try dsimp only at hSw); go_simp; try with_reducible rfl)
          try simp only [Act.put, List.setIfInBounds_toArray, List.set_cons_zero, List.set_cons_succ]
          refine wpAnyH_take (i := 5) (oi := { dst := some 25, op := Go.Op.move (Go.Operand.tmp 0), type := 3, pos := "quotient.go:461", after := #[], guard := none }) (v := ?_) rfl (by kernel_rfl) (by kernel_rfl) (by kernel_rfl) (fun _ _ _ h => h) (Or.inl ⟨by rfl, ?hy⟩) (by assumption) ?_
          case hy => (intro w9 hSw; (try dsimp only at hSw); go_simp; try with_reducible rfl)
          try simp only [Act.put, List.setIfInBounds_toArray, List.set_cons_zero, List.set_cons_succ]
          refine wpAnyH_ready (rs := [6]) (by kernel_rfl) (by simp) ?_
          refine AllReadyH.cons (o := { dst := some 26, op := Go.Op.call { callee := Go.Callee.value (Go.Operand.func 24), args := #[Go.Operand.tmp 25], argTypes := #[3] }, type := 3, pos := "quotient.go:461", after := #[{ on := 5, ground := Go.Ground.data }], guard := none }) rfl (fun K hK => ?_) AllReadyH.nil
          go_simp
          refine (bit_any n _ (by omega)).mono ?_
          rintro e w1 ⟨rfl, rfl⟩
          refine hK.out _ _ ?_ (fun hHeld => ?_)
          · first | assumption | exact Below.then (by assumption) (by assumption)
          clear hK K
          try simp only [Act.put, List.setIfInBounds_toArray, List.set_cons_zero, List.set_cons_succ]
          refine wpAnyH_take (i := 7) (oi := { dst := some 27, op := Go.Op.binOp Go.BinOp.neq 3 (Go.Operand.tmp 24) (Go.Operand.tmp 26) 3, type := 4, pos := "quotient.go:461", after := #[{ on := 4, ground := Go.Ground.data }, { on := 6, ground := Go.Ground.data }], guard := none }) (v := ?_) rfl (by kernel_rfl) (by kernel_rfl) (by kernel_rfl) (fun _ _ _ h => h) (Or.inl ⟨by rfl, ?hy⟩) (by assumption) ?_
          case hy => (intro w9 hSw; (try dsimp only at hSw); go_simp; try with_reducible rfl)
          try simp only [Act.put, List.setIfInBounds_toArray, List.set_cons_zero, List.set_cons_succ]
          refine wpAnyH_done (by kernel_rfl) ?_ _
          try simp only [Act.put, List.setIfInBounds_toArray, List.set_cons_zero, List.set_cons_succ]
          go_wp2_with fail
          go_loopw [5, 7] (fun o i wx => ∃ (y : Nat) (c : Int), y ≤ r2 ∧ o = .int .i64 c ∧ i = .int .i64 y ∧ Hid (Found c (InrTo k y S F)) ∧ Hid (Below w.heap.size w wx)) (fun _ i _ => r2 - (intOf i).toNat)
          case atStart => exact ⟨0, c, Nat.zero_le _, rfl, rfl, HC0.out, hHeld⟩
          case round =>
            clear HC0 HW hHeld
            obtain ⟨y, d, hy, rfl, rfl, HC, HW⟩ := hrel
            have e1 := e0 _ HW.out
            by_cases hylt : y < r2
            · obtain ⟨b', off', hr1, hc'⟩ := HRow.out _ HW.out y hylt
              subst hr1
              have hy' : (y : Int) < (r2 : Int) := by omega
              by_cases hp : 0 ≤ F k y ∧ F k y ≤ 1000
              · have HM : Hid (Found d (InrTo k (y + 1) S F)) := HC.out.mono ⟨fun h => ⟨h.1, upto_succ h.2 hp⟩, fun h => ⟨h.1, fun j hj => h.2 j (by omega)⟩⟩
                have hp1 : ¬ F k y < 0 := by omega
                have hp2 : ¬ 1000 < F k y := by omega
                clear hp HC e0
                go_wp2_with fail
                go_roundw
                case rel => exact ⟨y + 1, d, by omega, rfl, by go_num, HM.out, HW.out⟩
                case measure => simp [intOf]; omega
              · have HM : Hid (Found 3 (InrTo k (y + 1) S F)) := .inr ⟨rfl, fun h => hp (h.2 y (by omega))⟩
                by_cases hp1 : F k y < 0
                · clear hp HC e0
                  go_wp2_with fail
                  go_roundw
                  case rel => exact ⟨y + 1, 3, by omega, rfl, by go_num, HM.out, HW.out⟩
                  case measure => simp [intOf]; omega
                · have hp2 : 1000 < F k y := by omega
                  clear hp HC e0
                  go_wp2_with fail
                  go_roundw
                  case rel => exact ⟨y + 1, 3, by omega, rfl, by go_num, HM.out, HW.out⟩
                  case measure => simp [intOf]; omega
            · obtain rfl : y = r2 := by omega
              have HM : Hid (Found d (Inr (k + 1) S F)) := HC.out.mono ⟨fun h x hx i' hi' => by
                  by_cases e : x = k
                  · subst e; rw [HS2.out] at hi'; exact h.2 i' hi'
                  · exact h.1 x (by omega) i' hi', fun h => ⟨fun x hx => h x (by omega), fun j hj => h k (by omega) j (by rw [HS2.out]; exact hj)⟩⟩
              clear e0 HC
              go_wp2_with fail
              go_roundw
              case rel => exact ⟨k + 1, d, by omega, rfl, by go_num, HN.out, HM.out, HW.out⟩
              case measure => simp [intOf]; omega
        · have he' : ((r2 : Int) != ((pw n : Nat) : Int)) = true := by simp; omega
          have HN : Hid (¬ Frm n m S) := fun h => he (by rw [← h k hlt, HS2.out])
          clear HC HK hs1 hs2 hs3
          go_wp2_with fail
          refine wp_region_held_drew (S := (fun w' => Below w.heap.size w w')) (by kernel_rfl) (below_drewN HW.out 1) (fun hHeld => ?_)
          refine wpAnyH_take (i := 0) (oi := { dst := some 20, op := Go.Op.move (Go.Operand.tmp 1), type := 39, pos := "quotient.go:461", after := #[], guard := none }) (v := ?_) rfl (by kernel_rfl) (by kernel_rfl) (by kernel_rfl) (fun _ _ _ h => h) (Or.inl ⟨by rfl, ?hy⟩) (by assumption) ?_
          case hy => (intro w9 hSw; (try dsimp only at hSw); go_simp; try with_reducible rfl)
          try simp only [Act.put, List.setIfInBounds_toArray, List.set_cons_zero, List.set_cons_succ]
          refine wpAnyH_take (i := 1) (oi := { dst := some 21, op := Go.Op.move (Go.Operand.tmp 6), type := 3, pos := "quotient.go:461", after := #[], guard := none }) (v := ?_) rfl (by kernel_rfl) (by kernel_rfl) (by kernel_rfl) (fun _ _ _ h => h) (Or.inl ⟨by rfl, ?hy⟩) (by assumption) ?_
          case hy => (intro w9 hSw; (try dsimp only at hSw); go_simp; try with_reducible rfl)
          try simp only [Act.put, List.setIfInBounds_toArray, List.set_cons_zero, List.set_cons_succ]
          refine wpAnyH_take (i := 2) (oi := { dst := some 22, op := Go.Op.indexAddr 39 (Go.Operand.tmp 20) (Go.Operand.tmp 21), type := 0, pos := "quotient.go:461", after := #[{ on := 0, ground := Go.Ground.data }, { on := 1, ground := Go.Ground.data }], guard := none }) (v := ?_) rfl (by kernel_rfl) (by kernel_rfl) (by kernel_rfl) (fun _ _ _ h => h) (Or.inl ⟨by rfl, ?hy⟩) (by assumption) ?_
          case hy => (intro w9 hSw; (try dsimp only at hSw); go_simp; try with_reducible rfl)
          try simp only [Act.put, List.setIfInBounds_toArray, List.set_cons_zero, List.set_cons_succ]
          refine wpAnyH_take (i := 3) (oi := { dst := some 23, op := Go.Op.load 22 (Go.Operand.tmp 22), type := 22, pos := "quotient.go:461", after := #[{ on := 2, ground := Go.Ground.data }], guard := none }) (v := ?_) rfl (by kernel_rfl) (by kernel_rfl) (by kernel_rfl) (fun _ _ _ h => h) (Or.inl ⟨by rfl, ?hy⟩) (by assumption) ?_
          case hy => (intro w9 hSw; (try dsimp only at hSw); go_simp; try with_reducible rfl)
          try simp only [Act.put, List.setIfInBounds_toArray, List.set_cons_zero, List.set_cons_succ]
          refine wpAnyH_take (i := 4) (oi := { dst := some 24, op := Go.Op.call { callee := Go.Callee.builtin Go.Builtin.len, args := #[Go.Operand.tmp 23], argTypes := #[22] }, type := 3, pos := "quotient.go:461", after := #[{ on := 3, ground := Go.Ground.data }], guard := none }) (v := ?_) rfl (by kernel_rfl) (by kernel_rfl) (by kernel_rfl) (fun _ _ _ h => h) (Or.inl ⟨by rfl, ?hy⟩) (by assumption) ?_
          case hy => (intro w9 hSw; (try dsimp only at hSw); go_simp; try with_reducible rfl)
          try simp only [Act.put, List.setIfInBounds_toArray, List.set_cons_zero, List.set_cons_succ]
          refine wpAnyH_take (i := 5) (oi := { dst := some 25, op := Go.Op.move (Go.Operand.tmp 0), type := 3, pos := "quotient.go:461", after := #[], guard := none }) (v := ?_) rfl (by kernel_rfl) (by kernel_rfl) (by kernel_rfl) (fun _ _ _ h => h) (Or.inl ⟨by rfl, ?hy⟩) (by assumption) ?_
          case hy => (intro w9 hSw; (try dsimp only at hSw); go_simp; try with_reducible rfl)
          try simp only [Act.put, List.setIfInBounds_toArray, List.set_cons_zero, List.set_cons_succ]
          refine wpAnyH_ready (rs := [6]) (by kernel_rfl) (by simp) ?_
          refine AllReadyH.cons (o := { dst := some 26, op := Go.Op.call { callee := Go.Callee.value (Go.Operand.func 24), args := #[Go.Operand.tmp 25], argTypes := #[3] }, type := 3, pos := "quotient.go:461", after := #[{ on := 5, ground := Go.Ground.data }], guard := none }) rfl (fun K hK => ?_) AllReadyH.nil
          go_simp
          refine (bit_any n _ (by omega)).mono ?_
          rintro e w1 ⟨rfl, rfl⟩
          refine hK.out _ _ ?_ (fun hHeld => ?_)
          · first | assumption | exact Below.then (by assumption) (by assumption)
          clear hK K
          try simp only [Act.put, List.setIfInBounds_toArray, List.set_cons_zero, List.set_cons_succ]
          refine wpAnyH_take (i := 7) (oi := { dst := some 27, op := Go.Op.binOp Go.BinOp.neq 3 (Go.Operand.tmp 24) (Go.Operand.tmp 26) 3, type := 4, pos := "quotient.go:461", after := #[{ on := 4, ground := Go.Ground.data }, { on := 6, ground := Go.Ground.data }], guard := none }) (v := ?_) rfl (by kernel_rfl) (by kernel_rfl) (by kernel_rfl) (fun _ _ _ h => h) (Or.inl ⟨by rfl, ?hy⟩) (by assumption) ?_
          case hy => (intro w9 hSw; (try dsimp only at hSw); go_simp; try with_reducible rfl)
          try simp only [Act.put, List.setIfInBounds_toArray, List.set_cons_zero, List.set_cons_succ]
          refine wpAnyH_done (by kernel_rfl) ?_ _
          try simp only [Act.put, List.setIfInBounds_toArray, List.set_cons_zero, List.set_cons_succ]
          go_wp2_with fail
          go_ret
          exact ⟨⟨_, rfl, .inr ⟨n, rfl, hn6, .inl ⟨rfl, HN.out⟩⟩⟩, hHeld⟩
      · obtain rfl : k = m := by omega
        have HM : Hid (WChk n k S F c) := by
          rcases HC.out with ⟨rfl, h⟩ | ⟨rfl, h⟩
          · exact .inr ⟨n, rfl, hn6, .inr ⟨HK.out, .inr ⟨rfl, h⟩⟩⟩
          · exact .inr ⟨n, rfl, hn6, .inr ⟨HK.out, .inl ⟨rfl, h⟩⟩⟩
        clear HC HK
        go_wp2_with fail
        go_ret
        exact ⟨⟨_, rfl, HM.out⟩, HW.out⟩
  · have HN : Hid (¬ (0 ≤ N ∧ N ≤ 6)) := hn
    by_cases z1 : N < 0
    · clear hn
      go_enter Try.func10, Try.ntmps10
      go_wp2_with fail
      go_ret
      exact ⟨⟨_, rfl, .inl ⟨rfl, HN.out⟩⟩, Below.refl _ _⟩
    · have z2 : 6 < N := by omega
      clear hn
      go_enter Try.func10, Try.ntmps10
      go_wp2_with fail
      go_ret
      exact ⟨⟨_, rfl, .inl ⟨rfl, HN.out⟩⟩, Below.refl _ _⟩
end Go.Proofs.Ytoagfjikjdacoaa
