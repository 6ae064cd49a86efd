/-
  What hasselaw.LatticeOne answers: true. Conditions: the library's table lies in its variable; slices read as slices of rows.
-/
import Derived.Deep.RegionHeld3
import Derived.Test.YtcngjmbiinifnaaDoorLBegun
import Derived.Test.YtcngjmbiinifnaaDoorOth
namespace Go.Proofs.YtcngjmbiinifnaaDoor
open Go.RowKit

set_option maxHeartbeats 1000000 in
theorem place_in (l : List Nat) (x : Nat) (v : Value) (w : World) (hl : l.length ≤ maxLen) (hv : NSl w v l) (hx : x ∈ l) :
    Calls Tryd.prog 25 #[v, .int .i64 (x : Nat)] w fun e w' => (∃ k : Nat, e = .returned (.int .i64 (k : Nat))) ∧ w = w' := by
  obtain ⟨a, cap, rfl, hr⟩ := hv
  obtain ⟨m, HM⟩ : ∃ m, Hid (m = l.length) := ⟨_, rfl⟩
  rw [← HM.out] at hl hr ⊢
  have HR : Hid (Row w a m (fun k => (nth l k : Nat))) := hr
  obtain ⟨i, hi, he⟩ := List.getElem_of_mem hx
  have him : i < m := by rw [HM.out]; exact hi
  have HI : Hid (nth l i = x) := by simp [Hid, nth, hi, he]
  unfold maxLen at hl
  clear hr hx he hi
  go_enter Tryd.func25, Tryd.ntmps25
  go_wp2_with fail
  go_loopw [5] (fun i' wx => ∃ k : Nat, k ≤ i ∧ i' = .int .i64 k ∧ wx = w) (fun i' _ => m - (intOf i').toNat)
  case atStart => exact ⟨0, Nat.zero_le _, rfl, rfl⟩
  case round =>
    obtain ⟨k, hk, rfl, rfl⟩ := hrel
    have hkm : k < m := by omega
    obtain ⟨bb, off, rfl, hc⟩ := HR.out k hkm
    have hc2 : wr.cell? ⟨bb, off + k, none⟩ = some (.int .i64 (nth l k : Nat)) := hc
    have hk' : (k : Int) < (m : Int) := by omega
    clear hc
    obtain ⟨q, hq⟩ : ∃ q, (nth l k == x) = q := ⟨_, rfl⟩
    rcases q with _ | _
    · have hne : k ≠ i := by
        intro e; subst e; rw [HI.out] at hq; simp at hq
      have hq' : (((nth l k : Nat) : Int) == (x : Int)) = false := by rw [int_beq]; exact hq
      generalize nth l k = p at *
      clear hq
      go_wp2_with fail
      go_roundw
      case rel => exact ⟨k + 1, by omega, by go_num, by first | rfl | trivial⟩
      case measure => simp [intOf]; omega
    · have hq' : (((nth l k : Nat) : Int) == (x : Int)) = true := by rw [int_beq]; exact hq
      generalize nth l k = p at *
      clear hq
      go_wp2_with fail
      go_ret
      exact ⟨⟨k, rfl⟩, rfl⟩

set_option maxHeartbeats 1000000 in
theorem latticeOne_any (n : Int) (a : Option Addr) (la ca : Nat) (SA : Nat → Option Addr × Nat × Nat) (FA : Nat → Nat → Int) (b : Option Addr) (lb cb : Nat) (SB : Nat → Option Addr × Nat × Nat) (FB : Nat → Nat → Int) (x : Int) (w : World) (hla : la ≤ maxLen) (hlb : lb ≤ maxLen) (hra : RR w a la SA FA) (hrb : RR w b lb SB FB) (hT : Tab w) :
    Calls Tryd.prog 8 #[.agg #[.int .i64 n, .slice a la ca, .slice b lb cb], .int .i64 x] w fun e w' => e = .returned (.bool true) ∧ Below w.heap.size w w' := by
  have B1 : Below w.heap.size w (w.alloc (.cells #[.int .i64 n, .slice a la ca, .slice b lb cb] 24)) := (Below.refl _ _).alloc (Nat.le_refl _) _
  have L0 := LB.new w n a la ca b lb cb
  have HRA0 : Hid (∀ w', Below w.heap.size w w' → RR w' a la SA FA) := fun w' h => hra.below h
  have HRB0 : Hid (∀ w', Below w.heap.size w w' → RR w' b lb SB FB) := fun w' h => hrb.below h
  have HT : Hid (Tab w) := hT
  have HB0 : Hid (Below w.heap.size w (w.alloc (.cells #[.int .i64 n, .slice a la ca, .slice b lb cb] 24))) := B1
  clear hra hrb B1 hT
  go_enter Tryd.func8, Tryd.ntmps8
  go_wp2_with fail
  refine (latticeBegun_any _ (HT.out.step HB0.out)).mono ?_
  rintro e w1 ⟨rfl, hb1⟩
  have L1 := L0.step hb1
  have HB1 : Hid (Below w.heap.size w w1) := Below.then HB0.out hb1
  have l0 := L1.1
  have l1 := L1.2.1
  have l2 := L1.2.2
  clear hb1 HB0 L0
  go_wp2_with fail
  refine (distr_any n a la ca SA FA b lb cb SB FB _ hla hlb (HRA0.out _ HB1.out) (HRB0.out _ HB1.out)).mono ?_
  rintro e w2 ⟨⟨c, va, hc, rfl, hva⟩, hb2⟩
  have L2 := L1.step hb2
  have HB2 : Hid (Below w.heap.size w w2) := Below.then HB1.out hb2
  have m0 := L2.1
  have m1 := L2.2.1
  have m2 := L2.2.2
  have HVA := (show Hid _ from hva)
  have HC : Hid (LCk n la SA FA lb SB FB c) := hc
  clear hb2 HB1 L1 l0 l1 l2 hva
  go_wp2_with fail
  refine (others_any n a la ca SA FA b lb cb SB FB x _ hla hlb (HRA0.out _ HB2.out) (HRB0.out _ HB2.out)).mono ?_
  rintro e w3 ⟨⟨c0, c', v, hc0, hoc, rfl, hv⟩, hb3⟩
  obtain rfl := LCk.one hc0 hc
  have L3 := L2.step hb3
  have HB3 : Hid (Below w.heap.size w w3) := Below.then HB2.out hb3
  clear hb3 HB2 L2 m0 m1 m2 hc0
  by_cases h0 : c0 = 0
  · subst h0
    by_cases h0' : c' = 0
    · subst h0'
      have hx : 0 ≤ x ∧ x < n := by
        rcases hoc with ⟨k, _⟩ | ⟨_, ⟨k, _⟩ | ⟨_, h⟩⟩
        · exact absurd rfl k
        · omega
        · exact h
      obtain ⟨q, rfl, h1, h40, e1, e2, _, _, _, _, hlat⟩ := hc.good
      rcases HVA.out with ⟨k, _⟩ | ⟨_, hva⟩
      · exact absurd rfl k
      rcases hv with ⟨k, _⟩ | ⟨_, hv⟩
      · exact absurd rfl k
      obtain ⟨y, rfl⟩ := Int.eq_ofNat_of_zero_le hx.1
      have hyq : y < q := by omega
      have hq : ((q : Int).toNat) = q := by omega
      have hy : ((y : Int).toNat) = y := by omega
      rw [hq] at hva
      rw [hq, hy] at hv
      have HLEN : Hid (va = true → (oths q (nat2 FA) (nat2 FB) y q).length ≤ 1) := fun h => oths_one (fun s t hs ht k1 k2 => by
        simp only [othB, Bool.and_eq_true, beq_iff_eq] at k1 k2
        exact hlat.one (hva.1 h) hyq hs ht (k1.1.trans k2.1.symm) (k1.2.trans k2.2.symm)) q (Nat.le_refl _)
      have HMEM : Hid (∀ s, s ∈ oths q (nat2 FA) (nat2 FB) y q → s < q ∧ y ∈ oths q (nat2 FA) (nat2 FB) s q) := fun s hs => by
        have h := (oths_mem q (nat2 FA) (nat2 FB) y q s).1 hs
        exact ⟨h.1, (oths_mem q (nat2 FA) (nat2 FB) s q y).2 ⟨hyq, oth_back hlat hyq h.1 h.2⟩⟩
      have HOL : Hid (∀ s, (oths q (nat2 FA) (nat2 FB) s q).length ≤ q) := fun s => oths_len q _ _ s q
      have hol := HOL.out y
      obtain ⟨av, cv, rfl, hrv⟩ := hv
      have HL3 : Hid (LB w3 w.heap.size (q : Nat) a la ca b lb cb) := L3
      have HHH : Hid (∀ s, oths (q : Int).toNat (nat2 FA) (nat2 FB) (s : Int).toNat (q : Int).toNat = oths q (nat2 FA) (nat2 FB) s.toNat q) := fun s => rfl
      generalize hP : oths q (nat2 FA) (nat2 FB) y q = P at *
      obtain ⟨m, HM⟩ : ∃ m, Hid (m = P.length) := ⟨_, rfl⟩
      rw [← HM.out] at hrv HLEN hol
      have HRV : Hid (Row w3 av m (fun k => (nth P k : Nat))) := hrv
      have HIN : Hid (∀ k, k < m → nth P k ∈ P) := fun k hk => by
        have hk' : k < P.length := by rw [← HM.out]; exact hk
        have e : nth P k = P[k] := by simp [nth, hk']
        rw [e]; exact List.getElem_mem hk'
      clear hrv hva hlat HVA hoc hx L3 hc e1 e2
      rw [← HM.out]
      go_wp2_with fail
      go_loopw [9] (fun i wx => ∃ k : Nat, k ≤ m ∧ i = .int .i64 k ∧ Hid (Below w3.heap.size w3 wx)) (fun i _ => m - (intOf i).toNat)
      case atStart => exact ⟨0, Nat.zero_le _, rfl, Below.refl _ _⟩
      case round =>
        obtain ⟨k, hk, rfl, HW⟩ := hrel
        by_cases hlt : k < m
        · obtain ⟨bb, off, rfl, hcv⟩ := (HRV.out.below HW.out) k hlt
          have hcv2 : wr.cell? ⟨bb, off + k, none⟩ = some (.int .i64 (nth P k : Nat)) := hcv
          have hk' : (k : Int) < (m : Int) := by omega
          obtain ⟨hs1, hs2⟩ := HMEM.out _ (HIN.out k hlt)
          clear hcv
          generalize nth P k = s at *
          have HS2 : Hid (y ∈ oths q (nat2 FA) (nat2 FB) s q) := hs2
          have l0 : ∀ w', Below wr.heap.size wr w' → w'.cell? ⟨w.heap.size, 0, none⟩ = some (.int .i64 (q : Nat)) := fun w' h => cell_step h (HL3.out.step HW.out).1
          have l1 : ∀ w', Below wr.heap.size wr w' → w'.cell? ⟨w.heap.size, 1, none⟩ = some (.slice a la ca) := fun w' h => cell_step h (HL3.out.step HW.out).2.1
          have l2 : ∀ w', Below wr.heap.size wr w' → w'.cell? ⟨w.heap.size, 2, none⟩ = some (.slice b lb cb) := fun w' h => cell_step h (HL3.out.step HW.out).2.2
          have l3 : ∀ w', Below wr.heap.size wr w' → w'.cell? ⟨bb, off + k, none⟩ = some (.int .i64 (s : Nat)) := fun w' h => cell_step h hcv2
          have HRA : Hid (∀ w', Below wr.heap.size wr w' → RR w' a la SA FA) := fun w' h => HRA0.out _ (Below.then HB3.out (Below.then HW.out h))
          have HRB : Hid (∀ w', Below wr.heap.size wr w' → RR w' b lb SB FB) := fun w' h => HRB0.out _ (Below.then HB3.out (Below.then HW.out h))
          have KK : Below wr.heap.size wr wr.drew := (Below.refl _ _).drew
          clear hs2
          go_wp2_with fail
          refine wp_region_held_drew (S := (fun w' => Below wr.heap.size wr w')) (by kernel_rfl) (KK) (fun hHeld => ?_)
          refine wpAnyH_take (i := 0) (oi := { dst := some 38, op := Go.Op.load 24 (Go.Operand.tmp 2), type := 24, pos := "lattice.go:503", after := #[], guard := none }) (v := ?_) rfl (by kernel_rfl) (by kernel_rfl) (by kernel_rfl) (fun _ _ _ h => h) (Or.inl ⟨by rfl, ?hy⟩) (by assumption) ?_
          case hy => (intro w9 hSw; (try dsimp only at hSw); go_simp; try with_reducible rfl)
          try simp only [Act.put, List.setIfInBounds_toArray, List.set_cons_zero, List.set_cons_succ]
          refine wpAnyH_take (i := 1) (oi := { dst := some 39, op := Go.Op.move (Go.Operand.tmp 7), type := 25, pos := "lattice.go:503", after := #[], guard := none }) (v := ?_) rfl (by kernel_rfl) (by kernel_rfl) (by kernel_rfl) (fun _ _ _ h => h) (Or.inl ⟨by rfl, ?hy⟩) (by assumption) ?_
          case hy => (intro w9 hSw; (try dsimp only at hSw); go_simp; try with_reducible rfl)
          try simp only [Act.put, List.setIfInBounds_toArray, List.set_cons_zero, List.set_cons_succ]
          refine wpAnyH_take (i := 2) (oi := { dst := some 40, op := Go.Op.move (Go.Operand.tmp 9), type := 3, pos := "lattice.go:503", after := #[], guard := none }) (v := ?_) rfl (by kernel_rfl) (by kernel_rfl) (by kernel_rfl) (fun _ _ _ h => h) (Or.inl ⟨by rfl, ?hy⟩) (by assumption) ?_
          case hy => (intro w9 hSw; (try dsimp only at hSw); go_simp; try with_reducible rfl)
          try simp only [Act.put, List.setIfInBounds_toArray, List.set_cons_zero, List.set_cons_succ]
          refine wpAnyH_take (i := 3) (oi := { dst := some 41, op := Go.Op.indexAddr 25 (Go.Operand.tmp 39) (Go.Operand.tmp 40), type := 0, pos := "lattice.go:503", after := #[{ on := 1, ground := Go.Ground.data }, { on := 2, ground := Go.Ground.data }], guard := none }) (v := ?_) rfl (by kernel_rfl) (by kernel_rfl) (by kernel_rfl) (fun _ _ _ h => h) (Or.inl ⟨by rfl, ?hy⟩) (by assumption) ?_
          case hy => (intro w9 hSw; (try dsimp only at hSw); go_simp; try with_reducible rfl)
          try simp only [Act.put, List.setIfInBounds_toArray, List.set_cons_zero, List.set_cons_succ]
          refine wpAnyH_take (i := 4) (oi := { dst := some 42, op := Go.Op.load 3 (Go.Operand.tmp 41), type := 3, pos := "lattice.go:503", after := #[{ on := 3, ground := Go.Ground.data }], guard := none }) (v := ?_) rfl (by kernel_rfl) (by kernel_rfl) (by kernel_rfl) (fun _ _ _ h => h) (Or.inl ⟨by rfl, ?hy⟩) (by assumption) ?_
          case hy => (intro w9 hSw; (try dsimp only at hSw); go_simp; try with_reducible rfl)
          try simp only [Act.put, List.setIfInBounds_toArray, List.set_cons_zero, List.set_cons_succ]
          refine wpAnyH_ready (rs := [5]) (by kernel_rfl) (by simp) ?_
          refine AllReadyH.cons (o := { dst := some 43, op := Go.Op.call { callee := Go.Callee.value (Go.Operand.func 14), args := #[Go.Operand.tmp 38, Go.Operand.tmp 42], argTypes := #[24, 3] }, type := 35, pos := "lattice.go:503", after := #[{ on := 0, ground := Go.Ground.data }, { on := 4, ground := Go.Ground.data }], guard := none }) rfl (fun K hK => ?_) AllReadyH.nil
          go_simp
          refine (others_any (q : Int) a la ca SA FA b lb cb SB FB _ _ hla hlb (HRA.out _ (by assumption)) (HRB.out _ (by assumption))).mono ?_
          rintro e w5 ⟨⟨d0, d, v5, hd0, hd, rfl, hv5⟩, hb5⟩
          refine hK.out _ _ ?_ (fun hHeld => ?_)
          · first | assumption | exact Below.then (by assumption) (by assumption)
          clear hK K
          try simp only [Act.put, List.setIfInBounds_toArray, List.set_cons_zero, List.set_cons_succ]
          refine wpAnyH_take (i := 6) (oi := { dst := some 37, op := Go.Op.move (Go.Operand.tmp 43), type := 35, pos := "lattice.go:503", after := #[{ on := 5, ground := Go.Ground.data }], guard := none }) (v := ?_) rfl (by kernel_rfl) (by kernel_rfl) (by kernel_rfl) (fun _ _ _ h => h) (Or.inl ⟨by rfl, ?hy⟩) (by assumption) ?_
          case hy => (intro w9 hSw; (try dsimp only at hSw); go_simp; try with_reducible rfl)
          try simp only [Act.put, List.setIfInBounds_toArray, List.set_cons_zero, List.set_cons_succ]
          refine wpAnyH_take (i := 7) (oi := { dst := some 44, op := Go.Op.extract (Go.Operand.tmp 37) 0, type := 25, pos := "lattice.go:503", after := #[{ on := 6, ground := Go.Ground.data }], guard := none }) (v := ?_) rfl (by kernel_rfl) (by kernel_rfl) (by kernel_rfl) (fun _ _ _ h => h) (Or.inl ⟨by rfl, ?hy⟩) (by assumption) ?_
          case hy => (intro w9 hSw; (try dsimp only at hSw); go_simp; try with_reducible rfl)
          try simp only [Act.put, List.setIfInBounds_toArray, List.set_cons_zero, List.set_cons_succ]
          refine wpAnyH_take (i := 8) (oi := { dst := some 45, op := Go.Op.extract (Go.Operand.tmp 37) 1, type := 26, pos := "lattice.go:503", after := #[{ on := 6, ground := Go.Ground.data }, { on := 9, ground := Go.Ground.gcOnly Go.Departure.lateStores }], guard := none }) (v := ?_) rfl (by kernel_rfl) (by kernel_rfl) (by kernel_rfl) (fun _ _ _ h => h) (Or.inl ⟨by rfl, ?hy⟩) (by assumption) ?_
          case hy => (intro w9 hSw; (try dsimp only at hSw); go_simp; try with_reducible rfl)
          try simp only [Act.put, List.setIfInBounds_toArray, List.set_cons_zero, List.set_cons_succ]
          refine wpAnyH_take (i := 9) (oi := { dst := some 10, op := Go.Op.assign (Go.Operand.tmp 44), type := 25, pos := "lattice.go:503", after := #[{ on := 7, ground := Go.Ground.data }, { on := 5, ground := Go.Ground.chain }, { on := 0, ground := Go.Ground.phase }, { on := 1, ground := Go.Ground.phase }, { on := 2, ground := Go.Ground.phase }, { on := 3, ground := Go.Ground.phase }, { on := 4, ground := Go.Ground.phase }, { on := 5, ground := Go.Ground.phase }, { on := 6, ground := Go.Ground.phase }, { on := 7, ground := Go.Ground.phase }, { on := 8, ground := Go.Ground.textOnly Go.Departure.lateStores }], guard := none }) (v := ?_) rfl (by kernel_rfl) (by kernel_rfl) (by kernel_rfl) (fun _ _ _ h => h) (Or.inl ⟨by rfl, ?hy⟩) (by assumption) ?_
          case hy => (intro w9 hSw; (try dsimp only at hSw); go_simp; try with_reducible rfl)
          try simp only [Act.put, List.setIfInBounds_toArray, List.set_cons_zero, List.set_cons_succ]
          refine wpAnyH_take (i := 10) (oi := { dst := some 11, op := Go.Op.assign (Go.Operand.tmp 45), type := 26, pos := "lattice.go:503", after := #[{ on := 8, ground := Go.Ground.data }, { on := 9, ground := Go.Ground.chain }, { on := 0, ground := Go.Ground.phase }, { on := 1, ground := Go.Ground.phase }, { on := 2, ground := Go.Ground.phase }, { on := 3, ground := Go.Ground.phase }, { on := 4, ground := Go.Ground.phase }, { on := 5, ground := Go.Ground.phase }, { on := 6, ground := Go.Ground.phase }, { on := 7, ground := Go.Ground.phase }, { on := 8, ground := Go.Ground.phase }, { on := 9, ground := Go.Ground.phase }], guard := none }) (v := ?_) rfl (by kernel_rfl) (by kernel_rfl) (by kernel_rfl) (fun _ _ _ h => h) (Or.inl ⟨by rfl, ?hy⟩) (by assumption) ?_
          case hy => (intro w9 hSw; (try dsimp only at hSw); go_simp; try with_reducible rfl)
          try simp only [Act.put, List.setIfInBounds_toArray, List.set_cons_zero, List.set_cons_succ]
          refine wpAnyH_done (by kernel_rfl) ?_ _
          try simp only [Act.put, List.setIfInBounds_toArray, List.set_cons_zero, List.set_cons_succ]
          have hb8 : Below wr.heap.size wr w5 := by first | assumption | exact hHeld
          have HW5 : Hid (Below w3.heap.size w3 w5) := Below.then HW.out hb8
          obtain rfl := LCk.one hd0 HC.out
          have hdd : d = 0 := by
            rcases hd with ⟨k, _⟩ | ⟨_, ⟨_, k⟩ | ⟨h, _⟩⟩
            · exact absurd rfl k
            · exact absurd ⟨by omega, by omega⟩ k
            · exact h
          subst hdd
          rcases hv5 with ⟨k, _⟩ | ⟨_, hv5⟩
          · exact absurd rfl k
          have HV5 : Hid (NSl w5 v5 (oths q (nat2 FA) (nat2 FB) s q)) := hv5
          clear hb8 l0 l1 l2 l3 KK hv5 hd hd0 hcv2
          have hqm : q ≤ maxLen := by unfold maxLen; omega
          go_wp2_with fail
          refine (place_in _ y _ _ (Nat.le_trans (HOL.out s) hqm) HV5.out HS2.out).mono ?_
          rintro e w6 ⟨⟨pl, rfl⟩, rfl⟩
          have hpl : decide ((pl : Int) < 0) = false := by simp
          clear HV5
          go_wp2_with fail
          go_roundw
          case rel => exact ⟨k + 1, by omega, by go_num, HW5.out⟩
          case measure => simp [intOf]; omega
        · obtain rfl : k = m := by omega
          rcases va with _ | _
          · go_wp2_with fail
            go_ret
            exact ⟨rfl, Below.then HB3.out HW.out⟩
          · have h1m := HLEN.out rfl
            have h1i : decide ((k : Int) ≤ 1) = true := by simp; omega
            go_wp2_with fail
            go_ret
            exact ⟨by first | rfl | (simp; omega), Below.then HB3.out HW.out⟩
    · have hne : (c' != 0) = true := by simpa using h0'
      clear HVA hv hoc
      go_wp2_with fail
      go_ret
      exact ⟨rfl, HB3.out⟩
  · have hne : (c0 != 0) = true := by simpa using h0
    clear HVA hv hoc
    go_wp2_with fail
    go_ret
    exact ⟨rfl, HB3.out⟩
end Go.Proofs.YtcngjmbiinifnaaDoor
