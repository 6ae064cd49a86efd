/-
  hasselaw.HeytingGlivenko returns true of every lattice and formula. Conditions: slices read as slices of rows, a value as a formula.
-/
import Derived.Deep.RegionHeld3
import Derived.Test.YtfkkjebgccnlnaaNotP
namespace Go.Proofs.Ytfkkjebgccnlnaa
set_option maxRecDepth 100000
open Go.RowKit

theorem VdCk.one {L : LA} {T : FT} {c d : Int} (h : VdCk L T c) (h' : VdCk L T d) : c = d := by
  rcases h with ⟨h1, h2⟩ | ⟨h1, h2⟩ <;> rcases h' with ⟨k1, k2⟩ | ⟨k1, k2⟩
  · exact h2.one k2
  · exact absurd (h2.one k1) h1
  · exact absurd (k2.one h1) k1
  · rcases h2 with ⟨a, b⟩ | ⟨a, b⟩ <;> rcases k2 with ⟨a', b'⟩ | ⟨a', b'⟩ <;> omega
theorem HCk.zero {L : LA} (h : HCk L 0) : L.Ck 0 ∧ All3 L.q (disB L.m L.j) := by
  rcases h with ⟨h, _⟩ | ⟨hc, ⟨h, _⟩ | ⟨_, hd⟩⟩
  · exact absurd rfl h
  · exact absurd h (by decide)
  · exact ⟨hc, hd⟩
theorem VdCk.zero {L : LA} {T : FT} (h : VdCk L T 0) : HCk L 0 ∧ chkF T = 0 ∧ L.n ≤ 16 := by
  rcases h with ⟨h, _⟩ | ⟨h, ⟨h', _⟩ | ⟨h1, ⟨h', _⟩ | ⟨_, h2⟩⟩⟩
  · exact absurd rfl h
  · exact absurd rfl h'
  · exact absurd h' (by decide)
  · exact ⟨h, h1, h2⟩
theorem Lat.high {q : Nat} {m j : Nat → Nat → Nat} (h : Lat q m j) (h1 : 1 ≤ q) : ∀ x, x < q → m x (en j q) = x := fun x hx => by
  have ht := en_lt h1 h.ij q (Nat.le_refl _)
  have h0 := h.turn.least h1 hx
  have h2 := (h.lm.at hx ht hx).2.2.2
  rw [(h.lj.at hx ht hx).2.1, h0] at h2
  exact h2
theorem taut_la {L : LA} {T : FT} (h : HCk L 0) (hT : cf T = 0) (hF : Full T) (h1 : 1 < L.n) (hA : Always3 L T) : Taut T := by
  have hl := LA.Ck.lat h.zero.1
  exact taut_of hl.2.2.1 hl.1 (by omega) h.zero.2 (hl.2.2.1.high hl.1) hT hF hA
theorem nn_la {L : LA} {T : FT} (h : HCk L 0) (hT : cf T = 0) (hF : Full T) (ht : Taut T) : Always3 L (nF (nF T)) := by
  have hl := LA.Ck.lat h.zero.1
  intro x y z hx hy hz
  rw [nF_val, nF_val]
  refine nn_of hl.2.2.1 hl.1 h.zero.2 hT hF ht (fun i hi => ?_) (hl.2.2.1.high hl.1)
  rcases (by omega : i = 0 ∨ i = 1 ∨ i = 2) with rfl | rfl | rfl
  · exact hx
  · exact hy
  · exact hz
theorem pair_taut {A : LA} {T : FT} (hq : A.q = 2) (hm : A.m = fun x y => min x y) (hj : A.j = fun x y => max x y) (hT : cf T = 0) (hF : Full T) (h : Taut T) : Always3 A T := by
  unfold Always3
  rw [hq, hm, hj]
  intro x y z hx hy hz
  have ha : Atom 2 (fun x y => min x y) 1 := ⟨by omega, by decide, fun x hx => by rcases (by omega : x = 0 ∨ x = 1) with rfl | rfl <;> decide⟩
  have hv : ∀ i, i < 3 → v3 x y z i < 2 := fun i hi => by
    rcases (by omega : i = 0 ∨ i = 1 ∨ i = 2) with rfl | rfl | rfl
    · exact hx
    · exact hy
    · exact hz
  have h1 := (val_bv lat2 (by omega) dis2 ha hv (g := fun i => min 1 (v3 x y z i) == 1) (fun i _ => by simp) T hT hF).2 (h _)
  have h2 := val_lt lat2 (by omega) hv T hT
  have h3 : en (fun x y => max x y) 2 = 1 := rfl
  rw [h3]
  omega
/-- All that the law asks of three answers. -/
theorem gli {L A : LA} {T : FT} {o1 o2 o3 : Bool} {c2 c3 : Int} (h1 : VdPost L T o1 0) (h0 : A.Ck 0) (hq : A.q = 2) (hn : A.n = 2) (hm : A.m = fun x y => min x y) (hj : A.j = fun x y => max x y) (hF : Full T) (h2 : VdPost A T o2 c2) :
    c2 = 0 ∧ (o1 = true → 1 < L.n → o2 = true) ∧ (VdPost L (nF (nF T)) o3 c3 → c3 = 2 ∨ (c3 = 0 ∧ (o3 = true ∨ o2 = false))) := by
  obtain ⟨k1, e1⟩ := h1
  obtain ⟨k2, e2⟩ := h2
  obtain ⟨a1, a2, a3⟩ := k1.zero
  have hT := chk_cf a2
  have hP := pair_h h0 hq hm hj
  obtain rfl : c2 = 0 := k2.one (.inr ⟨hP, .inr ⟨a2, .inr ⟨rfl, by omega⟩⟩⟩)
  have e1' : o1 = true ↔ Always3 L T := by
    rcases e1 with ⟨h, _⟩ | ⟨_, h⟩
    · exact absurd rfl h
    · exact h
  have e2' : o2 = true ↔ Always3 A T := by
    rcases e2 with ⟨h, _⟩ | ⟨_, h⟩
    · exact absurd rfl h
    · exact h
  refine ⟨rfl, fun ho hl => e2'.2 (pair_taut hq hm hj hT hF (taut_la a1 hT hF hl (e1'.1 ho))), ?_⟩
  rintro ⟨k3, e3⟩
  have hC : cf (nF (nF T)) = 0 := nF_cf (nF_cf hT)
  by_cases hk : chkF (nF (nF T)) = 0
  · obtain rfl : c3 = 0 := k3.one (.inr ⟨a1, .inr ⟨hk, .inr ⟨rfl, a3⟩⟩⟩)
    refine .inr ⟨rfl, ?_⟩
    have e3' : o3 = true ↔ Always3 L (nF (nF T)) := by
      rcases e3 with ⟨h, _⟩ | ⟨_, h⟩
      · exact absurd rfl h
      · exact h
    cases ho : o2 with
    | false => exact .inr rfl
    | true => exact .inl (e3'.2 (nn_la a1 hT hF (taut_la hP hT hF (by omega) (e2'.1 ho))))
  · have h2 : chkF (nF (nF T)) = 2 := by
      unfold chkF at hk ⊢
      split
      · rfl
      · rename_i hn; rw [if_neg hn] at hk; exact absurd hC hk
    exact .inl (k3.one (.inr ⟨a1, .inl ⟨by decide, h2.symm⟩⟩))
set_option maxHeartbeats 4000000 in
theorem heytingGlivenko_la (L : LA) (T : FT) (v : Value) (w : World) (hL : L.In w) (hf : FRep w T v) :
    Calls Try.prog 3 #[.agg #[.int .i64 L.n, .slice L.a L.la L.ca, .slice L.b L.lb L.cb], v] w fun e w' => e = .returned (.bool true) ∧ Below w.heap.size w w' := by
  obtain ⟨k, x, a, l, cap, rfl⟩ := hf.form
  obtain ⟨W, hW⟩ : ∃ W, W = (w.alloc (.cells #[.int .i64 L.n, .slice L.a L.la L.ca, .slice L.b L.lb L.cb] 24)).alloc (.cells #[.int .i64 k, .int .i64 x, .slice a l cap] 27) := ⟨_, rfl⟩
  have B1 : Below w.heap.size w W := by rw [hW]; exact ((Below.refl _ _).alloc (Nat.le_refl _) _).alloc (by simp) _
  have HLF : Hid (LF W w.heap.size L k x a l cap) := by rw [hW]; exact ⟨⟨by simp, by simp, by simp⟩, by simp, by simp, by simp⟩
  have HI : Hid (∀ w', Below w.heap.size w w' → L.In w') := fun w' h => hL.step h
  have HFR : Hid (∀ w', Below w.heap.size w w' → FRep w' T (.agg #[.int .i64 k, .int .i64 x, .slice a l cap])) := fun w' h => FRep.step h _ _ hf
  have HFU : Hid (Full T) := FRep.full _ _ hf
  have HB1 : Hid (Below w.heap.size w W) := B1
  have HW : Hid (W = (w.alloc (.cells #[.int .i64 L.n, .slice L.a L.la L.ca, .slice L.b L.lb L.cb] 24)).alloc (.cells #[.int .i64 k, .int .i64 x, .slice a l cap] 27)) := hW
  clear B1 hL hf hW
  go_enter Try.func3, Try.ntmps3
  go_wp2_with fail
  rw [← HW.out]
  clear HW
  refine (heytingBegun_any _).mono ?_
  rintro e w1 ⟨rfl, hb1⟩
  have HB2 : Hid (Below w.heap.size w w1) := Below.then HB1.out hb1
  have HL1 : Hid (LF w1 w.heap.size L k x a l cap) := HLF.out.step hb1
  clear hb1 HB1 HLF
  obtain ⟨⟨l0, l1, l2⟩, f0, f1, f2⟩ := HL1.out
  go_wp2_with fail
  refine (validX_any L T _ _ (HI.out _ HB2.out) (HFR.out _ HB2.out)).mono ?_
  rintro e w2 ⟨⟨o1, c1, hp, rfl⟩, hb2⟩
  have HV1 : Hid (VdPost L T o1 c1) := hp
  have HB3 : Hid (Below w.heap.size w w2) := Below.then HB2.out hb2
  have HL2 : Hid (LF w2 w.heap.size L k x a l cap) := HL1.out.step hb2
  clear hp hb2 HB2 HL1 l0 l1 l2 f0 f1 f2
  obtain ⟨⟨l0, l1, l2⟩, f0, f1, f2⟩ := HL2.out
  by_cases hc1 : c1 = 0
  · subst hc1
    go_wp2_with fail
    have u0 : ∀ w', (Below w.heap.size w w' ∧ LF w' w.heap.size L k x a l cap) → w'.cell? ⟨w.heap.size, 0, none⟩ = some (.int .i64 L.n) := fun w' h => h.2.1.1
    have u1 : ∀ w', (Below w.heap.size w w' ∧ LF w' w.heap.size L k x a l cap) → w'.cell? ⟨w.heap.size, 1, none⟩ = some (.slice L.a L.la L.ca) := fun w' h => h.2.1.2.1
    have u2 : ∀ w', (Below w.heap.size w w' ∧ LF w' w.heap.size L k x a l cap) → w'.cell? ⟨w.heap.size, 2, none⟩ = some (.slice L.b L.lb L.cb) := fun w' h => h.2.1.2.2
    have g0 : ∀ w', (Below w.heap.size w w' ∧ LF w' w.heap.size L k x a l cap) → w'.cell? ⟨w.heap.size + 1, 0, none⟩ = some (.int .i64 k) := fun w' h => h.2.2.1
    have g1 : ∀ w', (Below w.heap.size w w' ∧ LF w' w.heap.size L k x a l cap) → w'.cell? ⟨w.heap.size + 1, 1, none⟩ = some (.int .i64 x) := fun w' h => h.2.2.2.1
    have g2 : ∀ w', (Below w.heap.size w w' ∧ LF w' w.heap.size L k x a l cap) → w'.cell? ⟨w.heap.size + 1, 2, none⟩ = some (.slice a l cap) := fun w' h => h.2.2.2.2
    have HBd : Hid (Below w.heap.size w w2.drew) := HB3.out.drew
    have HLd : Hid (LF w2.drew w.heap.size L k x a l cap) := HL2.out.step ((Below.refl _ _).drew)
    clear HB3 HL2 l0 l1 l2 f0 f1 f2
    refine wp_region_held_drew (S := (fun w' => Below w.heap.size w w' ∧ LF w' w.heap.size L k x a l cap)) (by kernel_rfl) (⟨HBd.out, HLd.out⟩) (fun hHeld => ?_)
    refine wpAnyH_take (i := 1) (oi := { dst := some 21, op := Go.Op.load 27 (Go.Operand.tmp 3), type := 27, pos := "imply.go:416", after := #[], guard := none }) (v := ?_) rfl (by kernel_rfl) (by kernel_rfl) (by kernel_rfl) (fun _ _ _ h => h) (Or.inl ⟨by rfl, ?hy⟩) (by assumption) ?_
    case hy => (intro w9 hSw; (try dsimp only at hSw); go_simp; try with_reducible rfl)
    try simp only [Act.put, List.setIfInBounds_toArray, List.set_cons_zero, List.set_cons_succ]
    refine wpAnyH_ready (rs := [0]) (by kernel_rfl) (by simp) ?_
    refine AllReadyH.cons (o := { dst := some 20, op := Go.Op.call { callee := Go.Callee.value (Go.Operand.func 6), args := #[], argTypes := #[] }, type := 24, pos := "imply.go:416", after := #[], guard := none }) rfl (fun K hK => ?_) AllReadyH.nil
    go_simp
    refine (pair_any _).mono ?_
    rintro e w3 ⟨⟨xx, rfl, hx⟩, hb3⟩
    obtain ⟨A, rfl, hA, cA, qA, nA, mA, jA⟩ := pair_la hx
    have HB4 : Hid (Below w.heap.size w w3) := Below.then HBd.out hb3
    have HL3 : Hid (LF w3 w.heap.size L k x a l cap) := HLd.out.step hb3
    have HVA : Hid _ := validX_any A T _ _ hA (HFR.out _ HB4.out)
    have HG : Hid (∀ o2 c2, VdPost A T o2 c2 → c2 = 0 ∧ (o1 = true → 1 < L.n → o2 = true) ∧ ∀ o3 c3, VdPost L (nF (nF T)) o3 c3 → c3 = 2 ∨ (c3 = 0 ∧ (o3 = true ∨ o2 = false))) := fun o2 c2 h2 =>
      ⟨(gli (o3 := true) (c3 := 0) HV1.out cA qA nA mA jA HFU.out h2).1, (gli (o3 := true) (c3 := 0) HV1.out cA qA nA mA jA HFU.out h2).2.1, fun o3 c3 h3 => (gli HV1.out cA qA nA mA jA HFU.out h2).2.2 h3⟩
    clear hx hA cA qA nA mA jA hb3
    unfold LA.v
    refine hK.out _ _ ?_ (fun hHeld => ?_)
    · first | exact ⟨HB5.out, HL4.out⟩ | exact ⟨HB4.out, HL3.out⟩
    clear hK K
    try simp only [Act.put, List.setIfInBounds_toArray, List.set_cons_zero, List.set_cons_succ]
    refine wpAnyH_ready (rs := [2]) (by kernel_rfl) (by simp) ?_
    refine AllReadyH.cons (o := { dst := some 22, op := Go.Op.call { callee := Go.Callee.value (Go.Operand.func 5), args := #[Go.Operand.tmp 20, Go.Operand.tmp 21], argTypes := #[24, 27] }, type := 30, pos := "imply.go:416", after := #[{ on := 0, ground := Go.Ground.data }, { on := 1, ground := Go.Ground.data }, { on := 0, ground := Go.Ground.chain }], guard := none }) rfl (fun K hK => ?_) AllReadyH.nil
    go_simp
    refine (Calls.mono HVA.out) ?_
    rintro e w4 ⟨⟨o2, c2, hp, rfl⟩, hb4⟩
    obtain ⟨rfl, e2, e3⟩ := HG.out _ _ hp
    have HG3 : Hid (∀ o3 c3, VdPost L (nF (nF T)) o3 c3 → c3 = 2 ∨ (c3 = 0 ∧ (o3 = true ∨ o2 = false))) := e3
    have HG2 : Hid (o1 = true → 1 < L.n → o2 = true) := e2
    have HB5 : Hid (Below w.heap.size w w4) := Below.then HB4.out hb4
    have HL4 : Hid (LF w4 w.heap.size L k x a l cap) := HL3.out.step hb4
    clear hp hb4 e2 e3
    refine hK.out _ _ ?_ (fun hHeld => ?_)
    · first | exact ⟨HB5.out, HL4.out⟩ | exact ⟨HB4.out, HL3.out⟩
    clear hK K
    try simp only [Act.put, List.setIfInBounds_toArray, List.set_cons_zero, List.set_cons_succ]
    refine wpAnyH_take (i := 3) (oi := { dst := some 19, op := Go.Op.move (Go.Operand.tmp 22), type := 30, pos := "imply.go:416", after := #[{ on := 2, ground := Go.Ground.data }], guard := none }) (v := ?_) rfl (by kernel_rfl) (by kernel_rfl) (by kernel_rfl) (fun _ _ _ h => h) (Or.inl ⟨by rfl, ?hy⟩) (by assumption) ?_
    case hy => (intro w9 hSw; (try dsimp only at hSw); go_simp; try with_reducible rfl)
    try simp only [Act.put, List.setIfInBounds_toArray, List.set_cons_zero, List.set_cons_succ]
    refine wpAnyH_take (i := 4) (oi := { dst := some 23, op := Go.Op.extract (Go.Operand.tmp 19) 0, type := 4, pos := "imply.go:416", after := #[{ on := 3, ground := Go.Ground.data }], guard := none }) (v := ?_) rfl (by kernel_rfl) (by kernel_rfl) (by kernel_rfl) (fun _ _ _ h => h) (Or.inl ⟨by rfl, ?hy⟩) (by assumption) ?_
    case hy => (intro w9 hSw; (try dsimp only at hSw); go_simp; try with_reducible rfl)
    try simp only [Act.put, List.setIfInBounds_toArray, List.set_cons_zero, List.set_cons_succ]
    refine wpAnyH_take (i := 5) (oi := { dst := some 24, op := Go.Op.extract (Go.Operand.tmp 19) 1, type := 29, pos := "imply.go:416", after := #[{ on := 3, ground := Go.Ground.data }, { on := 6, ground := Go.Ground.gcOnly Go.Departure.lateStores }], guard := none }) (v := ?_) rfl (by kernel_rfl) (by kernel_rfl) (by kernel_rfl) (fun _ _ _ h => h) (Or.inl ⟨by rfl, ?hy⟩) (by assumption) ?_
    case hy => (intro w9 hSw; (try dsimp only at hSw); go_simp; try with_reducible rfl)
    try simp only [Act.put, List.setIfInBounds_toArray, List.set_cons_zero, List.set_cons_succ]
    refine wpAnyH_take (i := 6) (oi := { dst := some 7, op := Go.Op.assign (Go.Operand.tmp 23), type := 4, pos := "imply.go:416", after := #[{ on := 4, ground := Go.Ground.data }, { on := 2, ground := Go.Ground.chain }, { on := 0, ground := Go.Ground.phase }, { on := 1, ground := Go.Ground.phase }, { on := 2, ground := Go.Ground.phase }, { on := 3, ground := Go.Ground.phase }, { on := 4, ground := Go.Ground.phase }, { on := 5, ground := Go.Ground.textOnly Go.Departure.lateStores }], guard := none }) (v := ?_) rfl (by kernel_rfl) (by kernel_rfl) (by kernel_rfl) (fun _ _ _ h => h) (Or.inl ⟨by rfl, ?hy⟩) (by assumption) ?_
    case hy => (intro w9 hSw; (try dsimp only at hSw); go_simp; try with_reducible rfl)
    try simp only [Act.put, List.setIfInBounds_toArray, List.set_cons_zero, List.set_cons_succ]
    refine wpAnyH_take (i := 7) (oi := { dst := some 6, op := Go.Op.assign (Go.Operand.tmp 24), type := 29, pos := "imply.go:416", after := #[{ on := 5, ground := Go.Ground.data }, { on := 6, ground := Go.Ground.chain }, { on := 0, ground := Go.Ground.phase }, { on := 1, ground := Go.Ground.phase }, { on := 2, ground := Go.Ground.phase }, { on := 3, ground := Go.Ground.phase }, { on := 4, ground := Go.Ground.phase }, { on := 5, ground := Go.Ground.phase }, { on := 6, ground := Go.Ground.phase }], guard := none }) (v := ?_) rfl (by kernel_rfl) (by kernel_rfl) (by kernel_rfl) (fun _ _ _ h => h) (Or.inl ⟨by rfl, ?hy⟩) (by assumption) ?_
    case hy => (intro w9 hSw; (try dsimp only at hSw); go_simp; try with_reducible rfl)
    try simp only [Act.put, List.setIfInBounds_toArray, List.set_cons_zero, List.set_cons_succ]
    refine wpAnyH_done (by kernel_rfl) ?_ _
    try simp only [Act.put, List.setIfInBounds_toArray, List.set_cons_zero, List.set_cons_succ]
    clear u0 u1 u2 g0 g1 g2 hHeld HG HVA HB4 HL3 HBd HLd
    obtain ⟨⟨l0, l1, l2⟩, f0, f1, f2⟩ := HL4.out
    cases o2
    · cases o1
      · clear HG2
        go_wp2_with fail
        have u0 : ∀ w', (Below w.heap.size w w' ∧ LF w' w.heap.size L k x a l cap) → w'.cell? ⟨w.heap.size, 0, none⟩ = some (.int .i64 L.n) := fun w' h => h.2.1.1
        have u1 : ∀ w', (Below w.heap.size w w' ∧ LF w' w.heap.size L k x a l cap) → w'.cell? ⟨w.heap.size, 1, none⟩ = some (.slice L.a L.la L.ca) := fun w' h => h.2.1.2.1
        have u2 : ∀ w', (Below w.heap.size w w' ∧ LF w' w.heap.size L k x a l cap) → w'.cell? ⟨w.heap.size, 2, none⟩ = some (.slice L.b L.lb L.cb) := fun w' h => h.2.1.2.2
        have g0 : ∀ w', (Below w.heap.size w w' ∧ LF w' w.heap.size L k x a l cap) → w'.cell? ⟨w.heap.size + 1, 0, none⟩ = some (.int .i64 k) := fun w' h => h.2.2.1
        have g1 : ∀ w', (Below w.heap.size w w' ∧ LF w' w.heap.size L k x a l cap) → w'.cell? ⟨w.heap.size + 1, 1, none⟩ = some (.int .i64 x) := fun w' h => h.2.2.2.1
        have g2 : ∀ w', (Below w.heap.size w w' ∧ LF w' w.heap.size L k x a l cap) → w'.cell? ⟨w.heap.size + 1, 2, none⟩ = some (.slice a l cap) := fun w' h => h.2.2.2.2
        have HBd : Hid (Below w.heap.size w w4.drew) := HB5.out.drew
        have HLd : Hid (LF w4.drew w.heap.size L k x a l cap) := HL4.out.step ((Below.refl _ _).drew)
        clear HB5 HL4 l0 l1 l2 f0 f1 f2
        refine wp_region_held_drew (S := (fun w' => Below w.heap.size w w' ∧ LF w' w.heap.size L k x a l cap)) (by kernel_rfl) (⟨HBd.out, HLd.out⟩) (fun hHeld => ?_)
        refine wpAnyH_take (i := 0) (oi := { dst := some 40, op := Go.Op.load 24 (Go.Operand.tmp 2), type := 24, pos := "imply.go:420", after := #[], guard := none }) (v := ?_) rfl (by kernel_rfl) (by kernel_rfl) (by kernel_rfl) (fun _ _ _ h => h) (Or.inl ⟨by rfl, ?hy⟩) (by assumption) ?_
        case hy => (intro w9 hSw; (try dsimp only at hSw); go_simp; try with_reducible rfl)
        try simp only [Act.put, List.setIfInBounds_toArray, List.set_cons_zero, List.set_cons_succ]
        refine wpAnyH_take (i := 1) (oi := { dst := some 41, op := Go.Op.load 27 (Go.Operand.tmp 3), type := 27, pos := "imply.go:420", after := #[], guard := none }) (v := ?_) rfl (by kernel_rfl) (by kernel_rfl) (by kernel_rfl) (fun _ _ _ h => h) (Or.inl ⟨by rfl, ?hy⟩) (by assumption) ?_
        case hy => (intro w9 hSw; (try dsimp only at hSw); go_simp; try with_reducible rfl)
        try simp only [Act.put, List.setIfInBounds_toArray, List.set_cons_zero, List.set_cons_succ]
        refine wpAnyH_ready (rs := [2]) (by kernel_rfl) (by simp) ?_
        refine AllReadyH.cons (o := { dst := some 42, op := Go.Op.call { callee := Go.Callee.value (Go.Operand.func 7), args := #[Go.Operand.tmp 41], argTypes := #[27] }, type := 27, pos := "imply.go:420", after := #[{ on := 1, ground := Go.Ground.data }], guard := none }) rfl (fun K hK => ?_) AllReadyH.nil
        go_simp
        refine (not_any T _ _ (HFR.out _ HBd.out)).mono ?_
        rintro e w5 ⟨⟨x5, rfl, hx5⟩, hb5⟩
        obtain ⟨k5, y5, a5, l5, c5, rfl⟩ := hx5.form
        have HF5 : Hid (FRep w5 (nF T) (.agg #[.int .i64 k5, .int .i64 y5, .slice a5 l5 c5])) := hx5
        have HB6 : Hid (Below w.heap.size w w5) := Below.then HBd.out hb5
        have HL5 : Hid (LF w5 w.heap.size L k x a l cap) := HLd.out.step hb5
        clear hx5 hb5
        refine hK.out _ _ ?_ (fun hHeld => ?_)
        · first | exact ⟨HB8.out, HL7.out⟩ | exact ⟨HB7.out, HL6.out⟩ | exact ⟨HB6.out, HL5.out⟩
        clear hK K
        try simp only [Act.put, List.setIfInBounds_toArray, List.set_cons_zero, List.set_cons_succ]
        refine wpAnyH_ready (rs := [3]) (by kernel_rfl) (by simp) ?_
        refine AllReadyH.cons (o := { dst := some 43, op := Go.Op.call { callee := Go.Callee.value (Go.Operand.func 7), args := #[Go.Operand.tmp 42], argTypes := #[27] }, type := 27, pos := "imply.go:420", after := #[{ on := 2, ground := Go.Ground.data }, { on := 2, ground := Go.Ground.chain }], guard := none }) rfl (fun K hK => ?_) AllReadyH.nil
        go_simp
        refine (not_any (nF T) _ _ HF5.out).mono ?_
        rintro e w6 ⟨⟨x6, rfl, hx6⟩, hb6⟩
        obtain ⟨k6, y6, a6, l6, c6, rfl⟩ := hx6.form
        have HF6 : Hid (FRep w6 (nF (nF T)) (.agg #[.int .i64 k6, .int .i64 y6, .slice a6 l6 c6])) := hx6
        have HB7 : Hid (Below w.heap.size w w6) := Below.then HB6.out hb6
        have HL6 : Hid (LF w6 w.heap.size L k x a l cap) := HL5.out.step hb6
        clear hx6 hb6
        refine hK.out _ _ ?_ (fun hHeld => ?_)
        · first | exact ⟨HB8.out, HL7.out⟩ | exact ⟨HB7.out, HL6.out⟩ | exact ⟨HB6.out, HL5.out⟩
        clear hK K
        try simp only [Act.put, List.setIfInBounds_toArray, List.set_cons_zero, List.set_cons_succ]
        refine wpAnyH_ready (rs := [4]) (by kernel_rfl) (by simp) ?_
        refine AllReadyH.cons (o := { dst := some 44, op := Go.Op.call { callee := Go.Callee.value (Go.Operand.func 5), args := #[Go.Operand.tmp 40, Go.Operand.tmp 43], argTypes := #[24, 27] }, type := 30, pos := "imply.go:420", after := #[{ on := 0, ground := Go.Ground.data }, { on := 3, ground := Go.Ground.data }, { on := 3, ground := Go.Ground.chain }], guard := none }) rfl (fun K hK => ?_) AllReadyH.nil
        go_simp
        refine (validX_any L (nF (nF T)) _ _ (HI.out _ HB7.out) HF6.out).mono ?_
        rintro e w7 ⟨⟨o3, c3, hp, rfl⟩, hb7⟩
        have hh := HG3.out _ _ hp
        have HB8 : Hid (Below w.heap.size w w7) := Below.then HB7.out hb7
        have HL7 : Hid (LF w7 w.heap.size L k x a l cap) := HL6.out.step hb7
        clear hp hb7
        refine hK.out _ _ ?_ (fun hHeld => ?_)
        · first | exact ⟨HB8.out, HL7.out⟩ | exact ⟨HB7.out, HL6.out⟩ | exact ⟨HB6.out, HL5.out⟩
        clear hK K
        try simp only [Act.put, List.setIfInBounds_toArray, List.set_cons_zero, List.set_cons_succ]
        refine wpAnyH_take (i := 5) (oi := { dst := some 39, op := Go.Op.move (Go.Operand.tmp 44), type := 30, pos := "imply.go:420", after := #[{ on := 4, ground := Go.Ground.data }], guard := none }) (v := ?_) rfl (by kernel_rfl) (by kernel_rfl) (by kernel_rfl) (fun _ _ _ h => h) (Or.inl ⟨by rfl, ?hy⟩) (by assumption) ?_
        case hy => (intro w9 hSw; (try dsimp only at hSw); go_simp; try with_reducible rfl)
        try simp only [Act.put, List.setIfInBounds_toArray, List.set_cons_zero, List.set_cons_succ]
        refine wpAnyH_take (i := 6) (oi := { dst := some 45, op := Go.Op.extract (Go.Operand.tmp 39) 0, type := 4, pos := "imply.go:420", after := #[{ on := 5, ground := Go.Ground.data }], guard := none }) (v := ?_) rfl (by kernel_rfl) (by kernel_rfl) (by kernel_rfl) (fun _ _ _ h => h) (Or.inl ⟨by rfl, ?hy⟩) (by assumption) ?_
        case hy => (intro w9 hSw; (try dsimp only at hSw); go_simp; try with_reducible rfl)
        try simp only [Act.put, List.setIfInBounds_toArray, List.set_cons_zero, List.set_cons_succ]
        refine wpAnyH_take (i := 7) (oi := { dst := some 46, op := Go.Op.extract (Go.Operand.tmp 39) 1, type := 29, pos := "imply.go:420", after := #[{ on := 5, ground := Go.Ground.data }, { on := 8, ground := Go.Ground.gcOnly Go.Departure.lateStores }], guard := none }) (v := ?_) rfl (by kernel_rfl) (by kernel_rfl) (by kernel_rfl) (fun _ _ _ h => h) (Or.inl ⟨by rfl, ?hy⟩) (by assumption) ?_
        case hy => (intro w9 hSw; (try dsimp only at hSw); go_simp; try with_reducible rfl)
        try simp only [Act.put, List.setIfInBounds_toArray, List.set_cons_zero, List.set_cons_succ]
        refine wpAnyH_take (i := 8) (oi := { dst := some 8, op := Go.Op.assign (Go.Operand.tmp 45), type := 4, pos := "imply.go:420", after := #[{ on := 6, ground := Go.Ground.data }, { on := 4, ground := Go.Ground.chain }, { on := 0, ground := Go.Ground.phase }, { on := 1, ground := Go.Ground.phase }, { on := 2, ground := Go.Ground.phase }, { on := 3, ground := Go.Ground.phase }, { on := 4, ground := Go.Ground.phase }, { on := 5, ground := Go.Ground.phase }, { on := 6, ground := Go.Ground.phase }, { on := 7, ground := Go.Ground.textOnly Go.Departure.lateStores }], guard := none }) (v := ?_) rfl (by kernel_rfl) (by kernel_rfl) (by kernel_rfl) (fun _ _ _ h => h) (Or.inl ⟨by rfl, ?hy⟩) (by assumption) ?_
        case hy => (intro w9 hSw; (try dsimp only at hSw); go_simp; try with_reducible rfl)
        try simp only [Act.put, List.setIfInBounds_toArray, List.set_cons_zero, List.set_cons_succ]
        refine wpAnyH_take (i := 9) (oi := { dst := some 6, op := Go.Op.assign (Go.Operand.tmp 46), type := 29, pos := "imply.go:420", after := #[{ on := 7, ground := Go.Ground.data }, { on := 8, ground := Go.Ground.chain }, { on := 0, ground := Go.Ground.phase }, { on := 1, ground := Go.Ground.phase }, { on := 2, ground := Go.Ground.phase }, { on := 3, ground := Go.Ground.phase }, { on := 4, ground := Go.Ground.phase }, { on := 5, ground := Go.Ground.phase }, { on := 6, ground := Go.Ground.phase }, { on := 7, ground := Go.Ground.phase }, { on := 8, ground := Go.Ground.phase }], guard := none }) (v := ?_) rfl (by kernel_rfl) (by kernel_rfl) (by kernel_rfl) (fun _ _ _ h => h) (Or.inl ⟨by rfl, ?hy⟩) (by assumption) ?_
        case hy => (intro w9 hSw; (try dsimp only at hSw); go_simp; try with_reducible rfl)
        try simp only [Act.put, List.setIfInBounds_toArray, List.set_cons_zero, List.set_cons_succ]
        refine wpAnyH_done (by kernel_rfl) ?_ _
        try simp only [Act.put, List.setIfInBounds_toArray, List.set_cons_zero, List.set_cons_succ]
        clear u0 u1 u2 g0 g1 g2 hHeld HG3 HF5 HF6 HBd HLd HB6 HL5 HB7 HL6 HL7
        rcases hh with rfl | ⟨rfl, h3⟩
        · go_wp2_with fail
          go_ret
          exact ⟨rfl, HB8.out⟩
        · cases o3
          · clear h3
            go_wp2_with fail
            go_ret
            exact ⟨rfl, HB8.out⟩
          · clear h3
            go_wp2_with fail
            go_ret
            exact ⟨rfl, HB8.out⟩
      · have hn : L.n ≤ 1 := Classical.byContradiction fun h => by simpa using HG2.out rfl (by omega)
        clear HG2
        go_wp2_with fail
        have u0 : ∀ w', (Below w.heap.size w w' ∧ LF w' w.heap.size L k x a l cap) → w'.cell? ⟨w.heap.size, 0, none⟩ = some (.int .i64 L.n) := fun w' h => h.2.1.1
        have u1 : ∀ w', (Below w.heap.size w w' ∧ LF w' w.heap.size L k x a l cap) → w'.cell? ⟨w.heap.size, 1, none⟩ = some (.slice L.a L.la L.ca) := fun w' h => h.2.1.2.1
        have u2 : ∀ w', (Below w.heap.size w w' ∧ LF w' w.heap.size L k x a l cap) → w'.cell? ⟨w.heap.size, 2, none⟩ = some (.slice L.b L.lb L.cb) := fun w' h => h.2.1.2.2
        have g0 : ∀ w', (Below w.heap.size w w' ∧ LF w' w.heap.size L k x a l cap) → w'.cell? ⟨w.heap.size + 1, 0, none⟩ = some (.int .i64 k) := fun w' h => h.2.2.1
        have g1 : ∀ w', (Below w.heap.size w w' ∧ LF w' w.heap.size L k x a l cap) → w'.cell? ⟨w.heap.size + 1, 1, none⟩ = some (.int .i64 x) := fun w' h => h.2.2.2.1
        have g2 : ∀ w', (Below w.heap.size w w' ∧ LF w' w.heap.size L k x a l cap) → w'.cell? ⟨w.heap.size + 1, 2, none⟩ = some (.slice a l cap) := fun w' h => h.2.2.2.2
        have HBd : Hid (Below w.heap.size w w4.drew) := HB5.out.drew
        have HLd : Hid (LF w4.drew w.heap.size L k x a l cap) := HL4.out.step ((Below.refl _ _).drew)
        clear HB5 HL4 l0 l1 l2 f0 f1 f2
        refine wp_region_held_drew (S := (fun w' => Below w.heap.size w w' ∧ LF w' w.heap.size L k x a l cap)) (by kernel_rfl) (⟨HBd.out, HLd.out⟩) (fun hHeld => ?_)
        refine wpAnyH_take (i := 0) (oi := { dst := some 40, op := Go.Op.load 24 (Go.Operand.tmp 2), type := 24, pos := "imply.go:420", after := #[], guard := none }) (v := ?_) rfl (by kernel_rfl) (by kernel_rfl) (by kernel_rfl) (fun _ _ _ h => h) (Or.inl ⟨by rfl, ?hy⟩) (by assumption) ?_
        case hy => (intro w9 hSw; (try dsimp only at hSw); go_simp; try with_reducible rfl)
        try simp only [Act.put, List.setIfInBounds_toArray, List.set_cons_zero, List.set_cons_succ]
        refine wpAnyH_take (i := 1) (oi := { dst := some 41, op := Go.Op.load 27 (Go.Operand.tmp 3), type := 27, pos := "imply.go:420", after := #[], guard := none }) (v := ?_) rfl (by kernel_rfl) (by kernel_rfl) (by kernel_rfl) (fun _ _ _ h => h) (Or.inl ⟨by rfl, ?hy⟩) (by assumption) ?_
        case hy => (intro w9 hSw; (try dsimp only at hSw); go_simp; try with_reducible rfl)
        try simp only [Act.put, List.setIfInBounds_toArray, List.set_cons_zero, List.set_cons_succ]
        refine wpAnyH_ready (rs := [2]) (by kernel_rfl) (by simp) ?_
        refine AllReadyH.cons (o := { dst := some 42, op := Go.Op.call { callee := Go.Callee.value (Go.Operand.func 7), args := #[Go.Operand.tmp 41], argTypes := #[27] }, type := 27, pos := "imply.go:420", after := #[{ on := 1, ground := Go.Ground.data }], guard := none }) rfl (fun K hK => ?_) AllReadyH.nil
        go_simp
        refine (not_any T _ _ (HFR.out _ HBd.out)).mono ?_
        rintro e w5 ⟨⟨x5, rfl, hx5⟩, hb5⟩
        obtain ⟨k5, y5, a5, l5, c5, rfl⟩ := hx5.form
        have HF5 : Hid (FRep w5 (nF T) (.agg #[.int .i64 k5, .int .i64 y5, .slice a5 l5 c5])) := hx5
        have HB6 : Hid (Below w.heap.size w w5) := Below.then HBd.out hb5
        have HL5 : Hid (LF w5 w.heap.size L k x a l cap) := HLd.out.step hb5
        clear hx5 hb5
        refine hK.out _ _ ?_ (fun hHeld => ?_)
        · first | exact ⟨HB8.out, HL7.out⟩ | exact ⟨HB7.out, HL6.out⟩ | exact ⟨HB6.out, HL5.out⟩
        clear hK K
        try simp only [Act.put, List.setIfInBounds_toArray, List.set_cons_zero, List.set_cons_succ]
        refine wpAnyH_ready (rs := [3]) (by kernel_rfl) (by simp) ?_
        refine AllReadyH.cons (o := { dst := some 43, op := Go.Op.call { callee := Go.Callee.value (Go.Operand.func 7), args := #[Go.Operand.tmp 42], argTypes := #[27] }, type := 27, pos := "imply.go:420", after := #[{ on := 2, ground := Go.Ground.data }, { on := 2, ground := Go.Ground.chain }], guard := none }) rfl (fun K hK => ?_) AllReadyH.nil
        go_simp
        refine (not_any (nF T) _ _ HF5.out).mono ?_
        rintro e w6 ⟨⟨x6, rfl, hx6⟩, hb6⟩
        obtain ⟨k6, y6, a6, l6, c6, rfl⟩ := hx6.form
        have HF6 : Hid (FRep w6 (nF (nF T)) (.agg #[.int .i64 k6, .int .i64 y6, .slice a6 l6 c6])) := hx6
        have HB7 : Hid (Below w.heap.size w w6) := Below.then HB6.out hb6
        have HL6 : Hid (LF w6 w.heap.size L k x a l cap) := HL5.out.step hb6
        clear hx6 hb6
        refine hK.out _ _ ?_ (fun hHeld => ?_)
        · first | exact ⟨HB8.out, HL7.out⟩ | exact ⟨HB7.out, HL6.out⟩ | exact ⟨HB6.out, HL5.out⟩
        clear hK K
        try simp only [Act.put, List.setIfInBounds_toArray, List.set_cons_zero, List.set_cons_succ]
        refine wpAnyH_ready (rs := [4]) (by kernel_rfl) (by simp) ?_
        refine AllReadyH.cons (o := { dst := some 44, op := Go.Op.call { callee := Go.Callee.value (Go.Operand.func 5), args := #[Go.Operand.tmp 40, Go.Operand.tmp 43], argTypes := #[24, 27] }, type := 30, pos := "imply.go:420", after := #[{ on := 0, ground := Go.Ground.data }, { on := 3, ground := Go.Ground.data }, { on := 3, ground := Go.Ground.chain }], guard := none }) rfl (fun K hK => ?_) AllReadyH.nil
        go_simp
        refine (validX_any L (nF (nF T)) _ _ (HI.out _ HB7.out) HF6.out).mono ?_
        rintro e w7 ⟨⟨o3, c3, hp, rfl⟩, hb7⟩
        have hh := HG3.out _ _ hp
        have HB8 : Hid (Below w.heap.size w w7) := Below.then HB7.out hb7
        have HL7 : Hid (LF w7 w.heap.size L k x a l cap) := HL6.out.step hb7
        clear hp hb7
        refine hK.out _ _ ?_ (fun hHeld => ?_)
        · first | exact ⟨HB8.out, HL7.out⟩ | exact ⟨HB7.out, HL6.out⟩ | exact ⟨HB6.out, HL5.out⟩
        clear hK K
        try simp only [Act.put, List.setIfInBounds_toArray, List.set_cons_zero, List.set_cons_succ]
        refine wpAnyH_take (i := 5) (oi := { dst := some 39, op := Go.Op.move (Go.Operand.tmp 44), type := 30, pos := "imply.go:420", after := #[{ on := 4, ground := Go.Ground.data }], guard := none }) (v := ?_) rfl (by kernel_rfl) (by kernel_rfl) (by kernel_rfl) (fun _ _ _ h => h) (Or.inl ⟨by rfl, ?hy⟩) (by assumption) ?_
        case hy => (intro w9 hSw; (try dsimp only at hSw); go_simp; try with_reducible rfl)
        try simp only [Act.put, List.setIfInBounds_toArray, List.set_cons_zero, List.set_cons_succ]
        refine wpAnyH_take (i := 6) (oi := { dst := some 45, op := Go.Op.extract (Go.Operand.tmp 39) 0, type := 4, pos := "imply.go:420", after := #[{ on := 5, ground := Go.Ground.data }], guard := none }) (v := ?_) rfl (by kernel_rfl) (by kernel_rfl) (by kernel_rfl) (fun _ _ _ h => h) (Or.inl ⟨by rfl, ?hy⟩) (by assumption) ?_
        case hy => (intro w9 hSw; (try dsimp only at hSw); go_simp; try with_reducible rfl)
        try simp only [Act.put, List.setIfInBounds_toArray, List.set_cons_zero, List.set_cons_succ]
        refine wpAnyH_take (i := 7) (oi := { dst := some 46, op := Go.Op.extract (Go.Operand.tmp 39) 1, type := 29, pos := "imply.go:420", after := #[{ on := 5, ground := Go.Ground.data }, { on := 8, ground := Go.Ground.gcOnly Go.Departure.lateStores }], guard := none }) (v := ?_) rfl (by kernel_rfl) (by kernel_rfl) (by kernel_rfl) (fun _ _ _ h => h) (Or.inl ⟨by rfl, ?hy⟩) (by assumption) ?_
        case hy => (intro w9 hSw; (try dsimp only at hSw); go_simp; try with_reducible rfl)
        try simp only [Act.put, List.setIfInBounds_toArray, List.set_cons_zero, List.set_cons_succ]
        refine wpAnyH_take (i := 8) (oi := { dst := some 8, op := Go.Op.assign (Go.Operand.tmp 45), type := 4, pos := "imply.go:420", after := #[{ on := 6, ground := Go.Ground.data }, { on := 4, ground := Go.Ground.chain }, { on := 0, ground := Go.Ground.phase }, { on := 1, ground := Go.Ground.phase }, { on := 2, ground := Go.Ground.phase }, { on := 3, ground := Go.Ground.phase }, { on := 4, ground := Go.Ground.phase }, { on := 5, ground := Go.Ground.phase }, { on := 6, ground := Go.Ground.phase }, { on := 7, ground := Go.Ground.textOnly Go.Departure.lateStores }], guard := none }) (v := ?_) rfl (by kernel_rfl) (by kernel_rfl) (by kernel_rfl) (fun _ _ _ h => h) (Or.inl ⟨by rfl, ?hy⟩) (by assumption) ?_
        case hy => (intro w9 hSw; (try dsimp only at hSw); go_simp; try with_reducible rfl)
        try simp only [Act.put, List.setIfInBounds_toArray, List.set_cons_zero, List.set_cons_succ]
        refine wpAnyH_take (i := 9) (oi := { dst := some 6, op := Go.Op.assign (Go.Operand.tmp 46), type := 29, pos := "imply.go:420", after := #[{ on := 7, ground := Go.Ground.data }, { on := 8, ground := Go.Ground.chain }, { on := 0, ground := Go.Ground.phase }, { on := 1, ground := Go.Ground.phase }, { on := 2, ground := Go.Ground.phase }, { on := 3, ground := Go.Ground.phase }, { on := 4, ground := Go.Ground.phase }, { on := 5, ground := Go.Ground.phase }, { on := 6, ground := Go.Ground.phase }, { on := 7, ground := Go.Ground.phase }, { on := 8, ground := Go.Ground.phase }], guard := none }) (v := ?_) rfl (by kernel_rfl) (by kernel_rfl) (by kernel_rfl) (fun _ _ _ h => h) (Or.inl ⟨by rfl, ?hy⟩) (by assumption) ?_
        case hy => (intro w9 hSw; (try dsimp only at hSw); go_simp; try with_reducible rfl)
        try simp only [Act.put, List.setIfInBounds_toArray, List.set_cons_zero, List.set_cons_succ]
        refine wpAnyH_done (by kernel_rfl) ?_ _
        try simp only [Act.put, List.setIfInBounds_toArray, List.set_cons_zero, List.set_cons_succ]
        clear u0 u1 u2 g0 g1 g2 hHeld HG3 HF5 HF6 HBd HLd HB6 HL5 HB7 HL6 HL7
        rcases hh with rfl | ⟨rfl, h3⟩
        · go_wp2_with fail
          go_ret
          exact ⟨rfl, HB8.out⟩
        · cases o3
          · clear h3
            go_wp2_with fail
            go_ret
            exact ⟨rfl, HB8.out⟩
          · clear h3
            go_wp2_with fail
            go_ret
            exact ⟨rfl, HB8.out⟩
    · cases o1
      · clear HG2
        go_wp2_with fail
        have u0 : ∀ w', (Below w.heap.size w w' ∧ LF w' w.heap.size L k x a l cap) → w'.cell? ⟨w.heap.size, 0, none⟩ = some (.int .i64 L.n) := fun w' h => h.2.1.1
        have u1 : ∀ w', (Below w.heap.size w w' ∧ LF w' w.heap.size L k x a l cap) → w'.cell? ⟨w.heap.size, 1, none⟩ = some (.slice L.a L.la L.ca) := fun w' h => h.2.1.2.1
        have u2 : ∀ w', (Below w.heap.size w w' ∧ LF w' w.heap.size L k x a l cap) → w'.cell? ⟨w.heap.size, 2, none⟩ = some (.slice L.b L.lb L.cb) := fun w' h => h.2.1.2.2
        have g0 : ∀ w', (Below w.heap.size w w' ∧ LF w' w.heap.size L k x a l cap) → w'.cell? ⟨w.heap.size + 1, 0, none⟩ = some (.int .i64 k) := fun w' h => h.2.2.1
        have g1 : ∀ w', (Below w.heap.size w w' ∧ LF w' w.heap.size L k x a l cap) → w'.cell? ⟨w.heap.size + 1, 1, none⟩ = some (.int .i64 x) := fun w' h => h.2.2.2.1
        have g2 : ∀ w', (Below w.heap.size w w' ∧ LF w' w.heap.size L k x a l cap) → w'.cell? ⟨w.heap.size + 1, 2, none⟩ = some (.slice a l cap) := fun w' h => h.2.2.2.2
        have HBd : Hid (Below w.heap.size w w4.drew) := HB5.out.drew
        have HLd : Hid (LF w4.drew w.heap.size L k x a l cap) := HL4.out.step ((Below.refl _ _).drew)
        clear HB5 HL4 l0 l1 l2 f0 f1 f2
        refine wp_region_held_drew (S := (fun w' => Below w.heap.size w w' ∧ LF w' w.heap.size L k x a l cap)) (by kernel_rfl) (⟨HBd.out, HLd.out⟩) (fun hHeld => ?_)
        refine wpAnyH_take (i := 0) (oi := { dst := some 40, op := Go.Op.load 24 (Go.Operand.tmp 2), type := 24, pos := "imply.go:420", after := #[], guard := none }) (v := ?_) rfl (by kernel_rfl) (by kernel_rfl) (by kernel_rfl) (fun _ _ _ h => h) (Or.inl ⟨by rfl, ?hy⟩) (by assumption) ?_
        case hy => (intro w9 hSw; (try dsimp only at hSw); go_simp; try with_reducible rfl)
        try simp only [Act.put, List.setIfInBounds_toArray, List.set_cons_zero, List.set_cons_succ]
        refine wpAnyH_take (i := 1) (oi := { dst := some 41, op := Go.Op.load 27 (Go.Operand.tmp 3), type := 27, pos := "imply.go:420", after := #[], guard := none }) (v := ?_) rfl (by kernel_rfl) (by kernel_rfl) (by kernel_rfl) (fun _ _ _ h => h) (Or.inl ⟨by rfl, ?hy⟩) (by assumption) ?_
        case hy => (intro w9 hSw; (try dsimp only at hSw); go_simp; try with_reducible rfl)
        try simp only [Act.put, List.setIfInBounds_toArray, List.set_cons_zero, List.set_cons_succ]
        refine wpAnyH_ready (rs := [2]) (by kernel_rfl) (by simp) ?_
        refine AllReadyH.cons (o := { dst := some 42, op := Go.Op.call { callee := Go.Callee.value (Go.Operand.func 7), args := #[Go.Operand.tmp 41], argTypes := #[27] }, type := 27, pos := "imply.go:420", after := #[{ on := 1, ground := Go.Ground.data }], guard := none }) rfl (fun K hK => ?_) AllReadyH.nil
        go_simp
        refine (not_any T _ _ (HFR.out _ HBd.out)).mono ?_
        rintro e w5 ⟨⟨x5, rfl, hx5⟩, hb5⟩
        obtain ⟨k5, y5, a5, l5, c5, rfl⟩ := hx5.form
        have HF5 : Hid (FRep w5 (nF T) (.agg #[.int .i64 k5, .int .i64 y5, .slice a5 l5 c5])) := hx5
        have HB6 : Hid (Below w.heap.size w w5) := Below.then HBd.out hb5
        have HL5 : Hid (LF w5 w.heap.size L k x a l cap) := HLd.out.step hb5
        clear hx5 hb5
        refine hK.out _ _ ?_ (fun hHeld => ?_)
        · first | exact ⟨HB8.out, HL7.out⟩ | exact ⟨HB7.out, HL6.out⟩ | exact ⟨HB6.out, HL5.out⟩
        clear hK K
        try simp only [Act.put, List.setIfInBounds_toArray, List.set_cons_zero, List.set_cons_succ]
        refine wpAnyH_ready (rs := [3]) (by kernel_rfl) (by simp) ?_
        refine AllReadyH.cons (o := { dst := some 43, op := Go.Op.call { callee := Go.Callee.value (Go.Operand.func 7), args := #[Go.Operand.tmp 42], argTypes := #[27] }, type := 27, pos := "imply.go:420", after := #[{ on := 2, ground := Go.Ground.data }, { on := 2, ground := Go.Ground.chain }], guard := none }) rfl (fun K hK => ?_) AllReadyH.nil
        go_simp
        refine (not_any (nF T) _ _ HF5.out).mono ?_
        rintro e w6 ⟨⟨x6, rfl, hx6⟩, hb6⟩
        obtain ⟨k6, y6, a6, l6, c6, rfl⟩ := hx6.form
        have HF6 : Hid (FRep w6 (nF (nF T)) (.agg #[.int .i64 k6, .int .i64 y6, .slice a6 l6 c6])) := hx6
        have HB7 : Hid (Below w.heap.size w w6) := Below.then HB6.out hb6
        have HL6 : Hid (LF w6 w.heap.size L k x a l cap) := HL5.out.step hb6
        clear hx6 hb6
        refine hK.out _ _ ?_ (fun hHeld => ?_)
        · first | exact ⟨HB8.out, HL7.out⟩ | exact ⟨HB7.out, HL6.out⟩ | exact ⟨HB6.out, HL5.out⟩
        clear hK K
        try simp only [Act.put, List.setIfInBounds_toArray, List.set_cons_zero, List.set_cons_succ]
        refine wpAnyH_ready (rs := [4]) (by kernel_rfl) (by simp) ?_
        refine AllReadyH.cons (o := { dst := some 44, op := Go.Op.call { callee := Go.Callee.value (Go.Operand.func 5), args := #[Go.Operand.tmp 40, Go.Operand.tmp 43], argTypes := #[24, 27] }, type := 30, pos := "imply.go:420", after := #[{ on := 0, ground := Go.Ground.data }, { on := 3, ground := Go.Ground.data }, { on := 3, ground := Go.Ground.chain }], guard := none }) rfl (fun K hK => ?_) AllReadyH.nil
        go_simp
        refine (validX_any L (nF (nF T)) _ _ (HI.out _ HB7.out) HF6.out).mono ?_
        rintro e w7 ⟨⟨o3, c3, hp, rfl⟩, hb7⟩
        have hh := HG3.out _ _ hp
        have HB8 : Hid (Below w.heap.size w w7) := Below.then HB7.out hb7
        have HL7 : Hid (LF w7 w.heap.size L k x a l cap) := HL6.out.step hb7
        clear hp hb7
        refine hK.out _ _ ?_ (fun hHeld => ?_)
        · first | exact ⟨HB8.out, HL7.out⟩ | exact ⟨HB7.out, HL6.out⟩ | exact ⟨HB6.out, HL5.out⟩
        clear hK K
        try simp only [Act.put, List.setIfInBounds_toArray, List.set_cons_zero, List.set_cons_succ]
        refine wpAnyH_take (i := 5) (oi := { dst := some 39, op := Go.Op.move (Go.Operand.tmp 44), type := 30, pos := "imply.go:420", after := #[{ on := 4, ground := Go.Ground.data }], guard := none }) (v := ?_) rfl (by kernel_rfl) (by kernel_rfl) (by kernel_rfl) (fun _ _ _ h => h) (Or.inl ⟨by rfl, ?hy⟩) (by assumption) ?_
        case hy => (intro w9 hSw; (try dsimp only at hSw); go_simp; try with_reducible rfl)
        try simp only [Act.put, List.setIfInBounds_toArray, List.set_cons_zero, List.set_cons_succ]
        refine wpAnyH_take (i := 6) (oi := { dst := some 45, op := Go.Op.extract (Go.Operand.tmp 39) 0, type := 4, pos := "imply.go:420", after := #[{ on := 5, ground := Go.Ground.data }], guard := none }) (v := ?_) rfl (by kernel_rfl) (by kernel_rfl) (by kernel_rfl) (fun _ _ _ h => h) (Or.inl ⟨by rfl, ?hy⟩) (by assumption) ?_
        case hy => (intro w9 hSw; (try dsimp only at hSw); go_simp; try with_reducible rfl)
        try simp only [Act.put, List.setIfInBounds_toArray, List.set_cons_zero, List.set_cons_succ]
        refine wpAnyH_take (i := 7) (oi := { dst := some 46, op := Go.Op.extract (Go.Operand.tmp 39) 1, type := 29, pos := "imply.go:420", after := #[{ on := 5, ground := Go.Ground.data }, { on := 8, ground := Go.Ground.gcOnly Go.Departure.lateStores }], guard := none }) (v := ?_) rfl (by kernel_rfl) (by kernel_rfl) (by kernel_rfl) (fun _ _ _ h => h) (Or.inl ⟨by rfl, ?hy⟩) (by assumption) ?_
        case hy => (intro w9 hSw; (try dsimp only at hSw); go_simp; try with_reducible rfl)
        try simp only [Act.put, List.setIfInBounds_toArray, List.set_cons_zero, List.set_cons_succ]
        refine wpAnyH_take (i := 8) (oi := { dst := some 8, op := Go.Op.assign (Go.Operand.tmp 45), type := 4, pos := "imply.go:420", after := #[{ on := 6, ground := Go.Ground.data }, { on := 4, ground := Go.Ground.chain }, { on := 0, ground := Go.Ground.phase }, { on := 1, ground := Go.Ground.phase }, { on := 2, ground := Go.Ground.phase }, { on := 3, ground := Go.Ground.phase }, { on := 4, ground := Go.Ground.phase }, { on := 5, ground := Go.Ground.phase }, { on := 6, ground := Go.Ground.phase }, { on := 7, ground := Go.Ground.textOnly Go.Departure.lateStores }], guard := none }) (v := ?_) rfl (by kernel_rfl) (by kernel_rfl) (by kernel_rfl) (fun _ _ _ h => h) (Or.inl ⟨by rfl, ?hy⟩) (by assumption) ?_
        case hy => (intro w9 hSw; (try dsimp only at hSw); go_simp; try with_reducible rfl)
        try simp only [Act.put, List.setIfInBounds_toArray, List.set_cons_zero, List.set_cons_succ]
        refine wpAnyH_take (i := 9) (oi := { dst := some 6, op := Go.Op.assign (Go.Operand.tmp 46), type := 29, pos := "imply.go:420", after := #[{ on := 7, ground := Go.Ground.data }, { on := 8, ground := Go.Ground.chain }, { on := 0, ground := Go.Ground.phase }, { on := 1, ground := Go.Ground.phase }, { on := 2, ground := Go.Ground.phase }, { on := 3, ground := Go.Ground.phase }, { on := 4, ground := Go.Ground.phase }, { on := 5, ground := Go.Ground.phase }, { on := 6, ground := Go.Ground.phase }, { on := 7, ground := Go.Ground.phase }, { on := 8, ground := Go.Ground.phase }], guard := none }) (v := ?_) rfl (by kernel_rfl) (by kernel_rfl) (by kernel_rfl) (fun _ _ _ h => h) (Or.inl ⟨by rfl, ?hy⟩) (by assumption) ?_
        case hy => (intro w9 hSw; (try dsimp only at hSw); go_simp; try with_reducible rfl)
        try simp only [Act.put, List.setIfInBounds_toArray, List.set_cons_zero, List.set_cons_succ]
        refine wpAnyH_done (by kernel_rfl) ?_ _
        try simp only [Act.put, List.setIfInBounds_toArray, List.set_cons_zero, List.set_cons_succ]
        clear u0 u1 u2 g0 g1 g2 hHeld HG3 HF5 HF6 HBd HLd HB6 HL5 HB7 HL6 HL7
        rcases hh with rfl | ⟨rfl, h3⟩
        · go_wp2_with fail
          go_ret
          exact ⟨rfl, HB8.out⟩
        · cases o3
          · exact absurd h3 (by simp)
          · clear h3
            go_wp2_with fail
            go_ret
            exact ⟨rfl, HB8.out⟩
      · clear HG2
        by_cases hn : 1 < L.n
        · go_wp2_with fail
          have u0 : ∀ w', (Below w.heap.size w w' ∧ LF w' w.heap.size L k x a l cap) → w'.cell? ⟨w.heap.size, 0, none⟩ = some (.int .i64 L.n) := fun w' h => h.2.1.1
          have u1 : ∀ w', (Below w.heap.size w w' ∧ LF w' w.heap.size L k x a l cap) → w'.cell? ⟨w.heap.size, 1, none⟩ = some (.slice L.a L.la L.ca) := fun w' h => h.2.1.2.1
          have u2 : ∀ w', (Below w.heap.size w w' ∧ LF w' w.heap.size L k x a l cap) → w'.cell? ⟨w.heap.size, 2, none⟩ = some (.slice L.b L.lb L.cb) := fun w' h => h.2.1.2.2
          have g0 : ∀ w', (Below w.heap.size w w' ∧ LF w' w.heap.size L k x a l cap) → w'.cell? ⟨w.heap.size + 1, 0, none⟩ = some (.int .i64 k) := fun w' h => h.2.2.1
          have g1 : ∀ w', (Below w.heap.size w w' ∧ LF w' w.heap.size L k x a l cap) → w'.cell? ⟨w.heap.size + 1, 1, none⟩ = some (.int .i64 x) := fun w' h => h.2.2.2.1
          have g2 : ∀ w', (Below w.heap.size w w' ∧ LF w' w.heap.size L k x a l cap) → w'.cell? ⟨w.heap.size + 1, 2, none⟩ = some (.slice a l cap) := fun w' h => h.2.2.2.2
          have HBd : Hid (Below w.heap.size w w4.drew) := HB5.out.drew
          have HLd : Hid (LF w4.drew w.heap.size L k x a l cap) := HL4.out.step ((Below.refl _ _).drew)
          clear HB5 HL4 l0 l1 l2 f0 f1 f2
          refine wp_region_held_drew (S := (fun w' => Below w.heap.size w w' ∧ LF w' w.heap.size L k x a l cap)) (by kernel_rfl) (⟨HBd.out, HLd.out⟩) (fun hHeld => ?_)
          refine wpAnyH_take (i := 0) (oi := { dst := some 40, op := Go.Op.load 24 (Go.Operand.tmp 2), type := 24, pos := "imply.go:420", after := #[], guard := none }) (v := ?_) rfl (by kernel_rfl) (by kernel_rfl) (by kernel_rfl) (fun _ _ _ h => h) (Or.inl ⟨by rfl, ?hy⟩) (by assumption) ?_
          case hy => (intro w9 hSw; (try dsimp only at hSw); go_simp; try with_reducible rfl)
          try simp only [Act.put, List.setIfInBounds_toArray, List.set_cons_zero, List.set_cons_succ]
          refine wpAnyH_take (i := 1) (oi := { dst := some 41, op := Go.Op.load 27 (Go.Operand.tmp 3), type := 27, pos := "imply.go:420", after := #[], guard := none }) (v := ?_) rfl (by kernel_rfl) (by kernel_rfl) (by kernel_rfl) (fun _ _ _ h => h) (Or.inl ⟨by rfl, ?hy⟩) (by assumption) ?_
          case hy => (intro w9 hSw; (try dsimp only at hSw); go_simp; try with_reducible rfl)
          try simp only [Act.put, List.setIfInBounds_toArray, List.set_cons_zero, List.set_cons_succ]
          refine wpAnyH_ready (rs := [2]) (by kernel_rfl) (by simp) ?_
          refine AllReadyH.cons (o := { dst := some 42, op := Go.Op.call { callee := Go.Callee.value (Go.Operand.func 7), args := #[Go.Operand.tmp 41], argTypes := #[27] }, type := 27, pos := "imply.go:420", after := #[{ on := 1, ground := Go.Ground.data }], guard := none }) rfl (fun K hK => ?_) AllReadyH.nil
          go_simp
          refine (not_any T _ _ (HFR.out _ HBd.out)).mono ?_
          rintro e w5 ⟨⟨x5, rfl, hx5⟩, hb5⟩
          obtain ⟨k5, y5, a5, l5, c5, rfl⟩ := hx5.form
          have HF5 : Hid (FRep w5 (nF T) (.agg #[.int .i64 k5, .int .i64 y5, .slice a5 l5 c5])) := hx5
          have HB6 : Hid (Below w.heap.size w w5) := Below.then HBd.out hb5
          have HL5 : Hid (LF w5 w.heap.size L k x a l cap) := HLd.out.step hb5
          clear hx5 hb5
          refine hK.out _ _ ?_ (fun hHeld => ?_)
          · first | exact ⟨HB8.out, HL7.out⟩ | exact ⟨HB7.out, HL6.out⟩ | exact ⟨HB6.out, HL5.out⟩
          clear hK K
          try simp only [Act.put, List.setIfInBounds_toArray, List.set_cons_zero, List.set_cons_succ]
          refine wpAnyH_ready (rs := [3]) (by kernel_rfl) (by simp) ?_
          refine AllReadyH.cons (o := { dst := some 43, op := Go.Op.call { callee := Go.Callee.value (Go.Operand.func 7), args := #[Go.Operand.tmp 42], argTypes := #[27] }, type := 27, pos := "imply.go:420", after := #[{ on := 2, ground := Go.Ground.data }, { on := 2, ground := Go.Ground.chain }], guard := none }) rfl (fun K hK => ?_) AllReadyH.nil
          go_simp
          refine (not_any (nF T) _ _ HF5.out).mono ?_
          rintro e w6 ⟨⟨x6, rfl, hx6⟩, hb6⟩
          obtain ⟨k6, y6, a6, l6, c6, rfl⟩ := hx6.form
          have HF6 : Hid (FRep w6 (nF (nF T)) (.agg #[.int .i64 k6, .int .i64 y6, .slice a6 l6 c6])) := hx6
          have HB7 : Hid (Below w.heap.size w w6) := Below.then HB6.out hb6
          have HL6 : Hid (LF w6 w.heap.size L k x a l cap) := HL5.out.step hb6
          clear hx6 hb6
          refine hK.out _ _ ?_ (fun hHeld => ?_)
          · first | exact ⟨HB8.out, HL7.out⟩ | exact ⟨HB7.out, HL6.out⟩ | exact ⟨HB6.out, HL5.out⟩
          clear hK K
          try simp only [Act.put, List.setIfInBounds_toArray, List.set_cons_zero, List.set_cons_succ]
          refine wpAnyH_ready (rs := [4]) (by kernel_rfl) (by simp) ?_
          refine AllReadyH.cons (o := { dst := some 44, op := Go.Op.call { callee := Go.Callee.value (Go.Operand.func 5), args := #[Go.Operand.tmp 40, Go.Operand.tmp 43], argTypes := #[24, 27] }, type := 30, pos := "imply.go:420", after := #[{ on := 0, ground := Go.Ground.data }, { on := 3, ground := Go.Ground.data }, { on := 3, ground := Go.Ground.chain }], guard := none }) rfl (fun K hK => ?_) AllReadyH.nil
          go_simp
          refine (validX_any L (nF (nF T)) _ _ (HI.out _ HB7.out) HF6.out).mono ?_
          rintro e w7 ⟨⟨o3, c3, hp, rfl⟩, hb7⟩
          have hh := HG3.out _ _ hp
          have HB8 : Hid (Below w.heap.size w w7) := Below.then HB7.out hb7
          have HL7 : Hid (LF w7 w.heap.size L k x a l cap) := HL6.out.step hb7
          clear hp hb7
          refine hK.out _ _ ?_ (fun hHeld => ?_)
          · first | exact ⟨HB8.out, HL7.out⟩ | exact ⟨HB7.out, HL6.out⟩ | exact ⟨HB6.out, HL5.out⟩
          clear hK K
          try simp only [Act.put, List.setIfInBounds_toArray, List.set_cons_zero, List.set_cons_succ]
          refine wpAnyH_take (i := 5) (oi := { dst := some 39, op := Go.Op.move (Go.Operand.tmp 44), type := 30, pos := "imply.go:420", after := #[{ on := 4, ground := Go.Ground.data }], guard := none }) (v := ?_) rfl (by kernel_rfl) (by kernel_rfl) (by kernel_rfl) (fun _ _ _ h => h) (Or.inl ⟨by rfl, ?hy⟩) (by assumption) ?_
          case hy => (intro w9 hSw; (try dsimp only at hSw); go_simp; try with_reducible rfl)
          try simp only [Act.put, List.setIfInBounds_toArray, List.set_cons_zero, List.set_cons_succ]
          refine wpAnyH_take (i := 6) (oi := { dst := some 45, op := Go.Op.extract (Go.Operand.tmp 39) 0, type := 4, pos := "imply.go:420", after := #[{ on := 5, ground := Go.Ground.data }], guard := none }) (v := ?_) rfl (by kernel_rfl) (by kernel_rfl) (by kernel_rfl) (fun _ _ _ h => h) (Or.inl ⟨by rfl, ?hy⟩) (by assumption) ?_
          case hy => (intro w9 hSw; (try dsimp only at hSw); go_simp; try with_reducible rfl)
          try simp only [Act.put, List.setIfInBounds_toArray, List.set_cons_zero, List.set_cons_succ]
          refine wpAnyH_take (i := 7) (oi := { dst := some 46, op := Go.Op.extract (Go.Operand.tmp 39) 1, type := 29, pos := "imply.go:420", after := #[{ on := 5, ground := Go.Ground.data }, { on := 8, ground := Go.Ground.gcOnly Go.Departure.lateStores }], guard := none }) (v := ?_) rfl (by kernel_rfl) (by kernel_rfl) (by kernel_rfl) (fun _ _ _ h => h) (Or.inl ⟨by rfl, ?hy⟩) (by assumption) ?_
          case hy => (intro w9 hSw; (try dsimp only at hSw); go_simp; try with_reducible rfl)
          try simp only [Act.put, List.setIfInBounds_toArray, List.set_cons_zero, List.set_cons_succ]
          refine wpAnyH_take (i := 8) (oi := { dst := some 8, op := Go.Op.assign (Go.Operand.tmp 45), type := 4, pos := "imply.go:420", after := #[{ on := 6, ground := Go.Ground.data }, { on := 4, ground := Go.Ground.chain }, { on := 0, ground := Go.Ground.phase }, { on := 1, ground := Go.Ground.phase }, { on := 2, ground := Go.Ground.phase }, { on := 3, ground := Go.Ground.phase }, { on := 4, ground := Go.Ground.phase }, { on := 5, ground := Go.Ground.phase }, { on := 6, ground := Go.Ground.phase }, { on := 7, ground := Go.Ground.textOnly Go.Departure.lateStores }], guard := none }) (v := ?_) rfl (by kernel_rfl) (by kernel_rfl) (by kernel_rfl) (fun _ _ _ h => h) (Or.inl ⟨by rfl, ?hy⟩) (by assumption) ?_
          case hy => (intro w9 hSw; (try dsimp only at hSw); go_simp; try with_reducible rfl)
          try simp only [Act.put, List.setIfInBounds_toArray, List.set_cons_zero, List.set_cons_succ]
          refine wpAnyH_take (i := 9) (oi := { dst := some 6, op := Go.Op.assign (Go.Operand.tmp 46), type := 29, pos := "imply.go:420", after := #[{ on := 7, ground := Go.Ground.data }, { on := 8, ground := Go.Ground.chain }, { on := 0, ground := Go.Ground.phase }, { on := 1, ground := Go.Ground.phase }, { on := 2, ground := Go.Ground.phase }, { on := 3, ground := Go.Ground.phase }, { on := 4, ground := Go.Ground.phase }, { on := 5, ground := Go.Ground.phase }, { on := 6, ground := Go.Ground.phase }, { on := 7, ground := Go.Ground.phase }, { on := 8, ground := Go.Ground.phase }], guard := none }) (v := ?_) rfl (by kernel_rfl) (by kernel_rfl) (by kernel_rfl) (fun _ _ _ h => h) (Or.inl ⟨by rfl, ?hy⟩) (by assumption) ?_
          case hy => (intro w9 hSw; (try dsimp only at hSw); go_simp; try with_reducible rfl)
          try simp only [Act.put, List.setIfInBounds_toArray, List.set_cons_zero, List.set_cons_succ]
          refine wpAnyH_done (by kernel_rfl) ?_ _
          try simp only [Act.put, List.setIfInBounds_toArray, List.set_cons_zero, List.set_cons_succ]
          clear u0 u1 u2 g0 g1 g2 hHeld HG3 HF5 HF6 HBd HLd HB6 HL5 HB7 HL6 HL7
          rcases hh with rfl | ⟨rfl, h3⟩
          · go_wp2_with fail
            go_ret
            exact ⟨rfl, HB8.out⟩
          · cases o3
            · exact absurd h3 (by simp)
            · clear h3
              go_wp2_with fail
              go_ret
              exact ⟨rfl, HB8.out⟩
        · have hn' : L.n ≤ 1 := by omega
          clear hn
          go_wp2_with fail
          have u0 : ∀ w', (Below w.heap.size w w' ∧ LF w' w.heap.size L k x a l cap) → w'.cell? ⟨w.heap.size, 0, none⟩ = some (.int .i64 L.n) := fun w' h => h.2.1.1
          have u1 : ∀ w', (Below w.heap.size w w' ∧ LF w' w.heap.size L k x a l cap) → w'.cell? ⟨w.heap.size, 1, none⟩ = some (.slice L.a L.la L.ca) := fun w' h => h.2.1.2.1
          have u2 : ∀ w', (Below w.heap.size w w' ∧ LF w' w.heap.size L k x a l cap) → w'.cell? ⟨w.heap.size, 2, none⟩ = some (.slice L.b L.lb L.cb) := fun w' h => h.2.1.2.2
          have g0 : ∀ w', (Below w.heap.size w w' ∧ LF w' w.heap.size L k x a l cap) → w'.cell? ⟨w.heap.size + 1, 0, none⟩ = some (.int .i64 k) := fun w' h => h.2.2.1
          have g1 : ∀ w', (Below w.heap.size w w' ∧ LF w' w.heap.size L k x a l cap) → w'.cell? ⟨w.heap.size + 1, 1, none⟩ = some (.int .i64 x) := fun w' h => h.2.2.2.1
          have g2 : ∀ w', (Below w.heap.size w w' ∧ LF w' w.heap.size L k x a l cap) → w'.cell? ⟨w.heap.size + 1, 2, none⟩ = some (.slice a l cap) := fun w' h => h.2.2.2.2
          have HBd : Hid (Below w.heap.size w w4.drew) := HB5.out.drew
          have HLd : Hid (LF w4.drew w.heap.size L k x a l cap) := HL4.out.step ((Below.refl _ _).drew)
          clear HB5 HL4 l0 l1 l2 f0 f1 f2
          refine wp_region_held_drew (S := (fun w' => Below w.heap.size w w' ∧ LF w' w.heap.size L k x a l cap)) (by kernel_rfl) (⟨HBd.out, HLd.out⟩) (fun hHeld => ?_)
          refine wpAnyH_take (i := 0) (oi := { dst := some 40, op := Go.Op.load 24 (Go.Operand.tmp 2), type := 24, pos := "imply.go:420", after := #[], guard := none }) (v := ?_) rfl (by kernel_rfl) (by kernel_rfl) (by kernel_rfl) (fun _ _ _ h => h) (Or.inl ⟨by rfl, ?hy⟩) (by assumption) ?_
          case hy => (intro w9 hSw; (try dsimp only at hSw); go_simp; try with_reducible rfl)
          try simp only [Act.put, List.setIfInBounds_toArray, List.set_cons_zero, List.set_cons_succ]
          refine wpAnyH_take (i := 1) (oi := { dst := some 41, op := Go.Op.load 27 (Go.Operand.tmp 3), type := 27, pos := "imply.go:420", after := #[], guard := none }) (v := ?_) rfl (by kernel_rfl) (by kernel_rfl) (by kernel_rfl) (fun _ _ _ h => h) (Or.inl ⟨by rfl, ?hy⟩) (by assumption) ?_
          case hy => (intro w9 hSw; (try dsimp only at hSw); go_simp; try with_reducible rfl)
          try simp only [Act.put, List.setIfInBounds_toArray, List.set_cons_zero, List.set_cons_succ]
          refine wpAnyH_ready (rs := [2]) (by kernel_rfl) (by simp) ?_
          refine AllReadyH.cons (o := { dst := some 42, op := Go.Op.call { callee := Go.Callee.value (Go.Operand.func 7), args := #[Go.Operand.tmp 41], argTypes := #[27] }, type := 27, pos := "imply.go:420", after := #[{ on := 1, ground := Go.Ground.data }], guard := none }) rfl (fun K hK => ?_) AllReadyH.nil
          go_simp
          refine (not_any T _ _ (HFR.out _ HBd.out)).mono ?_
          rintro e w5 ⟨⟨x5, rfl, hx5⟩, hb5⟩
          obtain ⟨k5, y5, a5, l5, c5, rfl⟩ := hx5.form
          have HF5 : Hid (FRep w5 (nF T) (.agg #[.int .i64 k5, .int .i64 y5, .slice a5 l5 c5])) := hx5
          have HB6 : Hid (Below w.heap.size w w5) := Below.then HBd.out hb5
          have HL5 : Hid (LF w5 w.heap.size L k x a l cap) := HLd.out.step hb5
          clear hx5 hb5
          refine hK.out _ _ ?_ (fun hHeld => ?_)
          · first | exact ⟨HB8.out, HL7.out⟩ | exact ⟨HB7.out, HL6.out⟩ | exact ⟨HB6.out, HL5.out⟩
          clear hK K
          try simp only [Act.put, List.setIfInBounds_toArray, List.set_cons_zero, List.set_cons_succ]
          refine wpAnyH_ready (rs := [3]) (by kernel_rfl) (by simp) ?_
          refine AllReadyH.cons (o := { dst := some 43, op := Go.Op.call { callee := Go.Callee.value (Go.Operand.func 7), args := #[Go.Operand.tmp 42], argTypes := #[27] }, type := 27, pos := "imply.go:420", after := #[{ on := 2, ground := Go.Ground.data }, { on := 2, ground := Go.Ground.chain }], guard := none }) rfl (fun K hK => ?_) AllReadyH.nil
          go_simp
          refine (not_any (nF T) _ _ HF5.out).mono ?_
          rintro e w6 ⟨⟨x6, rfl, hx6⟩, hb6⟩
          obtain ⟨k6, y6, a6, l6, c6, rfl⟩ := hx6.form
          have HF6 : Hid (FRep w6 (nF (nF T)) (.agg #[.int .i64 k6, .int .i64 y6, .slice a6 l6 c6])) := hx6
          have HB7 : Hid (Below w.heap.size w w6) := Below.then HB6.out hb6
          have HL6 : Hid (LF w6 w.heap.size L k x a l cap) := HL5.out.step hb6
          clear hx6 hb6
          refine hK.out _ _ ?_ (fun hHeld => ?_)
          · first | exact ⟨HB8.out, HL7.out⟩ | exact ⟨HB7.out, HL6.out⟩ | exact ⟨HB6.out, HL5.out⟩
          clear hK K
          try simp only [Act.put, List.setIfInBounds_toArray, List.set_cons_zero, List.set_cons_succ]
          refine wpAnyH_ready (rs := [4]) (by kernel_rfl) (by simp) ?_
          refine AllReadyH.cons (o := { dst := some 44, op := Go.Op.call { callee := Go.Callee.value (Go.Operand.func 5), args := #[Go.Operand.tmp 40, Go.Operand.tmp 43], argTypes := #[24, 27] }, type := 30, pos := "imply.go:420", after := #[{ on := 0, ground := Go.Ground.data }, { on := 3, ground := Go.Ground.data }, { on := 3, ground := Go.Ground.chain }], guard := none }) rfl (fun K hK => ?_) AllReadyH.nil
          go_simp
          refine (validX_any L (nF (nF T)) _ _ (HI.out _ HB7.out) HF6.out).mono ?_
          rintro e w7 ⟨⟨o3, c3, hp, rfl⟩, hb7⟩
          have hh := HG3.out _ _ hp
          have HB8 : Hid (Below w.heap.size w w7) := Below.then HB7.out hb7
          have HL7 : Hid (LF w7 w.heap.size L k x a l cap) := HL6.out.step hb7
          clear hp hb7
          refine hK.out _ _ ?_ (fun hHeld => ?_)
          · first | exact ⟨HB8.out, HL7.out⟩ | exact ⟨HB7.out, HL6.out⟩ | exact ⟨HB6.out, HL5.out⟩
          clear hK K
          try simp only [Act.put, List.setIfInBounds_toArray, List.set_cons_zero, List.set_cons_succ]
          refine wpAnyH_take (i := 5) (oi := { dst := some 39, op := Go.Op.move (Go.Operand.tmp 44), type := 30, pos := "imply.go:420", after := #[{ on := 4, ground := Go.Ground.data }], guard := none }) (v := ?_) rfl (by kernel_rfl) (by kernel_rfl) (by kernel_rfl) (fun _ _ _ h => h) (Or.inl ⟨by rfl, ?hy⟩) (by assumption) ?_
          case hy => (intro w9 hSw; (try dsimp only at hSw); go_simp; try with_reducible rfl)
          try simp only [Act.put, List.setIfInBounds_toArray, List.set_cons_zero, List.set_cons_succ]
          refine wpAnyH_take (i := 6) (oi := { dst := some 45, op := Go.Op.extract (Go.Operand.tmp 39) 0, type := 4, pos := "imply.go:420", after := #[{ on := 5, ground := Go.Ground.data }], guard := none }) (v := ?_) rfl (by kernel_rfl) (by kernel_rfl) (by kernel_rfl) (fun _ _ _ h => h) (Or.inl ⟨by rfl, ?hy⟩) (by assumption) ?_
          case hy => (intro w9 hSw; (try dsimp only at hSw); go_simp; try with_reducible rfl)
          try simp only [Act.put, List.setIfInBounds_toArray, List.set_cons_zero, List.set_cons_succ]
          refine wpAnyH_take (i := 7) (oi := { dst := some 46, op := Go.Op.extract (Go.Operand.tmp 39) 1, type := 29, pos := "imply.go:420", after := #[{ on := 5, ground := Go.Ground.data }, { on := 8, ground := Go.Ground.gcOnly Go.Departure.lateStores }], guard := none }) (v := ?_) rfl (by kernel_rfl) (by kernel_rfl) (by kernel_rfl) (fun _ _ _ h => h) (Or.inl ⟨by rfl, ?hy⟩) (by assumption) ?_
          case hy => (intro w9 hSw; (try dsimp only at hSw); go_simp; try with_reducible rfl)
          try simp only [Act.put, List.setIfInBounds_toArray, List.set_cons_zero, List.set_cons_succ]
          refine wpAnyH_take (i := 8) (oi := { dst := some 8, op := Go.Op.assign (Go.Operand.tmp 45), type := 4, pos := "imply.go:420", after := #[{ on := 6, ground := Go.Ground.data }, { on := 4, ground := Go.Ground.chain }, { on := 0, ground := Go.Ground.phase }, { on := 1, ground := Go.Ground.phase }, { on := 2, ground := Go.Ground.phase }, { on := 3, ground := Go.Ground.phase }, { on := 4, ground := Go.Ground.phase }, { on := 5, ground := Go.Ground.phase }, { on := 6, ground := Go.Ground.phase }, { on := 7, ground := Go.Ground.textOnly Go.Departure.lateStores }], guard := none }) (v := ?_) rfl (by kernel_rfl) (by kernel_rfl) (by kernel_rfl) (fun _ _ _ h => h) (Or.inl ⟨by rfl, ?hy⟩) (by assumption) ?_
          case hy => (intro w9 hSw; (try dsimp only at hSw); go_simp; try with_reducible rfl)
          try simp only [Act.put, List.setIfInBounds_toArray, List.set_cons_zero, List.set_cons_succ]
          refine wpAnyH_take (i := 9) (oi := { dst := some 6, op := Go.Op.assign (Go.Operand.tmp 46), type := 29, pos := "imply.go:420", after := #[{ on := 7, ground := Go.Ground.data }, { on := 8, ground := Go.Ground.chain }, { on := 0, ground := Go.Ground.phase }, { on := 1, ground := Go.Ground.phase }, { on := 2, ground := Go.Ground.phase }, { on := 3, ground := Go.Ground.phase }, { on := 4, ground := Go.Ground.phase }, { on := 5, ground := Go.Ground.phase }, { on := 6, ground := Go.Ground.phase }, { on := 7, ground := Go.Ground.phase }, { on := 8, ground := Go.Ground.phase }], guard := none }) (v := ?_) rfl (by kernel_rfl) (by kernel_rfl) (by kernel_rfl) (fun _ _ _ h => h) (Or.inl ⟨by rfl, ?hy⟩) (by assumption) ?_
          case hy => (intro w9 hSw; (try dsimp only at hSw); go_simp; try with_reducible rfl)
          try simp only [Act.put, List.setIfInBounds_toArray, List.set_cons_zero, List.set_cons_succ]
          refine wpAnyH_done (by kernel_rfl) ?_ _
          try simp only [Act.put, List.setIfInBounds_toArray, List.set_cons_zero, List.set_cons_succ]
          clear u0 u1 u2 g0 g1 g2 hHeld HG3 HF5 HF6 HBd HLd HB6 HL5 HB7 HL6 HL7
          rcases hh with rfl | ⟨rfl, h3⟩
          · go_wp2_with fail
            go_ret
            exact ⟨rfl, HB8.out⟩
          · cases o3
            · exact absurd h3 (by simp)
            · clear h3
              go_wp2_with fail
              go_ret
              exact ⟨rfl, HB8.out⟩
  · have hne : (c1 == 0) = false := by simpa using hc1
    have hne' : (c1 != 0) = true := by simpa using hc1
    clear hc1
    go_wp2_with fail
    go_ret
    exact ⟨rfl, HB3.out⟩
end Go.Proofs.Ytfkkjebgccnlnaa
