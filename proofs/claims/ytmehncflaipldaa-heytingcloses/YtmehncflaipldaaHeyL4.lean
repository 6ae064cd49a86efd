/-
  hasselaw.HeytingCloses returns true of every lattice. No condition but that slices read as slices of rows.
-/
import Derived.Test.YtmehncflaipldaaHeyL2
import Derived.Test.YtmehncflaipldaaOthP
import Derived.Test.YtmehncflaipldaaPlaceR
namespace Go.Proofs.Ytmehncflaipldaa
set_option maxRecDepth 100000
open Go.RowKit

theorem nth_in {l : List Nat} {x : Nat} (h : x ∈ l) : ∃ k, k < l.length ∧ nth l k = x := by
  obtain ⟨k, hk, e⟩ := List.mem_iff_getElem.1 h
  exact ⟨k, hk, by simp [nth, hk, e]⟩
theorem nth_mem' {l : List Nat} {k : Nat} (h : k < l.length) : nth l k ∈ l := by
  have : nth l k = l[k] := by simp [nth, h]
  rw [this]; exact List.getElem_mem h
theorem regs_mem {q : Nat} {m j : Nat → Nat → Nat} {x : Nat} : x ∈ regs q m j ↔ x < q ∧ rgB q m j x = true := filt_mem _ _ _
/-- All that is asked of two regular elements. -/
theorem regs_two {L : LA} (hC : HCk L 0) {s t : Nat} (hs : s < (regs L.q L.m L.j).length) (ht : t < (regs L.q L.m L.j).length) :
    ((nth (regs L.q L.m L.j) s < L.q ∧ nth (regs L.q L.m L.j) t < L.q) ∧ (∃ k, k < (regs L.q L.m L.j).length ∧ nth (regs L.q L.m L.j) k = L.m (nth (regs L.q L.m L.j) s) (nth (regs L.q L.m L.j) t))) ∧
    (∃ k, k < (regs L.q L.m L.j).length ∧ nth (regs L.q L.m L.j) k = imp L.q L.m L.j (nth (regs L.q L.m L.j) s) (nth (regs L.q L.m L.j) t)) ∧
    ∀ v c, IPost L (nth (regs L.q L.m L.j) s : Nat) (nth (regs L.q L.m L.j) t : Nat) v c → v = (imp L.q L.m L.j (nth (regs L.q L.m L.j) s) (nth (regs L.q L.m L.j) t) : Nat) ∧ c = 0 := by
  have HC := hC
  rcases hC with ⟨h, _⟩ | ⟨hc, ⟨h, _⟩ | ⟨_, hd⟩⟩
  · exact absurd rfl h
  · exact absurd h (by decide)
  have hl := LA.Ck.lat hc
  have h1 := regs_mem.1 (nth_mem' hs)
  have h2 := regs_mem.1 (nth_mem' ht)
  generalize nth (regs L.q L.m L.j) s = X at *
  generalize nth (regs L.q L.m L.j) t = Y at *
  refine ⟨⟨⟨h1.1, h2.1⟩, nth_in (regs_mem.2 ⟨hl.2.2.1.im _ _ h1.1 h2.1, rg_meet hl.2.2.1 hl.1 hd h1.1 h2.1 h1.2 h2.2⟩)⟩, nth_in (regs_mem.2 ⟨imp_lt hl.2.2.1 hl.1 _ _, rg_imp hl.2.2.1 hl.1 hd h1.1 h2.1 h2.2⟩), fun v c h => ?_⟩
  have hn := hl.2.2.2
  exact h.one (.inr ⟨HC, .inr ⟨rfl, ⟨⟨by omega, by omega⟩, by omega, by omega⟩, rfl⟩⟩)
theorem oth_at {L : LA} {k : Nat} {e : Ending} {w : World} (hc : L.Ck 0) (hk : k < L.q) (h : OthPost L.n L.la L.SA L.FA L.lb L.SB L.FB (k : Nat) e w) :
    ∃ v, e = .returned (.tuple #[v, .int .i64 0]) ∧ NSl w v (oths L.q L.m L.j k L.q) := by
  obtain ⟨c0, c, v, h1, h2, rfl, h3⟩ := h
  have hn := (LA.Ck.lat hc).2.2.2
  obtain rfl : c0 = 0 := LCk.one h1 hc
  have c00 : c = 0 := by
    rcases h2 with ⟨h, _⟩ | ⟨_, ⟨_, h⟩ | ⟨h, _⟩⟩
    · exact absurd rfl h
    · exact absurd ⟨by omega, by omega⟩ h
    · exact h
  subst c00
  refine ⟨v, rfl, ?_⟩
  rcases h3 with ⟨h, _⟩ | ⟨_, h⟩
  · exact absurd rfl h
  · exact h
set_option maxHeartbeats 4000000 in
theorem heytingCloses_la (L : LA) (w : World) (hL : L.In w) :
    Calls Try.prog 6 #[.agg #[.int .i64 L.n, .slice L.a L.la L.ca, .slice L.b L.lb L.cb]] w fun e w' => e = .returned (.bool true) ∧ Below w.heap.size w w' := by
  have B1 : Below w.heap.size w (w.alloc (.cells #[.int .i64 L.n, .slice L.a L.la L.ca, .slice L.b L.lb L.cb] 24)) := (Below.refl _ _).alloc (Nat.le_refl _) _
  have L0 := LB.new w L.n L.a L.la L.ca L.b L.lb L.cb
  have HI : Hid (L.In (w.alloc (.cells #[.int .i64 L.n, .slice L.a L.la L.ca, .slice L.b L.lb L.cb] 24))) := hL.step B1
  have HB1 : Hid _ := B1
  clear B1 hL
  go_enter Try.func6, Try.ntmps6
  go_wp2_with fail
  refine (heytingBegun_any _).mono ?_
  rintro e w1 ⟨rfl, hb1⟩
  have HB2 : Hid (Below w.heap.size w w1) := Below.then HB1.out hb1
  have HI1 : Hid (L.In w1) := HI.out.step hb1
  have L1 := L0.step hb1
  have l0 := L1.1
  have l1 := L1.2.1
  have l2 := L1.2.2
  clear hb1 HB1 HI L0
  go_wp2_with fail
  refine (regular_any L _ HI1.out).mono ?_
  rintro e w2 ⟨⟨v, c, rfl, hp⟩, hb2⟩
  have HC : Hid (HCk L c) := hp.1
  have HV : Hid ((c ≠ 0 ∧ v = .slice none 0 0) ∨ (c = 0 ∧ NSl w2 v (regs L.q L.m L.j))) := hp.2
  have HB3 : Hid (Below w.heap.size w w2) := Below.then HB2.out hb2
  have HI2 : Hid (L.In w2) := HI1.out.step hb2
  have L2 := L1.step hb2
  clear hp hb2 HB2 HI1 L1 l0 l1 l2
  have l0 := L2.1
  have l1 := L2.2.1
  have l2 := L2.2.2
  go_wp2_with fail
  refine (boolean_any L _ HI2.out).mono ?_
  rintro e W ⟨⟨bv, c2, rfl, hc2, hp2⟩, hb3⟩
  obtain rfl := hc2.one HC.out
  have HP2 : Hid ((c2 ≠ 0 ∧ bv = false) ∨ (c2 = 0 ∧ (bv = true ↔ (regs L.q L.m L.j).length = L.q))) := hp2
  have HBW : Hid (Below w.heap.size w W) := Below.then HB3.out hb3
  have HVW : Hid ((c2 ≠ 0 ∧ v = .slice none 0 0) ∨ (c2 = 0 ∧ NSl W v (regs L.q L.m L.j))) := HV.out.imp_right fun h => ⟨h.1, h.2.below hb3⟩
  have HIW : Hid (L.In W) := HI2.out.step hb3
  have HLW : Hid (LB W w.heap.size L.n L.a L.la L.ca L.b L.lb L.cb) := L2.step hb3
  clear hp2 hb3 hc2 HB3 HI2 L2 l0 l1 l2 HV
  by_cases h0 : c2 = 0
  · subst h0
    have HCK : Hid (L.Ck 0) := by
      rcases HC.out with ⟨h, _⟩ | ⟨h, _⟩
      · exact absurd rfl h
      · exact h
    have HDI : Hid (All3 L.q (disB L.m L.j)) := by
      rcases HC.out with ⟨h, _⟩ | ⟨_, ⟨h, _⟩ | ⟨_, h⟩⟩
      · exact absurd rfl h
      · exact absurd h (by decide)
      · exact h
    have HLT : Hid _ := LA.Ck.lat HCK.out
    have HBO : Hid (bv = true ↔ ∀ x, x < L.q → (oths L.q L.m L.j x L.q).length = 1) := by
      refine Iff.trans ?_ (boole HLT.out.2.2.1 HLT.out.1 HDI.out)
      rcases HP2.out with ⟨h, _⟩ | ⟨_, h⟩
      · exact absurd rfl h
      · exact h
    have hv : NSl W v (regs L.q L.m L.j) := by
      rcases HVW.out with ⟨h, _⟩ | ⟨_, h⟩
      · exact absurd rfl h
      · exact h
    have HTW : Hid (∀ s t, s < (regs L.q L.m L.j).length → t < (regs L.q L.m L.j).length → _) := fun s t hs ht => regs_two HC.out hs ht
    have HPM : Hid ((regs L.q L.m L.j).length ≤ maxLen) := regs_len L HCK.out
    have hPq : (regs L.q L.m L.j).length ≤ L.q := filt_len _ _
    have HNQ : Hid (L.n = (L.q : Nat)) := HLT.out.2.2.2
    have h40 : L.q ≤ 40 := HLT.out.2.1
    obtain ⟨a, cap, rfl, hrow⟩ := hv
    have HRW0 : Hid (∀ w', Below W.heap.size W w' → Row w' a (regs L.q L.m L.j).length (fun k => (nth (regs L.q L.m L.j) k : Nat))) := fun w' h => hrow.below h
    have HIN0 : Hid (∀ w', Below W.heap.size W w' → L.In w') := fun w' h => HIW.out.step h
    have HLW0 : Hid (∀ w', Below W.heap.size W w' → LB w' w.heap.size (L.q : Nat) L.a L.la L.ca L.b L.lb L.cb) := fun w' h => by rw [← HNQ.out]; exact HLW.out.step h
    obtain ⟨b1, o1, HTB⟩ : ∃ b1 o1, Hid (L.a = some ⟨b1, o1, none⟩ ∧ L.la = L.q ∧ ∀ w', Below W.heap.size W w' → Tb w' b1 o1 L.q (fun x => rAt (L.SA x)) L.m) := by
      obtain ⟨q, b1, o1, b2, o2, eq, e1, hla, e2, hlb, _, _, _, ht1, _⟩ := LCk.open HCK.out HIW.out.2.2.1 HIW.out.2.2.2
      have hqq : q = L.q := by unfold LA.q; omega
      rw [hqq] at ht1
      exact ⟨b1, o1, e1, by omega, fun w' h => ht1.step h⟩
    clear HVW hrow HP2 HLW HIW HC HDI HLT
    obtain ⟨l, hl⟩ : ∃ l, l = regs L.q L.m L.j := ⟨_, rfl⟩
    rw [← hl] at HTW HPM hPq HRW0
    rw [← hl]
    obtain ⟨P, HPL⟩ : ∃ P, Hid (P = l.length) := ⟨_, rfl⟩
    have hPm : P ≤ maxLen := by rw [HPL.out]; exact HPM.out
    have hP40 : P ≤ 40 := by rw [HPL.out]; omega
    rw [← HPL.out]
    clear hl hPq
    go_wp2_with fail
    go_loopw [7] (fun i wx => ∃ k : Nat, k ≤ P ∧ i = .int .i64 k ∧ Hid (Below W.heap.size W wx)) (fun i _ => P - (intOf i).toNat)
    case atStart => exact ⟨0, Nat.zero_le _, rfl, Below.refl _ _⟩
    case round =>
      obtain ⟨k, hk, rfl, HW⟩ := hrel
      by_cases hlt : k < P
      · have hkI : (k : Int) < (P : Int) := by omega
        obtain ⟨ab, ao, ea, hcell⟩ : ∃ ab ao, a = some ⟨ab, ao, none⟩ ∧ ∀ w', Below wr.heap.size wr w' → w'.cell? ⟨ab, ao + k, none⟩ = some (.int .i64 (nth l k : Nat)) := by
          obtain ⟨ab, ao, e, _⟩ := HRW0.out W (Below.refl _ _) k (by rw [← HPL.out]; exact hlt)
          refine ⟨ab, ao, e, fun w' h => ?_⟩
          obtain ⟨ab', ao', e', h'⟩ := HRW0.out w' (Below.then HW.out h) k (by rw [← HPL.out]; exact hlt)
          rw [e] at e'
          cases e'
          exact h'
        subst ea
        have hel : nth l k < L.q := (HTW.out k k (by rw [← HPL.out]; exact hlt) (by rw [← HPL.out]; exact hlt)).1.1.1
        have hge0 : (0 : Int) ≤ ((nth l k : Nat) : Int) := by omega
        have hltq : ((nth l k : Nat) : Int) < (L.q : Int) := by omega
        have d0 : ∀ w', Below wr.heap.size wr w' → w'.cell? ⟨w.heap.size, 0, none⟩ = some (.int .i64 (L.q : Nat)) := fun w' h => (HLW0.out w' (Below.then HW.out h)).1
        go_wp2_with fail
        refine wp_region_held_drew (S := (fun w' => Below wr.heap.size wr w')) (by kernel_rfl) ((Below.refl _ _).drew) (fun hHeld => ?_)
        refine wpAnyH_take (i := 0) (oi := { dst := some 39, op := Go.Op.move (Go.Operand.tmp 3), type := 33, pos := "imply.go:435", after := #[], guard := none }) (v := ?_) rfl (by kernel_rfl) (by kernel_rfl) (by kernel_rfl) (fun _ _ _ h => h) (Or.inl ⟨by rfl, ?hy⟩) (by assumption) ?_
        case hy => (intro w9 hSw; (try dsimp only at hSw); go_simp; try with_reducible rfl)
        try simp only [Act.put, List.setIfInBounds_toArray, List.set_cons_zero, List.set_cons_succ]
        refine wpAnyH_take (i := 1) (oi := { dst := some 40, op := Go.Op.move (Go.Operand.tmp 7), type := 3, pos := "imply.go:435", after := #[], guard := none }) (v := ?_) rfl (by kernel_rfl) (by kernel_rfl) (by kernel_rfl) (fun _ _ _ h => h) (Or.inl ⟨by rfl, ?hy⟩) (by assumption) ?_
        case hy => (intro w9 hSw; (try dsimp only at hSw); go_simp; try with_reducible rfl)
        try simp only [Act.put, List.setIfInBounds_toArray, List.set_cons_zero, List.set_cons_succ]
        refine wpAnyH_take (i := 2) (oi := { dst := some 41, op := Go.Op.indexAddr 33 (Go.Operand.tmp 39) (Go.Operand.tmp 40), type := 0, pos := "imply.go:435", after := #[{ on := 0, ground := Go.Ground.data }, { on := 1, ground := Go.Ground.data }], guard := none }) (v := ?_) rfl (by kernel_rfl) (by kernel_rfl) (by kernel_rfl) (fun _ _ _ h => h) (Or.inl ⟨by rfl, ?hy⟩) (by assumption) ?_
        case hy => (intro w9 hSw; (try dsimp only at hSw); go_simp; try with_reducible rfl)
        try simp only [Act.put, List.setIfInBounds_toArray, List.set_cons_zero, List.set_cons_succ]
        refine wpAnyH_take (i := 3) (oi := { dst := some 42, op := Go.Op.load 3 (Go.Operand.tmp 41), type := 3, pos := "imply.go:435", after := #[{ on := 2, ground := Go.Ground.data }], guard := none }) (v := ?_) rfl (by kernel_rfl) (by kernel_rfl) (by kernel_rfl) (fun _ _ _ h => h) (Or.inl ⟨by rfl, ?hy⟩) (by assumption) ?_
        case hy => (intro w9 hSw; (try dsimp only at hSw); go_simp; try with_reducible rfl)
        try simp only [Act.put, List.setIfInBounds_toArray, List.set_cons_zero, List.set_cons_succ]
        refine wpAnyH_take (i := 4) (oi := { dst := some 43, op := Go.Op.binOp Go.BinOp.lss 3 (Go.Operand.tmp 42) (Go.Operand.const (Go.Value.int Go.IntKind.i64 0)) 3, type := 4, pos := "imply.go:435", after := #[{ on := 3, ground := Go.Ground.data }], guard := none }) (v := ?_) rfl (by kernel_rfl) (by kernel_rfl) (by kernel_rfl) (fun _ _ _ h => h) (Or.inl ⟨by rfl, ?hy⟩) (by assumption) ?_
        case hy => (intro w9 hSw; (try dsimp only at hSw); go_simp; try with_reducible rfl)
        try simp only [Act.put, List.setIfInBounds_toArray, List.set_cons_zero, List.set_cons_succ]
        refine wpAnyH_take (i := 5) (oi := { dst := some 44, op := Go.Op.move (Go.Operand.tmp 43), type := 4, pos := "imply.go:435", after := #[{ on := 4, ground := Go.Ground.data }], guard := none }) (v := ?_) rfl (by kernel_rfl) (by kernel_rfl) (by kernel_rfl) (fun _ _ _ h => h) (Or.inl ⟨by rfl, ?hy⟩) (by assumption) ?_
        case hy => (intro w9 hSw; (try dsimp only at hSw); go_simp; try with_reducible rfl)
        try simp only [Act.put, List.setIfInBounds_toArray, List.set_cons_zero, List.set_cons_succ]
        refine wpAnyH_take (i := 6) (oi := { dst := some 45, op := Go.Op.move (Go.Operand.tmp 3), type := 33, pos := "imply.go:435", after := #[{ on := 5, ground := Go.Ground.guard }], guard := some (5, false) }) (v := ?_) rfl (by kernel_rfl) (by kernel_rfl) (by kernel_rfl) (fun _ _ _ h => h) (Or.inl ⟨by rfl, ?hy⟩) (by assumption) ?_
        case hy => (intro w9 hSw; (try dsimp only at hSw); go_simp; try with_reducible rfl)
        try simp only [Act.put, List.setIfInBounds_toArray, List.set_cons_zero, List.set_cons_succ]
        refine wpAnyH_take (i := 7) (oi := { dst := some 46, op := Go.Op.move (Go.Operand.tmp 7), type := 3, pos := "imply.go:435", after := #[{ on := 5, ground := Go.Ground.guard }], guard := some (5, false) }) (v := ?_) rfl (by kernel_rfl) (by kernel_rfl) (by kernel_rfl) (fun _ _ _ h => h) (Or.inl ⟨by rfl, ?hy⟩) (by assumption) ?_
        case hy => (intro w9 hSw; (try dsimp only at hSw); go_simp; try with_reducible rfl)
        try simp only [Act.put, List.setIfInBounds_toArray, List.set_cons_zero, List.set_cons_succ]
        refine wpAnyH_take (i := 8) (oi := { dst := some 47, op := Go.Op.indexAddr 33 (Go.Operand.tmp 45) (Go.Operand.tmp 46), type := 0, pos := "imply.go:435", after := #[{ on := 6, ground := Go.Ground.data }, { on := 7, ground := Go.Ground.data }, { on := 5, ground := Go.Ground.guard }], guard := some (5, false) }) (v := ?_) rfl (by kernel_rfl) (by kernel_rfl) (by kernel_rfl) (fun _ _ _ h => h) (Or.inl ⟨by rfl, ?hy⟩) (by assumption) ?_
        case hy => (intro w9 hSw; (try dsimp only at hSw); go_simp; try with_reducible rfl)
        try simp only [Act.put, List.setIfInBounds_toArray, List.set_cons_zero, List.set_cons_succ]
        refine wpAnyH_take (i := 9) (oi := { dst := some 48, op := Go.Op.load 3 (Go.Operand.tmp 47), type := 3, pos := "imply.go:435", after := #[{ on := 8, ground := Go.Ground.data }, { on := 5, ground := Go.Ground.guard }], guard := some (5, false) }) (v := ?_) rfl (by kernel_rfl) (by kernel_rfl) (by kernel_rfl) (fun _ _ _ h => h) (Or.inl ⟨by rfl, ?hy⟩) (by assumption) ?_
        case hy => (intro w9 hSw; (try dsimp only at hSw); go_simp; try with_reducible rfl)
        try simp only [Act.put, List.setIfInBounds_toArray, List.set_cons_zero, List.set_cons_succ]
        refine wpAnyH_take (i := 10) (oi := { dst := some 49, op := Go.Op.fieldAddr 24 (Go.Operand.tmp 1) 0, type := 0, pos := "imply.go:435", after := #[{ on := 5, ground := Go.Ground.guard }], guard := some (5, false) }) (v := ?_) rfl (by kernel_rfl) (by kernel_rfl) (by kernel_rfl) (fun _ _ _ h => h) (Or.inl ⟨by rfl, ?hy⟩) (by assumption) ?_
        case hy => (intro w9 hSw; (try dsimp only at hSw); go_simp; try with_reducible rfl)
        try simp only [Act.put, List.setIfInBounds_toArray, List.set_cons_zero, List.set_cons_succ]
        refine wpAnyH_take (i := 11) (oi := { dst := some 50, op := Go.Op.load 3 (Go.Operand.tmp 49), type := 3, pos := "imply.go:435", after := #[{ on := 10, ground := Go.Ground.data }, { on := 5, ground := Go.Ground.guard }], guard := some (5, false) }) (v := ?_) rfl (by kernel_rfl) (by kernel_rfl) (by kernel_rfl) (fun _ _ _ h => h) (Or.inl ⟨by rfl, ?hy⟩) (by assumption) ?_
        case hy => (intro w9 hSw; (try dsimp only at hSw); go_simp; try with_reducible rfl)
        try simp only [Act.put, List.setIfInBounds_toArray, List.set_cons_zero, List.set_cons_succ]
        refine wpAnyH_take (i := 12) (oi := { dst := some 51, op := Go.Op.binOp Go.BinOp.geq 3 (Go.Operand.tmp 48) (Go.Operand.tmp 50) 3, type := 4, pos := "imply.go:435", after := #[{ on := 9, ground := Go.Ground.data }, { on := 11, ground := Go.Ground.data }, { on := 5, ground := Go.Ground.guard }], guard := some (5, false) }) (v := ?_) rfl (by kernel_rfl) (by kernel_rfl) (by kernel_rfl) (fun _ _ _ h => h) (Or.inl ⟨by rfl, ?hy⟩) (by assumption) ?_
        case hy => (intro w9 hSw; (try dsimp only at hSw); go_simp; try with_reducible rfl)
        try simp only [Act.put, List.setIfInBounds_toArray, List.set_cons_zero, List.set_cons_succ]
        refine wpAnyH_take (i := 13) (oi := { dst := some 52, op := Go.Op.pick (Go.Operand.tmp 44) (Go.Operand.const (Go.Value.bool true)) (Go.Operand.tmp 51), type := 4, pos := "imply.go:435", after := #[{ on := 5, ground := Go.Ground.data }, { on := 12, ground := Go.Ground.data }], guard := none }) (v := ?_) rfl (by kernel_rfl) (by kernel_rfl) (by kernel_rfl) (fun _ _ _ h => h) (Or.inl ⟨by rfl, ?hy⟩) (by assumption) ?_
        case hy => (intro w9 hSw; (try dsimp only at hSw); go_simp; try with_reducible rfl)
        try simp only [Act.put, List.setIfInBounds_toArray, List.set_cons_zero, List.set_cons_succ]
        refine wpAnyH_done (by kernel_rfl) ?_ _
        try simp only [Act.put, List.setIfInBounds_toArray, List.set_cons_zero, List.set_cons_succ]
        have HW9 : Hid (Below W.heap.size W _) := Below.then HW.out hHeld
        clear hHeld HW d0 hcell
        go_wp2_with fail
        go_roundw
        case rel => exact ⟨k + 1, by omega, by go_num, HW9.out⟩
        case measure => simp [intOf]; omega
      · have hge : (P : Int) ≤ (k : Int) := by omega
        go_wp2_with fail
        go_loopw [8] (fun i wx => ∃ s : Nat, s ≤ P ∧ i = .int .i64 s ∧ Hid (Below W.heap.size W wx)) (fun i _ => P - (intOf i).toNat)
        case atStart => exact ⟨0, Nat.zero_le _, rfl, HW.out⟩
        case round =>
          clear HW
          obtain ⟨s, hs, rfl, HW⟩ := hrel
          by_cases hsP : s < P
          · have hsI : (s : Int) < (P : Int) := by omega
            go_wp2_with fail
            go_loopw [9] (fun i wx => ∃ t : Nat, t ≤ P ∧ i = .int .i64 t ∧ Hid (Below W.heap.size W wx)) (fun i _ => P - (intOf i).toNat)
            case atStart => exact ⟨0, Nat.zero_le _, rfl, HW.out⟩
            case round =>
              clear HW
              obtain ⟨t, ht, rfl, HW⟩ := hrel
              by_cases htP : t < P
              · have htI : (t : Int) < (P : Int) := by omega
                have hT := HTW.out s t (by rw [← HPL.out]; exact hsP) (by rw [← HPL.out]; exact htP)
                have hels := hT.1.1.1
                have helt := hT.1.1.2
                have HMM : Hid _ := hT.1.2
                have HMI : Hid _ := hT.2.1
                have HIM : Hid _ := hT.2.2
                clear hT
                obtain ⟨ab, ao, HCE⟩ : ∃ ab ao, Hid (a = some ⟨ab, ao, none⟩ ∧ ∀ w', Below W.heap.size W w' → w'.cell? ⟨ab, ao + s, none⟩ = some (.int .i64 (nth l s : Nat)) ∧ w'.cell? ⟨ab, ao + t, none⟩ = some (.int .i64 (nth l t : Nat))) := by
                  obtain ⟨ab, ao, e, _⟩ := HRW0.out W (Below.refl _ _) s (by rw [← HPL.out]; exact hsP)
                  refine ⟨ab, ao, e, fun w' h => ?_⟩
                  obtain ⟨ab', ao', e', h'⟩ := HRW0.out w' h s (by rw [← HPL.out]; exact hsP)
                  rw [e] at e'
                  cases e'
                  obtain ⟨ab', ao', e', h''⟩ := HRW0.out w' h t (by rw [← HPL.out]; exact htP)
                  rw [e] at e'
                  cases e'
                  exact ⟨h', h''⟩
                obtain rfl := HCE.out.1
                have hcs : ∀ w', Below wr.heap.size wr w' → w'.cell? ⟨ab, ao + s, none⟩ = some (.int .i64 (nth l s : Nat)) := fun w' h => (HCE.out.2 w' (Below.then HW.out h)).1
                have hct : ∀ w', Below wr.heap.size wr w' → w'.cell? ⟨ab, ao + t, none⟩ = some (.int .i64 (nth l t : Nat)) := fun w' h => (HCE.out.2 w' (Below.then HW.out h)).2
                have HIN : Hid (∀ w', Below wr.heap.size wr w' → L.In w') := fun w' h => HIN0.out w' (Below.then HW.out h)
                have d0 : ∀ w', Below wr.heap.size wr w' → w'.cell? ⟨w.heap.size, 0, none⟩ = some (.int .i64 L.n) := fun w' h => by rw [HNQ.out]; exact (HLW0.out w' (Below.then HW.out h)).1
                have d1 : ∀ w', Below wr.heap.size wr w' → w'.cell? ⟨w.heap.size, 1, none⟩ = some (.slice L.a L.la L.ca) := fun w' h => (HLW0.out w' (Below.then HW.out h)).2.1
                have d2 : ∀ w', Below wr.heap.size wr w' → w'.cell? ⟨w.heap.size, 2, none⟩ = some (.slice L.b L.lb L.cb) := fun w' h => (HLW0.out w' (Below.then HW.out h)).2.2
                go_wp2_with fail
                refine wp_region_held_drew (S := (fun w' => Below wr.heap.size wr w')) (by kernel_rfl) ((Below.refl _ _).drew) (fun hHeld => ?_)
                refine wpAnyH_take (i := 0) (oi := { dst := some 66, op := Go.Op.load 24 (Go.Operand.tmp 1), type := 24, pos := "imply.go:441", after := #[], guard := none }) (v := ?_) rfl (by kernel_rfl) (by kernel_rfl) (by kernel_rfl) (fun _ _ _ h => h) (Or.inl ⟨by rfl, ?hy⟩) (by assumption) ?_
                case hy => (intro w9 hSw; (try dsimp only at hSw); go_simp; try with_reducible rfl)
                try simp only [Act.put, List.setIfInBounds_toArray, List.set_cons_zero, List.set_cons_succ]
                refine wpAnyH_take (i := 1) (oi := { dst := some 67, op := Go.Op.move (Go.Operand.tmp 3), type := 33, pos := "imply.go:441", after := #[], guard := none }) (v := ?_) rfl (by kernel_rfl) (by kernel_rfl) (by kernel_rfl) (fun _ _ _ h => h) (Or.inl ⟨by rfl, ?hy⟩) (by assumption) ?_
                case hy => (intro w9 hSw; (try dsimp only at hSw); go_simp; try with_reducible rfl)
                try simp only [Act.put, List.setIfInBounds_toArray, List.set_cons_zero, List.set_cons_succ]
                refine wpAnyH_take (i := 2) (oi := { dst := some 68, op := Go.Op.move (Go.Operand.tmp 8), type := 3, pos := "imply.go:441", after := #[], guard := none }) (v := ?_) rfl (by kernel_rfl) (by kernel_rfl) (by kernel_rfl) (fun _ _ _ h => h) (Or.inl ⟨by rfl, ?hy⟩) (by assumption) ?_
                case hy => (intro w9 hSw; (try dsimp only at hSw); go_simp; try with_reducible rfl)
                try simp only [Act.put, List.setIfInBounds_toArray, List.set_cons_zero, List.set_cons_succ]
                refine wpAnyH_take (i := 3) (oi := { dst := some 69, op := Go.Op.indexAddr 33 (Go.Operand.tmp 67) (Go.Operand.tmp 68), type := 0, pos := "imply.go:441", after := #[{ on := 1, ground := Go.Ground.data }, { on := 2, ground := Go.Ground.data }], guard := none }) (v := ?_) rfl (by kernel_rfl) (by kernel_rfl) (by kernel_rfl) (fun _ _ _ h => h) (Or.inl ⟨by rfl, ?hy⟩) (by assumption) ?_
                case hy => (intro w9 hSw; (try dsimp only at hSw); go_simp; try with_reducible rfl)
                try simp only [Act.put, List.setIfInBounds_toArray, List.set_cons_zero, List.set_cons_succ]
                refine wpAnyH_take (i := 4) (oi := { dst := some 70, op := Go.Op.load 3 (Go.Operand.tmp 69), type := 3, pos := "imply.go:441", after := #[{ on := 3, ground := Go.Ground.data }], guard := none }) (v := ?_) rfl (by kernel_rfl) (by kernel_rfl) (by kernel_rfl) (fun _ _ _ h => h) (Or.inl ⟨by rfl, ?hy⟩) (by assumption) ?_
                case hy => (intro w9 hSw; (try dsimp only at hSw); go_simp; try with_reducible rfl)
                try simp only [Act.put, List.setIfInBounds_toArray, List.set_cons_zero, List.set_cons_succ]
                refine wpAnyH_take (i := 5) (oi := { dst := some 71, op := Go.Op.move (Go.Operand.tmp 3), type := 33, pos := "imply.go:441", after := #[], guard := none }) (v := ?_) rfl (by kernel_rfl) (by kernel_rfl) (by kernel_rfl) (fun _ _ _ h => h) (Or.inl ⟨by rfl, ?hy⟩) (by assumption) ?_
                case hy => (intro w9 hSw; (try dsimp only at hSw); go_simp; try with_reducible rfl)
                try simp only [Act.put, List.setIfInBounds_toArray, List.set_cons_zero, List.set_cons_succ]
                refine wpAnyH_take (i := 6) (oi := { dst := some 72, op := Go.Op.move (Go.Operand.tmp 9), type := 3, pos := "imply.go:441", after := #[], guard := none }) (v := ?_) rfl (by kernel_rfl) (by kernel_rfl) (by kernel_rfl) (fun _ _ _ h => h) (Or.inl ⟨by rfl, ?hy⟩) (by assumption) ?_
                case hy => (intro w9 hSw; (try dsimp only at hSw); go_simp; try with_reducible rfl)
                try simp only [Act.put, List.setIfInBounds_toArray, List.set_cons_zero, List.set_cons_succ]
                refine wpAnyH_take (i := 7) (oi := { dst := some 73, op := Go.Op.indexAddr 33 (Go.Operand.tmp 71) (Go.Operand.tmp 72), type := 0, pos := "imply.go:441", after := #[{ on := 5, ground := Go.Ground.data }, { on := 6, ground := Go.Ground.data }], guard := none }) (v := ?_) rfl (by kernel_rfl) (by kernel_rfl) (by kernel_rfl) (fun _ _ _ h => h) (Or.inl ⟨by rfl, ?hy⟩) (by assumption) ?_
                case hy => (intro w9 hSw; (try dsimp only at hSw); go_simp; try with_reducible rfl)
                try simp only [Act.put, List.setIfInBounds_toArray, List.set_cons_zero, List.set_cons_succ]
                refine wpAnyH_take (i := 8) (oi := { dst := some 74, op := Go.Op.load 3 (Go.Operand.tmp 73), type := 3, pos := "imply.go:441", after := #[{ on := 7, ground := Go.Ground.data }], guard := none }) (v := ?_) rfl (by kernel_rfl) (by kernel_rfl) (by kernel_rfl) (fun _ _ _ h => h) (Or.inl ⟨by rfl, ?hy⟩) (by assumption) ?_
                case hy => (intro w9 hSw; (try dsimp only at hSw); go_simp; try with_reducible rfl)
                try simp only [Act.put, List.setIfInBounds_toArray, List.set_cons_zero, List.set_cons_succ]
                refine wpAnyH_ready (rs := [9]) (by kernel_rfl) (by simp) ?_
                refine AllReadyH.cons (o := { dst := some 75, op := Go.Op.call { callee := Go.Callee.value (Go.Operand.func 7), args := #[Go.Operand.tmp 66, Go.Operand.tmp 70, Go.Operand.tmp 74], argTypes := #[24, 3, 3] }, type := 26, pos := "imply.go:441", after := #[{ on := 0, ground := Go.Ground.data }, { on := 4, ground := Go.Ground.data }, { on := 8, ground := Go.Ground.data }], guard := none }) rfl (fun K hK => ?_) AllReadyH.nil
                go_simp
                refine (implies_any L (nth l s) (nth l t) _ (HIN.out _ (by assumption))).mono ?_
                rintro e w7 ⟨⟨iv, ic, hp, rfl⟩, hb7⟩
                obtain ⟨rfl, rfl⟩ := HIM.out _ _ hp
                clear hp
                refine hK.out _ _ ?_ (fun hHeld => ?_)
                · first | assumption | exact Below.then (by assumption) (by assumption)
                clear hK K
                try simp only [Act.put, List.setIfInBounds_toArray, List.set_cons_zero, List.set_cons_succ]
                refine wpAnyH_take (i := 10) (oi := { dst := some 65, op := Go.Op.move (Go.Operand.tmp 75), type := 26, pos := "imply.go:441", after := #[{ on := 9, ground := Go.Ground.data }], guard := none }) (v := ?_) rfl (by kernel_rfl) (by kernel_rfl) (by kernel_rfl) (fun _ _ _ h => h) (Or.inl ⟨by rfl, ?hy⟩) (by assumption) ?_
                case hy => (intro w9 hSw; (try dsimp only at hSw); go_simp; try with_reducible rfl)
                try simp only [Act.put, List.setIfInBounds_toArray, List.set_cons_zero, List.set_cons_succ]
                refine wpAnyH_take (i := 11) (oi := { dst := some 76, op := Go.Op.extract (Go.Operand.tmp 65) 0, type := 3, pos := "imply.go:441", after := #[{ on := 10, ground := Go.Ground.data }], guard := none }) (v := ?_) rfl (by kernel_rfl) (by kernel_rfl) (by kernel_rfl) (fun _ _ _ h => h) (Or.inl ⟨by rfl, ?hy⟩) (by assumption) ?_
                case hy => (intro w9 hSw; (try dsimp only at hSw); go_simp; try with_reducible rfl)
                try simp only [Act.put, List.setIfInBounds_toArray, List.set_cons_zero, List.set_cons_succ]
                refine wpAnyH_take (i := 12) (oi := { dst := some 77, op := Go.Op.extract (Go.Operand.tmp 65) 1, type := 25, pos := "imply.go:441", after := #[{ on := 10, ground := Go.Ground.data }, { on := 13, ground := Go.Ground.gcOnly Go.Departure.lateStores }], guard := none }) (v := ?_) rfl (by kernel_rfl) (by kernel_rfl) (by kernel_rfl) (fun _ _ _ h => h) (Or.inl ⟨by rfl, ?hy⟩) (by assumption) ?_
                case hy => (intro w9 hSw; (try dsimp only at hSw); go_simp; try with_reducible rfl)
                try simp only [Act.put, List.setIfInBounds_toArray, List.set_cons_zero, List.set_cons_succ]
                refine wpAnyH_take (i := 13) (oi := { dst := some 10, op := Go.Op.assign (Go.Operand.tmp 76), type := 3, pos := "imply.go:441", after := #[{ on := 11, ground := Go.Ground.data }, { on := 9, ground := Go.Ground.chain }, { on := 0, ground := Go.Ground.phase }, { on := 1, ground := Go.Ground.phase }, { on := 2, ground := Go.Ground.phase }, { on := 3, ground := Go.Ground.phase }, { on := 4, ground := Go.Ground.phase }, { on := 5, ground := Go.Ground.phase }, { on := 6, ground := Go.Ground.phase }, { on := 7, ground := Go.Ground.phase }, { on := 8, ground := Go.Ground.phase }, { on := 9, ground := Go.Ground.phase }, { on := 10, ground := Go.Ground.phase }, { on := 11, ground := Go.Ground.phase }, { on := 12, ground := Go.Ground.textOnly Go.Departure.lateStores }], guard := none }) (v := ?_) rfl (by kernel_rfl) (by kernel_rfl) (by kernel_rfl) (fun _ _ _ h => h) (Or.inl ⟨by rfl, ?hy⟩) (by assumption) ?_
                case hy => (intro w9 hSw; (try dsimp only at hSw); go_simp; try with_reducible rfl)
                try simp only [Act.put, List.setIfInBounds_toArray, List.set_cons_zero, List.set_cons_succ]
                refine wpAnyH_take (i := 14) (oi := { dst := some 11, op := Go.Op.assign (Go.Operand.tmp 77), type := 25, pos := "imply.go:441", after := #[{ on := 12, ground := Go.Ground.data }, { on := 13, ground := Go.Ground.chain }, { on := 0, ground := Go.Ground.phase }, { on := 1, ground := Go.Ground.phase }, { on := 2, ground := Go.Ground.phase }, { on := 3, ground := Go.Ground.phase }, { on := 4, ground := Go.Ground.phase }, { on := 5, ground := Go.Ground.phase }, { on := 6, ground := Go.Ground.phase }, { on := 7, ground := Go.Ground.phase }, { on := 8, ground := Go.Ground.phase }, { on := 9, ground := Go.Ground.phase }, { on := 10, ground := Go.Ground.phase }, { on := 11, ground := Go.Ground.phase }, { on := 12, ground := Go.Ground.phase }, { on := 13, ground := Go.Ground.phase }], guard := none }) (v := ?_) rfl (by kernel_rfl) (by kernel_rfl) (by kernel_rfl) (fun _ _ _ h => h) (Or.inl ⟨by rfl, ?hy⟩) (by assumption) ?_
                case hy => (intro w9 hSw; (try dsimp only at hSw); go_simp; try with_reducible rfl)
                try simp only [Act.put, List.setIfInBounds_toArray, List.set_cons_zero, List.set_cons_succ]
                refine wpAnyH_done (by kernel_rfl) ?_ _
                try simp only [Act.put, List.setIfInBounds_toArray, List.set_cons_zero, List.set_cons_succ]
                have HW7 : Hid (Below W.heap.size W w7) := Below.then HW.out hHeld
                clear hHeld HW d0 d1 d2 hcs hct HIN HIM
                obtain ⟨wr, hwr⟩ : ∃ wr, wr = w7 := ⟨_, rfl⟩
                subst w7
                have HW := HW7
                clear HW7
                have HRW : Hid (∀ w', Below wr.heap.size wr w' → Row w' (some ⟨ab, ao, none⟩) l.length (fun k => (nth l k : Nat))) := fun w' h => HRW0.out w' (Below.then HW.out h)
                have hcs : ∀ w', Below wr.heap.size wr w' → w'.cell? ⟨ab, ao + s, none⟩ = some (.int .i64 (nth l s : Nat)) := fun w' h => (HCE.out.2 w' (Below.then HW.out h)).1
                have hct : ∀ w', Below wr.heap.size wr w' → w'.cell? ⟨ab, ao + t, none⟩ = some (.int .i64 (nth l t : Nat)) := fun w' h => (HCE.out.2 w' (Below.then HW.out h)).2
                have d1 : ∀ w', Below wr.heap.size wr w' → w'.cell? ⟨w.heap.size, 1, none⟩ = some (.slice (some ⟨b1, o1, none⟩) L.q L.ca) := fun w' h => by
                  have := (HLW0.out w' (Below.then HW.out h)).2.1
                  rw [HTB.out.1, HTB.out.2.1] at this
                  exact this
                have r1 : ∀ w', Below wr.heap.size wr w' → w'.cell? ⟨b1, o1 + nth l s, none⟩ = some (.slice (some ⟨(rAt (L.SA (nth l s))).1, (rAt (L.SA (nth l s))).2.1, none⟩) L.q (rAt (L.SA (nth l s))).2.2) := fun w' h => (HTB.out.2.2 w' (Below.then HW.out h) _ hels).1
                have r2 : ∀ w', Below wr.heap.size wr w' → w'.cell? ⟨(rAt (L.SA (nth l s))).1, (rAt (L.SA (nth l s))).2.1 + nth l t, none⟩ = some (.int .i64 (L.m (nth l s) (nth l t) : Nat)) := fun w' h => (HTB.out.2.2 w' (Below.then HW.out h) _ hels).2 _ helt
                have helsI : ((nth l s : Nat) : Int) < (L.q : Int) := by omega
                have heltI : ((nth l t : Nat) : Int) < (L.q : Int) := by omega
                go_wp2_with fail
                refine wp_region_held_drew (S := (fun w' => Below wr.heap.size wr w')) (by kernel_rfl) ((Below.refl _ _).drew) (fun hHeld => ?_)
                refine wpAnyH_take (i := 0) (oi := { dst := some 78, op := Go.Op.move (Go.Operand.tmp 11), type := 25, pos := "imply.go:442", after := #[], guard := none }) (v := ?_) rfl (by kernel_rfl) (by kernel_rfl) (by kernel_rfl) (fun _ _ _ h => h) (Or.inl ⟨by rfl, ?hy⟩) (by assumption) ?_
                case hy => (intro w9 hSw; (try dsimp only at hSw); go_simp; try with_reducible rfl)
                try simp only [Act.put, List.setIfInBounds_toArray, List.set_cons_zero, List.set_cons_succ]
                refine wpAnyH_take (i := 1) (oi := { dst := some 79, op := Go.Op.binOp Go.BinOp.neq 25 (Go.Operand.tmp 78) (Go.Operand.const (Go.Value.int Go.IntKind.i64 0)) 25, type := 4, pos := "imply.go:442", after := #[{ on := 0, ground := Go.Ground.data }], guard := none }) (v := ?_) rfl (by kernel_rfl) (by kernel_rfl) (by kernel_rfl) (fun _ _ _ h => h) (Or.inl ⟨by rfl, ?hy⟩) (by assumption) ?_
                case hy => (intro w9 hSw; (try dsimp only at hSw); go_simp; try with_reducible rfl)
                try simp only [Act.put, List.setIfInBounds_toArray, List.set_cons_zero, List.set_cons_succ]
                refine wpAnyH_take (i := 2) (oi := { dst := some 80, op := Go.Op.move (Go.Operand.tmp 79), type := 4, pos := "imply.go:442", after := #[{ on := 1, ground := Go.Ground.data }], guard := none }) (v := ?_) rfl (by kernel_rfl) (by kernel_rfl) (by kernel_rfl) (fun _ _ _ h => h) (Or.inl ⟨by rfl, ?hy⟩) (by assumption) ?_
                case hy => (intro w9 hSw; (try dsimp only at hSw); go_simp; try with_reducible rfl)
                try simp only [Act.put, List.setIfInBounds_toArray, List.set_cons_zero, List.set_cons_succ]
                refine wpAnyH_take (i := 3) (oi := { dst := some 81, op := Go.Op.move (Go.Operand.tmp 3), type := 33, pos := "imply.go:442", after := #[{ on := 2, ground := Go.Ground.guard }], guard := some (2, false) }) (v := ?_) rfl (by kernel_rfl) (by kernel_rfl) (by kernel_rfl) (fun _ _ _ h => h) (Or.inl ⟨by rfl, ?hy⟩) (by assumption) ?_
                case hy => (intro w9 hSw; (try dsimp only at hSw); go_simp; try with_reducible rfl)
                try simp only [Act.put, List.setIfInBounds_toArray, List.set_cons_zero, List.set_cons_succ]
                refine wpAnyH_take (i := 4) (oi := { dst := some 82, op := Go.Op.fieldAddr 24 (Go.Operand.tmp 1) 1, type := 0, pos := "imply.go:442", after := #[{ on := 2, ground := Go.Ground.guard }], guard := some (2, false) }) (v := ?_) rfl (by kernel_rfl) (by kernel_rfl) (by kernel_rfl) (fun _ _ _ h => h) (Or.inl ⟨by rfl, ?hy⟩) (by assumption) ?_
                case hy => (intro w9 hSw; (try dsimp only at hSw); go_simp; try with_reducible rfl)
                try simp only [Act.put, List.setIfInBounds_toArray, List.set_cons_zero, List.set_cons_succ]
                refine wpAnyH_take (i := 5) (oi := { dst := some 83, op := Go.Op.load 22 (Go.Operand.tmp 82), type := 22, pos := "imply.go:442", after := #[{ on := 4, ground := Go.Ground.data }, { on := 2, ground := Go.Ground.guard }], guard := some (2, false) }) (v := ?_) rfl (by kernel_rfl) (by kernel_rfl) (by kernel_rfl) (fun _ _ _ h => h) (Or.inl ⟨by rfl, ?hy⟩) (by assumption) ?_
                case hy => (intro w9 hSw; (try dsimp only at hSw); go_simp; try with_reducible rfl)
                try simp only [Act.put, List.setIfInBounds_toArray, List.set_cons_zero, List.set_cons_succ]
                refine wpAnyH_take (i := 6) (oi := { dst := some 84, op := Go.Op.move (Go.Operand.tmp 3), type := 33, pos := "imply.go:442", after := #[{ on := 2, ground := Go.Ground.guard }], guard := some (2, false) }) (v := ?_) rfl (by kernel_rfl) (by kernel_rfl) (by kernel_rfl) (fun _ _ _ h => h) (Or.inl ⟨by rfl, ?hy⟩) (by assumption) ?_
                case hy => (intro w9 hSw; (try dsimp only at hSw); go_simp; try with_reducible rfl)
                try simp only [Act.put, List.setIfInBounds_toArray, List.set_cons_zero, List.set_cons_succ]
                refine wpAnyH_take (i := 7) (oi := { dst := some 85, op := Go.Op.move (Go.Operand.tmp 8), type := 3, pos := "imply.go:442", after := #[{ on := 2, ground := Go.Ground.guard }], guard := some (2, false) }) (v := ?_) rfl (by kernel_rfl) (by kernel_rfl) (by kernel_rfl) (fun _ _ _ h => h) (Or.inl ⟨by rfl, ?hy⟩) (by assumption) ?_
                case hy => (intro w9 hSw; (try dsimp only at hSw); go_simp; try with_reducible rfl)
                try simp only [Act.put, List.setIfInBounds_toArray, List.set_cons_zero, List.set_cons_succ]
                refine wpAnyH_take (i := 8) (oi := { dst := some 86, op := Go.Op.indexAddr 33 (Go.Operand.tmp 84) (Go.Operand.tmp 85), type := 0, pos := "imply.go:442", after := #[{ on := 6, ground := Go.Ground.data }, { on := 7, ground := Go.Ground.data }, { on := 2, ground := Go.Ground.guard }], guard := some (2, false) }) (v := ?_) rfl (by kernel_rfl) (by kernel_rfl) (by kernel_rfl) (fun _ _ _ h => h) (Or.inl ⟨by rfl, ?hy⟩) (by assumption) ?_
                case hy => (intro w9 hSw; (try dsimp only at hSw); go_simp; try with_reducible rfl)
                try simp only [Act.put, List.setIfInBounds_toArray, List.set_cons_zero, List.set_cons_succ]
                refine wpAnyH_take (i := 9) (oi := { dst := some 87, op := Go.Op.load 3 (Go.Operand.tmp 86), type := 3, pos := "imply.go:442", after := #[{ on := 8, ground := Go.Ground.data }, { on := 2, ground := Go.Ground.guard }], guard := some (2, false) }) (v := ?_) rfl (by kernel_rfl) (by kernel_rfl) (by kernel_rfl) (fun _ _ _ h => h) (Or.inl ⟨by rfl, ?hy⟩) (by assumption) ?_
                case hy => (intro w9 hSw; (try dsimp only at hSw); go_simp; try with_reducible rfl)
                try simp only [Act.put, List.setIfInBounds_toArray, List.set_cons_zero, List.set_cons_succ]
                refine wpAnyH_take (i := 10) (oi := { dst := some 88, op := Go.Op.indexAddr 22 (Go.Operand.tmp 83) (Go.Operand.tmp 87), type := 0, pos := "imply.go:442", after := #[{ on := 5, ground := Go.Ground.data }, { on := 9, ground := Go.Ground.data }, { on := 2, ground := Go.Ground.guard }], guard := some (2, false) }) (v := ?_) rfl (by kernel_rfl) (by kernel_rfl) (by kernel_rfl) (fun _ _ _ h => h) (Or.inl ⟨by rfl, ?hy⟩) (by assumption) ?_
                case hy => (intro w9 hSw; (try dsimp only at hSw); go_simp; try with_reducible rfl)
                try simp only [Act.put, List.setIfInBounds_toArray, List.set_cons_zero, List.set_cons_succ]
                refine wpAnyH_take (i := 11) (oi := { dst := some 89, op := Go.Op.load 33 (Go.Operand.tmp 88), type := 33, pos := "imply.go:442", after := #[{ on := 10, ground := Go.Ground.data }, { on := 2, ground := Go.Ground.guard }], guard := some (2, false) }) (v := ?_) rfl (by kernel_rfl) (by kernel_rfl) (by kernel_rfl) (fun _ _ _ h => h) (Or.inl ⟨by rfl, ?hy⟩) (by assumption) ?_
                case hy => (intro w9 hSw; (try dsimp only at hSw); go_simp; try with_reducible rfl)
                try simp only [Act.put, List.setIfInBounds_toArray, List.set_cons_zero, List.set_cons_succ]
                refine wpAnyH_take (i := 12) (oi := { dst := some 90, op := Go.Op.move (Go.Operand.tmp 3), type := 33, pos := "imply.go:442", after := #[{ on := 2, ground := Go.Ground.guard }], guard := some (2, false) }) (v := ?_) rfl (by kernel_rfl) (by kernel_rfl) (by kernel_rfl) (fun _ _ _ h => h) (Or.inl ⟨by rfl, ?hy⟩) (by assumption) ?_
                case hy => (intro w9 hSw; (try dsimp only at hSw); go_simp; try with_reducible rfl)
                try simp only [Act.put, List.setIfInBounds_toArray, List.set_cons_zero, List.set_cons_succ]
                refine wpAnyH_take (i := 13) (oi := { dst := some 91, op := Go.Op.move (Go.Operand.tmp 9), type := 3, pos := "imply.go:442", after := #[{ on := 2, ground := Go.Ground.guard }], guard := some (2, false) }) (v := ?_) rfl (by kernel_rfl) (by kernel_rfl) (by kernel_rfl) (fun _ _ _ h => h) (Or.inl ⟨by rfl, ?hy⟩) (by assumption) ?_
                case hy => (intro w9 hSw; (try dsimp only at hSw); go_simp; try with_reducible rfl)
                try simp only [Act.put, List.setIfInBounds_toArray, List.set_cons_zero, List.set_cons_succ]
                refine wpAnyH_take (i := 14) (oi := { dst := some 92, op := Go.Op.indexAddr 33 (Go.Operand.tmp 90) (Go.Operand.tmp 91), type := 0, pos := "imply.go:442", after := #[{ on := 12, ground := Go.Ground.data }, { on := 13, ground := Go.Ground.data }, { on := 2, ground := Go.Ground.guard }], guard := some (2, false) }) (v := ?_) rfl (by kernel_rfl) (by kernel_rfl) (by kernel_rfl) (fun _ _ _ h => h) (Or.inl ⟨by rfl, ?hy⟩) (by assumption) ?_
                case hy => (intro w9 hSw; (try dsimp only at hSw); go_simp; try with_reducible rfl)
                try simp only [Act.put, List.setIfInBounds_toArray, List.set_cons_zero, List.set_cons_succ]
                refine wpAnyH_take (i := 15) (oi := { dst := some 93, op := Go.Op.load 3 (Go.Operand.tmp 92), type := 3, pos := "imply.go:442", after := #[{ on := 14, ground := Go.Ground.data }, { on := 2, ground := Go.Ground.guard }], guard := some (2, false) }) (v := ?_) rfl (by kernel_rfl) (by kernel_rfl) (by kernel_rfl) (fun _ _ _ h => h) (Or.inl ⟨by rfl, ?hy⟩) (by assumption) ?_
                case hy => (intro w9 hSw; (try dsimp only at hSw); go_simp; try with_reducible rfl)
                try simp only [Act.put, List.setIfInBounds_toArray, List.set_cons_zero, List.set_cons_succ]
                refine wpAnyH_take (i := 16) (oi := { dst := some 94, op := Go.Op.indexAddr 33 (Go.Operand.tmp 89) (Go.Operand.tmp 93), type := 0, pos := "imply.go:442", after := #[{ on := 11, ground := Go.Ground.data }, { on := 15, ground := Go.Ground.data }, { on := 2, ground := Go.Ground.guard }], guard := some (2, false) }) (v := ?_) rfl (by kernel_rfl) (by kernel_rfl) (by kernel_rfl) (fun _ _ _ h => h) (Or.inl ⟨by rfl, ?hy⟩) (by assumption) ?_
                case hy => (intro w9 hSw; (try dsimp only at hSw); go_simp; try with_reducible rfl)
                try simp only [Act.put, List.setIfInBounds_toArray, List.set_cons_zero, List.set_cons_succ]
                refine wpAnyH_take (i := 17) (oi := { dst := some 95, op := Go.Op.load 3 (Go.Operand.tmp 94), type := 3, pos := "imply.go:442", after := #[{ on := 16, ground := Go.Ground.data }, { on := 2, ground := Go.Ground.guard }], guard := some (2, false) }) (v := ?_) rfl (by kernel_rfl) (by kernel_rfl) (by kernel_rfl) (fun _ _ _ h => h) (Or.inl ⟨by rfl, ?hy⟩) (by assumption) ?_
                case hy => (intro w9 hSw; (try dsimp only at hSw); go_simp; try with_reducible rfl)
                try simp only [Act.put, List.setIfInBounds_toArray, List.set_cons_zero, List.set_cons_succ]
                refine wpAnyH_ready (rs := [18]) (by kernel_rfl) (by simp) ?_
                refine AllReadyH.cons (o := { dst := some 96, op := Go.Op.call { callee := Go.Callee.value (Go.Operand.func 19), args := #[Go.Operand.tmp 81, Go.Operand.tmp 95], argTypes := #[33, 3] }, type := 3, pos := "imply.go:442", after := #[{ on := 3, ground := Go.Ground.data }, { on := 17, ground := Go.Ground.data }, { on := 2, ground := Go.Ground.chain }, { on := 2, ground := Go.Ground.guard }], guard := some (2, false) }) rfl (fun K hK => ?_) AllReadyH.nil
                go_simp
                refine (place_in l (some ⟨ab, ao, none⟩) P cap (L.m (nth l s) (nth l t)) _ hPm HPL.out (HRW.out _ (by assumption)) HMM.out).mono ?_
                rintro e w8 ⟨⟨r, rfl⟩, hw8⟩
                subst w8
                have hr0 : (0 : Int) ≤ ((r : Nat) : Int) := by omega
                refine hK.out _ _ ?_ (fun hHeld => ?_)
                · first | assumption | exact Below.then (by assumption) (by assumption)
                clear hK K
                try simp only [Act.put, List.setIfInBounds_toArray, List.set_cons_zero, List.set_cons_succ]
                refine wpAnyH_take (i := 19) (oi := { dst := some 97, op := Go.Op.binOp Go.BinOp.lss 3 (Go.Operand.tmp 96) (Go.Operand.const (Go.Value.int Go.IntKind.i64 0)) 3, type := 4, pos := "imply.go:442", after := #[{ on := 18, ground := Go.Ground.data }, { on := 2, ground := Go.Ground.guard }], guard := some (2, false) }) (v := .bool false) rfl (by kernel_rfl) (by kernel_rfl) (by kernel_rfl) (fun _ _ _ h => h) (Or.inl ⟨by rfl, ?hy⟩) (by assumption) ?_
                case hy => (intro w9 hSw; (try dsimp only at hSw); go_simp <;> (first | with_reducible rfl | (simp; omega) | omega))
                try simp only [Act.put, List.setIfInBounds_toArray, List.set_cons_zero, List.set_cons_succ]
                refine wpAnyH_take (i := 20) (oi := { dst := some 98, op := Go.Op.pick (Go.Operand.tmp 80) (Go.Operand.const (Go.Value.bool true)) (Go.Operand.tmp 97), type := 4, pos := "imply.go:442", after := #[{ on := 2, ground := Go.Ground.data }, { on := 19, ground := Go.Ground.data }], guard := none }) (v := ?_) rfl (by kernel_rfl) (by kernel_rfl) (by kernel_rfl) (fun _ _ _ h => h) (Or.inl ⟨by rfl, ?hy⟩) (by assumption) ?_
                case hy => (intro w9 hSw; (try dsimp only at hSw); go_simp; try with_reducible rfl)
                try simp only [Act.put, List.setIfInBounds_toArray, List.set_cons_zero, List.set_cons_succ]
                refine wpAnyH_take (i := 21) (oi := { dst := some 99, op := Go.Op.move (Go.Operand.tmp 98), type := 4, pos := "imply.go:442", after := #[{ on := 20, ground := Go.Ground.data }, { on := 18, ground := Go.Ground.chain }], guard := none }) (v := ?_) rfl (by kernel_rfl) (by kernel_rfl) (by kernel_rfl) (fun _ _ _ h => h) (Or.inl ⟨by rfl, ?hy⟩) (by assumption) ?_
                case hy => (intro w9 hSw; (try dsimp only at hSw); go_simp; try with_reducible rfl)
                try simp only [Act.put, List.setIfInBounds_toArray, List.set_cons_zero, List.set_cons_succ]
                refine wpAnyH_take (i := 22) (oi := { dst := some 100, op := Go.Op.move (Go.Operand.tmp 3), type := 33, pos := "imply.go:442", after := #[{ on := 21, ground := Go.Ground.guard }], guard := some (21, false) }) (v := ?_) rfl (by kernel_rfl) (by kernel_rfl) (by kernel_rfl) (fun _ _ _ h => h) (Or.inl ⟨by rfl, ?hy⟩) (by assumption) ?_
                case hy => (intro w9 hSw; (try dsimp only at hSw); go_simp; try with_reducible rfl)
                try simp only [Act.put, List.setIfInBounds_toArray, List.set_cons_zero, List.set_cons_succ]
                refine wpAnyH_take (i := 23) (oi := { dst := some 101, op := Go.Op.move (Go.Operand.tmp 10), type := 3, pos := "imply.go:442", after := #[{ on := 21, ground := Go.Ground.guard }], guard := some (21, false) }) (v := ?_) rfl (by kernel_rfl) (by kernel_rfl) (by kernel_rfl) (fun _ _ _ h => h) (Or.inl ⟨by rfl, ?hy⟩) (by assumption) ?_
                case hy => (intro w9 hSw; (try dsimp only at hSw); go_simp; try with_reducible rfl)
                try simp only [Act.put, List.setIfInBounds_toArray, List.set_cons_zero, List.set_cons_succ]
                refine wpAnyH_ready (rs := [24]) (by kernel_rfl) (by simp) ?_
                refine AllReadyH.cons (o := { dst := some 102, op := Go.Op.call { callee := Go.Callee.value (Go.Operand.func 19), args := #[Go.Operand.tmp 100, Go.Operand.tmp 101], argTypes := #[33, 3] }, type := 3, pos := "imply.go:442", after := #[{ on := 22, ground := Go.Ground.data }, { on := 23, ground := Go.Ground.data }, { on := 21, ground := Go.Ground.chain }, { on := 21, ground := Go.Ground.guard }], guard := some (21, false) }) rfl (fun K hK => ?_) AllReadyH.nil
                go_simp
                refine (place_in l (some ⟨ab, ao, none⟩) P cap (imp L.q L.m L.j (nth l s) (nth l t)) _ hPm HPL.out (HRW.out _ (by assumption)) HMI.out).mono ?_
                rintro e w9 ⟨⟨r', rfl⟩, hw9⟩
                subst w9
                have hr1 : (0 : Int) ≤ ((r' : Nat) : Int) := by omega
                refine hK.out _ _ ?_ (fun hHeld => ?_)
                · first | assumption | exact Below.then (by assumption) (by assumption)
                clear hK K
                try simp only [Act.put, List.setIfInBounds_toArray, List.set_cons_zero, List.set_cons_succ]
                refine wpAnyH_take (i := 25) (oi := { dst := some 103, op := Go.Op.binOp Go.BinOp.lss 3 (Go.Operand.tmp 102) (Go.Operand.const (Go.Value.int Go.IntKind.i64 0)) 3, type := 4, pos := "imply.go:442", after := #[{ on := 24, ground := Go.Ground.data }, { on := 21, ground := Go.Ground.guard }], guard := some (21, false) }) (v := .bool false) rfl (by kernel_rfl) (by kernel_rfl) (by kernel_rfl) (fun _ _ _ h => h) (Or.inl ⟨by rfl, ?hy⟩) (by assumption) ?_
                case hy => (intro w9 hSw; (try dsimp only at hSw); go_simp <;> (first | with_reducible rfl | (simp; omega) | omega))
                try simp only [Act.put, List.setIfInBounds_toArray, List.set_cons_zero, List.set_cons_succ]
                refine wpAnyH_take (i := 26) (oi := { dst := some 104, op := Go.Op.pick (Go.Operand.tmp 99) (Go.Operand.const (Go.Value.bool true)) (Go.Operand.tmp 103), type := 4, pos := "imply.go:442", after := #[{ on := 21, ground := Go.Ground.data }, { on := 25, ground := Go.Ground.data }], guard := none }) (v := ?_) rfl (by kernel_rfl) (by kernel_rfl) (by kernel_rfl) (fun _ _ _ h => h) (Or.inl ⟨by rfl, ?hy⟩) (by assumption) ?_
                case hy => (intro w9 hSw; (try dsimp only at hSw); go_simp; try with_reducible rfl)
                try simp only [Act.put, List.setIfInBounds_toArray, List.set_cons_zero, List.set_cons_succ]
                refine wpAnyH_done (by kernel_rfl) ?_ _
                try simp only [Act.put, List.setIfInBounds_toArray, List.set_cons_zero, List.set_cons_succ]
                have HW9 : Hid (Below W.heap.size W _) := Below.then HW.out hHeld
                clear hHeld HW d1 hcs hct r1 r2 HRW HMM HMI
                go_wp2_with fail
                go_roundw
                case rel => exact ⟨t + 1, by omega, by go_num, HW9.out⟩
                case measure => simp [intOf]; omega
              · have hge2 : (P : Int) ≤ (t : Int) := by omega
                go_wp2_with fail
                go_roundw
                case rel => exact ⟨s + 1, by omega, by go_num, HW.out⟩
                case measure => simp [intOf]; omega
          · have hge3 : (P : Int) ≤ (s : Int) := by omega
            go_wp2_with fail
            go_loopw [12, 13] (fun o i wx => ∃ (x : Nat) (ob : Bool), x ≤ L.q ∧ i = .int .i64 x ∧ o = .bool ob ∧ Hid (ob = true ↔ ∀ y, y < x → (oths L.q L.m L.j y L.q).length = 1) ∧ Hid (Below W.heap.size W wx)) (fun _ i _ => L.q - (intOf i).toNat)
            case atStart => exact ⟨0, true, Nat.zero_le _, rfl, rfl, ⟨fun _ y hy => absurd hy (Nat.not_lt_zero _), fun _ => rfl⟩, HW.out⟩
            case round =>
              clear HW
              obtain ⟨x, ob, hx, rfl, rfl, HOB, HW⟩ := hrel
              have L9 := HLW0.out wr HW.out
              have l0 := L9.1
              by_cases hxq : x < L.q
              · have hxI : (x : Int) < (L.q : Int) := by omega
                have l1 := L9.2.1
                have l2 := L9.2.2
                have HIX := HIN0.out wr HW.out
                have HOC : Hid (Calls Try.prog 20 #[.agg #[.int .i64 (L.q : Nat), .slice L.a L.la L.ca, .slice L.b L.lb L.cb], .int .i64 (x : Nat)] wr fun e w' => OthPost L.n L.la L.SA L.FA L.lb L.SB L.FB (x : Nat) e w' ∧ Below wr.heap.size wr w') := by
                  rw [← HNQ.out]
                  exact others_any L.n L.a L.la L.ca L.SA L.FA L.b L.lb L.cb L.SB L.FB (x : Nat) wr HIX.1 HIX.2.1 HIX.2.2.1 HIX.2.2.2
                clear HIX L9
                go_wp2_with fail
                refine (Calls.mono HOC.out) ?_
                rintro e w7 ⟨hop, hb7⟩
                obtain ⟨v7, rfl, a7, cap7, rfl, _⟩ := oth_at HCK.out hxq hop
                have HW7 : Hid (Below W.heap.size W w7) := Below.then HW.out hb7
                clear hop hb7 HOC HW l0 l1 l2
                have HOS : Hid (∀ y : Bool, (y = true ↔ (ob = true ∧ (oths L.q L.m L.j x L.q).length = 1)) → (y = true ↔ ∀ z, z < x + 1 → (oths L.q L.m L.j z L.q).length = 1)) := fun y hy => by
                  rw [hy, HOB.out]
                  constructor
                  · rintro ⟨h1, h2⟩ z hz
                    by_cases e : z = x
                    · rw [e]; exact h2
                    · exact h1 z (by omega)
                  · intro h
                    exact ⟨fun z hz => h z (by omega), h x (by omega)⟩
                generalize (oths L.q L.m L.j x L.q).length = N at *
                rcases ob with _ | _
                · have HFF : Hid _ := HOS.out false (by simp)
                  clear HOS HOB
                  go_wp2_with fail
                  go_roundw
                  case rel => exact ⟨x + 1, false, by omega, by go_num, rfl, HFF.out, HW7.out⟩
                  case measure => simp [intOf]; omega
                · by_cases hN : N = 1
                  · have HFF : Hid _ := HOS.out true (by simp [hN])
                    subst hN
                    clear HOS HOB
                    go_wp2_with fail
                    go_roundw
                    case rel => exact ⟨x + 1, true, by omega, by go_num, rfl, (show (true = true ↔ ∀ y, y < x + 1 → (oths L.q L.m L.j y L.q).length = 1) from ⟨fun _ => HFF.out.1 trivial, fun _ => rfl⟩), HW7.out⟩
                    case measure => simp [intOf]; omega
                  · have HFF : Hid _ := HOS.out false (by simp [hN])
                    have hNe : (((N : Nat) : Int) == 1) = false := by simp; omega
                    clear HOS HOB hN
                    go_wp2_with fail
                    go_roundw
                    case rel => exact ⟨x + 1, false, by omega, by go_num, rfl, HFF.out, HW7.out⟩
                    case measure => simp [intOf]; omega
              · have hge4 : (L.q : Int) ≤ (x : Int) := by omega
                obtain rfl : bv = ob := bool_iff HBO.out (by rw [show x = L.q by omega] at HOB; exact HOB.out)
                have HBF : Hid (Below w.heap.size w wr) := Below.then HBW.out HW.out
                clear HBO HOB L9 HW
                rcases bv with _ | _
                · go_wp2_with fail
                  go_ret
                  exact ⟨rfl, HBF.out⟩
                · go_wp2_with fail
                  go_ret
                  exact ⟨rfl, HBF.out⟩
  · have hne : (c2 != 0) = true := by simpa using h0
    clear HVW HP2
    go_wp2_with fail
    go_ret
    exact ⟨by simp, HBW.out⟩
theorem heytingCloses_any (n : Int) (a : Option Addr) (la ca : Nat) (SA : Nat → Option Addr × Nat × Nat) (FA : Nat → Nat → Int) (b : Option Addr) (lb cb : Nat) (SB : Nat → Option Addr × Nat × Nat) (FB : Nat → Nat → Int) (w : World) (hla : la ≤ maxLen) (hlb : lb ≤ maxLen) (hra : RR w a la SA FA) (hrb : RR w b lb SB FB) :
    Calls Try.prog 6 #[.agg #[.int .i64 n, .slice a la ca, .slice b lb cb]] w fun e w' => e = .returned (.bool true) ∧ Below w.heap.size w w' :=
  heytingCloses_la ⟨n, a, la, ca, SA, FA, b, lb, cb, SB, FB⟩ w ⟨hla, hlb, hra, hrb⟩
end Go.Proofs.Ytmehncflaipldaa
