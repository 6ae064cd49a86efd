/-
  What hasselaw.RealizeParts answers: true. Conditions: a slice reads as a slice of numbers; the library's table lies in its variable; the number is an int.
-/
import Derived.Test.YtklfnghgpmjnmaaDoorPrtM
import Derived.Test.YtklfnghgpmjnmaaDoorChoose
namespace Go.Proofs.YtklfnghgpmjnmaaDoor
open Go.RowKit
set_option maxRecDepth 100000

theorem part_good {len : Nat} {f : Nat → Int} {kk : Nat} {Z : Nat} {e : Ending} {w : World} (hc : Chk (len : Nat) len f 0) (hk : kk < pw len) (h : PartPost Z (len : Nat) len f ((kk : Nat) : Int) e w) :
    ∃ (a : Option Addr) (cap : Nat), e = .returned (.tuple #[.agg #[.int .i64 ((pts kk len).length : Nat), .slice a (pts kk len).length cap], .int .i64 0]) ∧ Row w a (pts kk len).length (fun k => (prt (nat f) (pts kk len) k : Nat)) ∧ FrB Z (.agg #[.int .i64 ((pts kk len).length : Nat), .slice a (pts kk len).length cap]) := by
  obtain ⟨c, x, hp, rfl, ho, hf⟩ := h
  have h0 : c = 0 := hp.unique (.inr ⟨hc, .inr ⟨rfl, by unfold sts; simp; omega⟩⟩)
  subst h0
  rcases ho with ⟨h, _⟩ | ⟨_, a, cap, rfl, hr⟩
  · exact absurd rfl h
  · exact ⟨a, cap, rfl, hr, hf⟩
/-- A row lies in another block than X. -/
def NeB (X : Nat) (a : Option Addr) (len : Nat) : Prop := 0 < len → ∀ b off, a = some ⟨b, off, none⟩ → b ≠ X
theorem zb_of {X wa : World} (h : X.alloc (.cells #[.int .i64 0, .slice none 0 0] 24) = wa) : Hid (ZBox wa X.heap.size) := by rw [← h]; exact ZBox.new _
theorem zb_step {w w' : World} {X : Nat} (h : Hid (ZBox w X)) (hb : Below w.heap.size w w') : Hid (ZBox w' X) := h.out.step hb
theorem ne_old {w : World} {X : Nat} {N : Value} {a : Option Addr} {l cap : Nat} (h : Hid (ZBox w X)) (hf : FrB w.heap.size (.agg #[N, .slice a l cap])) : Hid (NeB X a l) := fun _ b off e => by
  have := World.block_lt_of_cell? _ _ h.out.1
  subst e
  have h2 := hf N ⟨b, off, none⟩ l cap rfl
  simp only at h2 this
  omega
theorem ne_new {w : World} {a : Option Addr} {l : Nat} {F : Nat → Int} (h : Hid (Row w a l F)) : Hid (NeB w.heap.size a l) := fun hl b off e => by
  obtain ⟨b', off', e', hc⟩ := h.out 0 hl
  have := World.block_lt_of_cell? _ _ hc
  rw [e] at e'
  simp at e'
  obtain ⟨rfl, rfl⟩ := e'
  simp only at this
  omega
theorem row_al {w wa : World} {o : Obj} {a : Option Addr} {l : Nat} {F : Nat → Int} (h : Hid (Row w a l F)) (e : w.alloc o = wa) : Hid (Row wa a l F) := by rw [← e]; exact h.out.below ((Below.refl _ _).alloc (Nat.le_refl _) _)
theorem row_z {w wz : World} {X : Nat} {a : Option Addr} {l : Nat} {F : Nat → Int} {x y : Value} (h : Hid (Row w a l F)) (hn : Hid (NeB X a l)) (e : (w.setCell ⟨X, 0, none⟩ x).setCell ⟨X, 1, none⟩ y = wz) : Hid (Row wz a l F) := fun k hk => by
  obtain ⟨b, off, e1, hc⟩ := h.out k hk
  have hne := hn.out (by omega) b off e1
  refine ⟨b, off, e1, ?_⟩
  rw [← e, World.cell?_setCell_other _ _ _ _ (fun e => by injection e with e1; exact hne e1.symm), World.cell?_setCell_other _ _ _ _ (fun e => by injection e with e1; exact hne e1.symm)]
  exact hc
theorem cel_z {w wz : World} {X : Nat} {x y : Value} (h : Hid (ZBox w X)) (e : (w.setCell ⟨X, 0, none⟩ x).setCell ⟨X, 1, none⟩ y = wz) : wz.cell? ⟨X, 0, none⟩ = some x ∧ wz.cell? ⟨X, 1, none⟩ = some y := by
  obtain ⟨z0, z1, _, _⟩ := h.out
  rw [← e]
  refine ⟨?_, ?_⟩
  · rw [World.cell?_setCell_other _ _ _ _ (fun e => by injection e with _ e2; cases e2)]
    exact World.cell?_setCell_same _ _ _ z0
  · refine World.cell?_setCell_same _ _ _ ((World.cell?_setCell_other _ _ _ _ (fun e => by injection e with _ e2; cases e2)).trans z1)
theorem hz_keep {W w : World} {X : Nat} {x y : Value} (h : Below W.heap.size W w) (hz : Hid (W.heap.size ≤ X)) : Below W.heap.size W ((w.setCell ⟨X, 0, none⟩ x).setCell ⟨X, 1, none⟩ y) :=
  (h.setCell (p := ⟨X, 0, none⟩) hz.out _).setCell (p := ⟨X, 1, none⟩) hz.out _
set_option maxHeartbeats 4000000 in
theorem realizeParts_any (n : Int) (a : Option Addr) (len cap : Nat) (f : Nat → Int) (set : Int) (w : World) (hl : len ≤ maxLen) (hs1 : -9223372036854775808 ≤ set) (hs2 : set ≤ 9223372036854775807) (hr : Row w a len f) (hT : Tab w) :
    Calls Tryd.prog 3 #[.agg #[.int .i64 n, .slice a len cap], .int .i64 set] w fun e w' => e = .returned (.bool true) ∧ Below w.heap.size w w' := by
  obtain ⟨W0, HW0⟩ : ∃ W0, Hid (W0 = w.alloc (.cells #[.int .i64 n, .slice a len cap] 24)) := ⟨_, rfl⟩
  have HBW : Hid (Below w.heap.size w W0) := by rw [HW0.out]; exact (Below.refl _ _).alloc (Nat.le_refl _) _
  have HK0 : Hid (Held W0 w.heap.size n a len cap f) := by rw [HW0.out]; exact Held.box hr
  have HKW : Hid (∀ w', Below W0.heap.size W0 w' → Held w' w.heap.size n a len cap f) := fun w' hb => HK0.out.step hb
  have HT0 : Hid (Tab w) := hT
  clear hr hT
  go_enter Tryd.func3, Tryd.ntmps3
  go_wp2_with fail
  rw [← HW0.out]
  clear HW0 HK0
  refine (realizeBegun_any _).mono ?_
  rintro e wb ⟨rfl, hbb⟩
  have HBB : Hid (Below W0.heap.size W0 wb) := hbb
  clear hbb
  have c0 := (HKW.out _ HBB.out).c0
  have c1 := (HKW.out _ HBB.out).c1
  go_wp2_with fail
  refine (dim_any n a len cap f _ hl (HKW.out _ HBB.out).row).mono ?_
  rintro e w1 ⟨⟨c, hc, hv⟩, hb1⟩
  have HB1 : Hid (Below W0.heap.size W0 w1) := Below.then HBB.out hb1
  have HC : Hid (SCk n len f c) := hc
  clear hb1 c0 c1 HBB hc
  have c0 := (HKW.out _ HB1.out).c0
  have c1 := (HKW.out _ HB1.out).c1
  by_cases e0 : c = 0
  · subst e0
    obtain ⟨hnl, h7, hck⟩ := HC.out.good
    subst hnl
    have HC0 : Hid (Chk (len : Nat) len f 0) := hck
    obtain ⟨_, h10, hrng, hord⟩ := hck.good
    have HSM : Hid (Sm len len (nat f)) := fun k hk => by have := hrng k hk; show (f k).toNat < pw len; omega
    have HOR : Hid (Ord len (nat f)) := hord
    clear hck hrng hord
    rcases hv with ⟨h, _⟩ | ⟨_, l, al, cl, T, hd, hcov, rfl, hrr, hT⟩
    · exact absurd rfl h
    clear hcov hrr hT
    obtain ⟨Ln, HLn⟩ : ∃ Ln : Nat, Hid (Ln = l.length) := ⟨_, rfl⟩
    rw [← HLn.out] at hd ⊢
    have HD : Hid (Dim (nat f) len Ln) := hd
    clear hd
    go_wp2_with fail
    refine (dual_any (len : Nat) a len cap f _ hl (HKW.out _ HB1.out).row).mono ?_
    rintro e w2 ⟨⟨cd, xd, hcd, rfl, hod⟩, hb2⟩
    obtain rfl := hcd.unique HC0.out
    rcases hod with ⟨h, _⟩ | ⟨_, ad, cpd, rfl, hrd⟩
    · exact absurd rfl h
    obtain ⟨W2, HW2⟩ : ∃ W2, Hid (W2 = w2.alloc (.cells #[.int .i64 (len : Nat), .slice ad len cpd] 24)) := ⟨_, rfl⟩
    have HA2 : Hid (Below w2.heap.size w2 W2) := by rw [HW2.out]; exact (Below.refl _ _).alloc (Nat.le_refl _) _
    have d0 : W2.cell? ⟨w2.heap.size, 0, none⟩ = some (.int .i64 (len : Nat)) := by rw [HW2.out]; simp
    have d1 : W2.cell? ⟨w2.heap.size, 1, none⟩ = some (.slice ad len cpd) := by rw [HW2.out]; simp
    have HB2 : Hid (Below W0.heap.size W0 W2) := Below.then HB1.out (Below.then hb2 HA2.out)
    have HRD : Hid (Row W2 ad len (fun k => (trn (nat f) len k : Nat))) := hrd.below HA2.out
    obtain ⟨hts, hto⟩ := trn_good h10 HSM.out HOR.out
    have HDD : Hid (∀ e w', DimPost (len : Nat) len (fun k => (trn (nat f) len k : Nat)) e w' → ∃ (cap : Nat) (a : Option Addr), e = .returned (.tuple #[.int .i64 (Ln : Nat), .slice a Ln cap, .int .i64 0])) := fun e w' h => by
      obtain ⟨k, c', a', h1, h2⟩ := dim_good h7 hts hto h
      rw [trn_dim HD.out h1] at h2
      exact ⟨c', a', h2⟩
    clear hb2 c0 c1 hrd hcd hts hto
    rw [HW2.out] at d0 d1
    go_wp2_with fail
    rw [← HW2.out]
    rw [← HW2.out] at d0 d1
    refine (dim_any (len : Nat) ad len cpd _ _ hl HRD.out).mono ?_
    rintro e W ⟨hd3, hb3⟩
    obtain ⟨cq3, aq3, rfl⟩ := HDD.out _ _ hd3
    have HB3 : Hid (Below W0.heap.size W0 W) := Below.then HB2.out hb3
    have HK : Hid (∀ w', Below W.heap.size W w' → Held w' w.heap.size (len : Nat) a len cap f) := fun w' hb => HKW.out _ (Below.then HB3.out hb)
    have HBT : Hid (Below w.heap.size w W) := Below.then HBW.out HB3.out
    have HTB : Hid (Tab W) := HT0.out.step HBT.out
    clear hd3 hb3 d0 d1 HRD HDD HW2 HA2 HB2 HB1
    have c0 : ∀ w', Below W.heap.size W w' → w'.cell? ⟨w.heap.size, 0, none⟩ = some (.int .i64 (len : Nat)) := fun w' hb => (HK.out _ hb).c0
    have c1 : ∀ w', Below W.heap.size W w' → w'.cell? ⟨w.heap.size, 1, none⟩ = some (.slice a len cap) := fun w' hb => (HK.out _ hb).c1
    have hpp : 0 < pw len := pw_pos len
    have hpb : pw len ≤ 10000000000 := Nat.le_trans (pw_le len h10) (by decide)
    go_wp2_with fail
    refine wp_region_held_drew (S := (fun w' => Below W.heap.size W w')) (by kernel_rfl) ((Below.refl _ _).drew) (fun hHeld => ?_)
    generalize hwd : W.drew = wd at hHeld ⊢
    clear hwd
    refine wpAnyH_take (i := 0) (oi := { dst := some 40, op := Go.Op.load 24 (Go.Operand.tmp 2), type := 24, pos := "lattice.go:110", after := #[], guard := none }) (v := ?_) rfl (by kernel_rfl) (by kernel_rfl) (by kernel_rfl) (fun _ _ _ h => h) (Or.inl ⟨by rfl, ?hy⟩) (by assumption) ?_
    case hy => (intro w9 hSw; (try dsimp only at hSw); go_simp; try with_reducible rfl)
    try simp only [Act.put, List.setIfInBounds_toArray, List.set_cons_zero, List.set_cons_succ]
    refine wpAnyH_take (i := 1) (oi := { dst := some 41, op := Go.Op.move (Go.Operand.tmp 1), type := 3, pos := "lattice.go:110", after := #[], guard := none }) (v := ?_) rfl (by kernel_rfl) (by kernel_rfl) (by kernel_rfl) (fun _ _ _ h => h) (Or.inl ⟨by rfl, ?hy⟩) (by assumption) ?_
    case hy => (intro w9 hSw; (try dsimp only at hSw); go_simp; try with_reducible rfl)
    try simp only [Act.put, List.setIfInBounds_toArray, List.set_cons_zero, List.set_cons_succ]
    refine wpAnyH_take (i := 2) (oi := { dst := some 42, op := Go.Op.fieldAddr 24 (Go.Operand.tmp 2) 0, type := 0, pos := "lattice.go:110", after := #[], guard := none }) (v := ?_) rfl (by kernel_rfl) (by kernel_rfl) (by kernel_rfl) (fun _ _ _ h => h) (Or.inl ⟨by rfl, ?hy⟩) (by assumption) ?_
    case hy => (intro w9 hSw; (try dsimp only at hSw); go_simp; try with_reducible rfl)
    try simp only [Act.put, List.setIfInBounds_toArray, List.set_cons_zero, List.set_cons_succ]
    refine wpAnyH_take (i := 3) (oi := { dst := some 43, op := Go.Op.load 3 (Go.Operand.tmp 42), type := 3, pos := "lattice.go:110", after := #[{ on := 2, ground := Go.Ground.data }], guard := none }) (v := ?_) rfl (by kernel_rfl) (by kernel_rfl) (by kernel_rfl) (fun _ _ _ h => h) (Or.inl ⟨by rfl, ?hy⟩) (by assumption) ?_
    case hy => (intro w9 hSw; (try dsimp only at hSw); go_simp; try with_reducible rfl)
    try simp only [Act.put, List.setIfInBounds_toArray, List.set_cons_zero, List.set_cons_succ]
    refine wpAnyH_ready (rs := [4, 10]) (by kernel_rfl) (by simp) ?_
    refine AllReadyH.cons (o := { dst := some 44, op := Go.Op.call { callee := Go.Callee.value (Go.Operand.func 9), args := #[Go.Operand.tmp 43], argTypes := #[3] }, type := 3, pos := "lattice.go:110", after := #[{ on := 3, ground := Go.Ground.data }], guard := none }) rfl (fun K hK => ?_) ?_
    · go_simp
      refine (bit_any len _ (by omega)).mono ?_
      rintro e w' ⟨rfl, rfl⟩
      refine hK.out _ _ ?_ (fun hHeld => ?_)
      · assumption
      clear hK K
      try simp only [Act.put, List.setIfInBounds_toArray, List.set_cons_zero, List.set_cons_succ]
      refine wpAnyH_ready (rs := [5, 10]) (by kernel_rfl) (by simp) ?_
      refine AllReadyH.cons (o := { dst := some 45, op := Go.Op.call { callee := Go.Callee.value (Go.Operand.func 8), args := #[Go.Operand.tmp 41, Go.Operand.tmp 44], argTypes := #[3, 3] }, type := 3, pos := "lattice.go:110", after := #[{ on := 1, ground := Go.Ground.data }, { on := 4, ground := Go.Ground.data }, { on := 4, ground := Go.Ground.chain }], guard := none }) rfl (fun K hK => ?_) ?_
      · go_simp
        refine (choose_any set (pw len) _ hpp hpb hs1 hs2).mono ?_
        rintro e w' ⟨⟨kk, hkk, rfl⟩, rfl⟩
        refine hK.out _ _ ?_ (fun hHeld => ?_)
        · assumption
        clear hK K
        try simp only [Act.put, List.setIfInBounds_toArray, List.set_cons_zero, List.set_cons_succ]
        refine wpAnyH_ready (rs := [6, 10]) (by kernel_rfl) (by simp) ?_
        refine AllReadyH.cons (o := { dst := some 46, op := Go.Op.call { callee := Go.Callee.value (Go.Operand.func 7), args := #[Go.Operand.tmp 40, Go.Operand.tmp 45], argTypes := #[24, 3] }, type := 30, pos := "lattice.go:110", after := #[{ on := 0, ground := Go.Ground.data }, { on := 5, ground := Go.Ground.data }, { on := 5, ground := Go.Ground.chain }], guard := none }) rfl (fun K hK => ?_) ?_
        · go_simp
          refine (part_any (len : Nat) a len cap f (kk : Nat) _ hl (HK.out _ hHeld).row (HTB.out.step hHeld)).mono ?_
          rintro e wp ⟨hpp2, hbp⟩
          obtain ⟨ap, cpp, rfl, hrp, hfp⟩ := part_good HC0.out hkk hpp2
          refine hK.out _ _ ?_ (fun hHeld => ?_)
          · exact Below.then hHeld hbp
          clear hK K
          try simp only [Act.put, List.setIfInBounds_toArray, List.set_cons_zero, List.set_cons_succ]
          have HPR : Hid (Row wp ap _ _) := hrp
          try (have HNE := ne_old HZB hfp)
          try (have HZB := zb_step HZB hbp)
          try (obtain ⟨z0, z1, z2, z3⟩ := HZB.out)
          clear hrp
          refine wpAnyH_take (i := 7) (oi := { dst := some 39, op := Go.Op.move (Go.Operand.tmp 46), type := 30, pos := "lattice.go:110", after := #[{ on := 6, ground := Go.Ground.data }], guard := none }) (v := ?_) rfl (by kernel_rfl) (by kernel_rfl) (by kernel_rfl) (fun _ _ _ h => h) (Or.inl ⟨by rfl, ?hy⟩) (by assumption) ?_
          case hy => (intro w9 hSw; (try dsimp only at hSw); go_simp; try with_reducible rfl)
          try simp only [Act.put, List.setIfInBounds_toArray, List.set_cons_zero, List.set_cons_succ]
          refine wpAnyH_take (i := 8) (oi := { dst := some 47, op := Go.Op.extract (Go.Operand.tmp 39) 0, type := 24, pos := "lattice.go:110", after := #[{ on := 7, ground := Go.Ground.data }], guard := none }) (v := ?_) rfl (by kernel_rfl) (by kernel_rfl) (by kernel_rfl) (fun _ _ _ h => h) (Or.inl ⟨by rfl, ?hy⟩) (by assumption) ?_
          case hy => (intro w9 hSw; (try dsimp only at hSw); go_simp; try with_reducible rfl)
          try simp only [Act.put, List.setIfInBounds_toArray, List.set_cons_zero, List.set_cons_succ]
          refine wpAnyH_take (i := 9) (oi := { dst := some 48, op := Go.Op.extract (Go.Operand.tmp 39) 1, type := 27, pos := "lattice.go:110", after := #[{ on := 7, ground := Go.Ground.data }, { on := 11, ground := Go.Ground.gcOnly Go.Departure.lateStores }], guard := none }) (v := ?_) rfl (by kernel_rfl) (by kernel_rfl) (by kernel_rfl) (fun _ _ _ h => h) (Or.inl ⟨by rfl, ?hy⟩) (by assumption) ?_
          case hy => (intro w9 hSw; (try dsimp only at hSw); go_simp; try with_reducible rfl)
          try simp only [Act.put, List.setIfInBounds_toArray, List.set_cons_zero, List.set_cons_succ]
          refine wpAnyH_ready (rs := [10]) (by kernel_rfl) (by simp) ?_
          refine AllReadyH.cons (o := { dst := some 13, op := Go.Op.alloc 24, type := 0, pos := "lattice.go:110", after := #[], guard := none }) rfl (fun K hK => ?_) AllReadyH.nil
          go_simp
          have HX10 : Hid (W.heap.size ≤ _) := hHeld.size
          refine hK.out _ _ ?_ (fun hHeld => ?_)
          · exact Below.alloc hHeld hHeld.size _
          clear hK K
          try simp only [Act.put, List.setIfInBounds_toArray, List.set_cons_zero, List.set_cons_succ]
          have HXB : Hid (W.heap.size ≤ _) := HX10
          clear HX10
          generalize hwa : World.alloc _ _ = wa at hHeld ⊢
          try (have HNE := ne_new HPR)
          try (have HPR := row_al HPR hwa)
          have HZB := zb_of hwa
          obtain ⟨z0, z1, z2, z3⟩ := HZB.out
          clear hwa
          refine wpAnyH_ready (rs := [11]) (by kernel_rfl) (by simp) ?_
          refine AllReadyH.cons (o := { dst := none, op := Go.Op.store 24 (Go.Operand.tmp 13) (Go.Operand.tmp 47), type := 0, pos := "lattice.go:110", after := #[{ on := 10, ground := Go.Ground.data }, { on := 8, ground := Go.Ground.data }, { on := 6, ground := Go.Ground.chain }, { on := 0, ground := Go.Ground.phase }, { on := 1, ground := Go.Ground.phase }, { on := 2, ground := Go.Ground.phase }, { on := 3, ground := Go.Ground.phase }, { on := 4, ground := Go.Ground.phase }, { on := 5, ground := Go.Ground.phase }, { on := 6, ground := Go.Ground.phase }, { on := 7, ground := Go.Ground.phase }, { on := 8, ground := Go.Ground.phase }, { on := 9, ground := Go.Ground.textOnly Go.Departure.lateStores }, { on := 10, ground := Go.Ground.phase }], guard := none }) rfl (fun K hK => ?_) AllReadyH.nil
          go_simp
          skip
          refine hK.out _ _ ?_ (fun hHeld => ?_)
          · exact hz_keep hHeld HXB
          clear hK K
          try simp only [Act.put, List.setIfInBounds_toArray, List.set_cons_zero, List.set_cons_succ]
          refine wpAnyH_take (i := 12) (oi := { dst := some 14, op := Go.Op.assign (Go.Operand.tmp 48), type := 27, pos := "lattice.go:110", after := #[{ on := 9, ground := Go.Ground.data }, { on := 11, ground := Go.Ground.chain }, { on := 0, ground := Go.Ground.phase }, { on := 1, ground := Go.Ground.phase }, { on := 2, ground := Go.Ground.phase }, { on := 3, ground := Go.Ground.phase }, { on := 4, ground := Go.Ground.phase }, { on := 5, ground := Go.Ground.phase }, { on := 6, ground := Go.Ground.phase }, { on := 7, ground := Go.Ground.phase }, { on := 8, ground := Go.Ground.phase }, { on := 9, ground := Go.Ground.phase }, { on := 10, ground := Go.Ground.phase }, { on := 11, ground := Go.Ground.phase }], guard := none }) (v := ?_) rfl (by kernel_rfl) (by kernel_rfl) (by kernel_rfl) (fun _ _ _ h => h) (Or.inl ⟨by rfl, ?hy⟩) (by assumption) ?_
          case hy => (intro w9 hSw; (try dsimp only at hSw); go_simp; try with_reducible rfl)
          try simp only [Act.put, List.setIfInBounds_toArray, List.set_cons_zero, List.set_cons_succ]
          refine wpAnyH_done (by kernel_rfl) ?_ _
          try simp only [Act.put, List.setIfInBounds_toArray, List.set_cons_zero, List.set_cons_succ]
          generalize hwz : World.setCell _ _ _ = wz at hHeld ⊢
          have HR9 := row_z HPR HNE hwz
          obtain ⟨q0, q1⟩ := cel_z HZB hwz
          have HB9 : Hid (Below W.heap.size W wz) := hHeld
          have hkk2 : ((kk : Nat) : Int).toNat = kk := by omega
          clear hwz HPR HNE HZB hHeld z0 z1 z2 z3
          obtain ⟨hl7, hus, hoo⟩ := prt_good (s := kk) h10 HSM.out HOR.out
          have HDP : Hid (∀ e w', DimPost ((pts kk len).length : Nat) (pts kk len).length (fun k => (prt (nat f) (pts kk len) k : Nat)) e w' → ∃ (k cap : Nat) (a : Option Addr), k ≤ Ln ∧ e = .returned (.tuple #[.int .i64 (k : Nat), .slice a k cap, .int .i64 0])) := fun e w' h => by
            obtain ⟨k, c', a', h1, h2⟩ := dim_good (by omega) hus hoo h
            exact ⟨k, c', a', prt_dim HD.out h1, h2⟩
          have hLP : (pts kk len).length ≤ maxLen := by unfold maxLen; omega
          clear hus hoo hl7
          generalize (pts kk len).length = Lp at *
          generalize prt (nat f) (pts kk len) = gp at *
          go_wp2_with fail
          refine (dim_any (Lp : Nat) ap Lp cpp _ _ hLP HR9.out).mono ?_
          rintro e w5 ⟨hd5, hb5⟩
          obtain ⟨kp, cq, aq, hkL, rfl⟩ := HDP.out _ _ hd5
          have HB5 : Hid (Below w.heap.size w w5) := Below.then HBT.out (Below.then HB9.out hb5)
          have hkL2 : (kp : Int) ≤ (Ln : Int) := by omega
          have hLL : ((Ln : Int) == (Ln : Int)) = true := by simp
          clear hd5 hb5 HR9 q0 q1
          go_wp2_with fail
          go_ret
          exact ⟨rfl, HB5.out⟩
        refine AllReadyH.cons (o := { dst := some 13, op := Go.Op.alloc 24, type := 0, pos := "lattice.go:110", after := #[], guard := none }) rfl (fun K hK => ?_) ?_
        · go_simp
          have HX10 : Hid (W.heap.size ≤ _) := hHeld.size
          refine hK.out _ _ ?_ (fun hHeld => ?_)
          · exact Below.alloc hHeld hHeld.size _
          clear hK K
          try simp only [Act.put, List.setIfInBounds_toArray, List.set_cons_zero, List.set_cons_succ]
          have HXB : Hid (W.heap.size ≤ _) := HX10
          clear HX10
          generalize hwa : World.alloc _ _ = wa at hHeld ⊢
          try (have HNE := ne_new HPR)
          try (have HPR := row_al HPR hwa)
          have HZB := zb_of hwa
          obtain ⟨z0, z1, z2, z3⟩ := HZB.out
          clear hwa
          refine wpAnyH_ready (rs := [6]) (by kernel_rfl) (by simp) ?_
          refine AllReadyH.cons (o := { dst := some 46, op := Go.Op.call { callee := Go.Callee.value (Go.Operand.func 7), args := #[Go.Operand.tmp 40, Go.Operand.tmp 45], argTypes := #[24, 3] }, type := 30, pos := "lattice.go:110", after := #[{ on := 0, ground := Go.Ground.data }, { on := 5, ground := Go.Ground.data }, { on := 5, ground := Go.Ground.chain }], guard := none }) rfl (fun K hK => ?_) AllReadyH.nil
          go_simp
          refine (part_any (len : Nat) a len cap f (kk : Nat) _ hl (HK.out _ hHeld).row (HTB.out.step hHeld)).mono ?_
          rintro e wp ⟨hpp2, hbp⟩
          obtain ⟨ap, cpp, rfl, hrp, hfp⟩ := part_good HC0.out hkk hpp2
          refine hK.out _ _ ?_ (fun hHeld => ?_)
          · exact Below.then hHeld hbp
          clear hK K
          try simp only [Act.put, List.setIfInBounds_toArray, List.set_cons_zero, List.set_cons_succ]
          have HPR : Hid (Row wp ap _ _) := hrp
          try (have HNE := ne_old HZB hfp)
          try (have HZB := zb_step HZB hbp)
          try (obtain ⟨z0, z1, z2, z3⟩ := HZB.out)
          clear hrp
          refine wpAnyH_take (i := 7) (oi := { dst := some 39, op := Go.Op.move (Go.Operand.tmp 46), type := 30, pos := "lattice.go:110", after := #[{ on := 6, ground := Go.Ground.data }], guard := none }) (v := ?_) rfl (by kernel_rfl) (by kernel_rfl) (by kernel_rfl) (fun _ _ _ h => h) (Or.inl ⟨by rfl, ?hy⟩) (by assumption) ?_
          case hy => (intro w9 hSw; (try dsimp only at hSw); go_simp; try with_reducible rfl)
          try simp only [Act.put, List.setIfInBounds_toArray, List.set_cons_zero, List.set_cons_succ]
          refine wpAnyH_take (i := 8) (oi := { dst := some 47, op := Go.Op.extract (Go.Operand.tmp 39) 0, type := 24, pos := "lattice.go:110", after := #[{ on := 7, ground := Go.Ground.data }], guard := none }) (v := ?_) rfl (by kernel_rfl) (by kernel_rfl) (by kernel_rfl) (fun _ _ _ h => h) (Or.inl ⟨by rfl, ?hy⟩) (by assumption) ?_
          case hy => (intro w9 hSw; (try dsimp only at hSw); go_simp; try with_reducible rfl)
          try simp only [Act.put, List.setIfInBounds_toArray, List.set_cons_zero, List.set_cons_succ]
          refine wpAnyH_take (i := 9) (oi := { dst := some 48, op := Go.Op.extract (Go.Operand.tmp 39) 1, type := 27, pos := "lattice.go:110", after := #[{ on := 7, ground := Go.Ground.data }, { on := 11, ground := Go.Ground.gcOnly Go.Departure.lateStores }], guard := none }) (v := ?_) rfl (by kernel_rfl) (by kernel_rfl) (by kernel_rfl) (fun _ _ _ h => h) (Or.inl ⟨by rfl, ?hy⟩) (by assumption) ?_
          case hy => (intro w9 hSw; (try dsimp only at hSw); go_simp; try with_reducible rfl)
          try simp only [Act.put, List.setIfInBounds_toArray, List.set_cons_zero, List.set_cons_succ]
          refine wpAnyH_ready (rs := [11]) (by kernel_rfl) (by simp) ?_
          refine AllReadyH.cons (o := { dst := none, op := Go.Op.store 24 (Go.Operand.tmp 13) (Go.Operand.tmp 47), type := 0, pos := "lattice.go:110", after := #[{ on := 10, ground := Go.Ground.data }, { on := 8, ground := Go.Ground.data }, { on := 6, ground := Go.Ground.chain }, { on := 0, ground := Go.Ground.phase }, { on := 1, ground := Go.Ground.phase }, { on := 2, ground := Go.Ground.phase }, { on := 3, ground := Go.Ground.phase }, { on := 4, ground := Go.Ground.phase }, { on := 5, ground := Go.Ground.phase }, { on := 6, ground := Go.Ground.phase }, { on := 7, ground := Go.Ground.phase }, { on := 8, ground := Go.Ground.phase }, { on := 9, ground := Go.Ground.textOnly Go.Departure.lateStores }, { on := 10, ground := Go.Ground.phase }], guard := none }) rfl (fun K hK => ?_) AllReadyH.nil
          go_simp
          skip
          refine hK.out _ _ ?_ (fun hHeld => ?_)
          · exact hz_keep hHeld HXB
          clear hK K
          try simp only [Act.put, List.setIfInBounds_toArray, List.set_cons_zero, List.set_cons_succ]
          refine wpAnyH_take (i := 12) (oi := { dst := some 14, op := Go.Op.assign (Go.Operand.tmp 48), type := 27, pos := "lattice.go:110", after := #[{ on := 9, ground := Go.Ground.data }, { on := 11, ground := Go.Ground.chain }, { on := 0, ground := Go.Ground.phase }, { on := 1, ground := Go.Ground.phase }, { on := 2, ground := Go.Ground.phase }, { on := 3, ground := Go.Ground.phase }, { on := 4, ground := Go.Ground.phase }, { on := 5, ground := Go.Ground.phase }, { on := 6, ground := Go.Ground.phase }, { on := 7, ground := Go.Ground.phase }, { on := 8, ground := Go.Ground.phase }, { on := 9, ground := Go.Ground.phase }, { on := 10, ground := Go.Ground.phase }, { on := 11, ground := Go.Ground.phase }], guard := none }) (v := ?_) rfl (by kernel_rfl) (by kernel_rfl) (by kernel_rfl) (fun _ _ _ h => h) (Or.inl ⟨by rfl, ?hy⟩) (by assumption) ?_
          case hy => (intro w9 hSw; (try dsimp only at hSw); go_simp; try with_reducible rfl)
          try simp only [Act.put, List.setIfInBounds_toArray, List.set_cons_zero, List.set_cons_succ]
          refine wpAnyH_done (by kernel_rfl) ?_ _
          try simp only [Act.put, List.setIfInBounds_toArray, List.set_cons_zero, List.set_cons_succ]
          generalize hwz : World.setCell _ _ _ = wz at hHeld ⊢
          have HR9 := row_z HPR HNE hwz
          obtain ⟨q0, q1⟩ := cel_z HZB hwz
          have HB9 : Hid (Below W.heap.size W wz) := hHeld
          have hkk2 : ((kk : Nat) : Int).toNat = kk := by omega
          clear hwz HPR HNE HZB hHeld z0 z1 z2 z3
          obtain ⟨hl7, hus, hoo⟩ := prt_good (s := kk) h10 HSM.out HOR.out
          have HDP : Hid (∀ e w', DimPost ((pts kk len).length : Nat) (pts kk len).length (fun k => (prt (nat f) (pts kk len) k : Nat)) e w' → ∃ (k cap : Nat) (a : Option Addr), k ≤ Ln ∧ e = .returned (.tuple #[.int .i64 (k : Nat), .slice a k cap, .int .i64 0])) := fun e w' h => by
            obtain ⟨k, c', a', h1, h2⟩ := dim_good (by omega) hus hoo h
            exact ⟨k, c', a', prt_dim HD.out h1, h2⟩
          have hLP : (pts kk len).length ≤ maxLen := by unfold maxLen; omega
          clear hus hoo hl7
          generalize (pts kk len).length = Lp at *
          generalize prt (nat f) (pts kk len) = gp at *
          go_wp2_with fail
          refine (dim_any (Lp : Nat) ap Lp cpp _ _ hLP HR9.out).mono ?_
          rintro e w5 ⟨hd5, hb5⟩
          obtain ⟨kp, cq, aq, hkL, rfl⟩ := HDP.out _ _ hd5
          have HB5 : Hid (Below w.heap.size w w5) := Below.then HBT.out (Below.then HB9.out hb5)
          have hkL2 : (kp : Int) ≤ (Ln : Int) := by omega
          have hLL : ((Ln : Int) == (Ln : Int)) = true := by simp
          clear hd5 hb5 HR9 q0 q1
          go_wp2_with fail
          go_ret
          exact ⟨rfl, HB5.out⟩
        exact AllReadyH.nil
      refine AllReadyH.cons (o := { dst := some 13, op := Go.Op.alloc 24, type := 0, pos := "lattice.go:110", after := #[], guard := none }) rfl (fun K hK => ?_) ?_
      · go_simp
        have HX10 : Hid (W.heap.size ≤ _) := hHeld.size
        refine hK.out _ _ ?_ (fun hHeld => ?_)
        · exact Below.alloc hHeld hHeld.size _
        clear hK K
        try simp only [Act.put, List.setIfInBounds_toArray, List.set_cons_zero, List.set_cons_succ]
        have HXB : Hid (W.heap.size ≤ _) := HX10
        clear HX10
        generalize hwa : World.alloc _ _ = wa at hHeld ⊢
        try (have HNE := ne_new HPR)
        try (have HPR := row_al HPR hwa)
        have HZB := zb_of hwa
        obtain ⟨z0, z1, z2, z3⟩ := HZB.out
        clear hwa
        refine wpAnyH_ready (rs := [5]) (by kernel_rfl) (by simp) ?_
        refine AllReadyH.cons (o := { dst := some 45, op := Go.Op.call { callee := Go.Callee.value (Go.Operand.func 8), args := #[Go.Operand.tmp 41, Go.Operand.tmp 44], argTypes := #[3, 3] }, type := 3, pos := "lattice.go:110", after := #[{ on := 1, ground := Go.Ground.data }, { on := 4, ground := Go.Ground.data }, { on := 4, ground := Go.Ground.chain }], guard := none }) rfl (fun K hK => ?_) AllReadyH.nil
        go_simp
        refine (choose_any set (pw len) _ hpp hpb hs1 hs2).mono ?_
        rintro e w' ⟨⟨kk, hkk, rfl⟩, rfl⟩
        refine hK.out _ _ ?_ (fun hHeld => ?_)
        · assumption
        clear hK K
        try simp only [Act.put, List.setIfInBounds_toArray, List.set_cons_zero, List.set_cons_succ]
        refine wpAnyH_ready (rs := [6]) (by kernel_rfl) (by simp) ?_
        refine AllReadyH.cons (o := { dst := some 46, op := Go.Op.call { callee := Go.Callee.value (Go.Operand.func 7), args := #[Go.Operand.tmp 40, Go.Operand.tmp 45], argTypes := #[24, 3] }, type := 30, pos := "lattice.go:110", after := #[{ on := 0, ground := Go.Ground.data }, { on := 5, ground := Go.Ground.data }, { on := 5, ground := Go.Ground.chain }], guard := none }) rfl (fun K hK => ?_) AllReadyH.nil
        go_simp
        refine (part_any (len : Nat) a len cap f (kk : Nat) _ hl (HK.out _ hHeld).row (HTB.out.step hHeld)).mono ?_
        rintro e wp ⟨hpp2, hbp⟩
        obtain ⟨ap, cpp, rfl, hrp, hfp⟩ := part_good HC0.out hkk hpp2
        refine hK.out _ _ ?_ (fun hHeld => ?_)
        · exact Below.then hHeld hbp
        clear hK K
        try simp only [Act.put, List.setIfInBounds_toArray, List.set_cons_zero, List.set_cons_succ]
        have HPR : Hid (Row wp ap _ _) := hrp
        try (have HNE := ne_old HZB hfp)
        try (have HZB := zb_step HZB hbp)
        try (obtain ⟨z0, z1, z2, z3⟩ := HZB.out)
        clear hrp
        refine wpAnyH_take (i := 7) (oi := { dst := some 39, op := Go.Op.move (Go.Operand.tmp 46), type := 30, pos := "lattice.go:110", after := #[{ on := 6, ground := Go.Ground.data }], guard := none }) (v := ?_) rfl (by kernel_rfl) (by kernel_rfl) (by kernel_rfl) (fun _ _ _ h => h) (Or.inl ⟨by rfl, ?hy⟩) (by assumption) ?_
        case hy => (intro w9 hSw; (try dsimp only at hSw); go_simp; try with_reducible rfl)
        try simp only [Act.put, List.setIfInBounds_toArray, List.set_cons_zero, List.set_cons_succ]
        refine wpAnyH_take (i := 8) (oi := { dst := some 47, op := Go.Op.extract (Go.Operand.tmp 39) 0, type := 24, pos := "lattice.go:110", after := #[{ on := 7, ground := Go.Ground.data }], guard := none }) (v := ?_) rfl (by kernel_rfl) (by kernel_rfl) (by kernel_rfl) (fun _ _ _ h => h) (Or.inl ⟨by rfl, ?hy⟩) (by assumption) ?_
        case hy => (intro w9 hSw; (try dsimp only at hSw); go_simp; try with_reducible rfl)
        try simp only [Act.put, List.setIfInBounds_toArray, List.set_cons_zero, List.set_cons_succ]
        refine wpAnyH_take (i := 9) (oi := { dst := some 48, op := Go.Op.extract (Go.Operand.tmp 39) 1, type := 27, pos := "lattice.go:110", after := #[{ on := 7, ground := Go.Ground.data }, { on := 11, ground := Go.Ground.gcOnly Go.Departure.lateStores }], guard := none }) (v := ?_) rfl (by kernel_rfl) (by kernel_rfl) (by kernel_rfl) (fun _ _ _ h => h) (Or.inl ⟨by rfl, ?hy⟩) (by assumption) ?_
        case hy => (intro w9 hSw; (try dsimp only at hSw); go_simp; try with_reducible rfl)
        try simp only [Act.put, List.setIfInBounds_toArray, List.set_cons_zero, List.set_cons_succ]
        refine wpAnyH_ready (rs := [11]) (by kernel_rfl) (by simp) ?_
        refine AllReadyH.cons (o := { dst := none, op := Go.Op.store 24 (Go.Operand.tmp 13) (Go.Operand.tmp 47), type := 0, pos := "lattice.go:110", after := #[{ on := 10, ground := Go.Ground.data }, { on := 8, ground := Go.Ground.data }, { on := 6, ground := Go.Ground.chain }, { on := 0, ground := Go.Ground.phase }, { on := 1, ground := Go.Ground.phase }, { on := 2, ground := Go.Ground.phase }, { on := 3, ground := Go.Ground.phase }, { on := 4, ground := Go.Ground.phase }, { on := 5, ground := Go.Ground.phase }, { on := 6, ground := Go.Ground.phase }, { on := 7, ground := Go.Ground.phase }, { on := 8, ground := Go.Ground.phase }, { on := 9, ground := Go.Ground.textOnly Go.Departure.lateStores }, { on := 10, ground := Go.Ground.phase }], guard := none }) rfl (fun K hK => ?_) AllReadyH.nil
        go_simp
        skip
        refine hK.out _ _ ?_ (fun hHeld => ?_)
        · exact hz_keep hHeld HXB
        clear hK K
        try simp only [Act.put, List.setIfInBounds_toArray, List.set_cons_zero, List.set_cons_succ]
        refine wpAnyH_take (i := 12) (oi := { dst := some 14, op := Go.Op.assign (Go.Operand.tmp 48), type := 27, pos := "lattice.go:110", after := #[{ on := 9, ground := Go.Ground.data }, { on := 11, ground := Go.Ground.chain }, { on := 0, ground := Go.Ground.phase }, { on := 1, ground := Go.Ground.phase }, { on := 2, ground := Go.Ground.phase }, { on := 3, ground := Go.Ground.phase }, { on := 4, ground := Go.Ground.phase }, { on := 5, ground := Go.Ground.phase }, { on := 6, ground := Go.Ground.phase }, { on := 7, ground := Go.Ground.phase }, { on := 8, ground := Go.Ground.phase }, { on := 9, ground := Go.Ground.phase }, { on := 10, ground := Go.Ground.phase }, { on := 11, ground := Go.Ground.phase }], guard := none }) (v := ?_) rfl (by kernel_rfl) (by kernel_rfl) (by kernel_rfl) (fun _ _ _ h => h) (Or.inl ⟨by rfl, ?hy⟩) (by assumption) ?_
        case hy => (intro w9 hSw; (try dsimp only at hSw); go_simp; try with_reducible rfl)
        try simp only [Act.put, List.setIfInBounds_toArray, List.set_cons_zero, List.set_cons_succ]
        refine wpAnyH_done (by kernel_rfl) ?_ _
        try simp only [Act.put, List.setIfInBounds_toArray, List.set_cons_zero, List.set_cons_succ]
        generalize hwz : World.setCell _ _ _ = wz at hHeld ⊢
        have HR9 := row_z HPR HNE hwz
        obtain ⟨q0, q1⟩ := cel_z HZB hwz
        have HB9 : Hid (Below W.heap.size W wz) := hHeld
        have hkk2 : ((kk : Nat) : Int).toNat = kk := by omega
        clear hwz HPR HNE HZB hHeld z0 z1 z2 z3
        obtain ⟨hl7, hus, hoo⟩ := prt_good (s := kk) h10 HSM.out HOR.out
        have HDP : Hid (∀ e w', DimPost ((pts kk len).length : Nat) (pts kk len).length (fun k => (prt (nat f) (pts kk len) k : Nat)) e w' → ∃ (k cap : Nat) (a : Option Addr), k ≤ Ln ∧ e = .returned (.tuple #[.int .i64 (k : Nat), .slice a k cap, .int .i64 0])) := fun e w' h => by
          obtain ⟨k, c', a', h1, h2⟩ := dim_good (by omega) hus hoo h
          exact ⟨k, c', a', prt_dim HD.out h1, h2⟩
        have hLP : (pts kk len).length ≤ maxLen := by unfold maxLen; omega
        clear hus hoo hl7
        generalize (pts kk len).length = Lp at *
        generalize prt (nat f) (pts kk len) = gp at *
        go_wp2_with fail
        refine (dim_any (Lp : Nat) ap Lp cpp _ _ hLP HR9.out).mono ?_
        rintro e w5 ⟨hd5, hb5⟩
        obtain ⟨kp, cq, aq, hkL, rfl⟩ := HDP.out _ _ hd5
        have HB5 : Hid (Below w.heap.size w w5) := Below.then HBT.out (Below.then HB9.out hb5)
        have hkL2 : (kp : Int) ≤ (Ln : Int) := by omega
        have hLL : ((Ln : Int) == (Ln : Int)) = true := by simp
        clear hd5 hb5 HR9 q0 q1
        go_wp2_with fail
        go_ret
        exact ⟨rfl, HB5.out⟩
      exact AllReadyH.nil
    refine AllReadyH.cons (o := { dst := some 13, op := Go.Op.alloc 24, type := 0, pos := "lattice.go:110", after := #[], guard := none }) rfl (fun K hK => ?_) ?_
    · go_simp
      have HX10 : Hid (W.heap.size ≤ _) := hHeld.size
      refine hK.out _ _ ?_ (fun hHeld => ?_)
      · exact Below.alloc hHeld hHeld.size _
      clear hK K
      try simp only [Act.put, List.setIfInBounds_toArray, List.set_cons_zero, List.set_cons_succ]
      have HXB : Hid (W.heap.size ≤ _) := HX10
      clear HX10
      generalize hwa : World.alloc _ _ = wa at hHeld ⊢
      try (have HNE := ne_new HPR)
      try (have HPR := row_al HPR hwa)
      have HZB := zb_of hwa
      obtain ⟨z0, z1, z2, z3⟩ := HZB.out
      clear hwa
      refine wpAnyH_ready (rs := [4]) (by kernel_rfl) (by simp) ?_
      refine AllReadyH.cons (o := { dst := some 44, op := Go.Op.call { callee := Go.Callee.value (Go.Operand.func 9), args := #[Go.Operand.tmp 43], argTypes := #[3] }, type := 3, pos := "lattice.go:110", after := #[{ on := 3, ground := Go.Ground.data }], guard := none }) rfl (fun K hK => ?_) AllReadyH.nil
      go_simp
      refine (bit_any len _ (by omega)).mono ?_
      rintro e w' ⟨rfl, rfl⟩
      refine hK.out _ _ ?_ (fun hHeld => ?_)
      · assumption
      clear hK K
      try simp only [Act.put, List.setIfInBounds_toArray, List.set_cons_zero, List.set_cons_succ]
      refine wpAnyH_ready (rs := [5]) (by kernel_rfl) (by simp) ?_
      refine AllReadyH.cons (o := { dst := some 45, op := Go.Op.call { callee := Go.Callee.value (Go.Operand.func 8), args := #[Go.Operand.tmp 41, Go.Operand.tmp 44], argTypes := #[3, 3] }, type := 3, pos := "lattice.go:110", after := #[{ on := 1, ground := Go.Ground.data }, { on := 4, ground := Go.Ground.data }, { on := 4, ground := Go.Ground.chain }], guard := none }) rfl (fun K hK => ?_) AllReadyH.nil
      go_simp
      refine (choose_any set (pw len) _ hpp hpb hs1 hs2).mono ?_
      rintro e w' ⟨⟨kk, hkk, rfl⟩, rfl⟩
      refine hK.out _ _ ?_ (fun hHeld => ?_)
      · assumption
      clear hK K
      try simp only [Act.put, List.setIfInBounds_toArray, List.set_cons_zero, List.set_cons_succ]
      refine wpAnyH_ready (rs := [6]) (by kernel_rfl) (by simp) ?_
      refine AllReadyH.cons (o := { dst := some 46, op := Go.Op.call { callee := Go.Callee.value (Go.Operand.func 7), args := #[Go.Operand.tmp 40, Go.Operand.tmp 45], argTypes := #[24, 3] }, type := 30, pos := "lattice.go:110", after := #[{ on := 0, ground := Go.Ground.data }, { on := 5, ground := Go.Ground.data }, { on := 5, ground := Go.Ground.chain }], guard := none }) rfl (fun K hK => ?_) AllReadyH.nil
      go_simp
      refine (part_any (len : Nat) a len cap f (kk : Nat) _ hl (HK.out _ hHeld).row (HTB.out.step hHeld)).mono ?_
      rintro e wp ⟨hpp2, hbp⟩
      obtain ⟨ap, cpp, rfl, hrp, hfp⟩ := part_good HC0.out hkk hpp2
      refine hK.out _ _ ?_ (fun hHeld => ?_)
      · exact Below.then hHeld hbp
      clear hK K
      try simp only [Act.put, List.setIfInBounds_toArray, List.set_cons_zero, List.set_cons_succ]
      have HPR : Hid (Row wp ap _ _) := hrp
      try (have HNE := ne_old HZB hfp)
      try (have HZB := zb_step HZB hbp)
      try (obtain ⟨z0, z1, z2, z3⟩ := HZB.out)
      clear hrp
      refine wpAnyH_take (i := 7) (oi := { dst := some 39, op := Go.Op.move (Go.Operand.tmp 46), type := 30, pos := "lattice.go:110", after := #[{ on := 6, ground := Go.Ground.data }], guard := none }) (v := ?_) rfl (by kernel_rfl) (by kernel_rfl) (by kernel_rfl) (fun _ _ _ h => h) (Or.inl ⟨by rfl, ?hy⟩) (by assumption) ?_
      case hy => (intro w9 hSw; (try dsimp only at hSw); go_simp; try with_reducible rfl)
      try simp only [Act.put, List.setIfInBounds_toArray, List.set_cons_zero, List.set_cons_succ]
      refine wpAnyH_take (i := 8) (oi := { dst := some 47, op := Go.Op.extract (Go.Operand.tmp 39) 0, type := 24, pos := "lattice.go:110", after := #[{ on := 7, ground := Go.Ground.data }], guard := none }) (v := ?_) rfl (by kernel_rfl) (by kernel_rfl) (by kernel_rfl) (fun _ _ _ h => h) (Or.inl ⟨by rfl, ?hy⟩) (by assumption) ?_
      case hy => (intro w9 hSw; (try dsimp only at hSw); go_simp; try with_reducible rfl)
      try simp only [Act.put, List.setIfInBounds_toArray, List.set_cons_zero, List.set_cons_succ]
      refine wpAnyH_take (i := 9) (oi := { dst := some 48, op := Go.Op.extract (Go.Operand.tmp 39) 1, type := 27, pos := "lattice.go:110", after := #[{ on := 7, ground := Go.Ground.data }, { on := 11, ground := Go.Ground.gcOnly Go.Departure.lateStores }], guard := none }) (v := ?_) rfl (by kernel_rfl) (by kernel_rfl) (by kernel_rfl) (fun _ _ _ h => h) (Or.inl ⟨by rfl, ?hy⟩) (by assumption) ?_
      case hy => (intro w9 hSw; (try dsimp only at hSw); go_simp; try with_reducible rfl)
      try simp only [Act.put, List.setIfInBounds_toArray, List.set_cons_zero, List.set_cons_succ]
      refine wpAnyH_ready (rs := [11]) (by kernel_rfl) (by simp) ?_
      refine AllReadyH.cons (o := { dst := none, op := Go.Op.store 24 (Go.Operand.tmp 13) (Go.Operand.tmp 47), type := 0, pos := "lattice.go:110", after := #[{ on := 10, ground := Go.Ground.data }, { on := 8, ground := Go.Ground.data }, { on := 6, ground := Go.Ground.chain }, { on := 0, ground := Go.Ground.phase }, { on := 1, ground := Go.Ground.phase }, { on := 2, ground := Go.Ground.phase }, { on := 3, ground := Go.Ground.phase }, { on := 4, ground := Go.Ground.phase }, { on := 5, ground := Go.Ground.phase }, { on := 6, ground := Go.Ground.phase }, { on := 7, ground := Go.Ground.phase }, { on := 8, ground := Go.Ground.phase }, { on := 9, ground := Go.Ground.textOnly Go.Departure.lateStores }, { on := 10, ground := Go.Ground.phase }], guard := none }) rfl (fun K hK => ?_) AllReadyH.nil
      go_simp
      skip
      refine hK.out _ _ ?_ (fun hHeld => ?_)
      · exact hz_keep hHeld HXB
      clear hK K
      try simp only [Act.put, List.setIfInBounds_toArray, List.set_cons_zero, List.set_cons_succ]
      refine wpAnyH_take (i := 12) (oi := { dst := some 14, op := Go.Op.assign (Go.Operand.tmp 48), type := 27, pos := "lattice.go:110", after := #[{ on := 9, ground := Go.Ground.data }, { on := 11, ground := Go.Ground.chain }, { on := 0, ground := Go.Ground.phase }, { on := 1, ground := Go.Ground.phase }, { on := 2, ground := Go.Ground.phase }, { on := 3, ground := Go.Ground.phase }, { on := 4, ground := Go.Ground.phase }, { on := 5, ground := Go.Ground.phase }, { on := 6, ground := Go.Ground.phase }, { on := 7, ground := Go.Ground.phase }, { on := 8, ground := Go.Ground.phase }, { on := 9, ground := Go.Ground.phase }, { on := 10, ground := Go.Ground.phase }, { on := 11, ground := Go.Ground.phase }], guard := none }) (v := ?_) rfl (by kernel_rfl) (by kernel_rfl) (by kernel_rfl) (fun _ _ _ h => h) (Or.inl ⟨by rfl, ?hy⟩) (by assumption) ?_
      case hy => (intro w9 hSw; (try dsimp only at hSw); go_simp; try with_reducible rfl)
      try simp only [Act.put, List.setIfInBounds_toArray, List.set_cons_zero, List.set_cons_succ]
      refine wpAnyH_done (by kernel_rfl) ?_ _
      try simp only [Act.put, List.setIfInBounds_toArray, List.set_cons_zero, List.set_cons_succ]
      generalize hwz : World.setCell _ _ _ = wz at hHeld ⊢
      have HR9 := row_z HPR HNE hwz
      obtain ⟨q0, q1⟩ := cel_z HZB hwz
      have HB9 : Hid (Below W.heap.size W wz) := hHeld
      have hkk2 : ((kk : Nat) : Int).toNat = kk := by omega
      clear hwz HPR HNE HZB hHeld z0 z1 z2 z3
      obtain ⟨hl7, hus, hoo⟩ := prt_good (s := kk) h10 HSM.out HOR.out
      have HDP : Hid (∀ e w', DimPost ((pts kk len).length : Nat) (pts kk len).length (fun k => (prt (nat f) (pts kk len) k : Nat)) e w' → ∃ (k cap : Nat) (a : Option Addr), k ≤ Ln ∧ e = .returned (.tuple #[.int .i64 (k : Nat), .slice a k cap, .int .i64 0])) := fun e w' h => by
        obtain ⟨k, c', a', h1, h2⟩ := dim_good (by omega) hus hoo h
        exact ⟨k, c', a', prt_dim HD.out h1, h2⟩
      have hLP : (pts kk len).length ≤ maxLen := by unfold maxLen; omega
      clear hus hoo hl7
      generalize (pts kk len).length = Lp at *
      generalize prt (nat f) (pts kk len) = gp at *
      go_wp2_with fail
      refine (dim_any (Lp : Nat) ap Lp cpp _ _ hLP HR9.out).mono ?_
      rintro e w5 ⟨hd5, hb5⟩
      obtain ⟨kp, cq, aq, hkL, rfl⟩ := HDP.out _ _ hd5
      have HB5 : Hid (Below w.heap.size w w5) := Below.then HBT.out (Below.then HB9.out hb5)
      have hkL2 : (kp : Int) ≤ (Ln : Int) := by omega
      have hLL : ((Ln : Int) == (Ln : Int)) = true := by simp
      clear hd5 hb5 HR9 q0 q1
      go_wp2_with fail
      go_ret
      exact ⟨rfl, HB5.out⟩
    exact AllReadyH.nil
  · rcases hv with ⟨_, rfl⟩ | ⟨h, _⟩
    · have h0 : (c != 0) = true := by simpa using e0
      go_wp2_with fail
      go_ret
      exact ⟨rfl, Below.then HBW.out HB1.out⟩
    · exact absurd h e0
end Go.Proofs.YtklfnghgpmjnmaaDoor
