/-
  What chain.freeSizes answers. Conditions: at most ten points; the library's table lies in its variable.
-/
import Derived.Deep.RegionHeld3
import Derived.Test.YtadocffdneiaaaaDoorStrP
namespace Go.Proofs.YtadocffdneiaaaaDoor
open Go.RowKit

def SF (w : World) (B1 B2 A1 A2 : Nat) (w' : World) : Prop := Below w.heap.size w w' ∧ w'.cell? ⟨w.heap.size, B1, none⟩ = some (.int .i64 (A1 : Nat)) ∧ w'.cell? ⟨w.heap.size, B2, none⟩ = some (.int .i64 (A2 : Nat))
theorem cell_of2 {X : World} {a : Option Addr} {b o : Nat} {m k : Nat} {f : Nat → Int} (h : Row X a m f) (e : a = some ⟨b, o, none⟩) (hk : k < m) : X.cell? ⟨b, o + k, none⟩ = some (.int .i64 (f k)) := by
  obtain ⟨b', o', e', hc⟩ := h k hk
  rw [e] at e'
  injection e' with e'
  injection e' with e1 e2
  subst e1
  subst e2
  exact hc

theorem wrap_pw (k : Nat) (hk : k ≤ 10) : IntKind.i64.wrap (2 ^ k) = ((pw k : Nat) : Int) := by
  have e : (2 : Int) ^ k = ((pw k : Nat) : Int) := by unfold pw; simp
  have hp := pw_le k hk
  rw [e]
  exact wrap_i64_small _ (Int.natCast_nonneg _) (by clear e; omega)
/-- What a round of freeSizes needs. -/
structure Pick (F : Nat → Nat) (m u k A0 B1 B2 A1 A2 : Nat) : Prop where
  lo : lo u = k
  km : k < m
  f0 : F k = A0
  s0 : A0 < 1024
  l1 : lack u (pw k) = B1
  l2 : lack B1 A0 = B2
  b1 : B1 < u
  b2 : B2 < u
  f1 : frs F m B1 = A1
  f2 : frs F m B2 = A2
  a1 : A1 ≤ 10
  a2 : A2 ≤ 10
  fu : frs F m u = max A1 (1 + A2)
theorem pick_of {F : Nat → Nat} {m u : Nat} (hF : Foe F m) (hu : u < pw m) (h0 : u ≠ 0) : ∃ k A0 B1 B2 A1 A2, Pick F m u k A0 B1 B2 A1 A2 := by
  have hm := hF.m10
  have hus := set_small hu hm
  have hlb := lo_in hus h0
  have hlm := bit_of_lt hu hlb
  have hb1 : lack u (pw (lo u)) < u := by
    rw [← (del_is hus (Nat.lt_of_lt_of_le hlm hm) hlb).1]
    exact Nat.sub_lt (Nat.pos_of_ne_zero h0) (pw_pos _)
  exact ⟨lo u, _, _, _, _, _, rfl, hlm, rfl, set_small (hF.lt _ hlm) hm, rfl, rfl, hb1, Nat.lt_of_le_of_lt (lack_le _ _) hb1, rfl, rfl, Nat.le_trans fr_le_pc (pc_le2 _), Nat.le_trans fr_le_pc (pc_le2 _), hF.step hu hlb⟩

set_option maxHeartbeats 2000000 in
theorem freeSizes_any (m : Nat) (a : Option Addr) (cap : Nat) (F : Nat → Nat) (w : World) (hF : Foe F m) (hr : Row w a m (fun k => (F k : Nat))) (hT : Tab w) :
    Calls Tryd.prog 20 #[.slice a m cap] w fun e w' => (e = .returned (.slice (some ⟨w.heap.size, 0, none⟩) (pw m) (pw m)) ∧ Own w' w.heap.size (pw m) (frs F m)) ∧ Below w.heap.size w w' := by
  obtain ⟨i0, hi, hz0, hz1, hz2⟩ := info_parts Tryd.info3
  have hm := hF.m10
  have HR : Hid (∀ w', Below w.heap.size w w' → Row w' a m (fun k => (F k : Nat))) := fun w' h => hr.below h
  have HF : Hid (Foe F m) := hF
  have HT : Hid (Tab w) := hT
  have hpm := pw_le m hm
  have hpm0 := pw_pos m
  have hshm := wrap_pow m (by omega)
  have hshm2 := wrap_pw m hm
  obtain ⟨P, HP⟩ : ∃ P, Hid (P = pw m) := ⟨_, rfl⟩
  rw [← HP.out] at hpm hpm0 hshm hshm2 ⊢
  clear hr hF hT
  go_enter Tryd.func20, Tryd.ntmps20
  go_wp2_with (at_make; refine wpList_make_full _ rfl _ _ 22 rfl w.heap.size 3 i0 (.int .i64 0) 1 Tryd.underlying22 hi hz0 hz1 .i64 .i64 _ _ P rfl rfl rfl rfl (by rw [hz2]; omega) (by unfold maxLen; omega) (Nat.le_refl _) ?_; intro w2 hown2 hgrow2)
  have HW2 : Hid (Below w.heap.size w w2) := (Below.refl _ _).grown hgrow2 (Nat.le_refl _) (by simp)
  have HO2 : Hid (Own w2 w.heap.size P (upTo0 (frs F m) 1)) := (own_made hown2).congr (fun k _ => by
    unfold upTo0
    split
    · obtain rfl : k = 0 := by omega
      have := fr_le_pc (F := F) (m := m) (s := 0)
      rw [pc_zero] at this
      omega
    · rfl)
  clear hown2 hgrow2 hi hz0 hz1 hz2 hshm hshm2
  go_loopw [4] (fun x wx => ∃ u : Nat, 1 ≤ u ∧ u ≤ P ∧ x = .int .i64 u ∧ Hid (Own wx w.heap.size P (upTo0 (frs F m) u)) ∧ Hid (Below w.heap.size w wx)) (fun x _ => P - (intOf x).toNat)
  case atStart => exact ⟨1, Nat.le_refl _, hpm0, rfl, HO2.out, HW2.out⟩
  case round =>
    clear HO2 HW2
    obtain ⟨u, h1u, hu, rfl, HO, HB⟩ := hrel
    by_cases hlt : u < P
    · have hupw : u < pw m := by rw [← HP.out]; exact hlt
      have hu0 : u ≠ 0 := by omega
      have hus : u < 1024 := by omega
      obtain ⟨k, A0, B1, B2, A1, A2, hpk⟩ := pick_of HF.out hupw hu0
      have HPK : Hid (Pick F m u k A0 B1 B2 A1 A2) := hpk
      have hlm := hpk.km
      have hs0 := hpk.s0
      have hb1 := hpk.b1
      have hb2 := hpk.b2
      have ha1 := hpk.a1
      have ha2 := hpk.a2
      have HKL : Hid (lo u = k) := hpk.lo
      have hkp : pw k ≤ 1024 := pw_le k (by omega)
      clear hpk hupw
      obtain ⟨rb, ro, rfl, hc⟩ := HR.out _ HB.out _ hlm
      try dsimp only at hc
      rw [HPK.out.f0] at hc
      have c1 := (HO.out B1 (by omega)).1
      have c2 := (HO.out B2 (by omega)).1
      have c3 := (HO.out u hlt).1
      have f3 := (HO.out u hlt).2
      rw [show upTo0 (frs F m) u B1 = A1 by rw [← HPK.out.f1]; simp [upTo0, hb1]] at c1
      rw [show upTo0 (frs F m) u B2 = A2 by rw [← HPK.out.f2]; simp [upTo0, hb2]] at c2
      have HNX : Hid (upTo0 (frs F m) (u + 1) = upd (upTo0 (frs F m) u) u (max A1 (1 + A2))) := by rw [Hid, ← HPK.out.fu]; exact upTo0_succ _ u
      have HTW : Hid (Tab wr) := HT.out.step HB.out
      have han1 : bits .andNot .i64 (u : Int) ((pw k : Nat) : Int) = ((B1 : Nat) : Int) := by rw [← HPK.out.l1]; exact i64_andNot u (pw k) (by omega) (by omega)
      have han2 : bits .andNot .i64 (B1 : Int) (A0 : Int) = ((B2 : Nat) : Int) := by rw [← HPK.out.l2]; exact i64_andNot B1 A0 (by omega) (by omega)
      have hlt' : (u : Int) < (P : Int) := by omega
      generalize upTo0 (frs F m) u u = A3 at c3
      have i1 : (B1 : Int) < (P : Int) := by omega
      have i2 : (B2 : Int) < (P : Int) := by omega
      have i3 : ((k : Nat) : Int) < (m : Int) := by omega
      have hwr : IntKind.i64.wrap (1 + (A2 : Int)) = ((1 + A2 : Nat) : Int) := by rw [wrap_i64_small _ (by omega) (by omega)]; omega
      have KD : Below wr.heap.size wr wr.drew := (Below.refl _ _).drew
      have HO3 : Hid (Own wr.drew w.heap.size P (upTo0 (frs F m) u)) := HO.out.keep KD (HO.out.lt hlt)
      have HC := KD.cell (p := ⟨rb, ro + k, none⟩) (World.block_lt_of_cell? _ _ hc)
      have KK : Hid (SF w B1 B2 A1 A2 wr.drew) := ⟨Below.then HB.out KD, (KD.cell (p := ⟨w.heap.size, B1, none⟩) (World.block_lt_of_cell? _ _ c1)).trans c1, (KD.cell (p := ⟨w.heap.size, B2, none⟩) (World.block_lt_of_cell? _ _ c2)).trans c2⟩
      have KST : Hid (SF w B1 B2 A1 A2 (wr.drew.setCell ⟨w.heap.size, u, none⟩ (.int .i64 (max A1 (1 + A2) : Nat)))) := by
        refine ⟨KK.out.1.setCell (p := ⟨w.heap.size, u, none⟩) (Nat.le_refl _) _, ?_, ?_⟩
        · rw [World.cell?_setCell_other _ _ _ _ (fun e => by injection e with _ e2; omega)]; exact KK.out.2.1
        · rw [World.cell?_setCell_other _ _ _ _ (fun e => by injection e with _ e2; omega)]; exact KK.out.2.2
      have d1 : ∀ w', SF w B1 B2 A1 A2 w' → w'.cell? ⟨w.heap.size, B1, none⟩ = some (.int .i64 (A1 : Nat)) := fun _ h => h.2.1
      have d2 : ∀ w', SF w B1 B2 A1 A2 w' → w'.cell? ⟨w.heap.size, B2, none⟩ = some (.int .i64 (A2 : Nat)) := fun _ h => h.2.2
      have d0 : ∀ w', SF w B1 B2 A1 A2 w' → w'.cell? ⟨rb, ro + k, none⟩ = some (.int .i64 (A0 : Nat)) := fun w' h => by
        have := cell_of2 (HR.out w' h.1) rfl hlm
        try dsimp only at this
        rw [HPK.out.f0] at this
        exact this
      have d3 : wr.drew.cell? ⟨w.heap.size, u, none⟩ = some (.int .i64 (A3 : Nat)) := (KD.cell (p := ⟨w.heap.size, u, none⟩) (World.block_lt_of_cell? _ _ c3)).trans c3
      have d4 : wr.drew.frozen? ⟨w.heap.size, u, none⟩ = false := (KD.frozen (p := ⟨w.heap.size, u, none⟩) (World.block_lt_of_cell? _ _ c3)).trans f3
      have hkk : k ≤ 10 := by omega
      clear HC KD
      have hsh := wrap_pow k (Nat.lt_of_le_of_lt hkk (by decide))
      have hsh2 := wrap_pw k hkk
      go_wp2_with (go_at_call 27; refine (first_any u _ hus hu0 HTW.out).mono ?_; rintro e w' ⟨rfl, hww⟩; subst hww; rw [HKL.out])
      refine wp_region_held_drew (S := (fun w' => SF w B1 B2 A1 A2 w')) (by kernel_rfl) (KK.out) (fun hHeld => ?_)
      refine wpAnyH_take (i := 0) (oi := { dst := some 23, op := Go.Op.move (Go.Operand.tmp 3), type := 22, pos := "chain.go:130", after := #[], guard := none }) (v := ?_) rfl (by kernel_rfl) (by kernel_rfl) (by kernel_rfl) (fun _ _ _ h => h) (Or.inl ⟨by rfl, ?hy⟩) (by assumption) ?_
      case hy => (intro w9 hSw; (try dsimp only at hSw); go_simp; try with_reducible rfl)
      try simp only [Act.put, List.setIfInBounds_toArray, List.set_cons_zero, List.set_cons_succ]
      refine wpAnyH_take (i := 1) (oi := { dst := some 24, op := Go.Op.move (Go.Operand.tmp 4), type := 3, pos := "chain.go:130", after := #[], guard := none }) (v := ?_) rfl (by kernel_rfl) (by kernel_rfl) (by kernel_rfl) (fun _ _ _ h => h) (Or.inl ⟨by rfl, ?hy⟩) (by assumption) ?_
      case hy => (intro w9 hSw; (try dsimp only at hSw); go_simp; try with_reducible rfl)
      try simp only [Act.put, List.setIfInBounds_toArray, List.set_cons_zero, List.set_cons_succ]
      refine wpAnyH_take (i := 2) (oi := { dst := some 25, op := Go.Op.move (Go.Operand.tmp 3), type := 22, pos := "chain.go:130", after := #[], guard := none }) (v := ?_) rfl (by kernel_rfl) (by kernel_rfl) (by kernel_rfl) (fun _ _ _ h => h) (Or.inl ⟨by rfl, ?hy⟩) (by assumption) ?_
      case hy => (intro w9 hSw; (try dsimp only at hSw); go_simp; try with_reducible rfl)
      try simp only [Act.put, List.setIfInBounds_toArray, List.set_cons_zero, List.set_cons_succ]
      refine wpAnyH_take (i := 3) (oi := { dst := some 26, op := Go.Op.move (Go.Operand.tmp 6), type := 3, pos := "chain.go:130", after := #[], guard := none }) (v := ?_) rfl (by kernel_rfl) (by kernel_rfl) (by kernel_rfl) (fun _ _ _ h => h) (Or.inl ⟨by rfl, ?hy⟩) (by assumption) ?_
      case hy => (intro w9 hSw; (try dsimp only at hSw); go_simp; try with_reducible rfl)
      try simp only [Act.put, List.setIfInBounds_toArray, List.set_cons_zero, List.set_cons_succ]
      refine wpAnyH_take (i := 4) (oi := { dst := some 27, op := Go.Op.indexAddr 22 (Go.Operand.tmp 25) (Go.Operand.tmp 26), type := 0, pos := "chain.go:130", after := #[{ on := 2, ground := Go.Ground.data }, { on := 3, ground := Go.Ground.data }], guard := none }) (v := ?_) rfl (by kernel_rfl) (by kernel_rfl) (by kernel_rfl) (fun _ _ _ h => h) (Or.inl ⟨by rfl, ?hy⟩) (by assumption) ?_
      case hy => (intro w9 hSw; (try dsimp only at hSw); go_simp; try with_reducible rfl)
      try simp only [Act.put, List.setIfInBounds_toArray, List.set_cons_zero, List.set_cons_succ]
      refine wpAnyH_take (i := 5) (oi := { dst := some 28, op := Go.Op.load 3 (Go.Operand.tmp 27), type := 3, pos := "chain.go:130", after := #[{ on := 4, ground := Go.Ground.data }], guard := none }) (v := ?_) rfl (by kernel_rfl) (by kernel_rfl) (by kernel_rfl) (fun _ _ _ h => h) (Or.inl ⟨by rfl, ?hy⟩) (by assumption) ?_
      case hy => (intro w9 hSw; (try dsimp only at hSw); go_simp; try with_reducible rfl)
      try simp only [Act.put, List.setIfInBounds_toArray, List.set_cons_zero, List.set_cons_succ]
      refine wpAnyH_take (i := 6) (oi := { dst := some 29, op := Go.Op.move (Go.Operand.tmp 3), type := 22, pos := "chain.go:130", after := #[], guard := none }) (v := ?_) rfl (by kernel_rfl) (by kernel_rfl) (by kernel_rfl) (fun _ _ _ h => h) (Or.inl ⟨by rfl, ?hy⟩) (by assumption) ?_
      case hy => (intro w9 hSw; (try dsimp only at hSw); go_simp; try with_reducible rfl)
      try simp only [Act.put, List.setIfInBounds_toArray, List.set_cons_zero, List.set_cons_succ]
      refine wpAnyH_take (i := 7) (oi := { dst := some 30, op := Go.Op.move (Go.Operand.tmp 6), type := 3, pos := "chain.go:130", after := #[], guard := none }) (v := ?_) rfl (by kernel_rfl) (by kernel_rfl) (by kernel_rfl) (fun _ _ _ h => h) (Or.inl ⟨by rfl, ?hy⟩) (by assumption) ?_
      case hy => (intro w9 hSw; (try dsimp only at hSw); go_simp; try with_reducible rfl)
      try simp only [Act.put, List.setIfInBounds_toArray, List.set_cons_zero, List.set_cons_succ]
      refine wpAnyH_take (i := 8) (oi := { dst := some 31, op := Go.Op.move (Go.Operand.tmp 0), type := 22, pos := "chain.go:130", after := #[], guard := none }) (v := ?_) rfl (by kernel_rfl) (by kernel_rfl) (by kernel_rfl) (fun _ _ _ h => h) (Or.inl ⟨by rfl, ?hy⟩) (by assumption) ?_
      case hy => (intro w9 hSw; (try dsimp only at hSw); go_simp; try with_reducible rfl)
      try simp only [Act.put, List.setIfInBounds_toArray, List.set_cons_zero, List.set_cons_succ]
      refine wpAnyH_take (i := 9) (oi := { dst := some 32, op := Go.Op.move (Go.Operand.tmp 5), type := 3, pos := "chain.go:130", after := #[], guard := none }) (v := ?_) rfl (by kernel_rfl) (by kernel_rfl) (by kernel_rfl) (fun _ _ _ h => h) (Or.inl ⟨by rfl, ?hy⟩) (by assumption) ?_
      case hy => (intro w9 hSw; (try dsimp only at hSw); go_simp; try with_reducible rfl)
      try simp only [Act.put, List.setIfInBounds_toArray, List.set_cons_zero, List.set_cons_succ]
      refine wpAnyH_take (i := 10) (oi := { dst := some 33, op := Go.Op.indexAddr 22 (Go.Operand.tmp 31) (Go.Operand.tmp 32), type := 0, pos := "chain.go:130", after := #[{ on := 8, ground := Go.Ground.data }, { on := 9, ground := Go.Ground.data }], guard := none }) (v := ?_) rfl (by kernel_rfl) (by kernel_rfl) (by kernel_rfl) (fun _ _ _ h => h) (Or.inl ⟨by rfl, ?hy⟩) (by assumption) ?_
      case hy => (intro w9 hSw; (try dsimp only at hSw); go_simp; try with_reducible rfl)
      try simp only [Act.put, List.setIfInBounds_toArray, List.set_cons_zero, List.set_cons_succ]
      refine wpAnyH_take (i := 11) (oi := { dst := some 34, op := Go.Op.load 3 (Go.Operand.tmp 33), type := 3, pos := "chain.go:130", after := #[{ on := 10, ground := Go.Ground.data }], guard := none }) (v := ?_) rfl (by kernel_rfl) (by kernel_rfl) (by kernel_rfl) (fun _ _ _ h => h) (Or.inl ⟨by rfl, ?hy⟩) (by assumption) ?_
      case hy => (intro w9 hSw; (try dsimp only at hSw); go_simp; try with_reducible rfl)
      try simp only [Act.put, List.setIfInBounds_toArray, List.set_cons_zero, List.set_cons_succ]
      refine wpAnyH_take (i := 12) (oi := { dst := some 35, op := Go.Op.binOp Go.BinOp.andNot 3 (Go.Operand.tmp 30) (Go.Operand.tmp 34) 3, type := 3, pos := "chain.go:130", after := #[{ on := 7, ground := Go.Ground.data }, { on := 11, ground := Go.Ground.data }], guard := none }) (v := .int .i64 ((B2 : Nat) : Int)) rfl (by kernel_rfl) (by kernel_rfl) (by kernel_rfl) (fun _ _ _ h => h) (Or.inl ⟨by rfl, ?hy⟩) (by assumption) ?_
      case hy => (intro w9 hSw; (try dsimp only at hSw); go_simp <;> (first | with_reducible rfl | (simp; omega) | omega))
      try simp only [Act.put, List.setIfInBounds_toArray, List.set_cons_zero, List.set_cons_succ]
      refine wpAnyH_take (i := 13) (oi := { dst := some 36, op := Go.Op.indexAddr 22 (Go.Operand.tmp 29) (Go.Operand.tmp 35), type := 0, pos := "chain.go:130", after := #[{ on := 6, ground := Go.Ground.data }, { on := 12, ground := Go.Ground.data }], guard := none }) (v := ?_) rfl (by kernel_rfl) (by kernel_rfl) (by kernel_rfl) (fun _ _ _ h => h) (Or.inl ⟨by rfl, ?hy⟩) (by assumption) ?_
      case hy => (intro w9 hSw; (try dsimp only at hSw); go_simp; try with_reducible rfl)
      try simp only [Act.put, List.setIfInBounds_toArray, List.set_cons_zero, List.set_cons_succ]
      refine wpAnyH_take (i := 14) (oi := { dst := some 37, op := Go.Op.load 3 (Go.Operand.tmp 36), type := 3, pos := "chain.go:130", after := #[{ on := 13, ground := Go.Ground.data }], guard := none }) (v := ?_) rfl (by kernel_rfl) (by kernel_rfl) (by kernel_rfl) (fun _ _ _ h => h) (Or.inl ⟨by rfl, ?hy⟩) (by assumption) ?_
      case hy => (intro w9 hSw; (try dsimp only at hSw); go_simp; try with_reducible rfl)
      try simp only [Act.put, List.setIfInBounds_toArray, List.set_cons_zero, List.set_cons_succ]
      refine wpAnyH_take (i := 15) (oi := { dst := some 38, op := Go.Op.binOp Go.BinOp.add 3 (Go.Operand.const (Go.Value.int Go.IntKind.i64 1)) (Go.Operand.tmp 37) 3, type := 3, pos := "chain.go:130", after := #[{ on := 14, ground := Go.Ground.data }], guard := none }) (v := .int .i64 ((1 + A2 : Nat) : Int)) rfl (by kernel_rfl) (by kernel_rfl) (by kernel_rfl) (fun _ _ _ h => h) (Or.inl ⟨by rfl, ?hy⟩) (by assumption) ?_
      case hy => (intro w9 hSw; (try dsimp only at hSw); go_simp <;> (first | with_reducible rfl | (simp; omega) | omega))
      try simp only [Act.put, List.setIfInBounds_toArray, List.set_cons_zero, List.set_cons_succ]
      refine wpAnyH_take (i := 16) (oi := { dst := some 39, op := Go.Op.call { callee := Go.Callee.builtin Go.Builtin.max, args := #[Go.Operand.tmp 28, Go.Operand.tmp 38], argTypes := #[3, 3] }, type := 3, pos := "chain.go:130", after := #[{ on := 5, ground := Go.Ground.data }, { on := 15, ground := Go.Ground.data }], guard := none }) (v := .int .i64 ((max A1 (1 + A2) : Nat) : Int)) rfl (by kernel_rfl) (by kernel_rfl) (by kernel_rfl) (fun _ _ _ h => h) (Or.inl ⟨by rfl, ?hy⟩) (by assumption) ?_
      case hy => (intro w9 hSw; (try dsimp only at hSw); go_simp <;> (first | with_reducible rfl | (simp; omega) | omega))
      try simp only [Act.put, List.setIfInBounds_toArray, List.set_cons_zero, List.set_cons_succ]
      refine wpAnyH_take (i := 17) (oi := { dst := some 40, op := Go.Op.indexAddr 22 (Go.Operand.tmp 23) (Go.Operand.tmp 24), type := 0, pos := "chain.go:130", after := #[{ on := 0, ground := Go.Ground.data }, { on := 1, ground := Go.Ground.data }, { on := 0, ground := Go.Ground.phase }, { on := 1, ground := Go.Ground.phase }, { on := 2, ground := Go.Ground.phase }, { on := 3, ground := Go.Ground.phase }, { on := 4, ground := Go.Ground.phase }, { on := 5, ground := Go.Ground.phase }, { on := 6, ground := Go.Ground.phase }, { on := 7, ground := Go.Ground.phase }, { on := 8, ground := Go.Ground.phase }, { on := 9, ground := Go.Ground.phase }, { on := 10, ground := Go.Ground.phase }, { on := 11, ground := Go.Ground.phase }, { on := 12, ground := Go.Ground.phase }, { on := 13, ground := Go.Ground.phase }, { on := 14, ground := Go.Ground.phase }, { on := 15, ground := Go.Ground.phase }, { on := 16, ground := Go.Ground.phase }], guard := none }) (v := ?_) rfl (by kernel_rfl) (by kernel_rfl) (by kernel_rfl) (fun _ _ _ h => h) (Or.inl ⟨by rfl, ?hy⟩) (by assumption) ?_
      case hy => (intro w9 hSw; (try dsimp only at hSw); go_simp; try with_reducible rfl)
      try simp only [Act.put, List.setIfInBounds_toArray, List.set_cons_zero, List.set_cons_succ]
      refine wpAnyH_ready (rs := [18]) (by kernel_rfl) (by simp) ?_
      refine AllReadyH.cons (o := { dst := none, op := Go.Op.store 3 (Go.Operand.tmp 40) (Go.Operand.tmp 39), type := 0, pos := "chain.go:130", after := #[{ on := 17, ground := Go.Ground.data }, { on := 16, ground := Go.Ground.data }, { on := 0, ground := Go.Ground.phase }, { on := 1, ground := Go.Ground.phase }, { on := 2, ground := Go.Ground.phase }, { on := 3, ground := Go.Ground.phase }, { on := 4, ground := Go.Ground.phase }, { on := 5, ground := Go.Ground.phase }, { on := 6, ground := Go.Ground.phase }, { on := 7, ground := Go.Ground.phase }, { on := 8, ground := Go.Ground.phase }, { on := 9, ground := Go.Ground.phase }, { on := 10, ground := Go.Ground.phase }, { on := 11, ground := Go.Ground.phase }, { on := 12, ground := Go.Ground.phase }, { on := 13, ground := Go.Ground.phase }, { on := 14, ground := Go.Ground.phase }, { on := 15, ground := Go.Ground.phase }, { on := 16, ground := Go.Ground.phase }], guard := none }) rfl (fun K hK => ?_) AllReadyH.nil
      go_simp
      refine hK.out _ _ ?_ (fun hHeld => ?_)
      · exact KST.out
      clear hK K
      try simp only [Act.put, List.setIfInBounds_toArray, List.set_cons_zero, List.set_cons_succ]
      refine wpAnyH_done (by kernel_rfl) ?_ _
      try simp only [Act.put, List.setIfInBounds_toArray, List.set_cons_zero, List.set_cons_succ]
      have HO4 : Hid (Own (wr.drew.setCell ⟨w.heap.size, u, none⟩ (.int .i64 (max A1 (1 + A2) : Nat))) w.heap.size P (upTo0 (frs F m) (u + 1))) := by rw [HNX.out]; exact HO3.out.set u _ hlt
      have HB4 : Hid (Below w.heap.size w (wr.drew.setCell ⟨w.heap.size, u, none⟩ (.int .i64 (max A1 (1 + A2) : Nat)))) := KST.out.1
      clear HO3 HO HB KK hHeld c1 c2 c3 f3 hc d0 d1 d2 d3 d4
      go_wp2_with fail
      go_roundw
      case rel => exact ⟨u + 1, by omega, by omega, by go_num, HO4.out, HB4.out⟩
      case measure => simp [intOf]; omega
    · obtain rfl : u = P := by omega
      have HFO : Hid (Own wr w.heap.size u (frs F m)) := HO.out.congr (fun i hi => by simp [upTo0, hi])
      go_wp2_with fail
      go_ret
      exact ⟨⟨rfl, HFO.out⟩, HB.out⟩
end Go.Proofs.YtadocffdneiaaaaDoor
