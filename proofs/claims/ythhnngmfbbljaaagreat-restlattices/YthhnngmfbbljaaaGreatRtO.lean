/-
  What hasselaw.own answers of rows that lie each in a block of its own: true; these rows alone are written over. Conditions: at most eighty rows of at most forty numbers, which may be written.
-/
import Derived.Deep.RegionHeld3
import Derived.Test.YthhnngmfbbljaaaGreatRtT
import Derived.Test.YthhnngmfbbljaaaGreatBuild
namespace Go.Proofs.YthhnngmfbbljaaaGreat
set_option maxRecDepth 100000
open Go.RowKit

def bkO (a : Option Addr) : Nat := match a with | some ad => ad.block | none => 0
theorem FRow.lone' {w : World} {K K' : Nat} {a : Option Addr} {n : Nat} {f : Nat → Int} (h : FRow w K K' a n f) : FRow w (bkO a) (bkO a + 1) a n f := fun k hk => by
  obtain ⟨b, rfl, _, h2⟩ := h k hk
  exact ⟨b, rfl, ⟨Nat.le_refl _, Nat.lt_succ_self _⟩, h2⟩
theorem FRow.ne {w w' : World} {K K' X : Nat} {a : Option Addr} {n : Nat} {f : Nat → Int} (h : FRow w K K' a n f) (hne : 0 < n → bkO a ≠ X) (ho : Off X (X + 1) w w') : FRow w' K K' a n f := fun k hk => by
  obtain ⟨b, rfl, hK, hc, hz⟩ := h k hk
  have hb : b ≠ X := hne (by omega)
  have hp := ho.2 ⟨b, k, none⟩ (by show b < X ∨ X + 1 ≤ b; omega)
  exact ⟨b, rfl, hK, hp.1 _ hc, hp.2 _ hc hz⟩
theorem Off.ofBelow {K K' : Nat} {w w' : World} (hb : Below w.heap.size w w') : Off K K' w w' :=
  ⟨hb.size, fun _ _ => ⟨fun _ hv => (hb.cell (World.block_lt_of_cell? _ _ hv)).trans hv, fun _ hv hf => (hb.frozen (World.block_lt_of_cell? _ _ hv)).trans hf⟩⟩
theorem Kp.ofBelow {w w' : World} (hb : Below w.heap.size w w') : Kp w w' :=
  ⟨fun _ _ _ hv => (hb.cell (World.block_lt_of_cell? _ _ hv)).trans hv, fun _ _ _ _ hw => hw.step hb⟩
theorem Spo.ofBelow {K K' : Nat} {w w' : World} (hb : Below w.heap.size w w') (hK : K ≤ w.heap.size) : Spo K K' w w' :=
  ⟨Off.ofBelow hb, fun _ h0 h => h.trans (hb.mono (Nat.le_trans h0 hK)), Kp.ofBelow hb⟩
/-- The rows that are handed in, from the k-th on. -/
structure OwL (w : World) (A B : Nat) (b off n q k : Nat) (S : Nat → Option Addr × Nat × Nat) (F : Nat → Nat → Int) : Prop where
  out : ∀ j, j < n → w.cell? ⟨b, off + j, none⟩ = some (.slice (S j).1 q (S j).2.2)
  row : ∀ j, k ≤ j → j < n → FRow w A B (S j).1 q (F j)
  wr : ∀ j, j < n → Wr w A B (S j).1 q
  ap : ∀ i j, i < n → j < n → i ≠ j → 0 < q → bkO (S i).1 ≠ bkO (S j).1
theorem OwL.below {w w' : World} {A B b off n q k : Nat} {S : Nat → Option Addr × Nat × Nat} {F : Nat → Nat → Int} (h : OwL w A B b off n q k S F) (hb : Below w.heap.size w w') : OwL w' A B b off n q k S F :=
  ⟨fun j hj => (hb.cell (World.block_lt_of_cell? _ _ (h.out j hj))).trans (h.out j hj), fun j h1 h2 => (h.row j h1 h2).step hb, fun j hj => (h.wr j hj).step hb, h.ap⟩
theorem OwL.next {w w' : World} {A B b off n q k : Nat} {S : Nat → Option Addr × Nat × Nat} {F : Nat → Nat → Int} (h : OwL w A B b off n q k S F) (hk : k < n) (hs : Spo (bkO (S k).1) (bkO (S k).1 + 1) w w') : OwL w' A B b off n q (k + 1) S F :=
  ⟨fun j hj => hs.2.2.1 _ _ (fun _ _ e => by cases e) (h.out j hj), fun j h1 h2 => (h.row j (by omega) h2).ne (fun h0 => h.ap j k h2 hk (by omega) h0) hs.1, fun j hj => hs.2.2.2 _ _ _ _ (h.wr j hj), h.ap⟩
/-- What was: the twins, from the k-th on. -/
structure OwW (w : World) (K : Nat) (b n q k : Nat) (S : Nat → Option Addr × Nat × Nat) (F : Nat → Nat → Int) : Prop where
  out : ∀ j, j < n → w.cell? ⟨b, j, none⟩ = some (.slice (S j).1 q (S j).2.2)
  row : ∀ j, k ≤ j → j < n → ∃ U, FRow w K U (S j).1 q (F j)
theorem OwW.below {w w' : World} {K b n q k : Nat} {S : Nat → Option Addr × Nat × Nat} {F : Nat → Nat → Int} (h : OwW w K b n q k S F) (hb : Below w.heap.size w w') : OwW w' K b n q k S F :=
  ⟨fun j hj => (hb.cell (World.block_lt_of_cell? _ _ (h.out j hj))).trans (h.out j hj), fun j h1 h2 => by obtain ⟨U, hU⟩ := h.row j h1 h2; exact ⟨U, hU.step hb⟩⟩
theorem OwW.next {w w' : World} {K b n q k X : Nat} {S : Nat → Option Addr × Nat × Nat} {F : Nat → Nat → Int} (h : OwW w K b n q k S F) (hX : X < K) (hs : Spo X (X + 1) w w') : OwW w' K b n q (k + 1) S F :=
  ⟨fun j hj => hs.2.2.1 _ _ (fun _ _ e => by cases e) (h.out j hj), fun j h1 h2 => by obtain ⟨U, hU⟩ := h.row j (by omega) h2; exact ⟨U, hU.off (by omega) hs.1⟩⟩

set_option maxHeartbeats 2000000 in
theorem own_any (A B b off n q cap : Nat) (S : Nat → Option Addr × Nat × Nat) (F : Nat → Nat → Int) (w : World) (hn : n ≤ 80) (hq : q ≤ 40) (hq0 : 0 < n → 0 < q) (hB : B ≤ w.heap.size) (hAB : A ≤ B) (h : OwL w A B b off n q 0 S F) (hl : ∀ k, k < n → (S k).2.1 = q) :
    Calls Tryz.prog 18 #[.slice (some ⟨b, off, none⟩) n cap] w fun e w' => e = .returned (.bool true) ∧ Spo A B w w' := by
  have hqm : q ≤ maxLen := by unfold maxLen; omega
  have HR0 : RR w (some ⟨b, off, none⟩) n S F := fun k hk => ⟨b, off, rfl, by rw [hl k hk]; exact h.out k hk, by rw [hl k hk]; unfold maxLen; omega, by rw [hl k hk]; exact (h.row k (Nat.zero_le _) hk).row⟩
  have HTW : Hid (Calls Tryz.prog 9 #[.slice (some ⟨b, off, none⟩) n cap] w fun e w' => (∃ a' cap' S', e = .returned (.slice a' n cap') ∧ Tws w' w.heap.size a' n S' (fun k => (S k).2.1) F) ∧ Below w.heap.size w w') := twins_any _ n cap S F w (by omega) (fun k hk => by rw [hl k hk]; omega) HR0
  have HO : Hid (OwL w A B b off n q 0 S F) := h
  have HLQ : Hid (∀ k, k < n → (S k).2.1 = q) := hl
  clear h HR0 hl
  go_enter Tryz.func18, Tryz.ntmps18
  go_wp2_with fail
  refine HTW.out.mono ?_
  rintro e w1 ⟨⟨a1, cap1, S1, rfl, ht⟩, hb⟩
  obtain ⟨b1, HW1⟩ : ∃ b1, Hid ((0 < n → a1 = some ⟨b1, 0, none⟩) ∧ OwW w1 w.heap.size b1 n q 0 S1 F) := by
    rcases Nat.eq_zero_or_pos n with h0 | h0
    · exact ⟨0, fun h => by omega, ⟨fun j hj => by omega, fun j _ hj => by omega⟩⟩
    · obtain ⟨⟨b1, e1, _, _⟩, _⟩ := ht 0 h0
      refine ⟨b1, fun _ => e1, ⟨fun j hj => ?_, fun j _ hj => ?_⟩⟩
      · obtain ⟨⟨b2, e2, _, h2⟩, h3, _⟩ := ht j hj
        rw [e1] at e2
        injection e2 with e2
        injection e2 with e3 _
        rw [e3, h2, show (S1 j).2.1 = q from Eq.trans h3 (HLQ.out j hj)]
      · obtain ⟨_, h3, h4⟩ := ht j hj
        have h5 : FRow w1 w.heap.size w1.heap.size (S1 j).1 (S j).2.1 (F j) := h4
        rw [HLQ.out j hj] at h5
        exact ⟨_, h5⟩
  have HA1 : Hid (0 < n → a1 = some ⟨b1, 0, none⟩) := HW1.out.1
  have HWW : Hid (OwW w1 w.heap.size b1 n q 0 S1 F) := HW1.out.2
  have HO1 : Hid (OwL w1 A B b off n q 0 S F) := HO.out.below hb
  have HS1 : Hid (Spo A B w w1) := Spo.ofBelow hb (Nat.le_trans hAB hB)
  clear ht hb HW1 HO HTW
  go_wp2_with fail
  go_loopw [4] (fun i wx => ∃ k : Nat, k ≤ n ∧ i = .int .i64 k ∧ Hid (OwL wx A B b off n q k S F) ∧ Hid (OwW wx w.heap.size b1 n q k S1 F) ∧ Hid (Spo A B w wx)) (fun i _ => n - (intOf i).toNat)
  case atStart => exact ⟨0, Nat.zero_le _, rfl, HO1.out, HWW.out, HS1.out⟩
  case round =>
    clear HO1 HWW HS1
    obtain ⟨k, hk, rfl, HO, HW, HS⟩ := hrel
    by_cases hkn : k < n
    · obtain rfl : a1 = some ⟨b1, 0, none⟩ := HA1.out (by omega)
      have hkI : (k : Int) < (n : Int) := by omega
      have hl1 : ∀ w', Below wr.heap.size wr w' → w'.cell? ⟨b, off + k, none⟩ = some (.slice (S k).1 q (S k).2.2) := fun w' hb => (HO.out.below hb).out k hkn
      have hl2 : ∀ w', Below wr.heap.size wr w' → w'.cell? ⟨b1, k, none⟩ = some (.slice (S1 k).1 q (S1 k).2.2) := fun w' hb => (HW.out.below hb).out k hkn
      have HR1 : Hid (∀ w', Below wr.heap.size wr w' → Row w' (S k).1 q (F k)) := fun w' hb => ((HO.out.below hb).row k (Nat.le_refl _) hkn).row
      have HR2 : Hid (∀ w', Below wr.heap.size wr w' → Row w' (S1 k).1 q (F k)) := fun w' hb => by obtain ⟨U, hU⟩ := (HW.out.below hb).row k (Nat.le_refl _) hkn; exact hU.row
      obtain ⟨r1, E1⟩ : ∃ r, Hid (r = (S k).1) := ⟨_, rfl⟩
      obtain ⟨c1, E2⟩ : ∃ r, Hid (r = (S k).2.2) := ⟨_, rfl⟩
      obtain ⟨r2, E3⟩ : ∃ r, Hid (r = (S1 k).1) := ⟨_, rfl⟩
      obtain ⟨c2, E4⟩ : ∃ r, Hid (r = (S1 k).2.2) := ⟨_, rfl⟩
      rw [← E1.out] at HR1
      rw [← E3.out] at HR2
      simp only [← E1.out, ← E2.out] at hl1
      simp only [← E3.out, ← E4.out] at hl2
      go_wp2_with fail
      refine wp_region_held_drew (S := (fun w' => Below wr.heap.size wr w')) (by kernel_rfl) ((Below.refl _ _).drew) (fun hHeld => ?_)
      refine wpAnyH_take (i := 0) (oi := { dst := some 13, op := Go.Op.move (Go.Operand.tmp 0), type := 25, pos := "memory.go:48", after := #[], guard := none }) (v := ?_) rfl (by kernel_rfl) (by kernel_rfl) (by kernel_rfl) (fun _ _ _ h => h) (Or.inl ⟨by rfl, ?hy⟩) (by assumption) ?_
      case hy => (intro w9 hSw; (try dsimp only at hSw); go_simp; try with_reducible rfl)
      try simp only [Act.put, List.setIfInBounds_toArray, List.set_cons_zero, List.set_cons_succ]
      refine wpAnyH_take (i := 1) (oi := { dst := some 14, op := Go.Op.move (Go.Operand.tmp 4), type := 3, pos := "memory.go:48", after := #[], guard := none }) (v := ?_) rfl (by kernel_rfl) (by kernel_rfl) (by kernel_rfl) (fun _ _ _ h => h) (Or.inl ⟨by rfl, ?hy⟩) (by assumption) ?_
      case hy => (intro w9 hSw; (try dsimp only at hSw); go_simp; try with_reducible rfl)
      try simp only [Act.put, List.setIfInBounds_toArray, List.set_cons_zero, List.set_cons_succ]
      refine wpAnyH_take (i := 2) (oi := { dst := some 15, op := Go.Op.indexAddr 25 (Go.Operand.tmp 13) (Go.Operand.tmp 14), type := 0, pos := "memory.go:48", after := #[{ on := 0, ground := Go.Ground.data }, { on := 1, ground := Go.Ground.data }], guard := none }) (v := ?_) rfl (by kernel_rfl) (by kernel_rfl) (by kernel_rfl) (fun _ _ _ h => h) (Or.inl ⟨by rfl, ?hy⟩) (by assumption) ?_
      case hy => (intro w9 hSw; (try dsimp only at hSw); go_simp; try with_reducible rfl)
      try simp only [Act.put, List.setIfInBounds_toArray, List.set_cons_zero, List.set_cons_succ]
      refine wpAnyH_take (i := 3) (oi := { dst := some 16, op := Go.Op.load 22 (Go.Operand.tmp 15), type := 22, pos := "memory.go:48", after := #[{ on := 2, ground := Go.Ground.data }], guard := none }) (v := ?_) rfl (by kernel_rfl) (by kernel_rfl) (by kernel_rfl) (fun _ _ _ h => h) (Or.inl ⟨by rfl, ?hy⟩) (by assumption) ?_
      case hy => (intro w9 hSw; (try dsimp only at hSw); go_simp; try with_reducible rfl)
      try simp only [Act.put, List.setIfInBounds_toArray, List.set_cons_zero, List.set_cons_succ]
      refine wpAnyH_take (i := 4) (oi := { dst := some 17, op := Go.Op.move (Go.Operand.tmp 3), type := 25, pos := "memory.go:48", after := #[], guard := none }) (v := ?_) rfl (by kernel_rfl) (by kernel_rfl) (by kernel_rfl) (fun _ _ _ h => h) (Or.inl ⟨by rfl, ?hy⟩) (by assumption) ?_
      case hy => (intro w9 hSw; (try dsimp only at hSw); go_simp; try with_reducible rfl)
      try simp only [Act.put, List.setIfInBounds_toArray, List.set_cons_zero, List.set_cons_succ]
      refine wpAnyH_take (i := 5) (oi := { dst := some 18, op := Go.Op.move (Go.Operand.tmp 4), type := 3, pos := "memory.go:48", after := #[], guard := none }) (v := ?_) rfl (by kernel_rfl) (by kernel_rfl) (by kernel_rfl) (fun _ _ _ h => h) (Or.inl ⟨by rfl, ?hy⟩) (by assumption) ?_
      case hy => (intro w9 hSw; (try dsimp only at hSw); go_simp; try with_reducible rfl)
      try simp only [Act.put, List.setIfInBounds_toArray, List.set_cons_zero, List.set_cons_succ]
      refine wpAnyH_take (i := 6) (oi := { dst := some 19, op := Go.Op.indexAddr 25 (Go.Operand.tmp 17) (Go.Operand.tmp 18), type := 0, pos := "memory.go:48", after := #[{ on := 4, ground := Go.Ground.data }, { on := 5, ground := Go.Ground.data }], guard := none }) (v := ?_) rfl (by kernel_rfl) (by kernel_rfl) (by kernel_rfl) (fun _ _ _ h => h) (Or.inl ⟨by rfl, ?hy⟩) (by assumption) ?_
      case hy => (intro w9 hSw; (try dsimp only at hSw); go_simp; try with_reducible rfl)
      try simp only [Act.put, List.setIfInBounds_toArray, List.set_cons_zero, List.set_cons_succ]
      refine wpAnyH_take (i := 7) (oi := { dst := some 20, op := Go.Op.load 22 (Go.Operand.tmp 19), type := 22, pos := "memory.go:48", after := #[{ on := 6, ground := Go.Ground.data }], guard := none }) (v := ?_) rfl (by kernel_rfl) (by kernel_rfl) (by kernel_rfl) (fun _ _ _ h => h) (Or.inl ⟨by rfl, ?hy⟩) (by assumption) ?_
      case hy => (intro w9 hSw; (try dsimp only at hSw); go_simp; try with_reducible rfl)
      try simp only [Act.put, List.setIfInBounds_toArray, List.set_cons_zero, List.set_cons_succ]
      refine wpAnyH_ready (rs := [8]) (by kernel_rfl) (by simp) ?_
      refine AllReadyH.cons (o := { dst := some 21, op := Go.Op.call { callee := Go.Callee.value (Go.Operand.func 25), args := #[Go.Operand.tmp 16, Go.Operand.tmp 20], argTypes := #[22, 22] }, type := 4, pos := "memory.go:48", after := #[{ on := 3, ground := Go.Ground.data }, { on := 7, ground := Go.Ground.data }], guard := none }) rfl (fun K hK => ?_) AllReadyH.nil
      go_simp
      refine (same_any r1 r2 q c1 q c2 (F k) (F k) _ hqm hqm (HR1.out _ (by assumption)) (HR2.out _ (by assumption))).mono ?_
      rintro e w1 ⟨⟨v, rfl, hv⟩, hb1⟩
      obtain rfl : v = true := hv.2 ⟨rfl, fun _ _ => rfl⟩
      refine hK.out _ _ ?_ (fun hHeld => ?_)
      · exact Below.then (by assumption) hb1
      clear hK K
      try simp only [Act.put, List.setIfInBounds_toArray, List.set_cons_zero, List.set_cons_succ]
      refine wpAnyH_take (i := 9) (oi := { dst := some 22, op := Go.Op.unOp Go.UnOp.not 4 (Go.Operand.tmp 21), type := 4, pos := "memory.go:48", after := #[{ on := 8, ground := Go.Ground.data }], guard := none }) (v := ?_) rfl (by kernel_rfl) (by kernel_rfl) (by kernel_rfl) (fun _ _ _ h => h) (Or.inl ⟨by rfl, ?hy⟩) (by assumption) ?_
      case hy => (intro w9 hSw; (try dsimp only at hSw); go_simp; try with_reducible rfl)
      try simp only [Act.put, List.setIfInBounds_toArray, List.set_cons_zero, List.set_cons_succ]
      refine wpAnyH_done (by kernel_rfl) ?_ _
      try simp only [Act.put, List.setIfInBounds_toArray, List.set_cons_zero, List.set_cons_succ]
      have HB9 : Hid (Below wr.heap.size wr w1) := by assumption
      have HO9 : Hid (OwL w1 A B b off n q k S F) := HO.out.below HB9.out
      have HW9 : Hid (OwW w1 w.heap.size b1 n q k S1 F) := HW.out.below HB9.out
      have HS9 : Hid (Spo A B w w1) := HS.out.then (Spo.ofBelow HB9.out (Nat.le_trans (Nat.le_trans hAB hB) HS.out.1.1))
      have HC : Hid (Calls Tryz.prog 14 #[.slice r1 q c1] w1 fun e w' => e = .returned (.tuple #[]) ∧ Spo (bkO (S k).1) (bkO (S k).1 + 1) w1 w') := by
        rw [E1.out, E2.out]
        exact spoil2_any _ _ _ _ _ w1 (by omega) (HO9.out.row k (Nat.le_refl _) hkn).lone'.wr
      have HBK : Hid (0 < q → A ≤ bkO (S k).1 ∧ bkO (S k).1 < B) := fun h0 => by
        obtain ⟨b', e', h1, _⟩ := HO9.out.row k (Nat.le_refl _) hkn 0 h0
        rw [e']; exact h1
      have hl3 := HO9.out.out k hkn
      rw [← E1.out, ← E2.out] at hl3
      clear hl1 hl2 HR1 HR2 HB9 HO HW HS
      go_wp2_with fail
      refine HC.out.mono ?_
      rintro e w2 ⟨rfl, hs⟩
      have hbk := HBK.out (hq0 (by omega))
      have HO2 : Hid (OwL w2 A B b off n q (k + 1) S F) := HO9.out.next hkn hs
      have HW2 : Hid (OwW w2 w.heap.size b1 n q (k + 1) S1 F) := HW9.out.next (by omega) hs
      have HS2 : Hid (Spo A B w w2) := HS9.out.then (hs.wide hbk.1 hbk.2)
      clear hs HC HO9 HW9 HS9 hl3
      go_wp2_with fail
      go_roundw
      case rel => exact ⟨k + 1, by omega, by go_num, HO2.out, HW2.out, HS2.out⟩
      case measure => simp [intOf]; omega
    · obtain rfl : k = n := by omega
      go_wp2_with fail
      go_ret
      exact ⟨rfl, HS.out⟩
end Go.Proofs.YthhnngmfbbljaaaGreat
