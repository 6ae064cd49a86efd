/-
  What heyting.Valid answers. Conditions: slices read as slices of rows, a value as a formula.
-/
import Derived.Deep.RegionHeld3
import Derived.Test.YtfkkjebgccnlnaaValV
import Derived.Test.YtfkkjebgccnlnaaVaM
import Derived.Test.YtfkkjebgccnlnaaThreeG
namespace Go.Proofs.Ytfkkjebgccnlnaa
set_option maxRecDepth 100000
open Go.RowKit

theorem ent_valid1 : Ent 15 := fun _ _ => rfl
theorem row3c (w : World) (x y z : Nat) : ∀ i, i < 3 → (w.alloc (.cells #[.int .i64 (x : Nat), .int .i64 (y : Nat), .int .i64 (z : Nat)] 3)).cell? ⟨w.heap.size, 0 + i, none⟩ = some (.int .i64 (v3 x y z i : Nat)) := fun i hi => by
  rcases (by omega : i = 0 ∨ i = 1 ∨ i = 2) with rfl | rfl | rfl <;> simp [v3]
theorem v3_lt {n x y z : Nat} (hx : x < n) (hy : y < n) (hz : z < n) : ∀ i, i < 3 → v3 x y z i < n := fun i _ => by
  unfold v3
  split
  · exact hx
  · split
    · exact hy
    · exact hz
theorem but_cell {A : Nat} {w w' : World} (h : But A w w') {B i : Nat} {v : Value} (hB : B ≠ A) (hc : w.cell? ⟨B, i, none⟩ = some v) : w'.cell? ⟨B, i, none⟩ = some v := (h.cell (p := ⟨B, i, none⟩) (World.block_lt_of_cell? _ _ hc) hB).trans hc
set_option maxHeartbeats 2000000 in
theorem valid1_any {w0 : World} {A n b off ca b' off' cb : Nat} {R R' : Nat → Nat × Nat × Nat} {m j : Nat → Nat → Nat} (B : Base w0 n b off b' off' R R' m j) (hA : A = w0.heap.size) {T : FT} (hT : cf T = 0) {k v : Int} {a : Option Addr} {l cap t Bp Bf Bg : Nat} {W6 W : World}
    (hf : FRep w0 T (.agg #[.int .i64 k, .int .i64 v, .slice a l cap])) (hp : Bp ≠ A) (hq : Bf ≠ A) (hg : Bg ≠ A) (hc : W6.cell? ⟨Bp, 0, none⟩ = some (.pointer (some ⟨A, 0, none⟩)))
    (hc0 : W6.cell? ⟨Bf, 0, none⟩ = some (.int .i64 k)) (hc1 : W6.cell? ⟨Bf, 1, none⟩ = some (.int .i64 v)) (hc2 : W6.cell? ⟨Bf, 2, none⟩ = some (.slice a l cap)) (hcg : W6.cell? ⟨Bg, 0, none⟩ = some (.int .i64 (t : Nat)))
    (hs : St w0 A n b off ca b' off' cb (imp n m j) W) (hb : But A W6 W) (x y z : Nat) (hx : x < n) (hy : y < n) (hz : z < n) :
    Calls Try.prog 15 #[.int .i64 (x : Nat), .int .i64 (y : Nat), .int .i64 (z : Nat), .pointer (some ⟨Bp, 0, none⟩), .pointer (some ⟨Bf, 0, none⟩), .pointer (some ⟨Bg, 0, none⟩)] W fun e w' => e = .returned (.bool (((val n m j (v3 x y z) T : Nat) : Int) != ((t : Nat) : Int))) ∧ St w0 A n b off ca b' off' cb (imp n m j) w' ∧ But A W6 w' := by
  have p0 : ∀ w', (St w0 A n b off ca b' off' cb (imp n m j) w' ∧ But A W6 w') → w'.cell? ⟨Bp, 0, none⟩ = some (.pointer (some ⟨A, 0, none⟩)) := fun w' h => but_cell h.2 hp hc
  have f0 : ∀ w', (St w0 A n b off ca b' off' cb (imp n m j) w' ∧ But A W6 w') → w'.cell? ⟨Bf, 0, none⟩ = some (.int .i64 k) := fun w' h => but_cell h.2 hq hc0
  have f1 : ∀ w', (St w0 A n b off ca b' off' cb (imp n m j) w' ∧ But A W6 w') → w'.cell? ⟨Bf, 1, none⟩ = some (.int .i64 v) := fun w' h => but_cell h.2 hq hc1
  have f2 : ∀ w', (St w0 A n b off ca b' off' cb (imp n m j) w' ∧ But A W6 w') → w'.cell? ⟨Bf, 2, none⟩ = some (.slice a l cap) := fun w' h => but_cell h.2 hq hc2
  have g0 : ∀ w', (St w0 A n b off ca b' off' cb (imp n m j) w' ∧ But A W6 w') → w'.cell? ⟨Bg, 0, none⟩ = some (.int .i64 (t : Nat)) := fun w' h => but_cell h.2 hg hcg
  have B1 : Below W.heap.size W (W.drew.alloc (.cells #[.int .i64 (x : Nat), .int .i64 (y : Nat), .int .i64 (z : Nat)] 3)) := ((Below.refl _ _).drew).alloc (by simp) _
  have hAW : A < W.heap.size := World.block_lt_of_cell? _ _ hs.lb.1
  have HVA : Hid _ := value_alg B hA (f := v3 x y z) (c := W.heap.size) (co := 0) (cc := 3) (by omega) (v3_lt hx hy hz) T _ (W.drew.alloc (.cells #[.int .i64 (x : Nat), .int .i64 (y : Nat), .int .i64 (z : Nat)] 3)) hT hf (hs.step B1) (row3c W.drew x y z)
  have HBB : Hid (But A W6 (W.drew.alloc (.cells #[.int .i64 (x : Nat), .int .i64 (y : Nat), .int .i64 (z : Nat)] 3))) := hb.trans (But.of B1)
  have HSB : Hid (St w0 A n b off ca b' off' cb (imp n m j) (W.drew.alloc (.cells #[.int .i64 (x : Nat), .int .i64 (y : Nat), .int .i64 (z : Nat)] 3))) := hs.step B1
  have KK : St w0 A n b off ca b' off' cb (imp n m j) W.drew ∧ But A W6 W.drew := ⟨hs.step (Below.refl _ _).drew, hb.trans (But.drew A W)⟩
  clear hb hc hc0 hc1 hc2 hcg hs B1 B hA hf hT hp hq hg hx hy hz hAW
  go_enter Try.func15, Try.ntmps15
  go_wp2_with fail
  refine wp_region_held_drew (S := (fun w' => St w0 A n b off ca b' off' cb (imp n m j) w' ∧ But A W6 w')) (by kernel_rfl) (KK) (fun hHeld => ?_)
  refine wpAnyH_take (i := 0) (oi := { dst := some 10, op := Go.Op.load 43 (Go.Operand.tmp 3), type := 43, pos := "heyting.go:64", after := #[], guard := none }) (v := ?_) rfl (by kernel_rfl) (by kernel_rfl) (by kernel_rfl) (fun _ _ _ h => h) (Or.inl ⟨by rfl, ?hy⟩) (by assumption) ?_
  case hy => (intro w9 hSw; (try dsimp only at hSw); go_simp; try with_reducible rfl)
  try simp only [Act.put, List.setIfInBounds_toArray, List.set_cons_zero, List.set_cons_succ]
  refine wpAnyH_take (i := 1) (oi := { dst := some 11, op := Go.Op.makeInterface 43 (Go.Operand.tmp 10), type := 76, pos := "heyting.go:64", after := #[{ on := 0, ground := Go.Ground.data }], guard := none }) (v := ?_) rfl (by kernel_rfl) (by kernel_rfl) (by kernel_rfl) (fun _ _ _ h => h) (Or.inl ⟨by rfl, ?hy⟩) (by assumption) ?_
  case hy => (intro w9 hSw; (try dsimp only at hSw); go_simp; try with_reducible rfl)
  try simp only [Act.put, List.setIfInBounds_toArray, List.set_cons_zero, List.set_cons_succ]
  refine wpAnyH_take (i := 2) (oi := { dst := some 12, op := Go.Op.load 27 (Go.Operand.tmp 4), type := 27, pos := "heyting.go:64", after := #[], guard := none }) (v := ?_) rfl (by kernel_rfl) (by kernel_rfl) (by kernel_rfl) (fun _ _ _ h => h) (Or.inl ⟨by rfl, ?hy⟩) (by assumption) ?_
  case hy => (intro w9 hSw; (try dsimp only at hSw); go_simp; try with_reducible rfl)
  try simp only [Act.put, List.setIfInBounds_toArray, List.set_cons_zero, List.set_cons_succ]
  refine wpAnyH_take (i := 3) (oi := { dst := some 13, op := Go.Op.move (Go.Operand.tmp 0), type := 3, pos := "heyting.go:64", after := #[], guard := none }) (v := ?_) rfl (by kernel_rfl) (by kernel_rfl) (by kernel_rfl) (fun _ _ _ h => h) (Or.inl ⟨by rfl, ?hy⟩) (by assumption) ?_
  case hy => (intro w9 hSw; (try dsimp only at hSw); go_simp; try with_reducible rfl)
  try simp only [Act.put, List.setIfInBounds_toArray, List.set_cons_zero, List.set_cons_succ]
  refine wpAnyH_take (i := 4) (oi := { dst := some 14, op := Go.Op.move (Go.Operand.tmp 1), type := 3, pos := "heyting.go:64", after := #[], guard := none }) (v := ?_) rfl (by kernel_rfl) (by kernel_rfl) (by kernel_rfl) (fun _ _ _ h => h) (Or.inl ⟨by rfl, ?hy⟩) (by assumption) ?_
  case hy => (intro w9 hSw; (try dsimp only at hSw); go_simp; try with_reducible rfl)
  try simp only [Act.put, List.setIfInBounds_toArray, List.set_cons_zero, List.set_cons_succ]
  refine wpAnyH_take (i := 5) (oi := { dst := some 15, op := Go.Op.move (Go.Operand.tmp 2), type := 3, pos := "heyting.go:64", after := #[], guard := none }) (v := ?_) rfl (by kernel_rfl) (by kernel_rfl) (by kernel_rfl) (fun _ _ _ h => h) (Or.inl ⟨by rfl, ?hy⟩) (by assumption) ?_
  case hy => (intro w9 hSw; (try dsimp only at hSw); go_simp; try with_reducible rfl)
  try simp only [Act.put, List.setIfInBounds_toArray, List.set_cons_zero, List.set_cons_succ]
  refine wpAnyH_take (i := 8) (oi := { dst := some 18, op := Go.Op.load 3 (Go.Operand.tmp 5), type := 3, pos := "heyting.go:64", after := #[], guard := none }) (v := ?_) rfl (by kernel_rfl) (by kernel_rfl) (by kernel_rfl) (fun _ _ _ h => h) (Or.inl ⟨by rfl, ?hy⟩) (by assumption) ?_
  case hy => (intro w9 hSw; (try dsimp only at hSw); go_simp; try with_reducible rfl)
  try simp only [Act.put, List.setIfInBounds_toArray, List.set_cons_zero, List.set_cons_succ]
  refine wpAnyH_ready (rs := [6]) (by kernel_rfl) (by simp) ?_
  refine AllReadyH.cons (o := { dst := some 16, op := Go.Op.buildSlice 37 3 #[(0, Go.Operand.tmp 13), (1, Go.Operand.tmp 14), (2, Go.Operand.tmp 15)], type := 37, pos := "heyting.go:64", after := #[{ on := 3, ground := Go.Ground.data }, { on := 4, ground := Go.Ground.data }, { on := 5, ground := Go.Ground.data }], guard := none }) rfl (fun K hK => ?_) AllReadyH.nil
  go_simp
  skip
  refine hK.out _ _ ?_ (fun hHeld => ?_)
  · first | exact ⟨HSB.out, HBB.out⟩ | exact ⟨hs7, HBB.out.trans hb7⟩
  clear hK K
  try simp only [Act.put, List.setIfInBounds_toArray, List.set_cons_zero, List.set_cons_succ]
  refine wpAnyH_ready (rs := [7]) (by kernel_rfl) (by simp) ?_
  refine AllReadyH.cons (o := { dst := some 17, op := Go.Op.call { callee := Go.Callee.value (Go.Operand.func 16), args := #[Go.Operand.tmp 11, Go.Operand.tmp 12, Go.Operand.tmp 16], argTypes := #[76, 27, 37] }, type := 3, pos := "heyting.go:64", after := #[{ on := 1, ground := Go.Ground.data }, { on := 2, ground := Go.Ground.data }, { on := 6, ground := Go.Ground.data }], guard := none }) rfl (fun K hK => ?_) AllReadyH.nil
  go_simp
  refine (Calls.mono HVA.out) ?_
  rintro e w7 ⟨rfl, hs7, hb7⟩
  refine hK.out _ _ ?_ (fun hHeld => ?_)
  · first | exact ⟨HSB.out, HBB.out⟩ | exact ⟨hs7, HBB.out.trans hb7⟩
  clear hK K
  try simp only [Act.put, List.setIfInBounds_toArray, List.set_cons_zero, List.set_cons_succ]
  refine wpAnyH_take (i := 9) (oi := { dst := some 19, op := Go.Op.binOp Go.BinOp.neq 3 (Go.Operand.tmp 17) (Go.Operand.tmp 18) 3, type := 4, pos := "heyting.go:64", after := #[{ on := 7, ground := Go.Ground.data }, { on := 8, ground := Go.Ground.data }], guard := none }) (v := ?_) rfl (by kernel_rfl) (by kernel_rfl) (by kernel_rfl) (fun _ _ _ h => h) (Or.inl ⟨by rfl, ?hy⟩) (by assumption) ?_
  case hy => (intro w9 hSw; (try dsimp only at hSw); go_simp; try with_reducible rfl)
  try simp only [Act.put, List.setIfInBounds_toArray, List.set_cons_zero, List.set_cons_succ]
  refine wpAnyH_take (i := 10) (oi := { dst := some 9, op := Go.Op.assign (Go.Operand.tmp 19), type := 4, pos := "heyting.go:64", after := #[{ on := 9, ground := Go.Ground.data }, { on := 7, ground := Go.Ground.chain }, { on := 0, ground := Go.Ground.phase }, { on := 1, ground := Go.Ground.phase }, { on := 2, ground := Go.Ground.phase }, { on := 3, ground := Go.Ground.phase }, { on := 4, ground := Go.Ground.phase }, { on := 5, ground := Go.Ground.phase }, { on := 6, ground := Go.Ground.phase }, { on := 7, ground := Go.Ground.phase }, { on := 8, ground := Go.Ground.phase }, { on := 9, ground := Go.Ground.phase }], guard := none }) (v := ?_) rfl (by kernel_rfl) (by kernel_rfl) (by kernel_rfl) (fun _ _ _ h => h) (Or.inl ⟨by rfl, ?hy⟩) (by assumption) ?_
  case hy => (intro w9 hSw; (try dsimp only at hSw); go_simp; try with_reducible rfl)
  try simp only [Act.put, List.setIfInBounds_toArray, List.set_cons_zero, List.set_cons_succ]
  refine wpAnyH_done (by kernel_rfl) ?_ _
  try simp only [Act.put, List.setIfInBounds_toArray, List.set_cons_zero, List.set_cons_succ]
  have HE : Hid (St w0 A n b off ca b' off' cb (imp n m j) w7 ∧ But A W6 w7) := hHeld
  clear hHeld p0 f0 f1 f2 g0 HVA HBB HSB hs7 hb7
  go_wp2_with fail
  go_ret
  exact ⟨rfl, HE.out⟩
/-- What the error must be. -/
def VdCk (L : LA) (T : FT) (c : Int) : Prop := (c ≠ 0 ∧ HCk L c) ∨ (HCk L 0 ∧ ((c ≠ 0 ∧ c = chkF T) ∨ (chkF T = 0 ∧ ((c = 2 ∧ 16 < L.n) ∨ (c = 0 ∧ L.n ≤ 16)))))
def Always3 (L : LA) (T : FT) : Prop := ∀ x y z, x < L.q → y < L.q → z < L.q → val L.q L.m L.j (v3 x y z) T = en L.j L.q
def VdPost (L : LA) (T : FT) (ok : Bool) (c : Int) : Prop := VdCk L T c ∧ ((c ≠ 0 ∧ ok = false) ∨ (c = 0 ∧ (ok = true ↔ Always3 L T)))
theorem bel_one (w : World) (o : Obj) : Below w.heap.size w (w.alloc o) := (Below.refl _ _).alloc (Nat.le_refl _) o
set_option maxHeartbeats 4000000 in
theorem validX_any (L : LA) (T : FT) (v : Value) (w : World) (hL : L.In w) (hf : FRep w T v) :
    Calls Try.prog 5 #[.agg #[.int .i64 L.n, .slice L.a L.la L.ca, .slice L.b L.lb L.cb], v] w fun e w' => (∃ ok c, VdPost L T ok c ∧ e = .returned (.tuple #[.bool ok, .int .i64 c])) ∧ Below w.heap.size w w' := by
  obtain ⟨k, x, a, l, cap, rfl⟩ := hf.form
  obtain ⟨W, hW⟩ : ∃ W, W = (w.alloc (.cells #[.int .i64 L.n, .slice L.a L.la L.ca, .slice L.b L.lb L.cb] 24)).alloc (.cells #[.int .i64 k, .int .i64 x, .slice a l cap] 27) := ⟨_, rfl⟩
  have B1 : Below w.heap.size w W := by rw [hW]; exact ((Below.refl _ _).alloc (Nat.le_refl _) _).alloc (by simp) _
  have HLF : Hid (LF W w.heap.size L k x a l cap) := by rw [hW]; exact ⟨⟨by simp, by simp, by simp⟩, by simp, by simp, by simp⟩
  have HI : Hid (∀ w', Below w.heap.size w w' → L.In w') := fun w' h => hL.step h
  have HFR : Hid (∀ w', Below w.heap.size w w' → FRep w' T (.agg #[.int .i64 k, .int .i64 x, .slice a l cap])) := fun w' h => FRep.step h _ _ hf
  have HB1 : Hid (Below w.heap.size w W) := B1
  have HW : Hid (W = (w.alloc (.cells #[.int .i64 L.n, .slice L.a L.la L.ca, .slice L.b L.lb L.cb] 24)).alloc (.cells #[.int .i64 k, .int .i64 x, .slice a l cap] 27)) := hW
  have HWS : Hid (W.heap.size = w.heap.size + 2) := by rw [hW]; simp [Hid]
  obtain ⟨⟨l0, l1, l2⟩, f0, f1, f2⟩ := HLF.out
  clear B1 hL hf hW
  go_enter Try.func5, Try.ntmps5
  go_wp2_with fail
  rw [← HW.out]
  clear HW
  refine (algebraOf_any L W (HI.out _ HB1.out)).mono ?_
  rintro e w1 ⟨c, hc, ⟨h0, rfl, hb1⟩ | ⟨rfl, w0, A, b, off, b', off', rfl, hN⟩⟩
  · have HB2 : Hid (Below w.heap.size w (w1.alloc (.cells #[.pointer none] 43))) := Below.then (Below.then HB1.out hb1) (bel_one _ _)
    have HC : Hid (HCk L c) := hc
    have hne : (c != 0) = true := by simpa using h0
    clear hb1 HB1 hc HI HLF l0 l1 l2 f0 f1 f2
    go_wp2_with fail
    go_ret2
    exact ⟨⟨false, c, ⟨.inl ⟨h0, HC.out⟩, .inl ⟨h0, rfl⟩⟩, rfl⟩, HB2.out⟩
  · have HC : Hid (HCk L 0) := hc
    have bP := bel_one w1 (.cells #[.pointer (some ⟨A, 0, none⟩)] 43)
    have HB2 : Hid (Below w.heap.size w (w1.alloc (.cells #[.pointer (some ⟨A, 0, none⟩)] 43))) := Below.then (Below.then HB1.out hN.below0) bP
    have HN : Hid (NewA L W w0 w1 A b off b' off') := hN
    have HL1 : Hid (LF (w1.alloc (.cells #[.pointer (some ⟨A, 0, none⟩)] 43)) w.heap.size L k x a l cap) := (HLF.out.step hN.below0).step bP
    have HS1 : Hid (St w0 A L.q b off L.ca b' off' L.cb (imp L.q L.m L.j) (w1.alloc (.cells #[.pointer (some ⟨A, 0, none⟩)] 43))) := .inl (hN.alg.step bP)
    have HP1 : Hid ((w1.alloc (.cells #[.pointer (some ⟨A, 0, none⟩)] 43)).cell? ⟨w1.heap.size, 0, none⟩ = some (.pointer (some ⟨A, 0, none⟩))) := by simp [Hid]
    have HA1 : Hid (A < w1.heap.size) := World.block_lt_of_cell? _ _ hN.alg.lb.1
    have HA0 : Hid (w.heap.size + 2 ≤ A) := by
      have e1 := hN.ha
      have e2 := hN.bel.size
      have e3 := HWS.out
      show _ ≤ _
      omega
    clear hN hc HLF l0 l1 l2 f0 f1 f2 bP
    obtain ⟨⟨l0, l1, l2⟩, f0, f1, f2⟩ := HL1.out
    go_wp2_with fail
    refine (hCheck_any T _ _ (HFR.out _ HB2.out)).mono ?_
    rintro e w2 ⟨rfl, hb2⟩
    have HB3 : Hid (Below w.heap.size w w2) := Below.then HB2.out hb2
    have HS2 : Hid (St w0 A L.q b off L.ca b' off' L.cb (imp L.q L.m L.j) w2) := HS1.out.step hb2
    have HL2 : Hid (LF w2 w.heap.size L k x a l cap) := HL1.out.step hb2
    have HP2 : Hid (w2.cell? ⟨w1.heap.size, 0, none⟩ = some (.pointer (some ⟨A, 0, none⟩))) := cell_step hb2 HP1.out
    clear hb2 HB2 HL1 l0 l1 l2 f0 f1 f2 HS1 HP1
    obtain ⟨⟨l0, l1, l2⟩, f0, f1, f2⟩ := HL2.out
    by_cases hck : chkF T = 0
    · have HCK : Hid (chkF T = 0) := hck
      rw [hck]
      clear hck
      by_cases h16 : 16 < L.n
      · go_wp2_with fail
        go_ret2
        exact ⟨⟨false, 2, ⟨.inr ⟨HC.out, .inr ⟨HCK.out, .inl ⟨rfl, h16⟩⟩⟩, .inl ⟨by omega, rfl⟩⟩, rfl⟩, HB3.out⟩
      · have HLE : Hid (L.n ≤ 16) := (show L.n ≤ 16 by omega)
        have hck0 : L.Ck 0 := by
          rcases HC.out with ⟨h, _⟩ | ⟨h, _⟩
          · exact absurd rfl h
          · exact h
        obtain ⟨hq1, hq40, hlat, hnq⟩ := LA.Ck.lat hck0
        obtain ⟨q, b1, o1, b2, o2, eq, e1, hla, e2, hlb, _, _, _, ht1, ht2⟩ := LCk.open hck0 (HI.out _ HB3.out).2.2.1 (HI.out _ HB3.out).2.2.2
        have hq : q = L.q := by unfold LA.q; omega
        subst hq
        have HEN : Hid _ := end_any L.q b2 o2 L.cb _ L.j w2 hq1 hq40 hlat.ij ht2
        rw [e2, ← hlb] at l2
        rw [hnq] at l0
        have h16' : ¬ (16 : Int) < (L.q : Nat) := by omega
        clear e1 hla e2 hlb ht1 ht2 eq h16
        go_wp2_with fail
        refine (Calls.mono HEN.out) ?_
        rintro e w3 ⟨rfl, hw3⟩
        subst w3
        have bG := bel_one w2 (.cells #[.int .i64 (en L.j L.q : Nat)] 3)
        have HB6 : Hid (Below w.heap.size w (w2.alloc (.cells #[.int .i64 (en L.j L.q : Nat)] 3))) := Below.then HB3.out bG
        have HS6 : Hid (St w0 A L.q b off L.ca b' off' L.cb (imp L.q L.m L.j) (w2.alloc (.cells #[.int .i64 (en L.j L.q : Nat)] 3))) := HS2.out.step bG
        have HP6 : Hid ((w2.alloc (.cells #[.int .i64 (en L.j L.q : Nat)] 3)).cell? ⟨w1.heap.size, 0, none⟩ = some (.pointer (some ⟨A, 0, none⟩))) := cell_step bG HP2.out
        have HG6 : Hid ((w2.alloc (.cells #[.int .i64 (en L.j L.q : Nat)] 3)).cell? ⟨w2.heap.size, 0, none⟩ = some (.int .i64 (en L.j L.q : Nat))) := by simp [Hid]
        have HL6 : Hid (LF (w2.alloc (.cells #[.int .i64 (en L.j L.q : Nat)] 3)) w.heap.size L k x a l cap) := HL2.out.step bG
        have HA2 : Hid (A < w2.heap.size) := World.block_lt_of_cell? _ _ HS2.out.lb.1
        have l06 := cell_step bG l0
        have HCL : Hid (CloG L.q 15 #[.pointer (some ⟨w1.heap.size, 0, none⟩), .pointer (some ⟨w.heap.size + 1, 0, none⟩), .pointer (some ⟨w2.heap.size, 0, none⟩)] (fun x y z => ((val L.q L.m L.j (v3 x y z) T : Nat) : Int) != ((en L.j L.q : Nat) : Int)) (fun W => St w0 A L.q b off L.ca b' off' L.cb (imp L.q L.m L.j) W ∧ But A (w2.alloc (.cells #[.int .i64 (en L.j L.q : Nat)] 3)) W)) := fun x y z hx hy hz W hG => by
          have a0 := HA0.out
          have a1 := HA1.out
          have a2 := HA2.out
          exact valid1_any HN.out.base HN.out.ha (chk_cf HCK.out) (HFR.out _ (Below.then HB1.out HN.out.bel)) (by omega) (by omega) (by omega) HP6.out HL6.out.2.1 HL6.out.2.2.1 HL6.out.2.2.2 HG6.out hG.1 hG.2 x y z hx hy hz
        clear bG HB3 HS2 HP2 HL2 HEN l0 l1 l2 f0 f1 f2
        go_wp2_with fail
        refine (threeG_any L.q _ _ _ _ _ hq40 ent_valid1 (fun W o h => ⟨h.1.step (bel_one _ _), h.2.trans (But.of (bel_one _ _))⟩) ⟨HS6.out, But.refl _ _⟩ HCL.out).mono ?_
        rintro e w7 ⟨⟨u, li, ok, rfl, hF, _⟩, _, hb7⟩
        have HB7 : Hid (Below w.heap.size w w7) := by
          have a0 := HA0.out
          have a2 := HA2.out
          exact HB6.out.trans ((hb7.below (by simp; omega)).mono (by omega))
        have HOK : Hid ((!ok) = true ↔ Always3 L T) := by
          rcases hF with ⟨rfl, x, y, z, ⟨hx, hy, hz⟩, hP, _⟩ | ⟨rfl, _, h⟩
          · refine ⟨fun h => (by cases h), fun h => ?_⟩
            dsimp only at hP
            rw [h x y z hx hy hz] at hP
            simp at hP
          · exact ⟨fun _ x y z hx hy hz => (by have := h x y z hx hy hz; simp at this; omega), fun _ => rfl⟩
        clear hF hb7 HCL HB6 HS6 HP6 HG6 HL6
        go_wp2_with fail
        go_ret2
        exact ⟨⟨!ok, 0, ⟨.inr ⟨HC.out, .inr ⟨HCK.out, .inr ⟨rfl, HLE.out⟩⟩⟩, .inr ⟨rfl, HOK.out⟩⟩, rfl⟩, HB7.out⟩
    · have HCK : Hid (chkF T ≠ 0) := hck
      have hne : (chkF T != 0) = true := by simpa using hck
      clear hck
      go_wp2_with fail
      go_ret2
      exact ⟨⟨false, chkF T, ⟨.inr ⟨HC.out, .inl ⟨HCK.out, rfl⟩⟩, .inl ⟨HCK.out, rfl⟩⟩, rfl⟩, HB3.out⟩
end Go.Proofs.Ytfkkjebgccnlnaa
