/-
  What the closure of the reference's ConceptLattice answers, and ConceptLattice. Conditions: forty concepts at most.
-/
import Derived.Deep.RegionHeld3
import Derived.Test.YtpmgengddnafeaaLofB
import Derived.Test.YtpmgengddnafeaaConLat
namespace Go.Proofs.Ytpmgengddnafeaa
open Go.RowKit

theorem ent_il : Ent 42 := fun _ _ => rfl
set_option maxHeartbeats 2000000 in
theorem il1_any (n C : Nat) (l : List Nat) (p : Nat → Int × Int) (pa : Option Addr) (pc : Nat) (w : World) (hC : w.cell? ⟨C, 0, none⟩ = some (.slice pa n pc)) (hr : PRow w pa n p) (hp : ∀ k, k < n → (p k).1 = ((nth l k : Nat) : Int)) (hs : ∀ k, k < n → nth l k < 1024) :
    Clo2 n 42 #[.pointer (some ⟨C, 0, none⟩)] (insB l) w := fun x y hx hy W hW => by
  show Calls Try.prog 42 #[.int .i64 (x : Nat), .int .i64 (y : Nat), .pointer (some ⟨C, 0, none⟩)] W fun e w' => e = .returned (.bool (lack (nth l x) (nth l y) == 0)) ∧ Below W.heap.size W w'
  obtain ⟨rb, ro, rfl, hcx, _⟩ := hr.below hW x hx
  rw [hp x hx] at hcx
  have hcy : W.cell? ⟨rb, ro + y * 2, none⟩ = some (.int .i64 (nth l y : Nat)) := by
    obtain ⟨rb', ro', e, h, _⟩ := hr.below hW y hy
    cases e; rw [← hp y hy]; exact h
  have hcC := cell_step hW hC
  have l3 : ∀ w', Below W.heap.size W w' → w'.cell? ⟨C, 0, none⟩ = some (.slice (some ⟨rb, ro, none⟩) n pc) := fun w' h => cell_step h hcC
  have l4 : ∀ w', Below W.heap.size W w' → w'.cell? ⟨rb, ro + x * 2, none⟩ = some (.int .i64 (nth l x : Nat)) := fun w' h => cell_step h hcx
  have l5 : ∀ w', Below W.heap.size W w' → w'.cell? ⟨rb, ro + y * 2, none⟩ = some (.int .i64 (nth l y : Nat)) := fun w' h => cell_step h hcy
  have sx := hs x hx
  have sy := hs y hy
  have ix : (x : Int) < (n : Int) := by omega
  have iy : (y : Int) < (n : Int) := by omega
  have KK : Below W.heap.size W W.drew := (Below.refl _ _).drew
  have HKK : Hid (Below W.heap.size W W.drew) := KK
  clear hW hC hr hs hcx hcy hcC hp
  go_enter Try.func42, Try.ntmps42
  go_wp2_with fail
  refine wp_region_held_drew (S := (fun w' => Below W.heap.size W w')) (by kernel_rfl) (KK) (fun hHeld => ?_)
  refine wpAnyH_take (i := 0) (oi := { dst := some 6, op := Go.Op.load 35 (Go.Operand.tmp 2), type := 35, pos := "fix.go:215", after := #[], guard := none }) (v := ?_) rfl (by kernel_rfl) (by kernel_rfl) (by kernel_rfl) (fun _ _ _ h => h) (Or.inl ⟨by rfl, ?hy⟩) (by assumption) ?_
  case hy => (intro w9 hSw; (try dsimp only at hSw); go_simp; try with_reducible rfl)
  try simp only [Act.put, List.setIfInBounds_toArray, List.set_cons_zero, List.set_cons_succ]
  refine wpAnyH_take (i := 1) (oi := { dst := some 7, op := Go.Op.move (Go.Operand.tmp 0), type := 3, pos := "fix.go:215", after := #[], guard := none }) (v := ?_) rfl (by kernel_rfl) (by kernel_rfl) (by kernel_rfl) (fun _ _ _ h => h) (Or.inl ⟨by rfl, ?hy⟩) (by assumption) ?_
  case hy => (intro w9 hSw; (try dsimp only at hSw); go_simp; try with_reducible rfl)
  try simp only [Act.put, List.setIfInBounds_toArray, List.set_cons_zero, List.set_cons_succ]
  refine wpAnyH_take (i := 2) (oi := { dst := some 8, op := Go.Op.indexAddr 35 (Go.Operand.tmp 6) (Go.Operand.tmp 7), type := 0, pos := "fix.go:215", after := #[{ on := 0, ground := Go.Ground.data }, { on := 1, ground := Go.Ground.data }], guard := none }) (v := ?_) rfl (by kernel_rfl) (by kernel_rfl) (by kernel_rfl) (fun _ _ _ h => h) (Or.inl ⟨by rfl, ?hy⟩) (by assumption) ?_
  case hy => (intro w9 hSw; (try dsimp only at hSw); go_simp; try with_reducible rfl)
  try simp only [Act.put, List.setIfInBounds_toArray, List.set_cons_zero, List.set_cons_succ]
  refine wpAnyH_take (i := 3) (oi := { dst := some 9, op := Go.Op.indexAddr 51 (Go.Operand.tmp 8) (Go.Operand.const (Go.Value.int Go.IntKind.i64 0)), type := 0, pos := "fix.go:215", after := #[{ on := 2, ground := Go.Ground.data }], guard := none }) (v := ?_) rfl (by kernel_rfl) (by kernel_rfl) (by kernel_rfl) (fun _ _ _ h => h) (Or.inl ⟨by rfl, ?hy⟩) (by assumption) ?_
  case hy => (intro w9 hSw; (try dsimp only at hSw); go_simp; try with_reducible rfl)
  try simp only [Act.put, List.setIfInBounds_toArray, List.set_cons_zero, List.set_cons_succ]
  refine wpAnyH_take (i := 4) (oi := { dst := some 10, op := Go.Op.load 3 (Go.Operand.tmp 9), type := 3, pos := "fix.go:215", after := #[{ on := 3, ground := Go.Ground.data }], guard := none }) (v := ?_) rfl (by kernel_rfl) (by kernel_rfl) (by kernel_rfl) (fun _ _ _ h => h) (Or.inl ⟨by rfl, ?hy⟩) (by assumption) ?_
  case hy => (intro w9 hSw; (try dsimp only at hSw); go_simp; try with_reducible rfl)
  try simp only [Act.put, List.setIfInBounds_toArray, List.set_cons_zero, List.set_cons_succ]
  refine wpAnyH_take (i := 5) (oi := { dst := some 11, op := Go.Op.load 35 (Go.Operand.tmp 2), type := 35, pos := "fix.go:215", after := #[], guard := none }) (v := ?_) rfl (by kernel_rfl) (by kernel_rfl) (by kernel_rfl) (fun _ _ _ h => h) (Or.inl ⟨by rfl, ?hy⟩) (by assumption) ?_
  case hy => (intro w9 hSw; (try dsimp only at hSw); go_simp; try with_reducible rfl)
  try simp only [Act.put, List.setIfInBounds_toArray, List.set_cons_zero, List.set_cons_succ]
  refine wpAnyH_take (i := 6) (oi := { dst := some 12, op := Go.Op.move (Go.Operand.tmp 1), type := 3, pos := "fix.go:215", after := #[], guard := none }) (v := ?_) rfl (by kernel_rfl) (by kernel_rfl) (by kernel_rfl) (fun _ _ _ h => h) (Or.inl ⟨by rfl, ?hy⟩) (by assumption) ?_
  case hy => (intro w9 hSw; (try dsimp only at hSw); go_simp; try with_reducible rfl)
  try simp only [Act.put, List.setIfInBounds_toArray, List.set_cons_zero, List.set_cons_succ]
  refine wpAnyH_take (i := 7) (oi := { dst := some 13, op := Go.Op.indexAddr 35 (Go.Operand.tmp 11) (Go.Operand.tmp 12), type := 0, pos := "fix.go:215", after := #[{ on := 5, ground := Go.Ground.data }, { on := 6, ground := Go.Ground.data }], guard := none }) (v := ?_) rfl (by kernel_rfl) (by kernel_rfl) (by kernel_rfl) (fun _ _ _ h => h) (Or.inl ⟨by rfl, ?hy⟩) (by assumption) ?_
  case hy => (intro w9 hSw; (try dsimp only at hSw); go_simp; try with_reducible rfl)
  try simp only [Act.put, List.setIfInBounds_toArray, List.set_cons_zero, List.set_cons_succ]
  refine wpAnyH_take (i := 8) (oi := { dst := some 14, op := Go.Op.indexAddr 51 (Go.Operand.tmp 13) (Go.Operand.const (Go.Value.int Go.IntKind.i64 0)), type := 0, pos := "fix.go:215", after := #[{ on := 7, ground := Go.Ground.data }], guard := none }) (v := ?_) rfl (by kernel_rfl) (by kernel_rfl) (by kernel_rfl) (fun _ _ _ h => h) (Or.inl ⟨by rfl, ?hy⟩) (by assumption) ?_
  case hy => (intro w9 hSw; (try dsimp only at hSw); go_simp; try with_reducible rfl)
  try simp only [Act.put, List.setIfInBounds_toArray, List.set_cons_zero, List.set_cons_succ]
  refine wpAnyH_take (i := 9) (oi := { dst := some 15, op := Go.Op.load 3 (Go.Operand.tmp 14), type := 3, pos := "fix.go:215", after := #[{ on := 8, ground := Go.Ground.data }], guard := none }) (v := ?_) rfl (by kernel_rfl) (by kernel_rfl) (by kernel_rfl) (fun _ _ _ h => h) (Or.inl ⟨by rfl, ?hy⟩) (by assumption) ?_
  case hy => (intro w9 hSw; (try dsimp only at hSw); go_simp; try with_reducible rfl)
  try simp only [Act.put, List.setIfInBounds_toArray, List.set_cons_zero, List.set_cons_succ]
  refine wpAnyH_ready (rs := [10]) (by kernel_rfl) (by simp) ?_
  refine AllReadyH.cons (o := { dst := some 16, op := Go.Op.call { callee := Go.Callee.value (Go.Operand.func 29), args := #[Go.Operand.tmp 10, Go.Operand.tmp 15], argTypes := #[3, 3] }, type := 4, pos := "fix.go:215", after := #[{ on := 4, ground := Go.Ground.data }, { on := 9, ground := Go.Ground.data }], guard := none }) rfl (fun K hK => ?_) AllReadyH.nil
  go_simp
  refine (inside_any (nth l x) (nth l y) _ (by omega) (by omega)).mono ?_
  rintro e w2 ⟨rfl, hw2⟩
  subst hw2
  refine hK.out _ _ ?_ (fun hHeld => ?_)
  · exact hHeld
  clear hK K
  try simp only [Act.put, List.setIfInBounds_toArray, List.set_cons_zero, List.set_cons_succ]
  refine wpAnyH_take (i := 11) (oi := { dst := some 5, op := Go.Op.assign (Go.Operand.tmp 16), type := 4, pos := "fix.go:215", after := #[{ on := 10, ground := Go.Ground.data }, { on := 10, ground := Go.Ground.chain }, { on := 0, ground := Go.Ground.phase }, { on := 1, ground := Go.Ground.phase }, { on := 2, ground := Go.Ground.phase }, { on := 3, ground := Go.Ground.phase }, { on := 4, ground := Go.Ground.phase }, { on := 5, ground := Go.Ground.phase }, { on := 6, ground := Go.Ground.phase }, { on := 7, ground := Go.Ground.phase }, { on := 8, ground := Go.Ground.phase }, { on := 9, ground := Go.Ground.phase }, { on := 10, ground := Go.Ground.phase }], guard := none }) (v := ?_) rfl (by kernel_rfl) (by kernel_rfl) (by kernel_rfl) (fun _ _ _ h => h) (Or.inl ⟨by rfl, ?hy⟩) (by assumption) ?_
  case hy => (intro w9 hSw; (try dsimp only at hSw); go_simp; try with_reducible rfl)
  try simp only [Act.put, List.setIfInBounds_toArray, List.set_cons_zero, List.set_cons_succ]
  refine wpAnyH_done (by kernel_rfl) ?_ _
  try simp only [Act.put, List.setIfInBounds_toArray, List.set_cons_zero, List.set_cons_succ]
  go_wp2_with fail
  go_ret
  exact ⟨rfl, HKK.out⟩

/-- What comes: the two tables, in new blocks. -/
def IlIs (n B : Nat) (P : Nat → Nat → Bool) (e : Ending) (w' : World) : Prop :=
  ∃ T1 c1 T2 c2 R1 R2, e = .returned (.agg #[.int .i64 (n : Int), .slice (some ⟨T1, 0, none⟩) n c1, .slice (some ⟨T2, 0, none⟩) n c2]) ∧ Tb w' T1 0 n R1 (mT P n) ∧ Tb w' T2 0 n R2 (jT P n) ∧ (B ≤ T1 ∧ B ≤ T2) ∧ ∀ k, k < n → B ≤ (R1 k).1 ∧ B ≤ (R2 k).1
set_option maxHeartbeats 4000000 in
theorem cLatticeR_any (a : Option Addr) (len m cap : Nat) (g : Nat → Nat) (w : World) (h10 : len ≤ 10) (m10 : m ≤ 10) (hg : ∀ k, k < len → g k < 1024) (hr : Row w a len (fun k => (g k : Nat))) (l : List Nat) (hl : l = tsets g len m) (h1 : 1 ≤ l.length) (h40 : l.length ≤ 40) (hs : ∀ k, k < l.length → nth l k < 1024)
    (hall : ∀ x y, x < l.length → y < l.length → 0 ≤ mZ (insB l) l.length x y ∧ 0 ≤ jZ (insB l) l.length x y) :
    Calls Try.prog 22 #[.agg #[.int .i64 (len : Int), .int .i64 (m : Int), .slice a len cap]] w fun e w' => IlIs l.length w.heap.size (insB l) e w' ∧ Below w.heap.size w w' := by
  obtain ⟨W, HW⟩ : ∃ W, Hid (W = (w.alloc (.cells #[.int .i64 (len : Int), .int .i64 (m : Int), .slice a len cap] 24)).alloc (.cells #[.int .i64 0, .slice none 0 0, .slice none 0 0] 42)) := ⟨_, rfl⟩
  have B1 : Below w.heap.size w (w.alloc (.cells #[.int .i64 (len : Int), .int .i64 (m : Int), .slice a len cap] 24)) := (Below.refl _ _).alloc (Nat.le_refl _) _
  have B2 : Below w.heap.size w W := by rw [HW.out]; exact B1.alloc (by simp) _
  have K0 : GHeld W w.heap.size len m a len cap (fun k => (g k : Nat)) := by rw [HW.out]; exact (GHeld.box hr).step ((Below.refl _ _).alloc (Nat.le_refl _) _)
  have Z0 : ZL W (w.heap.size + 1) := by
    rw [HW.out]
    have := ZL.new (w.alloc (.cells #[.int .i64 (len : Int), .int .i64 (m : Int), .slice a len cap] 24))
    rw [World.size_alloc] at this; exact this
  have HSZ : Hid (W.heap.size = w.heap.size + 2) := by rw [Hid, HW.out]; simp
  have HB0 : Hid (Below w.heap.size w W) := B2
  have HZ : Hid (ZL W (w.heap.size + 1)) := Z0
  have HK : Hid (GHeld W w.heap.size len m a len cap (fun k => (g k : Nat))) := K0
  have HG : Hid (∀ k, k < len → g k < 1024) := hg
  obtain ⟨q, HQ⟩ : ∃ q, Hid (q = l.length) := ⟨_, rfl⟩
  have HSS : Hid (∀ k, k < q → nth l k < 1024) := by rw [HQ.out]; exact hs
  have HALL : Hid (∀ x y, x < q → y < q → 0 ≤ mZ (insB l) q x y ∧ 0 ≤ jZ (insB l) q x y) := by rw [HQ.out]; exact hall
  rw [← HQ.out] at h1 h40 ⊢
  have k0 := K0.c0
  have k1 := K0.c1
  have k2 := K0.c2
  clear hr B1 B2 K0 Z0 hg hs hall
  go_enter Try.func22, Try.ntmps22
  go_wp2_with fail
  rw [← HW.out]
  go_wp2_with fail
  refine (conceptsOf_any a len m cap g _ h10 m10 HG.out HK.out.row).mono ?_
  rintro e w1 ⟨⟨v, rfl, hv⟩, hb1⟩
  obtain ⟨pa, pc, rfl, hpr⟩ := hv
  have hcl : (cons g len m).length = q := by rw [cons_length, ← hl, HQ.out]
  have HPA : Hid (∀ k, k < q → (pairAt (cons g len m) k).1 = ((nth l k : Nat) : Int)) := fun k hk => by
    rw [hl]; exact cons_at (by rw [← hl, ← HQ.out]; exact hk)
  rw [hcl] at hpr ⊢
  clear hcl
  obtain ⟨w2, HW2⟩ : ∃ w2, Hid (w2 = w1.alloc (.cells #[.slice pa q pc] 35)) := ⟨_, rfl⟩
  have hb2 : Below w1.heap.size w1 w2 := by rw [HW2.out]; exact (Below.refl _ _).alloc (Nat.le_refl _) _
  have hc2 : w2.cell? ⟨w1.heap.size, 0, none⟩ = some (.slice pa q pc) := by rw [HW2.out]; simp
  have HCL : Hid (Clo2 q 42 #[.pointer (some ⟨w1.heap.size, 0, none⟩)] (insB l) w2) := il1_any q w1.heap.size l (pairAt (cons g len m)) pa pc w2 hc2 (hpr.below hb2) HPA.out HSS.out
  have HB2 : Hid (Below w.heap.size w w2) := Below.then (Below.then HB0.out hb1) hb2
  have HZ2 : Hid (ZL w2 (w.heap.size + 1)) := (HZ.out.step hb1).step hb2
  have HSZ2 : Hid (w.heap.size + 2 ≤ w2.heap.size) := by have h1 := hb1.size; have h2 := HSZ.out; have h3 := hb2.size; rw [Hid]; omega
  clear hb1 hb2 hpr hl HW k0 k1 k2 HQ HPA
  go_wp2_with fail
  rw [← HW2.out]
  clear HW2
  go_wp2_with fail
  refine (latticeOf_any q 42 _ (insB l) _ h1 h40 ent_il HCL.out).mono ?_
  rintro e w3 ⟨ho, hb3⟩
  rcases ho with ⟨⟨x, y, hx, hy, hbad⟩, _⟩ | ⟨_, T1, c1, T2, c2, R1, R2, rfl, ht1, ht2, hT, hR⟩
  · have := HALL.out x y hx hy; omega
  · obtain ⟨w4, HW4⟩ : ∃ w4, Hid (w4 = w3.alloc (.cells #[.int .i64 (q : Int), .slice (some ⟨T1, 0, none⟩) q c1, .slice (some ⟨T2, 0, none⟩) q c2] 42)) := ⟨_, rfl⟩
    have hb4 : Below w3.heap.size w3 w4 := by rw [HW4.out]; exact (Below.refl _ _).alloc (Nat.le_refl _) _
    have L4 : LB w4 w3.heap.size (q : Int) (some ⟨T1, 0, none⟩) q c1 (some ⟨T2, 0, none⟩) q c2 := by rw [HW4.out]; exact LB.new _ _ _ _ _ _ _ _
    have HB4 : Hid (Below w.heap.size w w4) := Below.then (Below.then HB2.out hb3) hb4
    have hZ4 := (HZ2.out.step hb3).step hb4
    have HT1 : Hid (Tb w4 T1 0 q R1 (mT (insB l) q)) := ht1.step hb4
    have HT2 : Hid (Tb w4 T2 0 q R2 (jT (insB l) q)) := ht2.step hb4
    have HT : Hid (w2.heap.size ≤ T1 ∧ w2.heap.size ≤ T2) := hT
    have HR : Hid (∀ k, k < q → w2.heap.size ≤ (R1 k).1 ∧ w2.heap.size ≤ (R2 k).1) := hR
    obtain ⟨⟨d0, d1, d2⟩, f0, f1, f2⟩ := hZ4
    rw [HW4.out] at L4 d0 d1 d2 f0 f1 f2
    have m0 := L4.1
    have m1 := L4.2.1
    have m2 := L4.2.2
    clear hb3 hb4 ht1 ht2 hT hR L4 HCL hc2 HZ2
    go_wp2_with fail
    rw [← HW4.out]
    rw [← HW4.out] at d0 d1 d2 f0 f1 f2
    refine bodyPost_ret (v := .agg #[.int .i64 (q : Int), .slice (some ⟨T1, 0, none⟩) q c1, .slice (some ⟨T2, 0, none⟩) q c2]) ?_ rfl ⟨⟨T1, c1, T2, c2, R1, R2, rfl, ?_, ?_, ?_, ?_⟩, ?_⟩
    · simp [results, Try.results22, go_sem, d0, d1, d2]
    · have h1 := HSZ2.out
      have h2 := HT.out
      exact ((HT1.out.set _ (show w.heap.size + 1 ≠ _ by omega) (fun k hk => show w.heap.size + 1 ≠ _ by have := HR.out k hk; omega)).set _ (show w.heap.size + 1 ≠ _ by omega) (fun k hk => show w.heap.size + 1 ≠ _ by have := HR.out k hk; omega)).set _ (show w.heap.size + 1 ≠ _ by omega) (fun k hk => show w.heap.size + 1 ≠ _ by have := HR.out k hk; omega)
    · have h1 := HSZ2.out
      have h2 := HT.out
      exact ((HT2.out.set _ (show w.heap.size + 1 ≠ _ by omega) (fun k hk => show w.heap.size + 1 ≠ _ by have := HR.out k hk; omega)).set _ (show w.heap.size + 1 ≠ _ by omega) (fun k hk => show w.heap.size + 1 ≠ _ by have := HR.out k hk; omega)).set _ (show w.heap.size + 1 ≠ _ by omega) (fun k hk => show w.heap.size + 1 ≠ _ by have := HR.out k hk; omega)
    · have h1 := HSZ2.out
      have h2 := HT.out
      exact ⟨by omega, by omega⟩
    · intro k hk
      have h1 := HSZ2.out
      have h2 := HR.out k hk
      exact ⟨by omega, by omega⟩
    · exact set3B HB4.out (Nat.le_succ _)
end Go.Proofs.Ytpmgengddnafeaa
