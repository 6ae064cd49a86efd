/-
  What concept.Lattice answers: an errno; or too many; or the tables of the concepts. No condition but that a slice reads as a slice of numbers.
  Plain facts on the end of a table: to what all elements come together; on the others of an element. No condition.
-/
import Derived.Deep.RegionHeld3
import Derived.Test.YthhnngmfbbljaaaGreatConT
import Derived.Test.YthhnngmfbbljaaaGreatOfLat
import Derived.Test.YthhnngmfbbljaaaGreatLate
import Derived.Test.YthhnngmfbbljaaaGreatLaws
import Derived.Test.YthhnngmfbbljaaaGreatTriM
namespace Go.Proofs.YthhnngmfbbljaaaGreat
open Go.RowKit

/-- What OfSets hands back, part by part. -/
def OfV (n B : Nat) (m j : Nat → Nat → Nat) (vk : Int) (va : Option Addr) (vl vc : Nat) (vb : Option Addr) (vl2 vc2 : Nat) (c : Int) (w' : World) : Prop :=
  (40 < n ∧ vk = 0 ∧ va = none ∧ vl = 0 ∧ vc = 0 ∧ vb = none ∧ vl2 = 0 ∧ vc2 = 0 ∧ c = 2) ∨
  (n ≤ 40 ∧ ∃ T1 T2 R1 R2, (vk = (n : Int) ∧ va = some ⟨T1, 0, none⟩ ∧ vl = n ∧ vc = n ∧ vb = some ⟨T2, 0, none⟩ ∧ vl2 = n ∧ vc2 = n ∧ c = 0) ∧ Tb w' T1 0 n R1 m ∧ Tb w' T2 0 n R2 j ∧ (B ≤ T1 ∧ B ≤ T2) ∧ (∀ k, k < n → B ≤ (R1 k).1 ∧ B ≤ (R2 k).1) ∧ Apt w' n R1 R2)
theorem OfIs.form {n B : Nat} {m j : Nat → Nat → Nat} {e : Ending} {w' : World} (h : OfIs n B m j e w') : ∃ vk va vl vc vb vl2 vc2 c, e = .returned (.tuple #[.agg #[.int .i64 vk, .slice va vl vc, .slice vb vl2 vc2], .int .i64 c]) ∧ OfV n B m j vk va vl vc vb vl2 vc2 c w' := by
  rcases h with ⟨h, rfl⟩ | ⟨h, T1, T2, R1, R2, rfl, h1, h2, h3, h4, h5⟩
  · exact ⟨0, none, 0, 0, none, 0, 0, 2, rfl, .inl ⟨h, rfl, rfl, rfl, rfl, rfl, rfl, rfl, rfl⟩⟩
  · exact ⟨_, _, _, _, _, _, _, _, rfl, .inr ⟨h, T1, T2, R1, R2, ⟨rfl, rfl, rfl, rfl, rfl, rfl, rfl, rfl⟩, h1, h2, h3, h4, h5⟩⟩
theorem OfV.shut {n B X : Nat} {m j : Nat → Nat → Nat} {vk : Int} {va : Option Addr} {vl vc : Nat} {vb : Option Addr} {vl2 vc2 : Nat} {c : Int} {w' : World} (h : OfV n B m j vk va vl vc vb vl2 vc2 c w') (u v y : Value) (hX : X < B) {B0 : Nat} (hB : B0 ≤ B) :
    OfIs n B0 m j (.returned (.tuple #[.agg #[.int .i64 vk, .slice va vl vc, .slice vb vl2 vc2], .int .i64 c])) (((w'.setCell ⟨X, 0, none⟩ u).setCell ⟨X, 1, none⟩ v).setCell ⟨X, 2, none⟩ y) := by
  rcases h with ⟨h, rfl, rfl, rfl, rfl, rfl, rfl, rfl, rfl⟩ | ⟨h, T1, T2, R1, R2, ⟨rfl, rfl, rfl, rfl, rfl, rfl, rfl, rfl⟩, h1, h2, h3, h4, h5⟩
  · exact .inl ⟨h, rfl⟩
  · refine .inr ⟨h, T1, T2, R1, R2, rfl, ?_, ?_, ⟨by omega, by omega⟩, fun k hk => by have := h4 k hk; exact ⟨by omega, by omega⟩, ((h5.set _ _).set _ _).set _ _⟩
    · exact ((h1.set _ (show X ≠ _ by omega) (fun k hk => show X ≠ _ by have := h4 k hk; omega)).set _ (show X ≠ _ by omega) (fun k hk => show X ≠ _ by have := h4 k hk; omega)).set _ (show X ≠ _ by omega) (fun k hk => show X ≠ _ by have := h4 k hk; omega)
    · exact ((h2.set _ (show X ≠ _ by omega) (fun k hk => show X ≠ _ by have := h4 k hk; omega)).set _ (show X ≠ _ by omega) (fun k hk => show X ≠ _ by have := h4 k hk; omega)).set _ (show X ≠ _ by omega) (fun k hk => show X ≠ _ by have := h4 k hk; omega)
/-- What Lattice must answer. -/
def CLat (L R : Int) (len : Nat) (f : Nat → Int) (B : Nat) (e : Ending) (w' : World) : Prop :=
  (∃ c : Int, c ≠ 0 ∧ GChk L R len f c ∧ e = .returned (.tuple #[noLat, .int .i64 c])) ∨
  (∃ r : Nat, GChk L R len f 0 ∧ L = (len : Int) ∧ R = (r : Int) ∧ len ≤ 10 ∧ r ≤ 10 ∧ GRng len r f ∧ OfIs (tsets (nat f) len r).length B (cnm (nat f) len r) (cnj (nat f) len r) e w')

set_option maxHeartbeats 8000000 in
set_option maxRecDepth 100000 in
theorem cLattice_any (L R : Int) (a : Option Addr) (len cap : Nat) (f : Nat → Int) (w : World) (hl : len ≤ maxLen) (hr : Row w a len f) :
    Calls Tryz.prog 12 #[.agg #[.int .i64 L, .int .i64 R, .slice a len cap]] w fun e w' => CLat L R len f w.heap.size e w' ∧ Below w.heap.size w w' := by
  obtain ⟨W0, HW⟩ : ∃ W, Hid (W = (w.alloc (.cells #[.int .i64 L, .int .i64 R, .slice a len cap] 29)).alloc (.cells #[.int .i64 0, .slice none 0 0, .slice none 0 0] 27)) := ⟨_, rfl⟩
  have B1 : Below w.heap.size w (w.alloc (.cells #[.int .i64 L, .int .i64 R, .slice a len cap] 29)) := (Below.refl _ _).alloc (Nat.le_refl _) _
  have B2 : Below w.heap.size w W0 := by rw [HW.out]; exact B1.alloc (by simp) _
  have K0 : GHeld W0 w.heap.size L R a len cap f := by rw [HW.out]; exact (GHeld.box hr).step ((Below.refl _ _).alloc (Nat.le_refl _) _)
  have Z0 : ZL W0 (w.heap.size + 1) := by
    rw [HW.out]
    have := ZL.new (w.alloc (.cells #[.int .i64 L, .int .i64 R, .slice a len cap] 29))
    rw [World.size_alloc] at this; exact this
  have HSZ0 : Hid (W0.heap.size = w.heap.size + 2) := by rw [Hid, HW.out]; simp
  have HB0 : Hid (Below w.heap.size w W0) := B2
  have HZ0 : Hid (ZL W0 (w.heap.size + 1)) := Z0
  have HK : Hid (GHeld W0 w.heap.size L R a len cap f) := K0
  have k0 := K0.c0
  have k1 := K0.c1
  have k2 := K0.c2
  clear hr B1 B2 K0 Z0
  go_enter Tryz.func12, Tryz.ntmps12
  go_wp2_with fail
  rw [← HW.out]
  go_wp2_with fail
  refine (ccheck_any L R a len cap f _ hl HK.out.row).mono ?_
  rintro e W ⟨⟨c, rfl, hc⟩, hb⟩
  have HB1 : Hid (Below w.heap.size w W) := Below.then HB0.out hb
  have HZ : Hid (ZL W (w.heap.size + 1)) := HZ0.out.step hb
  have K1 := HK.out.step hb
  have HSZ : Hid (w.heap.size + 2 ≤ W.heap.size) := by have h1 := hb.size; have h2 := HSZ0.out; rw [Hid]; omega
  clear hb HW k0 k1 k2 HK HB0 HZ0 HSZ0
  by_cases h0 : c = 0
  · subst h0
    have HC : Hid (GChk L R len f 0) := hc
    obtain ⟨r, rfl, rfl, h10, r10, hrng⟩ := hc.good
    have HRG : Hid (GRng len r f) := hrng
    have hg := hrng.small2 r10
    have HG : Hid (∀ k, k < len → nat f k < 1024) := hg
    have l0 : ∀ w', Below W.heap.size W w' → w'.cell? ⟨w.heap.size, 0, none⟩ = some (.int .i64 (len : Int)) := fun w' h => (K1.step h).c0
    have l1 : ∀ w', Below W.heap.size W w' → w'.cell? ⟨w.heap.size, 1, none⟩ = some (.int .i64 (r : Int)) := fun w' h => (K1.step h).c1
    have l2 : ∀ w', Below W.heap.size W w' → w'.cell? ⟨w.heap.size, 2, none⟩ = some (.slice a len cap) := fun w' h => (K1.step h).c2
    have HR : Hid (∀ w', Below W.heap.size W w' → Row w' a len (fun k => (nat f k : Nat))) := fun w' h => hrng.row (K1.step h).row
    obtain ⟨l, HLE⟩ : ∃ l, Hid (l = tsets (nat f) len r) := ⟨_, rfl⟩
    have HOF : Hid (∀ (pa : Option Addr) (pc : Nat) (caps : Array Value) (w3 : World), Row w3 pa l.length (fun k => ((nth l k : Nat) : Int)) → CloC 68 caps (clt (nat f) len r) w3 → Calls Tryz.prog 32 #[.slice pa l.length pc, .func (.func 68) #[] caps] w3 fun e w' => OfIs l.length w3.heap.size (cnm (nat f) len r) (cnj (nat f) len r) e w' ∧ Below w3.heap.size w3 w') := fun pa pc caps w3 h1 h2 => by
      have hlc := HLE.out
      subst hlc
      exact ofSets_any (tsets (nat f) len r) pa pc 68 caps (clt (nat f) len r) (cnm (nat f) len r) (cnj (nat f) len r) w3 (tsets_pos h10 r10 hg) (tsets_len _ _ _ h10) h1 (tsets_rises _ _ _) (fun k hk => tsets_1024 h10 hk) (fun _ _ => rfl) h2 (fun x y hx hy => cnm_is h10 r10 hg hx hy) (fun x y hx hy => cnj_is h10 r10 hg hx hy)
    clear hc hrng hg K1
    go_wp2_with fail
    refine wp_lates (S := (fun w' => Below W.heap.size W w')) (late := (fun i => i == 7 || i == 8)) (by kernel_rfl) ?_
    have HS : Hid (Below W.heap.size W W.drew) := (Below.refl _ _).drew
    refine lates_take (i := 0) (oi := { dst := some 11, op := Go.Op.load 29 (Go.Operand.tmp 1), type := 29, pos := "concept.go:59", after := #[], guard := none }) (v := ?_) rfl (by kernel_rfl) (by kernel_rfl) (by kernel_rfl) ⟨rfl, by kernel_rfl⟩ (fun _ _ _ h => h) (Or.inl ⟨by rfl, ?hy⟩) HS.out ?_
    case hy => (intro w9 hSw; (have e0 := l0 _ hSw); (have e1 := l1 _ hSw); (have e2 := l2 _ hSw); go_simp; try with_reducible rfl)
    try simp only [Act.put, List.setIfInBounds_toArray, List.set_cons_zero, List.set_cons_succ]
    refine lates_take (i := 2) (oi := { dst := some 13, op := Go.Op.load 29 (Go.Operand.tmp 1), type := 29, pos := "concept.go:59", after := #[], guard := none }) (v := ?_) rfl (by kernel_rfl) (by kernel_rfl) (by kernel_rfl) ⟨rfl, by kernel_rfl⟩ (fun _ _ _ h => h) (Or.inl ⟨by rfl, ?hy⟩) HS.out ?_
    case hy => (intro w9 hSw; (have e0 := l0 _ hSw); (have e1 := l1 _ hSw); (have e2 := l2 _ hSw); go_simp; try with_reducible rfl)
    try simp only [Act.put, List.setIfInBounds_toArray, List.set_cons_zero, List.set_cons_succ]
    refine lates_ready (rs := [1]) (by kernel_rfl) (by simp) ?_
    refine AllLate.cons (o := { dst := some 12, op := Go.Op.call { callee := Go.Callee.value (Go.Operand.func 41), args := #[Go.Operand.tmp 11], argTypes := #[29] }, type := 22, pos := "concept.go:59", after := #[{ on := 0, ground := Go.Ground.data }], guard := none }) rfl (fun K hK => ?_) ?_
    · go_simp
      refine (closedThings_any len r a cap (nat f) _ h10 r10 HG.out (HR.out _ HS.out)).mono ?_
      rintro e w2 ⟨⟨v2, rfl, hv2⟩, hb2⟩
      rw [← HLE.out] at hv2
      obtain ⟨pa, pc, rfl, hpr⟩ := hv2
      have HP2 : Hid (Row w2 pa l.length (fun k => ((nth l k : Nat) : Int))) := hpr
      have HW2 : Hid (Below W.heap.size W w2) := Below.then HS.out hb2
      clear hpr hb2
      refine hK.out _ _ (fun _ => ?_) ?_
      · exact HW2.out
      have HS := HW2
      clear hK K
      try simp only [Act.put, List.setIfInBounds_toArray, List.set_cons_zero, List.set_cons_succ]
      refine lates_ready (rs := [3]) (by kernel_rfl) (by simp) ?_
      refine AllLate.cons (o := { dst := some 14, op := Go.Op.call { callee := Go.Callee.value (Go.Operand.func 42), args := #[Go.Operand.tmp 13], argTypes := #[29] }, type := 65, pos := "concept.go:59", after := #[{ on := 2, ground := Go.Ground.data }, { on := 1, ground := Go.Ground.chain }], guard := none }) rfl (fun K hK => ?_) ?_
      · go_simp
        refine (thingsClosing_any len r a cap (nat f) _ h10 r10 HG.out (HR.out _ HS.out)).mono ?_
        rintro e w3 ⟨rfl, hcl, hb3⟩
        have HCL : Hid (CloC _ _ (clt (nat f) len r) w3) := hcl
        have HP3 : Hid (Row w3 pa l.length (fun k => ((nth l k : Nat) : Int))) := HP2.out.below hb3
        have HW3 : Hid (Below W.heap.size W w3) := Below.then HW2.out hb3
        clear hcl hb3
        refine hK.out _ _ (fun _ => ?_) ?_
        · exact HW3.out
        have HS := HW3
        clear hK K
        try simp only [Act.put, List.setIfInBounds_toArray, List.set_cons_zero, List.set_cons_succ]
        refine lates_ready (rs := [4]) (by kernel_rfl) (by simp) ?_
        refine AllLate.cons (o := { dst := some 15, op := Go.Op.call { callee := Go.Callee.value (Go.Operand.func 32), args := #[Go.Operand.tmp 12, Go.Operand.tmp 14], argTypes := #[22, 65] }, type := 34, pos := "concept.go:59", after := #[{ on := 1, ground := Go.Ground.data }, { on := 3, ground := Go.Ground.data }, { on := 3, ground := Go.Ground.chain }], guard := none }) rfl (fun K hK => ?_) ?_
        · go_simp
          refine (HOF.out pa pc _ w3 HP3.out HCL.out).mono ?_
          rintro e w4 ⟨ho, hb4⟩
          obtain ⟨vk, va, vl, vc, vb, vl2, vc2, c, rfl, hof⟩ := OfIs.form ho
          have HOI : Hid (OfV l.length w3.heap.size (cnm (nat f) len r) (cnj (nat f) len r) vk va vl vc vb vl2 vc2 c w4) := hof
          have HW4 : Hid (Below W.heap.size W w4) := Below.then HW3.out hb4
          obtain ⟨⟨z0, z1, z2⟩, g0, g1, g2⟩ := HZ.out.step HW4.out
          clear ho hof hb4
          refine hK.out _ _ (fun _ => ?_) ?_
          · exact HW4.out
          have HS := HW4
          clear hK K
          try simp only [Act.put, List.setIfInBounds_toArray, List.set_cons_zero, List.set_cons_succ]
          refine lates_take (i := 5) (oi := { dst := some 16, op := Go.Op.extract (Go.Operand.tmp 15) 0, type := 27, pos := "concept.go:59", after := #[{ on := 4, ground := Go.Ground.data }], guard := none }) (v := ?_) rfl (by kernel_rfl) (by kernel_rfl) (by kernel_rfl) ⟨rfl, by kernel_rfl⟩ (fun _ _ _ h => h) (Or.inl ⟨by rfl, ?hy⟩) HS.out ?_
          case hy => (intro w9 hSw; (have e0 := l0 _ hSw); (have e1 := l1 _ hSw); (have e2 := l2 _ hSw); go_simp; try with_reducible rfl)
          try simp only [Act.put, List.setIfInBounds_toArray, List.set_cons_zero, List.set_cons_succ]
          refine lates_take (i := 6) (oi := { dst := some 17, op := Go.Op.extract (Go.Operand.tmp 15) 1, type := 33, pos := "concept.go:59", after := #[{ on := 4, ground := Go.Ground.data }], guard := none }) (v := ?_) rfl (by kernel_rfl) (by kernel_rfl) (by kernel_rfl) ⟨rfl, by kernel_rfl⟩ (fun _ _ _ h => h) (Or.inl ⟨by rfl, ?hy⟩) HS.out ?_
          case hy => (intro w9 hSw; (have e0 := l0 _ hSw); (have e1 := l1 _ hSw); (have e2 := l2 _ hSw); go_simp; try with_reducible rfl)
          try simp only [Act.put, List.setIfInBounds_toArray, List.set_cons_zero, List.set_cons_succ]
          refine lates_ready (rs := [7]) (by kernel_rfl) (by simp) ?_
          refine AllLate.cons (o := { dst := none, op := Go.Op.store 27 (Go.Operand.tmp 2) (Go.Operand.tmp 16), type := 0, pos := "concept.go:59", after := #[{ on := 5, ground := Go.Ground.data }, { on := 4, ground := Go.Ground.chain }, { on := 0, ground := Go.Ground.phase }, { on := 1, ground := Go.Ground.phase }, { on := 2, ground := Go.Ground.phase }, { on := 3, ground := Go.Ground.phase }, { on := 4, ground := Go.Ground.phase }, { on := 5, ground := Go.Ground.phase }, { on := 6, ground := Go.Ground.phase }], guard := none }) rfl (fun K hK => ?_) ?_
          · go_simp
            skip
            refine hK.out _ _ (fun h => by cases h) ?_
            clear hK K
            try simp only [Act.put, List.setIfInBounds_toArray, List.set_cons_zero, List.set_cons_succ]
            refine lates_ready (rs := [8]) (by kernel_rfl) (by simp) ?_
            refine AllLate.cons (o := { dst := some 3, op := Go.Op.assign (Go.Operand.tmp 17), type := 33, pos := "concept.go:59", after := #[{ on := 6, ground := Go.Ground.data }, { on := 7, ground := Go.Ground.chain }, { on := 0, ground := Go.Ground.phase }, { on := 1, ground := Go.Ground.phase }, { on := 2, ground := Go.Ground.phase }, { on := 3, ground := Go.Ground.phase }, { on := 4, ground := Go.Ground.phase }, { on := 5, ground := Go.Ground.phase }, { on := 6, ground := Go.Ground.phase }, { on := 7, ground := Go.Ground.phase }], guard := none }) rfl (fun K hK => ?_) ?_
            · go_simp
              skip
              refine hK.out _ _ (fun h => by cases h) ?_
              clear hK K
              try simp only [Act.put, List.setIfInBounds_toArray, List.set_cons_zero, List.set_cons_succ]
              refine lates_done (by kernel_rfl) ?_ _
              try simp only [Act.put, List.setIfInBounds_toArray, List.set_cons_zero, List.set_cons_succ]
              go_wp2_with fail
              have HS3 : Hid (W.heap.size ≤ w3.heap.size) := HW3.out.size
              refine bodyPost_ret (v := .tuple #[.agg #[.int .i64 vk, .slice va vl vc, .slice vb vl2 vc2], .int .i64 c]) ?_ rfl ⟨.inr ⟨r, HC.out, rfl, rfl, h10, r10, HRG.out, ?_⟩, ?_⟩
              · simp [results, Tryz.results12, go_sem, z0, z1, z2]
              · rw [← HLE.out]
                have h1 := HSZ.out
                have h3 := HS3.out
                exact HOI.out.shut _ _ _ (by omega) (by omega)
              · exact set3B (Below.then HB1.out HW4.out) (Nat.le_succ _)
            exact AllLate.nil
          exact AllLate.nil
        exact AllLate.nil
      exact AllLate.nil
    exact AllLate.nil
  · have hne : (c != 0) = true := by simpa using h0
    have HC : Hid (GChk L R len f c) := hc
    obtain ⟨⟨c0, c1, c2⟩, f0, f1, f2⟩ := HZ.out
    clear hc K1
    go_wp2_with fail
    refine bodyPost_ret (v := .tuple #[noLat, .int .i64 c]) ?_ rfl ⟨.inl ⟨c, h0, HC.out, rfl⟩, ?_⟩
    · simp [results, Tryz.results12, go_sem, noLat, c0, c1, c2]
    · first | exact HB1.out | exact set3B HB1.out (Nat.le_succ _)
end Go.Proofs.YthhnngmfbbljaaaGreat
namespace Go.Proofs.YthhnngmfbbljaaaGreat
set_option maxRecDepth 100000

/-- Where the first k elements come together. -/
def en (m : Nat → Nat → Nat) : Nat → Nat
  | 0 => 0
  | k + 1 => m (en m k) k
theorem en_lt {n : Nat} {m : Nat → Nat → Nat} (h1 : 1 ≤ n) (h : Inn n m) : ∀ k, k ≤ n → en m k < n
  | 0, _ => by show 0 < n; omega
  | k + 1, hk => h _ _ (en_lt h1 h k (by omega)) (by omega)
/-- Is y an other one of x? -/
def othB (n : Nat) (m j : Nat → Nat → Nat) (x y : Nat) : Bool := m x y == en m n && j x y == en j n
def oths (n : Nat) (m j : Nat → Nat → Nat) (x : Nat) : Nat → List Nat
  | 0 => []
  | k + 1 => if othB n m j x k = true then oths n m j x k ++ [k] else oths n m j x k
theorem oths_yes {n : Nat} {m j : Nat → Nat → Nat} {x k : Nat} (h : othB n m j x k = true) : oths n m j x (k + 1) = oths n m j x k ++ [k] := by simp [oths, h]
theorem oths_no {n : Nat} {m j : Nat → Nat → Nat} {x k : Nat} (h : othB n m j x k = false) : oths n m j x (k + 1) = oths n m j x k := by simp [oths, h]
theorem oths_len (n : Nat) (m j : Nat → Nat → Nat) (x : Nat) : ∀ k, (oths n m j x k).length ≤ k
  | 0 => by simp [oths]
  | k + 1 => by
    have ih := oths_len n m j x k
    cases h : othB n m j x k
    · rw [oths_no h]; omega
    · rw [oths_yes h, List.length_append]; simp; exact ih
theorem oths_mem (n : Nat) (m j : Nat → Nat → Nat) (x : Nat) : ∀ k y, y ∈ oths n m j x k ↔ y < k ∧ othB n m j x y = true
  | 0, y => by simp [oths]
  | k + 1, y => by
    cases hb : othB n m j x k
    · rw [oths_no hb, oths_mem n m j x k y]
      constructor
      · rintro ⟨h1, h2⟩; exact ⟨by omega, h2⟩
      · rintro ⟨h1, h2⟩
        refine ⟨?_, h2⟩
        by_cases e : y = k
        · subst e; rw [hb] at h2; cases h2
        · omega
    · rw [oths_yes hb, List.mem_append, oths_mem n m j x k y, List.mem_singleton]
      constructor
      · rintro (⟨h1, h2⟩ | rfl)
        · exact ⟨by omega, h2⟩
        · exact ⟨by omega, hb⟩
      · rintro ⟨h1, h2⟩
        by_cases e : y = k
        · exact .inr e
        · exact .inl ⟨by omega, h2⟩
/-- Each is an other one of its others. -/
theorem oth_back {n : Nat} {m j : Nat → Nat → Nat} (hL : Lat n m j) {x y : Nat} (hx : x < n) (hy : y < n) (h : othB n m j x y = true) : othB n m j y x = true := by
  unfold othB at *
  rw [(hL.lm.at hy hx hy).2.1, (hL.lj.at hy hx hy).2.1]; exact h
/-- Two members at most one: a rising list whose members are all the same. -/
theorem oths_one {n : Nat} {m j : Nat → Nat → Nat} {x : Nat} (h : ∀ y z, y < n → z < n → othB n m j x y = true → othB n m j x z = true → y = z) : ∀ k, k ≤ n → (oths n m j x k).length ≤ 1
  | 0, _ => by simp [oths]
  | k + 1, hk => by
    cases hb : othB n m j x k
    · rw [oths_no hb]; exact oths_one h k (by omega)
    · rw [oths_yes hb]
      have e : oths n m j x k = [] := by
        apply List.eq_nil_iff_forall_not_mem.2
        intro y hy
        have := (oths_mem n m j x k y).1 hy
        have := h y k (by omega) (by omega) this.2 hb
        omega
      rw [e]; simp
end Go.Proofs.YthhnngmfbbljaaaGreat
