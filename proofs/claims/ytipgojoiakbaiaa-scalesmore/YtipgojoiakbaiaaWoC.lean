/-
  What scales.check, scales.Cost answer. Condition: a slice reads as a slice of numbers.
-/
import Derived.Test.YtipgojoiakbaiaaWoX
namespace Go.Proofs.Ytipgojoiakbaiaa
open Go.RowKit Go.Maps Go.WideMaps
set_option maxRecDepth 100000

theorem below_fresh {w w1 W : World} {c : Nat} (hb : Below w.heap.size w w1) (hg : w1.grownBy W (some c)) (hc : w.heap.size ≤ c) : Below w.heap.size w W :=
  hb.grown hg hb.size (fun k e => by cases e; exact hc)
theorem room0 : 0 + 21 ^ 11 < maxLen := by unfold maxLen; decide
/-- What must be said of an order that is weighed out. -/
def WCk (n : Int) (len : Nat) (f : Nat → Int) (c : Int) : Prop := (c ≠ 0 ∧ Chk n len f c) ∨ (Chk n len f 0 ∧ ((5 < len ∧ c = 2) ∨ (len ≤ 5 ∧ c = 0)))
theorem WCk.unique {n : Int} {len : Nat} {f : Nat → Int} {c c' : Int} (h : WCk n len f c) (h' : WCk n len f c') : c = c' := by
  rcases h with ⟨h0, h⟩ | ⟨h, k⟩ <;> rcases h' with ⟨h0', h'⟩ | ⟨h', k'⟩
  · exact h.unique h'
  · exact absurd (h.unique h') h0
  · exact absurd (h'.unique h) h0'
  · rcases k with ⟨k1, rfl⟩ | ⟨k1, rfl⟩ <;> rcases k' with ⟨k1', rfl⟩ | ⟨k1', rfl⟩ <;> first | rfl | omega
theorem WCk.good {n : Int} {len : Nat} {f : Nat → Int} (h : WCk n len f 0) : n = (len : Int) ∧ len ≤ 5 ∧ Rng len f ∧ Ord len (nat f) := by
  rcases h with ⟨h0, _⟩ | ⟨h, ⟨_, k⟩ | ⟨k, _⟩⟩
  · exact absurd rfl h0
  · cases k
  · obtain ⟨h1, h2, h3, h4⟩ := h.good
    exact ⟨h1, k, h3, h4⟩
theorem WCk.wok {n : Int} {len : Nat} {f : Nat → Int} (h : WCk n len f 0) : WOk len (knw (nat f) len) := by
  obtain ⟨_, h5, hr, ho⟩ := h.good
  refine WOk.mk' h5 (fun k hk => ?_) (fun u hu => ?_) (fun p hp => by unfold knw; rw [if_neg (by omega)])
  · unfold knw; rw [if_pos hk]; exact hr.small k hk
  · have e : knw (nat f) len u = nat f u := by unfold knw; rw [if_pos hu]
    refine ⟨by rw [e]; exact (ho u hu).1, fun p hp h1 => ?_⟩
    have e2 : knw (nat f) len p = nat f p := by unfold knw; rw [if_pos hp]
    rw [e] at h1 ⊢; rw [e2]
    exact (ho u hu).2 p hp h1
set_option maxHeartbeats 2000000 in
theorem scheck_any (n : Int) (a : Option Addr) (len cap : Nat) (f : Nat → Int) (w : World) (hl : len ≤ maxLen) (hr : Row w a len f) :
    Calls Try.prog 28 #[.agg #[.int .i64 n, .slice a len cap]] w fun e w' => (∃ c, e = .returned (.int .i64 c) ∧ WCk n len f c) ∧ Below w.heap.size w w' := by
  have K0 : Held (w.alloc (.cells #[.int .i64 n, .slice a len cap] 24)) w.heap.size n a len cap f := Held.box hr
  have HB0 : Hid (Below w.heap.size w (w.alloc (.cells #[.int .i64 n, .slice a len cap] 24))) := (Below.refl _ _).alloc (Nat.le_refl _) _
  clear hr
  go_enter Try.func28, Try.ntmps28
  go_wp2_with fail
  refine (check_any n a len cap f _ hl K0.row).mono ?_
  rintro e w1 ⟨⟨c, rfl, hc⟩, hb⟩
  have K1 := K0.step hb
  have k0 := K1.c0
  have HB1 : Hid (Below w.heap.size w w1) := Below.then HB0.out hb
  have HC : Hid (Chk n len f c) := hc
  clear hb K0 HB0 hc K1
  by_cases h0 : c = 0
  · subst h0
    obtain ⟨rfl, _, _, _⟩ := HC.out.good
    by_cases h5 : 5 < len
    · have h5i : (5 : Int) < (len : Int) := by omega
      go_wp2_with fail
      go_ret
      exact ⟨⟨2, rfl, .inr ⟨HC.out, .inl ⟨h5, rfl⟩⟩⟩, HB1.out⟩
    · have h5i : (len : Int) ≤ 5 := by omega
      go_wp2_with fail
      go_ret
      exact ⟨⟨0, rfl, .inr ⟨HC.out, .inr ⟨by omega, rfl⟩⟩⟩, HB1.out⟩
  · have hne : (c != 0) = true := by simpa using h0
    go_wp2_with fail
    go_ret
    exact ⟨⟨c, rfl, .inl ⟨h0, HC.out⟩⟩, HB1.out⟩
def CostPost (n : Int) (len : Nat) (f : Nat → Int) (e : Ending) : Prop := ∃ (c : Int) (v : Int), e = .returned (.tuple #[.int .i64 v, .int .i64 c]) ∧ WCk n len f c ∧ ((c ≠ 0 ∧ v = 0) ∨ (c = 0 ∧ v = (cst len (knw (nat f) len) : Nat)))
set_option maxHeartbeats 4000000 in
theorem cost_any (n : Int) (a : Option Addr) (len cap : Nat) (f : Nat → Int) (w : World) (hl : len ≤ maxLen) (hr : Row w a len f) :
    Calls Try.prog 9 #[.agg #[.int .i64 n, .slice a len cap]] w fun e w' => CostPost n len f e ∧ Below w.heap.size w w' := by
  have K0 : Held (w.alloc (.cells #[.int .i64 n, .slice a len cap] 24)) w.heap.size n a len cap f := Held.box hr
  have HB0 : Hid (Below w.heap.size w (w.alloc (.cells #[.int .i64 n, .slice a len cap] 24))) := (Below.refl _ _).alloc (Nat.le_refl _) _
  clear hr
  go_enter Try.func9, Try.ntmps9
  go_wp2_with fail
  refine (scheck_any n a len cap f _ hl K0.row).mono ?_
  rintro e w1 ⟨⟨c, rfl, hc⟩, hb⟩
  have K1 := K0.step hb
  have HB1 : Hid (Below w.heap.size w w1) := Below.then HB0.out hb
  have HC : Hid (WCk n len f c) := hc
  clear hb K0 HB0 hc
  by_cases h0 : c = 0
  · subst h0
    obtain ⟨rfl, h5, hrng, hord⟩ := HC.out.good
    have HWK : Hid (WOk len (knw (nat f) len)) := HC.out.wok
    have HR : Hid (∀ wx, Below w1.heap.size w1 wx → Row wx a len (fun k => (nat f k : Nat))) := fun wx h => hrng.row (K1.step h).row
    have hc0 : ∀ wx, Below w1.heap.size w1 wx → wx.cell? ⟨w.heap.size, 0, none⟩ = some (.int .i64 (len : Nat)) := fun wx h => (K1.step h).c0
    have hc1 : ∀ wx, Below w1.heap.size w1 wx → wx.cell? ⟨w.heap.size, 1, none⟩ = some (.slice a len cap) := fun wx h => (K1.step h).c1
    have HB2 : Hid (Below w1.heap.size w1 w1) := Below.refl _ _
    have hfc := field_c
    clear hrng hord K1
    go_wp2_with fail
    refine wp_region_held_drew (S := (fun w' => Below w1.heap.size w1 w')) (by kernel_rfl) (HB2.out.drew) (fun hHeld => ?_)
    refine wpAnyH_take (i := 0) (oi := { dst := some 10, op := Go.Op.fieldAddr 24 (Go.Operand.tmp 1) 0, type := 0, pos := "scales.go:15", after := #[], guard := none }) (v := ?_) rfl (by kernel_rfl) (by kernel_rfl) (by kernel_rfl) (fun _ _ _ h => h) (Or.inl ⟨by rfl, ?hy⟩) (by assumption) ?_
    case hy => (intro w9 hSw; (try dsimp only at hSw); go_simp; try with_reducible rfl)
    try simp only [Act.put, List.setIfInBounds_toArray, List.set_cons_zero, List.set_cons_succ]
    refine wpAnyH_take (i := 1) (oi := { dst := some 11, op := Go.Op.load 3 (Go.Operand.tmp 10), type := 3, pos := "scales.go:15", after := #[{ on := 0, ground := Go.Ground.data }], guard := none }) (v := ?_) rfl (by kernel_rfl) (by kernel_rfl) (by kernel_rfl) (fun _ _ _ h => h) (Or.inl ⟨by rfl, ?hy⟩) (by assumption) ?_
    case hy => (intro w9 hSw; (try dsimp only at hSw); go_simp; try with_reducible rfl)
    try simp only [Act.put, List.setIfInBounds_toArray, List.set_cons_zero, List.set_cons_succ]
    refine wpAnyH_take (i := 3) (oi := { dst := some 13, op := Go.Op.load 24 (Go.Operand.tmp 1), type := 24, pos := "scales.go:15", after := #[], guard := none }) (v := ?_) rfl (by kernel_rfl) (by kernel_rfl) (by kernel_rfl) (fun _ _ _ h => h) (Or.inl ⟨by rfl, ?hy⟩) (by assumption) ?_
    case hy => (intro w9 hSw; (try dsimp only at hSw); go_simp; try with_reducible rfl)
    try simp only [Act.put, List.setIfInBounds_toArray, List.set_cons_zero, List.set_cons_succ]
    refine wpAnyH_ready (rs := [2]) (by kernel_rfl) (by simp) ?_
    refine AllReadyH.cons (o := { dst := some 12, op := Go.Op.call { callee := Go.Callee.value (Go.Operand.func 29), args := #[Go.Operand.tmp 11], argTypes := #[3] }, type := 58, pos := "scales.go:15", after := #[{ on := 1, ground := Go.Ground.data }], guard := none }) rfl (fun K hK => ?_) AllReadyH.nil
    go_simp
    refine (tableOf_any len _).mono ?_
    rintro e wt ⟨⟨Bm, rfl, hBm, hmt⟩, hbt⟩
    have hBmH : Hid (w1.heap.size ≤ Bm) := Nat.le_trans hHeld.size hBm
    refine hK.out _ _ ?_ (fun hHeld => ?_)
    · first | exact below_fresh hHeld hgn hBmH.out | (have hBmH : Hid (w1.heap.size ≤ Bm) := Nat.le_trans hHeld.size hBm; exact Below.then hHeld hbt) | exact Below.then hHeld hbk
    clear hK K
    try simp only [Act.put, List.setIfInBounds_toArray, List.set_cons_zero, List.set_cons_succ]
    refine wpAnyH_ready (rs := [4]) (by kernel_rfl) (by simp) ?_
    refine AllReadyH.cons (o := { dst := some 14, op := Go.Op.call { callee := Go.Callee.value (Go.Operand.func 31), args := #[Go.Operand.tmp 13], argTypes := #[24] }, type := 62, pos := "scales.go:15", after := #[{ on := 3, ground := Go.Ground.data }, { on := 2, ground := Go.Ground.chain }], guard := none }) rfl (fun K hK => ?_) AllReadyH.nil
    go_simp
    refine (knownOf_any len a cap (nat f) _ h5 (HR.out _ (by assumption))).mono ?_
    rintro e wk ⟨rfl, hbk⟩
    refine hK.out _ _ ?_ (fun hHeld => ?_)
    · first | exact below_fresh hHeld hgn hBmH.out | (have hBmH : Hid (w1.heap.size ≤ Bm) := Nat.le_trans hHeld.size hBm; exact Below.then hHeld hbt) | exact Below.then hHeld hbk
    clear hK K
    try simp only [Act.put, List.setIfInBounds_toArray, List.set_cons_zero, List.set_cons_succ]
    refine wpAnyH_ready (rs := [5]) (by kernel_rfl) (by simp) ?_
    refine AllReadyH.cons (o := { dst := some 15, op := Go.Op.call { callee := Go.Callee.value (Go.Operand.func 30), args := #[Go.Operand.tmp 12, Go.Operand.tmp 14], argTypes := #[58, 62] }, type := 55, pos := "scales.go:15", after := #[{ on := 2, ground := Go.Ground.data }, { on := 4, ground := Go.Ground.data }, { on := 4, ground := Go.Ground.chain }], guard := none }) rfl (fun K hK => ?_) AllReadyH.nil
    go_simp
    refine (next_any (knw (nat f) len) _ _ 0 HWK.out (hmt.kept (grown_of_below hbk _)) room0).mono ?_
    rintro e wn ⟨rfl, hgn, Dn, hmn⟩
    unfold wgV
    refine hK.out _ _ ?_ (fun hHeld => ?_)
    · first | exact below_fresh hHeld hgn hBmH.out | (have hBmH : Hid (w1.heap.size ≤ Bm) := Nat.le_trans hHeld.size hBm; exact Below.then hHeld hbt) | exact Below.then hHeld hbk
    clear hK K
    try simp only [Act.put, List.setIfInBounds_toArray, List.set_cons_zero, List.set_cons_succ]
    refine wpAnyH_take (i := 6) (oi := { dst := some 16, op := Go.Op.field 55 (Go.Operand.tmp 15) 2, type := 3, pos := "scales.go:15", after := #[{ on := 5, ground := Go.Ground.data }], guard := none }) (v := ?_) rfl (by kernel_rfl) (by kernel_rfl) (by kernel_rfl) (fun _ _ _ h => h) (Or.inl ⟨by rfl, ?hy⟩) (by assumption) ?_
    case hy => (intro w9 hSw; (try dsimp only at hSw); go_simp; try with_reducible rfl)
    try simp only [Act.put, List.setIfInBounds_toArray, List.set_cons_zero, List.set_cons_succ]
    refine wpAnyH_take (i := 7) (oi := { dst := some 2, op := Go.Op.assign (Go.Operand.tmp 16), type := 3, pos := "scales.go:15", after := #[{ on := 6, ground := Go.Ground.data }, { on := 5, ground := Go.Ground.chain }, { on := 0, ground := Go.Ground.phase }, { on := 1, ground := Go.Ground.phase }, { on := 2, ground := Go.Ground.phase }, { on := 3, ground := Go.Ground.phase }, { on := 4, ground := Go.Ground.phase }, { on := 5, ground := Go.Ground.phase }, { on := 6, ground := Go.Ground.phase }], guard := none }) (v := ?_) rfl (by kernel_rfl) (by kernel_rfl) (by kernel_rfl) (fun _ _ _ h => h) (Or.inl ⟨by rfl, ?hy⟩) (by assumption) ?_
    case hy => (intro w9 hSw; (try dsimp only at hSw); go_simp; try with_reducible rfl)
    try simp only [Act.put, List.setIfInBounds_toArray, List.set_cons_zero, List.set_cons_succ]
    refine wpAnyH_take (i := 8) (oi := { dst := some 3, op := Go.Op.assign (Go.Operand.const (Go.Value.int Go.IntKind.i64 0)), type := 25, pos := "scales.go:15", after := #[{ on := 7, ground := Go.Ground.chain }, { on := 0, ground := Go.Ground.phase }, { on := 1, ground := Go.Ground.phase }, { on := 2, ground := Go.Ground.phase }, { on := 3, ground := Go.Ground.phase }, { on := 4, ground := Go.Ground.phase }, { on := 5, ground := Go.Ground.phase }, { on := 6, ground := Go.Ground.phase }, { on := 7, ground := Go.Ground.phase }], guard := none }) (v := ?_) rfl (by kernel_rfl) (by kernel_rfl) (by kernel_rfl) (fun _ _ _ h => h) (Or.inl ⟨by rfl, ?hy⟩) (by assumption) ?_
    case hy => (intro w9 hSw; (try dsimp only at hSw); go_simp; try with_reducible rfl)
    try simp only [Act.put, List.setIfInBounds_toArray, List.set_cons_zero, List.set_cons_succ]
    refine wpAnyH_done (by kernel_rfl) ?_ _
    try simp only [Act.put, List.setIfInBounds_toArray, List.set_cons_zero, List.set_cons_succ]
    have HB9 : Hid (Below w.heap.size w _) := Below.then HB1.out hHeld
    clear hHeld
    go_wp2_with fail
    go_ret2
    exact ⟨⟨0, _, rfl, HC.out, .inr ⟨rfl, rfl⟩⟩, HB9.out⟩
  · have hne : (c != 0) = true := by simpa using h0
    clear K1
    go_wp2_with fail
    go_ret2
    exact ⟨⟨c, 0, rfl, HC.out, .inl ⟨h0, rfl⟩⟩, HB1.out⟩
end Go.Proofs.Ytipgojoiakbaiaa
