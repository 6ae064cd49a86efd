/-
  What convex.together, hull, checkWhole, checkSet and Hull answer. Conditions: as each theorem says.
-/
import Derived.Test.YtglkjeidkjkdaaaDoorAccs
import Derived.Deep.RegionHeld3
namespace Go.Proofs.YtglkjeidkjkdaaaDoor
set_option maxRecDepth 100000
open Go.RowKit

theorem andB {a b : Nat} : ((((a &&& b : Nat) : Int)) == 0) = true ↔ a &&& b = 0 := by simp
set_option maxHeartbeats 1000000 in
theorem tg_any (N : Int) (a : Option Addr) (len cap : Nat) (g : Nat → Nat) (x : Nat) (w : World) (hl : len ≤ maxLen) (hg : ∀ k, k < len → g k < 1024) (hx : x < 1024) (hr : Row w a len (fun k => (g k : Nat))) :
    Calls Tryd.prog 69 #[.agg #[.int .i64 N, .slice a len cap], .int .i64 (x : Nat)] w fun e w' => e = .returned (.int .i64 (tog g x len : Nat)) ∧ Below w.heap.size w w' := by
  unfold maxLen at hl
  obtain ⟨W0, HW0⟩ : ∃ W0, Hid (W0 = w.alloc (.cells #[.int .i64 N, .slice a len cap] 36)) := ⟨_, rfl⟩
  have HB0 : Hid (Below w.heap.size w W0) := by rw [HW0.out]; exact (Below.refl _ _).alloc (Nat.le_refl _) _
  have K0 : Held W0 w.heap.size N a len cap (fun k => (g k : Nat)) := by rw [HW0.out]; exact Fam.box hr
  have HG : Hid (∀ k, k < len → g k < 1024) := hg
  have HTL : Hid (∀ k, k ≤ len → tog g x k < 1024) := fun k hk => tog_lt (n := 10) k (fun j hj => hg j (by omega))
  clear hr hg
  go_enter Tryd.func69, Tryd.ntmps69
  go_wp2_with fail
  rw [← HW0.out]
  go_loop [5, 11] (fun t i => ∃ k : Nat, k ≤ len ∧ i = .int .i64 k ∧ t = .int .i64 (tog g x k : Nat)) (fun _ i => len - (intOf i).toNat)
  case atStart => exact ⟨0, Nat.zero_le _, rfl, rfl⟩
  case round =>
    obtain ⟨k, hk, rfl, rfl⟩ := hrel
    have htl := HTL.out k hk
    by_cases hlt : k < len
    · obtain ⟨b2, off, rfl, hc⟩ := K0.row k hlt
      have hc2 : W0.cell? ⟨b2, off + k, none⟩ = some (.int .i64 (g k : Nat)) := hc
      have hlt' : (k : Int) < (len : Int) := by omega
      have hgk := HG.out k hlt
      have han := i64_and (g k) x (by omega) (by omega)
      have hor := i64_or (tog g x k) (g k) (by omega) (by omega)
      obtain ⟨s, HS⟩ : ∃ s, Hid (g k = s) := ⟨_, rfl⟩
      rw [HS.out] at hc2 hgk han hor
      by_cases hz : s &&& x = 0
      · have HE : Hid (tog g x (k + 1) = tog g x k ||| s) := by rw [Hid, ← HS.out]; exact tog_yes (by rw [HS.out]; exact hz)
        have hz' : (((s &&& x : Nat) : Int) == 0) = true := andB.2 hz
        clear hc hz
        generalize s &&& x = y at *
        go_wp2_with (first | rw [han] | rw [hor])
        go_round
        case rel => exact ⟨k + 1, by omega, by go_num, by rw [HE.out]⟩
        case measure => simp [intOf]; omega
      · have HE : Hid (tog g x (k + 1) = tog g x k) := tog_no (by rw [HS.out]; exact hz)
        have hz' : (((s &&& x : Nat) : Int) == 0) = false := by simpa using hz
        clear hc hz
        generalize s &&& x = y at *
        go_wp2_with (first | rw [han] | rw [hor])
        go_round
        case rel => exact ⟨k + 1, by omega, by go_num, by rw [HE.out]⟩
        case measure => simp [intOf]; omega
    · obtain rfl : k = len := by omega
      go_wp2_with fail
      go_ret
      exact ⟨rfl, HB0.out⟩

set_option maxHeartbeats 1000000 in
theorem hull_any (n : Nat) (a : Option Addr) (len cap : Nat) (g : Nat → Nat) (s : Nat) (w : World) (h10 : n ≤ 10) (hl : len ≤ maxLen) (hg : ∀ k, k < len → g k < pw n) (hs : s < 1024) (hr : Row w a len (fun k => (g k : Nat))) :
    Calls Tryd.prog 45 #[.agg #[.int .i64 (n : Nat), .slice a len cap], .int .i64 (s : Nat)] w fun e w' => e = .returned (.int .i64 (hul g len n s : Nat)) ∧ Below w.heap.size w w' := by
  have hpn := pw_le n h10
  have hpp := pw_pos n
  obtain ⟨W0, HW0⟩ : ∃ W0, Hid (W0 = w.alloc (.cells #[.int .i64 (n : Nat), .slice a len cap] 36)) := ⟨_, rfl⟩
  have HB0 : Hid (Below w.heap.size w W0) := by rw [HW0.out]; exact (Below.refl _ _).alloc (Nat.le_refl _) _
  have K0 : Held W0 w.heap.size n a len cap (fun k => (g k : Nat)) := by rw [HW0.out]; exact Fam.box hr
  have hc0 : ∀ w', Below W0.heap.size W0 w' → w'.cell? ⟨w.heap.size, 0, none⟩ = some (.int .i64 (n : Nat)) := fun w' h => (K0.step h).c0
  have hc1 : ∀ w', Below W0.heap.size W0 w' → w'.cell? ⟨w.heap.size, 1, none⟩ = some (.slice a len cap) := fun w' h => (K0.step h).c1
  have HTG : Hid (∀ w', Below W0.heap.size W0 w' → Calls Tryd.prog 69 #[.agg #[.int .i64 (n : Nat), .slice a len cap], .int .i64 (s : Nat)] w' fun e w'' => e = .returned (.int .i64 (tog g s len : Nat)) ∧ Below w'.heap.size w' w'') := fun w' h => tg_any n a len cap g s w' hl (fun k hk => by have := hg k hk; omega) hs (K0.step h).row
  have htl : tog g s len < 1024 := by have := tog_lt (x := s) len hg; omega
  obtain ⟨t, HTT⟩ : ∃ t, Hid (t = tog g s len) := ⟨_, rfl⟩
  have hand : bits .andNot .i64 (((pw n : Nat) : Int) - 1) ((t : Nat) : Int) = ((hul g len n s : Nat) : Int) := by
    rw [HTT.out, show (((pw n : Nat) : Int) - 1) = ((pw n - 1 : Nat) : Int) by omega]
    exact i64_andNot _ _ (by omega) (by omega)
  rw [← HTT.out] at HTG htl
  obtain ⟨h, HH⟩ : ∃ h, Hid (h = hul g len n s) := ⟨_, rfl⟩
  rw [← HH.out] at hand ⊢
  clear hr hg K0
  go_enter Tryd.func45, Tryd.ntmps45
  go_wp2_with fail
  rw [← HW0.out]
  refine wp_region_held_drew (S := (fun w' => Below W0.heap.size W0 w')) (by kernel_rfl) ((Below.refl _ _).drew) (fun hHeld => ?_)
  refine wpAnyH_take (i := 0) (oi := { dst := some 5, op := Go.Op.fieldAddr 36 (Go.Operand.tmp 2) 0, type := 0, pos := "family.go:88", after := #[], guard := none }) (v := ?_) rfl (by kernel_rfl) (by kernel_rfl) (by kernel_rfl) (fun _ _ _ h => h) (Or.inl ⟨by rfl, ?hy⟩) (by assumption) ?_
  case hy => (intro w9 hSw; (try dsimp only at hSw); go_simp; try with_reducible rfl)
  try simp only [Act.put, List.setIfInBounds_toArray, List.set_cons_zero, List.set_cons_succ]
  refine wpAnyH_take (i := 1) (oi := { dst := some 6, op := Go.Op.load 3 (Go.Operand.tmp 5), type := 3, pos := "family.go:88", after := #[{ on := 0, ground := Go.Ground.data }], guard := none }) (v := ?_) rfl (by kernel_rfl) (by kernel_rfl) (by kernel_rfl) (fun _ _ _ h => h) (Or.inl ⟨by rfl, ?hy⟩) (by assumption) ?_
  case hy => (intro w9 hSw; (try dsimp only at hSw); go_simp; try with_reducible rfl)
  try simp only [Act.put, List.setIfInBounds_toArray, List.set_cons_zero, List.set_cons_succ]
  refine wpAnyH_take (i := 3) (oi := { dst := some 8, op := Go.Op.load 36 (Go.Operand.tmp 2), type := 36, pos := "family.go:88", after := #[], guard := none }) (v := ?_) rfl (by kernel_rfl) (by kernel_rfl) (by kernel_rfl) (fun _ _ _ h => h) (Or.inl ⟨by rfl, ?hy⟩) (by assumption) ?_
  case hy => (intro w9 hSw; (try dsimp only at hSw); go_simp; try with_reducible rfl)
  try simp only [Act.put, List.setIfInBounds_toArray, List.set_cons_zero, List.set_cons_succ]
  refine wpAnyH_take (i := 4) (oi := { dst := some 9, op := Go.Op.move (Go.Operand.tmp 1), type := 3, pos := "family.go:88", after := #[], guard := none }) (v := ?_) rfl (by kernel_rfl) (by kernel_rfl) (by kernel_rfl) (fun _ _ _ h => h) (Or.inl ⟨by rfl, ?hy⟩) (by assumption) ?_
  case hy => (intro w9 hSw; (try dsimp only at hSw); go_simp; try with_reducible rfl)
  try simp only [Act.put, List.setIfInBounds_toArray, List.set_cons_zero, List.set_cons_succ]
  refine wpAnyH_ready (rs := [2]) (by kernel_rfl) (by simp) ?_
  refine AllReadyH.cons (o := { dst := some 7, op := Go.Op.call { callee := Go.Callee.value (Go.Operand.func 30), args := #[Go.Operand.tmp 6], argTypes := #[3] }, type := 3, pos := "family.go:88", after := #[{ on := 1, ground := Go.Ground.data }], guard := none }) rfl (fun K hK => ?_) AllReadyH.nil
  go_simp
  refine (all_any n _ h10).mono ?_
  rintro e w6 ⟨rfl, hw6⟩
  subst hw6
  refine hK.out _ _ ?_ (fun hHeld => ?_)
  · first | assumption | exact Below.then (by assumption) (by assumption)
  clear hK K
  try simp only [Act.put, List.setIfInBounds_toArray, List.set_cons_zero, List.set_cons_succ]
  refine wpAnyH_ready (rs := [5]) (by kernel_rfl) (by simp) ?_
  refine AllReadyH.cons (o := { dst := some 10, op := Go.Op.call { callee := Go.Callee.value (Go.Operand.func 69), args := #[Go.Operand.tmp 8, Go.Operand.tmp 9], argTypes := #[36, 3] }, type := 3, pos := "family.go:88", after := #[{ on := 3, ground := Go.Ground.data }, { on := 4, ground := Go.Ground.data }, { on := 2, ground := Go.Ground.chain }], guard := none }) rfl (fun K hK => ?_) AllReadyH.nil
  go_simp
  refine (HTG.out _ hHeld).mono ?_
  rintro e w7 ⟨rfl, hb7⟩
  refine hK.out _ _ ?_ (fun hHeld => ?_)
  · first | assumption | exact Below.then (by assumption) (by assumption)
  clear hK K
  try simp only [Act.put, List.setIfInBounds_toArray, List.set_cons_zero, List.set_cons_succ]
  refine wpAnyH_take (i := 6) (oi := { dst := some 11, op := Go.Op.binOp Go.BinOp.andNot 3 (Go.Operand.tmp 7) (Go.Operand.tmp 10) 3, type := 3, pos := "family.go:88", after := #[{ on := 2, ground := Go.Ground.data }, { on := 5, ground := Go.Ground.data }], guard := none }) (v := ?_) rfl (by kernel_rfl) (by kernel_rfl) (by kernel_rfl) (fun _ _ _ h => h) (Or.inl ⟨by rfl, ?hy⟩) (by assumption) ?_
  case hy => (intro w9 hSw; (try dsimp only at hSw); go_simp; try with_reducible rfl)
  try simp only [Act.put, List.setIfInBounds_toArray, List.set_cons_zero, List.set_cons_succ]
  refine wpAnyH_take (i := 7) (oi := { dst := some 4, op := Go.Op.assign (Go.Operand.tmp 11), type := 3, pos := "family.go:88", after := #[{ on := 6, ground := Go.Ground.data }, { on := 5, ground := Go.Ground.chain }, { on := 0, ground := Go.Ground.phase }, { on := 1, ground := Go.Ground.phase }, { on := 2, ground := Go.Ground.phase }, { on := 3, ground := Go.Ground.phase }, { on := 4, ground := Go.Ground.phase }, { on := 5, ground := Go.Ground.phase }, { on := 6, ground := Go.Ground.phase }], guard := none }) (v := ?_) rfl (by kernel_rfl) (by kernel_rfl) (by kernel_rfl) (fun _ _ _ h => h) (Or.inl ⟨by rfl, ?hy⟩) (by assumption) ?_
  case hy => (intro w9 hSw; (try dsimp only at hSw); go_simp; try with_reducible rfl)
  try simp only [Act.put, List.setIfInBounds_toArray, List.set_cons_zero, List.set_cons_succ]
  refine wpAnyH_done (by kernel_rfl) ?_ _
  try simp only [Act.put, List.setIfInBounds_toArray, List.set_cons_zero, List.set_cons_succ]
  go_wp2_with fail
  go_ret
  exact ⟨by first | rfl | (rw [hand]; rfl), Below.then HB0.out (by assumption)⟩

/-- Accessible, and each point in some of the sets. -/
def Whl (n len : Nat) (f : Nat → Int) : Prop := acc (nat f) len = true ∧ tog (nat f) 0 len = pw n - 1
/-- What is wrong with a family of which hulls are asked. -/
def WCk (N : Int) (len : Nat) (f : Nat → Int) (c : Int) : Prop :=
  (c ≠ 0 ∧ FChk N len f c) ∨ ∃ n : Nat, N = n ∧ n ≤ 10 ∧ FIn n len f ∧ FRis len f ∧ ((c = 4 ∧ ¬ Whl n len f) ∨ (c = 0 ∧ Whl n len f))
theorem FChk.mk0 {n len : Nat} {f : Nat → Int} (h10 : n ≤ 10) (h1 : FIn n len f) (h2 : FRis len f) : FChk n len f 0 := .inr ⟨n, rfl, h10, .inr ⟨h1, .inr ⟨rfl, h2⟩⟩⟩
theorem WCk.unique {N : Int} {len : Nat} {f : Nat → Int} {c c' : Int} (h : WCk N len f c) (h' : WCk N len f c') : c = c' := by
  rcases h with ⟨h0, h⟩ | ⟨n, rfl, h10, h1, h2, h⟩
  · rcases h' with ⟨h0', h'⟩ | ⟨n, rfl, h10, h1, h2, _⟩
    · exact h.unique h'
    · exact absurd (h.unique (FChk.mk0 h10 h1 h2)) h0
  · rcases h' with ⟨h0', h'⟩ | ⟨n', e, _, _, _, h'⟩
    · exact absurd (h'.unique (FChk.mk0 h10 h1 h2)) h0'
    · obtain rfl : n' = n := by omega
      rcases h with ⟨rfl, h⟩ | ⟨rfl, h⟩ <;> rcases h' with ⟨rfl, h'⟩ | ⟨rfl, h'⟩ <;> first | rfl | (exact absurd h h') | (exact absurd h' h)
theorem WCk.good {N : Int} {len : Nat} {f : Nat → Int} (h : WCk N len f 0) : ∃ n : Nat, N = n ∧ n ≤ 10 ∧ FIn n len f ∧ FRis len f ∧ Whl n len f := by
  rcases h with ⟨h0, _⟩ | ⟨n, rfl, h10, h1, h2, ⟨h, _⟩ | ⟨_, h⟩⟩
  · exact absurd rfl h0
  · cases h
  · exact ⟨n, rfl, h10, h1, h2, h⟩

set_option maxHeartbeats 2000000 in
theorem checkWhole_any (N : Int) (a : Option Addr) (len cap : Nat) (f : Nat → Int) (w : World) (hl : len ≤ maxLen) (hr : Row w a len f) (hT : Tab w) :
    Calls Tryd.prog 46 #[.agg #[.int .i64 N, .slice a len cap]] w fun e w' => (∃ c : Int, e = .returned (.int .i64 c) ∧ WCk N len f c) ∧ Below w.heap.size w w' := by
  obtain ⟨W0, HW0⟩ : ∃ W0, Hid (W0 = w.alloc (.cells #[.int .i64 N, .slice a len cap] 36)) := ⟨_, rfl⟩
  have HB0 : Hid (Below w.heap.size w W0) := by rw [HW0.out]; exact (Below.refl _ _).alloc (Nat.le_refl _) _
  have K0 : Held W0 w.heap.size N a len cap f := by rw [HW0.out]; exact Fam.box hr
  have HT0 : Hid (Tab W0) := hT.step HB0.out
  have HCK := (show Hid (Calls Tryd.prog 70 #[.agg #[.int .i64 N, .slice a len cap]] W0 _) from fCheck_any N a len cap f W0 hl K0.row)
  have k0 := K0.c0
  have k1 := K0.c1
  clear hr hT
  go_enter Tryd.func46, Tryd.ntmps46
  go_wp2_with fail
  rw [← HW0.out]
  refine HCK.out.mono ?_
  rintro e w1 ⟨⟨c, rfl, hc⟩, hb1⟩
  have HB1 : Hid (Below W0.heap.size W0 w1) := hb1
  clear hb1 HCK k0 k1
  by_cases h0 : c = 0
  · subst h0
    obtain ⟨n, rfl, hn10, hin, hris⟩ := hc.good
    have HIN : Hid (FIn n len f ∧ FRis len f) := ⟨hin, hris⟩
    have hpn := pw_le n hn10
    have hpp := pw_pos n
    have HROW : Hid (∀ w', Below W0.heap.size W0 w' → Row w' a len (fun k => (nat f k : Nat))) := fun w' h => HIN.out.1.row (K0.step h).row
    have hc0 : ∀ w', Below W0.heap.size W0 w' → w'.cell? ⟨w.heap.size, 0, none⟩ = some (.int .i64 (n : Nat)) := fun w' h => (K0.step h).c0
    have hc1 : ∀ w', Below W0.heap.size W0 w' → w'.cell? ⟨w.heap.size, 1, none⟩ = some (.slice a len cap) := fun w' h => (K0.step h).c1
    have HAC : Hid (∀ w', Below W0.heap.size W0 w' → Calls Tryd.prog 71 #[.agg #[.int .i64 (n : Nat), .slice a len cap]] w' fun e w'' => e = .returned (.bool (acc (nat f) len)) ∧ Below w'.heap.size w' w'') := fun w' h => isAccessible_any n a len cap (nat f) w' hn10 hl HIN.out.1.small (HROW.out _ h) (HT0.out.step h)
    have HTG : Hid (∀ w', Below W0.heap.size W0 w' → Calls Tryd.prog 69 #[.agg #[.int .i64 (n : Nat), .slice a len cap], .int .i64 0] w' fun e w'' => e = .returned (.int .i64 (tog (nat f) 0 len : Nat)) ∧ Below w'.heap.size w' w'') := fun w' h => tg_any n a len cap (nat f) 0 w' hl (fun k hk => by have := HIN.out.1.small k hk; omega) (by omega) (HROW.out _ h)
    obtain ⟨t, HTT⟩ : ∃ t, Hid (t = tog (nat f) 0 len) := ⟨_, rfl⟩
    rw [← HTT.out] at HTG
    obtain ⟨A, HA⟩ : ∃ A, Hid (A = acc (nat f) len) := ⟨_, rfl⟩
    rw [← HA.out] at HAC
    have HF4 : Hid (¬ Whl n len f → WCk n len f 4) := fun h => .inr ⟨n, rfl, hn10, HIN.out.1, HIN.out.2, .inl ⟨rfl, h⟩⟩
    clear hc hin hris
    cases hac : A
    · have HN : Hid (¬ Whl n len f) := fun h => by rw [HA.out, h.1] at hac; cases hac
      go_wp2_with fail
      refine wp_region_held_drew (S := (fun w' => Below W0.heap.size W0 w')) (by kernel_rfl) (HB1.out.drew) (fun hHeld => ?_)
      refine wpAnyH_take (i := 0) (oi := { dst := some 9, op := Go.Op.load 36 (Go.Operand.tmp 1), type := 36, pos := "family.go:59", after := #[], guard := none }) (v := ?_) rfl (by kernel_rfl) (by kernel_rfl) (by kernel_rfl) (fun _ _ _ h => h) (Or.inl ⟨by rfl, ?hy⟩) (by assumption) ?_
      case hy => (intro w9 hSw; (try dsimp only at hSw); go_simp; try with_reducible rfl)
      try simp only [Act.put, List.setIfInBounds_toArray, List.set_cons_zero, List.set_cons_succ]
      refine wpAnyH_ready (rs := [1]) (by kernel_rfl) (by simp) ?_
      refine AllReadyH.cons (o := { dst := some 10, op := Go.Op.call { callee := Go.Callee.value (Go.Operand.func 71), args := #[Go.Operand.tmp 9], argTypes := #[36] }, type := 4, pos := "family.go:59", after := #[{ on := 0, ground := Go.Ground.data }], guard := none }) rfl (fun K hK => ?_) AllReadyH.nil
      go_simp
      refine (HAC.out _ hHeld).mono ?_
      rintro e w6 ⟨rfl, hb6⟩
      rw [hac]
      refine hK.out _ _ ?_ (fun hHeld => ?_)
      · first | assumption | exact Below.then (by assumption) (by assumption)
      clear hK K
      try simp only [Act.put, List.setIfInBounds_toArray, List.set_cons_zero, List.set_cons_succ]
      refine wpAnyH_take (i := 2) (oi := { dst := some 11, op := Go.Op.unOp Go.UnOp.not 4 (Go.Operand.tmp 10), type := 4, pos := "family.go:59", after := #[{ on := 1, ground := Go.Ground.data }], guard := none }) (v := ?_) rfl (by kernel_rfl) (by kernel_rfl) (by kernel_rfl) (fun _ _ _ h => h) (Or.inl ⟨by rfl, ?hy⟩) (by assumption) ?_
      case hy => (intro w9 hSw; (try dsimp only at hSw); go_simp; try with_reducible rfl)
      try simp only [Act.put, List.setIfInBounds_toArray, List.set_cons_zero, List.set_cons_succ]
      refine wpAnyH_take (i := 3) (oi := { dst := some 12, op := Go.Op.move (Go.Operand.tmp 11), type := 4, pos := "family.go:59", after := #[{ on := 2, ground := Go.Ground.data }, { on := 1, ground := Go.Ground.chain }], guard := none }) (v := ?_) rfl (by kernel_rfl) (by kernel_rfl) (by kernel_rfl) (fun _ _ _ h => h) (Or.inl ⟨by rfl, ?hy⟩) (by assumption) ?_
      case hy => (intro w9 hSw; (try dsimp only at hSw); go_simp; try with_reducible rfl)
      try simp only [Act.put, List.setIfInBounds_toArray, List.set_cons_zero, List.set_cons_succ]
      refine wpAnyH_take (i := 4) (oi := { dst := some 13, op := Go.Op.load 36 (Go.Operand.tmp 1), type := 36, pos := "family.go:59", after := #[{ on := 3, ground := Go.Ground.guard }], guard := some (3, false) }) (v := undef) rfl (by kernel_rfl) (by kernel_rfl) (by kernel_rfl) (fun _ _ _ h => h) (Or.inr ⟨by rfl, rfl⟩) (by assumption) ?_
      try simp only [Act.put, List.setIfInBounds_toArray, List.set_cons_zero, List.set_cons_succ]
      refine wpAnyH_take (i := 5) (oi := { dst := some 14, op := Go.Op.call { callee := Go.Callee.value (Go.Operand.func 69), args := #[Go.Operand.tmp 13, Go.Operand.const (Go.Value.int Go.IntKind.i64 0)], argTypes := #[36, 3] }, type := 3, pos := "family.go:59", after := #[{ on := 4, ground := Go.Ground.data }, { on := 3, ground := Go.Ground.chain }, { on := 3, ground := Go.Ground.guard }], guard := some (3, false) }) (v := undef) rfl (by kernel_rfl) (by kernel_rfl) (by kernel_rfl) (fun _ _ _ h => h) (Or.inr ⟨by rfl, rfl⟩) (by assumption) ?_
      try simp only [Act.put, List.setIfInBounds_toArray, List.set_cons_zero, List.set_cons_succ]
      refine wpAnyH_take (i := 6) (oi := { dst := some 15, op := Go.Op.fieldAddr 36 (Go.Operand.tmp 1) 0, type := 0, pos := "family.go:59", after := #[{ on := 3, ground := Go.Ground.guard }], guard := some (3, false) }) (v := undef) rfl (by kernel_rfl) (by kernel_rfl) (by kernel_rfl) (fun _ _ _ h => h) (Or.inr ⟨by rfl, rfl⟩) (by assumption) ?_
      try simp only [Act.put, List.setIfInBounds_toArray, List.set_cons_zero, List.set_cons_succ]
      refine wpAnyH_take (i := 7) (oi := { dst := some 16, op := Go.Op.load 3 (Go.Operand.tmp 15), type := 3, pos := "family.go:59", after := #[{ on := 6, ground := Go.Ground.data }, { on := 3, ground := Go.Ground.guard }], guard := some (3, false) }) (v := undef) rfl (by kernel_rfl) (by kernel_rfl) (by kernel_rfl) (fun _ _ _ h => h) (Or.inr ⟨by rfl, rfl⟩) (by assumption) ?_
      try simp only [Act.put, List.setIfInBounds_toArray, List.set_cons_zero, List.set_cons_succ]
      refine wpAnyH_take (i := 8) (oi := { dst := some 17, op := Go.Op.call { callee := Go.Callee.value (Go.Operand.func 30), args := #[Go.Operand.tmp 16], argTypes := #[3] }, type := 3, pos := "family.go:59", after := #[{ on := 7, ground := Go.Ground.data }, { on := 5, ground := Go.Ground.chain }, { on := 3, ground := Go.Ground.guard }], guard := some (3, false) }) (v := undef) rfl (by kernel_rfl) (by kernel_rfl) (by kernel_rfl) (fun _ _ _ h => h) (Or.inr ⟨by rfl, rfl⟩) (by assumption) ?_
      try simp only [Act.put, List.setIfInBounds_toArray, List.set_cons_zero, List.set_cons_succ]
      refine wpAnyH_take (i := 9) (oi := { dst := some 18, op := Go.Op.binOp Go.BinOp.neq 3 (Go.Operand.tmp 14) (Go.Operand.tmp 17) 3, type := 4, pos := "family.go:59", after := #[{ on := 5, ground := Go.Ground.data }, { on := 8, ground := Go.Ground.data }, { on := 3, ground := Go.Ground.guard }], guard := some (3, false) }) (v := undef) rfl (by kernel_rfl) (by kernel_rfl) (by kernel_rfl) (fun _ _ _ h => h) (Or.inr ⟨by rfl, rfl⟩) (by assumption) ?_
      try simp only [Act.put, List.setIfInBounds_toArray, List.set_cons_zero, List.set_cons_succ]
      refine wpAnyH_take (i := 10) (oi := { dst := some 19, op := Go.Op.pick (Go.Operand.tmp 12) (Go.Operand.const (Go.Value.bool true)) (Go.Operand.tmp 18), type := 4, pos := "family.go:59", after := #[{ on := 3, ground := Go.Ground.data }, { on := 9, ground := Go.Ground.data }], guard := none }) (v := ?_) rfl (by kernel_rfl) (by kernel_rfl) (by kernel_rfl) (fun _ _ _ h => h) (Or.inl ⟨by rfl, ?hy⟩) (by assumption) ?_
      case hy => (intro w9 hSw; (try dsimp only at hSw); go_simp; try with_reducible rfl)
      try simp only [Act.put, List.setIfInBounds_toArray, List.set_cons_zero, List.set_cons_succ]
      refine wpAnyH_done (by kernel_rfl) ?_ _
      try simp only [Act.put, List.setIfInBounds_toArray, List.set_cons_zero, List.set_cons_succ]
      go_wp2_with fail
      go_ret
      exact ⟨⟨_, rfl, HF4.out HN.out⟩, Below.then HB0.out (by assumption)⟩
    · by_cases ht : (t : Int) = ((pw n : Nat) : Int) - 1
      · have HY : Hid (Whl n len f) := ⟨by rw [← HA.out]; exact hac, by rw [← HTT.out]; omega⟩
        have hne : ((t : Int) != ((pw n : Nat) : Int) - 1) = false := by simpa using ht
        clear ht
        go_wp2_with fail
        refine wp_region_held_drew (S := (fun w' => Below W0.heap.size W0 w')) (by kernel_rfl) (HB1.out.drew) (fun hHeld => ?_)
        refine wpAnyH_take (i := 0) (oi := { dst := some 9, op := Go.Op.load 36 (Go.Operand.tmp 1), type := 36, pos := "family.go:59", after := #[], guard := none }) (v := ?_) rfl (by kernel_rfl) (by kernel_rfl) (by kernel_rfl) (fun _ _ _ h => h) (Or.inl ⟨by rfl, ?hy⟩) (by assumption) ?_
        case hy => (intro w9 hSw; (try dsimp only at hSw); go_simp; try with_reducible rfl)
        try simp only [Act.put, List.setIfInBounds_toArray, List.set_cons_zero, List.set_cons_succ]
        refine wpAnyH_ready (rs := [1]) (by kernel_rfl) (by simp) ?_
        refine AllReadyH.cons (o := { dst := some 10, op := Go.Op.call { callee := Go.Callee.value (Go.Operand.func 71), args := #[Go.Operand.tmp 9], argTypes := #[36] }, type := 4, pos := "family.go:59", after := #[{ on := 0, ground := Go.Ground.data }], guard := none }) rfl (fun K hK => ?_) AllReadyH.nil
        go_simp
        refine (HAC.out _ hHeld).mono ?_
        rintro e w6 ⟨rfl, hb6⟩
        rw [hac]
        refine hK.out _ _ ?_ (fun hHeld => ?_)
        · first | assumption | exact Below.then (by assumption) (by assumption)
        clear hK K
        try simp only [Act.put, List.setIfInBounds_toArray, List.set_cons_zero, List.set_cons_succ]
        refine wpAnyH_take (i := 2) (oi := { dst := some 11, op := Go.Op.unOp Go.UnOp.not 4 (Go.Operand.tmp 10), type := 4, pos := "family.go:59", after := #[{ on := 1, ground := Go.Ground.data }], guard := none }) (v := ?_) rfl (by kernel_rfl) (by kernel_rfl) (by kernel_rfl) (fun _ _ _ h => h) (Or.inl ⟨by rfl, ?hy⟩) (by assumption) ?_
        case hy => (intro w9 hSw; (try dsimp only at hSw); go_simp; try with_reducible rfl)
        try simp only [Act.put, List.setIfInBounds_toArray, List.set_cons_zero, List.set_cons_succ]
        refine wpAnyH_take (i := 3) (oi := { dst := some 12, op := Go.Op.move (Go.Operand.tmp 11), type := 4, pos := "family.go:59", after := #[{ on := 2, ground := Go.Ground.data }, { on := 1, ground := Go.Ground.chain }], guard := none }) (v := ?_) rfl (by kernel_rfl) (by kernel_rfl) (by kernel_rfl) (fun _ _ _ h => h) (Or.inl ⟨by rfl, ?hy⟩) (by assumption) ?_
        case hy => (intro w9 hSw; (try dsimp only at hSw); go_simp; try with_reducible rfl)
        try simp only [Act.put, List.setIfInBounds_toArray, List.set_cons_zero, List.set_cons_succ]
        refine wpAnyH_take (i := 4) (oi := { dst := some 13, op := Go.Op.load 36 (Go.Operand.tmp 1), type := 36, pos := "family.go:59", after := #[{ on := 3, ground := Go.Ground.guard }], guard := some (3, false) }) (v := ?_) rfl (by kernel_rfl) (by kernel_rfl) (by kernel_rfl) (fun _ _ _ h => h) (Or.inl ⟨by rfl, ?hy⟩) (by assumption) ?_
        case hy => (intro w9 hSw; (try dsimp only at hSw); go_simp; try with_reducible rfl)
        try simp only [Act.put, List.setIfInBounds_toArray, List.set_cons_zero, List.set_cons_succ]
        refine wpAnyH_take (i := 6) (oi := { dst := some 15, op := Go.Op.fieldAddr 36 (Go.Operand.tmp 1) 0, type := 0, pos := "family.go:59", after := #[{ on := 3, ground := Go.Ground.guard }], guard := some (3, false) }) (v := ?_) rfl (by kernel_rfl) (by kernel_rfl) (by kernel_rfl) (fun _ _ _ h => h) (Or.inl ⟨by rfl, ?hy⟩) (by assumption) ?_
        case hy => (intro w9 hSw; (try dsimp only at hSw); go_simp; try with_reducible rfl)
        try simp only [Act.put, List.setIfInBounds_toArray, List.set_cons_zero, List.set_cons_succ]
        refine wpAnyH_take (i := 7) (oi := { dst := some 16, op := Go.Op.load 3 (Go.Operand.tmp 15), type := 3, pos := "family.go:59", after := #[{ on := 6, ground := Go.Ground.data }, { on := 3, ground := Go.Ground.guard }], guard := some (3, false) }) (v := ?_) rfl (by kernel_rfl) (by kernel_rfl) (by kernel_rfl) (fun _ _ _ h => h) (Or.inl ⟨by rfl, ?hy⟩) (by assumption) ?_
        case hy => (intro w9 hSw; (try dsimp only at hSw); go_simp; try with_reducible rfl)
        try simp only [Act.put, List.setIfInBounds_toArray, List.set_cons_zero, List.set_cons_succ]
        refine wpAnyH_ready (rs := [5]) (by kernel_rfl) (by simp) ?_
        refine AllReadyH.cons (o := { dst := some 14, op := Go.Op.call { callee := Go.Callee.value (Go.Operand.func 69), args := #[Go.Operand.tmp 13, Go.Operand.const (Go.Value.int Go.IntKind.i64 0)], argTypes := #[36, 3] }, type := 3, pos := "family.go:59", after := #[{ on := 4, ground := Go.Ground.data }, { on := 3, ground := Go.Ground.chain }, { on := 3, ground := Go.Ground.guard }], guard := some (3, false) }) rfl (fun K hK => ?_) AllReadyH.nil
        go_simp
        refine (HTG.out _ hHeld).mono ?_
        rintro e w7 ⟨rfl, hb7⟩
        refine hK.out _ _ ?_ (fun hHeld => ?_)
        · first | assumption | exact Below.then (by assumption) (by assumption)
        clear hK K
        try simp only [Act.put, List.setIfInBounds_toArray, List.set_cons_zero, List.set_cons_succ]
        refine wpAnyH_ready (rs := [8]) (by kernel_rfl) (by simp) ?_
        refine AllReadyH.cons (o := { dst := some 17, op := Go.Op.call { callee := Go.Callee.value (Go.Operand.func 30), args := #[Go.Operand.tmp 16], argTypes := #[3] }, type := 3, pos := "family.go:59", after := #[{ on := 7, ground := Go.Ground.data }, { on := 5, ground := Go.Ground.chain }, { on := 3, ground := Go.Ground.guard }], guard := some (3, false) }) rfl (fun K hK => ?_) AllReadyH.nil
        go_simp
        refine (all_any n _ hn10).mono ?_
        rintro e w8 ⟨rfl, hw8⟩
        subst hw8
        refine hK.out _ _ ?_ (fun hHeld => ?_)
        · first | assumption | exact Below.then (by assumption) (by assumption)
        clear hK K
        try simp only [Act.put, List.setIfInBounds_toArray, List.set_cons_zero, List.set_cons_succ]
        refine wpAnyH_take (i := 9) (oi := { dst := some 18, op := Go.Op.binOp Go.BinOp.neq 3 (Go.Operand.tmp 14) (Go.Operand.tmp 17) 3, type := 4, pos := "family.go:59", after := #[{ on := 5, ground := Go.Ground.data }, { on := 8, ground := Go.Ground.data }, { on := 3, ground := Go.Ground.guard }], guard := some (3, false) }) (v := ?_) rfl (by kernel_rfl) (by kernel_rfl) (by kernel_rfl) (fun _ _ _ h => h) (Or.inl ⟨by rfl, ?hy⟩) (by assumption) ?_
        case hy => (intro w9 hSw; (try dsimp only at hSw); go_simp; try with_reducible rfl)
        try simp only [Act.put, List.setIfInBounds_toArray, List.set_cons_zero, List.set_cons_succ]
        refine wpAnyH_take (i := 10) (oi := { dst := some 19, op := Go.Op.pick (Go.Operand.tmp 12) (Go.Operand.const (Go.Value.bool true)) (Go.Operand.tmp 18), type := 4, pos := "family.go:59", after := #[{ on := 3, ground := Go.Ground.data }, { on := 9, ground := Go.Ground.data }], guard := none }) (v := ?_) rfl (by kernel_rfl) (by kernel_rfl) (by kernel_rfl) (fun _ _ _ h => h) (Or.inl ⟨by rfl, ?hy⟩) (by assumption) ?_
        case hy => (intro w9 hSw; (try dsimp only at hSw); go_simp; try with_reducible rfl)
        try simp only [Act.put, List.setIfInBounds_toArray, List.set_cons_zero, List.set_cons_succ]
        refine wpAnyH_done (by kernel_rfl) ?_ _
        try simp only [Act.put, List.setIfInBounds_toArray, List.set_cons_zero, List.set_cons_succ]
        go_wp2_with fail
        go_ret
        exact ⟨⟨_, rfl, .inr ⟨n, rfl, hn10, HIN.out.1, HIN.out.2, .inr ⟨rfl, HY.out⟩⟩⟩, Below.then HB0.out (by assumption)⟩
      · have HN : Hid (¬ Whl n len f) := fun h => ht (by rw [HTT.out, h.2]; omega)
        have hne : ((t : Int) != ((pw n : Nat) : Int) - 1) = true := by simpa using ht
        clear ht
        go_wp2_with fail
        refine wp_region_held_drew (S := (fun w' => Below W0.heap.size W0 w')) (by kernel_rfl) (HB1.out.drew) (fun hHeld => ?_)
        refine wpAnyH_take (i := 0) (oi := { dst := some 9, op := Go.Op.load 36 (Go.Operand.tmp 1), type := 36, pos := "family.go:59", after := #[], guard := none }) (v := ?_) rfl (by kernel_rfl) (by kernel_rfl) (by kernel_rfl) (fun _ _ _ h => h) (Or.inl ⟨by rfl, ?hy⟩) (by assumption) ?_
        case hy => (intro w9 hSw; (try dsimp only at hSw); go_simp; try with_reducible rfl)
        try simp only [Act.put, List.setIfInBounds_toArray, List.set_cons_zero, List.set_cons_succ]
        refine wpAnyH_ready (rs := [1]) (by kernel_rfl) (by simp) ?_
        refine AllReadyH.cons (o := { dst := some 10, op := Go.Op.call { callee := Go.Callee.value (Go.Operand.func 71), args := #[Go.Operand.tmp 9], argTypes := #[36] }, type := 4, pos := "family.go:59", after := #[{ on := 0, ground := Go.Ground.data }], guard := none }) rfl (fun K hK => ?_) AllReadyH.nil
        go_simp
        refine (HAC.out _ hHeld).mono ?_
        rintro e w6 ⟨rfl, hb6⟩
        rw [hac]
        refine hK.out _ _ ?_ (fun hHeld => ?_)
        · first | assumption | exact Below.then (by assumption) (by assumption)
        clear hK K
        try simp only [Act.put, List.setIfInBounds_toArray, List.set_cons_zero, List.set_cons_succ]
        refine wpAnyH_take (i := 2) (oi := { dst := some 11, op := Go.Op.unOp Go.UnOp.not 4 (Go.Operand.tmp 10), type := 4, pos := "family.go:59", after := #[{ on := 1, ground := Go.Ground.data }], guard := none }) (v := ?_) rfl (by kernel_rfl) (by kernel_rfl) (by kernel_rfl) (fun _ _ _ h => h) (Or.inl ⟨by rfl, ?hy⟩) (by assumption) ?_
        case hy => (intro w9 hSw; (try dsimp only at hSw); go_simp; try with_reducible rfl)
        try simp only [Act.put, List.setIfInBounds_toArray, List.set_cons_zero, List.set_cons_succ]
        refine wpAnyH_take (i := 3) (oi := { dst := some 12, op := Go.Op.move (Go.Operand.tmp 11), type := 4, pos := "family.go:59", after := #[{ on := 2, ground := Go.Ground.data }, { on := 1, ground := Go.Ground.chain }], guard := none }) (v := ?_) rfl (by kernel_rfl) (by kernel_rfl) (by kernel_rfl) (fun _ _ _ h => h) (Or.inl ⟨by rfl, ?hy⟩) (by assumption) ?_
        case hy => (intro w9 hSw; (try dsimp only at hSw); go_simp; try with_reducible rfl)
        try simp only [Act.put, List.setIfInBounds_toArray, List.set_cons_zero, List.set_cons_succ]
        refine wpAnyH_take (i := 4) (oi := { dst := some 13, op := Go.Op.load 36 (Go.Operand.tmp 1), type := 36, pos := "family.go:59", after := #[{ on := 3, ground := Go.Ground.guard }], guard := some (3, false) }) (v := ?_) rfl (by kernel_rfl) (by kernel_rfl) (by kernel_rfl) (fun _ _ _ h => h) (Or.inl ⟨by rfl, ?hy⟩) (by assumption) ?_
        case hy => (intro w9 hSw; (try dsimp only at hSw); go_simp; try with_reducible rfl)
        try simp only [Act.put, List.setIfInBounds_toArray, List.set_cons_zero, List.set_cons_succ]
        refine wpAnyH_take (i := 6) (oi := { dst := some 15, op := Go.Op.fieldAddr 36 (Go.Operand.tmp 1) 0, type := 0, pos := "family.go:59", after := #[{ on := 3, ground := Go.Ground.guard }], guard := some (3, false) }) (v := ?_) rfl (by kernel_rfl) (by kernel_rfl) (by kernel_rfl) (fun _ _ _ h => h) (Or.inl ⟨by rfl, ?hy⟩) (by assumption) ?_
        case hy => (intro w9 hSw; (try dsimp only at hSw); go_simp; try with_reducible rfl)
        try simp only [Act.put, List.setIfInBounds_toArray, List.set_cons_zero, List.set_cons_succ]
        refine wpAnyH_take (i := 7) (oi := { dst := some 16, op := Go.Op.load 3 (Go.Operand.tmp 15), type := 3, pos := "family.go:59", after := #[{ on := 6, ground := Go.Ground.data }, { on := 3, ground := Go.Ground.guard }], guard := some (3, false) }) (v := ?_) rfl (by kernel_rfl) (by kernel_rfl) (by kernel_rfl) (fun _ _ _ h => h) (Or.inl ⟨by rfl, ?hy⟩) (by assumption) ?_
        case hy => (intro w9 hSw; (try dsimp only at hSw); go_simp; try with_reducible rfl)
        try simp only [Act.put, List.setIfInBounds_toArray, List.set_cons_zero, List.set_cons_succ]
        refine wpAnyH_ready (rs := [5]) (by kernel_rfl) (by simp) ?_
        refine AllReadyH.cons (o := { dst := some 14, op := Go.Op.call { callee := Go.Callee.value (Go.Operand.func 69), args := #[Go.Operand.tmp 13, Go.Operand.const (Go.Value.int Go.IntKind.i64 0)], argTypes := #[36, 3] }, type := 3, pos := "family.go:59", after := #[{ on := 4, ground := Go.Ground.data }, { on := 3, ground := Go.Ground.chain }, { on := 3, ground := Go.Ground.guard }], guard := some (3, false) }) rfl (fun K hK => ?_) AllReadyH.nil
        go_simp
        refine (HTG.out _ hHeld).mono ?_
        rintro e w7 ⟨rfl, hb7⟩
        refine hK.out _ _ ?_ (fun hHeld => ?_)
        · first | assumption | exact Below.then (by assumption) (by assumption)
        clear hK K
        try simp only [Act.put, List.setIfInBounds_toArray, List.set_cons_zero, List.set_cons_succ]
        refine wpAnyH_ready (rs := [8]) (by kernel_rfl) (by simp) ?_
        refine AllReadyH.cons (o := { dst := some 17, op := Go.Op.call { callee := Go.Callee.value (Go.Operand.func 30), args := #[Go.Operand.tmp 16], argTypes := #[3] }, type := 3, pos := "family.go:59", after := #[{ on := 7, ground := Go.Ground.data }, { on := 5, ground := Go.Ground.chain }, { on := 3, ground := Go.Ground.guard }], guard := some (3, false) }) rfl (fun K hK => ?_) AllReadyH.nil
        go_simp
        refine (all_any n _ hn10).mono ?_
        rintro e w8 ⟨rfl, hw8⟩
        subst hw8
        refine hK.out _ _ ?_ (fun hHeld => ?_)
        · first | assumption | exact Below.then (by assumption) (by assumption)
        clear hK K
        try simp only [Act.put, List.setIfInBounds_toArray, List.set_cons_zero, List.set_cons_succ]
        refine wpAnyH_take (i := 9) (oi := { dst := some 18, op := Go.Op.binOp Go.BinOp.neq 3 (Go.Operand.tmp 14) (Go.Operand.tmp 17) 3, type := 4, pos := "family.go:59", after := #[{ on := 5, ground := Go.Ground.data }, { on := 8, ground := Go.Ground.data }, { on := 3, ground := Go.Ground.guard }], guard := some (3, false) }) (v := ?_) rfl (by kernel_rfl) (by kernel_rfl) (by kernel_rfl) (fun _ _ _ h => h) (Or.inl ⟨by rfl, ?hy⟩) (by assumption) ?_
        case hy => (intro w9 hSw; (try dsimp only at hSw); go_simp; try with_reducible rfl)
        try simp only [Act.put, List.setIfInBounds_toArray, List.set_cons_zero, List.set_cons_succ]
        refine wpAnyH_take (i := 10) (oi := { dst := some 19, op := Go.Op.pick (Go.Operand.tmp 12) (Go.Operand.const (Go.Value.bool true)) (Go.Operand.tmp 18), type := 4, pos := "family.go:59", after := #[{ on := 3, ground := Go.Ground.data }, { on := 9, ground := Go.Ground.data }], guard := none }) (v := ?_) rfl (by kernel_rfl) (by kernel_rfl) (by kernel_rfl) (fun _ _ _ h => h) (Or.inl ⟨by rfl, ?hy⟩) (by assumption) ?_
        case hy => (intro w9 hSw; (try dsimp only at hSw); go_simp; try with_reducible rfl)
        try simp only [Act.put, List.setIfInBounds_toArray, List.set_cons_zero, List.set_cons_succ]
        refine wpAnyH_done (by kernel_rfl) ?_ _
        try simp only [Act.put, List.setIfInBounds_toArray, List.set_cons_zero, List.set_cons_succ]
        go_wp2_with fail
        go_ret
        exact ⟨⟨_, rfl, HF4.out HN.out⟩, Below.then HB0.out (by assumption)⟩
  · have hne : (c != 0) = true := by simpa using h0
    have HC : Hid (FChk N len f c) := hc
    clear hc
    go_wp2_with fail
    go_ret
    exact ⟨⟨c, rfl, .inl ⟨h0, HC.out⟩⟩, Below.then HB0.out HB1.out⟩

/-- What is wrong with a family of which hulls are asked, and a set. -/
def SCk (N : Int) (len : Nat) (f : Nat → Int) (S : Int) (c : Int) : Prop :=
  (c ≠ 0 ∧ WCk N len f c) ∨ ∃ n : Nat, N = n ∧ n ≤ 10 ∧ WCk N len f 0 ∧ ((c = 3 ∧ ¬ (0 ≤ S ∧ S < (pw n : Nat))) ∨ (c = 0 ∧ (0 ≤ S ∧ S < (pw n : Nat))))
theorem SCk.unique {N : Int} {len : Nat} {f : Nat → Int} {S c c' : Int} (h : SCk N len f S c) (h' : SCk N len f S c') : c = c' := by
  rcases h with ⟨h0, h⟩ | ⟨n, rfl, h10, hw, h⟩
  · rcases h' with ⟨h0', h'⟩ | ⟨n, rfl, h10, hw, _⟩
    · exact h.unique h'
    · exact absurd (h.unique hw) h0
  · rcases h' with ⟨h0', h'⟩ | ⟨n', e, _, _, h'⟩
    · exact absurd (h'.unique hw) h0'
    · obtain rfl : n' = n := by omega
      rcases h with ⟨rfl, h⟩ | ⟨rfl, h⟩ <;> rcases h' with ⟨rfl, h'⟩ | ⟨rfl, h'⟩ <;> first | rfl | (exact absurd h h') | (exact absurd h' h)
theorem SCk.good {N : Int} {len : Nat} {f : Nat → Int} {S : Int} (h : SCk N len f S 0) : ∃ n s : Nat, N = n ∧ S = s ∧ n ≤ 10 ∧ s < pw n ∧ FIn n len f ∧ FRis len f ∧ Whl n len f := by
  rcases h with ⟨h0, _⟩ | ⟨n, rfl, h10, hw, ⟨h, _⟩ | ⟨_, h⟩⟩
  · exact absurd rfl h0
  · cases h
  · obtain ⟨n', e, _, h1, h2, h3⟩ := hw.good
    obtain rfl : n' = n := by omega
    exact ⟨n', S.toNat, rfl, by omega, h10, by omega, h1, h2, h3⟩
set_option maxHeartbeats 1000000 in
theorem checkSet_any (N : Int) (a : Option Addr) (len cap : Nat) (f : Nat → Int) (S : Int) (w : World) (hl : len ≤ maxLen) (hr : Row w a len f) (hT : Tab w) :
    Calls Tryd.prog 44 #[.agg #[.int .i64 N, .slice a len cap], .int .i64 S] w fun e w' => (∃ c : Int, e = .returned (.int .i64 c) ∧ SCk N len f S c) ∧ Below w.heap.size w w' := by
  obtain ⟨W0, HW0⟩ : ∃ W0, Hid (W0 = w.alloc (.cells #[.int .i64 N, .slice a len cap] 36)) := ⟨_, rfl⟩
  have HB0 : Hid (Below w.heap.size w W0) := by rw [HW0.out]; exact (Below.refl _ _).alloc (Nat.le_refl _) _
  have K0 : Held W0 w.heap.size N a len cap f := by rw [HW0.out]; exact Fam.box hr
  have HT0 : Hid (Tab W0) := hT.step HB0.out
  have HCK := (show Hid (Calls Tryd.prog 46 #[.agg #[.int .i64 N, .slice a len cap]] W0 _) from checkWhole_any N a len cap f W0 hl K0.row HT0.out)
  have k0 := K0.c0
  have k1 := K0.c1
  clear hr hT
  go_enter Tryd.func44, Tryd.ntmps44
  go_wp2_with fail
  rw [← HW0.out]
  refine HCK.out.mono ?_
  rintro e w1 ⟨⟨c, rfl, hc⟩, hb1⟩
  have HB1 : Hid (Below W0.heap.size W0 w1) := hb1
  clear HCK k0 k1
  have k0 := (K0.step hb1).c0
  have k1 := (K0.step hb1).c1
  clear hb1
  have HC : Hid (WCk N len f c) := hc
  by_cases h0 : c = 0
  · subst h0
    obtain ⟨n, rfl, hn10, _, _, _⟩ := hc.good
    clear hc
    rcases (Bool.eq_false_or_eq_true (sts S n)).symm with hs | hs
    · have HS : Hid (¬ (0 ≤ S ∧ S < (pw n : Nat))) := by simpa [sts, Hid] using hs
      go_wp2_with fail
      refine (isSet_any S n _ hn10).mono ?_
      rintro e w' ⟨rfl, rfl⟩
      rw [hs]
      go_wp2_with fail
      go_ret
      exact ⟨⟨_, rfl, .inr ⟨n, rfl, hn10, HC.out, .inl ⟨rfl, HS.out⟩⟩⟩, Below.then HB0.out HB1.out⟩
    · have HS : Hid (0 ≤ S ∧ S < (pw n : Nat)) := by simpa [sts, Hid] using hs
      go_wp2_with fail
      refine (isSet_any S n _ hn10).mono ?_
      rintro e w' ⟨rfl, rfl⟩
      rw [hs]
      go_wp2_with fail
      go_ret
      exact ⟨⟨_, rfl, .inr ⟨n, rfl, hn10, HC.out, .inr ⟨rfl, HS.out⟩⟩⟩, Below.then HB0.out HB1.out⟩
  · have hne : (c != 0) = true := by simpa using h0
    clear hc
    go_wp2_with fail
    go_ret
    exact ⟨⟨c, rfl, .inl ⟨h0, HC.out⟩⟩, Below.then HB0.out HB1.out⟩

/-- A number behind an error, or F of the points and the set. -/
def NumIs (N : Int) (len : Nat) (f : Nat → Int) (S : Int) (F : Nat → Nat → Nat) (e : Ending) : Prop :=
  (∃ c, c ≠ 0 ∧ SCk N len f S c ∧ e = .returned (.tuple #[.int .i64 0, .int .i64 c])) ∨
  ∃ n s : Nat, N = n ∧ S = s ∧ n ≤ 10 ∧ s < pw n ∧ SCk N len f S 0 ∧ FIn n len f ∧ FRis len f ∧ Whl n len f ∧ e = .returned (.tuple #[.int .i64 (F n s : Nat), .int .i64 0])
set_option maxHeartbeats 1000000 in
theorem hullX_any (N : Int) (a : Option Addr) (len cap : Nat) (f : Nat → Int) (S : Int) (w : World) (hl : len ≤ maxLen) (hr : Row w a len f) (hT : Tab w) :
    Calls Tryd.prog 21 #[.agg #[.int .i64 N, .slice a len cap], .int .i64 S] w fun e w' => NumIs N len f S (hul (nat f) len) e ∧ Below w.heap.size w w' := by
  obtain ⟨W0, HW0⟩ : ∃ W0, Hid (W0 = w.alloc (.cells #[.int .i64 N, .slice a len cap] 36)) := ⟨_, rfl⟩
  have HB0 : Hid (Below w.heap.size w W0) := by rw [HW0.out]; exact (Below.refl _ _).alloc (Nat.le_refl _) _
  have K0 : Held W0 w.heap.size N a len cap f := by rw [HW0.out]; exact Fam.box hr
  have HT0 : Hid (Tab W0) := hT.step HB0.out
  have HCK := (show Hid (Calls Tryd.prog 44 #[.agg #[.int .i64 N, .slice a len cap], .int .i64 S] W0 _) from checkSet_any N a len cap f S W0 hl K0.row HT0.out)
  have k0 := K0.c0
  have k1 := K0.c1
  clear hr hT
  go_enter Tryd.func21, Tryd.ntmps21
  go_wp2_with fail
  rw [← HW0.out]
  refine HCK.out.mono ?_
  rintro e w1 ⟨⟨c, rfl, hc⟩, hb1⟩
  have HB1 : Hid (Below W0.heap.size W0 w1) := hb1
  clear HCK k0 k1
  have K1 := K0.step hb1
  have k0 := K1.c0
  have k1 := K1.c1
  clear hb1
  have HC : Hid (SCk N len f S c) := hc
  by_cases h0 : c = 0
  · subst h0
    obtain ⟨n, s, rfl, rfl, h10, hs, hin, hris, hw⟩ := hc.good
    have HF : Hid (FIn n len f ∧ FRis len f ∧ Whl n len f) := ⟨hin, hris, hw⟩
    have HHU := (show Hid (Calls Tryd.prog 45 #[.agg #[.int .i64 (n : Nat), .slice a len cap], .int .i64 (s : Nat)] w1 _) from hull_any n a len cap (nat f) s w1 h10 hl hin.small (by have := pw_le n h10; omega) (hin.row K1.row))
    clear hc hin hris hw K1
    go_wp2_with fail
    refine HHU.out.mono ?_
    rintro e w2 ⟨rfl, hb2⟩
    have HB2 : Hid (Below W0.heap.size W0 w2) := Below.then HB1.out hb2
    clear hb2 HHU k0 k1
    go_wp2_with fail
    go_ret2
    exact ⟨.inr ⟨n, s, rfl, rfl, h10, hs, HC.out, HF.out.1, HF.out.2.1, HF.out.2.2, rfl⟩, Below.then HB0.out HB2.out⟩
  · have hne : (c != 0) = true := by simpa using h0
    clear hc
    go_wp2_with fail
    go_ret2
    exact ⟨.inl ⟨c, h0, HC.out, rfl⟩, Below.then HB0.out HB1.out⟩
end Go.Proofs.YtglkjeidkjkdaaaDoor
