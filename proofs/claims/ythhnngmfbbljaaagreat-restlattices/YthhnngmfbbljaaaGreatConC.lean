/-
  What concept's closings, closedThings and firstBehind answer. Conditions: as each theorem says.
-/
import Derived.Deep.RegionHeld3
import Derived.Test.YthhnngmfbbljaaaGreatConPc
namespace Go.Proofs.YthhnngmfbbljaaaGreat
set_option maxRecDepth 100000
open Go.RowKit

/-- A call of F enters F. -/
def EntF (F : Nat) : Prop := ∀ (args : Array Value) (w : World), Sem.run Tryz.prog (callFunc F args) w = .ok (.enter F args) w
/-- A closure that answers J of a set, wherever what lay at first still lies. -/
def CloC (F : Nat) (caps : Array Value) (J : Nat → Nat) (w : World) : Prop :=
  ∀ s : Nat, s < 1024 → ∀ W : World, Below w.heap.size w W → Calls Tryz.prog F (#[.int .i64 (s : Nat)] ++ caps) W fun e w' => e = .returned (.int .i64 (J s : Nat)) ∧ Below W.heap.size W w'
theorem CloC.step {F : Nat} {caps : Array Value} {J : Nat → Nat} {w W : World} (h : CloC F caps J w) (hb : Below w.heap.size w W) : CloC F caps J W :=
  fun s hs W' hW => h s hs W' (Below.then hb hW)
theorem ent_tc : EntF 68 := fun _ _ => rfl
theorem ent_mc : EntF 77 := fun _ _ => rfl

set_option maxHeartbeats 2000000 in
theorem tc_any (n m B : Nat) (a : Option Addr) (cap : Nat) (h : Nat → Nat) (w : World) (h10 : n ≤ 10) (m10 : m ≤ 10) (hh : ∀ k, k < n → h k < 1024) (hB : GHeld w B (n : Int) (m : Int) a n cap (fun k => (h k : Nat))) :
    CloC 68 #[.pointer (some ⟨B, 0, none⟩)] (clt h n m) w := fun s hs W hW => by
  show Calls Tryz.prog 68 #[.int .i64 (s : Nat), .pointer (some ⟨B, 0, none⟩)] W _
  have H0 := hB.step hW
  have HG : Hid (∀ k, k < n → h k < 1024) := hh
  have hl : mks h n m s < 1024 := Nat.lt_of_lt_of_le (mks_lt _ _ _ _) (pw_le m m10)
  have l0 : ∀ w', Below W.heap.size W w' → w'.cell? ⟨B, 0, none⟩ = some (.int .i64 (n : Int)) := fun w' h => (H0.step h).c0
  have l1 : ∀ w', Below W.heap.size W w' → w'.cell? ⟨B, 1, none⟩ = some (.int .i64 (m : Int)) := fun w' h => (H0.step h).c1
  have l2 : ∀ w', Below W.heap.size W w' → w'.cell? ⟨B, 2, none⟩ = some (.slice a n cap) := fun w' h => (H0.step h).c2
  have HR : Hid (∀ w', Below W.heap.size W w' → Row w' a n (fun k => (h k : Nat))) := fun w' h => (H0.step h).row
  clear hh hB hW H0
  go_enter Tryz.func68, Tryz.ntmps68
  have KK : Below W.heap.size W W.drew := (Below.refl _ _).drew
  go_wp2_with fail
  refine wp_region_held_drew (S := (fun w' => Below W.heap.size W w')) (by kernel_rfl) (KK) (fun hHeld => ?_)
  refine wpAnyH_take (i := 0) (oi := { dst := some 4, op := Go.Op.load 29 (Go.Operand.tmp 1), type := 29, pos := "concept.go:109", after := #[], guard := none }) (v := ?_) rfl (by kernel_rfl) (by kernel_rfl) (by kernel_rfl) (fun _ _ _ h => h) (Or.inl ⟨by rfl, ?hy⟩) (by assumption) ?_
  case hy => (intro w9 hSw; (try dsimp only at hSw); go_simp; try with_reducible rfl)
  try simp only [Act.put, List.setIfInBounds_toArray, List.set_cons_zero, List.set_cons_succ]
  refine wpAnyH_take (i := 1) (oi := { dst := some 5, op := Go.Op.load 29 (Go.Operand.tmp 1), type := 29, pos := "concept.go:109", after := #[], guard := none }) (v := ?_) rfl (by kernel_rfl) (by kernel_rfl) (by kernel_rfl) (fun _ _ _ h => h) (Or.inl ⟨by rfl, ?hy⟩) (by assumption) ?_
  case hy => (intro w9 hSw; (try dsimp only at hSw); go_simp; try with_reducible rfl)
  try simp only [Act.put, List.setIfInBounds_toArray, List.set_cons_zero, List.set_cons_succ]
  refine wpAnyH_take (i := 2) (oi := { dst := some 6, op := Go.Op.move (Go.Operand.tmp 0), type := 3, pos := "concept.go:109", after := #[], guard := none }) (v := ?_) rfl (by kernel_rfl) (by kernel_rfl) (by kernel_rfl) (fun _ _ _ h => h) (Or.inl ⟨by rfl, ?hy⟩) (by assumption) ?_
  case hy => (intro w9 hSw; (try dsimp only at hSw); go_simp; try with_reducible rfl)
  try simp only [Act.put, List.setIfInBounds_toArray, List.set_cons_zero, List.set_cons_succ]
  refine wpAnyH_ready (rs := [3]) (by kernel_rfl) (by simp) ?_
  refine AllReadyH.cons (o := { dst := some 7, op := Go.Op.call { callee := Go.Callee.value (Go.Operand.func 53), args := #[Go.Operand.tmp 5, Go.Operand.tmp 6], argTypes := #[29, 3] }, type := 3, pos := "concept.go:109", after := #[{ on := 1, ground := Go.Ground.data }, { on := 2, ground := Go.Ground.data }], guard := none }) rfl (fun K hK => ?_) AllReadyH.nil
  go_simp
  refine (marksOf_any a n m cap h s _ h10 m10 HG.out (HR.out _ (by assumption)) hs).mono ?_
  rintro e w1 ⟨rfl, hb1⟩
  refine hK.out _ _ ?_ (fun hHeld => ?_)
  · first | assumption | exact Below.then (by assumption) (by assumption)
  clear hK K
  try simp only [Act.put, List.setIfInBounds_toArray, List.set_cons_zero, List.set_cons_succ]
  refine wpAnyH_ready (rs := [4]) (by kernel_rfl) (by simp) ?_
  refine AllReadyH.cons (o := { dst := some 8, op := Go.Op.call { callee := Go.Callee.value (Go.Operand.func 69), args := #[Go.Operand.tmp 4, Go.Operand.tmp 7], argTypes := #[29, 3] }, type := 3, pos := "concept.go:109", after := #[{ on := 0, ground := Go.Ground.data }, { on := 3, ground := Go.Ground.data }, { on := 3, ground := Go.Ground.chain }], guard := none }) rfl (fun K hK => ?_) AllReadyH.nil
  go_simp
  refine (thingsWith_any a n m cap h (mks h n m s) _ h10 HG.out (HR.out _ (by assumption)) hl).mono ?_
  rintro e w2 ⟨rfl, hb2⟩
  refine hK.out _ _ ?_ (fun hHeld => ?_)
  · first | assumption | exact Below.then (by assumption) (by assumption)
  clear hK K
  try simp only [Act.put, List.setIfInBounds_toArray, List.set_cons_zero, List.set_cons_succ]
  refine wpAnyH_take (i := 5) (oi := { dst := some 3, op := Go.Op.assign (Go.Operand.tmp 8), type := 3, pos := "concept.go:109", after := #[{ on := 4, ground := Go.Ground.data }, { on := 4, ground := Go.Ground.chain }, { on := 0, ground := Go.Ground.phase }, { on := 1, ground := Go.Ground.phase }, { on := 2, ground := Go.Ground.phase }, { on := 3, ground := Go.Ground.phase }, { on := 4, ground := Go.Ground.phase }], guard := none }) (v := ?_) rfl (by kernel_rfl) (by kernel_rfl) (by kernel_rfl) (fun _ _ _ h => h) (Or.inl ⟨by rfl, ?hy⟩) (by assumption) ?_
  case hy => (intro w9 hSw; (try dsimp only at hSw); go_simp; try with_reducible rfl)
  try simp only [Act.put, List.setIfInBounds_toArray, List.set_cons_zero, List.set_cons_succ]
  refine wpAnyH_done (by kernel_rfl) ?_ _
  try simp only [Act.put, List.setIfInBounds_toArray, List.set_cons_zero, List.set_cons_succ]
  have hb8 : Below W.heap.size W w2 := by first | assumption | exact hHeld
  have HB8 : Hid (Below W.heap.size W w2) := hb8
  clear hb8
  go_wp2_with fail
  go_ret
  exact ⟨rfl, HB8.out⟩
set_option maxHeartbeats 2000000 in
theorem mc_any (n m B : Nat) (a : Option Addr) (cap : Nat) (h : Nat → Nat) (w : World) (h10 : n ≤ 10) (m10 : m ≤ 10) (hh : ∀ k, k < n → h k < 1024) (hB : GHeld w B (n : Int) (m : Int) a n cap (fun k => (h k : Nat))) :
    CloC 77 #[.pointer (some ⟨B, 0, none⟩)] (clm h n m) w := fun s hs W hW => by
  show Calls Tryz.prog 77 #[.int .i64 (s : Nat), .pointer (some ⟨B, 0, none⟩)] W _
  have H0 := hB.step hW
  have HG : Hid (∀ k, k < n → h k < 1024) := hh
  have hl : ths h n s < 1024 := Nat.lt_of_lt_of_le (ths_lt _ _ _) (pw_le n h10)
  have l0 : ∀ w', Below W.heap.size W w' → w'.cell? ⟨B, 0, none⟩ = some (.int .i64 (n : Int)) := fun w' h => (H0.step h).c0
  have l1 : ∀ w', Below W.heap.size W w' → w'.cell? ⟨B, 1, none⟩ = some (.int .i64 (m : Int)) := fun w' h => (H0.step h).c1
  have l2 : ∀ w', Below W.heap.size W w' → w'.cell? ⟨B, 2, none⟩ = some (.slice a n cap) := fun w' h => (H0.step h).c2
  have HR : Hid (∀ w', Below W.heap.size W w' → Row w' a n (fun k => (h k : Nat))) := fun w' h => (H0.step h).row
  clear hh hB hW H0
  go_enter Tryz.func77, Tryz.ntmps77
  have KK : Below W.heap.size W W.drew := (Below.refl _ _).drew
  go_wp2_with fail
  refine wp_region_held_drew (S := (fun w' => Below W.heap.size W w')) (by kernel_rfl) (KK) (fun hHeld => ?_)
  refine wpAnyH_take (i := 0) (oi := { dst := some 4, op := Go.Op.load 29 (Go.Operand.tmp 1), type := 29, pos := "concept.go:114", after := #[], guard := none }) (v := ?_) rfl (by kernel_rfl) (by kernel_rfl) (by kernel_rfl) (fun _ _ _ h => h) (Or.inl ⟨by rfl, ?hy⟩) (by assumption) ?_
  case hy => (intro w9 hSw; (try dsimp only at hSw); go_simp; try with_reducible rfl)
  try simp only [Act.put, List.setIfInBounds_toArray, List.set_cons_zero, List.set_cons_succ]
  refine wpAnyH_take (i := 1) (oi := { dst := some 5, op := Go.Op.load 29 (Go.Operand.tmp 1), type := 29, pos := "concept.go:114", after := #[], guard := none }) (v := ?_) rfl (by kernel_rfl) (by kernel_rfl) (by kernel_rfl) (fun _ _ _ h => h) (Or.inl ⟨by rfl, ?hy⟩) (by assumption) ?_
  case hy => (intro w9 hSw; (try dsimp only at hSw); go_simp; try with_reducible rfl)
  try simp only [Act.put, List.setIfInBounds_toArray, List.set_cons_zero, List.set_cons_succ]
  refine wpAnyH_take (i := 2) (oi := { dst := some 6, op := Go.Op.move (Go.Operand.tmp 0), type := 3, pos := "concept.go:114", after := #[], guard := none }) (v := ?_) rfl (by kernel_rfl) (by kernel_rfl) (by kernel_rfl) (fun _ _ _ h => h) (Or.inl ⟨by rfl, ?hy⟩) (by assumption) ?_
  case hy => (intro w9 hSw; (try dsimp only at hSw); go_simp; try with_reducible rfl)
  try simp only [Act.put, List.setIfInBounds_toArray, List.set_cons_zero, List.set_cons_succ]
  refine wpAnyH_ready (rs := [3]) (by kernel_rfl) (by simp) ?_
  refine AllReadyH.cons (o := { dst := some 7, op := Go.Op.call { callee := Go.Callee.value (Go.Operand.func 69), args := #[Go.Operand.tmp 5, Go.Operand.tmp 6], argTypes := #[29, 3] }, type := 3, pos := "concept.go:114", after := #[{ on := 1, ground := Go.Ground.data }, { on := 2, ground := Go.Ground.data }], guard := none }) rfl (fun K hK => ?_) AllReadyH.nil
  go_simp
  refine (thingsWith_any a n m cap h s _ h10 HG.out (HR.out _ (by assumption)) hs).mono ?_
  rintro e w1 ⟨rfl, hb1⟩
  refine hK.out _ _ ?_ (fun hHeld => ?_)
  · first | assumption | exact Below.then (by assumption) (by assumption)
  clear hK K
  try simp only [Act.put, List.setIfInBounds_toArray, List.set_cons_zero, List.set_cons_succ]
  refine wpAnyH_ready (rs := [4]) (by kernel_rfl) (by simp) ?_
  refine AllReadyH.cons (o := { dst := some 8, op := Go.Op.call { callee := Go.Callee.value (Go.Operand.func 53), args := #[Go.Operand.tmp 4, Go.Operand.tmp 7], argTypes := #[29, 3] }, type := 3, pos := "concept.go:114", after := #[{ on := 0, ground := Go.Ground.data }, { on := 3, ground := Go.Ground.data }, { on := 3, ground := Go.Ground.chain }], guard := none }) rfl (fun K hK => ?_) AllReadyH.nil
  go_simp
  refine (marksOf_any a n m cap h (ths h n s) _ h10 m10 HG.out (HR.out _ (by assumption)) hl).mono ?_
  rintro e w2 ⟨rfl, hb2⟩
  refine hK.out _ _ ?_ (fun hHeld => ?_)
  · first | assumption | exact Below.then (by assumption) (by assumption)
  clear hK K
  try simp only [Act.put, List.setIfInBounds_toArray, List.set_cons_zero, List.set_cons_succ]
  refine wpAnyH_take (i := 5) (oi := { dst := some 3, op := Go.Op.assign (Go.Operand.tmp 8), type := 3, pos := "concept.go:114", after := #[{ on := 4, ground := Go.Ground.data }, { on := 4, ground := Go.Ground.chain }, { on := 0, ground := Go.Ground.phase }, { on := 1, ground := Go.Ground.phase }, { on := 2, ground := Go.Ground.phase }, { on := 3, ground := Go.Ground.phase }, { on := 4, ground := Go.Ground.phase }], guard := none }) (v := ?_) rfl (by kernel_rfl) (by kernel_rfl) (by kernel_rfl) (fun _ _ _ h => h) (Or.inl ⟨by rfl, ?hy⟩) (by assumption) ?_
  case hy => (intro w9 hSw; (try dsimp only at hSw); go_simp; try with_reducible rfl)
  try simp only [Act.put, List.setIfInBounds_toArray, List.set_cons_zero, List.set_cons_succ]
  refine wpAnyH_done (by kernel_rfl) ?_ _
  try simp only [Act.put, List.setIfInBounds_toArray, List.set_cons_zero, List.set_cons_succ]
  have hb8 : Below W.heap.size W w2 := by first | assumption | exact hHeld
  have HB8 : Hid (Below W.heap.size W w2) := hb8
  clear hb8
  go_wp2_with fail
  go_ret
  exact ⟨rfl, HB8.out⟩

theorem thingsClosing_any (n m : Nat) (a : Option Addr) (cap : Nat) (h : Nat → Nat) (w : World) (h10 : n ≤ 10) (m10 : m ≤ 10) (hh : ∀ k, k < n → h k < 1024) (hr : Row w a n (fun k => (h k : Nat))) :
    Calls Tryz.prog 42 #[.agg #[.int .i64 (n : Int), .int .i64 (m : Int), .slice a n cap]] w fun e w' => e = .returned (.func (.func 68) #[] #[.pointer (some ⟨w.heap.size, 0, none⟩)]) ∧ CloC 68 #[.pointer (some ⟨w.heap.size, 0, none⟩)] (clt h n m) w' ∧ Below w.heap.size w w' := by
  have K0 : Hid (GHeld (w.alloc (.cells #[.int .i64 (n : Int), .int .i64 (m : Int), .slice a n cap] 29)) w.heap.size n m a n cap (fun k => (h k : Nat))) := GHeld.box hr
  have HB0 : Hid (Below w.heap.size w (w.alloc (.cells #[.int .i64 (n : Int), .int .i64 (m : Int), .slice a n cap] 29))) := (Below.refl _ _).alloc (Nat.le_refl _) _
  have HC : Hid (CloC 68 #[.pointer (some ⟨w.heap.size, 0, none⟩)] (clt h n m) (w.alloc (.cells #[.int .i64 (n : Int), .int .i64 (m : Int), .slice a n cap] 29))) := tc_any n m _ a cap h _ h10 m10 hh K0.out
  clear hr hh
  go_enter Tryz.func42, Tryz.ntmps42
  go_wp2
  go_ret
  exact ⟨rfl, HC.out, HB0.out⟩
theorem marksClosing_any (n m : Nat) (a : Option Addr) (cap : Nat) (h : Nat → Nat) (w : World) (h10 : n ≤ 10) (m10 : m ≤ 10) (hh : ∀ k, k < n → h k < 1024) (hr : Row w a n (fun k => (h k : Nat))) :
    Calls Tryz.prog 56 #[.agg #[.int .i64 (n : Int), .int .i64 (m : Int), .slice a n cap]] w fun e w' => e = .returned (.func (.func 77) #[] #[.pointer (some ⟨w.heap.size, 0, none⟩)]) ∧ CloC 77 #[.pointer (some ⟨w.heap.size, 0, none⟩)] (clm h n m) w' ∧ Below w.heap.size w w' := by
  have K0 : Hid (GHeld (w.alloc (.cells #[.int .i64 (n : Int), .int .i64 (m : Int), .slice a n cap] 29)) w.heap.size n m a n cap (fun k => (h k : Nat))) := GHeld.box hr
  have HB0 : Hid (Below w.heap.size w (w.alloc (.cells #[.int .i64 (n : Int), .int .i64 (m : Int), .slice a n cap] 29))) := (Below.refl _ _).alloc (Nat.le_refl _) _
  have HC : Hid (CloC 77 #[.pointer (some ⟨w.heap.size, 0, none⟩)] (clm h n m) (w.alloc (.cells #[.int .i64 (n : Int), .int .i64 (m : Int), .slice a n cap] 29))) := mc_any n m _ a cap h _ h10 m10 hh K0.out
  clear hr hh
  go_enter Tryz.func56, Tryz.ntmps56
  go_wp2
  go_ret
  exact ⟨rfl, HC.out, HB0.out⟩

set_option maxHeartbeats 2000000 in
theorem closedThings_any (n m : Nat) (a : Option Addr) (cap : Nat) (h : Nat → Nat) (w : World) (h10 : n ≤ 10) (m10 : m ≤ 10) (hh : ∀ k, k < n → h k < 1024) (hr : Row w a n (fun k => (h k : Nat))) :
    Calls Tryz.prog 41 #[.agg #[.int .i64 (n : Int), .int .i64 (m : Int), .slice a n cap]] w fun e w' => (∃ v, e = .returned v ∧ NSl w' v (tsets h n m)) ∧ Below w.heap.size w w' := by
  obtain ⟨W, HW⟩ : ∃ W, Hid (W = w.alloc (.cells #[.int .i64 (n : Int), .int .i64 (m : Int), .slice a n cap] 29)) := ⟨_, rfl⟩
  have B0 : Below w.heap.size w W := by rw [HW.out]; exact (Below.refl _ _).alloc (Nat.le_refl _) _
  have H0 : GHeld W w.heap.size n m a n cap (fun k => (h k : Nat)) := by rw [HW.out]; exact GHeld.box hr
  have HCALL : Hid (Calls Tryz.prog 42 #[.agg #[.int .i64 (n : Int), .int .i64 (m : Int), .slice a n cap]] W _) := thingsClosing_any n m a cap h W h10 m10 hh H0.row
  have HB0 : Hid (Below w.heap.size w W) := B0
  have HH0 : Hid (GHeld W w.heap.size n m a n cap (fun k => (h k : Nat))) := H0
  have hpw := pw_le n h10
  have hsh := wrap_pow n (by omega)
  obtain ⟨i0, hi, hz0, hz1, hz2⟩ := info_parts Tryz.info3
  obtain ⟨I, HI⟩ : ∃ I, Hid (I = isT h n m) := ⟨_, rfl⟩
  have HIA : Hid (∀ s, (clt h n m s == s) = I s) := fun s => by rw [HI.out]; rfl
  have HCV : Hid (tsets h n m = fil I (pw n)) := by rw [HI.out]; rfl
  have k0 := H0.c0
  have k1 := H0.c1
  have k2 := H0.c2
  clear hh hr B0 H0 HI
  go_enter Tryz.func41, Tryz.ntmps41
  go_wp2_with fail
  rw [← HW.out]
  go_wp2_with fail
  clear HW k0 k1 k2
  refine HCALL.out.mono ?_
  rintro e w1 ⟨rfl, hcl, hb1⟩
  have HCL : Hid (CloC 68 #[.pointer (some ⟨W.heap.size, 0, none⟩)] (clt h n m) w1) := hcl
  have HB1 : Hid (Below w.heap.size w w1) := Below.then HB0.out hb1
  have k0 := (HH0.out.step hb1).c0
  clear hcl hb1 HCALL HH0 HB0
  obtain ⟨caps, HCP⟩ : ∃ c : Array Value, Hid (c = #[.pointer (some ⟨W.heap.size, 0, none⟩)]) := ⟨_, rfl⟩
  rw [← HCP.out] at HCL ⊢
  go_wp2_with fail
  try rw [hsh]
  clear hsh k0
  go_loopw [4, 11] (fun v i wx => ∃ s : Nat, s ≤ pw n ∧ i = .int .i64 s ∧ wx.ownsRow w1.heap.size 3 1 v (fil I s).length (natVals (fil I s)) ∧ Hid (Below w1.heap.size w1 wx)) (fun _ i _ => pw n - (intOf i).toNat)
  case atStart => exact ⟨0, Nat.zero_le _, rfl, World.ownsRow_nil _ _ _ _, Below.refl _ _⟩
  case round =>
    obtain ⟨s, hs, rfl, hown, hB⟩ := hrel
    by_cases hlt : s < pw n
    · rcases (Bool.eq_false_or_eq_true (I s)).symm with hb | hb
      · have HE : Hid (fil I (s + 1) = fil I s) := fil_no hb
        have HQ : Hid ((((clt h n m s : Nat) : Int) == ((s : Nat) : Int)) = false) := by
          have := HIA.out s; rw [hb] at this
          have h2 : clt h n m s ≠ s := by simpa using this
          exact beq_false_of_ne (by omega)
        go_wp2_with fail
        refine (HCL.out s (by omega) _ hB.out).mono ?_
        rintro e w2 ⟨rfl, hb2⟩
        have hq := HQ.out
        have HB2 : Hid (Below w1.heap.size w1 w2) := Below.then hB.out hb2
        have hown2 := owns_below hown hb2
        clear hown hb2 hB HQ
        go_wp2_with fail
        go_roundw
        case rel => exact ⟨s + 1, by omega, by go_num, by rw [HE.out]; exact hown2, HB2⟩
        case measure => simp [intOf]; omega
      · have HE : Hid (fil I (s + 1) = fil I s ++ [s]) := fil_yes hb
        have HQ : Hid ((((clt h n m s : Nat) : Int) == ((s : Nat) : Int)) = true) := by
          have := HIA.out s; rw [hb] at this
          have h2 : clt h n m s = s := by simpa using this
          rw [h2]; exact beq_self_eq_true _
        have hlen := fil_len I s
        go_wp2_with fail
        refine (HCL.out s (by omega) _ hB.out).mono ?_
        rintro e w2 ⟨rfl, hb2⟩
        have hq := HQ.out
        have HB2 : Hid (Below w1.heap.size w1 w2) := Below.then hB.out hb2
        have hown2 := owns_below hown hb2
        have hsz : w1.heap.size ≤ w2.heap.size := HB2.out.size
        clear hown hb2 hB HQ
        obtain ⟨L, HL⟩ : ∃ L, Hid (L = fil I s) := ⟨_, rfl⟩
        rw [← HL.out] at hown2 hlen
        go_wp2_with (at_builtin; refine wpList_append_own _ rfl _ _ 22 rfl w1.heap.size 3 i0 (.int .i64 0) 1 8 Tryz.underlying22 hi hz0 hz1 hz2 rfl (by decide) _ _ _ rfl (hown2.alloc _) ⟨w2.heap.size, 0, none⟩ 1 1 [.int .i64 (s : Nat)] rfl rfl ?c1 ?c2 ?c3 ?c4 ?c5 ?_)
        case c1 =>
          intro j u hj
          match j, hj with
          | 0, hj => simp at hj; subst hj; simp [Addr.add]
        case c2 => intro u hu; simp at hu; subst hu; rfl
        case c3 => unfold maxLen; omega
        case c4 => omega
        case c5 => simp; omega
        intro v' w3 hown' hgrow _
        have HB3 : Hid (Below w1.heap.size w1 w3) := below_append3 HB2.out hown2 hgrow
        have HO3 : Hid (w3.ownsRow w1.heap.size 3 1 v' (fil I (s + 1)).length (natVals (fil I (s + 1)))) := by
          rw [HE.out, ← HL.out, natVals_append, List.length_append]; exact hown'
        clear hown' hgrow hown2 HB2 hlen hsz HL hq
        go_wp2_with fail
        go_roundw
        case rel => exact ⟨s + 1, by omega, by go_num, HO3.out, HB3⟩
        case measure => simp [intOf]; omega
    · have hsn : s = pw n := by omega
      have HF : Hid (NSl wr u4 (tsets h n m)) := by rw [HCV.out, ← hsn]; exact owns_nats hown
      have hle : ((pw n : Nat) : Int) ≤ (s : Int) := by omega
      clear hown hsn hlt
      go_wp2_with fail
      go_ret
      exact ⟨⟨_, rfl, HF.out⟩, Below.then HB1.out hB.out⟩

theorem and_full_lt {s k : Nat} : s &&& (pw k - 1) < pw k := by
  have := pw_pos k
  exact Nat.lt_of_le_of_lt Nat.and_le_right (by omega)
theorem next_lt {s k : Nat} (hk : k < 10) : s &&& (pw k - 1) ||| pw k < 1024 := by
  have h1 : s &&& (pw k - 1) < 2 ^ 10 := Nat.lt_of_lt_of_le and_full_lt (pw_le k (by omega))
  have h2 : pw k < 2 ^ 10 := Nat.pow_lt_pow_right (by decide) hk
  exact Nat.or_lt_two_pow (n := 10) h1 h2
/-- What firstBehind answers. -/
def fbv (o : Option Nat) : Value := .tuple #[.int .i64 ((o.getD 0 : Nat) : Int), .bool o.isSome]

set_option maxHeartbeats 2000000 in
theorem firstBehind_any (m s F : Nat) (caps : Array Value) (C : Nat → Nat) (w : World) (m10 : m ≤ 10) (hs : s < 1024) (hF : EntF F) (hC : CloC F caps C w) (hCl : ∀ x, C x < 1024) :
    Calls Tryz.prog 55 #[.int .i64 (m : Int), .int .i64 (s : Nat), .func (.func F) #[] caps] w fun e w' => e = .returned (fbv (nxt C s m)) ∧ Below w.heap.size w w' := by
  have HC : Hid (CloC F caps C w) := hC
  have HCl : Hid (∀ x, C x < 1024) := hCl
  obtain ⟨V, HV⟩ : ∃ V, Hid (V = nxt C s m) := ⟨_, rfl⟩
  rw [← HV.out]
  clear hC hCl
  go_enter Tryz.func55, Tryz.ntmps55
  go_wp2_with fail
  go_loopw [8] (fun i wx => ∃ k : Nat, k ≤ m ∧ i = .int .i64 ((k : Int) - 1) ∧ Hid (V = nxt C s k) ∧ Hid (Below w.heap.size w wx)) (fun i _ => ((intOf i) + 1).toNat)
  case atStart => exact ⟨m, Nat.le_refl _, rfl, HV, Below.refl _ _⟩
  case round =>
    clear HV
    obtain ⟨k', hk, rfl, HV, hB⟩ := hrel
    rcases k' with _ | k
    · go_wp2_with fail
      go_ret2
      exact ⟨by rw [HV.out]; rfl, hB.out⟩
    · have e1 : (((k + 1 : Nat) : Int) - 1) = (k : Int) := by omega
      rw [e1]
      have hk10 : k < 10 := by omega
      rcases (Bool.eq_false_or_eq_true (s.testBit k)).symm with hb | hb
      · have hp := pw_le k (by omega)
        have hp0 := pw_pos k
        have ea : (((pw k : Nat) : Int) - 1) = ((pw k - 1 : Nat) : Int) := by omega
        obtain ⟨A, HA⟩ : ∃ A, Hid (A = pw k - 1) := ⟨_, rfl⟩
        obtain ⟨x, HX⟩ : ∃ x, Hid (x = s &&& (pw k - 1) ||| pw k) := ⟨_, rfl⟩
        have hxl : x < 1024 := by rw [HX.out]; exact next_lt hk10
        have hcl := HCl.out x
        have hAl : A < 1024 := by rw [HA.out]; omega
        rw [← HA.out] at ea
        have v1 : bits .and .i64 ((s : Nat) : Int) ((A : Nat) : Int) = ((s &&& A : Nat) : Int) := i64_and _ _ (by omega) (by omega)
        have v2 : bits .or .i64 ((s &&& A : Nat) : Int) (wrap64 (2 ^ k)) = ((x : Nat) : Int) := by
          rw [wrap_pow k (by omega), HX.out, ← HA.out]
          refine i64_or _ _ ?_ (by omega)
          have : s &&& A ≤ A := Nat.and_le_right
          omega
        have v3 : bits .and .i64 ((C x : Nat) : Int) ((A : Nat) : Int) = ((C x &&& A : Nat) : Int) := i64_and _ _ (by omega) (by omega)
        by_cases hyes : C x &&& A = s &&& A
        · have HE : Hid (nxt C s (k + 1) = some (C x)) := by have hy := nxt_yes (C := C) hb (by rw [← HX.out, ← HA.out]; exact hyes); rw [← HX.out] at hy; exact hy
          have q : ((((C x &&& A : Nat) : Int)) == ((s &&& A : Nat) : Int)) = true := by rw [hyes]; exact beq_self_eq_true _
          go_wp2_with (first | (go_at_call 65; refine (has_any _ _ _ (by omega) (by omega)).mono ?_; rintro e w' ⟨rfl, rfl⟩) | (go_at_call 76; refine (all_any k _ (by omega)).mono ?_; rintro e w' ⟨rfl, rfl⟩; rw [ea]))
          rw [hF, Oper.upon_enter]
          refine (HC.out x hxl _ hB.out).mono ?_
          rintro e w2 ⟨rfl, hb2⟩
          have HB2 : Hid (Below w.heap.size w w2) := Below.then hB.out hb2
          clear hb2 hB
          go_wp2_with fail
          go_ret2
          exact ⟨by rw [HV.out, HE.out]; rfl, HB2.out⟩
        · have HE : Hid (nxt C s (k + 1) = nxt C s k) := nxt_no hb (by rw [← HX.out, ← HA.out]; exact hyes)
          have q : ((((C x &&& A : Nat) : Int)) == ((s &&& A : Nat) : Int)) = false := beq_false_of_ne (by omega)
          go_wp2_with (first | (go_at_call 65; refine (has_any _ _ _ (by omega) (by omega)).mono ?_; rintro e w' ⟨rfl, rfl⟩) | (go_at_call 76; refine (all_any k _ (by omega)).mono ?_; rintro e w' ⟨rfl, rfl⟩; rw [ea]))
          rw [hF, Oper.upon_enter]
          refine (HC.out x hxl _ hB.out).mono ?_
          rintro e w2 ⟨rfl, hb2⟩
          have HB2 : Hid (Below w.heap.size w w2) := Below.then hB.out hb2
          clear hb2 hB
          go_wp2_with fail
          go_roundw
          case rel => exact ⟨k, by omega, by go_num, by rw [Hid, HV.out, HE.out], HB2⟩
          case measure => simp [intOf]
      · have HE : Hid (nxt C s (k + 1) = nxt C s k) := nxt_in hb
        go_wp2_with (go_at_call 65; refine (has_any _ _ _ (by omega) (by omega)).mono ?_; rintro e w' ⟨rfl, rfl⟩)
        go_roundw
        case rel => exact ⟨k, by omega, by go_num, by rw [Hid, HV.out, HE.out], hB⟩
        case measure => simp [intOf]
end Go.Proofs.YthhnngmfbbljaaaGreat
