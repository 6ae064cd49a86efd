/-
  What complete.cut, allCuts and Cuts answer. Conditions: of Cuts none but that a slice reads as a slice of numbers.
-/
import Derived.Deep.RegionHeld3
import Derived.Test.YtpdhfibollealaaDoorBounds
namespace Go.Proofs.YtpdhfibollealaaDoor
open Go.RowKit

theorem trn_1024 (g : Nat → Nat) {n : Nat} (h10 : n ≤ 10) : ∀ k, k < n → trn g n k < 1024 := fun k _ => Nat.lt_of_lt_of_le (trn_lt g n k) (pw_le n h10)
theorem low_1024 (g : Nat → Nat) {n : Nat} (h10 : n ≤ 10) (s : Nat) : low g n s < 1024 := Nat.lt_of_lt_of_le (low_lt g n s) (pw_le n h10)

set_option maxHeartbeats 2000000 in
theorem cut_any (a a' : Option Addr) (n cap cap' : Nat) (g : Nat → Nat) (s : Nat) (w : World) (h10 : n ≤ 10) (hg : ∀ k, k < n → g k < 1024) (hr : Row w a n (fun k => (g k : Nat))) (hr' : Row w a' n (fun k => (trn g n k : Nat))) (hs : s < 1024) :
    Calls Tryd.prog 16 #[.agg #[.int .i64 (n : Int), .slice a n cap], .agg #[.int .i64 (n : Int), .slice a' n cap'], .int .i64 (s : Nat)] w fun e w' => e = .returned (.int .i64 (cutW g n s : Nat)) ∧ Below w.heap.size w w' := by
  have HG : Hid (∀ k, k < n → g k < 1024) := hg
  have HGD : Hid (∀ k, k < n → trn g n k < 1024) := trn_1024 g h10
  have hl : low (trn g n) n s < 1024 := low_1024 _ h10 _
  obtain ⟨W, HW⟩ : ∃ W, Hid (W = (w.alloc (.cells #[.int .i64 (n : Int), .slice a n cap] 24)).alloc (.cells #[.int .i64 (n : Int), .slice a' n cap'] 24)) := ⟨_, rfl⟩
  have B0 : Below w.heap.size w W := by rw [HW.out]; exact ((Below.refl _ _).alloc (Nat.le_refl _) _).alloc (by simp) _
  have H0 : Held W w.heap.size n a n cap (fun k => (g k : Nat)) := by rw [HW.out]; exact (Held.box hr).step ((Below.refl _ _).alloc (Nat.le_refl _) _)
  have H1 : Held W (w.heap.size + 1) n a' n cap' (fun k => (trn g n k : Nat)) := by
    rw [HW.out]
    have := Held.box (n := (n : Int)) (cap := cap') (Row.below hr' ((Below.refl w.heap.size w).alloc (Nat.le_refl _) (.cells #[.int .i64 (n : Int), .slice a n cap] 24)))
    rw [World.size_alloc] at this; exact this
  have l0 : ∀ w', Below W.heap.size W w' → w'.cell? ⟨w.heap.size, 0, none⟩ = some (.int .i64 (n : Int)) := fun w' h => (H0.step h).c0
  have l1 : ∀ w', Below W.heap.size W w' → w'.cell? ⟨w.heap.size, 1, none⟩ = some (.slice a n cap) := fun w' h => (H0.step h).c1
  have l2 : ∀ w', Below W.heap.size W w' → w'.cell? ⟨w.heap.size + 1, 0, none⟩ = some (.int .i64 (n : Int)) := fun w' h => (H1.step h).c0
  have l3 : ∀ w', Below W.heap.size W w' → w'.cell? ⟨w.heap.size + 1, 1, none⟩ = some (.slice a' n cap') := fun w' h => (H1.step h).c1
  have HR : Hid (∀ w', Below W.heap.size W w' → Row w' a n (fun k => (g k : Nat))) := fun w' h => (H0.step h).row
  have HRD : Hid (∀ w', Below W.heap.size W w' → Row w' a' n (fun k => (trn g n k : Nat))) := fun w' h => (H1.step h).row
  have HB0 : Hid (Below w.heap.size w W) := B0
  clear hg hr hr' B0 H0 H1
  go_enter Tryd.func16, Tryd.ntmps16
  have KK : Below W.heap.size W W.drew := (Below.refl _ _).drew
  go_wp2_with fail
  rw [← HW.out]
  refine wp_region_held_drew (S := (fun w' => Below W.heap.size W w')) (by kernel_rfl) (KK) (fun hHeld => ?_)
  refine wpAnyH_take (i := 0) (oi := { dst := some 7, op := Go.Op.load 24 (Go.Operand.tmp 3), type := 24, pos := "complete.go:70", after := #[], guard := none }) (v := ?_) rfl (by kernel_rfl) (by kernel_rfl) (by kernel_rfl) (fun _ _ _ h => h) (Or.inl ⟨by rfl, ?hy⟩) (by assumption) ?_
  case hy => (intro w9 hSw; (try dsimp only at hSw); go_simp; try with_reducible rfl)
  try simp only [Act.put, List.setIfInBounds_toArray, List.set_cons_zero, List.set_cons_succ]
  refine wpAnyH_take (i := 1) (oi := { dst := some 8, op := Go.Op.load 24 (Go.Operand.tmp 4), type := 24, pos := "complete.go:70", after := #[], guard := none }) (v := ?_) rfl (by kernel_rfl) (by kernel_rfl) (by kernel_rfl) (fun _ _ _ h => h) (Or.inl ⟨by rfl, ?hy⟩) (by assumption) ?_
  case hy => (intro w9 hSw; (try dsimp only at hSw); go_simp; try with_reducible rfl)
  try simp only [Act.put, List.setIfInBounds_toArray, List.set_cons_zero, List.set_cons_succ]
  refine wpAnyH_take (i := 2) (oi := { dst := some 9, op := Go.Op.move (Go.Operand.tmp 2), type := 3, pos := "complete.go:70", after := #[], guard := none }) (v := ?_) rfl (by kernel_rfl) (by kernel_rfl) (by kernel_rfl) (fun _ _ _ h => h) (Or.inl ⟨by rfl, ?hy⟩) (by assumption) ?_
  case hy => (intro w9 hSw; (try dsimp only at hSw); go_simp; try with_reducible rfl)
  try simp only [Act.put, List.setIfInBounds_toArray, List.set_cons_zero, List.set_cons_succ]
  refine wpAnyH_ready (rs := [3]) (by kernel_rfl) (by simp) ?_
  refine AllReadyH.cons (o := { dst := some 10, op := Go.Op.call { callee := Go.Callee.value (Go.Operand.func 23), args := #[Go.Operand.tmp 8, Go.Operand.tmp 9], argTypes := #[24, 3] }, type := 3, pos := "complete.go:70", after := #[{ on := 1, ground := Go.Ground.data }, { on := 2, ground := Go.Ground.data }], guard := none }) rfl (fun K hK => ?_) AllReadyH.nil
  go_simp
  refine (lower_any a' n cap' (trn g n) s _ h10 HGD.out (HRD.out _ (by assumption)) hs).mono ?_
  rintro e w1 ⟨rfl, hb1⟩
  refine hK.out _ _ ?_ (fun hHeld => ?_)
  · first | assumption | exact Below.then (by assumption) (by assumption)
  clear hK K
  try simp only [Act.put, List.setIfInBounds_toArray, List.set_cons_zero, List.set_cons_succ]
  refine wpAnyH_ready (rs := [4]) (by kernel_rfl) (by simp) ?_
  refine AllReadyH.cons (o := { dst := some 11, op := Go.Op.call { callee := Go.Callee.value (Go.Operand.func 23), args := #[Go.Operand.tmp 7, Go.Operand.tmp 10], argTypes := #[24, 3] }, type := 3, pos := "complete.go:70", after := #[{ on := 0, ground := Go.Ground.data }, { on := 3, ground := Go.Ground.data }, { on := 3, ground := Go.Ground.chain }], guard := none }) rfl (fun K hK => ?_) AllReadyH.nil
  go_simp
  refine (lower_any a n cap g (low (trn g n) n s) _ h10 HG.out (HR.out _ (by assumption)) hl).mono ?_
  rintro e w2 ⟨rfl, hb2⟩
  refine hK.out _ _ ?_ (fun hHeld => ?_)
  · first | assumption | exact Below.then (by assumption) (by assumption)
  clear hK K
  try simp only [Act.put, List.setIfInBounds_toArray, List.set_cons_zero, List.set_cons_succ]
  refine wpAnyH_take (i := 5) (oi := { dst := some 6, op := Go.Op.assign (Go.Operand.tmp 11), type := 3, pos := "complete.go:70", after := #[{ on := 4, ground := Go.Ground.data }, { on := 4, ground := Go.Ground.chain }, { on := 0, ground := Go.Ground.phase }, { on := 1, ground := Go.Ground.phase }, { on := 2, ground := Go.Ground.phase }, { on := 3, ground := Go.Ground.phase }, { on := 4, ground := Go.Ground.phase }], guard := none }) (v := ?_) rfl (by kernel_rfl) (by kernel_rfl) (by kernel_rfl) (fun _ _ _ h => h) (Or.inl ⟨by rfl, ?hy⟩) (by assumption) ?_
  case hy => (intro w9 hSw; (try dsimp only at hSw); go_simp; try with_reducible rfl)
  try simp only [Act.put, List.setIfInBounds_toArray, List.set_cons_zero, List.set_cons_succ]
  refine wpAnyH_done (by kernel_rfl) ?_ _
  try simp only [Act.put, List.setIfInBounds_toArray, List.set_cons_zero, List.set_cons_succ]
  have hb8 : Below W.heap.size W w2 := by first | assumption | exact hHeld
  have HB8 : Hid (Below w.heap.size w w2) := Below.then HB0.out hb8
  clear hb8
  go_wp2_with fail
  go_ret
  exact ⟨rfl, HB8.out⟩

/-- Those of the first k numbers that are so. -/
def fil (I : Nat → Bool) : Nat → List Nat
  | 0 => []
  | k + 1 => if I k = true then fil I k ++ [k] else fil I k
theorem fil_yes {I : Nat → Bool} {k : Nat} (h : I k = true) : fil I (k + 1) = fil I k ++ [k] := by simp [fil, h]
theorem fil_no {I : Nat → Bool} {k : Nat} (h : I k = false) : fil I (k + 1) = fil I k := by simp [fil, h]
theorem fil_len (I : Nat → Bool) : ∀ k, (fil I k).length ≤ k
  | 0 => by simp [fil]
  | k + 1 => by
    have ih := fil_len I k
    cases h : I k
    · rw [fil_no h]; omega
    · rw [fil_yes h, List.length_append]; simp; exact ih
def cuts (g : Nat → Nat) (n : Nat) : List Nat := fil (isCut g n) (pw n)

set_option maxHeartbeats 2000000 in
theorem allCuts_any (a a' : Option Addr) (n cap cap' : Nat) (g : Nat → Nat) (w : World) (h10 : n ≤ 10) (hg : ∀ k, k < n → g k < 1024) (hr : Row w a n (fun k => (g k : Nat))) (hr' : Row w a' n (fun k => (trn g n k : Nat))) :
    Calls Tryd.prog 13 #[.agg #[.int .i64 (n : Int), .slice a n cap], .agg #[.int .i64 (n : Int), .slice a' n cap']] w fun e w' => (∃ v, e = .returned v ∧ NSl w' v (cuts g n)) ∧ Below w.heap.size w w' := by
  have HG : Hid (∀ k, k < n → g k < 1024) := hg
  obtain ⟨W, HW⟩ : ∃ W, Hid (W = (w.alloc (.cells #[.int .i64 (n : Int), .slice a n cap] 24)).alloc (.cells #[.int .i64 (n : Int), .slice a' n cap'] 24)) := ⟨_, rfl⟩
  have B0 : Below w.heap.size w W := by rw [HW.out]; exact ((Below.refl _ _).alloc (Nat.le_refl _) _).alloc (by simp) _
  have H0 : Held W w.heap.size n a n cap (fun k => (g k : Nat)) := by rw [HW.out]; exact (Held.box hr).step ((Below.refl _ _).alloc (Nat.le_refl _) _)
  have H1 : Held W (w.heap.size + 1) n a' n cap' (fun k => (trn g n k : Nat)) := by
    rw [HW.out]
    have := Held.box (n := (n : Int)) (cap := cap') (Row.below hr' ((Below.refl w.heap.size w).alloc (Nat.le_refl _) (.cells #[.int .i64 (n : Int), .slice a n cap] 24)))
    rw [World.size_alloc] at this; exact this
  have HH0 : Hid (∀ w', Below W.heap.size W w' → Held w' w.heap.size n a n cap (fun k => (g k : Nat))) := fun w' h => H0.step h
  have HH1 : Hid (∀ w', Below W.heap.size W w' → Held w' (w.heap.size + 1) n a' n cap' (fun k => (trn g n k : Nat))) := fun w' h => H1.step h
  have HB0 : Hid (Below w.heap.size w W) := B0
  have hpw := pw_le n h10
  have hsh := wrap_pow n (by omega)
  obtain ⟨i0, hi, hz0, hz1, hz2⟩ := info_parts Tryd.info3
  obtain ⟨I, HI⟩ : ∃ I, Hid (I = isCut g n) := ⟨_, rfl⟩
  have HIA : Hid (∀ s, (cutW g n s == s) = I s) := fun s => by rw [HI.out]; simp only [isCut]; rw [Bool.eq_iff_iff]; simp
  have HCV : Hid (cuts g n = fil I (pw n)) := by rw [HI.out]; rfl
  have k0 := H0.c0
  clear hg hr hr' B0 H0 H1
  go_enter Tryd.func13, Tryd.ntmps13
  go_wp2_with fail
  rw [← HW.out]
  go_wp2_with fail
  clear HW k0
  try rw [hsh]
  clear hsh
  go_loopw [5, 10] (fun v i wx => ∃ s : Nat, s ≤ pw n ∧ i = .int .i64 s ∧ wx.ownsRow W.heap.size 3 1 v (fil I s).length (natVals (fil I s)) ∧ Hid (Below W.heap.size W wx)) (fun _ i _ => pw n - (intOf i).toNat)
  case atStart => exact ⟨0, Nat.zero_le _, rfl, World.ownsRow_nil _ _ _ _, Below.refl _ _⟩
  case round =>
    obtain ⟨s, hs, rfl, hown, hB⟩ := hrel
    have hH0 := HH0.out _ hB.out
    have hH1 := HH1.out _ hB.out
    have c0 := hH0.c0
    have c1 := hH0.c1
    have d0 := hH1.c0
    have d1 := hH1.c1
    by_cases hlt : s < pw n
    · rcases (Bool.eq_false_or_eq_true (I s)).symm with hb | hb
      · have HE : Hid (fil I (s + 1) = fil I s) := fil_no hb
        have HQ : Hid ((((cutW g n s : Nat) : Int) == ((s : Nat) : Int)) = false) := by
          have := HIA.out s; rw [hb] at this
          have h2 : cutW g n s ≠ s := by simpa using this
          exact beq_false_of_ne (by omega)
        go_wp2_with fail
        refine (cut_any a a' n cap cap' g s _ h10 HG.out hH0.row hH1.row (by omega)).mono ?_
        rintro e w1 ⟨rfl, hb1⟩
        have hq := HQ.out
        have HB2 : Hid (Below W.heap.size W w1) := Below.then hB.out hb1
        have hown2 := owns_below hown hb1
        clear hown hb1 hH0 hH1 c0 c1 d0 d1 hB HQ
        go_wp2_with fail
        go_roundw
        case rel => exact ⟨s + 1, by omega, by go_num, by rw [HE.out]; exact hown2, HB2⟩
        case measure => simp [intOf]; omega
      · have HE : Hid (fil I (s + 1) = fil I s ++ [s]) := fil_yes hb
        have HQ : Hid ((((cutW g n s : Nat) : Int) == ((s : Nat) : Int)) = true) := by
          have := HIA.out s; rw [hb] at this
          have h2 : cutW g n s = s := by simpa using this
          rw [h2]; exact beq_self_eq_true _
        have hlen := fil_len I s
        go_wp2_with fail
        refine (cut_any a a' n cap cap' g s _ h10 HG.out hH0.row hH1.row (by omega)).mono ?_
        rintro e w1 ⟨rfl, hb1⟩
        have hq := HQ.out
        have HB2 : Hid (Below W.heap.size W w1) := Below.then hB.out hb1
        have hown2 := owns_below hown hb1
        have hsz : W.heap.size ≤ w1.heap.size := HB2.out.size
        clear hown hb1 hH0 hH1 c0 c1 d0 d1 hB HQ
        obtain ⟨L, HL⟩ : ∃ L, Hid (L = fil I s) := ⟨_, rfl⟩
        rw [← HL.out] at hown2 hlen
        go_wp2_with (at_builtin; refine wpList_append_own _ rfl _ _ 22 rfl W.heap.size 3 i0 (.int .i64 0) 1 8 Tryd.underlying22 hi hz0 hz1 hz2 rfl (by decide) _ _ _ rfl (hown2.alloc _) ⟨w1.heap.size, 0, none⟩ 1 1 [.int .i64 (s : Nat)] rfl rfl ?c1 ?c2 ?c3 ?c4 ?c5 ?_)
        case c1 =>
          intro j u hj
          match j, hj with
          | 0, hj => simp at hj; subst hj; simp [Addr.add]
        case c2 => intro u hu; simp at hu; subst hu; rfl
        case c3 => unfold maxLen; omega
        case c4 => omega
        case c5 => simp; omega
        intro v' w2 hown' hgrow _
        have HB3 : Hid (Below W.heap.size W w2) := below_append3 HB2.out hown2 hgrow
        have HO3 : Hid (w2.ownsRow W.heap.size 3 1 v' (fil I (s + 1)).length (natVals (fil I (s + 1)))) := by
          rw [HE.out, ← HL.out, natVals_append, List.length_append]; exact hown'
        clear hown' hgrow hown2 HB2 hlen hsz HL hq
        go_wp2_with fail
        go_roundw
        case rel => exact ⟨s + 1, by omega, by go_num, HO3.out, HB3⟩
        case measure => simp [intOf]; omega
    · have hsn : s = pw n := by omega
      have HF : Hid (NSl wr u5 (cuts g n)) := by rw [HCV.out, ← hsn]; exact owns_nats hown
      have hle : ((pw n : Nat) : Int) ≤ (s : Int) := by omega
      clear hown hH0 hH1 c0 c1 d0 d1 hsn hlt
      go_wp2_with fail
      go_ret
      exact ⟨⟨_, rfl, HF.out⟩, Below.then HB0.out hB.out⟩
end Go.Proofs.YtpdhfibollealaaDoor
