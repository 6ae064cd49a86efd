/-
  What the reference's SumsOf and UndoOf answer. Conditions: an order of at most ten points, as many numbers.
-/
import Derived.Test.YtgdbldfbhiaepaaMuO
import Derived.Test.YtgdbldfbhiaepaaUnP
namespace Go.Proofs.Ytgdbldfbhiaepaa
open Go.RowKit Go.Maps

def intVals (F : Nat → Int) (k : Nat) : List Value := (List.range k).map fun i => .int .i64 (F i)
theorem intVals_succ (F : Nat → Int) (k : Nat) : intVals F (k + 1) = intVals F k ++ [.int .i64 (F k)] := by simp [intVals, List.range_succ]
theorem intVals_len (F : Nat → Int) (k : Nat) : (intVals F k).length = k := by simp [intVals]
theorem owns_ints {w : World} {base n : Nat} {v : Value} {F : Nat → Int} (h : w.ownsRow base 3 1 v n (intVals F n)) : ISl w v n F := by
  by_cases hn : 0 < n
  · obtain ⟨g, cap, rfl⟩ := owns_form h hn
    refine ⟨_, cap, rfl, fun k hk => ⟨g, 0, rfl, ?_⟩⟩
    rw [Nat.zero_add, h.cellAt _ (by omega)]; simp [intVals, hk]
  · have h0 : n = 0 := by omega
    rcases h.2 with ⟨rfl, _⟩ | ⟨g, cap, cur, rfl, _⟩
    · exact ⟨none, 0, by rw [h0], fun k hk => absurd (Nat.lt_of_le_of_lt (Nat.zero_le _) hk) hn⟩
    · exact ⟨_, cap, rfl, fun k hk => absurd (Nat.lt_of_le_of_lt (Nat.zero_le _) hk) hn⟩

set_option maxHeartbeats 2000000 in
theorem sumsOf_any (n : Nat) (a : Option Addr) (cap : Nat) (g : Nat → Nat) (a' : Option Addr) (cap' : Nat) (F : Nat → Int) (w : World) (h10 : n ≤ 10) (hg : ∀ k, k < n → g k < pw n) (hr : Row w a n (fun k => (g k : Nat))) (hr' : Row w a' n (fun k => wz (F k))) :
    Calls Try.prog 19 #[.agg #[.int .i64 (n : Nat), .slice a n cap], .slice a' n cap'] w fun e w' => (∃ v, e = .returned v ∧ ISl w' v n (smI g F n)) ∧ Below w.heap.size w w' := by
  have K0 : Held (w.alloc (.cells #[.int .i64 (n : Int), .slice a n cap] 24)) w.heap.size n a n cap (fun k => (g k : Nat)) := Held.box hr
  have HB0 : Hid (Below w.heap.size w (w.alloc (.cells #[.int .i64 (n : Int), .slice a n cap] 24))) := (Below.refl _ _).alloc (Nat.le_refl _) _
  have HR' : Hid (Row (w.alloc (.cells #[.int .i64 (n : Int), .slice a n cap] 24)) a' n (fun k => wz (F k))) := hr'.below HB0.out
  have HG : Hid (∀ k, k < n → g k < 1024) := fun k hk => Nat.lt_of_lt_of_le (hg k hk) (pw_le n h10)
  obtain ⟨W0, HW0⟩ : ∃ W0, Hid (W0 = w.alloc (.cells #[.int .i64 (n : Int), .slice a n cap] 24)) := ⟨_, rfl⟩
  rw [← HW0.out] at K0 HB0 HR'
  have hbe : Below W0.heap.size W0 W0 := Below.refl _ _
  clear hr hr' hg
  obtain ⟨i0, hi, hz0, hz1, hz2⟩ := info_parts Try.info3
  go_enter Try.func19, Try.ntmps19
  go_wp2_with fail
  rw [← HW0.out]
  go_loopw [5, 6] (fun v x wx => ∃ i : Nat, i ≤ n ∧ x = .int .i64 i ∧ wx.ownsRow W0.heap.size 3 1 v i (intVals (smI g F n) i) ∧ Hid (Below W0.heap.size W0 wx)) (fun _ x _ => n - (intOf x).toNat)
  case atStart => exact ⟨0, Nat.zero_le _, rfl, World.ownsRow_nil _ _ _ _, hbe⟩
  case round =>
    obtain ⟨i, hi', rfl, hown, hB⟩ := hrel
    have hH := K0.step hB.out
    have c0 := hH.c0
    by_cases hin : i < n
    · have HOW : Hid (wr.ownsRow W0.heap.size 3 1 u5 i (intVals (smI g F n) i)) := hown
      have HSU : Hid (intVals (smI g F n) (i + 1) = intVals (smI g F n) i ++ [.int .i64 (wz (sumI (smF g F i) n))]) := intVals_succ _ _
      clear hown hH
      generalize intVals (smI g F n) i = C at *
      go_wp2_with fail
      clear c0
      go_loopw [7, 8] (fun t x wx => ∃ k : Nat, k ≤ n ∧ x = .int .i64 k ∧ t = .int .i64 (wz (sumI (smF g F i) k)) ∧ Hid (wx.ownsRow W0.heap.size 3 1 u5 i C) ∧ Hid (Below W0.heap.size W0 wx)) (fun _ x _ => n - (intOf x).toNat)
      case atStart => exact ⟨0, Nat.zero_le _, rfl, by simp [sumI, wz], HOW, hB⟩
      case round =>
        clear HOW hB
        obtain ⟨k, hk, rfl, rfl, HOW, hB⟩ := hrel
        have hH := K0.step hB.out
        have c0 := hH.c0
        have c1 := hH.c1
        by_cases hkn : k < n
        · have HSS : Hid (sumI (smF g F i) (k + 1) = sumI (smF g F i) k + smF g F i k) := rfl
          cases hu : uptB (blw g) k i
          · have HY : Hid (sumI (smF g F i) (k + 1) = sumI (smF g F i) k) := by
              show _ = _
              rw [HSS.out, smF, if_neg (by unfold uptB at hu; simp at hu; simp [hu])]; exact Int.add_zero _
            go_wp2_with fail
            refine (upto_any n a n cap g k i _ _ hu h10 HG.out hH.row (by omega) hin).mono ?_
            rintro e w3 ⟨rfl, hb3⟩
            have HB3 : Hid (Below W0.heap.size W0 w3) := Below.then hB.out hb3
            have HO3 : Hid (w3.ownsRow W0.heap.size 3 1 u5 i C) := owns_below HOW.out hb3
            clear hH c0 c1 hb3 hB HOW hu
            go_wp2_with fail
            go_roundw
            case rel => exact ⟨k + 1, by omega, by go_num, by rw [HY.out], HO3, HB3⟩
            case measure => simp [intOf]; omega
          · have HY : Hid (wrap64 (wz (sumI (smF g F i) k) + wz (F k)) = wz (sumI (smF g F i) (k + 1))) := by
              show _ = _
              rw [HSS.out, wz_add, smF, if_pos (by unfold uptB at hu; simpa using hu)]
            go_wp2_with fail
            refine (upto_any n a n cap g k i _ _ hu h10 HG.out hH.row (by omega) hin).mono ?_
            rintro e w3 ⟨rfl, hb3⟩
            have HB3 : Hid (Below W0.heap.size W0 w3) := Below.then hB.out hb3
            have HO3 : Hid (w3.ownsRow W0.heap.size 3 1 u5 i C) := owns_below HOW.out hb3
            obtain ⟨bf, off, rfl, hcc⟩ := (HR'.out.below HB3.out).at hkn
            have hck := hcc k hkn
            clear hH c0 c1 hb3 hB HOW hu hcc HSS
            generalize wz (sumI (smF g F i) k) = X at *
            generalize wz (F k) = Y at *
            have hY : wrap64 (X + Y) = wz (sumI (smF g F i) (k + 1)) := HY.out
            clear HY
            go_wp2_with fail
            go_roundw
            case rel => exact ⟨k + 1, by omega, by go_num, by rw [hY], HO3, HB3⟩
            case measure => simp [intOf]; omega
        · obtain rfl : k = n := by omega
          have hown := HOW.out
          have hsz := hB.out.size
          clear hH
          generalize wz (sumI (smF g F i) k) = T at *
          go_wp2_with (at_builtin; refine wpList_append_own _ rfl _ _ 22 rfl W0.heap.size 3 i0 (.int .i64 0) 1 8 Try.underlying22 hi hz0 hz1 hz2 rfl (by decide) _ _ _ rfl (hown.alloc _) ⟨wr.heap.size, 0, none⟩ 1 1 [.int .i64 T] rfl rfl ?c1 ?c2 ?c3 ?c4 ?c5 ?_)
          case c1 => exact cell_one_new _ _ _
          case c2 => exact ints_oneCell .i64 [T]
          case c3 => unfold maxLen; omega
          case c4 => omega
          case c5 => simp; omega
          intro v' w4 hown' hgrow _
          have HB4 : Hid (Below W0.heap.size W0 w4) := below_append3 hB.out hown hgrow
          have HO4 : Hid (w4.ownsRow W0.heap.size 3 1 v' (i + 1) (intVals (smI g F k) (i + 1))) := by rw [HSU.out]; exact hown'
          clear hown' hgrow hown hB hsz c0 c1
          go_wp2_with fail
          go_roundw
          case rel => exact ⟨i + 1, by omega, by go_num, HO4.out, HB4⟩
          case measure => simp [intOf]; omega
    · obtain rfl : i = n := by omega
      have HF : Hid (ISl wr u5 i (smI g F i)) := owns_ints hown
      clear hown hH
      go_wp2_with fail
      go_ret
      exact ⟨⟨_, rfl, HF.out⟩, Below.then HB0.out hB.out⟩

def unT (g : Nat → Nat) (F : Nat → Int) (n i k : Nat) : Int := sumI (fun k => muO g n k i * F k) k
set_option maxHeartbeats 2000000 in
theorem undoOf_any (n : Nat) (a : Option Addr) (cap : Nat) (g : Nat → Nat) (a' : Option Addr) (cap' : Nat) (F : Nat → Int) (w : World) (h10 : n ≤ 10) (hg : ∀ k, k < n → g k < pw n) (ho : Ord n g) (hr : Row w a n (fun k => (g k : Nat))) (hr' : Row w a' n (fun k => wz (F k))) :
    Calls Try.prog 22 #[.agg #[.int .i64 (n : Nat), .slice a n cap], .slice a' n cap'] w fun e w' => (∃ v, e = .returned v ∧ ISl w' v n (unI g F n)) ∧ Below w.heap.size w w' := by
  have HE : Hid (∀ i, i < n → unI g F n i = wz (unT g F n i n)) := fun i hi => by
    show wz _ = wz _
    rw [undo_mu (rk_ord h10 hg ho) F hi]; rfl
  have K0 : Held (w.alloc (.cells #[.int .i64 (n : Int), .slice a n cap] 24)) w.heap.size n a n cap (fun k => (g k : Nat)) := Held.box hr
  have HB0 : Hid (Below w.heap.size w (w.alloc (.cells #[.int .i64 (n : Int), .slice a n cap] 24))) := (Below.refl _ _).alloc (Nat.le_refl _) _
  have HR' : Hid (Row (w.alloc (.cells #[.int .i64 (n : Int), .slice a n cap] 24)) a' n (fun k => wz (F k))) := hr'.below HB0.out
  have HG : Hid (∀ k, k < n → g k < pw n) := hg
  have HO : Hid (Ord n g) := ho
  obtain ⟨W0, HW0⟩ : ∃ W0, Hid (W0 = w.alloc (.cells #[.int .i64 (n : Int), .slice a n cap] 24)) := ⟨_, rfl⟩
  rw [← HW0.out] at K0 HB0 HR'
  have hbe : Below W0.heap.size W0 W0 := Below.refl _ _
  have HRW : Hid (∀ wx, Below W0.heap.size W0 wx → Row wx a n (fun k => (g k : Nat))) := fun wx h => (K0.step h).row
  clear hr hr' hg ho
  obtain ⟨i0, hi, hz0, hz1, hz2⟩ := info_parts Try.info3
  go_enter Try.func22, Try.ntmps22
  go_wp2_with fail
  rw [← HW0.out]
  go_loopw [5, 6] (fun v x wx => ∃ i : Nat, i ≤ n ∧ x = .int .i64 i ∧ wx.ownsRow W0.heap.size 3 1 v i (intVals (unI g F n) i) ∧ Hid (Below W0.heap.size W0 wx)) (fun _ x _ => n - (intOf x).toNat)
  case atStart => exact ⟨0, Nat.zero_le _, rfl, World.ownsRow_nil _ _ _ _, hbe⟩
  case round =>
    obtain ⟨i, hi', rfl, hown, hB⟩ := hrel
    have hH := K0.step hB.out
    have c0 := hH.c0
    by_cases hin : i < n
    · have HOW : Hid (wr.ownsRow W0.heap.size 3 1 u5 i (intVals (unI g F n) i)) := hown
      have HSU : Hid (intVals (unI g F n) (i + 1) = intVals (unI g F n) i ++ [.int .i64 (wz (unT g F n i n))]) := by
        show _ = _
        rw [intVals_succ, HE.out i hin]
      clear hown hH
      generalize intVals (unI g F n) i = C at *
      go_wp2_with fail
      clear c0
      go_loopw [7, 8] (fun t x wx => ∃ k : Nat, k ≤ n ∧ x = .int .i64 k ∧ t = .int .i64 (wz (unT g F n i k)) ∧ Hid (wx.ownsRow W0.heap.size 3 1 u5 i C) ∧ Hid (Below W0.heap.size W0 wx)) (fun _ x _ => n - (intOf x).toNat)
      case atStart => exact ⟨0, Nat.zero_le _, rfl, by simp [unT, sumI, wz], HOW, hB⟩
      case round =>
        clear HOW hB
        obtain ⟨k, hk, rfl, rfl, HOW, hB⟩ := hrel
        have hH := K0.step hB.out
        have c0 := hH.c0
        by_cases hkn : k < n
        · have hc0 : ∀ wx, Below W0.heap.size W0 wx → wx.cell? ⟨w.heap.size, 0, none⟩ = some (.int .i64 (n : Nat)) := fun wx h => (K0.step h).c0
          have hc1 : ∀ wx, Below W0.heap.size W0 wx → wx.cell? ⟨w.heap.size, 1, none⟩ = some (.slice a n cap) := fun wx h => (K0.step h).c1
          obtain ⟨bf, off, rfl, -⟩ := (HR'.out.below hB.out).at hkn
          have hcf : ∀ wx, Below W0.heap.size W0 wx → wx.cell? ⟨bf, off + k, none⟩ = some (.int .i64 (wz (F k))) := fun wx h => by
            obtain ⟨b2, o2, e2, hc2⟩ := (HR'.out.below h).at hkn
            cases e2
            exact hc2 k hkn
          have hlr : (k : Int) < (n : Int) := by omega
          have KK : Below W0.heap.size W0 wr.drew := hB.out.drew
          have HOD : Hid (∀ wx, Below wr.heap.size wr wx → wx.ownsRow W0.heap.size 3 1 u5 i C) := fun wx h => owns_below HOW.out h
          obtain ⟨X, HX⟩ : ∃ X, Hid (unT g F n i k = X) := ⟨_, rfl⟩
          obtain ⟨M, HM⟩ : ∃ M, Hid (muO g n k i = M) := ⟨_, rfl⟩
          have HY : Hid (unT g F n i (k + 1) = X + M * F k) := by rw [← HX.out, ← HM.out]; rfl
          obtain ⟨Z, HZ⟩ : ∃ Z, Hid (wz (M * F k) = Z) := ⟨_, rfl⟩
          obtain ⟨Q, HQ⟩ : ∃ Q, Hid (wz (unT g F n i (k + 1)) = Q) := ⟨_, rfl⟩
          have hm : IntKind.i64.wrap (wz M * wz (F k)) = Z := by rw [IntWalk.i64_left, wz_mul, HZ.out]
          have hadd : IntKind.i64.wrap (wz X + Z) = Q := by rw [IntWalk.i64_left, ← HZ.out, wz_add, ← HQ.out, HY.out]
          rw [HX.out]
          clear hH
          go_wp2_with fail
          clear c0
          refine wp_region_held_drew (S := (fun w' => Below W0.heap.size W0 w')) (by kernel_rfl) (KK) (fun hHeld => ?_)
          refine wpAnyH_take (i := 0) (oi := { dst := some 21, op := Go.Op.move (Go.Operand.tmp 7), type := 3, pos := "quotient.go:252", after := #[], guard := none }) (v := ?_) rfl (by kernel_rfl) (by kernel_rfl) (by kernel_rfl) (fun _ _ _ h => h) (Or.inl ⟨by rfl, ?hy⟩) (by assumption) ?_
          case hy => (intro w9 hSw; (try dsimp only at hSw); go_simp; try with_reducible rfl)
          try simp only [Act.put, List.setIfInBounds_toArray, List.set_cons_zero, List.set_cons_succ]
          refine wpAnyH_take (i := 1) (oi := { dst := some 22, op := Go.Op.load 24 (Go.Operand.tmp 2), type := 24, pos := "quotient.go:252", after := #[], guard := none }) (v := ?_) rfl (by kernel_rfl) (by kernel_rfl) (by kernel_rfl) (fun _ _ _ h => h) (Or.inl ⟨by rfl, ?hy⟩) (by assumption) ?_
          case hy => (intro w9 hSw; (try dsimp only at hSw); go_simp; try with_reducible rfl)
          try simp only [Act.put, List.setIfInBounds_toArray, List.set_cons_zero, List.set_cons_succ]
          refine wpAnyH_take (i := 2) (oi := { dst := some 23, op := Go.Op.move (Go.Operand.tmp 8), type := 3, pos := "quotient.go:252", after := #[], guard := none }) (v := ?_) rfl (by kernel_rfl) (by kernel_rfl) (by kernel_rfl) (fun _ _ _ h => h) (Or.inl ⟨by rfl, ?hy⟩) (by assumption) ?_
          case hy => (intro w9 hSw; (try dsimp only at hSw); go_simp; try with_reducible rfl)
          try simp only [Act.put, List.setIfInBounds_toArray, List.set_cons_zero, List.set_cons_succ]
          refine wpAnyH_take (i := 3) (oi := { dst := some 24, op := Go.Op.move (Go.Operand.tmp 6), type := 3, pos := "quotient.go:252", after := #[], guard := none }) (v := ?_) rfl (by kernel_rfl) (by kernel_rfl) (by kernel_rfl) (fun _ _ _ h => h) (Or.inl ⟨by rfl, ?hy⟩) (by assumption) ?_
          case hy => (intro w9 hSw; (try dsimp only at hSw); go_simp; try with_reducible rfl)
          try simp only [Act.put, List.setIfInBounds_toArray, List.set_cons_zero, List.set_cons_succ]
          refine wpAnyH_take (i := 5) (oi := { dst := some 26, op := Go.Op.move (Go.Operand.tmp 1), type := 22, pos := "quotient.go:252", after := #[], guard := none }) (v := ?_) rfl (by kernel_rfl) (by kernel_rfl) (by kernel_rfl) (fun _ _ _ h => h) (Or.inl ⟨by rfl, ?hy⟩) (by assumption) ?_
          case hy => (intro w9 hSw; (try dsimp only at hSw); go_simp; try with_reducible rfl)
          try simp only [Act.put, List.setIfInBounds_toArray, List.set_cons_zero, List.set_cons_succ]
          refine wpAnyH_take (i := 6) (oi := { dst := some 27, op := Go.Op.move (Go.Operand.tmp 8), type := 3, pos := "quotient.go:252", after := #[], guard := none }) (v := ?_) rfl (by kernel_rfl) (by kernel_rfl) (by kernel_rfl) (fun _ _ _ h => h) (Or.inl ⟨by rfl, ?hy⟩) (by assumption) ?_
          case hy => (intro w9 hSw; (try dsimp only at hSw); go_simp; try with_reducible rfl)
          try simp only [Act.put, List.setIfInBounds_toArray, List.set_cons_zero, List.set_cons_succ]
          refine wpAnyH_take (i := 7) (oi := { dst := some 28, op := Go.Op.indexAddr 22 (Go.Operand.tmp 26) (Go.Operand.tmp 27), type := 0, pos := "quotient.go:252", after := #[{ on := 5, ground := Go.Ground.data }, { on := 6, ground := Go.Ground.data }], guard := none }) (v := ?_) rfl (by kernel_rfl) (by kernel_rfl) (by kernel_rfl) (fun _ _ _ h => h) (Or.inl ⟨by rfl, ?hy⟩) (by assumption) ?_
          case hy => (intro w9 hSw; (try dsimp only at hSw); go_simp; try with_reducible rfl)
          try simp only [Act.put, List.setIfInBounds_toArray, List.set_cons_zero, List.set_cons_succ]
          refine wpAnyH_take (i := 8) (oi := { dst := some 29, op := Go.Op.load 3 (Go.Operand.tmp 28), type := 3, pos := "quotient.go:252", after := #[{ on := 7, ground := Go.Ground.data }], guard := none }) (v := ?_) rfl (by kernel_rfl) (by kernel_rfl) (by kernel_rfl) (fun _ _ _ h => h) (Or.inl ⟨by rfl, ?hy⟩) (by assumption) ?_
          case hy => (intro w9 hSw; (try dsimp only at hSw); go_simp; try with_reducible rfl)
          try simp only [Act.put, List.setIfInBounds_toArray, List.set_cons_zero, List.set_cons_succ]
          refine wpAnyH_ready (rs := [4]) (by kernel_rfl) (by simp) ?_
          refine AllReadyH.cons (o := { dst := some 25, op := Go.Op.call { callee := Go.Callee.value (Go.Operand.func 11), args := #[Go.Operand.tmp 22, Go.Operand.tmp 23, Go.Operand.tmp 24], argTypes := #[24, 3, 3] }, type := 3, pos := "quotient.go:252", after := #[{ on := 1, ground := Go.Ground.data }, { on := 2, ground := Go.Ground.data }, { on := 3, ground := Go.Ground.data }], guard := none }) rfl (fun K hK => ?_) AllReadyH.nil
          go_simp
          refine (orderMu_any n a cap g k i _ h10 HG.out HO.out (HRW.out _ (by assumption)) hkn hin).mono ?_
          rintro e w8 ⟨rfl, hb8⟩
          rw [HM.out]
          refine hK.out _ _ ?_ (fun hHeld => ?_)
          · first | assumption | exact Below.then (by assumption) (by assumption)
          clear hK K
          try simp only [Act.put, List.setIfInBounds_toArray, List.set_cons_zero, List.set_cons_succ]
          refine wpAnyH_take (i := 9) (oi := { dst := some 30, op := Go.Op.binOp Go.BinOp.mul 3 (Go.Operand.tmp 25) (Go.Operand.tmp 29) 3, type := 3, pos := "quotient.go:252", after := #[{ on := 4, ground := Go.Ground.data }, { on := 8, ground := Go.Ground.data }], guard := none }) (v := .int .i64 Z) rfl (by kernel_rfl) (by kernel_rfl) (by kernel_rfl) (fun _ _ _ h => h) (Or.inl ⟨by rfl, ?hy⟩) (by assumption) ?_
          case hy => (intro w9 hSw; (try dsimp only at hSw); go_simp <;> (first | with_reducible rfl | (simp; omega) | omega))
          try simp only [Act.put, List.setIfInBounds_toArray, List.set_cons_zero, List.set_cons_succ]
          refine wpAnyH_take (i := 10) (oi := { dst := some 31, op := Go.Op.binOp Go.BinOp.add 3 (Go.Operand.tmp 21) (Go.Operand.tmp 30) 3, type := 3, pos := "quotient.go:252", after := #[{ on := 0, ground := Go.Ground.data }, { on := 9, ground := Go.Ground.data }], guard := none }) (v := .int .i64 Q) rfl (by kernel_rfl) (by kernel_rfl) (by kernel_rfl) (fun _ _ _ h => h) (Or.inl ⟨by rfl, ?hy⟩) (by assumption) ?_
          case hy => (intro w9 hSw; (try dsimp only at hSw); go_simp <;> (first | with_reducible rfl | (simp; omega) | omega))
          try simp only [Act.put, List.setIfInBounds_toArray, List.set_cons_zero, List.set_cons_succ]
          refine wpAnyH_take (i := 11) (oi := { dst := some 7, op := Go.Op.assign (Go.Operand.tmp 31), type := 3, pos := "quotient.go:252", after := #[{ on := 10, ground := Go.Ground.data }, { on := 4, ground := Go.Ground.chain }, { on := 0, ground := Go.Ground.phase }, { on := 1, ground := Go.Ground.phase }, { on := 2, ground := Go.Ground.phase }, { on := 3, ground := Go.Ground.phase }, { on := 4, ground := Go.Ground.phase }, { on := 5, ground := Go.Ground.phase }, { on := 6, ground := Go.Ground.phase }, { on := 7, ground := Go.Ground.phase }, { on := 8, ground := Go.Ground.phase }, { on := 9, ground := Go.Ground.phase }, { on := 10, ground := Go.Ground.phase }], guard := none }) (v := ?_) rfl (by kernel_rfl) (by kernel_rfl) (by kernel_rfl) (fun _ _ _ h => h) (Or.inl ⟨by rfl, ?hy⟩) (by assumption) ?_
          case hy => (intro w9 hSw; (try dsimp only at hSw); go_simp; try with_reducible rfl)
          try simp only [Act.put, List.setIfInBounds_toArray, List.set_cons_zero, List.set_cons_succ]
          refine wpAnyH_done (by kernel_rfl) ?_ _
          try simp only [Act.put, List.setIfInBounds_toArray, List.set_cons_zero, List.set_cons_succ]
          have HB8 : Hid (Below W0.heap.size W0 w8) := hHeld
          have HO8 : Hid (w8.ownsRow W0.heap.size 3 1 u5 i C) := HOD.out _ (show Below wr.heap.size wr w8 from ⟨hb8.os, hb8.tape, hb8.output, hb8.size, hb8.block⟩)
          clear hHeld hb8 HOD hc0 hc1 hcf KK hm hadd
          go_wp2_with fail
          go_roundw
          case rel => exact ⟨k + 1, by omega, by go_num, by rw [HQ.out], HO8, HB8⟩
          case measure => simp [intOf]; omega
        · obtain rfl : k = n := by omega
          have hown := HOW.out
          have hsz := hB.out.size
          clear hH
          generalize wz (unT g F k i k) = T at *
          go_wp2_with (at_builtin; refine wpList_append_own _ rfl _ _ 22 rfl W0.heap.size 3 i0 (.int .i64 0) 1 8 Try.underlying22 hi hz0 hz1 hz2 rfl (by decide) _ _ _ rfl (hown.alloc _) ⟨wr.heap.size, 0, none⟩ 1 1 [.int .i64 T] rfl rfl ?c1 ?c2 ?c3 ?c4 ?c5 ?_)
          case c1 => exact cell_one_new _ _ _
          case c2 => exact ints_oneCell .i64 [T]
          case c3 => unfold maxLen; omega
          case c4 => omega
          case c5 => simp; omega
          intro v' w4 hown' hgrow _
          have HB4 : Hid (Below W0.heap.size W0 w4) := below_append3 hB.out hown hgrow
          have HO4 : Hid (w4.ownsRow W0.heap.size 3 1 v' (i + 1) (intVals (unI g F k) (i + 1))) := by rw [HSU.out]; exact hown'
          clear hown' hgrow hown hB hsz c0
          go_wp2_with fail
          go_roundw
          case rel => exact ⟨i + 1, by omega, by go_num, HO4.out, HB4⟩
          case measure => simp [intOf]; omega
    · obtain rfl : i = n := by omega
      have HF : Hid (ISl wr u5 i (unI g F i)) := owns_ints hown
      clear hown hH
      go_wp2_with fail
      go_ret
      exact ⟨⟨_, rfl, HF.out⟩, Below.then HB0.out hB.out⟩
end Go.Proofs.Ytgdbldfbhiaepaa
