/-
  What the reference's CutsOf, and hasselaw's setOf and numberIs answer. Conditions: as each theorem says.
-/
import Derived.Deep.RegionHeld3
import Derived.Test.YtkcogfjlpbfckaaRefBound
namespace Go.Proofs.Ytkcogfjlpbfckaa
open Go.RowKit

theorem bnd_1024 (g : Nat → Nat) {n : Nat} (h10 : n ≤ 10) (s : Nat) (up : Bool) : bnd g n s up < 1024 := Nat.lt_of_lt_of_le (bnd_lt g n s up) (pw_le n h10)

set_option maxHeartbeats 4000000 in
theorem cutsOf_any (a : Option Addr) (n cap : Nat) (g : Nat → Nat) (w : World) (h10 : n ≤ 10) (hg : ∀ k, k < n → g k < 1024) (hr : Row w a n (fun k => (g k : Nat))) :
    Calls Try.prog 16 #[.agg #[.int .i64 (n : Int), .slice a n cap]] w fun e w' => (∃ v, e = .returned v ∧ NSl w' v (cuts g n)) ∧ Below w.heap.size w w' := by
  have HG : Hid (∀ k, k < n → g k < 1024) := hg
  obtain ⟨W, HW⟩ : ∃ W, Hid (W = w.alloc (.cells #[.int .i64 (n : Int), .slice a n cap] 24)) := ⟨_, rfl⟩
  have B0 : Below w.heap.size w W := by rw [HW.out]; exact (Below.refl _ _).alloc (Nat.le_refl _) _
  have H0 : Held W w.heap.size n a n cap (fun k => (g k : Nat)) := by rw [HW.out]; exact Held.box hr
  have HH0 : Hid (∀ w', Below W.heap.size W w' → Held w' w.heap.size n a n cap (fun k => (g k : Nat))) := fun w' h => H0.step h
  have HB0 : Hid (Below w.heap.size w W) := B0
  have hpw := pw_le n h10
  obtain ⟨i0, hi, hz0, hz1, hz2⟩ := info_parts Try.info3
  obtain ⟨I, HI⟩ : ∃ I, Hid (I = isCut g n) := ⟨_, rfl⟩
  have HIA : Hid (∀ s, (bnd g n (bnd g n s true) false == s) = I s) := fun s => by rw [HI.out, ← cutW_eq]; simp only [isCut]; rw [Bool.eq_iff_iff]; simp
  have HCV : Hid (cuts g n = fil I (pw n)) := by rw [HI.out]; rfl
  clear hg hr B0 H0
  go_enter Try.func16, Try.ntmps16
  go_wp2_with fail
  rw [← HW.out]
  go_wp2_with fail
  clear HW
  go_loopw [3, 4] (fun v i wx => ∃ s : Nat, s ≤ pw n ∧ i = .int .i64 s ∧ wx.ownsRow W.heap.size 3 1 v (fil I s).length (natVals (fil I s)) ∧ Hid (Below W.heap.size W wx)) (fun _ i _ => pw n - (intOf i).toNat)
  case atStart => exact ⟨0, Nat.zero_le _, rfl, World.ownsRow_nil _ _ _ _, Below.refl _ _⟩
  case round =>
    obtain ⟨s, hs, rfl, hown, hB⟩ := hrel
    have hH0 := HH0.out _ hB.out
    have c0 := hH0.c0
    have c1 := hH0.c1
    by_cases hlt : s < pw n
    · have LR : Hid (∀ w', Below wr.heap.size wr w' → Row w' a n (fun k => ((g k : Nat) : Int))) := fun w' h => (hH0.step h).row
      have l0 : ∀ w', Below wr.heap.size wr w' → w'.cell? ⟨w.heap.size, 0, none⟩ = some (.int .i64 (n : Int)) := fun w' h => (hH0.step h).c0
      have l1 : ∀ w', Below wr.heap.size wr w' → w'.cell? ⟨w.heap.size, 1, none⟩ = some (.slice a n cap) := fun w' h => (hH0.step h).c1
      have KK : Below wr.heap.size wr wr.drew := (Below.refl _ _).drew
      have hbl := bnd_1024 g h10 s true
      rcases (Bool.eq_false_or_eq_true (I s)).symm with hb | hb
      · have HE : Hid (fil I (s + 1) = fil I s) := fil_no hb
        have HQ : Hid ((((bnd g n (bnd g n s true) false : Nat) : Int) == ((s : Nat) : Int)) = false) := by
          have := HIA.out s; rw [hb] at this
          have h2 : bnd g n (bnd g n s true) false ≠ s := by simpa using this
          exact beq_false_of_ne (by omega)
        clear hH0
        go_wp2_with (go_at_call 26; refine (bit_any n _ (by omega)).mono ?_; rintro e w' ⟨rfl, rfl⟩)
        refine wp_region_held_drew (S := (fun w' => Below wr.heap.size wr w')) (by kernel_rfl) (KK) (fun hHeld => ?_)
        refine wpAnyH_take (i := 0) (oi := { dst := some 12, op := Go.Op.load 24 (Go.Operand.tmp 1), type := 24, pos := "lattice.go:556", after := #[], guard := none }) (v := ?_) rfl (by kernel_rfl) (by kernel_rfl) (by kernel_rfl) (fun _ _ _ h => h) (Or.inl ⟨by rfl, ?hy⟩) (by assumption) ?_
        case hy => (intro w9 hSw; (try dsimp only at hSw); go_simp; try with_reducible rfl)
        try simp only [Act.put, List.setIfInBounds_toArray, List.set_cons_zero, List.set_cons_succ]
        refine wpAnyH_take (i := 1) (oi := { dst := some 13, op := Go.Op.load 24 (Go.Operand.tmp 1), type := 24, pos := "lattice.go:556", after := #[], guard := none }) (v := ?_) rfl (by kernel_rfl) (by kernel_rfl) (by kernel_rfl) (fun _ _ _ h => h) (Or.inl ⟨by rfl, ?hy⟩) (by assumption) ?_
        case hy => (intro w9 hSw; (try dsimp only at hSw); go_simp; try with_reducible rfl)
        try simp only [Act.put, List.setIfInBounds_toArray, List.set_cons_zero, List.set_cons_succ]
        refine wpAnyH_take (i := 2) (oi := { dst := some 14, op := Go.Op.move (Go.Operand.tmp 4), type := 3, pos := "lattice.go:556", after := #[], guard := none }) (v := ?_) rfl (by kernel_rfl) (by kernel_rfl) (by kernel_rfl) (fun _ _ _ h => h) (Or.inl ⟨by rfl, ?hy⟩) (by assumption) ?_
        case hy => (intro w9 hSw; (try dsimp only at hSw); go_simp; try with_reducible rfl)
        try simp only [Act.put, List.setIfInBounds_toArray, List.set_cons_zero, List.set_cons_succ]
        refine wpAnyH_take (i := 5) (oi := { dst := some 17, op := Go.Op.move (Go.Operand.tmp 4), type := 3, pos := "lattice.go:556", after := #[], guard := none }) (v := ?_) rfl (by kernel_rfl) (by kernel_rfl) (by kernel_rfl) (fun _ _ _ h => h) (Or.inl ⟨by rfl, ?hy⟩) (by assumption) ?_
        case hy => (intro w9 hSw; (try dsimp only at hSw); go_simp; try with_reducible rfl)
        try simp only [Act.put, List.setIfInBounds_toArray, List.set_cons_zero, List.set_cons_succ]
        refine wpAnyH_ready (rs := [3]) (by kernel_rfl) (by simp) ?_
        refine AllReadyH.cons (o := { dst := some 15, op := Go.Op.call { callee := Go.Callee.value (Go.Operand.func 11), args := #[Go.Operand.tmp 13, Go.Operand.tmp 14, Go.Operand.const (Go.Value.bool true)], argTypes := #[24, 3, 4] }, type := 3, pos := "lattice.go:556", after := #[{ on := 1, ground := Go.Ground.data }, { on := 2, ground := Go.Ground.data }], guard := none }) rfl (fun K hK => ?_) AllReadyH.nil
        go_simp
        refine (bound_any a n cap g s true _ h10 HG.out (LR.out _ (by assumption)) (by omega)).mono ?_
        rintro e w1 ⟨rfl, hb1⟩
        refine hK.out _ _ ?_ (fun hHeld => ?_)
        · first | assumption | exact Below.then (by assumption) (by assumption)
        clear hK K
        try simp only [Act.put, List.setIfInBounds_toArray, List.set_cons_zero, List.set_cons_succ]
        refine wpAnyH_ready (rs := [4]) (by kernel_rfl) (by simp) ?_
        refine AllReadyH.cons (o := { dst := some 16, op := Go.Op.call { callee := Go.Callee.value (Go.Operand.func 11), args := #[Go.Operand.tmp 12, Go.Operand.tmp 15, Go.Operand.const (Go.Value.bool false)], argTypes := #[24, 3, 4] }, type := 3, pos := "lattice.go:556", after := #[{ on := 0, ground := Go.Ground.data }, { on := 3, ground := Go.Ground.data }, { on := 3, ground := Go.Ground.chain }], guard := none }) rfl (fun K hK => ?_) AllReadyH.nil
        go_simp
        refine (bound_any a n cap g (bnd g n s true) false _ h10 HG.out (LR.out _ (by assumption)) hbl).mono ?_
        rintro e w2 ⟨rfl, hb2⟩
        refine hK.out _ _ ?_ (fun hHeld => ?_)
        · first | assumption | exact Below.then (by assumption) (by assumption)
        clear hK K
        try simp only [Act.put, List.setIfInBounds_toArray, List.set_cons_zero, List.set_cons_succ]
        refine wpAnyH_take (i := 6) (oi := { dst := some 18, op := Go.Op.binOp Go.BinOp.eql 3 (Go.Operand.tmp 16) (Go.Operand.tmp 17) 3, type := 4, pos := "lattice.go:556", after := #[{ on := 4, ground := Go.Ground.data }, { on := 5, ground := Go.Ground.data }], guard := none }) (v := ?_) rfl (by kernel_rfl) (by kernel_rfl) (by kernel_rfl) (fun _ _ _ h => h) (Or.inl ⟨by rfl, ?hy⟩) (by assumption) ?_
        case hy => (intro w9 hSw; (try dsimp only at hSw); go_simp; try with_reducible rfl)
        try simp only [Act.put, List.setIfInBounds_toArray, List.set_cons_zero, List.set_cons_succ]
        refine wpAnyH_done (by kernel_rfl) ?_ _
        try simp only [Act.put, List.setIfInBounds_toArray, List.set_cons_zero, List.set_cons_succ]
        have hb8 : Below wr.heap.size wr w2 := by first | assumption | exact hHeld
        have hq := HQ.out
        have HB2 : Hid (Below W.heap.size W w2) := Below.then hB.out hb8
        have hown2 := owns_below hown hb8
        clear hown hb8 c0 c1 hB HQ l0 l1 KK LR hbl
        go_wp2_with fail
        go_roundw
        case rel => exact ⟨s + 1, by omega, by go_num, by rw [HE.out]; exact hown2, HB2⟩
        case measure => simp [intOf]; omega
      · have HE : Hid (fil I (s + 1) = fil I s ++ [s]) := fil_yes hb
        have HQ : Hid ((((bnd g n (bnd g n s true) false : Nat) : Int) == ((s : Nat) : Int)) = true) := by
          have := HIA.out s; rw [hb] at this
          have h2 : bnd g n (bnd g n s true) false = s := by simpa using this
          rw [h2]; exact beq_self_eq_true _
        have hlen := fil_len I s
        clear hH0
        go_wp2_with (go_at_call 26; refine (bit_any n _ (by omega)).mono ?_; rintro e w' ⟨rfl, rfl⟩)
        refine wp_region_held_drew (S := (fun w' => Below wr.heap.size wr w')) (by kernel_rfl) (KK) (fun hHeld => ?_)
        refine wpAnyH_take (i := 0) (oi := { dst := some 12, op := Go.Op.load 24 (Go.Operand.tmp 1), type := 24, pos := "lattice.go:556", after := #[], guard := none }) (v := ?_) rfl (by kernel_rfl) (by kernel_rfl) (by kernel_rfl) (fun _ _ _ h => h) (Or.inl ⟨by rfl, ?hy⟩) (by assumption) ?_
        case hy => (intro w9 hSw; (try dsimp only at hSw); go_simp; try with_reducible rfl)
        try simp only [Act.put, List.setIfInBounds_toArray, List.set_cons_zero, List.set_cons_succ]
        refine wpAnyH_take (i := 1) (oi := { dst := some 13, op := Go.Op.load 24 (Go.Operand.tmp 1), type := 24, pos := "lattice.go:556", after := #[], guard := none }) (v := ?_) rfl (by kernel_rfl) (by kernel_rfl) (by kernel_rfl) (fun _ _ _ h => h) (Or.inl ⟨by rfl, ?hy⟩) (by assumption) ?_
        case hy => (intro w9 hSw; (try dsimp only at hSw); go_simp; try with_reducible rfl)
        try simp only [Act.put, List.setIfInBounds_toArray, List.set_cons_zero, List.set_cons_succ]
        refine wpAnyH_take (i := 2) (oi := { dst := some 14, op := Go.Op.move (Go.Operand.tmp 4), type := 3, pos := "lattice.go:556", after := #[], guard := none }) (v := ?_) rfl (by kernel_rfl) (by kernel_rfl) (by kernel_rfl) (fun _ _ _ h => h) (Or.inl ⟨by rfl, ?hy⟩) (by assumption) ?_
        case hy => (intro w9 hSw; (try dsimp only at hSw); go_simp; try with_reducible rfl)
        try simp only [Act.put, List.setIfInBounds_toArray, List.set_cons_zero, List.set_cons_succ]
        refine wpAnyH_take (i := 5) (oi := { dst := some 17, op := Go.Op.move (Go.Operand.tmp 4), type := 3, pos := "lattice.go:556", after := #[], guard := none }) (v := ?_) rfl (by kernel_rfl) (by kernel_rfl) (by kernel_rfl) (fun _ _ _ h => h) (Or.inl ⟨by rfl, ?hy⟩) (by assumption) ?_
        case hy => (intro w9 hSw; (try dsimp only at hSw); go_simp; try with_reducible rfl)
        try simp only [Act.put, List.setIfInBounds_toArray, List.set_cons_zero, List.set_cons_succ]
        refine wpAnyH_ready (rs := [3]) (by kernel_rfl) (by simp) ?_
        refine AllReadyH.cons (o := { dst := some 15, op := Go.Op.call { callee := Go.Callee.value (Go.Operand.func 11), args := #[Go.Operand.tmp 13, Go.Operand.tmp 14, Go.Operand.const (Go.Value.bool true)], argTypes := #[24, 3, 4] }, type := 3, pos := "lattice.go:556", after := #[{ on := 1, ground := Go.Ground.data }, { on := 2, ground := Go.Ground.data }], guard := none }) rfl (fun K hK => ?_) AllReadyH.nil
        go_simp
        refine (bound_any a n cap g s true _ h10 HG.out (LR.out _ (by assumption)) (by omega)).mono ?_
        rintro e w1 ⟨rfl, hb1⟩
        refine hK.out _ _ ?_ (fun hHeld => ?_)
        · first | assumption | exact Below.then (by assumption) (by assumption)
        clear hK K
        try simp only [Act.put, List.setIfInBounds_toArray, List.set_cons_zero, List.set_cons_succ]
        refine wpAnyH_ready (rs := [4]) (by kernel_rfl) (by simp) ?_
        refine AllReadyH.cons (o := { dst := some 16, op := Go.Op.call { callee := Go.Callee.value (Go.Operand.func 11), args := #[Go.Operand.tmp 12, Go.Operand.tmp 15, Go.Operand.const (Go.Value.bool false)], argTypes := #[24, 3, 4] }, type := 3, pos := "lattice.go:556", after := #[{ on := 0, ground := Go.Ground.data }, { on := 3, ground := Go.Ground.data }, { on := 3, ground := Go.Ground.chain }], guard := none }) rfl (fun K hK => ?_) AllReadyH.nil
        go_simp
        refine (bound_any a n cap g (bnd g n s true) false _ h10 HG.out (LR.out _ (by assumption)) hbl).mono ?_
        rintro e w2 ⟨rfl, hb2⟩
        refine hK.out _ _ ?_ (fun hHeld => ?_)
        · first | assumption | exact Below.then (by assumption) (by assumption)
        clear hK K
        try simp only [Act.put, List.setIfInBounds_toArray, List.set_cons_zero, List.set_cons_succ]
        refine wpAnyH_take (i := 6) (oi := { dst := some 18, op := Go.Op.binOp Go.BinOp.eql 3 (Go.Operand.tmp 16) (Go.Operand.tmp 17) 3, type := 4, pos := "lattice.go:556", after := #[{ on := 4, ground := Go.Ground.data }, { on := 5, ground := Go.Ground.data }], guard := none }) (v := ?_) rfl (by kernel_rfl) (by kernel_rfl) (by kernel_rfl) (fun _ _ _ h => h) (Or.inl ⟨by rfl, ?hy⟩) (by assumption) ?_
        case hy => (intro w9 hSw; (try dsimp only at hSw); go_simp; try with_reducible rfl)
        try simp only [Act.put, List.setIfInBounds_toArray, List.set_cons_zero, List.set_cons_succ]
        refine wpAnyH_done (by kernel_rfl) ?_ _
        try simp only [Act.put, List.setIfInBounds_toArray, List.set_cons_zero, List.set_cons_succ]
        have hb8 : Below wr.heap.size wr w2 := by first | assumption | exact hHeld
        have hq := HQ.out
        have HB2 : Hid (Below W.heap.size W w2) := Below.then hB.out hb8
        have hown2 := owns_below hown hb8
        have hsz : W.heap.size ≤ w2.heap.size := HB2.out.size
        clear hown hb8 c0 c1 hB HQ l0 l1 KK LR hbl
        obtain ⟨L, HL⟩ : ∃ L, Hid (L = fil I s) := ⟨_, rfl⟩
        rw [← HL.out] at hown2 hlen
        go_wp2_with (at_builtin; refine wpList_append_own _ rfl _ _ 22 rfl W.heap.size 3 i0 (.int .i64 0) 1 8 Try.underlying22 hi hz0 hz1 hz2 rfl (by decide) _ _ _ rfl (hown2.alloc _) ⟨w2.heap.size, 0, none⟩ 1 1 [.int .i64 (s : Nat)] rfl rfl ?c1 ?c2 ?c3 ?c4 ?c5 ?_)
        case c1 =>
          intro j u hj
          match j, hj with
          | 0, hj => simp at hj; subst hj; simp [Addr.add]
        case c2 => intro u hu; simp at hu; subst hu; rfl
        case c3 => unfold maxLen; omega
        case c4 => omega
        case c5 => simp; omega
        intro v' w3 hown' hgrow _
        have HB3 : Hid (Below W.heap.size W w3) := below_append3 HB2.out hown2 hgrow
        have HO3 : Hid (w3.ownsRow W.heap.size 3 1 v' (fil I (s + 1)).length (natVals (fil I (s + 1)))) := by
          rw [HE.out, ← HL.out, natVals_append, List.length_append]; exact hown'
        clear hown' hgrow hown2 HB2 hlen hsz HL hq
        go_wp2_with fail
        go_roundw
        case rel => exact ⟨s + 1, by omega, by go_num, HO3.out, HB3⟩
        case measure => simp [intOf]; omega
    · have hsn : s = pw n := by omega
      have HF : Hid (NSl wr u3 (cuts g n)) := by rw [HCV.out, ← hsn]; exact owns_nats hown
      have hle : ((pw n : Nat) : Int) ≤ (s : Int) := by omega
      clear hown hH0 hsn hlt
      go_wp2_with (go_at_call 26; refine (bit_any n _ (by omega)).mono ?_; rintro e w' ⟨rfl, rfl⟩)
      go_ret
      exact ⟨⟨_, rfl, HF.out⟩, Below.then HB0.out hB.out⟩

theorem isSetL_any (s : Int) (n : Nat) (w : World) (hn : n ≤ 10) :
    Calls Try.prog 34 #[.int .i64 s, .int .i64 n] w fun e w' => e = .returned (.bool (sts s n)) ∧ w = w' := by
  have hpw := pw_le n hn
  by_cases h0 : 0 ≤ s
  · by_cases h1 : s < ((pw n : Nat) : Int)
    · go_enter Try.func34, Try.ntmps34
      go_wp2_with (go_at_call 26; refine (bit_any n _ (by omega)).mono ?_; rintro e w' ⟨rfl, rfl⟩)
      go_ret
      exact ⟨ret_bool (by simp [sts, h0, h1]), rfl⟩
    · go_enter Try.func34, Try.ntmps34
      go_wp2_with (go_at_call 26; refine (bit_any n _ (by omega)).mono ?_; rintro e w' ⟨rfl, rfl⟩)
      go_ret
      exact ⟨ret_bool (by simp [sts, h0]), rfl⟩
  · have h0' : decide (0 ≤ s) = false := by simp; omega
    go_enter Try.func34, Try.ntmps34
    go_wp2
    go_ret
    exact ⟨ret_bool (by simp [sts]; omega), rfl⟩

theorem setOf_any (n : Int) (a : Option Addr) (len cap : Nat) (f : Nat → Int) (s : Int) (w : World) (hl : len ≤ maxLen) (hr : Row w a len f) :
    Calls Try.prog 10 #[.agg #[.int .i64 n, .slice a len cap], .int .i64 s] w fun e w' => (∃ c, e = .returned (.int .i64 c) ∧ SCk n len f s c) ∧ Below w.heap.size w w' := by
  have K0 : Held (w.alloc (.cells #[.int .i64 n, .slice a len cap] 24)) w.heap.size n a len cap f := Held.box hr
  have HB0 : Hid (Below w.heap.size w (w.alloc (.cells #[.int .i64 n, .slice a len cap] 24))) := (Below.refl _ _).alloc (Nat.le_refl _) _
  clear hr
  go_enter Try.func10, Try.ntmps10
  go_wp2_with fail
  refine (checkOrder_any n a len cap f _ hl K0.row).mono ?_
  rintro e w1 ⟨⟨c, rfl, hc⟩, hb⟩
  have K1 := K0.step hb
  have k0 := K1.c0
  have k1 := K1.c1
  have HB1 : Hid (Below w.heap.size w w1) := Below.then HB0.out hb
  clear hb K0 HB0
  by_cases h0 : c = 0
  · subst h0
    obtain ⟨rfl, h10, hrng, _⟩ := hc.good
    have HC : Hid (Chk (len : Int) len f 0) := hc
    clear hc K1
    rcases (Bool.eq_false_or_eq_true (sts s len)).symm with hs | hs
    · go_wp2_with (go_at_call 34; refine (isSetL_any s len _ h10).mono ?_; rintro e w' ⟨rfl, rfl⟩; rw [hs])
      go_ret
      exact ⟨⟨3, rfl, .inr ⟨HC.out, .inl ⟨rfl, hs⟩⟩⟩, HB1.out⟩
    · go_wp2_with (go_at_call 34; refine (isSetL_any s len _ h10).mono ?_; rintro e w' ⟨rfl, rfl⟩; rw [hs])
      go_ret
      exact ⟨⟨0, rfl, .inr ⟨HC.out, .inr ⟨rfl, hs⟩⟩⟩, HB1.out⟩
  · have hne : (c == 0) = false := by simpa using h0
    have HC : Hid (Chk n len f c) := hc
    clear hc
    go_wp2_with fail
    go_ret
    exact ⟨⟨c, rfl, .inl ⟨h0, HC.out⟩⟩, HB1.out⟩

/-- What it says of two answers that agree. -/
theorem numberIs_any (c v v' : Int) (w : World) (h : (c ≠ 0 ∧ v = 0) ∨ (c = 0 ∧ v = v')) :
    Calls Try.prog 13 #[.int .i64 v, .int .i64 c, .int .i64 c, .int .i64 v'] w fun e w' => e = .returned (.bool true) ∧ w = w' := by
  have hcc : (c == c) = true := beq_self_eq_true _
  rcases h with ⟨h0, rfl⟩ | ⟨rfl, rfl⟩
  · have hne : (c != 0) = true := by simpa using h0
    go_enter Try.func13, Try.ntmps13
    go_wp2_with fail
    go_ret
    exact ⟨rfl, rfl⟩
  · have hvv : (v == v) = true := beq_self_eq_true _
    go_enter Try.func13, Try.ntmps13
    go_wp2_with fail
    go_ret
    exact ⟨rfl, rfl⟩
end Go.Proofs.Ytkcogfjlpbfckaa
