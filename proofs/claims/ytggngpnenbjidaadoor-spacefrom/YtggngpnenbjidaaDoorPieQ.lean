/-
  What space.Pieces answers, whatever it is handed: the document's X3. Condition: the table of the least bits.
-/
import Derived.Test.YtggngpnenbjidaaDoorLate
import Derived.Test.YtggngpnenbjidaaDoorPieP
namespace Go.Proofs.YtggngpnenbjidaaDoor
open Go.RowKit

/-- What a point holds on to: what is below it, and what is above it. -/
def hld (g : Nat → Nat) (n k : Nat) : Nat := g k ||| trn g n k
def PiePost (K : Nat) (n : Int) (len : Nat) (f : Nat → Int) (e : Ending) (w' : World) : Prop :=
  ∃ (c : Int) (v : Value), e = .returned (.tuple #[v, .int .i64 c]) ∧ Chk n len f c ∧ ((c ≠ 0 ∧ v = .slice none 0 0) ∨ (c = 0 ∧ ∃ L, NSl w' v L ∧ PcL (hld (nat f) len) L (pw len - 1) 0 ∧ L.length ≤ 1024 ∧ NewV K v))
def hto (g : Nat → Nat) (n m k : Nat) : Nat := if k < m then hld g n k else 0
theorem hto_succ (g : Nat → Nat) (n m : Nat) : hto g n (m + 1) = upd (hto g n m) m (hld g n m) := by
  funext k
  unfold hto
  by_cases e : k = m
  · subst e; rw [upd_same]; simp
  · rw [upd_other _ _ _ _ (by omega)]
    by_cases h : k < m
    · rw [if_pos h, if_pos (by omega)]
    · rw [if_neg h, if_neg (by omega)]

set_option maxHeartbeats 4000000 in
theorem pieces_call (n : Int) (a : Option Addr) (len cap : Nat) (f : Nat → Int) (w : World) (hl : len ≤ maxLen) (hr : Row w a len f) (hT : Tab w) :
    Calls Tryd.prog 26 #[.agg #[.int .i64 n, .slice a len cap]] w fun e w' => PiePost w.heap.size n len f e w' ∧ Below w.heap.size w w' := by
  have HB0 : Hid (Below w.heap.size w (w.alloc (.cells #[.int .i64 n, .slice a len cap] 24))) := (Below.refl _ _).alloc (Nat.le_refl _) _
  have K0 : Hid (Held (w.alloc (.cells #[.int .i64 n, .slice a len cap] 24)) w.heap.size n a len cap f) := Held.box hr
  have HT0 : Hid (Tab (w.alloc (.cells #[.int .i64 n, .slice a len cap] 24))) := hT.step HB0.out
  clear hr hT
  have k0 := K0.out.c0
  have k1 := K0.out.c1
  obtain ⟨i0, hi, hz0, hz1, hz2⟩ := info_parts Tryd.info3
  go_enter Tryd.func26, Tryd.ntmps26
  go_wp2_with fail
  refine (dual_any n a len cap f _ hl K0.out.row).mono ?_
  rintro e w1 ⟨⟨c, x, hc, rfl, hx⟩, hb1⟩
  have HB1 : Hid (Below w.heap.size w w1) := Below.then HB0.out hb1
  have K1 : Hid (Held w1 w.heap.size n a len cap f) := K0.out.step hb1
  have HT1 : Hid (Tab w1) := HT0.out.step hb1
  have HC : Hid (Chk n len f c) := hc
  clear hb1 HB0 K0 k0 k1 HT0
  rcases hx with ⟨h0, rfl⟩ | ⟨rfl, a', cap', rfl, hrow⟩
  · have hne : (c != 0) = true := by simpa using h0
    have H0 : Hid (c ≠ 0) := h0
    clear hc h0
    unfold noOrder
    go_wp2_with fail
    go_ret2
    exact ⟨⟨_, _, rfl, HC.out, .inl ⟨H0.out, rfl⟩⟩, (Below.then HB1.out ((Below.refl _ _).alloc (Nat.le_refl _) _))⟩
  · obtain ⟨rfl, h10, hrng, hord⟩ := hc.good
    have hbx : Below w1.heap.size w1 (w1.alloc (.cells #[.int .i64 (len : Int), .slice a' len cap'] 24)) := (Below.refl _ _).alloc (Nat.le_refl _) _
    have K2 : Hid (Held (w1.alloc (.cells #[.int .i64 (len : Int), .slice a' len cap'] 24)) w.heap.size len a len cap f) := K1.out.step hbx
    have k0 := K2.out.c0
    have HB2 : Hid (Below w.heap.size w (w1.alloc (.cells #[.int .i64 (len : Int), .slice a' len cap'] 24))) := Below.then HB1.out hbx
    have HD2 : Hid (Held (w1.alloc (.cells #[.int .i64 (len : Int), .slice a' len cap'] 24)) w1.heap.size len a' len cap' (fun k => (trn (nat f) len k : Nat))) := Held.box hrow
    have HT2 : Hid (Tab (w1.alloc (.cells #[.int .i64 (len : Int), .slice a' len cap'] 24))) := HT1.out.step hbx
    have HGR : Hid (Rng len f) := hrng
    have hpl := pw_le len h10
    clear hc hord hbx hrow HT1 K1 HB1 hrng
    go_wp2_with (at_make; refine wpList_make_full _ rfl _ _ 22 rfl (w1.heap.size + 1) 3 i0 (.int .i64 0) 1 Tryd.underlying22 hi hz0 hz1 .i64 .i64 _ _ len rfl rfl rfl rfl (by rw [hz2]; omega) (by unfold maxLen; omega) (by simp) ?_; intro w3 hown3 hgrow3)
    have hO3 := own_made hown3
    have hszW := World.size_alloc w1 (.cells #[.int .i64 (len : Int), .slice a' len cap'] 24)
    rw [World.size_alloc] at hO3
    generalize w1.alloc (.cells #[.int .i64 (len : Int), .slice a' len cap'] 24) = W2 at *
    have hb3 : Below W2.heap.size W2 w3 := (Below.refl _ _).grown hgrow3 (Nat.le_refl _) (by simp)
    have HB3 : Hid (Below W2.heap.size W2 w3) := hb3
    have HO3 : Hid (Own w3 (w1.heap.size + 1) len (hto (nat f) len 0)) := hO3.congr (fun k _ => by simp [hto])
    have HS2 : Hid (∀ k, k < len → nat f k < pw len) := HGR.out.small
    have HRW : Hid (∀ w', Row w' a len f → Row w' a len (fun k => (nat f k : Nat))) := fun w' h => HGR.out.row h
    have HHL : Hid (∀ k, hld (nat f) len k = nat f k ||| trn (nat f) len k) := fun _ => rfl
    have HSU : Hid (∀ m, hto (nat f) len (m + 1) = upd (hto (nat f) len m) m (hld (nat f) len m)) := hto_succ _ _
    have HTL : Hid (∀ k, trn (nat f) len k < pw len) := fun k => trn_lt _ _ k
    have HEN : Hid (∀ k, k < len → hto (nat f) len len k = hld (nat f) len k) := fun k hk => by unfold hto; rw [if_pos hk]
    have HPO : Hid (∀ v w', (∃ L, NSl w' v L ∧ PcL (hld (nat f) len) L (pw len - 1) 0 ∧ L.length ≤ 1024 ∧ NewV w.heap.size v) → PiePost w.heap.size (len : Int) len f (.returned (.tuple #[v, .int .i64 0])) w') := fun v w' h => ⟨0, v, rfl, HC.out, .inr ⟨rfl, h⟩⟩
    clear hb3 hO3 hown3 hgrow3 hi hz0 hz1 hz2 k0 HC HGR
    generalize hgf : nat f = g at *
    go_loopw [21] (fun i wx => ∃ k : Nat, k ≤ len ∧ i = .int .i64 k ∧ Hid (Own wx (w1.heap.size + 1) len (hto g len k)) ∧ Hid (Below W2.heap.size W2 wx)) (fun i _ => len - (intOf i).toNat)
    case atStart => exact ⟨0, Nat.zero_le _, rfl, HO3.out, HB3.out⟩
    case round =>
      clear HO3 HB3
      obtain ⟨k, hk, rfl, HO, HBx⟩ := hrel
      by_cases hlt : k < len
      · have hlk : (k : Int) < (len : Int) := by omega
        obtain ⟨X, HX⟩ : ∃ X, Hid (X = wr.drew) := ⟨_, rfl⟩
        have hBX : Below W2.heap.size W2 X := by rw [HX.out]; exact HBx.out.drew
        have hOX : Own X (w1.heap.size + 1) len (hto g len k) := by rw [HX.out]; exact HO.out
        have kx := K2.out.step hBX
        have dx := HD2.out.step hBX
        have c1 := kx.c1
        have d1 := dx.c1
        obtain ⟨b2, off2, rfl, c2⟩ := HRW.out _ kx.row k hlt
        obtain ⟨b3, off3, rfl, c3⟩ := dx.row k hlt
        have cf := (hOX k hlt).2
        have cv := (hOX k hlt).1
        have hg1 := HS2.out k hlt
        have hg2 := HTL.out k
        have hor := i64_or (g k) (trn g len k) (by omega) (by omega)
        rw [← HHL.out] at hor
        have HOT : Hid (Own (X.setCell ⟨w1.heap.size + 1, k, none⟩ (.int .i64 ((hld g len k : Nat) : Int))) (w1.heap.size + 1) len (hto g len (k + 1))) := by rw [HSU.out]; exact hOX.set k _ hlt
        have HBT : Hid (Below W2.heap.size W2 (X.setCell ⟨w1.heap.size + 1, k, none⟩ (.int .i64 ((hld g len k : Nat) : Int)))) := hBX.setCell (p := ⟨w1.heap.size + 1, k, none⟩) (by rw [hszW]; exact Nat.le_refl _) _
        clear hBX hOX kx dx HO HBx
        go_wp2_with fail
        refine wp_lates (S := (fun w' => w' = X)) (late := (fun i => i == 14)) (by kernel_rfl) ?_
        rw [← HX.out]
        have HS : Hid (X = X) := rfl
        refine lates_take (i := 0) (oi := { dst := some 24, op := Go.Op.move (Go.Operand.tmp 6), type := 22, pos := "space.go:60", after := #[], guard := none }) (v := ?_) rfl (by kernel_rfl) (by kernel_rfl) (by kernel_rfl) ⟨rfl, by kernel_rfl⟩ (fun _ _ _ h => h) (Or.inl ⟨by rfl, ?hy⟩) HS.out ?_
        case hy => (intro w9 hSw; (try dsimp only at hSw); subst hSw; go_simp; try with_reducible rfl)
        try simp only [Act.put, List.setIfInBounds_toArray, List.set_cons_zero, List.set_cons_succ]
        refine lates_take (i := 1) (oi := { dst := some 25, op := Go.Op.move (Go.Operand.tmp 7), type := 3, pos := "space.go:60", after := #[], guard := none }) (v := ?_) rfl (by kernel_rfl) (by kernel_rfl) (by kernel_rfl) ⟨rfl, by kernel_rfl⟩ (fun _ _ _ h => h) (Or.inl ⟨by rfl, ?hy⟩) HS.out ?_
        case hy => (intro w9 hSw; (try dsimp only at hSw); subst hSw; go_simp; try with_reducible rfl)
        try simp only [Act.put, List.setIfInBounds_toArray, List.set_cons_zero, List.set_cons_succ]
        refine lates_take (i := 2) (oi := { dst := some 26, op := Go.Op.fieldAddr 24 (Go.Operand.tmp 1) 1, type := 0, pos := "space.go:60", after := #[], guard := none }) (v := ?_) rfl (by kernel_rfl) (by kernel_rfl) (by kernel_rfl) ⟨rfl, by kernel_rfl⟩ (fun _ _ _ h => h) (Or.inl ⟨by rfl, ?hy⟩) HS.out ?_
        case hy => (intro w9 hSw; (try dsimp only at hSw); subst hSw; go_simp; try with_reducible rfl)
        try simp only [Act.put, List.setIfInBounds_toArray, List.set_cons_zero, List.set_cons_succ]
        refine lates_take (i := 3) (oi := { dst := some 27, op := Go.Op.load 22 (Go.Operand.tmp 26), type := 22, pos := "space.go:60", after := #[{ on := 2, ground := Go.Ground.data }], guard := none }) (v := ?_) rfl (by kernel_rfl) (by kernel_rfl) (by kernel_rfl) ⟨rfl, by kernel_rfl⟩ (fun _ _ _ h => h) (Or.inl ⟨by rfl, ?hy⟩) HS.out ?_
        case hy => (intro w9 hSw; (try dsimp only at hSw); subst hSw; go_simp; try with_reducible rfl)
        try simp only [Act.put, List.setIfInBounds_toArray, List.set_cons_zero, List.set_cons_succ]
        refine lates_take (i := 4) (oi := { dst := some 28, op := Go.Op.move (Go.Operand.tmp 7), type := 3, pos := "space.go:60", after := #[], guard := none }) (v := ?_) rfl (by kernel_rfl) (by kernel_rfl) (by kernel_rfl) ⟨rfl, by kernel_rfl⟩ (fun _ _ _ h => h) (Or.inl ⟨by rfl, ?hy⟩) HS.out ?_
        case hy => (intro w9 hSw; (try dsimp only at hSw); subst hSw; go_simp; try with_reducible rfl)
        try simp only [Act.put, List.setIfInBounds_toArray, List.set_cons_zero, List.set_cons_succ]
        refine lates_take (i := 5) (oi := { dst := some 29, op := Go.Op.indexAddr 22 (Go.Operand.tmp 27) (Go.Operand.tmp 28), type := 0, pos := "space.go:60", after := #[{ on := 3, ground := Go.Ground.data }, { on := 4, ground := Go.Ground.data }], guard := none }) (v := ?_) rfl (by kernel_rfl) (by kernel_rfl) (by kernel_rfl) ⟨rfl, by kernel_rfl⟩ (fun _ _ _ h => h) (Or.inl ⟨by rfl, ?hy⟩) HS.out ?_
        case hy => (intro w9 hSw; (try dsimp only at hSw); subst hSw; go_simp; try with_reducible rfl)
        try simp only [Act.put, List.setIfInBounds_toArray, List.set_cons_zero, List.set_cons_succ]
        refine lates_take (i := 6) (oi := { dst := some 30, op := Go.Op.load 3 (Go.Operand.tmp 29), type := 3, pos := "space.go:60", after := #[{ on := 5, ground := Go.Ground.data }], guard := none }) (v := ?_) rfl (by kernel_rfl) (by kernel_rfl) (by kernel_rfl) ⟨rfl, by kernel_rfl⟩ (fun _ _ _ h => h) (Or.inl ⟨by rfl, ?hy⟩) HS.out ?_
        case hy => (intro w9 hSw; (try dsimp only at hSw); subst hSw; go_simp; try with_reducible rfl)
        try simp only [Act.put, List.setIfInBounds_toArray, List.set_cons_zero, List.set_cons_succ]
        refine lates_take (i := 7) (oi := { dst := some 31, op := Go.Op.fieldAddr 24 (Go.Operand.tmp 4) 1, type := 0, pos := "space.go:60", after := #[], guard := none }) (v := ?_) rfl (by kernel_rfl) (by kernel_rfl) (by kernel_rfl) ⟨rfl, by kernel_rfl⟩ (fun _ _ _ h => h) (Or.inl ⟨by rfl, ?hy⟩) HS.out ?_
        case hy => (intro w9 hSw; (try dsimp only at hSw); subst hSw; go_simp; try with_reducible rfl)
        try simp only [Act.put, List.setIfInBounds_toArray, List.set_cons_zero, List.set_cons_succ]
        refine lates_take (i := 8) (oi := { dst := some 32, op := Go.Op.load 22 (Go.Operand.tmp 31), type := 22, pos := "space.go:60", after := #[{ on := 7, ground := Go.Ground.data }], guard := none }) (v := ?_) rfl (by kernel_rfl) (by kernel_rfl) (by kernel_rfl) ⟨rfl, by kernel_rfl⟩ (fun _ _ _ h => h) (Or.inl ⟨by rfl, ?hy⟩) HS.out ?_
        case hy => (intro w9 hSw; (try dsimp only at hSw); subst hSw; go_simp; try with_reducible rfl)
        try simp only [Act.put, List.setIfInBounds_toArray, List.set_cons_zero, List.set_cons_succ]
        refine lates_take (i := 9) (oi := { dst := some 33, op := Go.Op.move (Go.Operand.tmp 7), type := 3, pos := "space.go:60", after := #[], guard := none }) (v := ?_) rfl (by kernel_rfl) (by kernel_rfl) (by kernel_rfl) ⟨rfl, by kernel_rfl⟩ (fun _ _ _ h => h) (Or.inl ⟨by rfl, ?hy⟩) HS.out ?_
        case hy => (intro w9 hSw; (try dsimp only at hSw); subst hSw; go_simp; try with_reducible rfl)
        try simp only [Act.put, List.setIfInBounds_toArray, List.set_cons_zero, List.set_cons_succ]
        refine lates_take (i := 10) (oi := { dst := some 34, op := Go.Op.indexAddr 22 (Go.Operand.tmp 32) (Go.Operand.tmp 33), type := 0, pos := "space.go:60", after := #[{ on := 8, ground := Go.Ground.data }, { on := 9, ground := Go.Ground.data }], guard := none }) (v := ?_) rfl (by kernel_rfl) (by kernel_rfl) (by kernel_rfl) ⟨rfl, by kernel_rfl⟩ (fun _ _ _ h => h) (Or.inl ⟨by rfl, ?hy⟩) HS.out ?_
        case hy => (intro w9 hSw; (try dsimp only at hSw); subst hSw; go_simp; try with_reducible rfl)
        try simp only [Act.put, List.setIfInBounds_toArray, List.set_cons_zero, List.set_cons_succ]
        refine lates_take (i := 11) (oi := { dst := some 35, op := Go.Op.load 3 (Go.Operand.tmp 34), type := 3, pos := "space.go:60", after := #[{ on := 10, ground := Go.Ground.data }], guard := none }) (v := ?_) rfl (by kernel_rfl) (by kernel_rfl) (by kernel_rfl) ⟨rfl, by kernel_rfl⟩ (fun _ _ _ h => h) (Or.inl ⟨by rfl, ?hy⟩) HS.out ?_
        case hy => (intro w9 hSw; (try dsimp only at hSw); subst hSw; go_simp; try with_reducible rfl)
        try simp only [Act.put, List.setIfInBounds_toArray, List.set_cons_zero, List.set_cons_succ]
        refine lates_take (i := 12) (oi := { dst := some 36, op := Go.Op.binOp Go.BinOp.or 3 (Go.Operand.tmp 30) (Go.Operand.tmp 35) 3, type := 3, pos := "space.go:60", after := #[{ on := 6, ground := Go.Ground.data }, { on := 11, ground := Go.Ground.data }], guard := none }) (v := .int .i64 ((hld g len k : Nat) : Int)) rfl (by kernel_rfl) (by kernel_rfl) (by kernel_rfl) ⟨rfl, by kernel_rfl⟩ (fun _ _ _ h => h) (Or.inl ⟨by rfl, ?hy⟩) HS.out ?_
        case hy => (intro w9 hSw; (try dsimp only at hSw); subst hSw; go_simp <;> (first | with_reducible rfl | (simp; omega) | omega))
        try simp only [Act.put, List.setIfInBounds_toArray, List.set_cons_zero, List.set_cons_succ]
        refine lates_take (i := 13) (oi := { dst := some 37, op := Go.Op.indexAddr 22 (Go.Operand.tmp 24) (Go.Operand.tmp 25), type := 0, pos := "space.go:60", after := #[{ on := 0, ground := Go.Ground.data }, { on := 1, ground := Go.Ground.data }, { on := 0, ground := Go.Ground.phase }, { on := 1, ground := Go.Ground.phase }, { on := 2, ground := Go.Ground.phase }, { on := 3, ground := Go.Ground.phase }, { on := 4, ground := Go.Ground.phase }, { on := 5, ground := Go.Ground.phase }, { on := 6, ground := Go.Ground.phase }, { on := 7, ground := Go.Ground.phase }, { on := 8, ground := Go.Ground.phase }, { on := 9, ground := Go.Ground.phase }, { on := 10, ground := Go.Ground.phase }, { on := 11, ground := Go.Ground.phase }, { on := 12, ground := Go.Ground.phase }], guard := none }) (v := ?_) rfl (by kernel_rfl) (by kernel_rfl) (by kernel_rfl) ⟨rfl, by kernel_rfl⟩ (fun _ _ _ h => h) (Or.inl ⟨by rfl, ?hy⟩) HS.out ?_
        case hy => (intro w9 hSw; (try dsimp only at hSw); subst hSw; go_simp; try with_reducible rfl)
        try simp only [Act.put, List.setIfInBounds_toArray, List.set_cons_zero, List.set_cons_succ]
        refine lates_ready (rs := [14]) (by kernel_rfl) (by simp) ?_
        refine AllLate.cons (o := { dst := none, op := Go.Op.store 3 (Go.Operand.tmp 37) (Go.Operand.tmp 36), type := 0, pos := "space.go:60", after := #[{ on := 13, ground := Go.Ground.data }, { on := 12, ground := Go.Ground.data }, { on := 0, ground := Go.Ground.phase }, { on := 1, ground := Go.Ground.phase }, { on := 2, ground := Go.Ground.phase }, { on := 3, ground := Go.Ground.phase }, { on := 4, ground := Go.Ground.phase }, { on := 5, ground := Go.Ground.phase }, { on := 6, ground := Go.Ground.phase }, { on := 7, ground := Go.Ground.phase }, { on := 8, ground := Go.Ground.phase }, { on := 9, ground := Go.Ground.phase }, { on := 10, ground := Go.Ground.phase }, { on := 11, ground := Go.Ground.phase }, { on := 12, ground := Go.Ground.phase }], guard := none }) rfl (fun K hK => ?_) ?_
        · go_simp
          skip
          refine hK.out _ _ (fun h => by cases h) ?_
          clear hK K
          try simp only [Act.put, List.setIfInBounds_toArray, List.set_cons_zero, List.set_cons_succ]
          refine lates_done (by kernel_rfl) ?_ _
          try simp only [Act.put, List.setIfInBounds_toArray, List.set_cons_zero, List.set_cons_succ]
          go_wp2_with fail
          go_roundw
          case rel => exact ⟨k + 1, by omega, by go_num, HOT.out, HBT.out⟩
          case measure => simp [intOf]; omega
        exact AllLate.nil
      · obtain rfl : k = len := by omega
        have kx := K2.out.step HBx.out
        have c0 := kx.c0
        have HRR : Hid (Row wr (some ⟨w1.heap.size + 1, 0, none⟩) k (fun j => (hld g k j : Nat))) := (HO.out.congr HEN.out).row
        have HTW : Hid (Tab wr) := HT2.out.step HBx.out
        have hpp := pw_pos k
        have HHB : Hid (∀ j, j < k → hld g k j < 1024) := fun j hj => by
          have h1 : hld g k j < pw k := by rw [HHL.out]; exact Nat.or_lt_two_pow (HS2.out j hj) (HTL.out j)
          omega
        have HBW : Hid (Below w.heap.size w wr) := Below.then HB2.out HBx.out
        have hal : ((pw k - 1 : Nat) : Int) = ((pw k : Nat) : Int) - 1 := by omega
        clear kx HO
        go_wp2_with (go_at_call 54; refine (all_any k _ h10).mono ?_; rintro e w' ⟨rfl, rfl⟩)
        rw [← hal]
        refine (pieces_any _ k k (hld g k) (pw k - 1) _ h10 HHB.out HRR.out (by omega) HTW.out).mono ?_
        rintro e w4 ⟨⟨v, L, rfl, hN, hP, hnew, hL⟩, hb4⟩
        have HB4 : Hid (Below w.heap.size w w4) := Below.then HBW.out hb4
        have HF := (show Hid (PiePost _ _ _ _ _ _) from HPO.out v w4 ⟨L, hN, hP, hL, fun j hj => Nat.le_trans HBW.out.size (hnew j hj)⟩)
        clear hN hP hnew hL hb4 HBW HPO
        go_wp2_with fail
        go_ret2
        exact ⟨HF.out, HB4.out⟩
end Go.Proofs.YtggngpnenbjidaaDoor
