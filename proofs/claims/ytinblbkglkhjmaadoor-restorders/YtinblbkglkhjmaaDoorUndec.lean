/-
  What realize's undecided answers: the pairs of points that know nothing of one another. Conditions: an order of at most seven points that lies in a slice of numbers.
-/
import Derived.Deep.RegionHeld3
import Derived.Test.YtinblbkglkhjmaaDoorPacked
namespace Go.Proofs.YtinblbkglkhjmaaDoor
open Go.RowKit

/-- Do two points know nothing of one another? -/
def stg (g : Nat → Nat) (b a : Nat) : Bool := !(a == b) && !(g a).testBit b && !(g b).testBit a
/-- The sets as far as they are laid. -/
def sgs (P : Nat → Nat → Bool) (n b a x : Nat) : Nat := if x < b then setBy (P x) n else if x = b then setBy (P b) a else 0
theorem sgs_zero (P : Nat → Nat → Bool) (n : Nat) : sgs P n 0 0 = fun _ => 0 := by
  funext x
  by_cases h : x = 0
  · subst h; simp [sgs, setBy]
  · simp [sgs, h]
theorem sgs_here (P : Nat → Nat → Bool) (n b a : Nat) : sgs P n b a b = setBy (P b) a := by simp [sgs]
theorem sgs_yes {P : Nat → Nat → Bool} {n b a : Nat} (h : P b a = true) : sgs P n b (a + 1) = upd (sgs P n b a) b (sgs P n b a b ||| pw a) := by
  funext x
  by_cases h1 : x = b
  · subst h1
    rw [upd_same, sgs_here, sgs_here, setBy_yes h, or_pw_add (setBy_lt _ _)]
  · rw [upd_other _ _ _ _ h1]; simp [sgs, h1]
theorem sgs_no {P : Nat → Nat → Bool} {n b a : Nat} (h : P b a = false) : sgs P n b (a + 1) = sgs P n b a := by
  funext x
  by_cases h1 : x = b
  · subst h1
    rw [sgs_here, sgs_here, setBy_no h]
  · simp [sgs, h1]
theorem sgs_next (P : Nat → Nat → Bool) (n b : Nat) : sgs P n (b + 1) 0 = sgs P n b n := by
  funext x
  simp only [sgs, setBy]
  by_cases h1 : x < b
  · simp [h1, show x < b + 1 by omega]
  · by_cases h2 : x = b
    · subst h2; simp
    · simp [h1, h2, show ¬ x < b + 1 by omega]

set_option maxHeartbeats 4000000 in
theorem undecided_any (n : Nat) (a : Option Addr) (cap : Nat) (g : Nat → Nat) (w : World) (h7 : n ≤ 7) (hg : ∀ k, k < n → g k < 128) (hr : Row w a n (fun k => (g k : Nat))) :
    Calls Tryd.prog 33 #[.agg #[.int .i64 (n : Nat), .slice a n cap]] w fun e w' => e = .returned (.int .u64 (pkd (fun b => setBy (stg g b) n) n : Nat)) ∧ Below w.heap.size w w' := by
  have HG : Hid (∀ k, k < n → g k < 128) := hg
  have HK0 : Hid (Held (w.alloc (.cells #[.int .i64 (n : Nat), .slice a n cap] 24)) w.heap.size n a n cap (fun k => (g k : Nat))) := Held.box hr
  have HB0 : Hid (Below w.heap.size w (w.alloc (.cells #[.int .i64 (n : Nat), .slice a n cap] 24))) := (Below.refl _ _).alloc (Nat.le_refl _) _
  have hs0 : (w.alloc (.cells #[.int .i64 (n : Nat), .slice a n cap] 24)).heap.size = w.heap.size + 1 := by simp
  clear hr hg
  obtain ⟨i0, hi, hz0, hz1, hz2⟩ := info_parts Tryd.info3
  go_enter Tryd.func33, Tryd.ntmps33
  obtain ⟨W0, HW0⟩ : ∃ W0, Hid (W0 = w.alloc (.cells #[.int .i64 (n : Nat), .slice a n cap] 24)) := ⟨_, rfl⟩
  rw [← HW0.out] at HK0 HB0 hs0
  have c0 := HK0.out.c0
  have hW := HW0.out.symm
  have HKS : Hid (∀ wx, Below (w.heap.size + 1) W0 wx → Held wx w.heap.size n a n cap (fun k => (g k : Nat))) := fun wx h => HK0.out.step (by rw [hs0]; exact h)
  go_wp2_with (at_make; refine wpList_make_full _ rfl _ _ 22 rfl (w.heap.size + 1) 3 i0 (.int .i64 0) 1 Tryd.underlying22 hi hz0 hz1 .i64 .i64 _ _ n rfl rfl rfl rfl (by rw [hz2]; omega) (by unfold maxLen; omega) (by omega) ?_; intro w1 hown1 hgrow1; have HX1 : Hid (Below (w.heap.size + 1) W0 w1) := (Below.refl _ _).grown hgrow1 (by omega) (by simp); have d0 := (HKS.out _ HX1.out).c0)
  have HO1 : Hid (Own w1 (w.heap.size + 1) n (sgs (stg g) n 0 0)) := by rw [sgs_zero]; exact own_made (by rw [← hs0]; exact hown1)
  clear hown1 hgrow1 hi hz0 hz1 hz2 c0 hW HW0
  go_loopw [11] (fun ii wx => ∃ b : Nat, b ≤ n ∧ ii = .int .i64 b ∧ Hid (Own wx (w.heap.size + 1) n (sgs (stg g) n b 0)) ∧ Hid (Below (w.heap.size + 1) W0 wx)) (fun ii _ => n - (intOf ii).toNat)
  case atStart => exact ⟨0, Nat.zero_le _, rfl, HO1.out, HX1.out⟩
  case round =>
    clear HO1 HX1 d0
    obtain ⟨b, hb, rfl, HO, HX⟩ := hrel
    have e0 := (HKS.out _ HX.out).c0
    by_cases hlt : b < n
    · have hlt' : (b : Int) < (n : Int) := by omega
      go_wp2_with fail
      go_loopw [16] (fun jj wx => ∃ k : Nat, k ≤ n ∧ jj = .int .i64 k ∧ Hid (Own wx (w.heap.size + 1) n (sgs (stg g) n b k)) ∧ Hid (Below (w.heap.size + 1) W0 wx)) (fun jj _ => n - (intOf jj).toNat)
      case atStart => exact ⟨0, Nat.zero_le _, rfl, HO.out, HX.out⟩
      case round =>
        clear HO HX e0
        obtain ⟨k, hk, rfl, HO, HX⟩ := hrel
        have e1 := (HKS.out _ HX.out).c1
        by_cases hlk : k < n
        · have hlk' : (k : Int) < (n : Int) := by omega
          obtain ⟨A, off, rfl, hcc⟩ := (HKS.out _ HX.out).row.at hlk
          have hck := hcc k hlk
          have hcb := hcc b hlt
          have gk := HG.out k hlk
          have gb := HG.out b hlt
          clear hcc
          have fb := (HO.out b hlt).2
          have vb := (HO.out b hlt).1
          have HY : Hid (stg g b k = true → sgs (stg g) n b (k + 1) = upd (sgs (stg g) n b k) b (sgs (stg g) n b k b ||| pw k)) := fun q => sgs_yes q
          have HN : Hid (stg g b k = false → sgs (stg g) n b (k + 1) = sgs (stg g) n b k) := fun q => sgs_no q
          have hst : stg g b k = (!(k == b) && !(g k).testBit b && !(g b).testBit k) := rfl
          have hSl : sgs (stg g) n b k b < pw 7 := by rw [sgs_here]; exact Nat.lt_of_lt_of_le (setBy_lt _ _) (Nat.pow_le_pow_right (by omega) (by omega))
          have hsh := wrap_pow k (by omega)
          have hsh2 : IntKind.i64.wrap (2 ^ k) = ((pw k : Nat) : Int) := by
            have := pw_small k (by omega)
            rw [show ((2 : Int) ^ k) = ((pw k : Nat) : Int) by simp [pw]]
            exact wrap_i64_small _ (by omega) (by omega)
          have hor : bits .or .i64 ((sgs (stg g) n b k b : Nat) : Int) ((pw k : Nat) : Int) = ((sgs (stg g) n b k b ||| pw k : Nat) : Int) := or_pw (m := 7) (by omega) hSl (by omega)
          have HO2 : Hid (Own (wr.setCell ⟨w.heap.size + 1, b, none⟩ (.int .i64 (sgs (stg g) n b k b ||| pw k : Nat))) (w.heap.size + 1) n (upd (sgs (stg g) n b k) b (sgs (stg g) n b k b ||| pw k))) := HO.out.set b _ hlt
          have HX2 : Hid (Below (w.heap.size + 1) W0 (wr.setCell ⟨w.heap.size + 1, b, none⟩ (.int .i64 (sgs (stg g) n b k b ||| pw k : Nat)))) := Below.setCell (p := ⟨w.heap.size + 1, b, none⟩) HX.out (Nat.le_refl _) _
          by_cases hkb : k = b
          · have hsf : stg g b k = false := by rw [hst]; simp [hkb]
            have HE := (show Hid _ from HN.out hsf)
            have hne : ((k : Int) != (b : Int)) = false := by simp [hkb]
            generalize sgs (stg g) n b k b = S at *
            go_wp2_with fail
            go_roundw
            case rel => exact ⟨k + 1, by omega, by go_num, by rw [HE.out]; exact HO.out, HX.out⟩
            case measure => simp [intOf]; omega
          · have hne : ((k : Int) != (b : Int)) = true := by simp; omega
            rcases (Bool.eq_false_or_eq_true ((g k).testBit b)).symm with h1 | h1
            · rcases (Bool.eq_false_or_eq_true ((g b).testBit k)).symm with h2 | h2
              · have hsf : stg g b k = true := by rw [hst]; simp [hkb, h1, h2]
                have HE := (show Hid _ from HY.out hsf)
                clear HY HN hst hsf
                generalize sgs (stg g) n b k b = S at *
                generalize g k = x at *
                generalize g b = y at *
                go_wp2_with (first
                  | (go_at_call 22; refine (hasP_as x b false _ h1 (by omega) (by omega)).mono ?_; rintro e w' ⟨rfl, hww⟩; subst hww)
                  | (go_at_call 22; refine (hasP_as y k false _ h2 (by omega) (by omega)).mono ?_; rintro e w' ⟨rfl, hww⟩; subst hww))
                refine wp_region_held_drew (S := (fun _ => True)) (by kernel_rfl) (trivial) (fun hHeld => ?_)
                refine wpAnyH_take (i := 0) (oi := { dst := some 42, op := Go.Op.move (Go.Operand.tmp 3), type := 22, pos := "lines.go:48", after := #[], guard := none }) (v := ?_) rfl (by kernel_rfl) (by kernel_rfl) (by kernel_rfl) (fun _ _ _ h => h) (Or.inl ⟨by rfl, ?hy⟩) (by assumption) ?_
                case hy => (intro w9 hSw; (try dsimp only at hSw); go_simp; try with_reducible rfl)
                try simp only [Act.put, List.setIfInBounds_toArray, List.set_cons_zero, List.set_cons_succ]
                refine wpAnyH_take (i := 1) (oi := { dst := some 43, op := Go.Op.move (Go.Operand.tmp 4), type := 3, pos := "lines.go:48", after := #[], guard := none }) (v := ?_) rfl (by kernel_rfl) (by kernel_rfl) (by kernel_rfl) (fun _ _ _ h => h) (Or.inl ⟨by rfl, ?hy⟩) (by assumption) ?_
                case hy => (intro w9 hSw; (try dsimp only at hSw); go_simp; try with_reducible rfl)
                try simp only [Act.put, List.setIfInBounds_toArray, List.set_cons_zero, List.set_cons_succ]
                refine wpAnyH_take (i := 2) (oi := { dst := some 44, op := Go.Op.indexAddr 22 (Go.Operand.tmp 42) (Go.Operand.tmp 43), type := 0, pos := "lines.go:48", after := #[{ on := 0, ground := Go.Ground.data }, { on := 1, ground := Go.Ground.data }], guard := none }) (v := ?_) rfl (by kernel_rfl) (by kernel_rfl) (by kernel_rfl) (fun _ _ _ h => h) (Or.inl ⟨by rfl, ?hy⟩) (by assumption) ?_
                case hy => (intro w9 hSw; (try dsimp only at hSw); go_simp; try with_reducible rfl)
                try simp only [Act.put, List.setIfInBounds_toArray, List.set_cons_zero, List.set_cons_succ]
                refine wpAnyH_take (i := 4) (oi := { dst := some 46, op := Go.Op.move (Go.Operand.tmp 5), type := 3, pos := "lines.go:48", after := #[], guard := none }) (v := ?_) rfl (by kernel_rfl) (by kernel_rfl) (by kernel_rfl) (fun _ _ _ h => h) (Or.inl ⟨by rfl, ?hy⟩) (by assumption) ?_
                case hy => (intro w9 hSw; (try dsimp only at hSw); go_simp; try with_reducible rfl)
                try simp only [Act.put, List.setIfInBounds_toArray, List.set_cons_zero, List.set_cons_succ]
                refine wpAnyH_take (i := 5) (oi := { dst := some 47, op := Go.Op.binOp Go.BinOp.shl 3 (Go.Operand.const (Go.Value.int Go.IntKind.i64 1)) (Go.Operand.tmp 46) 3, type := 3, pos := "lines.go:48", after := #[{ on := 4, ground := Go.Ground.data }], guard := none }) (v := .int .i64 (pw k : Nat)) rfl (by kernel_rfl) (by kernel_rfl) (by kernel_rfl) (fun _ _ _ h => h) (Or.inl ⟨by rfl, ?hy⟩) (by assumption) ?_
                case hy => (intro w9 hSw; (try dsimp only at hSw); go_simp <;> (first | with_reducible rfl | (simp; omega) | omega))
                try simp only [Act.put, List.setIfInBounds_toArray, List.set_cons_zero, List.set_cons_succ]
                refine wpAnyH_ready (rs := [3]) (by kernel_rfl) (by simp) ?_
                refine AllReadyH.cons (o := { dst := some 45, op := Go.Op.load 3 (Go.Operand.tmp 44), type := 3, pos := "lines.go:48", after := #[{ on := 2, ground := Go.Ground.data }], guard := none }) rfl (fun K hK => ?_) AllReadyH.nil
                go_simp
                skip
                refine hK.out _ _ ?_ (fun hHeld => ?_)
                · trivial
                clear hK K
                try simp only [Act.put, List.setIfInBounds_toArray, List.set_cons_zero, List.set_cons_succ]
                refine wpAnyH_take (i := 6) (oi := { dst := some 48, op := Go.Op.binOp Go.BinOp.or 3 (Go.Operand.tmp 45) (Go.Operand.tmp 47) 3, type := 3, pos := "lines.go:48", after := #[{ on := 3, ground := Go.Ground.data }, { on := 5, ground := Go.Ground.data }], guard := none }) (v := .int .i64 (S ||| pw k : Nat)) rfl (by kernel_rfl) (by kernel_rfl) (by kernel_rfl) (fun _ _ _ h => h) (Or.inl ⟨by rfl, ?hy⟩) (by assumption) ?_
                case hy => (intro w9 hSw; (try dsimp only at hSw); go_simp <;> (first | with_reducible rfl | (simp; omega) | omega))
                try simp only [Act.put, List.setIfInBounds_toArray, List.set_cons_zero, List.set_cons_succ]
                refine wpAnyH_take (i := 7) (oi := { dst := some 49, op := Go.Op.indexAddr 22 (Go.Operand.tmp 42) (Go.Operand.tmp 43), type := 0, pos := "lines.go:48", after := #[{ on := 0, ground := Go.Ground.data }, { on := 1, ground := Go.Ground.data }, { on := 0, ground := Go.Ground.phase }, { on := 1, ground := Go.Ground.phase }, { on := 2, ground := Go.Ground.phase }, { on := 3, ground := Go.Ground.phase }, { on := 4, ground := Go.Ground.phase }, { on := 5, ground := Go.Ground.phase }, { on := 6, ground := Go.Ground.phase }], guard := none }) (v := ?_) rfl (by kernel_rfl) (by kernel_rfl) (by kernel_rfl) (fun _ _ _ h => h) (Or.inl ⟨by rfl, ?hy⟩) (by assumption) ?_
                case hy => (intro w9 hSw; (try dsimp only at hSw); go_simp; try with_reducible rfl)
                try simp only [Act.put, List.setIfInBounds_toArray, List.set_cons_zero, List.set_cons_succ]
                refine wpAnyH_ready (rs := [8]) (by kernel_rfl) (by simp) ?_
                refine AllReadyH.cons (o := { dst := none, op := Go.Op.store 3 (Go.Operand.tmp 49) (Go.Operand.tmp 48), type := 0, pos := "lines.go:48", after := #[{ on := 7, ground := Go.Ground.data }, { on := 6, ground := Go.Ground.data }, { on := 0, ground := Go.Ground.phase }, { on := 1, ground := Go.Ground.phase }, { on := 2, ground := Go.Ground.phase }, { on := 3, ground := Go.Ground.phase }, { on := 4, ground := Go.Ground.phase }, { on := 5, ground := Go.Ground.phase }, { on := 6, ground := Go.Ground.phase }], guard := none }) rfl (fun K hK => ?_) AllReadyH.nil
                go_simp
                skip
                refine hK.out _ _ ?_ (fun hHeld => ?_)
                · trivial
                clear hK K
                try simp only [Act.put, List.setIfInBounds_toArray, List.set_cons_zero, List.set_cons_succ]
                refine wpAnyH_done (by kernel_rfl) ?_ _
                try simp only [Act.put, List.setIfInBounds_toArray, List.set_cons_zero, List.set_cons_succ]
                go_wp2_with fail
                go_roundw
                case rel => exact ⟨k + 1, by omega, by go_num, by rw [HE.out]; exact HO2.out, HX2.out.drew⟩
                case measure => simp [intOf]; omega
              · have hsf : stg g b k = false := by rw [hst]; simp [h2]
                have HE := (show Hid _ from HN.out hsf)
                clear HY HN hst hsf
                generalize sgs (stg g) n b k b = S at *
                generalize g k = x at *
                generalize g b = y at *
                go_wp2_with (first
                  | (go_at_call 22; refine (hasP_as x b false _ h1 (by omega) (by omega)).mono ?_; rintro e w' ⟨rfl, hww⟩; subst hww)
                  | (go_at_call 22; refine (hasP_as y k true _ h2 (by omega) (by omega)).mono ?_; rintro e w' ⟨rfl, hww⟩; subst hww))
                go_roundw
                case rel => exact ⟨k + 1, by omega, by go_num, by rw [HE.out]; exact HO.out, HX.out⟩
                case measure => simp [intOf]; omega
            · have hsf : stg g b k = false := by rw [hst]; simp [h1]
              have HE := (show Hid _ from HN.out hsf)
              clear HY HN hst hsf
              generalize sgs (stg g) n b k b = S at *
              generalize g k = x at *
              go_wp2_with (go_at_call 22; refine (hasP_as x b true _ h1 (by omega) (by omega)).mono ?_; rintro e w' ⟨rfl, hww⟩; subst hww)
              go_roundw
              case rel => exact ⟨k + 1, by omega, by go_num, by rw [HE.out]; exact HO.out, HX.out⟩
              case measure => simp [intOf]; omega
        · obtain rfl : k = n := by omega
          go_wp2_with fail
          go_roundw
          case rel => exact ⟨b + 1, by omega, by go_num, by rw [sgs_next]; exact HO.out, HX.out⟩
          case measure => simp [intOf]; omega
    · obtain rfl : b = n := by omega
      have HRW : Hid (Row wr (some ⟨w.heap.size + 1, 0, none⟩) b (fun k => (setBy (stg g k) b : Nat))) := (HO.out.congr (h := fun k => setBy (stg g k) b) (fun k hk => by simp [sgs, hk])).row
      have HL : Hid (∀ k, setBy (stg g k) b < 128) := fun k => Nat.lt_of_lt_of_le (setBy_lt _ _) (show 2 ^ b ≤ 2 ^ 7 from Nat.pow_le_pow_right (by omega) (by omega))
      have HBE : Hid (Below w.heap.size w wr) := HB0.out.trans (HX.out.mono (by omega))
      go_wp2_with (go_at_call 49; refine (packed_any _ b _ (fun k => setBy (stg g k) b) _ h7 HL.out HRW.out).mono ?_; rintro e w' ⟨rfl, rfl⟩)
      go_ret
      exact ⟨rfl, HBE.out⟩
end Go.Proofs.YtinblbkglkhjmaaDoor
