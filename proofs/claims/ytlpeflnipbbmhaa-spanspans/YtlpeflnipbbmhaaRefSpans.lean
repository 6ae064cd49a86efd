/-
  What the reference's Place and SpansOf answer: the stretches that the sets Below count out. Conditions: at most ten points.
-/
import Derived.Deep.RegionHeld3
import Derived.Test.YtlpeflnipbbmhaaSpans
import Derived.Test.YtlpeflnipbbmhaaFishM
namespace Go.Proofs.Ytlpeflnipbbmhaa
open Go.RowKit

theorem place_any (a : Option Addr) (len cap : Nat) (g : Nat → Nat) (s : Nat) (w : World) (h10 : len ≤ 10) (hr : Row w a len (fun k => (g k : Nat))) :
    Calls Try.prog 39 #[.slice a len cap, .int .i64 s] w fun e w' => (∃ r : Int, e = .returned (.int .i64 r) ∧ (decide (r < 0) = !inB g len s)) ∧ w = w' := by
  have HR : Hid (Row w a len (fun k => (g k : Nat))) := hr
  clear hr
  go_enter Try.func39, Try.ntmps39
  go_wp2_with fail
  go_loopw [5] (fun i wx => ∃ k : Nat, k ≤ len ∧ i = .int .i64 k ∧ wx = w ∧ Hid (∀ j, j < k → g j ≠ s)) (fun i _ => len - (intOf i).toNat)
  case atStart => exact ⟨0, Nat.zero_le _, rfl, rfl, fun j hj => absurd hj (Nat.not_lt_zero _)⟩
  case round =>
    obtain ⟨k, hk, rfl, rfl, HN⟩ := hrel
    by_cases hlt : k < len
    · obtain ⟨b, off, rfl, hc'⟩ := HR.out k hlt
      have hc : wr.cell? ⟨b, off + k, none⟩ = some (.int .i64 (g k : Nat)) := hc'
      clear hc'
      by_cases he : g k = s
      · have he' : ((g k : Int) == (s : Int)) = true := by rw [he]; simp
        have HE : Hid (decide ((k : Int) < 0) = !inB g len s) := by
          have h1 : inB g len s = true := inB_iff.2 ⟨k, hlt, he⟩
          show _ = _
          rw [h1, decide_eq_false (by omega)]; rfl
        clear HN he
        go_wp2_with fail
        go_ret
        exact ⟨⟨_, rfl, HE.out⟩, rfl⟩
      · have he' : ((g k : Int) == (s : Int)) = false := by simp; omega
        have HN2 : Hid (∀ j, j < k + 1 → g j ≠ s) := fun j hj => by
          by_cases e : j = k
          · subst e; exact he
          · exact HN.out j (by omega)
        clear HN he
        go_wp2_with fail
        go_roundw
        case rel => exact ⟨k + 1, by omega, by go_num, by first | rfl | trivial, HN2.out⟩
        case measure => simp [intOf]; omega
    · obtain rfl : k = len := by omega
      have HE : Hid (decide ((-1 : Int) < 0) = !inB g k s) := by
        have h1 : inB g k s = false := by
          rcases Bool.eq_false_or_eq_true (inB g k s) with e | e
          · obtain ⟨j, hj, he⟩ := inB_iff.1 e
            exact absurd he (HN.out j hj)
          · exact e
        show _ = _
        rw [h1]; rfl
      clear HN
      go_wp2_with fail
      go_ret
      exact ⟨⟨_, rfl, HE.out⟩, rfl⟩
theorem in_as (s p : Nat) (w : World) (b : Bool) (h : s.testBit p = b) (hs : s < 9223372036854775808) (hp : p < 63) :
    Calls Try.prog 41 #[.int .i64 s, .int .i64 p] w fun e w' => e = .returned (.bool b) ∧ w = w' := by
  rw [← h]; exact in_any s p w hs hp

/-- A box of two numbers. -/
def XB (W : World) (B : Nat) (f l : Int) : Prop := W.cell? ⟨B, 0, none⟩ = some (.int .i64 f) ∧ W.cell? ⟨B, 1, none⟩ = some (.int .i64 l) ∧ W.frozen? ⟨B, 0, none⟩ = false ∧ W.frozen? ⟨B, 1, none⟩ = false
theorem XB.set0 {W : World} {B : Nat} {f l : Int} (h : XB W B f l) (f' : Int) : XB (W.setCell ⟨B, 0, none⟩ (.int .i64 f')) B f' l :=
  ⟨World.cell?_setCell_same _ _ _ h.1, (World.cell?_setCell_other _ _ _ _ (fun e => by injection e with _ e2; cases e2)).trans h.2.1, by rw [World.frozen?_setCell]; exact h.2.2.1, by rw [World.frozen?_setCell]; exact h.2.2.2⟩
theorem XB.set1 {W : World} {B : Nat} {f l : Int} (h : XB W B f l) (l' : Int) : XB (W.setCell ⟨B, 1, none⟩ (.int .i64 l')) B f l' :=
  ⟨(World.cell?_setCell_other _ _ _ _ (fun e => by injection e with _ e2; cases e2)).trans h.1, World.cell?_setCell_same _ _ _ h.2.1, by rw [World.frozen?_setCell]; exact h.2.2.1, by rw [World.frozen?_setCell]; exact h.2.2.2⟩

set_option maxRecDepth 100000 in
set_option maxHeartbeats 4000000 in
theorem spansOf_any (a : Option Addr) (len cap : Nat) (g : Nat → Nat) (w : World) (h10 : len ≤ 10) (hg : Sm len len g) (hr : Row w a len (fun k => (g k : Nat))) :
    Calls Try.prog 17 #[.agg #[.int .i64 len, .slice a len cap]] w fun e w' => (∃ v a' cap', e = .returned v ∧ v = .slice a' len cap' ∧ PRow w' a' len (spn g len)) ∧ Below w.heap.size w w' := by
  have HK : Hid (Held (w.alloc (.cells #[.int .i64 (len : Int), .slice a len cap] 25)) w.heap.size len a len cap (fun k => (g k : Nat))) := Held.box hr
  have HB0 : Hid (Below w.heap.size w (w.alloc (.cells #[.int .i64 (len : Int), .slice a len cap] 25))) := (Below.refl _ _).alloc (Nat.le_refl _) _
  have hpl := pw_le len h10
  have hs0 : (w.alloc (.cells #[.int .i64 (len : Int), .slice a len cap] 25)).heap.size = w.heap.size + 1 := by simp
  have HG : Hid (∀ k, k < len → g k < 1024) := fun k hk => Nat.lt_of_lt_of_le (hg k hk) hpl
  clear hr
  obtain ⟨i0, hi, hz0, hz1, hz2⟩ := info_parts Try.info49
  go_enter Try.func17, Try.ntmps17
  go_wp2_with fail
  generalize w.alloc (.cells #[.int .i64 (len : Int), .slice a len cap] 25) = W0 at *
  go_loopw [3, 4] (fun v ii wx => ∃ i : Nat, i ≤ len ∧ ii = .int .i64 i ∧ Hid (wx.ownsRow W0.heap.size 49 2 v i (ipv (spn g len) i)) ∧ Hid (Below W0.heap.size W0 wx)) (fun _ i _ => len - (intOf i).toNat)
  case atStart => exact ⟨0, Nat.zero_le _, rfl, World.ownsRow_nil _ _ _ _, Below.refl _ _⟩
  case round =>
    obtain ⟨i, hi1, rfl, HOx, HBx⟩ := hrel
    obtain ⟨k0, k1, krow⟩ := HK.out.step HBx.out
    by_cases hlt : i < len
    · obtain ⟨b0, o0, rfl, hcG0'⟩ := krow i hlt
      have hcG0 : wr.cell? ⟨b0, o0 + i, none⟩ = some (.int .i64 (g i : Nat)) := hcG0'
      clear hcG0'
      have HRow : Hid (Row wr (some ⟨b0, o0, none⟩) len (fun k => (g k : Nat))) := krow
      have hG := HG.out i hlt
      obtain ⟨G, HGe⟩ : ∃ G, Hid (g i = G) := ⟨_, rfl⟩
      rw [HGe.out] at hcG0 hG
      have b1 := World.block_lt_of_cell? _ _ k0
      have b2 := World.block_lt_of_cell? _ _ hcG0
      have HBn : Hid (Below wr.heap.size wr (wr.alloc (.cells #[.int .i64 0, .int .i64 0] 49))) := (Below.refl _ _).alloc (Nat.le_refl _) _
      have x00 : (wr.alloc (.cells #[.int .i64 0, .int .i64 0] 49)).cell? ⟨wr.heap.size, 0, none⟩ = some (.int .i64 0) := by simp
      have x10 : (wr.alloc (.cells #[.int .i64 0, .int .i64 0] 49)).cell? ⟨wr.heap.size, 1, none⟩ = some (.int .i64 0) := by simp
      have z00 : (wr.alloc (.cells #[.int .i64 0, .int .i64 0] 49)).frozen? ⟨wr.heap.size, 0, none⟩ = false := World.frozen?_alloc_at _ _ _ _ rfl
      have z10 : (wr.alloc (.cells #[.int .i64 0, .int .i64 0] 49)).frozen? ⟨wr.heap.size, 1, none⟩ = false := World.frozen?_alloc_at _ _ _ _ rfl
      clear krow
      go_wp2_with fail
      generalize hXb : wr.heap.size = Xb at *
      obtain ⟨wo, hwo⟩ : ∃ wo, wo = wr := ⟨_, rfl⟩
      rw [← hwo] at HRow
      have HBn2 : Hid (Below Xb wo (wr.alloc (.cells #[.int .i64 0, .int .i64 0] 49))) := by rw [hwo]; exact HBn.out
      clear HBn
      have HOo : Hid (wo.ownsRow W0.heap.size 49 2 u3 i (ipv (spn g len) i)) := by rw [hwo]; exact HOx.out
      have HBo : Hid (Below W0.heap.size W0 wo) := by rw [hwo]; exact HBx.out
      have k0o : wo.cell? ⟨w.heap.size, 0, none⟩ = some (.int .i64 (len : Int)) := by rw [hwo]; exact k0
      have k1o : wo.cell? ⟨w.heap.size, 1, none⟩ = some (.slice (some ⟨b0, o0, none⟩) len cap) := by rw [hwo]; exact k1
      have kGo : wo.cell? ⟨b0, o0 + i, none⟩ = some (.int .i64 (G : Nat)) := by rw [hwo]; exact hcG0
      have hXo : wo.heap.size = Xb := by rw [hwo]; exact hXb
      clear HOx HBx k0 k1 hcG0
      generalize wr.alloc (.cells #[.int .i64 0, .int .i64 0] 49) = W2 at *
      go_loopw [6] (fun ii wx => ∃ s F L : Nat, s ≤ pw len ∧ F ≤ s ∧ L ≤ s ∧ ii = .int .i64 s ∧ Hid (F = cn (fun s => inB g len s && decide (pc s < pc G)) s) ∧ Hid (L = cn (fun s => inB g len s && !s.testBit i) s) ∧ wx.cell? ⟨Xb, 0, none⟩ = some (.int .i64 F) ∧ wx.cell? ⟨Xb, 1, none⟩ = some (.int .i64 L) ∧ wx.frozen? ⟨Xb, 0, none⟩ = false ∧ wx.frozen? ⟨Xb, 1, none⟩ = false ∧ Hid (Below Xb wo wx)) (fun ii _ => pw len - (intOf ii).toNat)
      case atStart => exact ⟨0, 0, 0, Nat.zero_le _, Nat.le_refl _, Nat.le_refl _, rfl, rfl, rfl, x00, x10, z00, z10, HBn2.out⟩
      case round =>
        clear x00 x10 z00 z10 HBn2
        obtain ⟨s, F, L, hs, hF, hL, rfl, HF, HL, x0, x1, z0, z1, HB⟩ := hrel
        have hc0 := (HB.out.cell (p := ⟨w.heap.size, 0, none⟩) b1).trans k0o
        have hc1 := (HB.out.cell (p := ⟨w.heap.size, 1, none⟩) b1).trans k1o
        have hcG := (HB.out.cell (p := ⟨b0, o0 + i, none⟩) b2).trans kGo
        have HRx : Hid (Row wr (some ⟨b0, o0, none⟩) len (fun k => (g k : Nat))) := HRow.out.below (by rw [hXo]; exact HB.out)
        by_cases hsl : s < pw len
        · have hsl' : (s : Int) < ((pw len : Nat) : Int) := by omega
          have hs1 : s < 1024 := by omega
          rcases (Bool.eq_false_or_eq_true (inB g len s)).symm with hin | hin
          · have HF2 : Hid (F = cn (fun s => inB g len s && decide (pc s < pc G)) (s + 1)) := by
              show _ = _
              rw [cn_no (by rw [hin, Bool.false_and])]; exact HF.out
            have HL2 : Hid (L = cn (fun s => inB g len s && !s.testBit i) (s + 1)) := by
              show _ = _
              rw [cn_no (by rw [hin, Bool.false_and])]; exact HL.out
            clear HF HL
            go_wp2_with (first
              | (go_at_call 35; refine (bit_any len _ (by omega)).mono ?_; rintro e w' ⟨rfl, hww⟩; subst hww)
              | (go_at_call 39; refine (place_any _ len cap g s _ h10 HRx.out).mono ?_; rintro e w' ⟨⟨r, rfl, hrr⟩, hww⟩; subst hww; rw [hin] at hrr; simp only [Bool.not_false, decide_eq_true_eq] at hrr))
            go_roundw
            case rel => exact ⟨s + 1, F, L, by omega, by omega, by omega, by go_num, HF2.out, HL2.out, x0, x1, z0, z1, HB.out⟩
            case measure => simp [intOf]; omega
          · go_wp2_with (first
              | (go_at_call 35; refine (bit_any len _ (by omega)).mono ?_; rintro e w' ⟨rfl, hww⟩; subst hww)
              | (go_at_call 39; refine (place_any _ len cap g s _ h10 HRx.out).mono ?_; rintro e w' ⟨⟨r, rfl, hrr⟩, hww⟩; subst hww; rw [hin] at hrr; simp only [Bool.not_true, decide_eq_false_iff_not] at hrr))
            have HBd : Hid (Below Xb wo wr.drew) := HB.out.drew
            have hil : (i : Int) < (len : Int) := by omega
            clear HB HRx hrr
            rcases Nat.lt_or_ge (pc s) (pc G) with hp | hp
            · have HF2 : Hid (F + 1 = cn (fun s => inB g len s && decide (pc s < pc G)) (s + 1)) := by
                show _ = _
                rw [cn_yes (by rw [hin, Bool.true_and]; exact decide_eq_true hp), ← HF.out]
              have hp' : (pc s : Int) < (pc G : Int) := by omega
              clear HF hp
              refine wp_region_held_drew (S := (fun w' => w'.cell? ⟨w.heap.size, 1, none⟩ = some (.slice (some ⟨b0, o0, none⟩) len cap) ∧ w'.cell? ⟨b0, o0 + i, none⟩ = some (.int .i64 (G : Nat)) ∧ w'.cell? ⟨Xb, 0, none⟩ = some (.int .i64 (F : Nat)) ∧ w'.cell? ⟨Xb, 1, none⟩ = some (.int .i64 (L : Nat)) ∧ (w'.frozen? ⟨Xb, 0, none⟩ = false ∧ w'.frozen? ⟨Xb, 1, none⟩ = false) ∧ Hid (Below Xb wo w'))) (by kernel_rfl) (⟨hc1, hcG, x0, x1, ⟨z0, z1⟩, HBd⟩) (fun hHeld => ?_)
              refine wpAnyH_take (i := 0) (oi := { dst := some 25, op := Go.Op.move (Go.Operand.tmp 6), type := 3, pos := "lattice.go:181", after := #[], guard := none }) (v := ?_) rfl (by kernel_rfl) (by kernel_rfl) (by kernel_rfl) (fun _ _ _ h => h) (Or.inl ⟨by rfl, ?hy⟩) (by assumption) ?_
              case hy => (intro w9 hSw; (try dsimp only at hSw); go_simp; try with_reducible rfl)
              try simp only [Act.put, List.setIfInBounds_toArray, List.set_cons_zero, List.set_cons_succ]
              refine wpAnyH_take (i := 2) (oi := { dst := some 27, op := Go.Op.fieldAddr 25 (Go.Operand.tmp 1) 1, type := 0, pos := "lattice.go:181", after := #[], guard := none }) (v := ?_) rfl (by kernel_rfl) (by kernel_rfl) (by kernel_rfl) (fun _ _ _ h => h) (Or.inl ⟨by rfl, ?hy⟩) (by assumption) ?_
              case hy => (intro w9 hSw; (try dsimp only at hSw); go_simp; try with_reducible rfl)
              try simp only [Act.put, List.setIfInBounds_toArray, List.set_cons_zero, List.set_cons_succ]
              refine wpAnyH_take (i := 3) (oi := { dst := some 28, op := Go.Op.load 23 (Go.Operand.tmp 27), type := 23, pos := "lattice.go:181", after := #[{ on := 2, ground := Go.Ground.data }], guard := none }) (v := ?_) rfl (by kernel_rfl) (by kernel_rfl) (by kernel_rfl) (fun _ _ _ h => h) (Or.inl ⟨by rfl, ?hy⟩) (by assumption) ?_
              case hy => (intro w9 hSw; (try dsimp only at hSw); go_simp; try with_reducible rfl)
              try simp only [Act.put, List.setIfInBounds_toArray, List.set_cons_zero, List.set_cons_succ]
              refine wpAnyH_take (i := 4) (oi := { dst := some 29, op := Go.Op.move (Go.Operand.tmp 4), type := 3, pos := "lattice.go:181", after := #[], guard := none }) (v := ?_) rfl (by kernel_rfl) (by kernel_rfl) (by kernel_rfl) (fun _ _ _ h => h) (Or.inl ⟨by rfl, ?hy⟩) (by assumption) ?_
              case hy => (intro w9 hSw; (try dsimp only at hSw); go_simp; try with_reducible rfl)
              try simp only [Act.put, List.setIfInBounds_toArray, List.set_cons_zero, List.set_cons_succ]
              refine wpAnyH_take (i := 5) (oi := { dst := some 30, op := Go.Op.indexAddr 23 (Go.Operand.tmp 28) (Go.Operand.tmp 29), type := 0, pos := "lattice.go:181", after := #[{ on := 3, ground := Go.Ground.data }, { on := 4, ground := Go.Ground.data }], guard := none }) (v := ?_) rfl (by kernel_rfl) (by kernel_rfl) (by kernel_rfl) (fun _ _ _ h => h) (Or.inl ⟨by rfl, ?hy⟩) (by assumption) ?_
              case hy => (intro w9 hSw; (try dsimp only at hSw); go_simp; try with_reducible rfl)
              try simp only [Act.put, List.setIfInBounds_toArray, List.set_cons_zero, List.set_cons_succ]
              refine wpAnyH_take (i := 6) (oi := { dst := some 31, op := Go.Op.load 3 (Go.Operand.tmp 30), type := 3, pos := "lattice.go:181", after := #[{ on := 5, ground := Go.Ground.data }], guard := none }) (v := ?_) rfl (by kernel_rfl) (by kernel_rfl) (by kernel_rfl) (fun _ _ _ h => h) (Or.inl ⟨by rfl, ?hy⟩) (by assumption) ?_
              case hy => (intro w9 hSw; (try dsimp only at hSw); go_simp; try with_reducible rfl)
              try simp only [Act.put, List.setIfInBounds_toArray, List.set_cons_zero, List.set_cons_succ]
              refine wpAnyH_ready (rs := [1]) (by kernel_rfl) (by simp) ?_
              refine AllReadyH.cons (o := { dst := some 26, op := Go.Op.call { callee := Go.Callee.value (Go.Operand.func 40), args := #[Go.Operand.tmp 25], argTypes := #[3] }, type := 3, pos := "lattice.go:181", after := #[{ on := 0, ground := Go.Ground.data }], guard := none }) rfl (fun K hK => ?_) AllReadyH.nil
              go_simp
              refine (refSize_any s _ hs1).mono ?_
              rintro e w1 ⟨rfl, rfl⟩
              refine hK.out _ _ ?_ (fun hHeld => ?_)
              · assumption
              clear hK K
              try simp only [Act.put, List.setIfInBounds_toArray, List.set_cons_zero, List.set_cons_succ]
              refine wpAnyH_ready (rs := [7]) (by kernel_rfl) (by simp) ?_
              refine AllReadyH.cons (o := { dst := some 32, op := Go.Op.call { callee := Go.Callee.value (Go.Operand.func 40), args := #[Go.Operand.tmp 31], argTypes := #[3] }, type := 3, pos := "lattice.go:181", after := #[{ on := 6, ground := Go.Ground.data }, { on := 1, ground := Go.Ground.chain }], guard := none }) rfl (fun K hK => ?_) AllReadyH.nil
              go_simp
              refine (refSize_any G _ hG).mono ?_
              rintro e w1 ⟨rfl, rfl⟩
              refine hK.out _ _ ?_ (fun hHeld => ?_)
              · assumption
              clear hK K
              try simp only [Act.put, List.setIfInBounds_toArray, List.set_cons_zero, List.set_cons_succ]
              refine wpAnyH_take (i := 8) (oi := { dst := some 33, op := Go.Op.binOp Go.BinOp.lss 3 (Go.Operand.tmp 26) (Go.Operand.tmp 32) 3, type := 4, pos := "lattice.go:181", after := #[{ on := 1, ground := Go.Ground.data }, { on := 7, ground := Go.Ground.data }], guard := none }) (v := .bool true) rfl (by kernel_rfl) (by kernel_rfl) (by kernel_rfl) (fun _ _ _ h => h) (Or.inl ⟨by rfl, ?hy⟩) (by assumption) ?_
              case hy => (intro w9 hSw; (try dsimp only at hSw); go_simp <;> (first | with_reducible rfl | (simp; omega) | omega))
              try simp only [Act.put, List.setIfInBounds_toArray, List.set_cons_zero, List.set_cons_succ]
              refine wpAnyH_done (by kernel_rfl) ?_ _
              try simp only [Act.put, List.setIfInBounds_toArray, List.set_cons_zero, List.set_cons_succ]
              obtain ⟨e1, e2, e3, e4, ⟨e5, e6⟩, HBe⟩ := hHeld
              have HX : Hid (XB wr.drew Xb F L) := ⟨e3, e4, e5, e6⟩
              clear hc1 hcG HBd e1 e2 e3 e4 e5 e6
              rcases (Bool.eq_false_or_eq_true (s.testBit i)).symm with hb | hb
              · have HL2 : Hid (L + 1 = cn (fun s => inB g len s && !s.testBit i) (s + 1)) := by
                  show _ = _
                  rw [cn_yes (by rw [hin, hb]; rfl), ← HL.out]
                clear HL
                have HXf : Hid (XB ((((wr.drew).setCell ⟨Xb, 0, none⟩ (.int .i64 ((F : Int) + 1)))).setCell ⟨Xb, 1, none⟩ (.int .i64 ((L : Int) + 1))) Xb ((F : Int) + 1) ((L : Int) + 1)) := (XB.set1 (XB.set0 HX.out _) _)
                have HBf : Hid (Below Xb wo ((((wr.drew).setCell ⟨Xb, 0, none⟩ (.int .i64 ((F : Int) + 1)))).setCell ⟨Xb, 1, none⟩ (.int .i64 ((L : Int) + 1)))) := (Below.setCell (p := ⟨Xb, 1, none⟩) (Below.setCell (p := ⟨Xb, 0, none⟩) HBe.out (Nat.le_refl _) _) (Nat.le_refl _) _)
                clear HX HBe
                go_wp2_with (go_at_call 41; refine (in_as s i _ false hb (by omega) (by omega)).mono ?_; rintro e w' ⟨rfl, hww⟩; subst hww)
                go_roundw
                case rel => exact ⟨s + 1, F + 1, L + 1, by omega, by omega, by omega, by go_num, HF2.out, HL2.out, HXf.out.1, HXf.out.2.1, HXf.out.2.2.1, HXf.out.2.2.2, HBf.out⟩
                case measure => simp [intOf]; omega
              · have HL2 : Hid (L = cn (fun s => inB g len s && !s.testBit i) (s + 1)) := by
                  show _ = _
                  rw [cn_no (by rw [hin, hb]; rfl), ← HL.out]
                clear HL
                have HXf : Hid (XB ((wr.drew).setCell ⟨Xb, 0, none⟩ (.int .i64 ((F : Int) + 1))) Xb ((F : Int) + 1) (L : Int)) := (XB.set0 HX.out _)
                have HBf : Hid (Below Xb wo ((wr.drew).setCell ⟨Xb, 0, none⟩ (.int .i64 ((F : Int) + 1)))) := (Below.setCell (p := ⟨Xb, 0, none⟩) HBe.out (Nat.le_refl _) _)
                clear HX HBe
                go_wp2_with (go_at_call 41; refine (in_as s i _ true hb (by omega) (by omega)).mono ?_; rintro e w' ⟨rfl, hww⟩; subst hww)
                go_roundw
                case rel => exact ⟨s + 1, F + 1, L, by omega, by omega, by omega, by go_num, HF2.out, HL2.out, HXf.out.1, HXf.out.2.1, HXf.out.2.2.1, HXf.out.2.2.2, HBf.out⟩
                case measure => simp [intOf]; omega
            · have HF2 : Hid (F = cn (fun s => inB g len s && decide (pc s < pc G)) (s + 1)) := by
                show _ = _
                rw [cn_no (by rw [hin, Bool.true_and]; exact decide_eq_false (by omega)), ← HF.out]
              have hp' : ¬ (pc s : Int) < (pc G : Int) := by omega
              clear HF hp
              refine wp_region_held_drew (S := (fun w' => w'.cell? ⟨w.heap.size, 1, none⟩ = some (.slice (some ⟨b0, o0, none⟩) len cap) ∧ w'.cell? ⟨b0, o0 + i, none⟩ = some (.int .i64 (G : Nat)) ∧ w'.cell? ⟨Xb, 0, none⟩ = some (.int .i64 (F : Nat)) ∧ w'.cell? ⟨Xb, 1, none⟩ = some (.int .i64 (L : Nat)) ∧ (w'.frozen? ⟨Xb, 0, none⟩ = false ∧ w'.frozen? ⟨Xb, 1, none⟩ = false) ∧ Hid (Below Xb wo w'))) (by kernel_rfl) (⟨hc1, hcG, x0, x1, ⟨z0, z1⟩, HBd⟩) (fun hHeld => ?_)
              refine wpAnyH_take (i := 0) (oi := { dst := some 25, op := Go.Op.move (Go.Operand.tmp 6), type := 3, pos := "lattice.go:181", after := #[], guard := none }) (v := ?_) rfl (by kernel_rfl) (by kernel_rfl) (by kernel_rfl) (fun _ _ _ h => h) (Or.inl ⟨by rfl, ?hy⟩) (by assumption) ?_
              case hy => (intro w9 hSw; (try dsimp only at hSw); go_simp; try with_reducible rfl)
              try simp only [Act.put, List.setIfInBounds_toArray, List.set_cons_zero, List.set_cons_succ]
              refine wpAnyH_take (i := 2) (oi := { dst := some 27, op := Go.Op.fieldAddr 25 (Go.Operand.tmp 1) 1, type := 0, pos := "lattice.go:181", after := #[], guard := none }) (v := ?_) rfl (by kernel_rfl) (by kernel_rfl) (by kernel_rfl) (fun _ _ _ h => h) (Or.inl ⟨by rfl, ?hy⟩) (by assumption) ?_
              case hy => (intro w9 hSw; (try dsimp only at hSw); go_simp; try with_reducible rfl)
              try simp only [Act.put, List.setIfInBounds_toArray, List.set_cons_zero, List.set_cons_succ]
              refine wpAnyH_take (i := 3) (oi := { dst := some 28, op := Go.Op.load 23 (Go.Operand.tmp 27), type := 23, pos := "lattice.go:181", after := #[{ on := 2, ground := Go.Ground.data }], guard := none }) (v := ?_) rfl (by kernel_rfl) (by kernel_rfl) (by kernel_rfl) (fun _ _ _ h => h) (Or.inl ⟨by rfl, ?hy⟩) (by assumption) ?_
              case hy => (intro w9 hSw; (try dsimp only at hSw); go_simp; try with_reducible rfl)
              try simp only [Act.put, List.setIfInBounds_toArray, List.set_cons_zero, List.set_cons_succ]
              refine wpAnyH_take (i := 4) (oi := { dst := some 29, op := Go.Op.move (Go.Operand.tmp 4), type := 3, pos := "lattice.go:181", after := #[], guard := none }) (v := ?_) rfl (by kernel_rfl) (by kernel_rfl) (by kernel_rfl) (fun _ _ _ h => h) (Or.inl ⟨by rfl, ?hy⟩) (by assumption) ?_
              case hy => (intro w9 hSw; (try dsimp only at hSw); go_simp; try with_reducible rfl)
              try simp only [Act.put, List.setIfInBounds_toArray, List.set_cons_zero, List.set_cons_succ]
              refine wpAnyH_take (i := 5) (oi := { dst := some 30, op := Go.Op.indexAddr 23 (Go.Operand.tmp 28) (Go.Operand.tmp 29), type := 0, pos := "lattice.go:181", after := #[{ on := 3, ground := Go.Ground.data }, { on := 4, ground := Go.Ground.data }], guard := none }) (v := ?_) rfl (by kernel_rfl) (by kernel_rfl) (by kernel_rfl) (fun _ _ _ h => h) (Or.inl ⟨by rfl, ?hy⟩) (by assumption) ?_
              case hy => (intro w9 hSw; (try dsimp only at hSw); go_simp; try with_reducible rfl)
              try simp only [Act.put, List.setIfInBounds_toArray, List.set_cons_zero, List.set_cons_succ]
              refine wpAnyH_take (i := 6) (oi := { dst := some 31, op := Go.Op.load 3 (Go.Operand.tmp 30), type := 3, pos := "lattice.go:181", after := #[{ on := 5, ground := Go.Ground.data }], guard := none }) (v := ?_) rfl (by kernel_rfl) (by kernel_rfl) (by kernel_rfl) (fun _ _ _ h => h) (Or.inl ⟨by rfl, ?hy⟩) (by assumption) ?_
              case hy => (intro w9 hSw; (try dsimp only at hSw); go_simp; try with_reducible rfl)
              try simp only [Act.put, List.setIfInBounds_toArray, List.set_cons_zero, List.set_cons_succ]
              refine wpAnyH_ready (rs := [1]) (by kernel_rfl) (by simp) ?_
              refine AllReadyH.cons (o := { dst := some 26, op := Go.Op.call { callee := Go.Callee.value (Go.Operand.func 40), args := #[Go.Operand.tmp 25], argTypes := #[3] }, type := 3, pos := "lattice.go:181", after := #[{ on := 0, ground := Go.Ground.data }], guard := none }) rfl (fun K hK => ?_) AllReadyH.nil
              go_simp
              refine (refSize_any s _ hs1).mono ?_
              rintro e w1 ⟨rfl, rfl⟩
              refine hK.out _ _ ?_ (fun hHeld => ?_)
              · assumption
              clear hK K
              try simp only [Act.put, List.setIfInBounds_toArray, List.set_cons_zero, List.set_cons_succ]
              refine wpAnyH_ready (rs := [7]) (by kernel_rfl) (by simp) ?_
              refine AllReadyH.cons (o := { dst := some 32, op := Go.Op.call { callee := Go.Callee.value (Go.Operand.func 40), args := #[Go.Operand.tmp 31], argTypes := #[3] }, type := 3, pos := "lattice.go:181", after := #[{ on := 6, ground := Go.Ground.data }, { on := 1, ground := Go.Ground.chain }], guard := none }) rfl (fun K hK => ?_) AllReadyH.nil
              go_simp
              refine (refSize_any G _ hG).mono ?_
              rintro e w1 ⟨rfl, rfl⟩
              refine hK.out _ _ ?_ (fun hHeld => ?_)
              · assumption
              clear hK K
              try simp only [Act.put, List.setIfInBounds_toArray, List.set_cons_zero, List.set_cons_succ]
              refine wpAnyH_take (i := 8) (oi := { dst := some 33, op := Go.Op.binOp Go.BinOp.lss 3 (Go.Operand.tmp 26) (Go.Operand.tmp 32) 3, type := 4, pos := "lattice.go:181", after := #[{ on := 1, ground := Go.Ground.data }, { on := 7, ground := Go.Ground.data }], guard := none }) (v := .bool false) rfl (by kernel_rfl) (by kernel_rfl) (by kernel_rfl) (fun _ _ _ h => h) (Or.inl ⟨by rfl, ?hy⟩) (by assumption) ?_
              case hy => (intro w9 hSw; (try dsimp only at hSw); go_simp <;> (first | with_reducible rfl | (simp; omega) | omega))
              try simp only [Act.put, List.setIfInBounds_toArray, List.set_cons_zero, List.set_cons_succ]
              refine wpAnyH_done (by kernel_rfl) ?_ _
              try simp only [Act.put, List.setIfInBounds_toArray, List.set_cons_zero, List.set_cons_succ]
              obtain ⟨e1, e2, e3, e4, ⟨e5, e6⟩, HBe⟩ := hHeld
              have HX : Hid (XB wr.drew Xb F L) := ⟨e3, e4, e5, e6⟩
              clear hc1 hcG HBd e1 e2 e3 e4 e5 e6
              rcases (Bool.eq_false_or_eq_true (s.testBit i)).symm with hb | hb
              · have HL2 : Hid (L + 1 = cn (fun s => inB g len s && !s.testBit i) (s + 1)) := by
                  show _ = _
                  rw [cn_yes (by rw [hin, hb]; rfl), ← HL.out]
                clear HL
                have HXf : Hid (XB ((wr.drew).setCell ⟨Xb, 1, none⟩ (.int .i64 ((L : Int) + 1))) Xb (F : Int) ((L : Int) + 1)) := (XB.set1 HX.out _)
                have HBf : Hid (Below Xb wo ((wr.drew).setCell ⟨Xb, 1, none⟩ (.int .i64 ((L : Int) + 1)))) := (Below.setCell (p := ⟨Xb, 1, none⟩) HBe.out (Nat.le_refl _) _)
                clear HX HBe
                go_wp2_with (go_at_call 41; refine (in_as s i _ false hb (by omega) (by omega)).mono ?_; rintro e w' ⟨rfl, hww⟩; subst hww)
                go_roundw
                case rel => exact ⟨s + 1, F, L + 1, by omega, by omega, by omega, by go_num, HF2.out, HL2.out, HXf.out.1, HXf.out.2.1, HXf.out.2.2.1, HXf.out.2.2.2, HBf.out⟩
                case measure => simp [intOf]; omega
              · have HL2 : Hid (L = cn (fun s => inB g len s && !s.testBit i) (s + 1)) := by
                  show _ = _
                  rw [cn_no (by rw [hin, hb]; rfl), ← HL.out]
                clear HL
                have HXf : Hid (XB wr.drew Xb (F : Int) (L : Int)) := HX.out
                have HBf : Hid (Below Xb wo wr.drew) := HBe.out
                clear HX HBe
                go_wp2_with (go_at_call 41; refine (in_as s i _ true hb (by omega) (by omega)).mono ?_; rintro e w' ⟨rfl, hww⟩; subst hww)
                go_roundw
                case rel => exact ⟨s + 1, F, L, by omega, by omega, by omega, by go_num, HF2.out, HL2.out, HXf.out.1, HXf.out.2.1, HXf.out.2.2.1, HXf.out.2.2.2, HBf.out⟩
                case measure => simp [intOf]; omega
        · obtain rfl : s = pw len := by omega
          have hge : ¬ ((pw len : Nat) : Int) < ((pw len : Nat) : Int) := by omega
          have HFE : Hid (F = fi g len i) := by
            show _ = _
            unfold fi
            rw [HGe.out]; exact HF.out
          have HLE : Hid (L = la g len i) := HL.out
          have hLw : wrap64 ((L : Int) - 1) = (L : Int) - 1 := IntWalk.wrap64_in _ ⟨by omega, by omega⟩
          have HXf : Hid (XB (wr.setCell ⟨Xb, 1, none⟩ (.int .i64 ((L : Int) - 1))) Xb F ((L : Int) - 1)) := XB.set1 ⟨x0, x1, z0, z1⟩ _
          have HBf : Hid (Below Xb wo (wr.setCell ⟨Xb, 1, none⟩ (.int .i64 ((L : Int) - 1)))) := Below.setCell (p := ⟨Xb, 1, none⟩) HB.out (Nat.le_refl _) _
          have hown6 : (wr.setCell ⟨Xb, 1, none⟩ (.int .i64 ((L : Int) - 1))).ownsRow W0.heap.size 49 2 u3 i (ipv (spn g len) i) := owns_below HOo.out (by rw [hXo]; exact HBf.out)
          have HB6 : Hid (Below W0.heap.size W0 (wr.setCell ⟨Xb, 1, none⟩ (.int .i64 ((L : Int) - 1)))) := Below.then HBo.out (by rw [hXo]; exact HBf.out)
          have HEQ : Hid (ipv (spn g len) (i + 1) = ipv (spn g len) i ++ [.int .i64 (F : Nat), .int .i64 ((L : Int) - 1)]) := by
            show _ = _
            rw [HFE.out, HLE.out]; rfl
          obtain ⟨f0, f1, _, _⟩ := HXf.out
          clear HF HL HB HRx hcG hc1 HFE HLE
          go_wp2_with (first
            | (go_at_call 35; refine (bit_any len _ (by omega)).mono ?_; rintro e w' ⟨rfl, hww⟩; subst hww)
            | (at_builtin; refine wpList_append_own _ rfl _ _ 22 rfl W0.heap.size 49 i0 (.agg #[.int .i64 0, .int .i64 0]) 2 16 Try.underlying22 hi hz0 hz1 hz2 rfl (by decide) _ _ _ rfl (hown6.alloc _) ⟨wr.heap.size, 0, none⟩ 1 1 [.int .i64 (F : Nat), .int .i64 ((L : Int) - 1)] rfl rfl ?c1 ?c2 ?c3 ?c4 ?c5 ?_))
          case c1 =>
            intro j u hj
            match j, hj with
            | 0, hj => simp at hj; subst hj; simp [Addr.add]; rw [World.cell?_alloc_at _ _ _ _ (by simp)]; rfl
            | 1, hj => simp at hj; subst hj; simp [Addr.add]; rw [World.cell?_alloc_at _ _ _ _ (by simp)]; rfl
          case c2 => intro u hu; simp at hu; rcases hu with rfl | rfl <;> rfl
          case c3 => unfold maxLen; omega
          case c4 => omega
          case c5 => have := HB6.out.size; simp at this ⊢; omega
          intro v' w7 hown' hgrow _
          have HB7 : Hid (Below W0.heap.size W0 w7) := (HB6.out.alloc HB6.out.size _).grown hgrow (by have := HB6.out.size; simp at this ⊢; omega) (owns_block hown6)
          have HO7 : Hid (w7.ownsRow W0.heap.size 49 2 v' (i + 1) (ipv (spn g len) (i + 1))) := by rw [HEQ.out, hs0]; exact hown'
          clear hown' hgrow hown6 HB6 HEQ
          go_wp2_with fail
          go_roundw
          case rel => exact ⟨i + 1, by omega, by go_num, HO7.out, HB7.out⟩
          case measure => simp [intOf]; omega
    · obtain rfl : i = len := by omega
      obtain ⟨a5, cap5, rfl, hp5⟩ := owns_ipv HOx.out
      have HP5 : Hid (PRow wr a5 i (spn g i)) := hp5
      have HBE : Hid (Below w.heap.size w wr) := Below.then HB0.out HBx.out
      clear hp5 HOx HBx
      go_wp2_with fail
      go_ret
      exact ⟨⟨_, a5, cap5, rfl, rfl, HP5.out⟩, HBE.out⟩
end Go.Proofs.Ytlpeflnipbbmhaa
