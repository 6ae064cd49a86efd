/-
  What convex.Words answers, whatever it is handed. Condition: the table of the least bits.
-/
import Derived.Test.YtglkjeidkjkdaaaDoorLate
import Derived.Test.YtglkjeidkjkdaaaDoorMemN
namespace Go.Proofs.YtglkjeidkjkdaaaDoor
set_option maxRecDepth 100000
open Go.RowKit

/-- A number behind an error, or F of the points. -/
def WrdIs (N : Int) (len : Nat) (f : Nat → Int) (F : Nat → Nat) (e : Ending) : Prop :=
  (∃ c, c ≠ 0 ∧ WCk N len f c ∧ e = .returned (.tuple #[.int .i64 0, .int .i64 c])) ∨
  ∃ n : Nat, N = n ∧ n ≤ 10 ∧ WCk N len f 0 ∧ FIn n len f ∧ FRis len f ∧ Whl n len f ∧ e = .returned (.tuple #[.int .i64 (F n : Nat), .int .i64 0])

set_option maxHeartbeats 4000000 in
theorem words_any (N : Int) (a : Option Addr) (len cap : Nat) (f : Nat → Int) (w : World) (hl : len ≤ maxLen) (hr : Row w a len f) (hT : Tab w) :
    Calls Tryd.prog 22 #[.agg #[.int .i64 N, .slice a len cap]] w fun e w' => WrdIs N len f (fun n => wy (mem (nat f) len) (pw n - 1)) e ∧ Below w.heap.size w w' := by
  obtain ⟨W0, HW0⟩ : ∃ W0, Hid (W0 = w.alloc (.cells #[.int .i64 N, .slice a len cap] 36)) := ⟨_, rfl⟩
  have HB0 : Hid (Below w.heap.size w W0) := by rw [HW0.out]; exact (Below.refl _ _).alloc (Nat.le_refl _) _
  have K0 : Held W0 w.heap.size N a len cap f := by rw [HW0.out]; exact Fam.box hr
  have HT0 : Hid (Tab W0) := hT.step HB0.out
  have HCK := (show Hid (Calls Tryd.prog 46 #[.agg #[.int .i64 N, .slice a len cap]] W0 _) from checkWhole_any N a len cap f W0 hl K0.row HT0.out)
  have k0 := K0.c0
  have k1 := K0.c1
  obtain ⟨i0, hi, hz0, hz1, hz2⟩ := info_parts Tryd.info3
  clear hr hT
  go_enter Tryd.func22, Tryd.ntmps22
  go_wp2_with fail
  rw [← HW0.out]
  refine HCK.out.mono ?_
  rintro e w1 ⟨⟨c, rfl, hc⟩, hb1⟩
  have HB1 : Hid (Below W0.heap.size W0 w1) := hb1
  clear HCK k0 k1 hb1
  have HC : Hid (WCk N len f c) := hc
  by_cases h0 : c = 0
  · subst h0
    obtain ⟨n, rfl, h10, hin, hris, hw⟩ := hc.good
    have HF : Hid (FIn n len f ∧ FRis len f ∧ Whl n len f) := ⟨hin, hris, hw⟩
    have HG : Hid (∀ k, k < len → nat f k < pw n) := hin.small
    have HRN : Hid (RisN (nat f) len) := ris_nat hin hris
    have HR1 : Hid (Row w1 a len (fun k => (nat f k : Nat))) := hin.row (K0.step HB1.out).row
    have k0 := (K0.step HB1.out).c0
    have k1 := (K0.step HB1.out).c1
    have hsh := wrap_pow n (by omega)
    have hpn := pw_le n h10
    have hpp := pw_pos n
    have hp0 : (0 : Int) < ((pw n : Nat) : Int) := by omega
    obtain ⟨B, HB⟩ : ∃ B, Hid (B = w1.heap.size) := ⟨_, rfl⟩
    unfold maxLen at hl
    clear hc hin hris hw
    go_wp2_with (at_make; refine wpList_make_full _ rfl _ _ 22 rfl w1.heap.size 3 i0 (.int .i64 0) 1 Tryd.underlying22 hi hz0 hz1 .i64 .i64 _ _ (pw n) rfl rfl hsh hsh (by rw [hz2]; omega) (by unfold maxLen; omega) (Nat.le_refl _) ?_; intro w2 hown2 hgrow2; have hb2 : Below w1.heap.size w1 w2 := (Below.refl _ _).grown hgrow2 (Nat.le_refl _) (by simp); have HO2 : Hid (Own w2 B (pw n) (fun _ => 0)) := (by rw [HB.out]; exact own_made hown2); have HB2 : Hid (Below w1.heap.size w1 w2) := hb2; rw [← HB.out]; have g0 := (HO2.out 0 hpp).1; have g1 := (HO2.out 0 hpp).2; have m0 := (K0.step (Below.then HB1.out hb2)).c0; have m1 := (K0.step (Below.then HB1.out hb2)).c1; clear hown2 hgrow2 hb2)
    obtain ⟨g, HGE⟩ : ∃ g, Hid (g = nat f) := ⟨_, rfl⟩
    rw [← HGE.out] at HG HRN HR1
    obtain ⟨M, HM⟩ : ∃ M, Hid (M = mem g len) := ⟨_, rfl⟩
    have HO3 : Hid (Own (w2.setCell ⟨B, 0, none⟩ (.int .i64 1)) B (pw n) (wv g len 0)) := by rw [wv_zero]; exact HO2.out.set 0 1 hpp
    have HB3 : Hid (Below w1.heap.size w1 (w2.setCell ⟨B, 0, none⟩ (.int .i64 1))) := below_set HB2.out (by rw [HB.out]; exact Nat.le_refl _)
    have HWB : Hid (B = w1.heap.size) := HB.out
    clear HO2 HB2 g0 g1 m0 m1 k0 k1 hsh
    go_loopw [24] (fun i wx => ∃ k : Nat, k ≤ len ∧ i = .int .i64 k ∧ Hid (Own wx B (pw n) (wv g len k)) ∧ Hid (Below w1.heap.size w1 wx)) (fun i _ => len - (intOf i).toNat)
    case atStart => exact ⟨0, Nat.zero_le _, rfl, HO3, HB3⟩
    case round =>
      clear HO3 HB3
      obtain ⟨k, hk, rfl, HO, HBx⟩ := hrel
      by_cases hlt : k < len
      · obtain ⟨b2, off, rfl, hcc⟩ := (HR1.out.below HBx.out) k hlt
        have hlt' : (k : Int) < (len : Int) := by omega
        have hgk := HG.out k hlt
        have hc2 : wr.cell? ⟨b2, off + k, none⟩ = some (.int .i64 (g k : Nat)) := hcc
        have HEND : Hid (upd (wv g len k) (g k) (wi (mem g len) (g k) (pts (g k) 10).length) = wv g len (k + 1)) := by rw [Hid, wi_end hlt (by omega), wv_succ]
        have HSTA : Hid (wv g len k = upd (wv g len k) (g k) (wi (mem g len) (g k) 0)) := by rw [Hid, ← wi_zero HRN.out hlt, upd_self]
        have HLESS : Hid (∀ d, d < g k → wv g len k d = wy (mem g len) d) := fun d hd => wv_less HRN.out hlt hd
        rw [← HM.out] at HEND HSTA HLESS
        obtain ⟨s, HS⟩ : ∃ s, Hid (g k = s) := ⟨_, rfl⟩
        rw [HS.out] at hc2 hgk HEND HSTA HLESS
        have hs1 : s < 1024 := by omega
        have HMEM := (show Hid (Calls Tryd.prog 47 #[.int .i64 (s : Nat)] wr _) from members_new s wr hs1 (HT0.out.step (Below.then HB1.out HBx.out)))
        have HBL : Hid (B < wr.heap.size) := HO.out.lt hpp
        clear hcc
        go_wp2_with fail
        refine HMEM.out.mono ?_
        rintro e w3 ⟨⟨v, rfl, ⟨a1, cap1, rfl, hr1⟩, hfr⟩, hb3⟩
        have HBY : Hid (Below w1.heap.size w1 w3) := Below.then HBx.out hb3
        have HOY : Hid (Own w3 B (pw n) (upd (wv g len k) s (wi M s 0))) := by rw [← HSTA.out]; exact HO.out.step hb3
        have HRY : Hid (Row w3 a1 (pts s 10).length (fun k => (nth (pts s 10) k : Nat))) := hr1
        have HNE : Hid (∀ b off, a1 = some ⟨b, off, none⟩ → b ≠ B) := fresh_ne rfl hfr HBL.out
        have hpl := pts_len s 10
        have HPA : Hid (∀ k, k < (pts s 10).length → nth (pts s 10) k < 10 ∧ s.testBit (nth (pts s 10) k) = true) := fun k hk => pts_all hk
        have HWI : Hid (∀ i, wi M s (i + 1) = wi M s i + wy M (s - pw (nth (pts s 10) i))) := fun i => wi_succ M s i
        clear hb3 hr1 hfr HMEM HO HBx
        generalize pts s 10 = P at *
        obtain ⟨m, HMM⟩ : ∃ m, Hid (m = P.length) := ⟨_, rfl⟩
        rw [← HMM.out] at hpl HRY HPA HEND ⊢
        go_wp2_with fail
        go_loopw [31] (fun q wy' => ∃ i : Nat, i ≤ m ∧ q = .int .i64 i ∧ Hid (Own wy' B (pw n) (upd (wv g len k) s (wi M s i))) ∧ Hid (Row wy' a1 m (fun k => (nth P k : Nat))) ∧ Hid (Below w1.heap.size w1 wy')) (fun q _ => m - (intOf q).toNat)
        case atStart => exact ⟨0, Nat.zero_le _, rfl, HOY, HRY, HBY⟩
        case round =>
          clear HOY HRY HBY
          obtain ⟨i, hi2, rfl, HO, HR, HBx⟩ := hrel
          by_cases hlt2 : i < m
          · obtain ⟨b3, off3, rfl, hcc⟩ := HR.out i hlt2
            have hlt2' : (i : Int) < (m : Int) := by omega
            obtain ⟨hp, hb⟩ := HPA.out i hlt2
            have hwi := HWI.out i
            have hc3 : wr.cell? ⟨b3, off3 + i, none⟩ = some (.int .i64 (nth P i : Nat)) := hcc
            obtain ⟨p, HP⟩ : ∃ p, Hid (nth P i = p) := ⟨_, rfl⟩
            rw [HP.out] at hp hb hc3 hwi
            have hsub := sub_lt' hs1 hp hb
            have h1 : pw p < 1024 := Nat.lt_of_lt_of_le (Nat.pow_lt_pow_right (by decide) hp) (Nat.le_refl (2 ^ 10))
            have han : bits .andNot .i64 (s : Int) ((pw p : Nat) : Int) = ((s - pw p : Nat) : Int) := by rw [i64_andNot s (pw p) (by omega) (by omega), lack_pw hs1 hp hb]
            obtain ⟨d, hd⟩ : ∃ d, s - pw p = d := ⟨_, rfl⟩
            rw [hd] at hsub han hwi
            have hsw := wrap_pow2 p (by omega)
            have hdn : d < pw n := by omega
            have hdi : (d : Int) < ((pw n : Nat) : Int) := by omega
            have hsi : (s : Int) < ((pw n : Nat) : Int) := by omega
            have hE1 := wi_small (M := M) hs1 (show i ≤ 10 by omega)
            have hG1 : wy M d ≤ 10000000000 := wy_small (by omega)
            have hcs := HO.out s hgk
            have hcd := (HO.out d hdn).1
            rw [upd_same] at hcs
            rw [upd_other _ _ _ _ (by omega), HLESS.out d hsub] at hcd
            obtain ⟨E, hE⟩ : ∃ E, wi M s i = E := ⟨_, rfl⟩
            obtain ⟨G, hG⟩ : ∃ G, wy M d = G := ⟨_, rfl⟩
            obtain ⟨T, hT⟩ : ∃ T, E + G = T := ⟨_, rfl⟩
            rw [hE] at hwi hE1 hcs
            rw [hG] at hwi hG1 hcd
            rw [hT] at hwi
            have hadd : IntKind.i64.wrap ((E : Int) + (G : Int)) = (T : Int) := by
              rw [← hT, Int.natCast_add]; exact wrap_i64_small _ (by omega) (by omega)
            obtain ⟨X, HX⟩ : ∃ X, Hid (X = wr.drew) := ⟨_, rfl⟩
            have hx1 : X.cell? ⟨B, s, none⟩ = some (.int .i64 (E : Nat)) := by rw [HX.out]; exact hcs.1
            have hx2 : X.cell? ⟨B, d, none⟩ = some (.int .i64 (G : Nat)) := by rw [HX.out]; exact hcd
            have hx3 : X.frozen? ⟨B, s, none⟩ = false := by rw [HX.out]; exact hcs.2
            have HOT : Hid (Own (X.setCell ⟨B, s, none⟩ (.int .i64 (T : Nat))) B (pw n) (upd (wv g len k) s (wi M s (i + 1)))) := by
              have hOX : Own X B (pw n) (upd (wv g len k) s (wi M s i)) := by rw [HX.out]; exact HO.out
              have := hOX.set s T hgk
              rw [upd_upd] at this
              rw [hwi]; exact this
            have HRT : Hid (Row (X.setCell ⟨B, s, none⟩ (.int .i64 (T : Nat))) (some ⟨b3, off3, none⟩) m (fun k => (nth P k : Nat))) := by
              have hRX : Row X (some ⟨b3, off3, none⟩) m (fun k => (nth P k : Nat)) := by rw [HX.out]; exact HR.out
              exact hRX.setOther HNE.out
            have HBT : Hid (Below w1.heap.size w1 (X.setCell ⟨B, s, none⟩ (.int .i64 (T : Nat)))) := below_set (by rw [HX.out]; exact HBx.out.drew) (by rw [HWB.out]; exact Nat.le_refl _)
            clear hcc hd hE hG hT hwi hcs hcd HO HR HBx hE1 hG1
            go_wp2_with fail
            refine wp_lates (S := (fun w' => w' = X)) (late := (fun i => i == 13)) (by kernel_rfl) ?_
            rw [← HX.out]
            have HS : Hid (X = X) := rfl
            refine lates_take (i := 0) (oi := { dst := some 35, op := Go.Op.move (Go.Operand.tmp 5), type := 22, pos := "convex.go:77", after := #[], guard := none }) (v := ?_) rfl (by kernel_rfl) (by kernel_rfl) (by kernel_rfl) ⟨rfl, by kernel_rfl⟩ (fun _ _ _ h => h) (Or.inl ⟨by rfl, ?hy⟩) HS.out ?_
            case hy => (intro w9 hSw; (try dsimp only at hSw); subst hSw; go_simp; try with_reducible rfl)
            try simp only [Act.put, List.setIfInBounds_toArray, List.set_cons_zero, List.set_cons_succ]
            refine lates_take (i := 1) (oi := { dst := some 36, op := Go.Op.move (Go.Operand.tmp 7), type := 3, pos := "convex.go:77", after := #[], guard := none }) (v := ?_) rfl (by kernel_rfl) (by kernel_rfl) (by kernel_rfl) ⟨rfl, by kernel_rfl⟩ (fun _ _ _ h => h) (Or.inl ⟨by rfl, ?hy⟩) HS.out ?_
            case hy => (intro w9 hSw; (try dsimp only at hSw); subst hSw; go_simp; try with_reducible rfl)
            try simp only [Act.put, List.setIfInBounds_toArray, List.set_cons_zero, List.set_cons_succ]
            refine lates_take (i := 2) (oi := { dst := some 37, op := Go.Op.indexAddr 22 (Go.Operand.tmp 35) (Go.Operand.tmp 36), type := 0, pos := "convex.go:77", after := #[{ on := 0, ground := Go.Ground.data }, { on := 1, ground := Go.Ground.data }], guard := none }) (v := ?_) rfl (by kernel_rfl) (by kernel_rfl) (by kernel_rfl) ⟨rfl, by kernel_rfl⟩ (fun _ _ _ h => h) (Or.inl ⟨by rfl, ?hy⟩) HS.out ?_
            case hy => (intro w9 hSw; (try dsimp only at hSw); subst hSw; go_simp; try with_reducible rfl)
            try simp only [Act.put, List.setIfInBounds_toArray, List.set_cons_zero, List.set_cons_succ]
            refine lates_take (i := 3) (oi := { dst := some 38, op := Go.Op.load 3 (Go.Operand.tmp 37), type := 3, pos := "convex.go:77", after := #[{ on := 2, ground := Go.Ground.data }], guard := none }) (v := ?_) rfl (by kernel_rfl) (by kernel_rfl) (by kernel_rfl) ⟨rfl, by kernel_rfl⟩ (fun _ _ _ h => h) (Or.inl ⟨by rfl, ?hy⟩) HS.out ?_
            case hy => (intro w9 hSw; (try dsimp only at hSw); subst hSw; go_simp; try with_reducible rfl)
            try simp only [Act.put, List.setIfInBounds_toArray, List.set_cons_zero, List.set_cons_succ]
            refine lates_take (i := 4) (oi := { dst := some 39, op := Go.Op.move (Go.Operand.tmp 5), type := 22, pos := "convex.go:77", after := #[], guard := none }) (v := ?_) rfl (by kernel_rfl) (by kernel_rfl) (by kernel_rfl) ⟨rfl, by kernel_rfl⟩ (fun _ _ _ h => h) (Or.inl ⟨by rfl, ?hy⟩) HS.out ?_
            case hy => (intro w9 hSw; (try dsimp only at hSw); subst hSw; go_simp; try with_reducible rfl)
            try simp only [Act.put, List.setIfInBounds_toArray, List.set_cons_zero, List.set_cons_succ]
            refine lates_take (i := 5) (oi := { dst := some 40, op := Go.Op.move (Go.Operand.tmp 7), type := 3, pos := "convex.go:77", after := #[], guard := none }) (v := ?_) rfl (by kernel_rfl) (by kernel_rfl) (by kernel_rfl) ⟨rfl, by kernel_rfl⟩ (fun _ _ _ h => h) (Or.inl ⟨by rfl, ?hy⟩) HS.out ?_
            case hy => (intro w9 hSw; (try dsimp only at hSw); subst hSw; go_simp; try with_reducible rfl)
            try simp only [Act.put, List.setIfInBounds_toArray, List.set_cons_zero, List.set_cons_succ]
            refine lates_take (i := 6) (oi := { dst := some 41, op := Go.Op.move (Go.Operand.tmp 9), type := 3, pos := "convex.go:77", after := #[], guard := none }) (v := ?_) rfl (by kernel_rfl) (by kernel_rfl) (by kernel_rfl) ⟨rfl, by kernel_rfl⟩ (fun _ _ _ h => h) (Or.inl ⟨by rfl, ?hy⟩) HS.out ?_
            case hy => (intro w9 hSw; (try dsimp only at hSw); subst hSw; go_simp; try with_reducible rfl)
            try simp only [Act.put, List.setIfInBounds_toArray, List.set_cons_zero, List.set_cons_succ]
            refine lates_take (i := 7) (oi := { dst := some 42, op := Go.Op.binOp Go.BinOp.shl 3 (Go.Operand.const (Go.Value.int Go.IntKind.i64 1)) (Go.Operand.tmp 41) 3, type := 3, pos := "convex.go:77", after := #[{ on := 6, ground := Go.Ground.data }], guard := none }) (v := .int .i64 ((pw p : Nat) : Int)) rfl (by kernel_rfl) (by kernel_rfl) (by kernel_rfl) ⟨rfl, by kernel_rfl⟩ (fun _ _ _ h => h) (Or.inl ⟨by rfl, ?hy⟩) HS.out ?_
            case hy => (intro w9 hSw; (try dsimp only at hSw); subst hSw; go_simp <;> (first | with_reducible rfl | (simp; omega) | omega))
            try simp only [Act.put, List.setIfInBounds_toArray, List.set_cons_zero, List.set_cons_succ]
            refine lates_take (i := 8) (oi := { dst := some 43, op := Go.Op.binOp Go.BinOp.andNot 3 (Go.Operand.tmp 40) (Go.Operand.tmp 42) 3, type := 3, pos := "convex.go:77", after := #[{ on := 5, ground := Go.Ground.data }, { on := 7, ground := Go.Ground.data }], guard := none }) (v := .int .i64 ((d : Nat) : Int)) rfl (by kernel_rfl) (by kernel_rfl) (by kernel_rfl) ⟨rfl, by kernel_rfl⟩ (fun _ _ _ h => h) (Or.inl ⟨by rfl, ?hy⟩) HS.out ?_
            case hy => (intro w9 hSw; (try dsimp only at hSw); subst hSw; go_simp <;> (first | with_reducible rfl | (simp; omega) | omega))
            try simp only [Act.put, List.setIfInBounds_toArray, List.set_cons_zero, List.set_cons_succ]
            refine lates_take (i := 9) (oi := { dst := some 44, op := Go.Op.indexAddr 22 (Go.Operand.tmp 39) (Go.Operand.tmp 43), type := 0, pos := "convex.go:77", after := #[{ on := 4, ground := Go.Ground.data }, { on := 8, ground := Go.Ground.data }], guard := none }) (v := ?_) rfl (by kernel_rfl) (by kernel_rfl) (by kernel_rfl) ⟨rfl, by kernel_rfl⟩ (fun _ _ _ h => h) (Or.inl ⟨by rfl, ?hy⟩) HS.out ?_
            case hy => (intro w9 hSw; (try dsimp only at hSw); subst hSw; go_simp; try with_reducible rfl)
            try simp only [Act.put, List.setIfInBounds_toArray, List.set_cons_zero, List.set_cons_succ]
            refine lates_take (i := 10) (oi := { dst := some 45, op := Go.Op.load 3 (Go.Operand.tmp 44), type := 3, pos := "convex.go:77", after := #[{ on := 9, ground := Go.Ground.data }], guard := none }) (v := ?_) rfl (by kernel_rfl) (by kernel_rfl) (by kernel_rfl) ⟨rfl, by kernel_rfl⟩ (fun _ _ _ h => h) (Or.inl ⟨by rfl, ?hy⟩) HS.out ?_
            case hy => (intro w9 hSw; (try dsimp only at hSw); subst hSw; go_simp; try with_reducible rfl)
            try simp only [Act.put, List.setIfInBounds_toArray, List.set_cons_zero, List.set_cons_succ]
            refine lates_take (i := 11) (oi := { dst := some 46, op := Go.Op.binOp Go.BinOp.add 3 (Go.Operand.tmp 38) (Go.Operand.tmp 45) 3, type := 3, pos := "convex.go:77", after := #[{ on := 3, ground := Go.Ground.data }, { on := 10, ground := Go.Ground.data }], guard := none }) (v := .int .i64 ((T : Nat) : Int)) rfl (by kernel_rfl) (by kernel_rfl) (by kernel_rfl) ⟨rfl, by kernel_rfl⟩ (fun _ _ _ h => h) (Or.inl ⟨by rfl, ?hy⟩) HS.out ?_
            case hy => (intro w9 hSw; (try dsimp only at hSw); subst hSw; go_simp <;> (first | with_reducible rfl | (simp; omega) | omega))
            try simp only [Act.put, List.setIfInBounds_toArray, List.set_cons_zero, List.set_cons_succ]
            refine lates_take (i := 12) (oi := { dst := some 47, op := Go.Op.indexAddr 22 (Go.Operand.tmp 35) (Go.Operand.tmp 36), type := 0, pos := "convex.go:77", after := #[{ on := 0, ground := Go.Ground.data }, { on := 1, ground := Go.Ground.data }, { on := 0, ground := Go.Ground.phase }, { on := 1, ground := Go.Ground.phase }, { on := 2, ground := Go.Ground.phase }, { on := 3, ground := Go.Ground.phase }, { on := 4, ground := Go.Ground.phase }, { on := 5, ground := Go.Ground.phase }, { on := 6, ground := Go.Ground.phase }, { on := 7, ground := Go.Ground.phase }, { on := 8, ground := Go.Ground.phase }, { on := 9, ground := Go.Ground.phase }, { on := 10, ground := Go.Ground.phase }, { on := 11, ground := Go.Ground.phase }], guard := none }) (v := ?_) rfl (by kernel_rfl) (by kernel_rfl) (by kernel_rfl) ⟨rfl, by kernel_rfl⟩ (fun _ _ _ h => h) (Or.inl ⟨by rfl, ?hy⟩) HS.out ?_
            case hy => (intro w9 hSw; (try dsimp only at hSw); subst hSw; go_simp; try with_reducible rfl)
            try simp only [Act.put, List.setIfInBounds_toArray, List.set_cons_zero, List.set_cons_succ]
            refine lates_ready (rs := [13]) (by kernel_rfl) (by simp) ?_
            refine AllLate.cons (o := { dst := none, op := Go.Op.store 3 (Go.Operand.tmp 47) (Go.Operand.tmp 46), type := 0, pos := "convex.go:77", after := #[{ on := 12, ground := Go.Ground.data }, { on := 11, ground := Go.Ground.data }, { on := 0, ground := Go.Ground.phase }, { on := 1, ground := Go.Ground.phase }, { on := 2, ground := Go.Ground.phase }, { on := 3, ground := Go.Ground.phase }, { on := 4, ground := Go.Ground.phase }, { on := 5, ground := Go.Ground.phase }, { on := 6, ground := Go.Ground.phase }, { on := 7, ground := Go.Ground.phase }, { on := 8, ground := Go.Ground.phase }, { on := 9, ground := Go.Ground.phase }, { on := 10, ground := Go.Ground.phase }, { on := 11, ground := Go.Ground.phase }], guard := none }) rfl (fun K hK => ?_) ?_
            · go_simp
              skip
              refine hK.out _ _ (fun h => by cases h) ?_
              clear hK K
              try simp only [Act.put, List.setIfInBounds_toArray, List.set_cons_zero, List.set_cons_succ]
              refine lates_done (by kernel_rfl) ?_ _
              try simp only [Act.put, List.setIfInBounds_toArray, List.set_cons_zero, List.set_cons_succ]
              go_wp2_with fail
              go_roundw
              case rel => exact ⟨i + 1, by omega, by go_num, HOT, HRT, HBT⟩
              case measure => simp [intOf]; omega
            exact AllLate.nil
          · obtain rfl : i = m := by omega
            rw [HEND.out] at HO
            go_wp2_with fail
            go_roundw
            case rel => exact ⟨k + 1, by omega, by go_num, HO, HBx⟩
            case measure => simp [intOf]; omega
      · obtain rfl : k = len := by omega
        have HV : Hid (wv g k k (pw n - 1) = wy (mem (nat f) k) (pw n - 1)) := by rw [Hid, wv_end, HGE.out]
        have hcl := (HO.out (pw n - 1) (by omega)).1
        obtain ⟨V, HVV⟩ : ∃ V, Hid (wv g k k (pw n - 1) = V) := ⟨_, rfl⟩
        rw [HVV.out] at hcl HV
        have k0 := (K0.step (Below.then HB1.out HBx.out)).c0
        obtain ⟨q, hq⟩ : ∃ q, pw n - 1 = q := ⟨_, rfl⟩
        rw [hq] at hcl
        have hqi : ((pw n : Nat) : Int) - 1 = (q : Int) := by omega
        have hqj : (q : Int) < ((pw n : Nat) : Int) := by omega
        have HFIN : Hid (WrdIs n k f (fun n => wy (mem (nat f) k) (pw n - 1)) (.returned (.tuple #[.int .i64 (V : Nat), .int .i64 0]))) := .inr ⟨n, rfl, h10, HC.out, HF.out.1, HF.out.2.1, HF.out.2.2, by rw [HV.out]⟩
        clear hq
        go_wp2_with fail
        refine (all_any n _ h10).mono ?_
        rintro e w4 ⟨rfl, rfl⟩
        rw [hqi]
        go_wp2_with fail
        go_ret2
        exact ⟨HFIN.out, Below.then HB0.out (Below.then HB1.out HBx.out)⟩
  · have hne : (c != 0) = true := by simpa using h0
    clear hc
    go_wp2_with fail
    go_ret2
    exact ⟨.inl ⟨c, h0, HC.out, rfl⟩, Below.then HB0.out HB1.out⟩
end Go.Proofs.YtglkjeidkjkdaaaDoor
