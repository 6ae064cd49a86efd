/-
  CanonCounts' pieces, alone. Conditions: as told.
  The forms of four and of five points, reckoned; and in how many ways each can be numbered. No condition.
-/
import Derived.Test.YtfbdgdphpdhcpaaDoorGqD
namespace Go.Proofs.YtfbdgdphpdhcpaaDoor
open Go Go.Conc Go.RowKit Sm
set_option maxRecDepth 100000

/-- How many lists leave a form as it is. -/
def cntL (o : List Nat) : Nat := (mvL (nth o) o.length (per o.length [] (pw o.length - 1))).length
def facL : Nat → Nat
  | 0 => 1
  | n + 1 => (n + 1) * facL n
abbrev GK : FuncId := 7
def IsK (C : Code) : Prop := C = Tryd.f7.body.getD .skip
abbrev kbody (C : Code) : Code := .seq (.seq (atc [1, 1, 1, 1, 1, 1, 0, 1, 2, 2, 0, 0] C) (.cond (.tmp 23) .skip (.exit 0))) (.seq (.block 1 (.seq (atc [1, 1, 1, 1, 1, 1, 0, 1, 2, 2, 1, 0, 2, 0] C) (.seq (.seq (atc [1, 1, 1, 1, 1, 1, 0, 1, 2, 2, 1, 0, 2, 1, 0, 0] C) (.cond (.tmp 48) (thenT (atc [1, 1, 1, 1, 1, 1, 0, 1, 2, 2, 1, 0, 2, 1, 0] C)) .skip)) (atc [1, 1, 1, 1, 1, 1, 0, 1, 2, 2, 1, 0, 2, 1, 1] C)))) (atc [1, 1, 1, 1, 1, 1, 0, 1, 2, 2, 1, 1] C))
theorem gk_shape {C : Code} (hC : IsK C) : C = .seq (atc [0] C) (.seq (.seq (atc [1, 0, 0] C) (.cond (.tmp 10) (thenT (atc [1, 0] C)) .skip)) (.seq (atc [1, 1, 0] C) (.seq (atc [1, 1, 1, 0] C) (.seq (.seq (atc [1, 1, 1, 1, 0, 0] C) (.cond (.tmp 19) (thenT (atc [1, 1, 1, 1, 0] C)) .skip)) (.seq (atc [1, 1, 1, 1, 1, 0] C) (.seq (.seq (atc [1, 1, 1, 1, 1, 1, 0, 0] C) (.block 0 (.loop (kbody C)))) (.seq (atc [1, 1, 1, 1, 1, 1, 1, 0] C) .ret))))))) := by
  rw [hC]
  kernel_rfl
abbrev gkl : List (List Nat) := [[0], [1, 1, 0], [1, 1, 1, 1, 0, 0], [1, 1, 1, 1, 1, 0], [1, 1, 1, 1, 1, 1, 0, 0], [1, 1, 1, 1, 1, 1, 0, 1, 2, 2, 0, 0], [1, 1, 1, 1, 1, 1, 0, 1, 2, 2, 1, 0, 2, 0], [1, 1, 1, 1, 1, 1, 0, 1, 2, 2, 1, 0, 2, 1, 0, 0], [1, 1, 1, 1, 1, 1, 0, 1, 2, 2, 1, 0, 2, 1, 1], [1, 1, 1, 1, 1, 1, 0, 1, 2, 2, 1, 1], [1, 1, 1, 1, 1, 1, 1, 0]]
theorem gk_item : (gkl.all fun l => itemB Tryd.prog afs cgs (.code (atc l (Tryd.f7.body.getD .skip)))) = true := by kernel_rfl
theorem gk_ok {C : Code} (hC : IsK C) {l : List Nat} (h : l ∈ gkl) : itemB Tryd.prog afs cgs (.code (atc l C)) = true := by
  rw [hC]
  exact List.all_eq_true.1 gk_item l h
theorem gk_in : ∃ f, Tryd.prog.funcs[GK]? = some f := ⟨_, Tryd.func7⟩
theorem gk1_shape {C : Code} (hC : IsK C) : atc [1, 0, 0] C = .region 1 (opsOf (atc [1, 0, 0] C)) false := by
  rw [hC]
  kernel_rfl
theorem gk1_ops {C : Code} (hC : IsK C) : ((opsOf (atc [1, 0, 0] C)).map fun o => (o.dst, o.op, o.guard)).toList = [(some 9, .call { callee := .value (.func GB), args := #[], argTypes := #[] }, none), (some 10, .unOp .not 4 (.tmp 9), none)] := by
  rw [hC]
  kernel_rfl
theorem gk4_shape {C : Code} (hC : IsK C) : atc [1, 1, 1, 0] C = .region 4 (opsOf (atc [1, 1, 1, 0] C)) false := by
  rw [hC]
  kernel_rfl
theorem gk4_ops {C : Code} (hC : IsK C) : ((opsOf (atc [1, 1, 1, 0] C)).map fun o => (o.dst, o.op, o.guard)).toList = [(some 14, .move (.tmp 0), none), (some 15, .call { callee := .value (.func GA), args := #[.tmp 14], argTypes := #[3] }, none), (some 13, .move (.tmp 15), none), (some 16, .extract (.tmp 13) 0, none), (some 17, .extract (.tmp 13) 1, none), (some 3, .assign (.tmp 16), none), (some 4, .assign (.tmp 17), none)] := by
  rw [hC]
  kernel_rfl
theorem choose_any (c : Int) (n : Nat) (w : World) (hn : 0 < n) (hn2 : n ≤ 10000000000) (h1 : -9223372036854775808 ≤ c) (h2 : c ≤ 9223372036854775807) :
    Calls Tryd.prog 25 #[.int .i64 c, .int .i64 (n : Nat)] w fun e w' => (∃ k : Nat, k < n ∧ e = .returned (.int .i64 (k : Nat))) ∧ w = w' := by
  have hz : ((n : Nat) : Int) ≠ 0 := by omega
  by_cases hc : c < 0
  · have HQ : Hid (∃ k : Nat, k < n ∧ -(c + 1).tmod n = (k : Nat)) := by
      have e : -(c + 1).tmod n = (-(c + 1)) % n := by rw [← Int.neg_tmod, Int.tmod_eq_emod_of_nonneg (by omega)]
      have g1 := Int.emod_nonneg (-(c + 1)) hz
      have g2 := Int.emod_lt_of_pos (-(c + 1)) (show (0 : Int) < n by omega)
      exact ⟨((-(c + 1)) % n).toNat, by omega, by omega⟩
    go_enter Tryd.func25, Tryd.ntmps25
    go_wp2_with fail
    go_ret
    obtain ⟨k, h3, h4⟩ := HQ.out
    exact ⟨⟨k, h3, ret_int h4⟩, rfl⟩
  · have HQ : Hid (∃ k : Nat, k < n ∧ c % n = (k : Nat)) := by
      have g1 := Int.emod_nonneg c hz
      have g2 := Int.emod_lt_of_pos c (show (0 : Int) < n by omega)
      exact ⟨(c % n).toNat, by omega, by omega⟩
    go_enter Tryd.func25, Tryd.ntmps25
    go_wp2_with fail
    go_ret
    obtain ⟨k, h3, h4⟩ := HQ.out
    exact ⟨⟨k, h3, ret_int h4⟩, rfl⟩
theorem fac_any : ∀ (n : Nat) (w : World), n ≤ 5 → Calls Tryd.prog 26 #[.int .i64 (n : Nat)] w fun e w' => e = .returned (.int .i64 (facL n : Nat)) ∧ w = w'
  | 0, w, _ => by
    go_enter Tryd.func26, Tryd.ntmps26
    go_wp2_with fail
    go_ret
    exact ⟨rfl, rfl⟩
  | n + 1, w, h => by
    have ih := fac_any n w (by omega)
    have hb : facL n ≤ 120 := by
      match n, h with
      | 0, _ => decide
      | 1, _ => decide
      | 2, _ => decide
      | 3, _ => decide
      | 4, _ => decide
    have hne : (((n + 1 : Nat) : Int) == 0) = false := by simp; omega
    have hw : IntKind.i64.wrap (((n + 1 : Nat) : Int) - 1) = (n : Nat) := by rw [IntKind.wrap_i64]; omega
    have HF : Hid ((((n : Nat) : Int) + 1) * (facL n : Nat) = (facL (n + 1) : Nat)) := by show _ = _; rw [facL]; push_cast; rfl
    go_enter Tryd.func26, Tryd.ntmps26
    go_wp2_with (go_at_call 26; refine ih.mono ?_; rintro e w' ⟨rfl, rfl⟩)
    go_ret
    refine ⟨ret_int ?_, rfl⟩
    rw [HF.out]
    have hb2 : facL (n + 1) ≤ 120 := by
      match n, h with
      | 0, _ => decide
      | 1, _ => decide
      | 2, _ => decide
      | 3, _ => decide
      | 4, _ => decide
    unfold wrap64
    omega
theorem moves_form {o : List Nat} {x : Value} {v : World} (hO : OVal v o x) (hF : FOk o) (hc : 0 < cntL o) (hT : Tab v) : Calls Tryd.prog 19 #[x] v fun e w' => (∃ q cap, e = .returned (.tuple #[.slice q (cntL o) cap, .int .i64 0])) ∧ HB v w' := by
  have hrow : ∃ a cap, x = .agg #[.int .i64 (o.length : Nat), .slice a o.length cap] ∧ Row v a o.length (fun k => (nth o k : Nat)) := by
    rcases hO with ⟨rfl, rfl⟩ | ⟨bl, f, h1, h2, h3, rfl⟩
    · exact ⟨none, 0, rfl, fun k hk => absurd hk (Nat.not_lt_zero _)⟩
    · exact ⟨_, _, rfl, rowC_row h3⟩
  obtain ⟨a, cap, rfl, hr⟩ := hrow
  have hl := hF.1
  refine (moves_any (o.length : Nat) a o.length cap (fun k => (nth o k : Nat)) v (by unfold maxLen; omega) hr hT).mono ?_
  rintro e w' ⟨⟨c, hck, hp⟩, hb⟩
  have h0 : FCk (o.length : Nat) o.length (fun k => (nth o k : Nat)) 0 := ⟨0, hF.2.2, by rw [if_pos rfl, if_neg (by omega)]⟩
  have ec : c = 0 := hck.one h0
  rcases hp with ⟨h1, _⟩ | ⟨_, z, rfl, vs, hz, _⟩
  · exact absurd ec h1
  · obtain ⟨g, cap', rfl⟩ := owns_form hz hc
    subst ec
    exact ⟨⟨_, cap', rfl⟩, below_hb hb⟩
theorem k_r0 (tm : Array Value) (v : World) (hs : tm.size = 62) : (atc [0] (Tryd.f7.body.getD .skip)).wp Tryd.prog (fun e s w => e = .normal ∧ s.defers = [] ∧ HB v w ∧ s.tmps = tm.setIfInBounds 2 (.bool false)) ⟨tm, []⟩ v := by
  have HS : Hid (tm.size = 62) := hs
  clear hs
  simp only [Tryd.f7, Option.getD_some, atc]
  go_wp2_with fail
  exact HB.refl _
theorem k_r3 (tm : Array Value) (n : Int) (v : World) (hs : tm.size = 62) (h0 : tm[0]? = some (.int .i64 n)) (h1 : -9223372036854775808 ≤ n) (h2 : n ≤ 9223372036854775807) : (atc [1, 1, 0] (Tryd.f7.body.getD .skip)).wp Tryd.prog (fun e s w => e = .normal ∧ s.defers = [] ∧ HB v w ∧ ∃ k : Nat, k ≤ 5 ∧ s.tmps.size = 62 ∧ s.tmps[0]? = some (.int .i64 (k : Nat))) ⟨tm, []⟩ v := by
  have HS : Hid (tm.size = 62) := hs
  have s11 : 11 < tm.size := by omega
  have s12 : 12 < tm.size := by omega
  have HC := (show Hid _ from choose_any n 6 v (by decide) (by decide) h1 h2)
  clear hs
  simp only [Tryd.f7, Option.getD_some, atc]
  go_wp2_with (go_at_call 25; refine Calls.mono HC.out ?_; rintro e w' ⟨⟨k, hk, rfl⟩, rfl⟩)
  exact ⟨HB.refl _, k, by omega, HS.out, set_at (by have := HS.out; simp; omega) _⟩
theorem k_r5 (tm : Array Value) (v : World) (hs : tm.size = 62) (h4 : tm[4]? = some (.int .i64 0)) : (atc [1, 1, 1, 1, 0, 0] (Tryd.f7.body.getD .skip)).wp Tryd.prog (fun e s w => e = .normal ∧ s.defers = [] ∧ HB v w ∧ s.tmps.size = 62 ∧ s.tmps[19]? = some (.bool false) ∧ ∀ j, j < 18 → s.tmps[j]? = tm[j]?) ⟨tm, []⟩ v := by
  have HS : Hid (tm.size = 62) := hs
  have s18 : 18 < tm.size := by omega
  have s19 : 19 < tm.size := by omega
  clear hs
  simp only [Tryd.f7, Option.getD_some, atc]
  go_wp2_with fail
  refine ⟨HB.refl _, HS.out, fun j hj => ?_⟩
  repeat rw [Array.getElem?_setIfInBounds_ne (by omega)]
theorem k_r7 (tm : Array Value) (v : World) (hs : tm.size = 62) : (atc [1, 1, 1, 1, 1, 0] (Tryd.f7.body.getD .skip)).wp Tryd.prog (fun e s w => e = .normal ∧ s.defers = [] ∧ HB v w ∧ s.tmps = tm.setIfInBounds 5 (.int .i64 0)) ⟨tm, []⟩ v := by
  have HS : Hid (tm.size = 62) := hs
  clear hs
  simp only [Tryd.f7, Option.getD_some, atc]
  go_wp2_with fail
  exact HB.refl _
theorem k_r8 (tm : Array Value) (v : World) (hs : tm.size = 62) : (atc [1, 1, 1, 1, 1, 1, 0, 0] (Tryd.f7.body.getD .skip)).wp Tryd.prog (fun e s w => e = .normal ∧ s.defers = [] ∧ HB v w ∧ s.tmps = tm.setIfInBounds 6 (.int .i64 0)) ⟨tm, []⟩ v := by
  have HS : Hid (tm.size = 62) := hs
  clear hs
  simp only [Tryd.f7, Option.getD_some, atc]
  go_wp2_with fail
  exact HB.refl _
theorem k_r9 (tm : Array Value) (a : Option Addr) (i m c : Nat) (v : World) (hs : tm.size = 62) (h6 : tm[6]? = some (.int .i64 (i : Nat))) (h3 : tm[3]? = some (.slice a m c)) : (atc [1, 1, 1, 1, 1, 1, 0, 1, 2, 2, 0, 0] (Tryd.f7.body.getD .skip)).wp Tryd.prog (fun e s w => e = .normal ∧ s.defers = [] ∧ HB v w ∧ s.tmps.size = 62 ∧ s.tmps[23]? = some (.bool (decide ((i : Int) < (m : Int)))) ∧ ∀ j, j < 9 → s.tmps[j]? = tm[j]?) ⟨tm, []⟩ v := by
  have HS : Hid (tm.size = 62) := hs
  have s20 : 20 < tm.size := by omega
  have s21 : 21 < tm.size := by omega
  have s22 : 22 < tm.size := by omega
  have s23 : 23 < tm.size := by omega
  clear hs
  simp only [Tryd.f7, Option.getD_some, atc]
  go_wp2_with fail
  refine ⟨HB.refl _, HS.out, fun j hj => ?_⟩
  repeat rw [Array.getElem?_setIfInBounds_ne (by omega)]
theorem k_r10 (tm : Array Value) (i : Nat) (v : World) (hs : tm.size = 62) (h6 : tm[6]? = some (.int .i64 (i : Nat))) (hi : i < 1000) : (atc [1, 1, 1, 1, 1, 1, 0, 1, 2, 2, 1, 1] (Tryd.f7.body.getD .skip)).wp Tryd.prog (fun e s w => e = .normal ∧ s.defers = [] ∧ HB v w ∧ s.tmps.size = 62 ∧ s.tmps[6]? = some (.int .i64 ((i + 1 : Nat) : Int)) ∧ ∀ j, j < 9 → j ≠ 6 → s.tmps[j]? = tm[j]?) ⟨tm, []⟩ v := by
  have HS : Hid (tm.size = 62) := hs
  have s24 : 24 < tm.size := by omega
  have s25 : 25 < tm.size := by omega
  clear hs
  simp only [Tryd.f7, Option.getD_some, atc]
  go_wp2_with fail
  refine ⟨HB.refl _, HS.out, set_at (by have := HS.out; simp; omega) _, fun j hj h6 => ?_⟩
  repeat rw [Array.getElem?_setIfInBounds_ne (by omega)]
theorem k_r14 (tm : Array Value) (n c m : Nat) (a : Option Addr) (s0 : Nat) (v : World) (hs : tm.size = 62) (hn : n ≤ 5) (h5 : tm[5]? = some (.int .i64 (s0 : Nat))) (h0 : tm[0]? = some (.int .i64 (n : Nat))) (h7 : tm[7]? = some (.slice a m c)) (hm : 0 < m) (hb : s0 ≤ 100000) : (atc [1, 1, 1, 1, 1, 1, 0, 1, 2, 2, 1, 0, 2, 1, 1] (Tryd.f7.body.getD .skip)).wp Tryd.prog (fun e s w => e = .normal ∧ s.defers = [] ∧ HB v w ∧ s.tmps.size = 62 ∧ s.tmps[5]? = some (.int .i64 ((s0 + facL n / m : Nat) : Int)) ∧ ∀ j, j < 9 → j ≠ 5 → s.tmps[j]? = tm[j]?) ⟨tm, []⟩ v := by
  have HS : Hid (tm.size = 62) := hs
  have s49 : 49 < tm.size := by omega
  have s50 : 50 < tm.size := by omega
  have s51 : 51 < tm.size := by omega
  have s52 : 52 < tm.size := by omega
  have s53 : 53 < tm.size := by omega
  have s54 : 54 < tm.size := by omega
  have s55 : 55 < tm.size := by omega
  have HF := (show Hid _ from fac_any n v hn)
  have hf1 : facL n ≤ 120 := by
    match n, hn with
    | 0, _ => decide
    | 1, _ => decide
    | 2, _ => decide
    | 3, _ => decide
    | 4, _ => decide
    | 5, _ => decide
  have hdi : 0 ≤ ((facL n : Nat) : Int) / (m : Int) ∧ ((facL n : Nat) : Int) / (m : Int) ≤ 120 := by
    have h1 : facL n / m ≤ 120 := Nat.le_trans (Nat.div_le_self _ _) hf1
    rw [← Int.natCast_ediv]
    exact ⟨Int.natCast_nonneg _, Int.ofNat_le.2 h1⟩
  have hq : wrap64 (((facL n : Nat) : Int) / (m : Int)) = ((facL n : Nat) : Int) / (m : Int) := by
    generalize ((facL n : Nat) : Int) / (m : Int) = g at hdi ⊢
    unfold wrap64; omega
  have hq2 : wrap64 ((s0 : Int) + ((facL n : Nat) : Int) / (m : Int)) = (s0 : Int) + ((facL n : Nat) : Int) / (m : Int) := by
    generalize ((facL n : Nat) : Int) / (m : Int) = g at hdi ⊢
    unfold wrap64; omega
  clear hs
  simp only [Tryd.f7, Option.getD_some, atc]
  go_wp2_with (go_at_call 26; refine Calls.mono HF.out ?_; rintro e w' ⟨rfl, rfl⟩)
  refine ⟨HB.refl _, HS.out, set_at (by have := HS.out; simp; omega) _, fun j hj h5 => ?_⟩
  repeat rw [Array.getElem?_setIfInBounds_ne (by omega)]
theorem k_r12 (tm : Array Value) (n c m : Nat) (a : Option Addr) (v : World) (hs : tm.size = 62) (hn : n ≤ 5) (h0 : tm[0]? = some (.int .i64 (n : Nat))) (h8 : tm[8]? = some (.int .i64 0)) (h7 : tm[7]? = some (.slice a m c)) (hm : 0 < m) (hd : facL n % m = 0) : (atc [1, 1, 1, 1, 1, 1, 0, 1, 2, 2, 1, 0, 2, 1, 0, 0] (Tryd.f7.body.getD .skip)).wp Tryd.prog (fun e s w => e = .normal ∧ s.defers = [] ∧ HB v w ∧ s.tmps.size = 62 ∧ s.tmps[48]? = some (.bool false) ∧ ∀ j, j < 9 → s.tmps[j]? = tm[j]?) ⟨tm, []⟩ v := by
  have HS : Hid (tm.size = 62) := hs
  have s34 : 34 < tm.size := by omega
  have s35 : 35 < tm.size := by omega
  have s36 : 36 < tm.size := by omega
  have s37 : 37 < tm.size := by omega
  have s38 : 38 < tm.size := by omega
  have s39 : 39 < tm.size := by omega
  have s40 : 40 < tm.size := by omega
  have s41 : 41 < tm.size := by omega
  have s42 : 42 < tm.size := by omega
  have s43 : 43 < tm.size := by omega
  have s44 : 44 < tm.size := by omega
  have s45 : 45 < tm.size := by omega
  have s46 : 46 < tm.size := by omega
  have s47 : 47 < tm.size := by omega
  have s48 : 48 < tm.size := by omega
  have HF := (show Hid _ from fac_any n v hn)
  have hmz : ¬ ((m : Int) = 0) := by omega
  have hme : ((m : Int) == 0) = false := by simp; omega
  clear hs
  simp only [Tryd.f7, Option.getD_some, atc]
  go_wp2_with (go_at_call 26; refine Calls.mono HF.out ?_; rintro e w' ⟨rfl, rfl⟩)
  refine ⟨HB.refl _, HS.out, by rw [← Int.natCast_emod, hd]; rfl, fun j hj => ?_⟩
  repeat rw [Array.getElem?_setIfInBounds_ne (by omega)]
theorem k_r11 (tm : Array Value) (bf m c i : Nat) (o : List Nat) (pn : Int) (qa : Option Addr) (ql qc : Nat) (v : World) (hs : tm.size = 62) (h3 : tm[3]? = some (.slice (some ⟨bf, 0, none⟩) m c)) (h6 : tm[6]? = some (.int .i64 (i : Nat))) (hi : i < m) (hO : OVal v o (.agg #[.int .i64 pn, .slice qa ql qc])) (c0 : v.cell? ⟨bf, 2 * i, none⟩ = some (.int .i64 pn)) (c1 : v.cell? ⟨bf, 2 * i + 1, none⟩ = some (.slice qa ql qc)) (hF : FOk o) (hc : 0 < cntL o) (hT : Tab v) : (atc [1, 1, 1, 1, 1, 1, 0, 1, 2, 2, 1, 0, 2, 0] (Tryd.f7.body.getD .skip)).wp Tryd.prog (fun e s w => e = .normal ∧ s.defers = [] ∧ HB v w ∧ s.tmps.size = 62 ∧ (∃ q cap, s.tmps[7]? = some (.slice q (cntL o) cap)) ∧ s.tmps[8]? = some (.int .i64 0) ∧ ∀ j, j < 7 → s.tmps[j]? = tm[j]?) ⟨tm, []⟩ v := by
  have HS : Hid (tm.size = 62) := hs
  have s7 : 7 < tm.size := by omega
  have s8 : 8 < tm.size := by omega
  have s26 : 26 < tm.size := by omega
  have s27 : 27 < tm.size := by omega
  have s28 : 28 < tm.size := by omega
  have s29 : 29 < tm.size := by omega
  have s30 : 30 < tm.size := by omega
  have s31 : 31 < tm.size := by omega
  have s32 : 32 < tm.size := by omega
  have s33 : 33 < tm.size := by omega
  have HM := (show Hid _ from moves_form hO hF hc hT)
  have c0' : v.cell? ⟨bf, i * 2, none⟩ = some (.int .i64 pn) := by rw [Nat.mul_comm]; exact c0
  have c1' : v.cell? ⟨bf, i * 2 + 1, none⟩ = some (.slice qa ql qc) := by rw [Nat.mul_comm]; exact c1
  clear c0 c1 hO
  clear hs
  simp only [Tryd.f7, Option.getD_some, atc]
  go_wp2_with (go_at_call 19; refine Calls.mono HM.out ?_; rintro e w' ⟨⟨q, cap, rfl⟩, hb⟩)
  refine ⟨HS.out, fun j hj => ?_⟩
  repeat rw [Array.getElem?_setIfInBounds_ne (by omega)]
theorem k_r15 (tm : Array Value) (n : Nat) (s0 : Nat) (v : World) (hs : tm.size = 62) (hn : n ≤ 5) (h5 : tm[5]? = some (.int .i64 (s0 : Nat))) (h0 : tm[0]? = some (.int .i64 (n : Nat))) (hs0 : [1, 1, 3, 19, 219, 4231][n]? = some s0) : (atc [1, 1, 1, 1, 1, 1, 1, 0] (Tryd.f7.body.getD .skip)).wp Tryd.prog (fun e s w => e = .normal ∧ s.defers = [] ∧ HB v w ∧ s.tmps[2]? = some (.bool true)) ⟨tm, []⟩ v := by
  have s2 : 2 < tm.size := by omega
  have s56 : 56 < tm.size := by omega
  have s57 : 57 < tm.size := by omega
  have s58 : 58 < tm.size := by omega
  have s59 : 59 < tm.size := by omega
  have s60 : 60 < tm.size := by omega
  have s61 : 61 < tm.size := by omega
  have HB1 : Hid (∀ o, HB v (v.alloc o)) := fun o => HB.of (B := v.heap.size) ((Below.refl _ v).alloc (Nat.le_refl _) _) (Nat.le_refl _)
  clear hs
  have hcase : (n = 0 ∧ s0 = 1) ∨ (n = 1 ∧ s0 = 1) ∨ (n = 2 ∧ s0 = 3) ∨ (n = 3 ∧ s0 = 19) ∨ (n = 4 ∧ s0 = 219) ∨ (n = 5 ∧ s0 = 4231) := by
    match n, hn with
    | 0, _ => simp at hs0; omega
    | 1, _ => simp at hs0; omega
    | 2, _ => simp at hs0; omega
    | 3, _ => simp at hs0; omega
    | 4, _ => simp at hs0; omega
    | 5, _ => simp at hs0; omega
  clear hs0 hn
  simp only [Tryd.f7, Option.getD_some, atc]
  rcases hcase with ⟨rfl, rfl⟩ | ⟨rfl, rfl⟩ | ⟨rfl, rfl⟩ | ⟨rfl, rfl⟩ | ⟨rfl, rfl⟩ | ⟨rfl, rfl⟩
  all_goals (go_wp2_with fail; exact HB1.out _)
end Go.Proofs.YtfbdgdphpdhcpaaDoor
namespace Go.Proofs.YtfbdgdphpdhcpaaDoor
open Go Go.Conc Go.RowKit Sm
set_option maxRecDepth 100000

def L3 : List (List Nat) := [[0, 0, 0], [0, 0, 1], [0, 0, 3], [0, 1, 1], [0, 1, 3]]
def L4 : List (List Nat) := [[0, 0, 0, 0], [0, 0, 0, 1], [0, 0, 0, 3], [0, 0, 0, 7], [0, 0, 1, 1], [0, 0, 1, 2], [0, 0, 1, 3], [0, 0, 1, 5], [0, 0, 1, 7], [0, 0, 3, 3], [0, 0, 3, 7], [0, 1, 1, 1], [0, 1, 1, 3], [0, 1, 1, 7], [0, 1, 3, 3], [0, 1, 3, 7]]
def L5 : List (List Nat) := [[0, 0, 0, 0, 0], [0, 0, 0, 0, 1], [0, 0, 0, 0, 3], [0, 0, 0, 0, 7], [0, 0, 0, 0, 15], [0, 0, 0, 1, 1], [0, 0, 0, 1, 2], [0, 0, 0, 1, 3], [0, 0, 0, 1, 6], [0, 0, 0, 1, 7], [0, 0, 0, 1, 9], [0, 0, 0, 1, 11], [0, 0, 0, 1, 15], [0, 0, 0, 3, 3], [0, 0, 0, 3, 5], [0, 0, 0, 3, 7], [0, 0, 0, 3, 11], [0, 0, 0, 3, 15], [0, 0, 0, 7, 7], [0, 0, 0, 7, 15], [0, 0, 1, 1, 1], [0, 0, 1, 1, 2], [0, 0, 1, 1, 3], [0, 0, 1, 1, 5], [0, 0, 1, 1, 7], [0, 0, 1, 1, 13], [0, 0, 1, 1, 15], [0, 0, 1, 2, 3], [0, 0, 1, 2, 5], [0, 0, 1, 2, 7], [0, 0, 1, 2, 15], [0, 0, 1, 3, 3], [0, 0, 1, 3, 5], [0, 0, 1, 3, 7], [0, 0, 1, 3, 11], [0, 0, 1, 3, 15], [0, 0, 1, 5, 5], [0, 0, 1, 5, 7], [0, 0, 1, 5, 13], [0, 0, 1, 5, 15], [0, 0, 1, 7, 7], [0, 0, 1, 7, 15], [0, 0, 3, 3, 3], [0, 0, 3, 3, 7], [0, 0, 3, 3, 15], [0, 0, 3, 7, 7], [0, 0, 3, 7, 15], [0, 1, 1, 1, 1], [0, 1, 1, 1, 3], [0, 1, 1, 1, 7], [0, 1, 1, 1, 15], [0, 1, 1, 3, 3], [0, 1, 1, 3, 5], [0, 1, 1, 3, 7], [0, 1, 1, 3, 11], [0, 1, 1, 3, 15], [0, 1, 1, 7, 7], [0, 1, 1, 7, 15], [0, 1, 3, 3, 3], [0, 1, 3, 3, 7], [0, 1, 3, 3, 15], [0, 1, 3, 7, 7], [0, 1, 3, 7, 15]]
def M5 : List (List Nat) := [[0, 0, 0, 0, 0], [0, 0, 0, 0, 1], [0, 0, 0, 0, 1], [0, 0, 0, 0, 3], [0, 0, 0, 0, 1], [0, 0, 0, 0, 3], [0, 0, 0, 0, 3], [0, 0, 0, 0, 7], [0, 0, 0, 0, 1], [0, 0, 0, 0, 3], [0, 0, 0, 0, 3], [0, 0, 0, 0, 7], [0, 0, 0, 0, 3], [0, 0, 0, 0, 7], [0, 0, 0, 0, 7], [0, 0, 0, 0, 15], [0, 0, 0, 0, 1], [0, 0, 0, 1, 1], [0, 0, 0, 1, 2], [0, 0, 0, 1, 3], [0, 0, 0, 1, 2], [0, 0, 0, 1, 3], [0, 0, 0, 1, 6], [0, 0, 0, 1, 7], [0, 0, 0, 1, 9], [0, 0, 0, 1, 11], [0, 0, 0, 1, 11], [0, 0, 0, 1, 15], [0, 0, 0, 0, 3], [0, 0, 0, 1, 3], [0, 0, 0, 1, 3], [0, 0, 0, 3, 3], [0, 0, 0, 1, 6], [0, 0, 0, 3, 5], [0, 0, 0, 3, 5], [0, 0, 0, 3, 7], [0, 0, 0, 3, 11], [0, 0, 0, 3, 15], [0, 0, 0, 0, 7], [0, 0, 0, 1, 7], [0, 0, 0, 1, 7], [0, 0, 0, 3, 7], [0, 0, 0, 1, 7], [0, 0, 0, 3, 7], [0, 0, 0, 3, 7], [0, 0, 0, 7, 7], [0, 0, 0, 7, 15], [0, 0, 0, 1, 1], [0, 0, 1, 1, 1], [0, 0, 1, 1, 2], [0, 0, 1, 1, 3], [0, 0, 1, 1, 5], [0, 0, 1, 1, 7], [0, 0, 1, 1, 5], [0, 0, 1, 1, 7], [0, 0, 1, 1, 13], [0, 0, 1, 1, 15], [0, 0, 0, 1, 2], [0, 0, 1, 1, 2], [0, 0, 1, 1, 2], [0, 0, 1, 2, 3], [0, 0, 1, 2, 5], [0, 0, 1, 2, 7], [0, 0, 1, 2, 5], [0, 0, 1, 2, 7], [0, 0, 1, 2, 15], [0, 0, 0, 1, 3], [0, 0, 1, 1, 3], [0, 0, 1, 2, 3], [0, 0, 1, 3, 3], [0, 0, 1, 3, 5], [0, 0, 1, 3, 7], [0, 0, 1, 3, 11], [0, 0, 1, 3, 15], [0, 0, 0, 1, 9], [0, 0, 1, 1, 5], [0, 0, 1, 2, 5], [0, 0, 1, 3, 5], [0, 0, 1, 5, 5], [0, 0, 1, 5, 7], [0, 0, 1, 5, 13], [0, 0, 1, 5, 15], [0, 0, 0, 1, 11], [0, 0, 1, 1, 7], [0, 0, 1, 2, 7], [0, 0, 1, 3, 7], [0, 0, 1, 5, 7], [0, 0, 1, 7, 7], [0, 0, 1, 7, 15], [0, 0, 0, 3, 3], [0, 0, 1, 3, 3], [0, 0, 1, 3, 3], [0, 0, 3, 3, 3], [0, 0, 3, 3, 7], [0, 0, 3, 3, 7], [0, 0, 3, 3, 15], [0, 0, 0, 3, 11], [0, 0, 1, 3, 11], [0, 0, 1, 3, 11], [0, 0, 3, 3, 7], [0, 0, 3, 7, 7], [0, 0, 3, 7, 15], [0, 0, 1, 1, 1], [0, 1, 1, 1, 1], [0, 1, 1, 1, 3], [0, 1, 1, 1, 3], [0, 1, 1, 1, 7], [0, 1, 1, 1, 3], [0, 1, 1, 1, 7], [0, 1, 1, 1, 7], [0, 1, 1, 1, 15], [0, 0, 1, 1, 5], [0, 1, 1, 1, 3], [0, 1, 1, 3, 3], [0, 1, 1, 3, 5], [0, 1, 1, 3, 7], [0, 1, 1, 3, 11], [0, 1, 1, 3, 15], [0, 0, 1, 1, 13], [0, 1, 1, 1, 7], [0, 1, 1, 3, 7], [0, 1, 1, 3, 7], [0, 1, 1, 7, 7], [0, 1, 1, 7, 15], [0, 0, 1, 5, 5], [0, 1, 1, 3, 3], [0, 1, 3, 3, 3], [0, 1, 3, 3, 7], [0, 1, 3, 3, 7], [0, 1, 3, 3, 15], [0, 0, 1, 5, 13], [0, 1, 1, 3, 11], [0, 1, 3, 3, 7], [0, 1, 3, 7, 7], [0, 1, 3, 7, 15]]
theorem l3_is : lvl 3 = L3 := by decide +kernel
theorem l4_is : compL (srtL 4 (L3.flatMap outsL)) = L4 := by decide +kernel
theorem stp3 : stpB 4 L3 = true := by decide +kernel
theorem o4_0 : outsL [0, 0, 0, 0] = [[0, 0, 0, 0, 0], [0, 0, 0, 0, 1], [0, 0, 0, 0, 1], [0, 0, 0, 0, 3], [0, 0, 0, 0, 1], [0, 0, 0, 0, 3], [0, 0, 0, 0, 3], [0, 0, 0, 0, 7], [0, 0, 0, 0, 1], [0, 0, 0, 0, 3], [0, 0, 0, 0, 3], [0, 0, 0, 0, 7], [0, 0, 0, 0, 3], [0, 0, 0, 0, 7], [0, 0, 0, 0, 7], [0, 0, 0, 0, 15]] := by decide +kernel
theorem o4_1 : outsL [0, 0, 0, 1] = [[0, 0, 0, 0, 1], [0, 0, 0, 1, 1], [0, 0, 0, 1, 2], [0, 0, 0, 1, 3], [0, 0, 0, 1, 2], [0, 0, 0, 1, 3], [0, 0, 0, 1, 6], [0, 0, 0, 1, 7], [0, 0, 0, 1, 9], [0, 0, 0, 1, 11], [0, 0, 0, 1, 11], [0, 0, 0, 1, 15]] := by decide +kernel
theorem o4_2 : outsL [0, 0, 0, 3] = [[0, 0, 0, 0, 3], [0, 0, 0, 1, 3], [0, 0, 0, 1, 3], [0, 0, 0, 3, 3], [0, 0, 0, 1, 6], [0, 0, 0, 3, 5], [0, 0, 0, 3, 5], [0, 0, 0, 3, 7], [0, 0, 0, 3, 11], [0, 0, 0, 3, 15]] := by decide +kernel
theorem o4_3 : outsL [0, 0, 0, 7] = [[0, 0, 0, 0, 7], [0, 0, 0, 1, 7], [0, 0, 0, 1, 7], [0, 0, 0, 3, 7], [0, 0, 0, 1, 7], [0, 0, 0, 3, 7], [0, 0, 0, 3, 7], [0, 0, 0, 7, 7], [0, 0, 0, 7, 15]] := by decide +kernel
theorem o4_4 : outsL [0, 0, 1, 1] = [[0, 0, 0, 1, 1], [0, 0, 1, 1, 1], [0, 0, 1, 1, 2], [0, 0, 1, 1, 3], [0, 0, 1, 1, 5], [0, 0, 1, 1, 7], [0, 0, 1, 1, 5], [0, 0, 1, 1, 7], [0, 0, 1, 1, 13], [0, 0, 1, 1, 15]] := by decide +kernel
theorem o4_5 : outsL [0, 0, 1, 2] = [[0, 0, 0, 1, 2], [0, 0, 1, 1, 2], [0, 0, 1, 1, 2], [0, 0, 1, 2, 3], [0, 0, 1, 2, 5], [0, 0, 1, 2, 7], [0, 0, 1, 2, 5], [0, 0, 1, 2, 7], [0, 0, 1, 2, 15]] := by decide +kernel
theorem o4_6 : outsL [0, 0, 1, 3] = [[0, 0, 0, 1, 3], [0, 0, 1, 1, 3], [0, 0, 1, 2, 3], [0, 0, 1, 3, 3], [0, 0, 1, 3, 5], [0, 0, 1, 3, 7], [0, 0, 1, 3, 11], [0, 0, 1, 3, 15]] := by decide +kernel
theorem o4_7 : outsL [0, 0, 1, 5] = [[0, 0, 0, 1, 9], [0, 0, 1, 1, 5], [0, 0, 1, 2, 5], [0, 0, 1, 3, 5], [0, 0, 1, 5, 5], [0, 0, 1, 5, 7], [0, 0, 1, 5, 13], [0, 0, 1, 5, 15]] := by decide +kernel
theorem o4_8 : outsL [0, 0, 1, 7] = [[0, 0, 0, 1, 11], [0, 0, 1, 1, 7], [0, 0, 1, 2, 7], [0, 0, 1, 3, 7], [0, 0, 1, 5, 7], [0, 0, 1, 7, 7], [0, 0, 1, 7, 15]] := by decide +kernel
theorem o4_9 : outsL [0, 0, 3, 3] = [[0, 0, 0, 3, 3], [0, 0, 1, 3, 3], [0, 0, 1, 3, 3], [0, 0, 3, 3, 3], [0, 0, 3, 3, 7], [0, 0, 3, 3, 7], [0, 0, 3, 3, 15]] := by decide +kernel
theorem o4_10 : outsL [0, 0, 3, 7] = [[0, 0, 0, 3, 11], [0, 0, 1, 3, 11], [0, 0, 1, 3, 11], [0, 0, 3, 3, 7], [0, 0, 3, 7, 7], [0, 0, 3, 7, 15]] := by decide +kernel
theorem o4_11 : outsL [0, 1, 1, 1] = [[0, 0, 1, 1, 1], [0, 1, 1, 1, 1], [0, 1, 1, 1, 3], [0, 1, 1, 1, 3], [0, 1, 1, 1, 7], [0, 1, 1, 1, 3], [0, 1, 1, 1, 7], [0, 1, 1, 1, 7], [0, 1, 1, 1, 15]] := by decide +kernel
theorem o4_12 : outsL [0, 1, 1, 3] = [[0, 0, 1, 1, 5], [0, 1, 1, 1, 3], [0, 1, 1, 3, 3], [0, 1, 1, 3, 5], [0, 1, 1, 3, 7], [0, 1, 1, 3, 11], [0, 1, 1, 3, 15]] := by decide +kernel
theorem o4_13 : outsL [0, 1, 1, 7] = [[0, 0, 1, 1, 13], [0, 1, 1, 1, 7], [0, 1, 1, 3, 7], [0, 1, 1, 3, 7], [0, 1, 1, 7, 7], [0, 1, 1, 7, 15]] := by decide +kernel
theorem o4_14 : outsL [0, 1, 3, 3] = [[0, 0, 1, 5, 5], [0, 1, 1, 3, 3], [0, 1, 3, 3, 3], [0, 1, 3, 3, 7], [0, 1, 3, 3, 7], [0, 1, 3, 3, 15]] := by decide +kernel
theorem o4_15 : outsL [0, 1, 3, 7] = [[0, 0, 1, 5, 13], [0, 1, 1, 3, 11], [0, 1, 3, 3, 7], [0, 1, 3, 7, 7], [0, 1, 3, 7, 15]] := by decide +kernel
theorem m5_is : L4.flatMap outsL = M5 := by
  simp only [L4, List.flatMap_cons, List.flatMap_nil, o4_0, o4_1, o4_2, o4_3, o4_4, o4_5, o4_6, o4_7, o4_8, o4_9, o4_10, o4_11, o4_12, o4_13, o4_14, o4_15]
  rfl
theorem l5_is : compL (srtL 5 M5) = L5 := by decide +kernel
theorem insL_mem {N : Nat} {x z : List Nat} {l : List (List Nat)} (h : z ∈ insL N x l) : z = x ∨ z ∈ l := List.mem_cons.1 ((insL_perm N x l).mem_iff.1 h)
theorem insL_srt (N : Nat) (x : List Nat) : ∀ l : List (List Nat), l.Pairwise (fun a b => ¬ cmpF (nth b) (nth a) N 0 < 0) → (insL N x l).Pairwise (fun a b => ¬ cmpF (nth b) (nth a) N 0 < 0)
  | [], _ => by simp [insL]
  | y :: l, h => by
    obtain ⟨h1, h2⟩ := List.pairwise_cons.1 h
    unfold insL
    split
    · rename_i hlt
      refine List.pairwise_cons.2 ⟨fun z hz q => ?_, h⟩
      rcases List.mem_cons.1 hz with rfl | hz
      · exact cmp_irr _ _ (cmp_trans hlt q)
      · exact h1 z hz (cmp_trans q hlt)
    · rename_i hlt
      refine List.pairwise_cons.2 ⟨fun z hz => ?_, insL_srt N x l h2⟩
      rcases insL_mem hz with rfl | hz
      · exact hlt
      · exact h1 z hz
theorem srtL_srt (N : Nat) : ∀ l : List (List Nat), (srtL N l).Pairwise (fun a b => ¬ cmpF (nth b) (nth a) N 0 < 0)
  | [] => .nil
  | x :: l => insL_srt N x _ (srtL_srt N l)
theorem srtL_is (N : Nat) (l : List (List Nat)) : Srt N (srtL N l) := fun j k a b hjk ha hb => by
  obtain ⟨hj, rfl⟩ := List.getElem?_eq_some_iff.1 ha
  obtain ⟨hk, rfl⟩ := List.getElem?_eq_some_iff.1 hb
  exact List.pairwise_iff_getElem.1 (srtL_srt N l) j k hj hk hjk
theorem l4_fok : L4.all fokB = true := by decide +kernel
theorem m5_len : M5.all (fun y => y.length == 5) = true := by decide +kernel
theorem stp4 : Stp 5 L4 L5 := by
  have hl : (srtL 5 M5).length = M5.length := (srtL_perm 5 M5).length_eq
  have hm : M5.length = 135 := by decide +kernel
  refine ⟨srtL 5 M5, l5_is.symm, fun o ho => fok_of (List.all_eq_true.1 l4_fok o ho), by decide, by decide, by decide, fun y hy => ?_, by omega, by omega, by rw [m5_is]; exact srtL_perm 5 M5, srtL_is 5 M5⟩
  have := List.all_eq_true.1 m5_len y ((srtL_perm 5 M5).mem_iff.1 hy)
  simpa using this
/-- The forms of so many points. -/
def lvq : Nat → List (List Nat)
  | 0 => [[]]
  | 1 => lvl 1
  | 2 => lvl 2
  | 3 => L3
  | 4 => L4
  | _ => L5
theorem lvq_stp : ∀ i, i < 5 → Stp (i + 1) (lvq i) (lvq (i + 1)) := by
  intro i hi
  match i, hi with
  | 0, _ => exact lvl_three 0 (by decide)
  | 1, _ => exact lvl_three 1 (by decide)
  | 2, _ => show Stp 3 (lvl 2) L3; exact l3_is ▸ lvl_three 2 (by decide)
  | 3, _ => show Stp 4 L3 L4; exact l4_is ▸ stp_of stp3
  | 4, _ => exact stp4
def sumL (n : Nat) (l : List (List Nat)) : Nat := (l.map fun o => facL n / cntL o).foldr (· + ·) 0
def cntB (n : Nat) : Bool := (lvq n).all fun o => fokB o && (decide (o.length = n) && (decide (0 < cntL o) && decide (facL n % cntL o = 0)))
theorem glob2 : Tryd.prog.globals.size = 2 := by kernel_rfl
end Go.Proofs.YtfbdgdphpdhcpaaDoor
