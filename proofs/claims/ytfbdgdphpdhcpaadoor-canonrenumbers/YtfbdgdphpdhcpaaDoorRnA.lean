/-
  CanonRenumbers' pieces, alone. Conditions: as told.
-/
import Derived.Test.YtfbdgdphpdhcpaaDoorGqF
import Derived.Test.YtfbdgdphpdhcpaaDoorRnN
import Derived.Test.YtfbdgdphpdhcpaaDoorRnP
import Derived.Test.YtfbdgdphpdhcpaaDoorCbI
import Derived.Deep.RegionHeld3
namespace Go.Proofs.YtfbdgdphpdhcpaaDoor
open Go Go.Conc Go.RowKit Sm
set_option maxRecDepth 100000

abbrev GR : FuncId := 8
def IsR (C : Code) : Prop := C = Tryd.f8.body.getD .skip
abbrev yC (C : Code) : Code := thenT (atc [1, 1, 1, 1, 1, 0] C)
abbrev ybody (C : Code) : Code := .seq (.seq (atc [1, 1, 0, 1, 2, 2, 0, 0] (yC C)) (.cond (.tmp 52) .skip (.exit 0))) (.seq (.block 1 (atc [1, 1, 0, 1, 2, 2, 1, 0, 2] (yC C))) (atc [1, 1, 0, 1, 2, 2, 1, 1] (yC C)))
theorem gr_shape {C : Code} (hC : IsR C) : C = .seq (atc [0] C) (.seq (.seq (atc [1, 0, 0] C) (.cond (.tmp 18) (thenT (atc [1, 0] C)) .skip)) (.seq (atc [1, 1, 0] C) (.seq (.seq (atc [1, 1, 1, 0, 0] C) (.cond (.tmp 26) (.seq (atc [0] (thenT (atc [1, 1, 1, 0] C))) .ret) .skip)) (.seq (.seq (atc [1, 1, 1, 1, 0, 0] C) (.cond (.tmp 39) (thenT (atc [1, 1, 1, 1, 0] C)) .skip)) (.seq (.seq (atc [1, 1, 1, 1, 1, 0, 0] C) (.cond (.tmp 42) (.seq (atc [0] (yC C)) (.seq (atc [1, 0] (yC C)) (.seq (.seq (atc [1, 1, 0, 0] (yC C)) (.block 0 (.loop (ybody C)))) (.seq (atc [1, 1, 1, 0] (yC C)) (.cond (.tmp 69) (thenT (atc [1, 1, 1] (yC C))) .skip))))) .skip)) (.seq (.seq (atc [1, 1, 1, 1, 1, 1, 0, 0] C) (.cond (.tmp 74) (.seq (atc [0] (thenT (atc [1, 1, 1, 1, 1, 1, 0] C))) .ret) .skip)) (.seq (atc [1, 1, 1, 1, 1, 1, 1, 0] C) (.seq (atc [1, 1, 1, 1, 1, 1, 1, 1, 0] C) (.seq (atc [1, 1, 1, 1, 1, 1, 1, 1, 1, 0] C) (.seq (atc [1, 1, 1, 1, 1, 1, 1, 1, 1, 1, 0] C) .ret)))))))))) := by
  rw [hC]
  kernel_rfl
abbrev grl : List (List Nat) := [[0], [1, 1, 0], [1, 1, 1, 0, 0], [1, 1, 1, 1, 0, 0], [1, 1, 1, 1, 1, 0, 0], [1, 1, 1, 1, 1, 1, 0, 0], [1, 1, 1, 1, 1, 1, 1, 0], [1, 1, 1, 1, 1, 1, 1, 1, 0], [1, 1, 1, 1, 1, 1, 1, 1, 1, 0], [1, 1, 1, 1, 1, 1, 1, 1, 1, 1, 0]]
theorem gr_item : (grl.all fun l => itemB Tryd.prog afs cgs (.code (atc l (Tryd.f8.body.getD .skip)))) = true := by kernel_rfl
theorem gr_ok {C : Code} (hC : IsR C) {l : List Nat} (h : l ∈ grl) : itemB Tryd.prog afs cgs (.code (atc l C)) = true := by
  rw [hC]
  exact List.all_eq_true.1 gr_item l h
abbrev gyl : List (List Nat) := [[1, 0], [1, 1, 0, 0], [1, 1, 0, 1, 2, 2, 0, 0], [1, 1, 0, 1, 2, 2, 1, 0, 2], [1, 1, 0, 1, 2, 2, 1, 1], [1, 1, 1, 0]]
theorem gy_item : (gyl.all fun l => itemB Tryd.prog afs cgs (.code (atc l (yC (Tryd.f8.body.getD .skip))))) = true := by kernel_rfl
theorem gy_ok {C : Code} (hC : IsR C) {l : List Nat} (h : l ∈ gyl) : itemB Tryd.prog afs cgs (.code (atc l (yC C))) = true := by
  rw [hC]
  exact List.all_eq_true.1 gy_item l h
theorem gr5_ok {C : Code} (hC : IsR C) : itemB Tryd.prog afs cgs (.code (atc [0] (thenT (atc [1, 1, 1, 0] C)))) = true ∧ itemB Tryd.prog afs cgs (.code (atc [0] (thenT (atc [1, 1, 1, 1, 1, 1, 0] C)))) = true := by
  rw [hC]
  exact ⟨by kernel_rfl, by kernel_rfl⟩
theorem gr_in : ∃ f, Tryd.prog.funcs[GR]? = some f := ⟨_, Tryd.func8⟩
theorem gr1_shape {C : Code} (hC : IsR C) : atc [1, 0, 0] C = .region 1 (opsOf (atc [1, 0, 0] C)) false := by
  rw [hC]
  kernel_rfl
theorem gr1_ops {C : Code} (hC : IsR C) : (((opsOf (atc [1, 0, 0] C)).map fun o => (o.dst, o.op, o.guard)).toList.take 1) = [(some 17, .call { callee := .value (.func GB), args := #[], argTypes := #[] }, none)] ∧ (opsOf (atc [1, 0, 0] C)).size = 2 ∧ itemB Tryd.prog afs cgs (.inRegion (opsOf (atc [1, 0, 0] C)) (List.range' 1 1)) = true := by
  rw [hC]
  exact ⟨by kernel_rfl, by kernel_rfl, by kernel_rfl⟩
theorem gr9_shape {C : Code} (hC : IsR C) : atc [0] (yC C) = .region 9 (opsOf (atc [0] (yC C))) false := by
  rw [hC]
  kernel_rfl
theorem gr9_ops {C : Code} (hC : IsR C) : (((opsOf (atc [0] (yC C))).map fun o => (o.dst, o.op, o.guard)).toList.take 3) = [(some 44, .fieldAddr 24 (.tmp 2) 0, none), (some 45, .load 3 (.tmp 44), none), (some 46, .call { callee := .value (.func GA), args := #[.tmp 45], argTypes := #[3] }, none)] ∧ (opsOf (atc [0] (yC C))).size = 8 ∧ itemB Tryd.prog afs cgs (.inRegion (opsOf (atc [0] (yC C))) (List.range' 3 5)) = true := by
  rw [hC]
  exact ⟨by kernel_rfl, by kernel_rfl, by kernel_rfl⟩
theorem lst_ste {l : List Value} {n : Nat} (h : l.length = n + 1) : ∃ x t, l = x :: t ∧ t.length = n := by
  cases l with
  | nil => simp at h
  | cons x t => exact ⟨x, t, rfl, by simpa using h⟩
theorem split104 (tm : Array Value) (h : tm.size = 104) : ∃ u0 u1 u2 u3 u4 u5 u6 u7 u8 u9 u10 u11 u12 u13 u14 u15 u16 u17 u18 u19 u20 u21 u22 u23 u24 u25 u26 u27 u28 u29 u30 u31 u32 u33 u34 u35 u36 u37 u38 u39 u40 u41 u42 u43 u44 u45 u46 u47 u48 u49 u50 u51 u52 u53 u54 u55 u56 u57 u58 u59 u60 u61 u62 u63 u64 u65 u66 u67 u68 u69 u70 u71 u72 u73 u74 u75 u76 u77 u78 u79 u80 u81 u82 u83 u84 u85 u86 u87 u88 u89 u90 u91 u92 u93 u94 u95 u96 u97 u98 u99 u100 u101 u102 u103 : Value, tm = (u0 :: u1 :: u2 :: u3 :: u4 :: u5 :: u6 :: u7 :: u8 :: u9 :: u10 :: u11 :: u12 :: u13 :: u14 :: u15 :: u16 :: u17 :: u18 :: u19 :: u20 :: u21 :: u22 :: u23 :: u24 :: u25 :: u26 :: u27 :: u28 :: u29 :: u30 :: u31 :: u32 :: u33 :: u34 :: u35 :: u36 :: u37 :: u38 :: u39 :: u40 :: u41 :: u42 :: u43 :: u44 :: u45 :: u46 :: u47 :: u48 :: u49 :: u50 :: u51 :: u52 :: u53 :: u54 :: u55 :: u56 :: u57 :: u58 :: u59 :: u60 :: u61 :: u62 :: u63 :: u64 :: u65 :: u66 :: u67 :: u68 :: u69 :: u70 :: u71 :: u72 :: u73 :: u74 :: u75 :: u76 :: u77 :: u78 :: u79 :: u80 :: u81 :: u82 :: u83 :: u84 :: u85 :: u86 :: u87 :: u88 :: u89 :: u90 :: u91 :: u92 :: u93 :: u94 :: u95 :: u96 :: u97 :: u98 :: u99 :: u100 :: u101 :: u102 :: u103 :: []).toArray := by
  obtain ⟨l⟩ := tm
  have h0 : l.length = 104 := h
  obtain ⟨u0, l0, q0, h1⟩ := lst_ste h0
  subst q0
  obtain ⟨u1, l1, q1, h2⟩ := lst_ste h1
  subst q1
  obtain ⟨u2, l2, q2, h3⟩ := lst_ste h2
  subst q2
  obtain ⟨u3, l3, q3, h4⟩ := lst_ste h3
  subst q3
  obtain ⟨u4, l4, q4, h5⟩ := lst_ste h4
  subst q4
  obtain ⟨u5, l5, q5, h6⟩ := lst_ste h5
  subst q5
  obtain ⟨u6, l6, q6, h7⟩ := lst_ste h6
  subst q6
  obtain ⟨u7, l7, q7, h8⟩ := lst_ste h7
  subst q7
  obtain ⟨u8, l8, q8, h9⟩ := lst_ste h8
  subst q8
  obtain ⟨u9, l9, q9, h10⟩ := lst_ste h9
  subst q9
  obtain ⟨u10, l10, q10, h11⟩ := lst_ste h10
  subst q10
  obtain ⟨u11, l11, q11, h12⟩ := lst_ste h11
  subst q11
  obtain ⟨u12, l12, q12, h13⟩ := lst_ste h12
  subst q12
  obtain ⟨u13, l13, q13, h14⟩ := lst_ste h13
  subst q13
  obtain ⟨u14, l14, q14, h15⟩ := lst_ste h14
  subst q14
  obtain ⟨u15, l15, q15, h16⟩ := lst_ste h15
  subst q15
  obtain ⟨u16, l16, q16, h17⟩ := lst_ste h16
  subst q16
  obtain ⟨u17, l17, q17, h18⟩ := lst_ste h17
  subst q17
  obtain ⟨u18, l18, q18, h19⟩ := lst_ste h18
  subst q18
  obtain ⟨u19, l19, q19, h20⟩ := lst_ste h19
  subst q19
  obtain ⟨u20, l20, q20, h21⟩ := lst_ste h20
  subst q20
  obtain ⟨u21, l21, q21, h22⟩ := lst_ste h21
  subst q21
  obtain ⟨u22, l22, q22, h23⟩ := lst_ste h22
  subst q22
  obtain ⟨u23, l23, q23, h24⟩ := lst_ste h23
  subst q23
  obtain ⟨u24, l24, q24, h25⟩ := lst_ste h24
  subst q24
  obtain ⟨u25, l25, q25, h26⟩ := lst_ste h25
  subst q25
  obtain ⟨u26, l26, q26, h27⟩ := lst_ste h26
  subst q26
  obtain ⟨u27, l27, q27, h28⟩ := lst_ste h27
  subst q27
  obtain ⟨u28, l28, q28, h29⟩ := lst_ste h28
  subst q28
  obtain ⟨u29, l29, q29, h30⟩ := lst_ste h29
  subst q29
  obtain ⟨u30, l30, q30, h31⟩ := lst_ste h30
  subst q30
  obtain ⟨u31, l31, q31, h32⟩ := lst_ste h31
  subst q31
  obtain ⟨u32, l32, q32, h33⟩ := lst_ste h32
  subst q32
  obtain ⟨u33, l33, q33, h34⟩ := lst_ste h33
  subst q33
  obtain ⟨u34, l34, q34, h35⟩ := lst_ste h34
  subst q34
  obtain ⟨u35, l35, q35, h36⟩ := lst_ste h35
  subst q35
  obtain ⟨u36, l36, q36, h37⟩ := lst_ste h36
  subst q36
  obtain ⟨u37, l37, q37, h38⟩ := lst_ste h37
  subst q37
  obtain ⟨u38, l38, q38, h39⟩ := lst_ste h38
  subst q38
  obtain ⟨u39, l39, q39, h40⟩ := lst_ste h39
  subst q39
  obtain ⟨u40, l40, q40, h41⟩ := lst_ste h40
  subst q40
  obtain ⟨u41, l41, q41, h42⟩ := lst_ste h41
  subst q41
  obtain ⟨u42, l42, q42, h43⟩ := lst_ste h42
  subst q42
  obtain ⟨u43, l43, q43, h44⟩ := lst_ste h43
  subst q43
  obtain ⟨u44, l44, q44, h45⟩ := lst_ste h44
  subst q44
  obtain ⟨u45, l45, q45, h46⟩ := lst_ste h45
  subst q45
  obtain ⟨u46, l46, q46, h47⟩ := lst_ste h46
  subst q46
  obtain ⟨u47, l47, q47, h48⟩ := lst_ste h47
  subst q47
  obtain ⟨u48, l48, q48, h49⟩ := lst_ste h48
  subst q48
  obtain ⟨u49, l49, q49, h50⟩ := lst_ste h49
  subst q49
  obtain ⟨u50, l50, q50, h51⟩ := lst_ste h50
  subst q50
  obtain ⟨u51, l51, q51, h52⟩ := lst_ste h51
  subst q51
  obtain ⟨u52, l52, q52, h53⟩ := lst_ste h52
  subst q52
  obtain ⟨u53, l53, q53, h54⟩ := lst_ste h53
  subst q53
  obtain ⟨u54, l54, q54, h55⟩ := lst_ste h54
  subst q54
  obtain ⟨u55, l55, q55, h56⟩ := lst_ste h55
  subst q55
  obtain ⟨u56, l56, q56, h57⟩ := lst_ste h56
  subst q56
  obtain ⟨u57, l57, q57, h58⟩ := lst_ste h57
  subst q57
  obtain ⟨u58, l58, q58, h59⟩ := lst_ste h58
  subst q58
  obtain ⟨u59, l59, q59, h60⟩ := lst_ste h59
  subst q59
  obtain ⟨u60, l60, q60, h61⟩ := lst_ste h60
  subst q60
  obtain ⟨u61, l61, q61, h62⟩ := lst_ste h61
  subst q61
  obtain ⟨u62, l62, q62, h63⟩ := lst_ste h62
  subst q62
  obtain ⟨u63, l63, q63, h64⟩ := lst_ste h63
  subst q63
  obtain ⟨u64, l64, q64, h65⟩ := lst_ste h64
  subst q64
  obtain ⟨u65, l65, q65, h66⟩ := lst_ste h65
  subst q65
  obtain ⟨u66, l66, q66, h67⟩ := lst_ste h66
  subst q66
  obtain ⟨u67, l67, q67, h68⟩ := lst_ste h67
  subst q67
  obtain ⟨u68, l68, q68, h69⟩ := lst_ste h68
  subst q68
  obtain ⟨u69, l69, q69, h70⟩ := lst_ste h69
  subst q69
  obtain ⟨u70, l70, q70, h71⟩ := lst_ste h70
  subst q70
  obtain ⟨u71, l71, q71, h72⟩ := lst_ste h71
  subst q71
  obtain ⟨u72, l72, q72, h73⟩ := lst_ste h72
  subst q72
  obtain ⟨u73, l73, q73, h74⟩ := lst_ste h73
  subst q73
  obtain ⟨u74, l74, q74, h75⟩ := lst_ste h74
  subst q74
  obtain ⟨u75, l75, q75, h76⟩ := lst_ste h75
  subst q75
  obtain ⟨u76, l76, q76, h77⟩ := lst_ste h76
  subst q76
  obtain ⟨u77, l77, q77, h78⟩ := lst_ste h77
  subst q77
  obtain ⟨u78, l78, q78, h79⟩ := lst_ste h78
  subst q78
  obtain ⟨u79, l79, q79, h80⟩ := lst_ste h79
  subst q79
  obtain ⟨u80, l80, q80, h81⟩ := lst_ste h80
  subst q80
  obtain ⟨u81, l81, q81, h82⟩ := lst_ste h81
  subst q81
  obtain ⟨u82, l82, q82, h83⟩ := lst_ste h82
  subst q82
  obtain ⟨u83, l83, q83, h84⟩ := lst_ste h83
  subst q83
  obtain ⟨u84, l84, q84, h85⟩ := lst_ste h84
  subst q84
  obtain ⟨u85, l85, q85, h86⟩ := lst_ste h85
  subst q85
  obtain ⟨u86, l86, q86, h87⟩ := lst_ste h86
  subst q86
  obtain ⟨u87, l87, q87, h88⟩ := lst_ste h87
  subst q87
  obtain ⟨u88, l88, q88, h89⟩ := lst_ste h88
  subst q88
  obtain ⟨u89, l89, q89, h90⟩ := lst_ste h89
  subst q89
  obtain ⟨u90, l90, q90, h91⟩ := lst_ste h90
  subst q90
  obtain ⟨u91, l91, q91, h92⟩ := lst_ste h91
  subst q91
  obtain ⟨u92, l92, q92, h93⟩ := lst_ste h92
  subst q92
  obtain ⟨u93, l93, q93, h94⟩ := lst_ste h93
  subst q93
  obtain ⟨u94, l94, q94, h95⟩ := lst_ste h94
  subst q94
  obtain ⟨u95, l95, q95, h96⟩ := lst_ste h95
  subst q95
  obtain ⟨u96, l96, q96, h97⟩ := lst_ste h96
  subst q96
  obtain ⟨u97, l97, q97, h98⟩ := lst_ste h97
  subst q97
  obtain ⟨u98, l98, q98, h99⟩ := lst_ste h98
  subst q98
  obtain ⟨u99, l99, q99, h100⟩ := lst_ste h99
  subst q99
  obtain ⟨u100, l100, q100, h101⟩ := lst_ste h100
  subst q100
  obtain ⟨u101, l101, q101, h102⟩ := lst_ste h101
  subst q101
  obtain ⟨u102, l102, q102, h103⟩ := lst_ste h102
  subst q102
  obtain ⟨u103, l103, q103, h104⟩ := lst_ste h103
  subst q103
  obtain rfl := List.length_eq_zero_iff.1 h104
  exact ⟨u0, u1, u2, u3, u4, u5, u6, u7, u8, u9, u10, u11, u12, u13, u14, u15, u16, u17, u18, u19, u20, u21, u22, u23, u24, u25, u26, u27, u28, u29, u30, u31, u32, u33, u34, u35, u36, u37, u38, u39, u40, u41, u42, u43, u44, u45, u46, u47, u48, u49, u50, u51, u52, u53, u54, u55, u56, u57, u58, u59, u60, u61, u62, u63, u64, u65, u66, u67, u68, u69, u70, u71, u72, u73, u74, u75, u76, u77, u78, u79, u80, u81, u82, u83, u84, u85, u86, u87, u88, u89, u90, u91, u92, u93, u94, u95, u96, u97, u98, u99, u100, u101, u102, u103, rfl⟩
theorem n_r0 (tm : Array Value) (v : World) (hs : tm.size = 104) (n : Int) (a : Option Addr) (len cap : Nat) (h0 : tm[0]? = some (.agg #[.int .i64 n, .slice a len cap])) : (atc [0] (Tryd.f8.body.getD .skip)).wp Tryd.prog (fun e s w => e = .normal ∧ s.defers = [] ∧ HB v w ∧ s.tmps.size = 104 ∧ (∃ B, s.tmps[2]? = some (.pointer (some ⟨B, 0, none⟩)) ∧ w.cell? ⟨B, 0, none⟩ = some (.int .i64 n) ∧ w.cell? ⟨B, 1, none⟩ = some (.slice a len cap)) ∧ s.tmps[1]? = tm[1]?) ⟨tm, []⟩ v := by
  have HS : Hid (tm.size = 104) := hs
  have s2 : 2 < tm.size := by omega
  have s4 : 4 < tm.size := by omega
  clear hs
  simp only [Tryd.f8, Option.getD_some, atc]
  go_wp2_with fail
  exact ⟨hb_alloc _ _, HS.out⟩
theorem n_t1 (tm : Array Value) (v : World) (hs : tm.size = 104) (h17 : tm[17]? = some (.bool true)) : wpList Tryd.prog (opsOf (atc [1, 0, 0] (Tryd.f8.body.getD .skip))) (fun e s w => e = .normal ∧ s.defers = [] ∧ HB v w ∧ s.tmps = tm.setIfInBounds 18 (.bool false)) ((opsOf (atc [1, 0, 0] (Tryd.f8.body.getD .skip))).toList.drop 1) ⟨tm, []⟩ v := by
  have HS : Hid (tm.size = 104) := hs
  have s18 : 18 < tm.size := by omega
  clear hs
  simp only [Tryd.f8, Option.getD_some, atc, opsOf, List.drop_succ_cons, List.drop_zero]
  go_wp2_with fail
  exact HB.refl _
theorem n_r3 (tm : Array Value) (v : World) (hs : tm.size = 104) (n : Int) (a : Option Addr) (len cap : Nat) (f : Nat → Int) (B : Nat) (hl : len ≤ maxLen) (hr : Row v a len f) (h2 : tm[2]? = some (.pointer (some ⟨B, 0, none⟩))) (b0 : v.cell? ⟨B, 0, none⟩ = some (.int .i64 n)) (b1 : v.cell? ⟨B, 1, none⟩ = some (.slice a len cap)) (hT : Tab v) : (atc [1, 1, 0] (Tryd.f8.body.getD .skip)).wp Tryd.prog (fun e s w => e = .normal ∧ s.defers = [] ∧ HB v w ∧ s.tmps.size = 104 ∧ (∃ c q B x0 x1, s.tmps[7]? = some (.int .i64 c) ∧ s.tmps[6]? = some q ∧ s.tmps[5]? = some (.pointer (some ⟨B, 0, none⟩)) ∧ w.cell? ⟨B, 0, none⟩ = some x0 ∧ w.cell? ⟨B, 1, none⟩ = some x1 ∧ FCk n len f c ∧ R1 c len f w x0 x1 q) ∧ ∀ j, j < 5 → s.tmps[j]? = tm[j]?) ⟨tm, []⟩ v := by
  have HS : Hid (tm.size = 104) := hs
  have s5 : 5 < tm.size := by omega
  have s6 : 6 < tm.size := by omega
  have s7 : 7 < tm.size := by omega
  have s19 : 19 < tm.size := by omega
  have s20 : 20 < tm.size := by omega
  have s21 : 21 < tm.size := by omega
  have s22 : 22 < tm.size := by omega
  have s23 : 23 < tm.size := by omega
  have s24 : 24 < tm.size := by omega
  clear hs
  simp only [Tryd.f8, Option.getD_some, atc]
  have HM := (show Hid _ from form2_any n a len cap f v hl hr hT)
  clear hr hT
  go_wp2_with fail
  refine Calls.mono HM.out ?_
  rintro e w1 ⟨⟨c, hc, h⟩, hb⟩
  have HC : Hid (FCk n len f c) := hc
  have HB1 : Hid (Below v.heap.size v w1) := hb
  rcases h with ⟨h0, rfl⟩ | ⟨rfl, y, bl, bv, hy, rfl, hO, _, hbl, hbv⟩
  · have HR : Hid (∀ w, R1 c len f w (.int .i64 0) (.slice none 0 0) (.slice none 0 0)) := fun w => .inl ⟨h0, rfl, rfl, _, _, rfl⟩
    clear hc hb HM h0
    unfold noOrder
    go_wp2_with fail
    refine ⟨(below_hb HB1.out).trans (hb_alloc _ _), HS.out, ⟨HC.out, HR.out _⟩, fun j hj => ?_⟩
    repeat rw [Array.getElem?_setIfInBounds_ne (by omega)]
  · have hlen := hc.good.2.1
    obtain ⟨lq, cq, rfl, hrq⟩ := owns_nats hbv
    have HR : Hid (R1 0 len f w1 (.int .i64 (len : Nat)) (.slice (some ⟨bl, 0, none⟩) len len) (.slice lq y.length cq)) := .inr ⟨rfl, hlen, y, _, _, _, _, hy, rfl, rfl, hO.row, rfl, hrq⟩
    clear hc hb HM hO hbl hbv hrq hy
    go_wp2_with fail
    refine ⟨(below_hb HB1.out).trans (hb_alloc _ _), HS.out, ⟨HC.out, HR.out.hb (hb_alloc _ _)⟩, fun j hj => ?_⟩
    repeat rw [Array.getElem?_setIfInBounds_ne (by omega)]
theorem n_r4 (tm : Array Value) (v : World) (hs : tm.size = 104) (c : Int) (h7 : tm[7]? = some (.int .i64 c)) : (atc [1, 1, 1, 0, 0] (Tryd.f8.body.getD .skip)).wp Tryd.prog (fun e s w => e = .normal ∧ s.defers = [] ∧ HB v w ∧ s.tmps.size = 104 ∧ s.tmps[26]? = some (.bool (c != 0)) ∧ ∀ j, j < 17 → s.tmps[j]? = tm[j]?) ⟨tm, []⟩ v := by
  have HS : Hid (tm.size = 104) := hs
  have s25 : 25 < tm.size := by omega
  have s26 : 26 < tm.size := by omega
  clear hs
  simp only [Tryd.f8, Option.getD_some, atc]
  go_wp2_with fail
  refine ⟨HB.refl _, HS.out, fun j hj => ?_⟩
  repeat rw [Array.getElem?_setIfInBounds_ne (by omega)]
theorem n_r5 (tm : Array Value) (v : World) (hs : tm.size = 104)  : (atc [0] (thenT (atc [1, 1, 1, 0] (Tryd.f8.body.getD .skip)))).wp Tryd.prog (fun e s w => e = .normal ∧ s.defers = [] ∧ HB v w ∧ s.tmps[4]? = some (.bool true)) ⟨tm, []⟩ v := by
  have HS : Hid (tm.size = 104) := hs
  have s4 : 4 < tm.size := by omega
  clear hs
  simp only [Tryd.f8, Option.getD_some, atc, thenT]
  go_wp2_with fail
  exact HB.refl _
theorem n_r18 (tm : Array Value) (v : World) (hs : tm.size = 104)  : (atc [0] (thenT (atc [1, 1, 1, 1, 1, 1, 0] (Tryd.f8.body.getD .skip)))).wp Tryd.prog (fun e s w => e = .normal ∧ s.defers = [] ∧ HB v w ∧ s.tmps[4]? = some (.bool true)) ⟨tm, []⟩ v := by
  have HS : Hid (tm.size = 104) := hs
  have s4 : 4 < tm.size := by omega
  clear hs
  simp only [Tryd.f8, Option.getD_some, atc, thenT]
  go_wp2_with fail
  exact HB.refl _
set_option maxHeartbeats 4000000 in
theorem n_r6 (u0 u1 u3 u4 u7 u8 u9 u10 u11 u12 u13 u14 u15 u16 u17 u18 u19 u20 u21 u22 u23 u24 u25 u26 u27 u28 u29 u30 u31 u32 u33 u34 u35 u36 u37 u38 u39 u40 u41 u42 u43 u44 u45 u46 u47 u48 u49 u50 u51 u52 u53 u54 u55 u56 u57 u58 u59 u60 u61 u62 u63 u64 u65 u66 u67 u68 u69 u70 u71 u72 u73 u74 u75 u76 u77 u78 u79 u80 u81 u82 u83 u84 u85 u86 u87 u88 u89 u90 u91 u92 u93 u94 u95 u96 u97 u98 u99 u100 u101 u102 u103 : Value) (v : World) (B2 B5 n cap bc cq : Nat) (a bl lq : Option Addr) (g : Nat → Nat) (x : List Nat) (hn : n ≤ 6) (hg : ∀ k, k < n → g k < 1024) (px : IsP n x) (b20 : v.cell? ⟨B2, 0, none⟩ = some (.int .i64 (n : Nat))) (b21 : v.cell? ⟨B2, 1, none⟩ = some (.slice a n cap)) (b50 : v.cell? ⟨B5, 0, none⟩ = some (.int .i64 (n : Nat))) (b51 : v.cell? ⟨B5, 1, none⟩ = some (.slice bl n bc)) (hr : Row v a n (fun k => (g k : Nat))) (hrb : Row v bl n (fun k => (prt g x k : Nat))) (hrq : Row v lq n (fun k => (nth x k : Nat))) : (atc [1, 1, 1, 1, 0, 0] (Tryd.f8.body.getD .skip)).wp Tryd.prog (fun e s w => e = .normal ∧ s.defers = [] ∧ HB v w ∧ s.tmps.size = 104 ∧ s.tmps[39]? = some (.bool false) ∧ ∀ j, j < 17 → s.tmps[j]? = (u0 :: u1 :: .pointer (some ⟨B2, 0, none⟩) :: u3 :: u4 :: .pointer (some ⟨B5, 0, none⟩) :: .slice lq n cq :: u7 :: u8 :: u9 :: u10 :: u11 :: u12 :: u13 :: u14 :: u15 :: u16 :: u17 :: u18 :: u19 :: u20 :: u21 :: u22 :: u23 :: u24 :: u25 :: u26 :: u27 :: u28 :: u29 :: u30 :: u31 :: u32 :: u33 :: u34 :: u35 :: u36 :: u37 :: u38 :: u39 :: u40 :: u41 :: u42 :: u43 :: u44 :: u45 :: u46 :: u47 :: u48 :: u49 :: u50 :: u51 :: u52 :: u53 :: u54 :: u55 :: u56 :: u57 :: u58 :: u59 :: u60 :: u61 :: u62 :: u63 :: u64 :: u65 :: u66 :: u67 :: u68 :: u69 :: u70 :: u71 :: u72 :: u73 :: u74 :: u75 :: u76 :: u77 :: u78 :: u79 :: u80 :: u81 :: u82 :: u83 :: u84 :: u85 :: u86 :: u87 :: u88 :: u89 :: u90 :: u91 :: u92 :: u93 :: u94 :: u95 :: u96 :: u97 :: u98 :: u99 :: u100 :: u101 :: u102 :: u103 :: []).toArray[j]?) ⟨(u0 :: u1 :: .pointer (some ⟨B2, 0, none⟩) :: u3 :: u4 :: .pointer (some ⟨B5, 0, none⟩) :: .slice lq n cq :: u7 :: u8 :: u9 :: u10 :: u11 :: u12 :: u13 :: u14 :: u15 :: u16 :: u17 :: u18 :: u19 :: u20 :: u21 :: u22 :: u23 :: u24 :: u25 :: u26 :: u27 :: u28 :: u29 :: u30 :: u31 :: u32 :: u33 :: u34 :: u35 :: u36 :: u37 :: u38 :: u39 :: u40 :: u41 :: u42 :: u43 :: u44 :: u45 :: u46 :: u47 :: u48 :: u49 :: u50 :: u51 :: u52 :: u53 :: u54 :: u55 :: u56 :: u57 :: u58 :: u59 :: u60 :: u61 :: u62 :: u63 :: u64 :: u65 :: u66 :: u67 :: u68 :: u69 :: u70 :: u71 :: u72 :: u73 :: u74 :: u75 :: u76 :: u77 :: u78 :: u79 :: u80 :: u81 :: u82 :: u83 :: u84 :: u85 :: u86 :: u87 :: u88 :: u89 :: u90 :: u91 :: u92 :: u93 :: u94 :: u95 :: u96 :: u97 :: u98 :: u99 :: u100 :: u101 :: u102 :: u103 :: []).toArray, []⟩ v := by
  simp only [Tryd.f8, Option.getD_some, atc]
  have hmx : n ≤ maxLen := by unfold maxLen; omega
  have KK : v.drew.cell? ⟨B2, 0, none⟩ = some (.int .i64 (n : Nat)) ∧ v.drew.cell? ⟨B2, 1, none⟩ = some (.slice a n cap) ∧ v.drew.cell? ⟨B5, 0, none⟩ = some (.int .i64 (n : Nat)) ∧ v.drew.cell? ⟨B5, 1, none⟩ = some (.slice bl n bc) ∧ Below v.heap.size v v.drew := ⟨b20, b21, b50, b51, (Below.refl _ _).drew⟩
  have HIP : Hid (∀ w', Below v.heap.size v w' → Calls Tryd.prog 27 #[.int .i64 (n : Nat), .slice lq n cq] w' fun e w2 => e = .returned (.bool true) ∧ w' = w2) := fun w' hb => by
    refine (isP_any lq n cq n _ w' hmx (by omega) (hrq.below hb)).mono ?_
    rintro e w2 ⟨⟨b, rfl, hb1⟩, rfl⟩
    rw [hb1.2 ⟨rfl, fun p hp => perm_to hn px p hp⟩]
    exact ⟨rfl, rfl⟩
  have HRN : Hid (∀ w', Below v.heap.size v w' → Calls Tryd.prog 28 #[.agg #[.int .i64 (n : Nat), .slice a n cap], .slice lq n cq] w' fun e w2 => OrderPost w' n (prt g x) e w2 ∧ Below w'.heap.size w' w2) := fun w' hb => rnR_any n a cap g lq cq x w' (by omega) hg px.1 px.2.1 (hr.below hb) (hrq.below hb)
  have HRB : Hid (∀ w', Below v.heap.size v w' → Row w' bl n (fun k => (prt g x k : Nat))) := fun w' hb => hrb.below hb
  clear hr hrb hrq b20 b21 b50 b51 px hg
  refine wp_region_held_drew (S := fun w' => w'.cell? ⟨B2, 0, none⟩ = some (.int .i64 (n : Nat)) ∧ w'.cell? ⟨B2, 1, none⟩ = some (.slice a n cap) ∧ w'.cell? ⟨B5, 0, none⟩ = some (.int .i64 (n : Nat)) ∧ w'.cell? ⟨B5, 1, none⟩ = some (.slice bl n bc) ∧ Below v.heap.size v w') (by kernel_rfl) (KK) (fun hHeld => ?_)
  refine wpAnyH_take (i := 0) (oi := { dst := some 27, op := Go.Op.fieldAddr 24 (Go.Operand.tmp 2) 0, type := 0, pos := "embed.go:514", after := #[], guard := none }) (v := ?_) rfl (by kernel_rfl) (by kernel_rfl) (by kernel_rfl) (by intro _ _ _ h; cases h.1) (Or.inl ⟨by rfl, ?hy⟩) (by assumption) ?_
  case hy => (intro w9 hSw; (try dsimp only at hSw); go_simp; try with_reducible rfl)
  try simp only [Act.put, List.setIfInBounds_toArray, List.set_cons_zero, List.set_cons_succ]
  refine wpAnyH_take (i := 1) (oi := { dst := some 28, op := Go.Op.load 3 (Go.Operand.tmp 27), type := 3, pos := "embed.go:514", after := #[{ on := 0, ground := Go.Ground.data }], guard := none }) (v := ?_) rfl (by kernel_rfl) (by kernel_rfl) (by kernel_rfl) (by intro _ _ _ h; cases h.1) (Or.inl ⟨by rfl, ?hy⟩) (by assumption) ?_
  case hy => (intro w9 hSw; (try dsimp only at hSw); go_simp; try with_reducible rfl)
  try simp only [Act.put, List.setIfInBounds_toArray, List.set_cons_zero, List.set_cons_succ]
  refine wpAnyH_take (i := 2) (oi := { dst := some 29, op := Go.Op.move (Go.Operand.tmp 6), type := 22, pos := "embed.go:514", after := #[], guard := none }) (v := ?_) rfl (by kernel_rfl) (by kernel_rfl) (by kernel_rfl) (by intro _ _ _ h; cases h.1) (Or.inl ⟨by rfl, ?hy⟩) (by assumption) ?_
  case hy => (intro w9 hSw; (try dsimp only at hSw); go_simp; try with_reducible rfl)
  try simp only [Act.put, List.setIfInBounds_toArray, List.set_cons_zero, List.set_cons_succ]
  refine wpAnyH_ready (rs := [3]) (by kernel_rfl) (by simp) ?_
  refine AllReadyH.cons (o := { dst := some 30, op := Go.Op.call { callee := Go.Callee.value (Go.Operand.func 27), args := #[Go.Operand.tmp 28, Go.Operand.tmp 29], argTypes := #[3, 22] }, type := 4, pos := "embed.go:514", after := #[{ on := 1, ground := Go.Ground.data }, { on := 2, ground := Go.Ground.data }], guard := none }) rfl (fun K hK => ?_) AllReadyH.nil
  go_simp
  go_at_call 27
  refine (HIP.out _ (p4_below hHeld)).mono ?_
  rintro e w2 ⟨rfl, rfl⟩
  refine hK.out _ _ ?_ (fun hHeld => ?_)
  · exact hHeld
  clear hK K
  try simp only [Act.put, List.setIfInBounds_toArray, List.set_cons_zero, List.set_cons_succ]
  refine wpAnyH_take (i := 4) (oi := { dst := some 31, op := Go.Op.unOp Go.UnOp.not 4 (Go.Operand.tmp 30), type := 4, pos := "embed.go:514", after := #[{ on := 3, ground := Go.Ground.data }], guard := none }) (v := ?_) rfl (by kernel_rfl) (by kernel_rfl) (by kernel_rfl) (by intro _ _ _ h; cases h.1) (Or.inl ⟨by rfl, ?hy⟩) (by assumption) ?_
  case hy => (intro w9 hSw; (try dsimp only at hSw); go_simp; try with_reducible rfl)
  try simp only [Act.put, List.setIfInBounds_toArray, List.set_cons_zero, List.set_cons_succ]
  refine wpAnyH_take (i := 5) (oi := { dst := some 32, op := Go.Op.move (Go.Operand.tmp 31), type := 4, pos := "embed.go:514", after := #[{ on := 4, ground := Go.Ground.data }, { on := 3, ground := Go.Ground.chain }], guard := none }) (v := ?_) rfl (by kernel_rfl) (by kernel_rfl) (by kernel_rfl) (by intro _ _ _ h; cases h.1) (Or.inl ⟨by rfl, ?hy⟩) (by assumption) ?_
  case hy => (intro w9 hSw; (try dsimp only at hSw); go_simp; try with_reducible rfl)
  try simp only [Act.put, List.setIfInBounds_toArray, List.set_cons_zero, List.set_cons_succ]
  refine wpAnyH_take (i := 6) (oi := { dst := some 33, op := Go.Op.load 24 (Go.Operand.tmp 2), type := 24, pos := "embed.go:514", after := #[{ on := 5, ground := Go.Ground.guard }], guard := some (5, false) }) (v := ?_) rfl (by kernel_rfl) (by kernel_rfl) (by kernel_rfl) (by intro _ _ _ h; cases h.1) (Or.inl ⟨by rfl, ?hy⟩) (by assumption) ?_
  case hy => (intro w9 hSw; (try dsimp only at hSw); go_simp; try with_reducible rfl)
  try simp only [Act.put, List.setIfInBounds_toArray, List.set_cons_zero, List.set_cons_succ]
  refine wpAnyH_take (i := 7) (oi := { dst := some 34, op := Go.Op.move (Go.Operand.tmp 6), type := 22, pos := "embed.go:514", after := #[{ on := 5, ground := Go.Ground.guard }], guard := some (5, false) }) (v := ?_) rfl (by kernel_rfl) (by kernel_rfl) (by kernel_rfl) (by intro _ _ _ h; cases h.1) (Or.inl ⟨by rfl, ?hy⟩) (by assumption) ?_
  case hy => (intro w9 hSw; (try dsimp only at hSw); go_simp; try with_reducible rfl)
  try simp only [Act.put, List.setIfInBounds_toArray, List.set_cons_zero, List.set_cons_succ]
  refine wpAnyH_take (i := 9) (oi := { dst := some 36, op := Go.Op.load 24 (Go.Operand.tmp 5), type := 24, pos := "embed.go:514", after := #[{ on := 5, ground := Go.Ground.guard }], guard := some (5, false) }) (v := ?_) rfl (by kernel_rfl) (by kernel_rfl) (by kernel_rfl) (by intro _ _ _ h; cases h.1) (Or.inl ⟨by rfl, ?hy⟩) (by assumption) ?_
  case hy => (intro w9 hSw; (try dsimp only at hSw); go_simp; try with_reducible rfl)
  try simp only [Act.put, List.setIfInBounds_toArray, List.set_cons_zero, List.set_cons_succ]
  refine wpAnyH_ready (rs := [8]) (by kernel_rfl) (by simp) ?_
  refine AllReadyH.cons (o := { dst := some 35, op := Go.Op.call { callee := Go.Callee.value (Go.Operand.func 28), args := #[Go.Operand.tmp 33, Go.Operand.tmp 34], argTypes := #[24, 22] }, type := 24, pos := "embed.go:514", after := #[{ on := 6, ground := Go.Ground.data }, { on := 7, ground := Go.Ground.data }, { on := 5, ground := Go.Ground.chain }, { on := 5, ground := Go.Ground.guard }], guard := some (5, false) }) rfl (fun K hK => ?_) AllReadyH.nil
  go_simp
  go_at_call 28
  refine (HRN.out _ (p4_below hHeld)).mono ?_
  rintro e w3 ⟨⟨ar, cr, rfl, hrow, _⟩, hb3⟩
  refine hK.out _ _ ?_ (fun hHeld => ?_)
  · exact p4_step hHeld hb3
  clear hK K
  try simp only [Act.put, List.setIfInBounds_toArray, List.set_cons_zero, List.set_cons_succ]
  refine wpAnyH_ready (rs := [10]) (by kernel_rfl) (by simp) ?_
  refine AllReadyH.cons (o := { dst := some 37, op := Go.Op.call { callee := Go.Callee.value (Go.Operand.func 17), args := #[Go.Operand.tmp 35, Go.Operand.tmp 36], argTypes := #[24, 24] }, type := 4, pos := "embed.go:514", after := #[{ on := 8, ground := Go.Ground.data }, { on := 9, ground := Go.Ground.data }, { on := 8, ground := Go.Ground.chain }, { on := 5, ground := Go.Ground.guard }], guard := some (5, false) }) rfl (fun K hK => ?_) AllReadyH.nil
  go_simp
  go_at_call 17
  refine (sameOrder_any (n : Nat) (n : Nat) ar bl n cr n bc _ _ _ hmx hmx hrow (HRB.out _ (p4_below hHeld))).mono ?_
  rintro e w4 ⟨⟨vb, rfl, hvb⟩, hb4⟩
  obtain rfl : vb = true := hvb.2 ⟨rfl, rfl, fun _ _ => rfl⟩
  refine hK.out _ _ ?_ (fun hHeld => ?_)
  · exact p4_step hHeld hb4
  clear hK K
  try simp only [Act.put, List.setIfInBounds_toArray, List.set_cons_zero, List.set_cons_succ]
  refine wpAnyH_take (i := 11) (oi := { dst := some 38, op := Go.Op.unOp Go.UnOp.not 4 (Go.Operand.tmp 37), type := 4, pos := "embed.go:514", after := #[{ on := 10, ground := Go.Ground.data }, { on := 5, ground := Go.Ground.guard }], guard := some (5, false) }) (v := ?_) rfl (by kernel_rfl) (by kernel_rfl) (by kernel_rfl) (by intro _ _ _ h; cases h.1) (Or.inl ⟨by rfl, ?hy⟩) (by assumption) ?_
  case hy => (intro w9 hSw; (try dsimp only at hSw); go_simp; try with_reducible rfl)
  try simp only [Act.put, List.setIfInBounds_toArray, List.set_cons_zero, List.set_cons_succ]
  refine wpAnyH_take (i := 12) (oi := { dst := some 39, op := Go.Op.pick (Go.Operand.tmp 32) (Go.Operand.const (Go.Value.bool true)) (Go.Operand.tmp 38), type := 4, pos := "embed.go:514", after := #[{ on := 5, ground := Go.Ground.data }, { on := 11, ground := Go.Ground.data }], guard := none }) (v := ?_) rfl (by kernel_rfl) (by kernel_rfl) (by kernel_rfl) (by intro _ _ _ h; cases h.1) (Or.inl ⟨by rfl, ?hy⟩) (by assumption) ?_
  case hy => (intro w9 hSw; (try dsimp only at hSw); go_simp; try with_reducible rfl)
  try simp only [Act.put, List.setIfInBounds_toArray, List.set_cons_zero, List.set_cons_succ]
  refine wpAnyH_done (by kernel_rfl) ?_ _
  refine ⟨(by first | rfl | trivial), (by first | rfl | trivial), below_hb (p4_below hHeld), (by first | rfl | trivial), (by first | rfl | trivial), fun j hj => ?_⟩
  match j, hj with
  | 0, _ => rfl
  | 1, _ => rfl
  | 2, _ => rfl
  | 3, _ => rfl
  | 4, _ => rfl
  | 5, _ => rfl
  | 6, _ => rfl
  | 7, _ => rfl
  | 8, _ => rfl
  | 9, _ => rfl
  | 10, _ => rfl
  | 11, _ => rfl
  | 12, _ => rfl
  | 13, _ => rfl
  | 14, _ => rfl
  | 15, _ => rfl
  | 16, _ => rfl
  | j + 17, h => exact absurd h (by omega)
theorem n_r8 (tm : Array Value) (v : World) (hs : tm.size = 104) (n B : Nat) (h2 : tm[2]? = some (.pointer (some ⟨B, 0, none⟩))) (b0 : v.cell? ⟨B, 0, none⟩ = some (.int .i64 (n : Nat))) : (atc [1, 1, 1, 1, 1, 0, 0] (Tryd.f8.body.getD .skip)).wp Tryd.prog (fun e s w => e = .normal ∧ s.defers = [] ∧ HB v w ∧ s.tmps.size = 104 ∧ s.tmps[42]? = some (.bool (decide ((n : Int) ≤ 5))) ∧ ∀ j, j < 17 → s.tmps[j]? = tm[j]?) ⟨tm, []⟩ v := by
  have HS : Hid (tm.size = 104) := hs
  have s40 : 40 < tm.size := by omega
  have s41 : 41 < tm.size := by omega
  have s42 : 42 < tm.size := by omega
  clear hs
  simp only [Tryd.f8, Option.getD_some, atc]
  go_wp2_with fail
  refine ⟨HB.refl _, HS.out, fun j hj => ?_⟩
  repeat rw [Array.getElem?_setIfInBounds_ne (by omega)]
theorem n_t9 (tm : Array Value) (v : World) (hs : tm.size = 104) (z : Value) (h46 : tm[46]? = some (.tuple #[z, .int .i64 0])) : wpList Tryd.prog (opsOf (atc [0] (thenT (atc [1, 1, 1, 1, 1, 0] (Tryd.f8.body.getD .skip))))) (fun e s w => e = .normal ∧ s.defers = [] ∧ HB v w ∧ s.tmps.size = 104 ∧ s.tmps[8]? = some z ∧ s.tmps[9]? = some (.int .i64 0) ∧ ∀ j, j < 8 → s.tmps[j]? = tm[j]?) ((opsOf (atc [0] (thenT (atc [1, 1, 1, 1, 1, 0] (Tryd.f8.body.getD .skip))))).toList.drop 3) ⟨tm, []⟩ v := by
  have HS : Hid (tm.size = 104) := hs
  have s8 : 8 < tm.size := by omega
  have s9 : 9 < tm.size := by omega
  have s43 : 43 < tm.size := by omega
  have s47 : 47 < tm.size := by omega
  have s48 : 48 < tm.size := by omega
  clear hs
  simp only [Tryd.f8, Option.getD_some, atc, thenT, opsOf, List.drop_succ_cons, List.drop_zero]
  go_wp2_with fail
  refine ⟨HB.refl _, HS.out, fun j hj => ?_⟩
  repeat rw [Array.getElem?_setIfInBounds_ne (by omega)]
theorem n_r10 (tm : Array Value) (v : World) (hs : tm.size = 104)  : (atc [1, 0] (thenT (atc [1, 1, 1, 1, 1, 0] (Tryd.f8.body.getD .skip)))).wp Tryd.prog (fun e s w => e = .normal ∧ s.defers = [] ∧ HB v w ∧ s.tmps = tm.setIfInBounds 10 (.bool false)) ⟨tm, []⟩ v := by
  have HS : Hid (tm.size = 104) := hs
  have s10 : 10 < tm.size := by omega
  clear hs
  simp only [Tryd.f8, Option.getD_some, atc, thenT]
  go_wp2_with fail
  exact HB.refl _
theorem n_r11 (tm : Array Value) (v : World) (hs : tm.size = 104)  : (atc [1, 1, 0, 0] (thenT (atc [1, 1, 1, 1, 1, 0] (Tryd.f8.body.getD .skip)))).wp Tryd.prog (fun e s w => e = .normal ∧ s.defers = [] ∧ HB v w ∧ s.tmps = tm.setIfInBounds 11 (.int .i64 0)) ⟨tm, []⟩ v := by
  have HS : Hid (tm.size = 104) := hs
  have s11 : 11 < tm.size := by omega
  clear hs
  simp only [Tryd.f8, Option.getD_some, atc, thenT]
  go_wp2_with fail
  exact HB.refl _
theorem n_r12 (tm : Array Value) (v : World) (hs : tm.size = 104) (a : Option Addr) (i m c : Nat) (h11 : tm[11]? = some (.int .i64 (i : Nat))) (h8 : tm[8]? = some (.slice a m c)) : (atc [1, 1, 0, 1, 2, 2, 0, 0] (thenT (atc [1, 1, 1, 1, 1, 0] (Tryd.f8.body.getD .skip)))).wp Tryd.prog (fun e s w => e = .normal ∧ s.defers = [] ∧ HB v w ∧ s.tmps.size = 104 ∧ s.tmps[52]? = some (.bool (decide ((i : Int) < (m : Int)))) ∧ ∀ j, j < 17 → s.tmps[j]? = tm[j]?) ⟨tm, []⟩ v := by
  have HS : Hid (tm.size = 104) := hs
  have s49 : 49 < tm.size := by omega
  have s50 : 50 < tm.size := by omega
  have s51 : 51 < tm.size := by omega
  have s52 : 52 < tm.size := by omega
  clear hs
  simp only [Tryd.f8, Option.getD_some, atc, thenT]
  go_wp2_with fail
  refine ⟨HB.refl _, HS.out, fun j hj => ?_⟩
  repeat rw [Array.getElem?_setIfInBounds_ne (by omega)]
theorem n_r13 (tm : Array Value) (v : World) (hs : tm.size = 104) (i : Nat) (h11 : tm[11]? = some (.int .i64 (i : Nat))) (hi : i < 1000) : (atc [1, 1, 0, 1, 2, 2, 1, 1] (thenT (atc [1, 1, 1, 1, 1, 0] (Tryd.f8.body.getD .skip)))).wp Tryd.prog (fun e s w => e = .normal ∧ s.defers = [] ∧ HB v w ∧ s.tmps.size = 104 ∧ s.tmps[11]? = some (.int .i64 ((i + 1 : Nat) : Int)) ∧ ∀ j, j < 17 → j ≠ 11 → s.tmps[j]? = tm[j]?) ⟨tm, []⟩ v := by
  have HS : Hid (tm.size = 104) := hs
  have s53 : 53 < tm.size := by omega
  have s54 : 54 < tm.size := by omega
  clear hs
  simp only [Tryd.f8, Option.getD_some, atc, thenT]
  go_wp2_with fail
  refine ⟨HB.refl _, HS.out, set_at (by have := HS.out; simp; omega) _, fun j hj h11 => ?_⟩
  repeat rw [Array.getElem?_setIfInBounds_ne (by omega)]
set_option maxHeartbeats 4000000 in
theorem n_r14a (u0 u1 u2 u3 u4 u6 u7 u9 u12 u13 u14 u15 u16 u17 u18 u19 u20 u21 u22 u23 u24 u25 u26 u27 u28 u29 u30 u31 u32 u33 u34 u35 u36 u37 u38 u39 u40 u41 u42 u43 u44 u45 u46 u47 u48 u49 u50 u51 u52 u53 u54 u55 u56 u57 u58 u59 u60 u61 u62 u63 u64 u65 u66 u67 u68 u69 u70 u71 u72 u73 u74 u75 u76 u77 u78 u79 u80 u81 u82 u83 u84 u85 u86 u87 u88 u89 u90 u91 u92 u93 u94 u95 u96 u97 u98 u99 u100 u101 u102 u103 : Value) (v : World) (B5 bf m c i : Nat) : (atc [1, 1, 0, 1, 2, 2, 1, 0, 2] (thenT (atc [1, 1, 1, 1, 1, 0] (Tryd.f8.body.getD .skip)))).wp Tryd.prog (fun e s w => e = .normal ∧ s.defers = [] ∧ HB v w ∧ s.tmps.size = 104 ∧ s.tmps[10]? = some (.bool true) ∧ ∀ j, j < 17 → j ≠ 10 → s.tmps[j]? = (u0 :: u1 :: u2 :: u3 :: u4 :: .pointer (some ⟨B5, 0, none⟩) :: u6 :: u7 :: .slice (some ⟨bf, 0, none⟩) m c :: u9 :: .bool true :: .int .i64 (i : Nat) :: u12 :: u13 :: u14 :: u15 :: u16 :: u17 :: u18 :: u19 :: u20 :: u21 :: u22 :: u23 :: u24 :: u25 :: u26 :: u27 :: u28 :: u29 :: u30 :: u31 :: u32 :: u33 :: u34 :: u35 :: u36 :: u37 :: u38 :: u39 :: u40 :: u41 :: u42 :: u43 :: u44 :: u45 :: u46 :: u47 :: u48 :: u49 :: u50 :: u51 :: u52 :: u53 :: u54 :: u55 :: u56 :: u57 :: u58 :: u59 :: u60 :: u61 :: u62 :: u63 :: u64 :: u65 :: u66 :: u67 :: u68 :: u69 :: u70 :: u71 :: u72 :: u73 :: u74 :: u75 :: u76 :: u77 :: u78 :: u79 :: u80 :: u81 :: u82 :: u83 :: u84 :: u85 :: u86 :: u87 :: u88 :: u89 :: u90 :: u91 :: u92 :: u93 :: u94 :: u95 :: u96 :: u97 :: u98 :: u99 :: u100 :: u101 :: u102 :: u103 :: []).toArray[j]?) ⟨(u0 :: u1 :: u2 :: u3 :: u4 :: .pointer (some ⟨B5, 0, none⟩) :: u6 :: u7 :: .slice (some ⟨bf, 0, none⟩) m c :: u9 :: .bool true :: .int .i64 (i : Nat) :: u12 :: u13 :: u14 :: u15 :: u16 :: u17 :: u18 :: u19 :: u20 :: u21 :: u22 :: u23 :: u24 :: u25 :: u26 :: u27 :: u28 :: u29 :: u30 :: u31 :: u32 :: u33 :: u34 :: u35 :: u36 :: u37 :: u38 :: u39 :: u40 :: u41 :: u42 :: u43 :: u44 :: u45 :: u46 :: u47 :: u48 :: u49 :: u50 :: u51 :: u52 :: u53 :: u54 :: u55 :: u56 :: u57 :: u58 :: u59 :: u60 :: u61 :: u62 :: u63 :: u64 :: u65 :: u66 :: u67 :: u68 :: u69 :: u70 :: u71 :: u72 :: u73 :: u74 :: u75 :: u76 :: u77 :: u78 :: u79 :: u80 :: u81 :: u82 :: u83 :: u84 :: u85 :: u86 :: u87 :: u88 :: u89 :: u90 :: u91 :: u92 :: u93 :: u94 :: u95 :: u96 :: u97 :: u98 :: u99 :: u100 :: u101 :: u102 :: u103 :: []).toArray, []⟩ v := by
  simp only [Tryd.f8, Option.getD_some, atc, thenT]
  refine wp_region_held_drew (S := fun w' => Below v.heap.size v w') (by kernel_rfl) ((Below.refl _ _).drew) (fun hHeld => ?_)
  refine wpAnyH_take (i := 0) (oi := { dst := some 55, op := Go.Op.move (Go.Operand.tmp 10), type := 4, pos := "embed.go:521", after := #[], guard := none }) (v := ?_) rfl (by kernel_rfl) (by kernel_rfl) (by kernel_rfl) (by intro _ _ _ h; cases h.1) (Or.inl ⟨by rfl, ?hy⟩) (by assumption) ?_
  case hy => (intro w9 hSw; (try dsimp only at hSw); go_simp; try with_reducible rfl)
  try simp only [Act.put, List.setIfInBounds_toArray, List.set_cons_zero, List.set_cons_succ]
  refine wpAnyH_take (i := 1) (oi := { dst := some 56, op := Go.Op.move (Go.Operand.tmp 55), type := 4, pos := "embed.go:521", after := #[{ on := 0, ground := Go.Ground.data }], guard := none }) (v := ?_) rfl (by kernel_rfl) (by kernel_rfl) (by kernel_rfl) (by intro _ _ _ h; cases h.1) (Or.inl ⟨by rfl, ?hy⟩) (by assumption) ?_
  case hy => (intro w9 hSw; (try dsimp only at hSw); go_simp; try with_reducible rfl)
  try simp only [Act.put, List.setIfInBounds_toArray, List.set_cons_zero, List.set_cons_succ]
  refine wpAnyH_take (i := 2) (oi := { dst := some 57, op := Go.Op.move (Go.Operand.tmp 8), type := 45, pos := "embed.go:521", after := #[{ on := 1, ground := Go.Ground.guard }], guard := some (1, false) }) (v := undef) rfl (by kernel_rfl) (by kernel_rfl) (by kernel_rfl) (by intro _ _ _ h; cases h.1) (Or.inr ⟨by rfl, rfl⟩) (by assumption) ?_
  try simp only [Act.put, List.setIfInBounds_toArray, List.set_cons_zero, List.set_cons_succ]
  refine wpAnyH_take (i := 3) (oi := { dst := some 58, op := Go.Op.move (Go.Operand.tmp 11), type := 3, pos := "embed.go:521", after := #[{ on := 1, ground := Go.Ground.guard }], guard := some (1, false) }) (v := undef) rfl (by kernel_rfl) (by kernel_rfl) (by kernel_rfl) (by intro _ _ _ h; cases h.1) (Or.inr ⟨by rfl, rfl⟩) (by assumption) ?_
  try simp only [Act.put, List.setIfInBounds_toArray, List.set_cons_zero, List.set_cons_succ]
  refine wpAnyH_take (i := 4) (oi := { dst := some 59, op := Go.Op.indexAddr 45 (Go.Operand.tmp 57) (Go.Operand.tmp 58), type := 0, pos := "embed.go:521", after := #[{ on := 2, ground := Go.Ground.data }, { on := 3, ground := Go.Ground.data }, { on := 1, ground := Go.Ground.guard }], guard := some (1, false) }) (v := undef) rfl (by kernel_rfl) (by kernel_rfl) (by kernel_rfl) (by intro _ _ _ h; cases h.1) (Or.inr ⟨by rfl, rfl⟩) (by assumption) ?_
  try simp only [Act.put, List.setIfInBounds_toArray, List.set_cons_zero, List.set_cons_succ]
  refine wpAnyH_take (i := 5) (oi := { dst := some 60, op := Go.Op.load 24 (Go.Operand.tmp 59), type := 24, pos := "embed.go:521", after := #[{ on := 4, ground := Go.Ground.data }, { on := 1, ground := Go.Ground.guard }], guard := some (1, false) }) (v := undef) rfl (by kernel_rfl) (by kernel_rfl) (by kernel_rfl) (by intro _ _ _ h; cases h.1) (Or.inr ⟨by rfl, rfl⟩) (by assumption) ?_
  try simp only [Act.put, List.setIfInBounds_toArray, List.set_cons_zero, List.set_cons_succ]
  refine wpAnyH_take (i := 6) (oi := { dst := some 61, op := Go.Op.load 24 (Go.Operand.tmp 5), type := 24, pos := "embed.go:521", after := #[{ on := 1, ground := Go.Ground.guard }], guard := some (1, false) }) (v := undef) rfl (by kernel_rfl) (by kernel_rfl) (by kernel_rfl) (by intro _ _ _ h; cases h.1) (Or.inr ⟨by rfl, rfl⟩) (by assumption) ?_
  try simp only [Act.put, List.setIfInBounds_toArray, List.set_cons_zero, List.set_cons_succ]
  refine wpAnyH_take (i := 7) (oi := { dst := some 62, op := Go.Op.call { callee := Go.Callee.value (Go.Operand.func 17), args := #[Go.Operand.tmp 60, Go.Operand.tmp 61], argTypes := #[24, 24] }, type := 4, pos := "embed.go:521", after := #[{ on := 5, ground := Go.Ground.data }, { on := 6, ground := Go.Ground.data }, { on := 1, ground := Go.Ground.chain }, { on := 1, ground := Go.Ground.guard }], guard := some (1, false) }) (v := undef) rfl (by kernel_rfl) (by kernel_rfl) (by kernel_rfl) (by intro _ _ _ h; cases h.1) (Or.inr ⟨by rfl, rfl⟩) (by assumption) ?_
  try simp only [Act.put, List.setIfInBounds_toArray, List.set_cons_zero, List.set_cons_succ]
  refine wpAnyH_take (i := 8) (oi := { dst := some 63, op := Go.Op.pick (Go.Operand.tmp 56) (Go.Operand.const (Go.Value.bool true)) (Go.Operand.tmp 62), type := 4, pos := "embed.go:521", after := #[{ on := 1, ground := Go.Ground.data }, { on := 7, ground := Go.Ground.data }], guard := none }) (v := ?_) rfl (by kernel_rfl) (by kernel_rfl) (by kernel_rfl) (by intro _ _ _ h; cases h.1) (Or.inl ⟨by rfl, ?hy⟩) (by assumption) ?_
  case hy => (intro w9 hSw; (try dsimp only at hSw); go_simp; try with_reducible rfl)
  try simp only [Act.put, List.setIfInBounds_toArray, List.set_cons_zero, List.set_cons_succ]
  refine wpAnyH_take (i := 9) (oi := { dst := some 10, op := Go.Op.assign (Go.Operand.tmp 63), type := 4, pos := "embed.go:521", after := #[{ on := 8, ground := Go.Ground.data }, { on := 7, ground := Go.Ground.chain }, { on := 0, ground := Go.Ground.phase }, { on := 1, ground := Go.Ground.phase }, { on := 2, ground := Go.Ground.phase }, { on := 3, ground := Go.Ground.phase }, { on := 4, ground := Go.Ground.phase }, { on := 5, ground := Go.Ground.phase }, { on := 6, ground := Go.Ground.phase }, { on := 7, ground := Go.Ground.phase }, { on := 8, ground := Go.Ground.phase }], guard := none }) (v := ?_) rfl (by kernel_rfl) (by kernel_rfl) (by kernel_rfl) (by intro _ _ _ h; cases h.1) (Or.inl ⟨by rfl, ?hy⟩) (by assumption) ?_
  case hy => (intro w9 hSw; (try dsimp only at hSw); go_simp; try with_reducible rfl)
  try simp only [Act.put, List.setIfInBounds_toArray, List.set_cons_zero, List.set_cons_succ]
  refine wpAnyH_done (by kernel_rfl) ?_ _
  refine ⟨(by first | rfl | trivial), (by first | rfl | trivial), below_hb hHeld, (by first | rfl | trivial), (by first | rfl | trivial), fun j hj h10 => ?_⟩
  match j, hj with
  | 0, _ => rfl
  | 1, _ => rfl
  | 2, _ => rfl
  | 3, _ => rfl
  | 4, _ => rfl
  | 5, _ => rfl
  | 6, _ => rfl
  | 7, _ => rfl
  | 8, _ => rfl
  | 9, _ => rfl
  | 10, _ => exact absurd rfl h10
  | 11, _ => rfl
  | 12, _ => rfl
  | 13, _ => rfl
  | 14, _ => rfl
  | 15, _ => rfl
  | 16, _ => rfl
  | j + 17, h => exact absurd h (by omega)
set_option maxHeartbeats 4000000 in
theorem n_r14b (u0 u1 u2 u3 u4 u6 u7 u9 u12 u13 u14 u15 u16 u17 u18 u19 u20 u21 u22 u23 u24 u25 u26 u27 u28 u29 u30 u31 u32 u33 u34 u35 u36 u37 u38 u39 u40 u41 u42 u43 u44 u45 u46 u47 u48 u49 u50 u51 u52 u53 u54 u55 u56 u57 u58 u59 u60 u61 u62 u63 u64 u65 u66 u67 u68 u69 u70 u71 u72 u73 u74 u75 u76 u77 u78 u79 u80 u81 u82 u83 u84 u85 u86 u87 u88 u89 u90 u91 u92 u93 u94 u95 u96 u97 u98 u99 u100 u101 u102 u103 : Value) (v : World) (B5 bf m c i n bc co : Nat) (bl ao : Option Addr) (F G : Nat → Nat) (hn : n ≤ 6) (hi : i < m) (b50 : v.cell? ⟨B5, 0, none⟩ = some (.int .i64 (n : Nat))) (b51 : v.cell? ⟨B5, 1, none⟩ = some (.slice bl n bc)) (o0 : v.cell? ⟨bf, i * 2, none⟩ = some (.int .i64 (n : Nat))) (o1 : v.cell? ⟨bf, i * 2 + 1, none⟩ = some (.slice ao n co)) (hrb : Row v bl n (fun k => (F k : Nat))) (hro : Row v ao n (fun k => (G k : Nat))) : (atc [1, 1, 0, 1, 2, 2, 1, 0, 2] (thenT (atc [1, 1, 1, 1, 1, 0] (Tryd.f8.body.getD .skip)))).wp Tryd.prog (fun e s w => e = .normal ∧ s.defers = [] ∧ HB v w ∧ s.tmps.size = 104 ∧ (∃ b, s.tmps[10]? = some (.bool b) ∧ ((∀ k, k < n → G k = F k) → b = true)) ∧ ∀ j, j < 17 → j ≠ 10 → s.tmps[j]? = (u0 :: u1 :: u2 :: u3 :: u4 :: .pointer (some ⟨B5, 0, none⟩) :: u6 :: u7 :: .slice (some ⟨bf, 0, none⟩) m c :: u9 :: .bool false :: .int .i64 (i : Nat) :: u12 :: u13 :: u14 :: u15 :: u16 :: u17 :: u18 :: u19 :: u20 :: u21 :: u22 :: u23 :: u24 :: u25 :: u26 :: u27 :: u28 :: u29 :: u30 :: u31 :: u32 :: u33 :: u34 :: u35 :: u36 :: u37 :: u38 :: u39 :: u40 :: u41 :: u42 :: u43 :: u44 :: u45 :: u46 :: u47 :: u48 :: u49 :: u50 :: u51 :: u52 :: u53 :: u54 :: u55 :: u56 :: u57 :: u58 :: u59 :: u60 :: u61 :: u62 :: u63 :: u64 :: u65 :: u66 :: u67 :: u68 :: u69 :: u70 :: u71 :: u72 :: u73 :: u74 :: u75 :: u76 :: u77 :: u78 :: u79 :: u80 :: u81 :: u82 :: u83 :: u84 :: u85 :: u86 :: u87 :: u88 :: u89 :: u90 :: u91 :: u92 :: u93 :: u94 :: u95 :: u96 :: u97 :: u98 :: u99 :: u100 :: u101 :: u102 :: u103 :: []).toArray[j]?) ⟨(u0 :: u1 :: u2 :: u3 :: u4 :: .pointer (some ⟨B5, 0, none⟩) :: u6 :: u7 :: .slice (some ⟨bf, 0, none⟩) m c :: u9 :: .bool false :: .int .i64 (i : Nat) :: u12 :: u13 :: u14 :: u15 :: u16 :: u17 :: u18 :: u19 :: u20 :: u21 :: u22 :: u23 :: u24 :: u25 :: u26 :: u27 :: u28 :: u29 :: u30 :: u31 :: u32 :: u33 :: u34 :: u35 :: u36 :: u37 :: u38 :: u39 :: u40 :: u41 :: u42 :: u43 :: u44 :: u45 :: u46 :: u47 :: u48 :: u49 :: u50 :: u51 :: u52 :: u53 :: u54 :: u55 :: u56 :: u57 :: u58 :: u59 :: u60 :: u61 :: u62 :: u63 :: u64 :: u65 :: u66 :: u67 :: u68 :: u69 :: u70 :: u71 :: u72 :: u73 :: u74 :: u75 :: u76 :: u77 :: u78 :: u79 :: u80 :: u81 :: u82 :: u83 :: u84 :: u85 :: u86 :: u87 :: u88 :: u89 :: u90 :: u91 :: u92 :: u93 :: u94 :: u95 :: u96 :: u97 :: u98 :: u99 :: u100 :: u101 :: u102 :: u103 :: []).toArray, []⟩ v := by
  simp only [Tryd.f8, Option.getD_some, atc, thenT]
  have hmx : n ≤ maxLen := by unfold maxLen; omega
  have hi' : (i : Int) < (m : Int) := by omega
  have KK : v.drew.cell? ⟨B5, 0, none⟩ = some (.int .i64 (n : Nat)) ∧ v.drew.cell? ⟨B5, 1, none⟩ = some (.slice bl n bc) ∧ v.drew.cell? ⟨bf, i * 2, none⟩ = some (.int .i64 (n : Nat)) ∧ v.drew.cell? ⟨bf, i * 2 + 1, none⟩ = some (.slice ao n co) ∧ Below v.heap.size v v.drew := ⟨b50, b51, o0, o1, (Below.refl _ _).drew⟩
  have HRB : Hid (∀ w', Below v.heap.size v w' → Row w' bl n (fun k => (F k : Nat)) ∧ Row w' ao n (fun k => (G k : Nat))) := fun w' hb => ⟨hrb.below hb, hro.below hb⟩
  clear hrb hro b50 b51 o0 o1
  refine wp_region_held_drew (S := fun w' => w'.cell? ⟨B5, 0, none⟩ = some (.int .i64 (n : Nat)) ∧ w'.cell? ⟨B5, 1, none⟩ = some (.slice bl n bc) ∧ w'.cell? ⟨bf, i * 2, none⟩ = some (.int .i64 (n : Nat)) ∧ w'.cell? ⟨bf, i * 2 + 1, none⟩ = some (.slice ao n co) ∧ Below v.heap.size v w') (by kernel_rfl) (KK) (fun hHeld => ?_)
  refine wpAnyH_take (i := 0) (oi := { dst := some 55, op := Go.Op.move (Go.Operand.tmp 10), type := 4, pos := "embed.go:521", after := #[], guard := none }) (v := ?_) rfl (by kernel_rfl) (by kernel_rfl) (by kernel_rfl) (by intro _ _ _ h; cases h.1) (Or.inl ⟨by rfl, ?hy⟩) (by assumption) ?_
  case hy => (intro w9 hSw; (try dsimp only at hSw); go_simp; try with_reducible rfl)
  try simp only [Act.put, List.setIfInBounds_toArray, List.set_cons_zero, List.set_cons_succ]
  refine wpAnyH_take (i := 1) (oi := { dst := some 56, op := Go.Op.move (Go.Operand.tmp 55), type := 4, pos := "embed.go:521", after := #[{ on := 0, ground := Go.Ground.data }], guard := none }) (v := ?_) rfl (by kernel_rfl) (by kernel_rfl) (by kernel_rfl) (by intro _ _ _ h; cases h.1) (Or.inl ⟨by rfl, ?hy⟩) (by assumption) ?_
  case hy => (intro w9 hSw; (try dsimp only at hSw); go_simp; try with_reducible rfl)
  try simp only [Act.put, List.setIfInBounds_toArray, List.set_cons_zero, List.set_cons_succ]
  refine wpAnyH_take (i := 2) (oi := { dst := some 57, op := Go.Op.move (Go.Operand.tmp 8), type := 45, pos := "embed.go:521", after := #[{ on := 1, ground := Go.Ground.guard }], guard := some (1, false) }) (v := ?_) rfl (by kernel_rfl) (by kernel_rfl) (by kernel_rfl) (by intro _ _ _ h; cases h.1) (Or.inl ⟨by rfl, ?hy⟩) (by assumption) ?_
  case hy => (intro w9 hSw; (try dsimp only at hSw); go_simp; try with_reducible rfl)
  try simp only [Act.put, List.setIfInBounds_toArray, List.set_cons_zero, List.set_cons_succ]
  refine wpAnyH_take (i := 3) (oi := { dst := some 58, op := Go.Op.move (Go.Operand.tmp 11), type := 3, pos := "embed.go:521", after := #[{ on := 1, ground := Go.Ground.guard }], guard := some (1, false) }) (v := ?_) rfl (by kernel_rfl) (by kernel_rfl) (by kernel_rfl) (by intro _ _ _ h; cases h.1) (Or.inl ⟨by rfl, ?hy⟩) (by assumption) ?_
  case hy => (intro w9 hSw; (try dsimp only at hSw); go_simp; try with_reducible rfl)
  try simp only [Act.put, List.setIfInBounds_toArray, List.set_cons_zero, List.set_cons_succ]
  refine wpAnyH_take (i := 4) (oi := { dst := some 59, op := Go.Op.indexAddr 45 (Go.Operand.tmp 57) (Go.Operand.tmp 58), type := 0, pos := "embed.go:521", after := #[{ on := 2, ground := Go.Ground.data }, { on := 3, ground := Go.Ground.data }, { on := 1, ground := Go.Ground.guard }], guard := some (1, false) }) (v := ?_) rfl (by kernel_rfl) (by kernel_rfl) (by kernel_rfl) (by intro _ _ _ h; cases h.1) (Or.inl ⟨by rfl, ?hy⟩) (by assumption) ?_
  case hy => (intro w9 hSw; (try dsimp only at hSw); go_simp; try with_reducible rfl)
  try simp only [Act.put, List.setIfInBounds_toArray, List.set_cons_zero, List.set_cons_succ]
  refine wpAnyH_take (i := 5) (oi := { dst := some 60, op := Go.Op.load 24 (Go.Operand.tmp 59), type := 24, pos := "embed.go:521", after := #[{ on := 4, ground := Go.Ground.data }, { on := 1, ground := Go.Ground.guard }], guard := some (1, false) }) (v := ?_) rfl (by kernel_rfl) (by kernel_rfl) (by kernel_rfl) (by intro _ _ _ h; cases h.1) (Or.inl ⟨by rfl, ?hy⟩) (by assumption) ?_
  case hy => (intro w9 hSw; (try dsimp only at hSw); go_simp; try with_reducible rfl)
  try simp only [Act.put, List.setIfInBounds_toArray, List.set_cons_zero, List.set_cons_succ]
  refine wpAnyH_take (i := 6) (oi := { dst := some 61, op := Go.Op.load 24 (Go.Operand.tmp 5), type := 24, pos := "embed.go:521", after := #[{ on := 1, ground := Go.Ground.guard }], guard := some (1, false) }) (v := ?_) rfl (by kernel_rfl) (by kernel_rfl) (by kernel_rfl) (by intro _ _ _ h; cases h.1) (Or.inl ⟨by rfl, ?hy⟩) (by assumption) ?_
  case hy => (intro w9 hSw; (try dsimp only at hSw); go_simp; try with_reducible rfl)
  try simp only [Act.put, List.setIfInBounds_toArray, List.set_cons_zero, List.set_cons_succ]
  refine wpAnyH_ready (rs := [7]) (by kernel_rfl) (by simp) ?_
  refine AllReadyH.cons (o := { dst := some 62, op := Go.Op.call { callee := Go.Callee.value (Go.Operand.func 17), args := #[Go.Operand.tmp 60, Go.Operand.tmp 61], argTypes := #[24, 24] }, type := 4, pos := "embed.go:521", after := #[{ on := 5, ground := Go.Ground.data }, { on := 6, ground := Go.Ground.data }, { on := 1, ground := Go.Ground.chain }, { on := 1, ground := Go.Ground.guard }], guard := some (1, false) }) rfl (fun K hK => ?_) AllReadyH.nil
  go_simp
  go_at_call 17
  refine (sameOrder_any (n : Nat) (n : Nat) ao bl n co n bc _ _ _ hmx hmx (HRB.out _ (p4_below hHeld)).2 (HRB.out _ (p4_below hHeld)).1).mono ?_
  rintro e w4 ⟨⟨vb, rfl, hvb⟩, hb4⟩
  have HVB := (show Hid _ from hvb)
  clear hvb
  refine hK.out _ _ ?_ (fun hHeld => ?_)
  · exact p4_step hHeld hb4
  clear hK K
  try simp only [Act.put, List.setIfInBounds_toArray, List.set_cons_zero, List.set_cons_succ]
  refine wpAnyH_take (i := 8) (oi := { dst := some 63, op := Go.Op.pick (Go.Operand.tmp 56) (Go.Operand.const (Go.Value.bool true)) (Go.Operand.tmp 62), type := 4, pos := "embed.go:521", after := #[{ on := 1, ground := Go.Ground.data }, { on := 7, ground := Go.Ground.data }], guard := none }) (v := ?_) rfl (by kernel_rfl) (by kernel_rfl) (by kernel_rfl) (by intro _ _ _ h; cases h.1) (Or.inl ⟨by rfl, ?hy⟩) (by assumption) ?_
  case hy => (intro w9 hSw; (try dsimp only at hSw); go_simp; try with_reducible rfl)
  try simp only [Act.put, List.setIfInBounds_toArray, List.set_cons_zero, List.set_cons_succ]
  refine wpAnyH_take (i := 9) (oi := { dst := some 10, op := Go.Op.assign (Go.Operand.tmp 63), type := 4, pos := "embed.go:521", after := #[{ on := 8, ground := Go.Ground.data }, { on := 7, ground := Go.Ground.chain }, { on := 0, ground := Go.Ground.phase }, { on := 1, ground := Go.Ground.phase }, { on := 2, ground := Go.Ground.phase }, { on := 3, ground := Go.Ground.phase }, { on := 4, ground := Go.Ground.phase }, { on := 5, ground := Go.Ground.phase }, { on := 6, ground := Go.Ground.phase }, { on := 7, ground := Go.Ground.phase }, { on := 8, ground := Go.Ground.phase }], guard := none }) (v := ?_) rfl (by kernel_rfl) (by kernel_rfl) (by kernel_rfl) (by intro _ _ _ h; cases h.1) (Or.inl ⟨by rfl, ?hy⟩) (by assumption) ?_
  case hy => (intro w9 hSw; (try dsimp only at hSw); go_simp; try with_reducible rfl)
  try simp only [Act.put, List.setIfInBounds_toArray, List.set_cons_zero, List.set_cons_succ]
  refine wpAnyH_done (by kernel_rfl) ?_ _
  refine ⟨(by first | rfl | trivial), (by first | rfl | trivial), below_hb (p4_below hHeld), (by first | rfl | trivial), ⟨vb, (by first | rfl | trivial), fun hq => HVB.out.2 ⟨rfl, rfl, fun k hk => by show ((G k : Nat) : Int) = _; rw [hq k hk]⟩⟩, fun j hj h10 => ?_⟩
  match j, hj with
  | 0, _ => rfl
  | 1, _ => rfl
  | 2, _ => rfl
  | 3, _ => rfl
  | 4, _ => rfl
  | 5, _ => rfl
  | 6, _ => rfl
  | 7, _ => rfl
  | 8, _ => rfl
  | 9, _ => rfl
  | 10, _ => exact absurd rfl h10
  | 11, _ => rfl
  | 12, _ => rfl
  | 13, _ => rfl
  | 14, _ => rfl
  | 15, _ => rfl
  | 16, _ => rfl
  | j + 17, h => exact absurd h (by omega)
theorem n_r15 (tm : Array Value) (v : World) (hs : tm.size = 104) (h9 : tm[9]? = some (.int .i64 0)) (h10 : tm[10]? = some (.bool true)) : (atc [1, 1, 1, 0] (thenT (atc [1, 1, 1, 1, 1, 0] (Tryd.f8.body.getD .skip)))).wp Tryd.prog (fun e s w => e = .normal ∧ s.defers = [] ∧ HB v w ∧ s.tmps.size = 104 ∧ s.tmps[69]? = some (.bool false) ∧ ∀ j, j < 17 → s.tmps[j]? = tm[j]?) ⟨tm, []⟩ v := by
  have HS : Hid (tm.size = 104) := hs
  have s64 : 64 < tm.size := by omega
  have s65 : 65 < tm.size := by omega
  have s66 : 66 < tm.size := by omega
  have s67 : 67 < tm.size := by omega
  have s68 : 68 < tm.size := by omega
  have s69 : 69 < tm.size := by omega
  clear hs
  simp only [Tryd.f8, Option.getD_some, atc, thenT]
  go_wp2_with fail
  refine ⟨HB.refl _, HS.out, fun j hj => ?_⟩
  repeat rw [Array.getElem?_setIfInBounds_ne (by omega)]
theorem n_r17 (tm : Array Value) (v : World) (hs : tm.size = 104) (n B m cl : Nat) (al : Option Addr) (h : Nat → Int) (hm : m ≤ maxLen) (hn : n ≤ 6) (hr : Row v al m h) (h1 : tm[1]? = some (.slice al m cl)) (h2 : tm[2]? = some (.pointer (some ⟨B, 0, none⟩))) (b0 : v.cell? ⟨B, 0, none⟩ = some (.int .i64 (n : Nat))) : (atc [1, 1, 1, 1, 1, 1, 0, 0] (Tryd.f8.body.getD .skip)).wp Tryd.prog (fun e s w => e = .normal ∧ s.defers = [] ∧ HB v w ∧ s.tmps.size = 104 ∧ (∃ b, s.tmps[74]? = some (.bool b) ∧ (b = false ↔ (m = n ∧ ∀ p : Nat, p < n → ∃ j, j < n ∧ h j = (p : Nat)))) ∧ ∀ j, j < 17 → s.tmps[j]? = tm[j]?) ⟨tm, []⟩ v := by
  have HS : Hid (tm.size = 104) := hs
  have s70 : 70 < tm.size := by omega
  have s71 : 71 < tm.size := by omega
  have s72 : 72 < tm.size := by omega
  have s73 : 73 < tm.size := by omega
  have s74 : 74 < tm.size := by omega
  clear hs
  simp only [Tryd.f8, Option.getD_some, atc]
  have HP := (show Hid _ from isP_any al m cl n h v hm (by omega) hr)
  clear hr
  go_wp2_with fail
  refine Calls.mono HP.out ?_
  rintro e w1 ⟨⟨b, rfl, hb⟩, rfl⟩
  have HQ : Hid ((!b) = false ↔ (m = n ∧ ∀ p : Nat, p < n → ∃ j, j < n ∧ h j = (p : Nat))) := by
    show (!b) = false ↔ _
    rw [show ((!b) = false) = (b = true) by cases b <;> simp]
    exact hb
  clear hb HP
  generalize hq : (!b) = b' at HQ
  go_wp2_with fail
  refine ⟨HB.refl _, HS.out, HQ.out, fun j hj => ?_⟩
  repeat rw [Array.getElem?_setIfInBounds_ne (by omega)]
theorem n_r19 (tm : Array Value) (v : World) (hs : tm.size = 104) (n B cap cl : Nat) (a al : Option Addr) (g : Nat → Nat) (L : List Nat) (hn : n ≤ 6) (hg : ∀ k, k < n → g k < 1024) (pL : IsP n L) (hr : Row v a n (fun k => (g k : Nat))) (hrl : Row v al n (fun k => (nth L k : Nat))) (h1 : tm[1]? = some (.slice al n cl)) (h2 : tm[2]? = some (.pointer (some ⟨B, 0, none⟩))) (b0 : v.cell? ⟨B, 0, none⟩ = some (.int .i64 (n : Nat))) (b1 : v.cell? ⟨B, 1, none⟩ = some (.slice a n cap)) : (atc [1, 1, 1, 1, 1, 1, 1, 0] (Tryd.f8.body.getD .skip)).wp Tryd.prog (fun e s w => e = .normal ∧ s.defers = [] ∧ HB v w ∧ s.tmps.size = 104 ∧ (∃ D a3 c3, s.tmps[12]? = some (.pointer (some ⟨D, 0, none⟩)) ∧ w.cell? ⟨D, 0, none⟩ = some (.int .i64 (n : Nat)) ∧ w.cell? ⟨D, 1, none⟩ = some (.slice a3 n c3) ∧ Row w a3 n (fun k => (prt g L k : Nat))) ∧ ∀ j, j < 12 → s.tmps[j]? = tm[j]?) ⟨tm, []⟩ v := by
  have HS : Hid (tm.size = 104) := hs
  have s12 : 12 < tm.size := by omega
  have s75 : 75 < tm.size := by omega
  have s76 : 76 < tm.size := by omega
  have s77 : 77 < tm.size := by omega
  clear hs
  simp only [Tryd.f8, Option.getD_some, atc]
  have HP := (show Hid _ from rnR_any n a cap g al cl L v (by omega) hg pL.1 pL.2.1 hr hrl)
  clear hr hrl pL hg
  go_wp2_with fail
  refine Calls.mono HP.out ?_
  rintro e w1 ⟨⟨ar, cr, rfl, hrow, _⟩, hb⟩
  have HRW : Hid (Row w1 ar n (fun k => (prt g L k : Nat))) := hrow
  have HB1 : Hid (Below v.heap.size v w1) := hb
  clear hrow hb HP
  go_wp2_with fail
  refine ⟨(below_hb HB1.out).trans (hb_alloc _ _), HS.out, HRW.out.below ((Below.refl _ _).alloc (Nat.le_refl _) _), fun j hj => ?_⟩
  repeat rw [Array.getElem?_setIfInBounds_ne (by omega)]
theorem n_r20 (tm : Array Value) (v : World) (hs : tm.size = 104) (n : Int) (a : Option Addr) (len cap : Nat) (f : Nat → Int) (B : Nat) (hl : len ≤ maxLen) (hr : Row v a len f) (h2 : tm[12]? = some (.pointer (some ⟨B, 0, none⟩))) (b0 : v.cell? ⟨B, 0, none⟩ = some (.int .i64 n)) (b1 : v.cell? ⟨B, 1, none⟩ = some (.slice a len cap)) (hT : Tab v) : (atc [1, 1, 1, 1, 1, 1, 1, 1, 0] (Tryd.f8.body.getD .skip)).wp Tryd.prog (fun e s w => e = .normal ∧ s.defers = [] ∧ HB v w ∧ s.tmps.size = 104 ∧ (∃ c q B x0 x1, s.tmps[7]? = some (.int .i64 c) ∧ s.tmps[14]? = some q ∧ s.tmps[13]? = some (.pointer (some ⟨B, 0, none⟩)) ∧ w.cell? ⟨B, 0, none⟩ = some x0 ∧ w.cell? ⟨B, 1, none⟩ = some x1 ∧ FCk n len f c ∧ R1 c len f w x0 x1 q) ∧ ∀ j, j < 13 → j ≠ 7 → s.tmps[j]? = tm[j]?) ⟨tm, []⟩ v := by
  have HS : Hid (tm.size = 104) := hs
  have s13 : 13 < tm.size := by omega
  have s14 : 14 < tm.size := by omega
  have s7 : 7 < tm.size := by omega
  have s78 : 78 < tm.size := by omega
  have s79 : 79 < tm.size := by omega
  have s80 : 80 < tm.size := by omega
  have s81 : 81 < tm.size := by omega
  have s82 : 82 < tm.size := by omega
  have s83 : 83 < tm.size := by omega
  clear hs
  simp only [Tryd.f8, Option.getD_some, atc]
  have HM := (show Hid _ from form2_any n a len cap f v hl hr hT)
  clear hr hT
  go_wp2_with fail
  refine Calls.mono HM.out ?_
  rintro e w1 ⟨⟨c, hc, h⟩, hb⟩
  have HC : Hid (FCk n len f c) := hc
  have HB1 : Hid (Below v.heap.size v w1) := hb
  rcases h with ⟨h0, rfl⟩ | ⟨rfl, y, bl, bv, hy, rfl, hO, _, hbl, hbv⟩
  · have HR : Hid (∀ w, R1 c len f w (.int .i64 0) (.slice none 0 0) (.slice none 0 0)) := fun w => .inl ⟨h0, rfl, rfl, _, _, rfl⟩
    clear hc hb HM h0
    unfold noOrder
    go_wp2_with fail
    refine ⟨(below_hb HB1.out).trans (hb_alloc _ _), HS.out, ⟨HC.out, HR.out _⟩, fun j hj => ?_⟩
    intro h7
    repeat rw [Array.getElem?_setIfInBounds_ne (by omega)]
  · have hlen := hc.good.2.1
    obtain ⟨lq, cq, rfl, hrq⟩ := owns_nats hbv
    have HR : Hid (R1 0 len f w1 (.int .i64 (len : Nat)) (.slice (some ⟨bl, 0, none⟩) len len) (.slice lq y.length cq)) := .inr ⟨rfl, hlen, y, _, _, _, _, hy, rfl, rfl, hO.row, rfl, hrq⟩
    clear hc hb HM hO hbl hbv hrq hy
    go_wp2_with fail
    refine ⟨(below_hb HB1.out).trans (hb_alloc _ _), HS.out, ⟨HC.out, HR.out.hb (hb_alloc _ _)⟩, fun j hj => ?_⟩
    intro h7
    repeat rw [Array.getElem?_setIfInBounds_ne (by omega)]
theorem n_r21 (tm : Array Value) (v : World) (hs : tm.size = 104) (n B D cap c3 : Nat) (a a3 : Option Addr) (g : Nat → Nat) (L x y : List Nat) (hn : n ≤ 6) (hg : PO n g) (pL : IsP n L) (hx : bst g n (per n [] (pw n - 1)) = some x) (hy : bst (prt g L) n (per n [] (pw n - 1)) = some y) (hT : Tab v) (hr : Row v a n (fun k => (g k : Nat))) (hr3 : Row v a3 n (fun k => (prt g L k : Nat))) (h2 : tm[2]? = some (.pointer (some ⟨B, 0, none⟩))) (b0 : v.cell? ⟨B, 0, none⟩ = some (.int .i64 (n : Nat))) (b1 : v.cell? ⟨B, 1, none⟩ = some (.slice a n cap)) (h12 : tm[12]? = some (.pointer (some ⟨D, 0, none⟩))) (d0 : v.cell? ⟨D, 0, none⟩ = some (.int .i64 (n : Nat))) (d1 : v.cell? ⟨D, 1, none⟩ = some (.slice a3 n c3)) : (atc [1, 1, 1, 1, 1, 1, 1, 1, 1, 0] (Tryd.f8.body.getD .skip)).wp Tryd.prog (fun e s w => e = .normal ∧ s.defers = [] ∧ HB v w ∧ s.tmps.size = 104 ∧ s.tmps[15]? = some (.bool true) ∧ s.tmps[16]? = some (.int .i64 0) ∧ ∀ j, j < 15 → s.tmps[j]? = tm[j]?) ⟨tm, []⟩ v := by
  have HS : Hid (tm.size = 104) := hs
  have s15 : 15 < tm.size := by omega
  have s16 : 16 < tm.size := by omega
  have s84 : 84 < tm.size := by omega
  have s85 : 85 < tm.size := by omega
  have s86 : 86 < tm.size := by omega
  have s87 : 87 < tm.size := by omega
  have s88 : 88 < tm.size := by omega
  have s89 : 89 < tm.size := by omega
  clear hs
  simp only [Tryd.f8, Option.getD_some, atc]
  have hmx : n ≤ maxLen := by unfold maxLen; omega
  have HP : Hid (Calls Tryd.prog 15 #[.agg #[.int .i64 (n : Nat), .slice a n cap], .agg #[.int .i64 (n : Nat), .slice a3 n c3]] v fun e w' => e = .returned (.tuple #[.bool true, .int .i64 0]) ∧ Below v.heap.size v w') := by
    refine (alike_any (n : Nat) a n cap (fun k => (g k : Nat)) (n : Nat) a3 n c3 (fun k => (prt g L k : Nat)) v hmx hmx hr hr3 hT).mono ?_
    rintro e w' ⟨⟨c, hc, h⟩, hb⟩
    obtain ⟨k1, e1, q1⟩ := fck_of hn hg
    obtain ⟨k2, e2, q2⟩ := fck_of hn (hg.prt pL)
    have z1 : k1 = 0 := by
      by_cases z : k1 = 0
      · exact z
      · rw [if_neg z] at q1; exact q1.symm
    have z2 : k2 = 0 := by
      by_cases z : k2 = 0
      · exact z
      · rw [if_neg z] at q2; exact q2.symm
    have h0 : FC2 (n : Nat) n (fun k => (g k : Nat)) (n : Nat) n (fun k => (prt g L k : Nat)) 0 := ⟨0, ⟨k1, k2, e1, e2, by rw [if_pos z1, z2]⟩, by rw [if_pos rfl, if_neg (by omega)]⟩
    obtain rfl : c = 0 := hc.one h0
    rcases h with ⟨h1, _⟩ | ⟨_, x1, x2, b, hx1, hx2, hb2, rfl⟩
    · exact absurd rfl h1
    · rw [nat_cast] at hx1 hx2 hb2
      rw [nat_cast] at hb2
      obtain rfl : x1 = x := Option.some.inj (hx1.symm.trans hx)
      obtain rfl : x2 = y := Option.some.inj (hx2.symm.trans hy)
      have : b = true := hb2.2 ⟨rfl, fun k hk => by show ((prt g x1 k : Nat) : Int) = _; rw [← form_same hn pL hx hy k hk]⟩
      rw [this]
      exact ⟨rfl, hb⟩
  clear hr hr3 hT hg pL hx hy
  go_wp2_with (go_at_call 15; refine Calls.mono HP.out ?_; rintro e w1 ⟨rfl, hb⟩)
  refine ⟨below_hb hb, HS.out, fun j hj => ?_⟩
  repeat rw [Array.getElem?_setIfInBounds_ne (by omega)]
set_option maxHeartbeats 1000000 in
theorem n_r22 (tm : Array Value) (v : World) (hs : tm.size = 104) (n B5 D bc c3 : Nat) (bl a3 : Option Addr) (F G : Nat → Nat) (hn : n ≤ 6) (hFG : ∀ k, k < n → F k = G k) (hr : Row v bl n (fun k => (F k : Nat))) (hr3 : Row v a3 n (fun k => (G k : Nat))) (h7 : tm[7]? = some (.int .i64 0)) (h15 : tm[15]? = some (.bool true)) (h16 : tm[16]? = some (.int .i64 0)) (h5 : tm[5]? = some (.pointer (some ⟨B5, 0, none⟩))) (b0 : v.cell? ⟨B5, 0, none⟩ = some (.int .i64 (n : Nat))) (b1 : v.cell? ⟨B5, 1, none⟩ = some (.slice bl n bc)) (h13 : tm[13]? = some (.pointer (some ⟨D, 0, none⟩))) (d0 : v.cell? ⟨D, 0, none⟩ = some (.int .i64 (n : Nat))) (d1 : v.cell? ⟨D, 1, none⟩ = some (.slice a3 n c3)) : (atc [1, 1, 1, 1, 1, 1, 1, 1, 1, 1, 0] (Tryd.f8.body.getD .skip)).wp Tryd.prog (fun e s w => e = .normal ∧ s.defers = [] ∧ HB v w ∧ s.tmps[4]? = some (.bool true)) ⟨tm, []⟩ v := by
  have HS : Hid (tm.size = 104) := hs
  have s4 : 4 < tm.size := by omega
  have s90 : 90 < tm.size := by omega
  have s91 : 91 < tm.size := by omega
  have s92 : 92 < tm.size := by omega
  have s93 : 93 < tm.size := by omega
  have s94 : 94 < tm.size := by omega
  have s95 : 95 < tm.size := by omega
  have s96 : 96 < tm.size := by omega
  have s97 : 97 < tm.size := by omega
  have s98 : 98 < tm.size := by omega
  have s99 : 99 < tm.size := by omega
  have s100 : 100 < tm.size := by omega
  have s101 : 101 < tm.size := by omega
  have s102 : 102 < tm.size := by omega
  have s103 : 103 < tm.size := by omega
  clear hs
  simp only [Tryd.f8, Option.getD_some, atc]
  have hmx : n ≤ maxLen := by unfold maxLen; omega
  have HP : Hid (Calls Tryd.prog 17 #[.agg #[.int .i64 (n : Nat), .slice bl n bc], .agg #[.int .i64 (n : Nat), .slice a3 n c3]] v fun e w' => e = .returned (.bool true) ∧ Below v.heap.size v w') := by
    refine (sameOrder_any (n : Nat) (n : Nat) bl a3 n bc n c3 _ _ v hmx hmx hr hr3).mono ?_
    rintro e w' ⟨⟨b, rfl, hb1⟩, hb⟩
    rw [hb1.2 ⟨rfl, rfl, fun k hk => by show ((F k : Nat) : Int) = _; rw [hFG k hk]⟩]
    exact ⟨rfl, hb⟩
  clear hr hr3 hFG
  go_wp2_with (go_at_call 17; refine Calls.mono HP.out ?_; rintro e w1 ⟨rfl, hb⟩)
  exact below_hb hb
end Go.Proofs.YtfbdgdphpdhcpaaDoor
