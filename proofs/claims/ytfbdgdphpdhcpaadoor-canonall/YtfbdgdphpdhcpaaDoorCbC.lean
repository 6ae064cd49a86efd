/-
  CanonAll's pieces that call, alone. Conditions: as told.
-/
import Derived.Test.YtfbdgdphpdhcpaaDoorCbB
import Derived.Deep.RegionHeld3
namespace Go.Proofs.YtfbdgdphpdhcpaaDoor
open Go Go.Conc Go.RowKit Sm
set_option maxRecDepth 100000

theorem lst_step {l : List Value} {n : Nat} (h : l.length = n + 1) : ∃ x t, l = x :: t ∧ t.length = n := by
  cases l with
  | nil => simp at h
  | cons x t => exact ⟨x, t, rfl, by simpa using h⟩
theorem split106 (tm : Array Value) (h : tm.size = 106) : ∃ u0 u1 u2 u3 u4 u5 u6 u7 u8 u9 u10 u11 u12 u13 u14 u15 u16 u17 u18 u19 u20 u21 u22 u23 u24 u25 u26 u27 u28 u29 u30 u31 u32 u33 u34 u35 u36 u37 u38 u39 u40 u41 u42 u43 u44 u45 u46 u47 u48 u49 u50 u51 u52 u53 u54 u55 u56 u57 u58 u59 u60 u61 u62 u63 u64 u65 u66 u67 u68 u69 u70 u71 u72 u73 u74 u75 u76 u77 u78 u79 u80 u81 u82 u83 u84 u85 u86 u87 u88 u89 u90 u91 u92 u93 u94 u95 u96 u97 u98 u99 u100 u101 u102 u103 u104 u105 : Value, tm = (u0 :: u1 :: u2 :: u3 :: u4 :: u5 :: u6 :: u7 :: u8 :: u9 :: u10 :: u11 :: u12 :: u13 :: u14 :: u15 :: u16 :: u17 :: u18 :: u19 :: u20 :: u21 :: u22 :: u23 :: u24 :: u25 :: u26 :: u27 :: u28 :: u29 :: u30 :: u31 :: u32 :: u33 :: u34 :: u35 :: u36 :: u37 :: u38 :: u39 :: u40 :: u41 :: u42 :: u43 :: u44 :: u45 :: u46 :: u47 :: u48 :: u49 :: u50 :: u51 :: u52 :: u53 :: u54 :: u55 :: u56 :: u57 :: u58 :: u59 :: u60 :: u61 :: u62 :: u63 :: u64 :: u65 :: u66 :: u67 :: u68 :: u69 :: u70 :: u71 :: u72 :: u73 :: u74 :: u75 :: u76 :: u77 :: u78 :: u79 :: u80 :: u81 :: u82 :: u83 :: u84 :: u85 :: u86 :: u87 :: u88 :: u89 :: u90 :: u91 :: u92 :: u93 :: u94 :: u95 :: u96 :: u97 :: u98 :: u99 :: u100 :: u101 :: u102 :: u103 :: u104 :: u105 :: []).toArray := by
  obtain ⟨l⟩ := tm
  have h0 : l.length = 106 := h
  obtain ⟨u0, l0, q0, h1⟩ := lst_step h0
  subst q0
  obtain ⟨u1, l1, q1, h2⟩ := lst_step h1
  subst q1
  obtain ⟨u2, l2, q2, h3⟩ := lst_step h2
  subst q2
  obtain ⟨u3, l3, q3, h4⟩ := lst_step h3
  subst q3
  obtain ⟨u4, l4, q4, h5⟩ := lst_step h4
  subst q4
  obtain ⟨u5, l5, q5, h6⟩ := lst_step h5
  subst q5
  obtain ⟨u6, l6, q6, h7⟩ := lst_step h6
  subst q6
  obtain ⟨u7, l7, q7, h8⟩ := lst_step h7
  subst q7
  obtain ⟨u8, l8, q8, h9⟩ := lst_step h8
  subst q8
  obtain ⟨u9, l9, q9, h10⟩ := lst_step h9
  subst q9
  obtain ⟨u10, l10, q10, h11⟩ := lst_step h10
  subst q10
  obtain ⟨u11, l11, q11, h12⟩ := lst_step h11
  subst q11
  obtain ⟨u12, l12, q12, h13⟩ := lst_step h12
  subst q12
  obtain ⟨u13, l13, q13, h14⟩ := lst_step h13
  subst q13
  obtain ⟨u14, l14, q14, h15⟩ := lst_step h14
  subst q14
  obtain ⟨u15, l15, q15, h16⟩ := lst_step h15
  subst q15
  obtain ⟨u16, l16, q16, h17⟩ := lst_step h16
  subst q16
  obtain ⟨u17, l17, q17, h18⟩ := lst_step h17
  subst q17
  obtain ⟨u18, l18, q18, h19⟩ := lst_step h18
  subst q18
  obtain ⟨u19, l19, q19, h20⟩ := lst_step h19
  subst q19
  obtain ⟨u20, l20, q20, h21⟩ := lst_step h20
  subst q20
  obtain ⟨u21, l21, q21, h22⟩ := lst_step h21
  subst q21
  obtain ⟨u22, l22, q22, h23⟩ := lst_step h22
  subst q22
  obtain ⟨u23, l23, q23, h24⟩ := lst_step h23
  subst q23
  obtain ⟨u24, l24, q24, h25⟩ := lst_step h24
  subst q24
  obtain ⟨u25, l25, q25, h26⟩ := lst_step h25
  subst q25
  obtain ⟨u26, l26, q26, h27⟩ := lst_step h26
  subst q26
  obtain ⟨u27, l27, q27, h28⟩ := lst_step h27
  subst q27
  obtain ⟨u28, l28, q28, h29⟩ := lst_step h28
  subst q28
  obtain ⟨u29, l29, q29, h30⟩ := lst_step h29
  subst q29
  obtain ⟨u30, l30, q30, h31⟩ := lst_step h30
  subst q30
  obtain ⟨u31, l31, q31, h32⟩ := lst_step h31
  subst q31
  obtain ⟨u32, l32, q32, h33⟩ := lst_step h32
  subst q32
  obtain ⟨u33, l33, q33, h34⟩ := lst_step h33
  subst q33
  obtain ⟨u34, l34, q34, h35⟩ := lst_step h34
  subst q34
  obtain ⟨u35, l35, q35, h36⟩ := lst_step h35
  subst q35
  obtain ⟨u36, l36, q36, h37⟩ := lst_step h36
  subst q36
  obtain ⟨u37, l37, q37, h38⟩ := lst_step h37
  subst q37
  obtain ⟨u38, l38, q38, h39⟩ := lst_step h38
  subst q38
  obtain ⟨u39, l39, q39, h40⟩ := lst_step h39
  subst q39
  obtain ⟨u40, l40, q40, h41⟩ := lst_step h40
  subst q40
  obtain ⟨u41, l41, q41, h42⟩ := lst_step h41
  subst q41
  obtain ⟨u42, l42, q42, h43⟩ := lst_step h42
  subst q42
  obtain ⟨u43, l43, q43, h44⟩ := lst_step h43
  subst q43
  obtain ⟨u44, l44, q44, h45⟩ := lst_step h44
  subst q44
  obtain ⟨u45, l45, q45, h46⟩ := lst_step h45
  subst q45
  obtain ⟨u46, l46, q46, h47⟩ := lst_step h46
  subst q46
  obtain ⟨u47, l47, q47, h48⟩ := lst_step h47
  subst q47
  obtain ⟨u48, l48, q48, h49⟩ := lst_step h48
  subst q48
  obtain ⟨u49, l49, q49, h50⟩ := lst_step h49
  subst q49
  obtain ⟨u50, l50, q50, h51⟩ := lst_step h50
  subst q50
  obtain ⟨u51, l51, q51, h52⟩ := lst_step h51
  subst q51
  obtain ⟨u52, l52, q52, h53⟩ := lst_step h52
  subst q52
  obtain ⟨u53, l53, q53, h54⟩ := lst_step h53
  subst q53
  obtain ⟨u54, l54, q54, h55⟩ := lst_step h54
  subst q54
  obtain ⟨u55, l55, q55, h56⟩ := lst_step h55
  subst q55
  obtain ⟨u56, l56, q56, h57⟩ := lst_step h56
  subst q56
  obtain ⟨u57, l57, q57, h58⟩ := lst_step h57
  subst q57
  obtain ⟨u58, l58, q58, h59⟩ := lst_step h58
  subst q58
  obtain ⟨u59, l59, q59, h60⟩ := lst_step h59
  subst q59
  obtain ⟨u60, l60, q60, h61⟩ := lst_step h60
  subst q60
  obtain ⟨u61, l61, q61, h62⟩ := lst_step h61
  subst q61
  obtain ⟨u62, l62, q62, h63⟩ := lst_step h62
  subst q62
  obtain ⟨u63, l63, q63, h64⟩ := lst_step h63
  subst q63
  obtain ⟨u64, l64, q64, h65⟩ := lst_step h64
  subst q64
  obtain ⟨u65, l65, q65, h66⟩ := lst_step h65
  subst q65
  obtain ⟨u66, l66, q66, h67⟩ := lst_step h66
  subst q66
  obtain ⟨u67, l67, q67, h68⟩ := lst_step h67
  subst q67
  obtain ⟨u68, l68, q68, h69⟩ := lst_step h68
  subst q68
  obtain ⟨u69, l69, q69, h70⟩ := lst_step h69
  subst q69
  obtain ⟨u70, l70, q70, h71⟩ := lst_step h70
  subst q70
  obtain ⟨u71, l71, q71, h72⟩ := lst_step h71
  subst q71
  obtain ⟨u72, l72, q72, h73⟩ := lst_step h72
  subst q72
  obtain ⟨u73, l73, q73, h74⟩ := lst_step h73
  subst q73
  obtain ⟨u74, l74, q74, h75⟩ := lst_step h74
  subst q74
  obtain ⟨u75, l75, q75, h76⟩ := lst_step h75
  subst q75
  obtain ⟨u76, l76, q76, h77⟩ := lst_step h76
  subst q76
  obtain ⟨u77, l77, q77, h78⟩ := lst_step h77
  subst q77
  obtain ⟨u78, l78, q78, h79⟩ := lst_step h78
  subst q78
  obtain ⟨u79, l79, q79, h80⟩ := lst_step h79
  subst q79
  obtain ⟨u80, l80, q80, h81⟩ := lst_step h80
  subst q80
  obtain ⟨u81, l81, q81, h82⟩ := lst_step h81
  subst q81
  obtain ⟨u82, l82, q82, h83⟩ := lst_step h82
  subst q82
  obtain ⟨u83, l83, q83, h84⟩ := lst_step h83
  subst q83
  obtain ⟨u84, l84, q84, h85⟩ := lst_step h84
  subst q84
  obtain ⟨u85, l85, q85, h86⟩ := lst_step h85
  subst q85
  obtain ⟨u86, l86, q86, h87⟩ := lst_step h86
  subst q86
  obtain ⟨u87, l87, q87, h88⟩ := lst_step h87
  subst q87
  obtain ⟨u88, l88, q88, h89⟩ := lst_step h88
  subst q88
  obtain ⟨u89, l89, q89, h90⟩ := lst_step h89
  subst q89
  obtain ⟨u90, l90, q90, h91⟩ := lst_step h90
  subst q90
  obtain ⟨u91, l91, q91, h92⟩ := lst_step h91
  subst q91
  obtain ⟨u92, l92, q92, h93⟩ := lst_step h92
  subst q92
  obtain ⟨u93, l93, q93, h94⟩ := lst_step h93
  subst q93
  obtain ⟨u94, l94, q94, h95⟩ := lst_step h94
  subst q94
  obtain ⟨u95, l95, q95, h96⟩ := lst_step h95
  subst q95
  obtain ⟨u96, l96, q96, h97⟩ := lst_step h96
  subst q96
  obtain ⟨u97, l97, q97, h98⟩ := lst_step h97
  subst q97
  obtain ⟨u98, l98, q98, h99⟩ := lst_step h98
  subst q98
  obtain ⟨u99, l99, q99, h100⟩ := lst_step h99
  subst q99
  obtain ⟨u100, l100, q100, h101⟩ := lst_step h100
  subst q100
  obtain ⟨u101, l101, q101, h102⟩ := lst_step h101
  subst q101
  obtain ⟨u102, l102, q102, h103⟩ := lst_step h102
  subst q102
  obtain ⟨u103, l103, q103, h104⟩ := lst_step h103
  subst q103
  obtain ⟨u104, l104, q104, h105⟩ := lst_step h104
  subst q104
  obtain ⟨u105, l105, q105, h106⟩ := lst_step h105
  subst q105
  obtain rfl := List.length_eq_zero_iff.1 h106
  exact ⟨u0, u1, u2, u3, u4, u5, u6, u7, u8, u9, u10, u11, u12, u13, u14, u15, u16, u17, u18, u19, u20, u21, u22, u23, u24, u25, u26, u27, u28, u29, u30, u31, u32, u33, u34, u35, u36, u37, u38, u39, u40, u41, u42, u43, u44, u45, u46, u47, u48, u49, u50, u51, u52, u53, u54, u55, u56, u57, u58, u59, u60, u61, u62, u63, u64, u65, u66, u67, u68, u69, u70, u71, u72, u73, u74, u75, u76, u77, u78, u79, u80, u81, u82, u83, u84, u85, u86, u87, u88, u89, u90, u91, u92, u93, u94, u95, u96, u97, u98, u99, u100, u101, u102, u103, u104, u105, rfl⟩
theorem q3_step {w w1 w2 : World} {p0 p1 : Addr} {u0 u1 : Value} (h : w1.cell? p0 = some u0 ∧ w1.cell? p1 = some u1 ∧ Below w.heap.size w w1) (hb : Below w1.heap.size w1 w2) : w2.cell? p0 = some u0 ∧ w2.cell? p1 = some u1 ∧ Below w.heap.size w w2 :=
  ⟨cell_stp hb h.1, cell_stp hb h.2.1, Below.then h.2.2 hb⟩
theorem q3_below {w w1 : World} {p0 p1 : Addr} {u0 u1 : Value} (h : w1.cell? p0 = some u0 ∧ w1.cell? p1 = some u1 ∧ Below w.heap.size w w1) : Below w.heap.size w w1 := h.2.2
set_option maxHeartbeats 4000000 in
theorem c_r9a (u1 u2 u3 u4 u6 u8 u9 u10 u11 u12 u13 u14 u15 u16 u17 u18 u19 u20 u21 u22 u23 u24 u25 u26 u27 u28 u29 u30 u31 u32 u33 u34 u35 u36 u37 u38 u39 u40 u41 u42 u43 u44 u45 u46 u47 u48 u49 u50 u51 u52 u53 u54 u55 u56 u57 u58 u59 u60 u61 u62 u63 u64 u65 u66 u67 u68 u69 u70 u71 u72 u73 u74 u75 u76 u77 u78 u79 u80 u81 u82 u83 u84 u85 u86 u87 u88 u89 u90 u91 u92 u93 u94 u95 u96 u97 u98 u99 u100 u101 u102 u103 u104 u105 : Value) (v : World) (bf n m c : Nat) (o : List Nat) (a : Option Addr) (ca : Nat) (hm : 0 < m) (hol : o.length = n) (hF : FOk o) (c0 : v.cell? ⟨bf, 0 * 2, none⟩ = some (.int .i64 (o.length : Nat))) (c1 : v.cell? ⟨bf, 0 * 2 + 1, none⟩ = some (.slice a o.length ca)) (hr : Row v a o.length (fun k => (nth o k : Nat))) : (atc [1, 1, 1, 1, 0, 1, 2, 2, 1, 0, 2, 0] (Tryd.f6.body.getD .skip)).wp Tryd.prog (fun e s w => e = .normal ∧ s.defers = [] ∧ HB v w ∧ s.tmps.size = 106 ∧ s.tmps[85]? = some (.bool false) ∧ ∀ j, j < 9 → s.tmps[j]? = (.int .i64 (n : Nat) :: u1 :: u2 :: u3 :: u4 :: .slice (some ⟨bf, 0, none⟩) m c :: u6 :: .int .i64 0 :: u8 :: u9 :: u10 :: u11 :: u12 :: u13 :: u14 :: u15 :: u16 :: u17 :: u18 :: u19 :: u20 :: u21 :: u22 :: u23 :: u24 :: u25 :: u26 :: u27 :: u28 :: u29 :: u30 :: u31 :: u32 :: u33 :: u34 :: u35 :: u36 :: u37 :: u38 :: u39 :: u40 :: u41 :: u42 :: u43 :: u44 :: u45 :: u46 :: u47 :: u48 :: u49 :: u50 :: u51 :: u52 :: u53 :: u54 :: u55 :: u56 :: u57 :: u58 :: u59 :: u60 :: u61 :: u62 :: u63 :: u64 :: u65 :: u66 :: u67 :: u68 :: u69 :: u70 :: u71 :: u72 :: u73 :: u74 :: u75 :: u76 :: u77 :: u78 :: u79 :: u80 :: u81 :: u82 :: u83 :: u84 :: u85 :: u86 :: u87 :: u88 :: u89 :: u90 :: u91 :: u92 :: u93 :: u94 :: u95 :: u96 :: u97 :: u98 :: u99 :: u100 :: u101 :: u102 :: u103 :: u104 :: u105 :: []).toArray[j]?) ⟨(.int .i64 (n : Nat) :: u1 :: u2 :: u3 :: u4 :: .slice (some ⟨bf, 0, none⟩) m c :: u6 :: .int .i64 0 :: u8 :: u9 :: u10 :: u11 :: u12 :: u13 :: u14 :: u15 :: u16 :: u17 :: u18 :: u19 :: u20 :: u21 :: u22 :: u23 :: u24 :: u25 :: u26 :: u27 :: u28 :: u29 :: u30 :: u31 :: u32 :: u33 :: u34 :: u35 :: u36 :: u37 :: u38 :: u39 :: u40 :: u41 :: u42 :: u43 :: u44 :: u45 :: u46 :: u47 :: u48 :: u49 :: u50 :: u51 :: u52 :: u53 :: u54 :: u55 :: u56 :: u57 :: u58 :: u59 :: u60 :: u61 :: u62 :: u63 :: u64 :: u65 :: u66 :: u67 :: u68 :: u69 :: u70 :: u71 :: u72 :: u73 :: u74 :: u75 :: u76 :: u77 :: u78 :: u79 :: u80 :: u81 :: u82 :: u83 :: u84 :: u85 :: u86 :: u87 :: u88 :: u89 :: u90 :: u91 :: u92 :: u93 :: u94 :: u95 :: u96 :: u97 :: u98 :: u99 :: u100 :: u101 :: u102 :: u103 :: u104 :: u105 :: []).toArray, []⟩ v := by
  simp only [Tryd.f6, Option.getD_some, atc]
  have hm' : (0 : Int) < (m : Int) := by omega
  have hl := hF.1
  have KK : v.drew.cell? ⟨bf, 0 * 2, none⟩ = some (.int .i64 (n : Nat)) ∧ v.drew.cell? ⟨bf, 0 * 2 + 1, none⟩ = some (.slice a n ca) ∧ Below v.heap.size v v.drew := ⟨by rw [← hol]; exact c0, by rw [← hol]; exact c1, (Below.refl _ _).drew⟩
  have HCK : Hid (∀ w', Below v.heap.size v w' → Calls Tryd.prog 23 #[.agg #[.int .i64 (n : Nat), .slice a n ca]] w' fun e w2 => e = .returned (.int .i64 0) ∧ Below w'.heap.size w' w2) := fun w' hb => by
    rw [← hol]
    refine (checkOrder_any (o.length : Nat) a o.length ca (fun k => (nth o k : Nat)) w' (by unfold maxLen; omega) (hr.below hb)).mono ?_
    rintro e w2 ⟨⟨c, rfl, hc⟩, hb2⟩
    rw [Chk.unique hc hF.2.2]
    exact ⟨rfl, hb2⟩
  clear hr hF hol c0 c1 hl
  refine wp_region_held_drew (S := fun w' => w'.cell? ⟨bf, 0 * 2, none⟩ = some (.int .i64 (n : Nat)) ∧ w'.cell? ⟨bf, 0 * 2 + 1, none⟩ = some (.slice a n ca) ∧ Below v.heap.size v w') (by kernel_rfl) (KK) (fun hHeld => ?_)
  refine wpAnyH_take (i := 0) (oi := { dst := some 52, op := Go.Op.move (Go.Operand.tmp 5), type := 45, pos := "embed.go:476", after := #[], guard := none }) (v := ?_) rfl (by kernel_rfl) (by kernel_rfl) (by kernel_rfl) (by intro _ _ _ h; cases h.1) (Or.inl ⟨by rfl, ?hy⟩) (by assumption) ?_
  case hy => (intro w9 hSw; (try dsimp only at hSw); go_simp; try with_reducible rfl)
  try simp only [Act.put, List.setIfInBounds_toArray, List.set_cons_zero, List.set_cons_succ]
  refine wpAnyH_take (i := 1) (oi := { dst := some 53, op := Go.Op.move (Go.Operand.tmp 7), type := 3, pos := "embed.go:476", after := #[], guard := none }) (v := ?_) rfl (by kernel_rfl) (by kernel_rfl) (by kernel_rfl) (by intro _ _ _ h; cases h.1) (Or.inl ⟨by rfl, ?hy⟩) (by assumption) ?_
  case hy => (intro w9 hSw; (try dsimp only at hSw); go_simp; try with_reducible rfl)
  try simp only [Act.put, List.setIfInBounds_toArray, List.set_cons_zero, List.set_cons_succ]
  refine wpAnyH_take (i := 2) (oi := { dst := some 54, op := Go.Op.indexAddr 45 (Go.Operand.tmp 52) (Go.Operand.tmp 53), type := 0, pos := "embed.go:476", after := #[{ on := 0, ground := Go.Ground.data }, { on := 1, ground := Go.Ground.data }], guard := none }) (v := ?_) rfl (by kernel_rfl) (by kernel_rfl) (by kernel_rfl) (by intro _ _ _ h; cases h.1) (Or.inl ⟨by rfl, ?hy⟩) (by assumption) ?_
  case hy => (intro w9 hSw; (try dsimp only at hSw); go_simp; try with_reducible rfl)
  try simp only [Act.put, List.setIfInBounds_toArray, List.set_cons_zero, List.set_cons_succ]
  refine wpAnyH_take (i := 3) (oi := { dst := some 55, op := Go.Op.load 24 (Go.Operand.tmp 54), type := 24, pos := "embed.go:476", after := #[{ on := 2, ground := Go.Ground.data }], guard := none }) (v := ?_) rfl (by kernel_rfl) (by kernel_rfl) (by kernel_rfl) (by intro _ _ _ h; cases h.1) (Or.inl ⟨by rfl, ?hy⟩) (by assumption) ?_
  case hy => (intro w9 hSw; (try dsimp only at hSw); go_simp; try with_reducible rfl)
  try simp only [Act.put, List.setIfInBounds_toArray, List.set_cons_zero, List.set_cons_succ]
  refine wpAnyH_ready (rs := [4]) (by kernel_rfl) (by simp) ?_
  refine AllReadyH.cons (o := { dst := some 56, op := Go.Op.call { callee := Go.Callee.value (Go.Operand.func 23), args := #[Go.Operand.tmp 55], argTypes := #[24] }, type := 25, pos := "embed.go:476", after := #[{ on := 3, ground := Go.Ground.data }], guard := none }) rfl (fun K hK => ?_) AllReadyH.nil
  go_simp
  go_at_call 23
  refine (HCK.out _ (q3_below hHeld)).mono ?_
  rintro e w2 ⟨rfl, hb2⟩
  refine hK.out _ _ ?_ (fun hHeld => ?_)
  · exact q3_step hHeld hb2
  clear hK K
  try simp only [Act.put, List.setIfInBounds_toArray, List.set_cons_zero, List.set_cons_succ]
  refine wpAnyH_take (i := 5) (oi := { dst := some 57, op := Go.Op.binOp Go.BinOp.neq 25 (Go.Operand.tmp 56) (Go.Operand.const (Go.Value.int Go.IntKind.i64 0)) 25, type := 4, pos := "embed.go:476", after := #[{ on := 4, ground := Go.Ground.data }], guard := none }) (v := ?_) rfl (by kernel_rfl) (by kernel_rfl) (by kernel_rfl) (by intro _ _ _ h; cases h.1) (Or.inl ⟨by rfl, ?hy⟩) (by assumption) ?_
  case hy => (intro w9 hSw; (try dsimp only at hSw); go_simp; try with_reducible rfl)
  try simp only [Act.put, List.setIfInBounds_toArray, List.set_cons_zero, List.set_cons_succ]
  refine wpAnyH_take (i := 6) (oi := { dst := some 58, op := Go.Op.move (Go.Operand.tmp 57), type := 4, pos := "embed.go:476", after := #[{ on := 5, ground := Go.Ground.data }, { on := 4, ground := Go.Ground.chain }], guard := none }) (v := ?_) rfl (by kernel_rfl) (by kernel_rfl) (by kernel_rfl) (by intro _ _ _ h; cases h.1) (Or.inl ⟨by rfl, ?hy⟩) (by assumption) ?_
  case hy => (intro w9 hSw; (try dsimp only at hSw); go_simp; try with_reducible rfl)
  try simp only [Act.put, List.setIfInBounds_toArray, List.set_cons_zero, List.set_cons_succ]
  refine wpAnyH_take (i := 7) (oi := { dst := some 59, op := Go.Op.move (Go.Operand.tmp 5), type := 45, pos := "embed.go:476", after := #[{ on := 6, ground := Go.Ground.guard }], guard := some (6, false) }) (v := ?_) rfl (by kernel_rfl) (by kernel_rfl) (by kernel_rfl) (by intro _ _ _ h; cases h.1) (Or.inl ⟨by rfl, ?hy⟩) (by assumption) ?_
  case hy => (intro w9 hSw; (try dsimp only at hSw); go_simp; try with_reducible rfl)
  try simp only [Act.put, List.setIfInBounds_toArray, List.set_cons_zero, List.set_cons_succ]
  refine wpAnyH_take (i := 8) (oi := { dst := some 60, op := Go.Op.move (Go.Operand.tmp 7), type := 3, pos := "embed.go:476", after := #[{ on := 6, ground := Go.Ground.guard }], guard := some (6, false) }) (v := ?_) rfl (by kernel_rfl) (by kernel_rfl) (by kernel_rfl) (by intro _ _ _ h; cases h.1) (Or.inl ⟨by rfl, ?hy⟩) (by assumption) ?_
  case hy => (intro w9 hSw; (try dsimp only at hSw); go_simp; try with_reducible rfl)
  try simp only [Act.put, List.setIfInBounds_toArray, List.set_cons_zero, List.set_cons_succ]
  refine wpAnyH_take (i := 9) (oi := { dst := some 61, op := Go.Op.indexAddr 45 (Go.Operand.tmp 59) (Go.Operand.tmp 60), type := 0, pos := "embed.go:476", after := #[{ on := 7, ground := Go.Ground.data }, { on := 8, ground := Go.Ground.data }, { on := 6, ground := Go.Ground.guard }], guard := some (6, false) }) (v := ?_) rfl (by kernel_rfl) (by kernel_rfl) (by kernel_rfl) (by intro _ _ _ h; cases h.1) (Or.inl ⟨by rfl, ?hy⟩) (by assumption) ?_
  case hy => (intro w9 hSw; (try dsimp only at hSw); go_simp; try with_reducible rfl)
  try simp only [Act.put, List.setIfInBounds_toArray, List.set_cons_zero, List.set_cons_succ]
  refine wpAnyH_take (i := 10) (oi := { dst := some 62, op := Go.Op.fieldAddr 24 (Go.Operand.tmp 61) 0, type := 0, pos := "embed.go:476", after := #[{ on := 9, ground := Go.Ground.data }, { on := 6, ground := Go.Ground.guard }], guard := some (6, false) }) (v := ?_) rfl (by kernel_rfl) (by kernel_rfl) (by kernel_rfl) (by intro _ _ _ h; cases h.1) (Or.inl ⟨by rfl, ?hy⟩) (by assumption) ?_
  case hy => (intro w9 hSw; (try dsimp only at hSw); go_simp; try with_reducible rfl)
  try simp only [Act.put, List.setIfInBounds_toArray, List.set_cons_zero, List.set_cons_succ]
  refine wpAnyH_take (i := 11) (oi := { dst := some 63, op := Go.Op.load 3 (Go.Operand.tmp 62), type := 3, pos := "embed.go:476", after := #[{ on := 10, ground := Go.Ground.data }, { on := 6, ground := Go.Ground.guard }], guard := some (6, false) }) (v := ?_) rfl (by kernel_rfl) (by kernel_rfl) (by kernel_rfl) (by intro _ _ _ h; cases h.1) (Or.inl ⟨by rfl, ?hy⟩) (by assumption) ?_
  case hy => (intro w9 hSw; (try dsimp only at hSw); go_simp; try with_reducible rfl)
  try simp only [Act.put, List.setIfInBounds_toArray, List.set_cons_zero, List.set_cons_succ]
  refine wpAnyH_take (i := 12) (oi := { dst := some 64, op := Go.Op.move (Go.Operand.tmp 0), type := 3, pos := "embed.go:476", after := #[{ on := 6, ground := Go.Ground.guard }], guard := some (6, false) }) (v := ?_) rfl (by kernel_rfl) (by kernel_rfl) (by kernel_rfl) (by intro _ _ _ h; cases h.1) (Or.inl ⟨by rfl, ?hy⟩) (by assumption) ?_
  case hy => (intro w9 hSw; (try dsimp only at hSw); go_simp; try with_reducible rfl)
  try simp only [Act.put, List.setIfInBounds_toArray, List.set_cons_zero, List.set_cons_succ]
  refine wpAnyH_take (i := 13) (oi := { dst := some 65, op := Go.Op.binOp Go.BinOp.neq 3 (Go.Operand.tmp 63) (Go.Operand.tmp 64) 3, type := 4, pos := "embed.go:476", after := #[{ on := 11, ground := Go.Ground.data }, { on := 12, ground := Go.Ground.data }, { on := 6, ground := Go.Ground.guard }], guard := some (6, false) }) (v := ?_) rfl (by kernel_rfl) (by kernel_rfl) (by kernel_rfl) (by intro _ _ _ h; cases h.1) (Or.inl ⟨by rfl, ?hy⟩) (by assumption) ?_
  case hy => (intro w9 hSw; (try dsimp only at hSw); go_simp; try with_reducible rfl)
  try simp only [Act.put, List.setIfInBounds_toArray, List.set_cons_zero, List.set_cons_succ]
  refine wpAnyH_take (i := 14) (oi := { dst := some 66, op := Go.Op.pick (Go.Operand.tmp 58) (Go.Operand.const (Go.Value.bool true)) (Go.Operand.tmp 65), type := 4, pos := "embed.go:476", after := #[{ on := 6, ground := Go.Ground.data }, { on := 13, ground := Go.Ground.data }], guard := none }) (v := ?_) rfl (by kernel_rfl) (by kernel_rfl) (by kernel_rfl) (by intro _ _ _ h; cases h.1) (Or.inl ⟨by rfl, ?hy⟩) (by assumption) ?_
  case hy => (intro w9 hSw; (try dsimp only at hSw); go_simp; try with_reducible rfl)
  try simp only [Act.put, List.setIfInBounds_toArray, List.set_cons_zero, List.set_cons_succ]
  refine wpAnyH_take (i := 15) (oi := { dst := some 67, op := Go.Op.move (Go.Operand.tmp 66), type := 4, pos := "embed.go:476", after := #[{ on := 14, ground := Go.Ground.data }, { on := 6, ground := Go.Ground.chain }], guard := none }) (v := ?_) rfl (by kernel_rfl) (by kernel_rfl) (by kernel_rfl) (by intro _ _ _ h; cases h.1) (Or.inl ⟨by rfl, ?hy⟩) (by assumption) ?_
  case hy => (intro w9 hSw; (try dsimp only at hSw); go_simp; try with_reducible rfl)
  try simp only [Act.put, List.setIfInBounds_toArray, List.set_cons_zero, List.set_cons_succ]
  refine wpAnyH_take (i := 16) (oi := { dst := some 68, op := Go.Op.move (Go.Operand.tmp 7), type := 3, pos := "embed.go:476", after := #[{ on := 15, ground := Go.Ground.guard }], guard := some (15, false) }) (v := ?_) rfl (by kernel_rfl) (by kernel_rfl) (by kernel_rfl) (by intro _ _ _ h; cases h.1) (Or.inl ⟨by rfl, ?hy⟩) (by assumption) ?_
  case hy => (intro w9 hSw; (try dsimp only at hSw); go_simp; try with_reducible rfl)
  try simp only [Act.put, List.setIfInBounds_toArray, List.set_cons_zero, List.set_cons_succ]
  refine wpAnyH_take (i := 17) (oi := { dst := some 69, op := Go.Op.binOp Go.BinOp.gtr 3 (Go.Operand.tmp 68) (Go.Operand.const (Go.Value.int Go.IntKind.i64 0)) 3, type := 4, pos := "embed.go:476", after := #[{ on := 16, ground := Go.Ground.data }, { on := 15, ground := Go.Ground.guard }], guard := some (15, false) }) (v := ?_) rfl (by kernel_rfl) (by kernel_rfl) (by kernel_rfl) (by intro _ _ _ h; cases h.1) (Or.inl ⟨by rfl, ?hy⟩) (by assumption) ?_
  case hy => (intro w9 hSw; (try dsimp only at hSw); go_simp; try with_reducible rfl)
  try simp only [Act.put, List.setIfInBounds_toArray, List.set_cons_zero, List.set_cons_succ]
  refine wpAnyH_take (i := 18) (oi := { dst := some 70, op := Go.Op.move (Go.Operand.tmp 69), type := 4, pos := "embed.go:476", after := #[{ on := 17, ground := Go.Ground.data }, { on := 15, ground := Go.Ground.chain }, { on := 15, ground := Go.Ground.guard }], guard := some (15, false) }) (v := ?_) rfl (by kernel_rfl) (by kernel_rfl) (by kernel_rfl) (by intro _ _ _ h; cases h.1) (Or.inl ⟨by rfl, ?hy⟩) (by assumption) ?_
  case hy => (intro w9 hSw; (try dsimp only at hSw); go_simp; try with_reducible rfl)
  try simp only [Act.put, List.setIfInBounds_toArray, List.set_cons_zero, List.set_cons_succ]
  refine wpAnyH_take (i := 19) (oi := { dst := some 71, op := Go.Op.move (Go.Operand.tmp 5), type := 45, pos := "embed.go:476", after := #[{ on := 18, ground := Go.Ground.guard }], guard := some (18, true) }) (v := undef) rfl (by kernel_rfl) (by kernel_rfl) (by kernel_rfl) (by intro _ _ _ h; cases h.1) (Or.inr ⟨by rfl, rfl⟩) (by assumption) ?_
  try simp only [Act.put, List.setIfInBounds_toArray, List.set_cons_zero, List.set_cons_succ]
  refine wpAnyH_take (i := 20) (oi := { dst := some 72, op := Go.Op.move (Go.Operand.tmp 7), type := 3, pos := "embed.go:476", after := #[{ on := 18, ground := Go.Ground.guard }], guard := some (18, true) }) (v := undef) rfl (by kernel_rfl) (by kernel_rfl) (by kernel_rfl) (by intro _ _ _ h; cases h.1) (Or.inr ⟨by rfl, rfl⟩) (by assumption) ?_
  try simp only [Act.put, List.setIfInBounds_toArray, List.set_cons_zero, List.set_cons_succ]
  refine wpAnyH_take (i := 21) (oi := { dst := some 73, op := Go.Op.binOp Go.BinOp.sub 3 (Go.Operand.tmp 72) (Go.Operand.const (Go.Value.int Go.IntKind.i64 1)) 3, type := 3, pos := "embed.go:476", after := #[{ on := 20, ground := Go.Ground.data }, { on := 18, ground := Go.Ground.guard }], guard := some (18, true) }) (v := undef) rfl (by kernel_rfl) (by kernel_rfl) (by kernel_rfl) (by intro _ _ _ h; cases h.1) (Or.inr ⟨by rfl, rfl⟩) (by assumption) ?_
  try simp only [Act.put, List.setIfInBounds_toArray, List.set_cons_zero, List.set_cons_succ]
  refine wpAnyH_take (i := 22) (oi := { dst := some 74, op := Go.Op.indexAddr 45 (Go.Operand.tmp 71) (Go.Operand.tmp 73), type := 0, pos := "embed.go:476", after := #[{ on := 19, ground := Go.Ground.data }, { on := 21, ground := Go.Ground.data }, { on := 18, ground := Go.Ground.guard }], guard := some (18, true) }) (v := undef) rfl (by kernel_rfl) (by kernel_rfl) (by kernel_rfl) (by intro _ _ _ h; cases h.1) (Or.inr ⟨by rfl, rfl⟩) (by assumption) ?_
  try simp only [Act.put, List.setIfInBounds_toArray, List.set_cons_zero, List.set_cons_succ]
  refine wpAnyH_take (i := 23) (oi := { dst := some 75, op := Go.Op.fieldAddr 24 (Go.Operand.tmp 74) 1, type := 0, pos := "embed.go:476", after := #[{ on := 22, ground := Go.Ground.data }, { on := 18, ground := Go.Ground.guard }], guard := some (18, true) }) (v := undef) rfl (by kernel_rfl) (by kernel_rfl) (by kernel_rfl) (by intro _ _ _ h; cases h.1) (Or.inr ⟨by rfl, rfl⟩) (by assumption) ?_
  try simp only [Act.put, List.setIfInBounds_toArray, List.set_cons_zero, List.set_cons_succ]
  refine wpAnyH_take (i := 24) (oi := { dst := some 76, op := Go.Op.load 22 (Go.Operand.tmp 75), type := 22, pos := "embed.go:476", after := #[{ on := 23, ground := Go.Ground.data }, { on := 18, ground := Go.Ground.guard }], guard := some (18, true) }) (v := undef) rfl (by kernel_rfl) (by kernel_rfl) (by kernel_rfl) (by intro _ _ _ h; cases h.1) (Or.inr ⟨by rfl, rfl⟩) (by assumption) ?_
  try simp only [Act.put, List.setIfInBounds_toArray, List.set_cons_zero, List.set_cons_succ]
  refine wpAnyH_take (i := 25) (oi := { dst := some 77, op := Go.Op.move (Go.Operand.tmp 5), type := 45, pos := "embed.go:476", after := #[{ on := 18, ground := Go.Ground.guard }], guard := some (18, true) }) (v := undef) rfl (by kernel_rfl) (by kernel_rfl) (by kernel_rfl) (by intro _ _ _ h; cases h.1) (Or.inr ⟨by rfl, rfl⟩) (by assumption) ?_
  try simp only [Act.put, List.setIfInBounds_toArray, List.set_cons_zero, List.set_cons_succ]
  refine wpAnyH_take (i := 26) (oi := { dst := some 78, op := Go.Op.move (Go.Operand.tmp 7), type := 3, pos := "embed.go:476", after := #[{ on := 18, ground := Go.Ground.guard }], guard := some (18, true) }) (v := undef) rfl (by kernel_rfl) (by kernel_rfl) (by kernel_rfl) (by intro _ _ _ h; cases h.1) (Or.inr ⟨by rfl, rfl⟩) (by assumption) ?_
  try simp only [Act.put, List.setIfInBounds_toArray, List.set_cons_zero, List.set_cons_succ]
  refine wpAnyH_take (i := 27) (oi := { dst := some 79, op := Go.Op.indexAddr 45 (Go.Operand.tmp 77) (Go.Operand.tmp 78), type := 0, pos := "embed.go:476", after := #[{ on := 25, ground := Go.Ground.data }, { on := 26, ground := Go.Ground.data }, { on := 18, ground := Go.Ground.guard }], guard := some (18, true) }) (v := undef) rfl (by kernel_rfl) (by kernel_rfl) (by kernel_rfl) (by intro _ _ _ h; cases h.1) (Or.inr ⟨by rfl, rfl⟩) (by assumption) ?_
  try simp only [Act.put, List.setIfInBounds_toArray, List.set_cons_zero, List.set_cons_succ]
  refine wpAnyH_take (i := 28) (oi := { dst := some 80, op := Go.Op.fieldAddr 24 (Go.Operand.tmp 79) 1, type := 0, pos := "embed.go:476", after := #[{ on := 27, ground := Go.Ground.data }, { on := 18, ground := Go.Ground.guard }], guard := some (18, true) }) (v := undef) rfl (by kernel_rfl) (by kernel_rfl) (by kernel_rfl) (by intro _ _ _ h; cases h.1) (Or.inr ⟨by rfl, rfl⟩) (by assumption) ?_
  try simp only [Act.put, List.setIfInBounds_toArray, List.set_cons_zero, List.set_cons_succ]
  refine wpAnyH_take (i := 29) (oi := { dst := some 81, op := Go.Op.load 22 (Go.Operand.tmp 80), type := 22, pos := "embed.go:476", after := #[{ on := 28, ground := Go.Ground.data }, { on := 18, ground := Go.Ground.guard }], guard := some (18, true) }) (v := undef) rfl (by kernel_rfl) (by kernel_rfl) (by kernel_rfl) (by intro _ _ _ h; cases h.1) (Or.inr ⟨by rfl, rfl⟩) (by assumption) ?_
  try simp only [Act.put, List.setIfInBounds_toArray, List.set_cons_zero, List.set_cons_succ]
  refine wpAnyH_take (i := 30) (oi := { dst := some 82, op := Go.Op.call { callee := Go.Callee.value (Go.Operand.func 24), args := #[Go.Operand.tmp 76, Go.Operand.tmp 81], argTypes := #[22, 22] }, type := 4, pos := "embed.go:476", after := #[{ on := 24, ground := Go.Ground.data }, { on := 29, ground := Go.Ground.data }, { on := 18, ground := Go.Ground.chain }, { on := 18, ground := Go.Ground.guard }], guard := some (18, true) }) (v := undef) rfl (by kernel_rfl) (by kernel_rfl) (by kernel_rfl) (by intro _ _ _ h; cases h.1) (Or.inr ⟨by rfl, rfl⟩) (by assumption) ?_
  try simp only [Act.put, List.setIfInBounds_toArray, List.set_cons_zero, List.set_cons_succ]
  refine wpAnyH_take (i := 31) (oi := { dst := some 83, op := Go.Op.unOp Go.UnOp.not 4 (Go.Operand.tmp 82), type := 4, pos := "embed.go:476", after := #[{ on := 30, ground := Go.Ground.data }, { on := 18, ground := Go.Ground.guard }], guard := some (18, true) }) (v := undef) rfl (by kernel_rfl) (by kernel_rfl) (by kernel_rfl) (by intro _ _ _ h; cases h.1) (Or.inr ⟨by rfl, rfl⟩) (by assumption) ?_
  try simp only [Act.put, List.setIfInBounds_toArray, List.set_cons_zero, List.set_cons_succ]
  refine wpAnyH_take (i := 32) (oi := { dst := some 84, op := Go.Op.pick (Go.Operand.tmp 70) (Go.Operand.tmp 83) (Go.Operand.const (Go.Value.bool false)), type := 4, pos := "embed.go:476", after := #[{ on := 18, ground := Go.Ground.data }, { on := 31, ground := Go.Ground.data }, { on := 15, ground := Go.Ground.guard }], guard := some (15, false) }) (v := ?_) rfl (by kernel_rfl) (by kernel_rfl) (by kernel_rfl) (by intro _ _ _ h; cases h.1) (Or.inl ⟨by rfl, ?hy⟩) (by assumption) ?_
  case hy => (intro w9 hSw; (try dsimp only at hSw); go_simp; try with_reducible rfl)
  try simp only [Act.put, List.setIfInBounds_toArray, List.set_cons_zero, List.set_cons_succ]
  refine wpAnyH_take (i := 33) (oi := { dst := some 85, op := Go.Op.pick (Go.Operand.tmp 67) (Go.Operand.const (Go.Value.bool true)) (Go.Operand.tmp 84), type := 4, pos := "embed.go:476", after := #[{ on := 15, ground := Go.Ground.data }, { on := 32, ground := Go.Ground.data }], guard := none }) (v := ?_) rfl (by kernel_rfl) (by kernel_rfl) (by kernel_rfl) (by intro _ _ _ h; cases h.1) (Or.inl ⟨by rfl, ?hy⟩) (by assumption) ?_
  case hy => (intro w9 hSw; (try dsimp only at hSw); go_simp; try with_reducible rfl)
  try simp only [Act.put, List.setIfInBounds_toArray, List.set_cons_zero, List.set_cons_succ]
  refine wpAnyH_done (by kernel_rfl) ?_ _
  refine ⟨(by first | rfl | trivial), (by first | rfl | trivial), below_hb (q3_below hHeld), (by first | rfl | trivial), (by first | rfl | trivial), fun j hj => ?_⟩
  match j, hj with
  | 0, _ => rfl
  | 1, _ => rfl
  | 2, _ => rfl
  | 3, _ => rfl
  | 4, _ => rfl
  | 5, _ => rfl
  | 6, _ => rfl
  | 7, _ => rfl
  | 8, _ => rfl
  | j + 9, h => exact absurd h (by omega)
set_option maxHeartbeats 4000000 in
theorem c_r9b (u1 u2 u3 u4 u6 u8 u9 u10 u11 u12 u13 u14 u15 u16 u17 u18 u19 u20 u21 u22 u23 u24 u25 u26 u27 u28 u29 u30 u31 u32 u33 u34 u35 u36 u37 u38 u39 u40 u41 u42 u43 u44 u45 u46 u47 u48 u49 u50 u51 u52 u53 u54 u55 u56 u57 u58 u59 u60 u61 u62 u63 u64 u65 u66 u67 u68 u69 u70 u71 u72 u73 u74 u75 u76 u77 u78 u79 u80 u81 u82 u83 u84 u85 u86 u87 u88 u89 u90 u91 u92 u93 u94 u95 u96 u97 u98 u99 u100 u101 u102 u103 u104 u105 : Value) (v : World) (bf n m c i k : Nat) (o o2 : List Nat) (a a2 : Option Addr) (ca ca2 : Nat) (hik : i = k + 1) (hm : i < m) (hm2 : i < 1000) (hol : o.length = n) (hol2 : o2.length = n) (hF : FOk o) (hlt : cmpF (nth o2) (nth o) n 0 < 0) (c0 : v.cell? ⟨bf, i * 2, none⟩ = some (.int .i64 (o.length : Nat))) (c1 : v.cell? ⟨bf, i * 2 + 1, none⟩ = some (.slice a o.length ca)) (hr : Row v a o.length (fun k => (nth o k : Nat))) (c2 : v.cell? ⟨bf, k * 2 + 1, none⟩ = some (.slice a2 o2.length ca2)) (hr2 : Row v a2 o2.length (fun k => (nth o2 k : Nat))) : (atc [1, 1, 1, 1, 0, 1, 2, 2, 1, 0, 2, 0] (Tryd.f6.body.getD .skip)).wp Tryd.prog (fun e s w => e = .normal ∧ s.defers = [] ∧ HB v w ∧ s.tmps.size = 106 ∧ s.tmps[85]? = some (.bool false) ∧ ∀ j, j < 9 → s.tmps[j]? = (.int .i64 (n : Nat) :: u1 :: u2 :: u3 :: u4 :: .slice (some ⟨bf, 0, none⟩) m c :: u6 :: .int .i64 (i : Nat) :: u8 :: u9 :: u10 :: u11 :: u12 :: u13 :: u14 :: u15 :: u16 :: u17 :: u18 :: u19 :: u20 :: u21 :: u22 :: u23 :: u24 :: u25 :: u26 :: u27 :: u28 :: u29 :: u30 :: u31 :: u32 :: u33 :: u34 :: u35 :: u36 :: u37 :: u38 :: u39 :: u40 :: u41 :: u42 :: u43 :: u44 :: u45 :: u46 :: u47 :: u48 :: u49 :: u50 :: u51 :: u52 :: u53 :: u54 :: u55 :: u56 :: u57 :: u58 :: u59 :: u60 :: u61 :: u62 :: u63 :: u64 :: u65 :: u66 :: u67 :: u68 :: u69 :: u70 :: u71 :: u72 :: u73 :: u74 :: u75 :: u76 :: u77 :: u78 :: u79 :: u80 :: u81 :: u82 :: u83 :: u84 :: u85 :: u86 :: u87 :: u88 :: u89 :: u90 :: u91 :: u92 :: u93 :: u94 :: u95 :: u96 :: u97 :: u98 :: u99 :: u100 :: u101 :: u102 :: u103 :: u104 :: u105 :: []).toArray[j]?) ⟨(.int .i64 (n : Nat) :: u1 :: u2 :: u3 :: u4 :: .slice (some ⟨bf, 0, none⟩) m c :: u6 :: .int .i64 (i : Nat) :: u8 :: u9 :: u10 :: u11 :: u12 :: u13 :: u14 :: u15 :: u16 :: u17 :: u18 :: u19 :: u20 :: u21 :: u22 :: u23 :: u24 :: u25 :: u26 :: u27 :: u28 :: u29 :: u30 :: u31 :: u32 :: u33 :: u34 :: u35 :: u36 :: u37 :: u38 :: u39 :: u40 :: u41 :: u42 :: u43 :: u44 :: u45 :: u46 :: u47 :: u48 :: u49 :: u50 :: u51 :: u52 :: u53 :: u54 :: u55 :: u56 :: u57 :: u58 :: u59 :: u60 :: u61 :: u62 :: u63 :: u64 :: u65 :: u66 :: u67 :: u68 :: u69 :: u70 :: u71 :: u72 :: u73 :: u74 :: u75 :: u76 :: u77 :: u78 :: u79 :: u80 :: u81 :: u82 :: u83 :: u84 :: u85 :: u86 :: u87 :: u88 :: u89 :: u90 :: u91 :: u92 :: u93 :: u94 :: u95 :: u96 :: u97 :: u98 :: u99 :: u100 :: u101 :: u102 :: u103 :: u104 :: u105 :: []).toArray, []⟩ v := by
  simp only [Tryd.f6, Option.getD_some, atc]
  have hm' : (i : Int) < (m : Int) := by omega
  have hk' : (k : Int) < (m : Int) := by omega
  have hi0 : (0 : Int) < (i : Int) := by omega
  have hl := hF.1
  have hn40 : n ≤ 40 := by omega
  have hsub : (i : Int) - 1 = (k : Nat) := by omega
  have hwr : wrap64 ((i : Int) - 1) = (k : Nat) := by unfold wrap64; omega
  have hwr2 : IntKind.i64.wrap ((i : Int) - 1) = (k : Nat) := by rw [IntKind.wrap_i64]; omega
  have hwr3 : IntKind.i64.wrap ((k : Nat) : Int) = (k : Nat) := by rw [IntKind.wrap_i64]; omega
  have KK : v.drew.cell? ⟨bf, i * 2, none⟩ = some (.int .i64 (n : Nat)) ∧ v.drew.cell? ⟨bf, i * 2 + 1, none⟩ = some (.slice a n ca) ∧ v.drew.cell? ⟨bf, k * 2 + 1, none⟩ = some (.slice a2 n ca2) ∧ v.drew.cell? ⟨bf, k * 2 + 1, none⟩ = some (.slice a2 n ca2) ∧ Below v.heap.size v v.drew := ⟨by rw [← hol]; exact c0, by rw [← hol]; exact c1, by rw [← hol2]; exact c2, by rw [← hol2]; exact c2, (Below.refl _ _).drew⟩
  have HCK : Hid (∀ w', Below v.heap.size v w' → Calls Tryd.prog 23 #[.agg #[.int .i64 (n : Nat), .slice a n ca]] w' fun e w2 => e = .returned (.int .i64 0) ∧ Below w'.heap.size w' w2) := fun w' hb => by
    rw [← hol]
    refine (checkOrder_any (o.length : Nat) a o.length ca (fun k => (nth o k : Nat)) w' (by unfold maxLen; omega) (hr.below hb)).mono ?_
    rintro e w2 ⟨⟨c, rfl, hc⟩, hb2⟩
    rw [Chk.unique hc hF.2.2]
    exact ⟨rfl, hb2⟩
  have HBF : Hid (∀ w', Below v.heap.size v w' → Calls Tryd.prog 24 #[.slice a2 n ca2, .slice a n ca] w' fun e w2 => e = .returned (.bool true) ∧ Below w'.heap.size w' w2) := fun w' hb => by
    refine (before_any n a2 a ca2 ca (nth o2) (nth o) w' hn40 (by rw [hol2] at hr2; exact hr2.below hb) (by rw [hol] at hr; exact hr.below hb)).mono ?_
    rintro e w2 ⟨rfl, hb2⟩
    rw [decide_eq_true hlt]
    exact ⟨rfl, hb2⟩
  clear hr hF hol c0 c1 hl hr2 c2 hol2 hlt hik
  refine wp_region_held_drew (S := fun w' => w'.cell? ⟨bf, i * 2, none⟩ = some (.int .i64 (n : Nat)) ∧ w'.cell? ⟨bf, i * 2 + 1, none⟩ = some (.slice a n ca) ∧ w'.cell? ⟨bf, k * 2 + 1, none⟩ = some (.slice a2 n ca2) ∧ w'.cell? ⟨bf, k * 2 + 1, none⟩ = some (.slice a2 n ca2) ∧ Below v.heap.size v w') (by kernel_rfl) (KK) (fun hHeld => ?_)
  refine wpAnyH_take (i := 0) (oi := { dst := some 52, op := Go.Op.move (Go.Operand.tmp 5), type := 45, pos := "embed.go:476", after := #[], guard := none }) (v := ?_) rfl (by kernel_rfl) (by kernel_rfl) (by kernel_rfl) (by intro _ _ _ h; cases h.1) (Or.inl ⟨by rfl, ?hy⟩) (by assumption) ?_
  case hy => (intro w9 hSw; (try dsimp only at hSw); go_simp; try with_reducible rfl)
  try simp only [Act.put, List.setIfInBounds_toArray, List.set_cons_zero, List.set_cons_succ]
  refine wpAnyH_take (i := 1) (oi := { dst := some 53, op := Go.Op.move (Go.Operand.tmp 7), type := 3, pos := "embed.go:476", after := #[], guard := none }) (v := ?_) rfl (by kernel_rfl) (by kernel_rfl) (by kernel_rfl) (by intro _ _ _ h; cases h.1) (Or.inl ⟨by rfl, ?hy⟩) (by assumption) ?_
  case hy => (intro w9 hSw; (try dsimp only at hSw); go_simp; try with_reducible rfl)
  try simp only [Act.put, List.setIfInBounds_toArray, List.set_cons_zero, List.set_cons_succ]
  refine wpAnyH_take (i := 2) (oi := { dst := some 54, op := Go.Op.indexAddr 45 (Go.Operand.tmp 52) (Go.Operand.tmp 53), type := 0, pos := "embed.go:476", after := #[{ on := 0, ground := Go.Ground.data }, { on := 1, ground := Go.Ground.data }], guard := none }) (v := ?_) rfl (by kernel_rfl) (by kernel_rfl) (by kernel_rfl) (by intro _ _ _ h; cases h.1) (Or.inl ⟨by rfl, ?hy⟩) (by assumption) ?_
  case hy => (intro w9 hSw; (try dsimp only at hSw); go_simp; try with_reducible rfl)
  try simp only [Act.put, List.setIfInBounds_toArray, List.set_cons_zero, List.set_cons_succ]
  refine wpAnyH_take (i := 3) (oi := { dst := some 55, op := Go.Op.load 24 (Go.Operand.tmp 54), type := 24, pos := "embed.go:476", after := #[{ on := 2, ground := Go.Ground.data }], guard := none }) (v := ?_) rfl (by kernel_rfl) (by kernel_rfl) (by kernel_rfl) (by intro _ _ _ h; cases h.1) (Or.inl ⟨by rfl, ?hy⟩) (by assumption) ?_
  case hy => (intro w9 hSw; (try dsimp only at hSw); go_simp; try with_reducible rfl)
  try simp only [Act.put, List.setIfInBounds_toArray, List.set_cons_zero, List.set_cons_succ]
  refine wpAnyH_ready (rs := [4]) (by kernel_rfl) (by simp) ?_
  refine AllReadyH.cons (o := { dst := some 56, op := Go.Op.call { callee := Go.Callee.value (Go.Operand.func 23), args := #[Go.Operand.tmp 55], argTypes := #[24] }, type := 25, pos := "embed.go:476", after := #[{ on := 3, ground := Go.Ground.data }], guard := none }) rfl (fun K hK => ?_) AllReadyH.nil
  go_simp
  go_at_call 23
  refine (HCK.out _ (p4_below hHeld)).mono ?_
  rintro e w2 ⟨rfl, hb2⟩
  refine hK.out _ _ ?_ (fun hHeld => ?_)
  · exact p4_step hHeld hb2
  clear hK K
  try simp only [Act.put, List.setIfInBounds_toArray, List.set_cons_zero, List.set_cons_succ]
  refine wpAnyH_take (i := 5) (oi := { dst := some 57, op := Go.Op.binOp Go.BinOp.neq 25 (Go.Operand.tmp 56) (Go.Operand.const (Go.Value.int Go.IntKind.i64 0)) 25, type := 4, pos := "embed.go:476", after := #[{ on := 4, ground := Go.Ground.data }], guard := none }) (v := ?_) rfl (by kernel_rfl) (by kernel_rfl) (by kernel_rfl) (by intro _ _ _ h; cases h.1) (Or.inl ⟨by rfl, ?hy⟩) (by assumption) ?_
  case hy => (intro w9 hSw; (try dsimp only at hSw); go_simp; try with_reducible rfl)
  try simp only [Act.put, List.setIfInBounds_toArray, List.set_cons_zero, List.set_cons_succ]
  refine wpAnyH_take (i := 6) (oi := { dst := some 58, op := Go.Op.move (Go.Operand.tmp 57), type := 4, pos := "embed.go:476", after := #[{ on := 5, ground := Go.Ground.data }, { on := 4, ground := Go.Ground.chain }], guard := none }) (v := ?_) rfl (by kernel_rfl) (by kernel_rfl) (by kernel_rfl) (by intro _ _ _ h; cases h.1) (Or.inl ⟨by rfl, ?hy⟩) (by assumption) ?_
  case hy => (intro w9 hSw; (try dsimp only at hSw); go_simp; try with_reducible rfl)
  try simp only [Act.put, List.setIfInBounds_toArray, List.set_cons_zero, List.set_cons_succ]
  refine wpAnyH_take (i := 7) (oi := { dst := some 59, op := Go.Op.move (Go.Operand.tmp 5), type := 45, pos := "embed.go:476", after := #[{ on := 6, ground := Go.Ground.guard }], guard := some (6, false) }) (v := ?_) rfl (by kernel_rfl) (by kernel_rfl) (by kernel_rfl) (by intro _ _ _ h; cases h.1) (Or.inl ⟨by rfl, ?hy⟩) (by assumption) ?_
  case hy => (intro w9 hSw; (try dsimp only at hSw); go_simp; try with_reducible rfl)
  try simp only [Act.put, List.setIfInBounds_toArray, List.set_cons_zero, List.set_cons_succ]
  refine wpAnyH_take (i := 8) (oi := { dst := some 60, op := Go.Op.move (Go.Operand.tmp 7), type := 3, pos := "embed.go:476", after := #[{ on := 6, ground := Go.Ground.guard }], guard := some (6, false) }) (v := ?_) rfl (by kernel_rfl) (by kernel_rfl) (by kernel_rfl) (by intro _ _ _ h; cases h.1) (Or.inl ⟨by rfl, ?hy⟩) (by assumption) ?_
  case hy => (intro w9 hSw; (try dsimp only at hSw); go_simp; try with_reducible rfl)
  try simp only [Act.put, List.setIfInBounds_toArray, List.set_cons_zero, List.set_cons_succ]
  refine wpAnyH_take (i := 9) (oi := { dst := some 61, op := Go.Op.indexAddr 45 (Go.Operand.tmp 59) (Go.Operand.tmp 60), type := 0, pos := "embed.go:476", after := #[{ on := 7, ground := Go.Ground.data }, { on := 8, ground := Go.Ground.data }, { on := 6, ground := Go.Ground.guard }], guard := some (6, false) }) (v := ?_) rfl (by kernel_rfl) (by kernel_rfl) (by kernel_rfl) (by intro _ _ _ h; cases h.1) (Or.inl ⟨by rfl, ?hy⟩) (by assumption) ?_
  case hy => (intro w9 hSw; (try dsimp only at hSw); go_simp; try with_reducible rfl)
  try simp only [Act.put, List.setIfInBounds_toArray, List.set_cons_zero, List.set_cons_succ]
  refine wpAnyH_take (i := 10) (oi := { dst := some 62, op := Go.Op.fieldAddr 24 (Go.Operand.tmp 61) 0, type := 0, pos := "embed.go:476", after := #[{ on := 9, ground := Go.Ground.data }, { on := 6, ground := Go.Ground.guard }], guard := some (6, false) }) (v := ?_) rfl (by kernel_rfl) (by kernel_rfl) (by kernel_rfl) (by intro _ _ _ h; cases h.1) (Or.inl ⟨by rfl, ?hy⟩) (by assumption) ?_
  case hy => (intro w9 hSw; (try dsimp only at hSw); go_simp; try with_reducible rfl)
  try simp only [Act.put, List.setIfInBounds_toArray, List.set_cons_zero, List.set_cons_succ]
  refine wpAnyH_take (i := 11) (oi := { dst := some 63, op := Go.Op.load 3 (Go.Operand.tmp 62), type := 3, pos := "embed.go:476", after := #[{ on := 10, ground := Go.Ground.data }, { on := 6, ground := Go.Ground.guard }], guard := some (6, false) }) (v := ?_) rfl (by kernel_rfl) (by kernel_rfl) (by kernel_rfl) (by intro _ _ _ h; cases h.1) (Or.inl ⟨by rfl, ?hy⟩) (by assumption) ?_
  case hy => (intro w9 hSw; (try dsimp only at hSw); go_simp; try with_reducible rfl)
  try simp only [Act.put, List.setIfInBounds_toArray, List.set_cons_zero, List.set_cons_succ]
  refine wpAnyH_take (i := 12) (oi := { dst := some 64, op := Go.Op.move (Go.Operand.tmp 0), type := 3, pos := "embed.go:476", after := #[{ on := 6, ground := Go.Ground.guard }], guard := some (6, false) }) (v := ?_) rfl (by kernel_rfl) (by kernel_rfl) (by kernel_rfl) (by intro _ _ _ h; cases h.1) (Or.inl ⟨by rfl, ?hy⟩) (by assumption) ?_
  case hy => (intro w9 hSw; (try dsimp only at hSw); go_simp; try with_reducible rfl)
  try simp only [Act.put, List.setIfInBounds_toArray, List.set_cons_zero, List.set_cons_succ]
  refine wpAnyH_take (i := 13) (oi := { dst := some 65, op := Go.Op.binOp Go.BinOp.neq 3 (Go.Operand.tmp 63) (Go.Operand.tmp 64) 3, type := 4, pos := "embed.go:476", after := #[{ on := 11, ground := Go.Ground.data }, { on := 12, ground := Go.Ground.data }, { on := 6, ground := Go.Ground.guard }], guard := some (6, false) }) (v := ?_) rfl (by kernel_rfl) (by kernel_rfl) (by kernel_rfl) (by intro _ _ _ h; cases h.1) (Or.inl ⟨by rfl, ?hy⟩) (by assumption) ?_
  case hy => (intro w9 hSw; (try dsimp only at hSw); go_simp; try with_reducible rfl)
  try simp only [Act.put, List.setIfInBounds_toArray, List.set_cons_zero, List.set_cons_succ]
  refine wpAnyH_take (i := 14) (oi := { dst := some 66, op := Go.Op.pick (Go.Operand.tmp 58) (Go.Operand.const (Go.Value.bool true)) (Go.Operand.tmp 65), type := 4, pos := "embed.go:476", after := #[{ on := 6, ground := Go.Ground.data }, { on := 13, ground := Go.Ground.data }], guard := none }) (v := ?_) rfl (by kernel_rfl) (by kernel_rfl) (by kernel_rfl) (by intro _ _ _ h; cases h.1) (Or.inl ⟨by rfl, ?hy⟩) (by assumption) ?_
  case hy => (intro w9 hSw; (try dsimp only at hSw); go_simp; try with_reducible rfl)
  try simp only [Act.put, List.setIfInBounds_toArray, List.set_cons_zero, List.set_cons_succ]
  refine wpAnyH_take (i := 15) (oi := { dst := some 67, op := Go.Op.move (Go.Operand.tmp 66), type := 4, pos := "embed.go:476", after := #[{ on := 14, ground := Go.Ground.data }, { on := 6, ground := Go.Ground.chain }], guard := none }) (v := ?_) rfl (by kernel_rfl) (by kernel_rfl) (by kernel_rfl) (by intro _ _ _ h; cases h.1) (Or.inl ⟨by rfl, ?hy⟩) (by assumption) ?_
  case hy => (intro w9 hSw; (try dsimp only at hSw); go_simp; try with_reducible rfl)
  try simp only [Act.put, List.setIfInBounds_toArray, List.set_cons_zero, List.set_cons_succ]
  refine wpAnyH_take (i := 16) (oi := { dst := some 68, op := Go.Op.move (Go.Operand.tmp 7), type := 3, pos := "embed.go:476", after := #[{ on := 15, ground := Go.Ground.guard }], guard := some (15, false) }) (v := ?_) rfl (by kernel_rfl) (by kernel_rfl) (by kernel_rfl) (by intro _ _ _ h; cases h.1) (Or.inl ⟨by rfl, ?hy⟩) (by assumption) ?_
  case hy => (intro w9 hSw; (try dsimp only at hSw); go_simp; try with_reducible rfl)
  try simp only [Act.put, List.setIfInBounds_toArray, List.set_cons_zero, List.set_cons_succ]
  refine wpAnyH_take (i := 17) (oi := { dst := some 69, op := Go.Op.binOp Go.BinOp.gtr 3 (Go.Operand.tmp 68) (Go.Operand.const (Go.Value.int Go.IntKind.i64 0)) 3, type := 4, pos := "embed.go:476", after := #[{ on := 16, ground := Go.Ground.data }, { on := 15, ground := Go.Ground.guard }], guard := some (15, false) }) (v := .bool true) rfl (by kernel_rfl) (by kernel_rfl) (by kernel_rfl) (by intro _ _ _ h; cases h.1) (Or.inl ⟨by rfl, ?hy⟩) (by assumption) ?_
  case hy => (intro w9 hSw; (try dsimp only at hSw); go_simp <;> (first | with_reducible rfl | (simp; omega) | omega))
  try simp only [Act.put, List.setIfInBounds_toArray, List.set_cons_zero, List.set_cons_succ]
  refine wpAnyH_take (i := 18) (oi := { dst := some 70, op := Go.Op.move (Go.Operand.tmp 69), type := 4, pos := "embed.go:476", after := #[{ on := 17, ground := Go.Ground.data }, { on := 15, ground := Go.Ground.chain }, { on := 15, ground := Go.Ground.guard }], guard := some (15, false) }) (v := ?_) rfl (by kernel_rfl) (by kernel_rfl) (by kernel_rfl) (by intro _ _ _ h; cases h.1) (Or.inl ⟨by rfl, ?hy⟩) (by assumption) ?_
  case hy => (intro w9 hSw; (try dsimp only at hSw); go_simp; try with_reducible rfl)
  try simp only [Act.put, List.setIfInBounds_toArray, List.set_cons_zero, List.set_cons_succ]
  refine wpAnyH_take (i := 19) (oi := { dst := some 71, op := Go.Op.move (Go.Operand.tmp 5), type := 45, pos := "embed.go:476", after := #[{ on := 18, ground := Go.Ground.guard }], guard := some (18, true) }) (v := ?_) rfl (by kernel_rfl) (by kernel_rfl) (by kernel_rfl) (by intro _ _ _ h; cases h.1) (Or.inl ⟨by rfl, ?hy⟩) (by assumption) ?_
  case hy => (intro w9 hSw; (try dsimp only at hSw); go_simp; try with_reducible rfl)
  try simp only [Act.put, List.setIfInBounds_toArray, List.set_cons_zero, List.set_cons_succ]
  refine wpAnyH_take (i := 20) (oi := { dst := some 72, op := Go.Op.move (Go.Operand.tmp 7), type := 3, pos := "embed.go:476", after := #[{ on := 18, ground := Go.Ground.guard }], guard := some (18, true) }) (v := ?_) rfl (by kernel_rfl) (by kernel_rfl) (by kernel_rfl) (by intro _ _ _ h; cases h.1) (Or.inl ⟨by rfl, ?hy⟩) (by assumption) ?_
  case hy => (intro w9 hSw; (try dsimp only at hSw); go_simp; try with_reducible rfl)
  try simp only [Act.put, List.setIfInBounds_toArray, List.set_cons_zero, List.set_cons_succ]
  refine wpAnyH_take (i := 21) (oi := { dst := some 73, op := Go.Op.binOp Go.BinOp.sub 3 (Go.Operand.tmp 72) (Go.Operand.const (Go.Value.int Go.IntKind.i64 1)) 3, type := 3, pos := "embed.go:476", after := #[{ on := 20, ground := Go.Ground.data }, { on := 18, ground := Go.Ground.guard }], guard := some (18, true) }) (v := .int .i64 (k : Nat)) rfl (by kernel_rfl) (by kernel_rfl) (by kernel_rfl) (by intro _ _ _ h; cases h.1) (Or.inl ⟨by rfl, ?hy⟩) (by assumption) ?_
  case hy => (intro w9 hSw; (try dsimp only at hSw); go_simp <;> (first | with_reducible rfl | (simp; omega) | omega))
  try simp only [Act.put, List.setIfInBounds_toArray, List.set_cons_zero, List.set_cons_succ]
  refine wpAnyH_take (i := 22) (oi := { dst := some 74, op := Go.Op.indexAddr 45 (Go.Operand.tmp 71) (Go.Operand.tmp 73), type := 0, pos := "embed.go:476", after := #[{ on := 19, ground := Go.Ground.data }, { on := 21, ground := Go.Ground.data }, { on := 18, ground := Go.Ground.guard }], guard := some (18, true) }) (v := ?_) rfl (by kernel_rfl) (by kernel_rfl) (by kernel_rfl) (by intro _ _ _ h; cases h.1) (Or.inl ⟨by rfl, ?hy⟩) (by assumption) ?_
  case hy => (intro w9 hSw; (try dsimp only at hSw); go_simp; try with_reducible rfl)
  try simp only [Act.put, List.setIfInBounds_toArray, List.set_cons_zero, List.set_cons_succ]
  refine wpAnyH_take (i := 23) (oi := { dst := some 75, op := Go.Op.fieldAddr 24 (Go.Operand.tmp 74) 1, type := 0, pos := "embed.go:476", after := #[{ on := 22, ground := Go.Ground.data }, { on := 18, ground := Go.Ground.guard }], guard := some (18, true) }) (v := ?_) rfl (by kernel_rfl) (by kernel_rfl) (by kernel_rfl) (by intro _ _ _ h; cases h.1) (Or.inl ⟨by rfl, ?hy⟩) (by assumption) ?_
  case hy => (intro w9 hSw; (try dsimp only at hSw); go_simp; try with_reducible rfl)
  try simp only [Act.put, List.setIfInBounds_toArray, List.set_cons_zero, List.set_cons_succ]
  refine wpAnyH_take (i := 24) (oi := { dst := some 76, op := Go.Op.load 22 (Go.Operand.tmp 75), type := 22, pos := "embed.go:476", after := #[{ on := 23, ground := Go.Ground.data }, { on := 18, ground := Go.Ground.guard }], guard := some (18, true) }) (v := ?_) rfl (by kernel_rfl) (by kernel_rfl) (by kernel_rfl) (by intro _ _ _ h; cases h.1) (Or.inl ⟨by rfl, ?hy⟩) (by assumption) ?_
  case hy => (intro w9 hSw; (try dsimp only at hSw); go_simp; try with_reducible rfl)
  try simp only [Act.put, List.setIfInBounds_toArray, List.set_cons_zero, List.set_cons_succ]
  refine wpAnyH_take (i := 25) (oi := { dst := some 77, op := Go.Op.move (Go.Operand.tmp 5), type := 45, pos := "embed.go:476", after := #[{ on := 18, ground := Go.Ground.guard }], guard := some (18, true) }) (v := ?_) rfl (by kernel_rfl) (by kernel_rfl) (by kernel_rfl) (by intro _ _ _ h; cases h.1) (Or.inl ⟨by rfl, ?hy⟩) (by assumption) ?_
  case hy => (intro w9 hSw; (try dsimp only at hSw); go_simp; try with_reducible rfl)
  try simp only [Act.put, List.setIfInBounds_toArray, List.set_cons_zero, List.set_cons_succ]
  refine wpAnyH_take (i := 26) (oi := { dst := some 78, op := Go.Op.move (Go.Operand.tmp 7), type := 3, pos := "embed.go:476", after := #[{ on := 18, ground := Go.Ground.guard }], guard := some (18, true) }) (v := ?_) rfl (by kernel_rfl) (by kernel_rfl) (by kernel_rfl) (by intro _ _ _ h; cases h.1) (Or.inl ⟨by rfl, ?hy⟩) (by assumption) ?_
  case hy => (intro w9 hSw; (try dsimp only at hSw); go_simp; try with_reducible rfl)
  try simp only [Act.put, List.setIfInBounds_toArray, List.set_cons_zero, List.set_cons_succ]
  refine wpAnyH_take (i := 27) (oi := { dst := some 79, op := Go.Op.indexAddr 45 (Go.Operand.tmp 77) (Go.Operand.tmp 78), type := 0, pos := "embed.go:476", after := #[{ on := 25, ground := Go.Ground.data }, { on := 26, ground := Go.Ground.data }, { on := 18, ground := Go.Ground.guard }], guard := some (18, true) }) (v := ?_) rfl (by kernel_rfl) (by kernel_rfl) (by kernel_rfl) (by intro _ _ _ h; cases h.1) (Or.inl ⟨by rfl, ?hy⟩) (by assumption) ?_
  case hy => (intro w9 hSw; (try dsimp only at hSw); go_simp; try with_reducible rfl)
  try simp only [Act.put, List.setIfInBounds_toArray, List.set_cons_zero, List.set_cons_succ]
  refine wpAnyH_take (i := 28) (oi := { dst := some 80, op := Go.Op.fieldAddr 24 (Go.Operand.tmp 79) 1, type := 0, pos := "embed.go:476", after := #[{ on := 27, ground := Go.Ground.data }, { on := 18, ground := Go.Ground.guard }], guard := some (18, true) }) (v := ?_) rfl (by kernel_rfl) (by kernel_rfl) (by kernel_rfl) (by intro _ _ _ h; cases h.1) (Or.inl ⟨by rfl, ?hy⟩) (by assumption) ?_
  case hy => (intro w9 hSw; (try dsimp only at hSw); go_simp; try with_reducible rfl)
  try simp only [Act.put, List.setIfInBounds_toArray, List.set_cons_zero, List.set_cons_succ]
  refine wpAnyH_take (i := 29) (oi := { dst := some 81, op := Go.Op.load 22 (Go.Operand.tmp 80), type := 22, pos := "embed.go:476", after := #[{ on := 28, ground := Go.Ground.data }, { on := 18, ground := Go.Ground.guard }], guard := some (18, true) }) (v := ?_) rfl (by kernel_rfl) (by kernel_rfl) (by kernel_rfl) (by intro _ _ _ h; cases h.1) (Or.inl ⟨by rfl, ?hy⟩) (by assumption) ?_
  case hy => (intro w9 hSw; (try dsimp only at hSw); go_simp; try with_reducible rfl)
  try simp only [Act.put, List.setIfInBounds_toArray, List.set_cons_zero, List.set_cons_succ]
  refine wpAnyH_ready (rs := [30]) (by kernel_rfl) (by simp) ?_
  refine AllReadyH.cons (o := { dst := some 82, op := Go.Op.call { callee := Go.Callee.value (Go.Operand.func 24), args := #[Go.Operand.tmp 76, Go.Operand.tmp 81], argTypes := #[22, 22] }, type := 4, pos := "embed.go:476", after := #[{ on := 24, ground := Go.Ground.data }, { on := 29, ground := Go.Ground.data }, { on := 18, ground := Go.Ground.chain }, { on := 18, ground := Go.Ground.guard }], guard := some (18, true) }) rfl (fun K hK => ?_) AllReadyH.nil
  go_simp
  go_at_call 24
  refine (HBF.out _ (p4_below hHeld)).mono ?_
  rintro e w3 ⟨rfl, hb3⟩
  refine hK.out _ _ ?_ (fun hHeld => ?_)
  · exact p4_step hHeld hb3
  clear hK K
  try simp only [Act.put, List.setIfInBounds_toArray, List.set_cons_zero, List.set_cons_succ]
  refine wpAnyH_take (i := 31) (oi := { dst := some 83, op := Go.Op.unOp Go.UnOp.not 4 (Go.Operand.tmp 82), type := 4, pos := "embed.go:476", after := #[{ on := 30, ground := Go.Ground.data }, { on := 18, ground := Go.Ground.guard }], guard := some (18, true) }) (v := ?_) rfl (by kernel_rfl) (by kernel_rfl) (by kernel_rfl) (by intro _ _ _ h; cases h.1) (Or.inl ⟨by rfl, ?hy⟩) (by assumption) ?_
  case hy => (intro w9 hSw; (try dsimp only at hSw); go_simp; try with_reducible rfl)
  try simp only [Act.put, List.setIfInBounds_toArray, List.set_cons_zero, List.set_cons_succ]
  refine wpAnyH_take (i := 32) (oi := { dst := some 84, op := Go.Op.pick (Go.Operand.tmp 70) (Go.Operand.tmp 83) (Go.Operand.const (Go.Value.bool false)), type := 4, pos := "embed.go:476", after := #[{ on := 18, ground := Go.Ground.data }, { on := 31, ground := Go.Ground.data }, { on := 15, ground := Go.Ground.guard }], guard := some (15, false) }) (v := ?_) rfl (by kernel_rfl) (by kernel_rfl) (by kernel_rfl) (by intro _ _ _ h; cases h.1) (Or.inl ⟨by rfl, ?hy⟩) (by assumption) ?_
  case hy => (intro w9 hSw; (try dsimp only at hSw); go_simp; try with_reducible rfl)
  try simp only [Act.put, List.setIfInBounds_toArray, List.set_cons_zero, List.set_cons_succ]
  refine wpAnyH_take (i := 33) (oi := { dst := some 85, op := Go.Op.pick (Go.Operand.tmp 67) (Go.Operand.const (Go.Value.bool true)) (Go.Operand.tmp 84), type := 4, pos := "embed.go:476", after := #[{ on := 15, ground := Go.Ground.data }, { on := 32, ground := Go.Ground.data }], guard := none }) (v := ?_) rfl (by kernel_rfl) (by kernel_rfl) (by kernel_rfl) (by intro _ _ _ h; cases h.1) (Or.inl ⟨by rfl, ?hy⟩) (by assumption) ?_
  case hy => (intro w9 hSw; (try dsimp only at hSw); go_simp; try with_reducible rfl)
  try simp only [Act.put, List.setIfInBounds_toArray, List.set_cons_zero, List.set_cons_succ]
  refine wpAnyH_done (by kernel_rfl) ?_ _
  refine ⟨(by first | rfl | trivial), (by first | rfl | trivial), below_hb (p4_below hHeld), (by first | rfl | trivial), (by first | rfl | trivial), fun j hj => ?_⟩
  match j, hj with
  | 0, _ => rfl
  | 1, _ => rfl
  | 2, _ => rfl
  | 3, _ => rfl
  | 4, _ => rfl
  | 5, _ => rfl
  | 6, _ => rfl
  | 7, _ => rfl
  | 8, _ => rfl
  | j + 9, h => exact absurd h (by omega)
theorem c_r11 (tm : Array Value) (v : World) (hs : tm.size = 106) (bf n m c k : Nat) (x : Int) (o : List Nat) (a : Option Addr) (ca : Nat) (h1 : tm[1]? = some (.int .i64 x)) (h5 : tm[5]? = some (.slice (some ⟨bf, 0, none⟩) m c)) (hx1 : -9223372036854775808 ≤ x) (hx2 : x ≤ 9223372036854775807) (hk : chs x m = k) (hm : 0 < m) (hm2 : m < 1000) (hn : n ≤ 5) (hol : o.length = n) (hF : FOk o) (c0 : v.cell? ⟨bf, k * 2, none⟩ = some (.int .i64 (o.length : Nat))) (c1 : v.cell? ⟨bf, k * 2 + 1, none⟩ = some (.slice a o.length ca)) (hr : Row v a o.length (fun k => (nth o k : Nat))) : (atc [1, 1, 1, 1, 1, 0] (Tryd.f6.body.getD .skip)).wp Tryd.prog (fun e s w => e = .normal ∧ s.defers = [] ∧ HB v w ∧ s.tmps.size = 106 ∧ (∃ B y a2 c2, s.tmps[8]? = some (.pointer (some ⟨B, 0, none⟩)) ∧ bst (nth o) n (per n [] (pw n - 1)) = some y ∧ w.cell? ⟨B, 0, none⟩ = some (.int .i64 (n : Nat)) ∧ w.cell? ⟨B, 1, none⟩ = some (.slice a2 n c2) ∧ Row w a2 n (fun k => (prt (nth o) y k : Nat))) ∧ ∀ j, j < 8 → s.tmps[j]? = tm[j]?) ⟨tm, []⟩ v := by
  have HS : Hid (tm.size = 106) := hs
  have s8 : 8 < tm.size := by omega
  have s9 : 9 < tm.size := by omega
  have s86 : 86 < tm.size := by omega
  have s87 : 87 < tm.size := by omega
  have s88 : 88 < tm.size := by omega
  have s89 : 89 < tm.size := by omega
  have s90 : 90 < tm.size := by omega
  have s91 : 91 < tm.size := by omega
  have s92 : 92 < tm.size := by omega
  have s93 : 93 < tm.size := by omega
  have s94 : 94 < tm.size := by omega
  have s95 : 95 < tm.size := by omega
  have s96 : 96 < tm.size := by omega
  clear hs
  simp only [Tryd.f6, Option.getD_some, atc]
  have HC := (show Hid _ from choose_is x m v hm (by omega) hx1 hx2)
  have hkm : (k : Int) < (m : Int) := by have := chs_lt x hm; omega
  have HFO : Hid (Calls Tryd.prog 11 #[.agg #[.int .i64 (n : Nat), .slice a n ca]] v fun e w' => FofPost v.heap.size n (nth o) e w' ∧ Below v.heap.size v w') := by
    subst hol
    exact fofR_any o.length a ca (nth o) v (by omega) (fun k hk => hF.2.1 k hk) hr
  rw [hk] at HC
  rw [hol] at c0 c1
  clear hr hF hol hk
  go_wp2_with (first
    | (go_at_call 25; refine Calls.mono HC.out ?_; rintro e w' ⟨rfl, rfl⟩)
    | (go_at_call 11; refine Calls.mono HFO.out ?_; rintro e w' ⟨⟨y, a2, c2, vv, hy, rfl, hrow, _⟩, hb⟩))
  have hb2 : Below v.heap.size v (w'.alloc (.cells #[.int .i64 (n : Nat), .slice a2 n c2] 24)) := hb.alloc hb.size _
  refine ⟨below_hb hb2, HS.out, hrow.below ((Below.refl _ _).alloc (Nat.le_refl _) _), fun j hj => ?_⟩
  repeat rw [Array.getElem?_setIfInBounds_ne (by omega)]
  all_goals sorry
set_option maxHeartbeats 4000000 in
theorem c_r12 (u0 u2 u3 u4 u6 u7 u9 u10 u11 u12 u13 u14 u15 u16 u17 u18 u19 u20 u21 u22 u23 u24 u25 u26 u27 u28 u29 u30 u31 u32 u33 u34 u35 u36 u37 u38 u39 u40 u41 u42 u43 u44 u45 u46 u47 u48 u49 u50 u51 u52 u53 u54 u55 u56 u57 u58 u59 u60 u61 u62 u63 u64 u65 u66 u67 u68 u69 u70 u71 u72 u73 u74 u75 u76 u77 u78 u79 u80 u81 u82 u83 u84 u85 u86 u87 u88 u89 u90 u91 u92 u93 u94 u95 u96 u97 u98 u99 u100 u101 u102 u103 u104 u105 : Value) (v : World) (bf B n m c k : Nat) (x : Int) (o y : List Nat) (a a2 : Option Addr) (ca c2 : Nat) (hx1 : -9223372036854775808 ≤ x) (hx2 : x ≤ 9223372036854775807) (hk : chs x m = k) (hm : 0 < m) (hm2 : m < 1000) (hn : n ≤ 5) (hol : o.length = n) (hse : ∀ j, j < n → prt (nth o) y j = nth o j) (b0 : v.cell? ⟨B, 0, none⟩ = some (.int .i64 (n : Nat))) (b1 : v.cell? ⟨B, 1, none⟩ = some (.slice a2 n c2)) (hr2 : Row v a2 n (fun k => (prt (nth o) y k : Nat))) (c0 : v.cell? ⟨bf, k * 2, none⟩ = some (.int .i64 (o.length : Nat))) (c1 : v.cell? ⟨bf, k * 2 + 1, none⟩ = some (.slice a o.length ca)) (hr : Row v a o.length (fun k => (nth o k : Nat))) : (atc [1, 1, 1, 1, 1, 1, 0] (Tryd.f6.body.getD .skip)).wp Tryd.prog (fun e s w => e = .normal ∧ s.defers = [] ∧ HB v w ∧ s.tmps[4]? = some (.bool true)) ⟨(u0 :: .int .i64 x :: u2 :: u3 :: u4 :: .slice (some ⟨bf, 0, none⟩) m c :: u6 :: u7 :: .pointer (some ⟨B, 0, none⟩) :: u9 :: u10 :: u11 :: u12 :: u13 :: u14 :: u15 :: u16 :: u17 :: u18 :: u19 :: u20 :: u21 :: u22 :: u23 :: u24 :: u25 :: u26 :: u27 :: u28 :: u29 :: u30 :: u31 :: u32 :: u33 :: u34 :: u35 :: u36 :: u37 :: u38 :: u39 :: u40 :: u41 :: u42 :: u43 :: u44 :: u45 :: u46 :: u47 :: u48 :: u49 :: u50 :: u51 :: u52 :: u53 :: u54 :: u55 :: u56 :: u57 :: u58 :: u59 :: u60 :: u61 :: u62 :: u63 :: u64 :: u65 :: u66 :: u67 :: u68 :: u69 :: u70 :: u71 :: u72 :: u73 :: u74 :: u75 :: u76 :: u77 :: u78 :: u79 :: u80 :: u81 :: u82 :: u83 :: u84 :: u85 :: u86 :: u87 :: u88 :: u89 :: u90 :: u91 :: u92 :: u93 :: u94 :: u95 :: u96 :: u97 :: u98 :: u99 :: u100 :: u101 :: u102 :: u103 :: u104 :: u105 :: []).toArray, []⟩ v := by
  simp only [Tryd.f6, Option.getD_some, atc]
  have HC := (show Hid _ from fun w => choose_is x m w hm (by omega) hx1 hx2)
  have hkm : (k : Int) < (m : Int) := by have := chs_lt x hm; omega
  rw [hol] at c0 c1 hr
  have KK : v.drew.cell? ⟨B, 0, none⟩ = some (.int .i64 (n : Nat)) ∧ v.drew.cell? ⟨B, 1, none⟩ = some (.slice a2 n c2) ∧ v.drew.cell? ⟨bf, k * 2, none⟩ = some (.int .i64 (n : Nat)) ∧ v.drew.cell? ⟨bf, k * 2 + 1, none⟩ = some (.slice a n ca) ∧ Below v.heap.size v v.drew := ⟨b0, b1, c0, c1, (Below.refl _ _).drew⟩
  have HSM : Hid (∀ w', Below v.heap.size v w' → Calls Tryd.prog 17 #[.agg #[.int .i64 (n : Nat), .slice a2 n c2], .agg #[.int .i64 (n : Nat), .slice a n ca]] w' fun e w2 => e = .returned (.bool true) ∧ Below w'.heap.size w' w2) := fun w' hb => by
    refine (sameOrder_any (n : Nat) (n : Nat) a2 a n c2 n ca _ _ w' (by unfold maxLen; omega) (by unfold maxLen; omega) (hr2.below hb) (hr.below hb)).mono ?_
    rintro e w2 ⟨⟨b, rfl, hb1⟩, hb2⟩
    have hq : b = true := hb1.2 ⟨rfl, rfl, fun j hj => by show ((prt (nth o) y j : Nat) : Int) = _; rw [hse j hj]⟩
    rw [hq]
    exact ⟨rfl, hb2⟩
  rw [hk] at HC
  clear hr hol hk hse hr2 b0 b1 c0 c1
  refine wp_region_held_drew (S := fun w' => w'.cell? ⟨B, 0, none⟩ = some (.int .i64 (n : Nat)) ∧ w'.cell? ⟨B, 1, none⟩ = some (.slice a2 n c2) ∧ w'.cell? ⟨bf, k * 2, none⟩ = some (.int .i64 (n : Nat)) ∧ w'.cell? ⟨bf, k * 2 + 1, none⟩ = some (.slice a n ca) ∧ Below v.heap.size v w') (by kernel_rfl) (KK) (fun hHeld => ?_)
  refine wpAnyH_take (i := 0) (oi := { dst := some 97, op := Go.Op.load 24 (Go.Operand.tmp 8), type := 24, pos := "embed.go:481", after := #[], guard := none }) (v := ?_) rfl (by kernel_rfl) (by kernel_rfl) (by kernel_rfl) (by intro _ _ _ h; cases h.1) (Or.inl ⟨by rfl, ?hy⟩) (by assumption) ?_
  case hy => (intro w9 hSw; (try dsimp only at hSw); go_simp; try with_reducible rfl)
  try simp only [Act.put, List.setIfInBounds_toArray, List.set_cons_zero, List.set_cons_succ]
  refine wpAnyH_take (i := 1) (oi := { dst := some 98, op := Go.Op.move (Go.Operand.tmp 5), type := 45, pos := "embed.go:481", after := #[], guard := none }) (v := ?_) rfl (by kernel_rfl) (by kernel_rfl) (by kernel_rfl) (by intro _ _ _ h; cases h.1) (Or.inl ⟨by rfl, ?hy⟩) (by assumption) ?_
  case hy => (intro w9 hSw; (try dsimp only at hSw); go_simp; try with_reducible rfl)
  try simp only [Act.put, List.setIfInBounds_toArray, List.set_cons_zero, List.set_cons_succ]
  refine wpAnyH_take (i := 2) (oi := { dst := some 99, op := Go.Op.move (Go.Operand.tmp 1), type := 3, pos := "embed.go:481", after := #[], guard := none }) (v := ?_) rfl (by kernel_rfl) (by kernel_rfl) (by kernel_rfl) (by intro _ _ _ h; cases h.1) (Or.inl ⟨by rfl, ?hy⟩) (by assumption) ?_
  case hy => (intro w9 hSw; (try dsimp only at hSw); go_simp; try with_reducible rfl)
  try simp only [Act.put, List.setIfInBounds_toArray, List.set_cons_zero, List.set_cons_succ]
  refine wpAnyH_take (i := 3) (oi := { dst := some 100, op := Go.Op.move (Go.Operand.tmp 5), type := 45, pos := "embed.go:481", after := #[], guard := none }) (v := ?_) rfl (by kernel_rfl) (by kernel_rfl) (by kernel_rfl) (by intro _ _ _ h; cases h.1) (Or.inl ⟨by rfl, ?hy⟩) (by assumption) ?_
  case hy => (intro w9 hSw; (try dsimp only at hSw); go_simp; try with_reducible rfl)
  try simp only [Act.put, List.setIfInBounds_toArray, List.set_cons_zero, List.set_cons_succ]
  refine wpAnyH_take (i := 4) (oi := { dst := some 101, op := Go.Op.call { callee := Go.Callee.builtin Go.Builtin.len, args := #[Go.Operand.tmp 100], argTypes := #[45] }, type := 3, pos := "embed.go:481", after := #[{ on := 3, ground := Go.Ground.data }], guard := none }) (v := ?_) rfl (by kernel_rfl) (by kernel_rfl) (by kernel_rfl) (by intro _ _ _ h; cases h.1) (Or.inl ⟨by rfl, ?hy⟩) (by assumption) ?_
  case hy => (intro w9 hSw; (try dsimp only at hSw); go_simp; try with_reducible rfl)
  try simp only [Act.put, List.setIfInBounds_toArray, List.set_cons_zero, List.set_cons_succ]
  refine wpAnyH_ready (rs := [5]) (by kernel_rfl) (by simp) ?_
  refine AllReadyH.cons (o := { dst := some 102, op := Go.Op.call { callee := Go.Callee.value (Go.Operand.func 25), args := #[Go.Operand.tmp 99, Go.Operand.tmp 101], argTypes := #[3, 3] }, type := 3, pos := "embed.go:481", after := #[{ on := 2, ground := Go.Ground.data }, { on := 4, ground := Go.Ground.data }], guard := none }) rfl (fun K hK => ?_) AllReadyH.nil
  go_simp
  go_at_call 25
  refine (HC.out _).mono ?_
  rintro e w2 ⟨rfl, rfl⟩
  refine hK.out _ _ ?_ (fun hHeld => ?_)
  · exact hHeld
  clear hK K
  try simp only [Act.put, List.setIfInBounds_toArray, List.set_cons_zero, List.set_cons_succ]
  refine wpAnyH_take (i := 6) (oi := { dst := some 103, op := Go.Op.indexAddr 45 (Go.Operand.tmp 98) (Go.Operand.tmp 102), type := 0, pos := "embed.go:481", after := #[{ on := 1, ground := Go.Ground.data }, { on := 5, ground := Go.Ground.data }], guard := none }) (v := ?_) rfl (by kernel_rfl) (by kernel_rfl) (by kernel_rfl) (by intro _ _ _ h; cases h.1) (Or.inl ⟨by rfl, ?hy⟩) (by assumption) ?_
  case hy => (intro w9 hSw; (try dsimp only at hSw); go_simp; try with_reducible rfl)
  try simp only [Act.put, List.setIfInBounds_toArray, List.set_cons_zero, List.set_cons_succ]
  refine wpAnyH_take (i := 7) (oi := { dst := some 104, op := Go.Op.load 24 (Go.Operand.tmp 103), type := 24, pos := "embed.go:481", after := #[{ on := 6, ground := Go.Ground.data }], guard := none }) (v := ?_) rfl (by kernel_rfl) (by kernel_rfl) (by kernel_rfl) (by intro _ _ _ h; cases h.1) (Or.inl ⟨by rfl, ?hy⟩) (by assumption) ?_
  case hy => (intro w9 hSw; (try dsimp only at hSw); go_simp; try with_reducible rfl)
  try simp only [Act.put, List.setIfInBounds_toArray, List.set_cons_zero, List.set_cons_succ]
  refine wpAnyH_ready (rs := [8]) (by kernel_rfl) (by simp) ?_
  refine AllReadyH.cons (o := { dst := some 105, op := Go.Op.call { callee := Go.Callee.value (Go.Operand.func 17), args := #[Go.Operand.tmp 97, Go.Operand.tmp 104], argTypes := #[24, 24] }, type := 4, pos := "embed.go:481", after := #[{ on := 0, ground := Go.Ground.data }, { on := 7, ground := Go.Ground.data }, { on := 5, ground := Go.Ground.chain }], guard := none }) rfl (fun K hK => ?_) AllReadyH.nil
  go_simp
  go_at_call 17
  refine (HSM.out _ (p4_below hHeld)).mono ?_
  rintro e w3 ⟨rfl, hb3⟩
  refine hK.out _ _ ?_ (fun hHeld => ?_)
  · exact p4_step hHeld hb3
  clear hK K
  try simp only [Act.put, List.setIfInBounds_toArray, List.set_cons_zero, List.set_cons_succ]
  refine wpAnyH_take (i := 9) (oi := { dst := some 4, op := Go.Op.assign (Go.Operand.tmp 105), type := 4, pos := "embed.go:481", after := #[{ on := 8, ground := Go.Ground.data }, { on := 8, ground := Go.Ground.chain }, { on := 0, ground := Go.Ground.phase }, { on := 1, ground := Go.Ground.phase }, { on := 2, ground := Go.Ground.phase }, { on := 3, ground := Go.Ground.phase }, { on := 4, ground := Go.Ground.phase }, { on := 5, ground := Go.Ground.phase }, { on := 6, ground := Go.Ground.phase }, { on := 7, ground := Go.Ground.phase }, { on := 8, ground := Go.Ground.phase }], guard := none }) (v := ?_) rfl (by kernel_rfl) (by kernel_rfl) (by kernel_rfl) (by intro _ _ _ h; cases h.1) (Or.inl ⟨by rfl, ?hy⟩) (by assumption) ?_
  case hy => (intro w9 hSw; (try dsimp only at hSw); go_simp; try with_reducible rfl)
  try simp only [Act.put, List.setIfInBounds_toArray, List.set_cons_zero, List.set_cons_succ]
  refine wpAnyH_done (by kernel_rfl) ?_ _
  exact ⟨(by first | rfl | trivial), (by first | rfl | trivial), below_hb (p4_below hHeld), (by first | rfl | trivial)⟩
end Go.Proofs.YtfbdgdphpdhcpaaDoor
