/-
  CanonAll, from its start to its return. Condition: the library's tables.
-/
import Derived.Test.YtfbdgdphpdhcpaaDoorCbC
namespace Go.Proofs.YtfbdgdphpdhcpaaDoor
open Go Go.Conc Go.RowKit Sm
set_option maxRecDepth 100000

/-- What the loop holds. -/
structure C1 (r : Nat → Nat → Prop) (v0 v : World) (tm tm' : Array Value) (bf capf n : Nat) (x : Int) (i : Nat) : Prop where
  hb : HB v0 v
  xr : XR (Rg Tryd.prog afs cgs r) tm tm'
  rg : ∀ g ∈ cgs, r g g
  sz : tm.size = 106
  t0 : tm[0]? = some (.int .i64 (n : Nat))
  t1 : tm[1]? = some (.int .i64 x)
  t5 : tm[5]? = some (.slice (some ⟨bf, 0, none⟩) (lvq n).length capf)
  t7 : tm[7]? = some (.int .i64 (i : Nat))
  lv : LObj v bf (lvq n)
theorem C1.mv {r r' : Nat → Nat → Prop} {v0 v v' : World} {tm tm' tm1 tm1' : Array Value} {bf capf n : Nat} {x : Int} {i : Nat} (h : C1 r v0 v tm tm' bf capf n x i)
    (hr : ∀ b b', r b b' → r' b b') (hv : HB v v') (hx : XR (Rg Tryd.prog afs cgs r') tm1 tm1') (hs : tm1.size = 106) (ht : ∀ j, j < 8 → tm1[j]? = tm[j]?) : C1 r' v0 v' tm1 tm1' bf capf n x i where
  hb := h.hb.trans hv
  xr := hx
  rg g hg := hr _ _ (h.rg g hg)
  sz := hs
  t0 := (ht 0 (by simp)).trans h.t0
  t1 := (ht 1 (by simp)).trans h.t1
  t5 := (ht 5 (by simp)).trans h.t5
  t7 := (ht 7 (by simp)).trans h.t7
  lv := h.lv.hn (hv.hn 70)
theorem c_r9 (tm : Array Value) (bf n m c i : Nat) (v : World) (hn : n ≤ 5) (hs : tm.size = 106) (h0 : tm[0]? = some (.int .i64 (n : Nat))) (h5 : tm[5]? = some (.slice (some ⟨bf, 0, none⟩) m c)) (h7 : tm[7]? = some (.int .i64 (i : Nat))) (hm : m = (lvq n).length) (hi : i < m) (hlv : LObj v bf (lvq n)) :
    (atc [1, 1, 1, 1, 0, 1, 2, 2, 1, 0, 2, 0] (Tryd.f6.body.getD .skip)).wp Tryd.prog (fun e s w => e = .normal ∧ s.defers = [] ∧ HB v w ∧ s.tmps.size = 106 ∧ s.tmps[85]? = some (.bool false) ∧ ∀ j, j < 9 → s.tmps[j]? = tm[j]?) ⟨tm, []⟩ v := by
  have hlen := lvq_len n hn
  obtain ⟨o, ho⟩ : ∃ o, (lvq n)[i]? = some o := ⟨_, List.getElem?_eq_getElem (by omega)⟩
  have hmem := List.mem_of_getElem? ho
  have hF := lvq_fok n hn o hmem
  have hol := (lvq_cnt n hn o hmem).1
  obtain ⟨a, ca, c0, c1, hr⟩ := lobj_at hlv ho
  obtain ⟨u0, u1, u2, u3, u4, u5, u6, u7, u8, u9, u10, u11, u12, u13, u14, u15, u16, u17, u18, u19, u20, u21, u22, u23, u24, u25, u26, u27, u28, u29, u30, u31, u32, u33, u34, u35, u36, u37, u38, u39, u40, u41, u42, u43, u44, u45, u46, u47, u48, u49, u50, u51, u52, u53, u54, u55, u56, u57, u58, u59, u60, u61, u62, u63, u64, u65, u66, u67, u68, u69, u70, u71, u72, u73, u74, u75, u76, u77, u78, u79, u80, u81, u82, u83, u84, u85, u86, u87, u88, u89, u90, u91, u92, u93, u94, u95, u96, u97, u98, u99, u100, u101, u102, u103, u104, u105, rfl⟩ := split106 tm hs
  obtain rfl : u0 = _ := Option.some.inj h0
  obtain rfl : u5 = _ := Option.some.inj h5
  obtain rfl : u7 = _ := Option.some.inj h7
  cases i with
  | zero => exact c_r9a u1 u2 u3 u4 u6 u8 u9 u10 u11 u12 u13 u14 u15 u16 u17 u18 u19 u20 u21 u22 u23 u24 u25 u26 u27 u28 u29 u30 u31 u32 u33 u34 u35 u36 u37 u38 u39 u40 u41 u42 u43 u44 u45 u46 u47 u48 u49 u50 u51 u52 u53 u54 u55 u56 u57 u58 u59 u60 u61 u62 u63 u64 u65 u66 u67 u68 u69 u70 u71 u72 u73 u74 u75 u76 u77 u78 u79 u80 u81 u82 u83 u84 u85 u86 u87 u88 u89 u90 u91 u92 u93 u94 u95 u96 u97 u98 u99 u100 u101 u102 u103 u104 u105 v bf n m c o a ca hi hol hF c0 c1 hr
  | succ k =>
    obtain ⟨o2, ho2⟩ : ∃ o, (lvq n)[k]? = some o := ⟨_, List.getElem?_eq_getElem (by omega)⟩
    obtain ⟨a2, ca2, _, c2, hr2⟩ := lobj_at hlv ho2
    exact c_r9b u1 u2 u3 u4 u6 u8 u9 u10 u11 u12 u13 u14 u15 u16 u17 u18 u19 u20 u21 u22 u23 u24 u25 u26 u27 u28 u29 u30 u31 u32 u33 u34 u35 u36 u37 u38 u39 u40 u41 u42 u43 u44 u45 u46 u47 u48 u49 u50 u51 u52 u53 u54 u55 u56 u57 u58 u59 u60 u61 u62 u63 u64 u65 u66 u67 u68 u69 u70 u71 u72 u73 u74 u75 u76 u77 u78 u79 u80 u81 u82 u83 u84 u85 u86 u87 u88 u89 u90 u91 u92 u93 u94 u95 u96 u97 u98 u99 u100 u101 u102 u103 u104 u105 v bf n m c (k + 1) k o o2 a a2 ca ca2 rfl hi (by omega) hol (lvq_cnt n hn o2 (List.mem_of_getElem? ho2)).1 hF (lvq_ris hn ho2 ho) c0 c1 hr c2 hr2
theorem c_r12x (tm : Array Value) (bf B n m c k : Nat) (x : Int) (o y : List Nat) (a a2 : Option Addr) (ca c2 : Nat) (v : World) (hs : tm.size = 106) (h1 : tm[1]? = some (.int .i64 x)) (h5 : tm[5]? = some (.slice (some ⟨bf, 0, none⟩) m c)) (h8 : tm[8]? = some (.pointer (some ⟨B, 0, none⟩))) (hx1 : -9223372036854775808 ≤ x) (hx2 : x ≤ 9223372036854775807) (hk : chs x m = k) (hm : 0 < m) (hm2 : m < 1000) (hn : n ≤ 5) (hol : o.length = n) (hse : ∀ j, j < n → prt (nth o) y j = nth o j) (b0 : v.cell? ⟨B, 0, none⟩ = some (.int .i64 (n : Nat))) (b1 : v.cell? ⟨B, 1, none⟩ = some (.slice a2 n c2)) (hr2 : Row v a2 n (fun k => (prt (nth o) y k : Nat))) (c0 : v.cell? ⟨bf, k * 2, none⟩ = some (.int .i64 (o.length : Nat))) (c1 : v.cell? ⟨bf, k * 2 + 1, none⟩ = some (.slice a o.length ca)) (hr : Row v a o.length (fun k => (nth o k : Nat))) :
    (atc [1, 1, 1, 1, 1, 1, 0] (Tryd.f6.body.getD .skip)).wp Tryd.prog (fun e s w => e = .normal ∧ s.defers = [] ∧ HB v w ∧ s.tmps[4]? = some (.bool true)) ⟨tm, []⟩ v := by
  obtain ⟨u0, u1, u2, u3, u4, u5, u6, u7, u8, u9, u10, u11, u12, u13, u14, u15, u16, u17, u18, u19, u20, u21, u22, u23, u24, u25, u26, u27, u28, u29, u30, u31, u32, u33, u34, u35, u36, u37, u38, u39, u40, u41, u42, u43, u44, u45, u46, u47, u48, u49, u50, u51, u52, u53, u54, u55, u56, u57, u58, u59, u60, u61, u62, u63, u64, u65, u66, u67, u68, u69, u70, u71, u72, u73, u74, u75, u76, u77, u78, u79, u80, u81, u82, u83, u84, u85, u86, u87, u88, u89, u90, u91, u92, u93, u94, u95, u96, u97, u98, u99, u100, u101, u102, u103, u104, u105, rfl⟩ := split106 tm hs
  obtain rfl : u1 = _ := Option.some.inj h1
  obtain rfl : u5 = _ := Option.some.inj h5
  obtain rfl : u8 = _ := Option.some.inj h8
  exact c_r12 u0 u2 u3 u4 u6 u7 u9 u10 u11 u12 u13 u14 u15 u16 u17 u18 u19 u20 u21 u22 u23 u24 u25 u26 u27 u28 u29 u30 u31 u32 u33 u34 u35 u36 u37 u38 u39 u40 u41 u42 u43 u44 u45 u46 u47 u48 u49 u50 u51 u52 u53 u54 u55 u56 u57 u58 u59 u60 u61 u62 u63 u64 u65 u66 u67 u68 u69 u70 u71 u72 u73 u74 u75 u76 u77 u78 u79 u80 u81 u82 u83 u84 u85 u86 u87 u88 u89 u90 u91 u92 u93 u94 u95 u96 u97 u98 u99 u100 u101 u102 u103 u104 u105 v bf B n m c k x o y a a2 ca c2 hx1 hx2 hk hm hm2 hn hol hse b0 b1 hr2 c0 c1 hr
theorem range_from {m n : Nat} (h : m ≤ n) : List.range n = List.range m ++ List.range' m (n - m) := by
  have := List.range'_append_1 (s := 0) (m := m) (n := n - m)
  rw [List.range_eq_range', List.range_eq_range']
  rw [Nat.zero_add] at this
  rw [this]
  congr 1
  omega
section
variable {Fin : Value → World → Prop} {K : World} {k : List Item} {rc : List Frame}
theorem c_loop {C : Code} (hC : IsC C) {v0 : World} {bf capf n : Nat} {x : Int} (hn : n ≤ 5)
    (hk : ∀ r v tm tm', C1 r v0 v tm tm' bf capf n x (lvq n).length → Mc Fin K r v (fun _ => none) none (G (fF GC tm' k [] .normal) rc)) :
    ∀ d i, i + d = (lvq n).length → ∀ r v tm tm', C1 r v0 v tm tm' bf capf n x i → Mc Fin K r v (fun _ => none) none (G (fF GC tm' (.code (cbody C) :: .inLoop (cbody C) :: .inBlock 0 :: k) [] .normal) rc) := by
  intro d
  induction d with
  | zero =>
    intro i hi r v tm tm' h
    obtain rfl : i = (lvq n).length := by omega
    refine mmv (mv_seq _ _) ?_
    refine mmv (mv_seq _ _) ?_
    refine mpiece gc_in (gc_ok hC (by simp)) h.rg h.xr (Q := fun s w => HB v w ∧ s.tmps.size = 106 ∧ s.tmps[49]? = some (.bool (decide (((lvq n).length : Int) < ((lvq n).length : Int)))) ∧ ∀ j, j < 9 → s.tmps[j]? = tm[j]?) (fun τ => ?_) fun r1 v1 tm1 tm1' hr1 hx1 hq => ?_
    · rw [hC]; exact c_r7 tm (tap τ v) h.sz _ _ _ _ h.t7 h.t5
    obtain ⟨hb1, s1, e23, e1⟩ := hq
    rw [decide_eq_false (by omega)] at e23
    refine mmv (mv_cond (b := false) (eval_tmp (D := []) (vr_bool hx1 e23))) ?_
    refine mmv (mv_exit (k' := k) rfl) ?_
    exact hk r1 v1 tm1 tm1' (h.mv hr1 hb1 hx1 s1 fun j hj => e1 j (by omega))
  | succ d ih =>
    intro i hi r v tm tm' h
    have hil : i < (lvq n).length := by omega
    refine mmv (mv_seq _ _) ?_
    refine mmv (mv_seq _ _) ?_
    refine mpiece gc_in (gc_ok hC (by simp)) h.rg h.xr (Q := fun s w => HB v w ∧ s.tmps.size = 106 ∧ s.tmps[49]? = some (.bool (decide ((i : Int) < ((lvq n).length : Int)))) ∧ ∀ j, j < 9 → s.tmps[j]? = tm[j]?) (fun τ => ?_) fun r1 v1 tm1 tm1' hr1 hx1 hq => ?_
    · rw [hC]; exact c_r7 tm (tap τ v) h.sz _ _ _ _ h.t7 h.t5
    obtain ⟨hb1, s1, e23, e1⟩ := hq
    rw [decide_eq_true (by omega)] at e23
    refine mmv (mv_cond (b := true) (eval_tmp (D := []) (vr_bool hx1 e23))) ?_
    refine mmv mv_skip ?_
    have h1 := h.mv hr1 hb1 hx1 s1 fun j hj => e1 j (by omega)
    clear hr1 hx1 hb1 e23 e1 h
    refine mmv (mv_seq _ _) ?_
    refine mmv (mv_block _ _) ?_
    refine mmv (mv_seq _ _) ?_
    refine mpiece gc_in (gc_ok hC (by simp)) h1.rg h1.xr (Q := fun s w => HB v1 w ∧ s.tmps.size = 106 ∧ s.tmps[85]? = some (.bool false) ∧ ∀ j, j < 9 → s.tmps[j]? = tm1[j]?) (fun τ => ?_) fun r2 v2 tm2 tm2' hr2 hx2 hq2 => ?_
    · rw [hC]
      exact c_r9 tm1 bf n _ capf i (tap τ v1) hn h1.sz h1.t0 h1.t5 h1.t7 rfl hil h1.lv
    obtain ⟨hb2, s2, e85, e2⟩ := hq2
    have h2 := h1.mv hr2 hb2 hx2 s2 fun j hj => e2 j (by omega)
    refine mmv (mv_cond (b := false) (eval_tmp (D := []) (vr_bool hx2 e85))) ?_
    refine mmv mv_skip ?_
    clear hr2 hx2 hb2 e2 h1
    refine mmv (mv_inBlock _) ?_
    refine mpiece gc_in (gc_ok hC (by simp)) h2.rg h2.xr (Q := fun s w => HB v2 w ∧ s.tmps.size = 106 ∧ s.tmps[7]? = some (.int .i64 ((i + 1 : Nat) : Int)) ∧ ∀ j, j < 9 → j ≠ 7 → s.tmps[j]? = tm2[j]?) (fun τ => ?_) fun r5 v5 tm5 tm5' hr5 hx5 hq5 => ?_
    · rw [hC]; exact c_r8 tm2 (tap τ v2) s2 i h2.t7 (by have := lvq_len n hn; omega)
    obtain ⟨hb5, s5, u7, e5⟩ := hq5
    refine mmv (mv_inLoop _) ?_
    have hk5 : ∀ j, j = 0 ∨ j = 1 ∨ j = 5 → tm5[j]? = tm2[j]? := fun j hj => e5 j (by omega) (by omega)
    exact ih (i + 1) (by omega) r5 v5 tm5 tm5' ⟨h2.hb.trans hb5, hx5, fun g h => hr5 _ _ (h2.rg g h), s5, (hk5 0 (by simp)).trans h2.t0, (hk5 1 (by simp)).trans h2.t1, (hk5 5 (by simp)).trans h2.t5, u7, h2.lv.hn (hb5.hn 70)⟩
end
end Go.Proofs.YtfbdgdphpdhcpaaDoor
