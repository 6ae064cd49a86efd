/-
  What hasselaw.RestLattices answers: true. Conditions: slices that read as slices of at most 17592186043904 numbers, and of at most 5864062014805 such rows.
-/
import Derived.Deep.RegionHeld3
import Derived.Deep.Cut
import Derived.Deep.CutRange
import Derived.Deep.QuietTactic
import Derived.BigQuiet
import Derived.Test.YthhnngmfbbljaaaGreatRtP
import Derived.Test.YthhnngmfbbljaaaGreatIBegun
import Derived.Test.YthhnngmfbbljaaaGreatPofP
import Derived.Test.YthhnngmfbbljaaaGreatQBeg
import Derived.Test.YthhnngmfbbljaaaGreatSameL
import Derived.Test.YthhnngmfbbljaaaGreatRefLat
namespace Go.Proofs.YthhnngmfbbljaaaGreat
set_option maxRecDepth 100000
open Go.RowKit

theorem szP {W w wa : World} {o : Obj} (h : Below W.heap.size W w) (_ : w.alloc o = wa) : Hid (W.heap.size ≤ w.heap.size) := h.size
def zV : Value := .slice none 0 0
theorem xy_new {w wb : World} {t : TypeId} (e : (w.alloc (.cells #[.int .i64 0, .slice none 0 0, .slice none 0 0] t)).alloc (.cells #[.int .i64 0, .slice none 0 0, .slice none 0 0] t) = wb) :
    Zf3 wb w.heap.size (.int .i64 0) (.slice none 0 0) (.slice none 0 0) ∧ Zf3 wb (w.heap.size + 1) (.int .i64 0) (.slice none 0 0) (.slice none 0 0) ∧ wb.heap.size = w.heap.size + 2 ∧ Below w.heap.size w wb := by
  obtain ⟨w1, e1⟩ : ∃ w1, w.alloc (.cells #[.int .i64 0, .slice none 0 0, .slice none 0 0] t) = w1 := ⟨_, rfl⟩
  rw [e1] at e
  have hs : w1.heap.size = w.heap.size + 1 := by rw [← e1]; simp
  have hs2 : wb.heap.size = w1.heap.size + 1 := by rw [← e]; simp
  have h1 := zf3N e1
  have h2 := zf3N e
  have hb : Below w1.heap.size w1 wb := by rw [← e]; exact (Below.refl _ _).alloc (Nat.le_refl _) _
  have hb1 : Below w.heap.size w w1 := by rw [← e1]; exact (Below.refl _ _).alloc (Nat.le_refl _) _
  rw [hs] at h2
  exact ⟨(zf3S h1 hb).out, h2.out, by omega, Below.then hb1 hb⟩

/-- What stays while region 29 runs: the results' boxes, and what lay there. -/
def RsX (w1 : World) (XB N : Nat) (a1 : Option Addr) (c1 : Nat) (b1 : Option Addr) (d1 : Nat) (a3 : Option Addr) (c3 : Nat) (b3 : Option Addr) (d3 : Nat) (w' : World) : Prop :=
  Bx3 w' XB (.int .i64 (N : Nat)) (.slice a1 N c1) (.slice b1 N d1) ∧ Bx3 w' (XB + 1) (.int .i64 (N : Nat)) (.slice a3 N c3) (.slice b3 N d3) ∧ Below w1.heap.size w1 w'
theorem rsS {w1 : World} {XB N : Nat} {a1 : Option Addr} {c1 : Nat} {b1 : Option Addr} {d1 : Nat} {a3 : Option Addr} {c3 : Nat} {b3 : Option Addr} {d3 : Nat} {w w' : World} (h : RsX w1 XB N a1 c1 b1 d1 a3 c3 b3 d3 w) (hb : Below w.heap.size w w') : RsX w1 XB N a1 c1 b1 d1 a3 c3 b3 d3 w' :=
  ⟨h.1.step hb, h.2.1.step hb, h.2.2.trans (hb.mono h.2.2.size)⟩
theorem rsO {w1 : World} {XB N : Nat} {a1 : Option Addr} {c1 : Nat} {b1 : Option Addr} {d1 : Nat} {a3 : Option Addr} {c3 : Nat} {b3 : Option Addr} {d3 : Nat} {w w' : World} {U1 U2 : Nat} (h : RsX w1 XB N a1 c1 b1 d1 a3 c3 b3 d3 w) (hs : Spo U1 U2 w w') (hX : XB < U1 ∧ XB + 1 < U1) (hw : w1.heap.size ≤ U1) : RsX w1 XB N a1 c1 b1 d1 a3 c3 b3 d3 w' :=
  ⟨h.1.off (.inl hX.1) hs.1, h.2.1.off (.inl hX.2) hs.1, hs.below hw h.2.2⟩
/-- The first result's tables, their rows apart. -/
def XT (w : World) (N : Nat) (m j : Nat → Nat → Nat) (X1 X2 : Nat) (R1 R2 : Nat → Nat × Nat × Nat) : Prop := Tb w X1 0 N R1 m ∧ Tb w X2 0 N R2 j ∧ Apt w N R1 R2
theorem XT.step {w w' : World} {N : Nat} {m j : Nat → Nat → Nat} {X1 X2 : Nat} {R1 R2 : Nat → Nat × Nat × Nat} (h : XT w N m j X1 X2 R1 R2) (hb : Below w.heap.size w w') : XT w' N m j X1 X2 R1 R2 := ⟨h.1.step hb, h.2.1.step hb, h.2.2.step hb⟩
/-- A table's rows as values. -/
def rv (N : Nat) (R : Nat → Nat × Nat × Nat) (k : Nat) : Option Addr × Nat × Nat := (some ⟨(R k).1, (R k).2.1, none⟩, N, (R k).2.2)
theorem tb_cells {w : World} {b N : Nat} {R : Nat → Nat × Nat × Nat} {m : Nat → Nat → Nat} (h : Tb w b 0 N R m) : ∀ k u, (svl (rv N R) N)[k]? = some u → w.cell? ((⟨b, 0, none⟩ : Addr).add k) = some u := fun k u hu => by
  have hk : k < N := by
    rcases Nat.lt_or_ge k N with h | h
    · exact h
    · rw [List.getElem?_eq_none (by rw [svl_len]; exact h)] at hu; cases hu
  rw [svl_at _ _ _ hk] at hu
  cases hu
  have e : (⟨b, 0, none⟩ : Addr).add k = ⟨b, 0 + k, none⟩ := by unfold Addr.add; split <;> simp_all
  rw [e]; exact (h k hk).1
/-- Both tables' rows, one behind the other. -/
def rvv (N : Nat) (R1 R2 : Nat → Nat × Nat × Nat) (k : Nat) : Option Addr × Nat × Nat := if k < N then rv N R1 k else rv N R2 (k - N)
def fvv (N : Nat) (m j : Nat → Nat → Nat) (k y : Nat) : Int := if k < N then (m k y : Nat) else (j (k - N) y : Nat)
theorem own_of {w : World} {N U1 U2 g base cap : Nat} {m j : Nat → Nat → Nat} {X1 X2 : Nat} {R1 R2 : Nat → Nat × Nat × Nat} (h : XT w N m j X1 X2 R1 R2) (hU : ∀ k, k < N → (U1 ≤ (R1 k).1 ∧ (R1 k).1 < U2) ∧ U1 ≤ (R2 k).1 ∧ (R2 k).1 < U2)
    (ho : w.ownsRow base 22 1 (.slice (some ⟨g, 0, none⟩) (N + N) cap) (N + N) (svl (rv N R1) N ++ svl (rv N R2) N)) : OwL w U1 U2 g 0 (N + N) N 0 (rvv N R1 R2) (fvv N m j) := by
  obtain ⟨t1, t2, hap⟩ := h
  have row1 : ∀ k, k < N → FRow w U1 U2 (rv N R1 k).1 N (fun y => (m k y : Nat)) := fun k hk y hy => by
    obtain ⟨⟨⟨z1, _⟩, _⟩, hf, _⟩ := hap k hk
    have c := (t1 k hk).2 y hy
    rw [z1, Nat.zero_add] at c
    exact ⟨(R1 k).1, by unfold rv; rw [z1], (hU k hk).1, c, (hf y hy).1⟩
  have row2 : ∀ k, k < N → FRow w U1 U2 (rv N R2 k).1 N (fun y => (j k y : Nat)) := fun k hk y hy => by
    obtain ⟨⟨⟨_, z2⟩, _⟩, hf, _⟩ := hap k hk
    have c := (t2 k hk).2 y hy
    rw [z2, Nat.zero_add] at c
    exact ⟨(R2 k).1, by unfold rv; rw [z2], (hU k hk).2, c, (hf y hy).2⟩
  have rows : ∀ k, k < N + N → FRow w U1 U2 (rvv N R1 R2 k).1 N (fvv N m j k) := fun k hk => by
    by_cases e : k < N
    · have e1 : rvv N R1 R2 k = rv N R1 k := by unfold rvv; rw [if_pos e]
      have e2 : fvv N m j k = fun y => ((m k y : Nat) : Int) := by funext y; unfold fvv; rw [if_pos e]
      rw [e1, e2]; exact row1 k e
    · have e1 : rvv N R1 R2 k = rv N R2 (k - N) := by unfold rvv; rw [if_neg e]
      have e2 : fvv N m j k = fun y => ((j (k - N) y : Nat) : Int) := by funext y; unfold fvv; rw [if_neg e]
      rw [e1, e2]; exact row2 (k - N) (by omega)
  refine ⟨fun k hk => ?_, fun k _ hk => rows k hk, fun k hk => (rows k hk).wr, fun a b ha hb hab _ => ?_⟩
  · rw [Nat.zero_add, ho.cellAt k (by omega)]
    by_cases e : k < N
    · rw [List.getElem?_append_left (by rw [svl_len]; exact e), svl_at _ _ _ e]
      unfold rvv; rw [if_pos e]; rfl
    · rw [List.getElem?_append_right (by rw [svl_len]; omega), svl_len, svl_at _ _ _ (by omega)]
      unfold rvv; rw [if_neg e]; rfl
  · unfold rvv
    by_cases ea : a < N
    · by_cases eb : b < N
      · rw [if_pos ea, if_pos eb]; exact (((hap a ea).2.2 b eb).2 hab).1
      · rw [if_pos ea, if_neg eb]; exact ((hap a ea).2.2 (b - N) (by omega)).1
    · by_cases eb : b < N
      · rw [if_neg ea, if_pos eb]; exact fun q => ((hap b eb).2.2 (a - N) (by omega)).1 q.symm
      · rw [if_neg ea, if_neg eb]; exact (((hap (a - N) (by omega)).2.2 (b - N) (by omega)).2 (by omega)).2
theorem own_hi {w : World} {N : Nat} {m j : Nat → Nat → Nat} {V1 V2 U2 : Nat} {a3 : Option Addr} {c3 : Nat} {b3 : Option Addr} {d3 : Nat} (hN : 1 ≤ N) (h : LatR V1 V2 w N m j a3 c3 b3 d3) (hU : U2 ≤ V1) : U2 ≤ w.heap.size := by
  rcases h with ⟨h0, _⟩ | ⟨_, _, _, T1, T2, R1, R2, _, h5, _, h7, _⟩
  · omega
  · have := World.block_lt_of_cell? _ _ (h5 0 (by omega)).1
    simp only at this
    omega
theorem rvv_len (N : Nat) (R1 R2 : Nat → Nat × Nat × Nat) (k : Nat) : (rvv N R1 R2 k).2.1 = N := by unfold rvv rv; split <;> rfl
theorem run_apn (t ty e : TypeId) (i : TypeInfo) (ht : Tryz.prog.underlying t = some (.slice e)) (hi : Tryz.prog.info? e = some i) (b n cap c : Nat) (hn : n ≤ cap) (w : World) :
    (Builtin.append_ #[t, t] ty #[.slice (some ⟨b, 0, none⟩) n cap, .slice none 0 c]).run Tryz.prog w = .ok (.slice (some ⟨b, 0, none⟩) n cap) w := by
  simp [Builtin.append_, run_underlying ht, Builtin.lenOf, Builtin.firstCells, sizeOf, typeInfo, hi, storeCells, Result.andThen, hn]
theorem wp_apn {o : Oper} {a : Act} {w : World} {K : Act → World → Prop} {Q : Exit → Act → World → Prop} (s x : Operand) (t e : TypeId) (i : TypeInfo) (ht : Tryz.prog.underlying t = some (.slice e)) (hi : Tryz.prog.info? e = some i)
    (ho : o.op = .call { callee := .builtin .append, args := #[s, x], argTypes := #[t, t] }) (b n cap c : Nat) (hs : a.eval s = .slice (some ⟨b, 0, none⟩) n cap) (hnc : n ≤ cap) (hx : a.eval x = .slice none 0 c)
    (h : K (a.put o.dst (.slice (some ⟨b, 0, none⟩) n cap)) w) : o.wp Tryz.prog a w K Q := by
  have hrun := run_apn t o.type e i ht hi b n cap c hnc w
  unfold Oper.wp execOp
  simp only [ho, resolve, invoke, builtin, Sem.run_bind, Sem.run_pure, Result.andThen_ok, List.map_toArray, List.map_cons, List.map_nil, hs, hx, hrun]
  exact h
theorem two2_mk {wd we wf : World} {X Y N : Nat} {m j : Nat → Nat → Nat} {U1 U2 : Nat} {a1 : Option Addr} {c1 : Nat} {a2 : Option Addr} {c2 : Nat} {b1 : Option Addr} {d1 : Nat} {b2 : Option Addr} {d2 : Nat} {x y z : Value}
    (hX : Hid (Bx3 wd X (.int .i64 (N : Nat)) (.slice a1 N c1) (.slice a2 N c2))) (hR : Hid (LatR U1 U2 wd N m j a1 c1 a2 c2)) (hY : Hid (Zf3 wd Y x y z)) (hR' : Hid (LatR wd.heap.size we.heap.size we N m j b1 d1 b2 d2)) (hb : Below wd.heap.size wd we)
    (hXY : X ≠ Y) (hl : X < U1 ∧ Y < U1) (hU : U1 ≤ U2) (hU2 : U2 ≤ wd.heap.size) (e : ((we.setCell ⟨Y, 0, none⟩ (.int .i64 (N : Nat))).setCell ⟨Y, 1, none⟩ (.slice b1 N d1)).setCell ⟨Y, 2, none⟩ (.slice b2 N d2) = wf) : Two2 wf X Y N m j U1 U2 wd.heap.size we.heap.size a1 c1 a2 c2 b1 d1 b2 d2 := by
  have hs := setX3 e
  exact ⟨⟨(hX.out.step hb).setX hXY hs, (bx3P (zf3S hY hb) e).out⟩, (hR.out.step hb).setX (by omega) hs, hR'.out.setX (by omega) hs, hl, hU, hU2⟩
theorem org_new {w W : World} {x0 x1 y0 y1 y2 v0 v1 v2 : Value} {t1 t2 t3 : TypeId} (e : ((w.alloc (.cells #[x0, x1] t1)).alloc (.cells #[y0, y1, y2] t2)).alloc (.cells #[v0, v1, v2] t3) = W) :
    (Bx2 W w.heap.size x0 x1 ∧ Bx3 W (w.heap.size + 1) y0 y1 y2 ∧ Bx3 W (w.heap.size + 2) v0 v1 v2) ∧ Below w.heap.size w W := by
  obtain ⟨w1, e1⟩ : ∃ w1, w.alloc (.cells #[x0, x1] t1) = w1 := ⟨_, rfl⟩
  rw [e1] at e
  obtain ⟨w2, e2⟩ : ∃ w2, w1.alloc (.cells #[y0, y1, y2] t2) = w2 := ⟨_, rfl⟩
  rw [e2] at e
  have s1 : w1.heap.size = w.heap.size + 1 := by rw [← e1]; simp
  have s2 : w2.heap.size = w1.heap.size + 1 := by rw [← e2]; simp
  have b1 : Below w.heap.size w w1 := by rw [← e1]; exact (Below.refl _ _).alloc (Nat.le_refl _) _
  have b2 : Below w1.heap.size w1 w2 := by rw [← e2]; exact (Below.refl _ _).alloc (Nat.le_refl _) _
  have b3 : Below w2.heap.size w2 W := by rw [← e]; exact (Below.refl _ _).alloc (Nat.le_refl _) _
  have h1 : Bx2 w1 w.heap.size x0 x1 := by rw [← e1]; exact ⟨by simp, by simp⟩
  have h2 : Bx3 w2 w1.heap.size y0 y1 y2 := by rw [← e2]; exact ⟨by simp, by simp, by simp⟩
  have h3 : Bx3 W w2.heap.size v0 v1 v2 := by rw [← e]; exact ⟨by simp, by simp, by simp⟩
  rw [s1] at h2
  rw [s2, s1] at h3
  exact ⟨⟨(h1.step b2).step b3, h2.step b3, h3⟩, Below.then b1 (Below.then b2 b3)⟩

set_option maxHeartbeats 16000000 in
theorem restLattices_any (n : Int) (a : Option Addr) (la ca : Nat) (f : Nat → Int) (nl : Int) (ma : Option Addr) (lm cma : Nat) (SA : Nat → Option Addr × Nat × Nat) (FA : Nat → Nat → Int) (mb : Option Addr) (ln cmb : Nat) (SB : Nat → Option Addr × Nat × Nat) (FB : Nat → Nat → Int)
    (L Rr : Int) (da : Option Addr) (ld cda : Nat) (h : Nat → Int) (p : Option Addr) (q cq : Nat) (g : Nat → Int) (w : World) (hla : la ≤ 17592186043904) (hlm : lm ≤ 5864062014805) (hln : ln ≤ 5864062014805) (hsa : ∀ k, k < lm → (SA k).2.1 ≤ 17592186043904) (hsb : ∀ k, k < ln → (SB k).2.1 ≤ 17592186043904) (hld : ld ≤ 17592186043904) (hq : q ≤ 17592186043904)
    (hra : Row w a la f) (hrm : RR w ma lm SA FA) (hrn : RR w mb ln SB FB) (hrd : Row w da ld h) (hrq : Row w p q g) :
    Calls Tryz.prog 3 #[.agg #[.int .i64 n, .slice a la ca], .agg #[.int .i64 nl, .slice ma lm cma, .slice mb ln cmb], .agg #[.int .i64 L, .int .i64 Rr, .slice da ld cda], .slice p q cq] w fun e w' => e = .returned (.bool true) ∧ Below w.heap.size w w' := by
  have hMla : la ≤ maxLen := by unfold maxLen; omega
  have hMld : ld ≤ maxLen := by unfold maxLen; omega
  have hMlm : lm ≤ maxLen := by unfold maxLen; omega
  have hMln : ln ≤ maxLen := by unfold maxLen; omega
  obtain ⟨W, HW⟩ : ∃ W, Hid (W = ((w.alloc (.cells #[.int .i64 n, .slice a la ca] 24)).alloc (.cells #[.int .i64 nl, .slice ma lm cma, .slice mb ln cmb] 27)).alloc (.cells #[.int .i64 L, .int .i64 Rr, .slice da ld cda] 29)) := ⟨_, rfl⟩
  have hO : (Bx2 W w.heap.size (.int .i64 n) (.slice a la ca) ∧ Bx3 W (w.heap.size + 1) (.int .i64 nl) (.slice ma lm cma) (.slice mb ln cmb) ∧ Bx3 W (w.heap.size + 2) (.int .i64 L) (.int .i64 Rr) (.slice da ld cda)) ∧ Below w.heap.size w W := by
    exact org_new HW.out.symm
  have HB0 : Hid (Below w.heap.size w W) := hO.2
  have HO0 : Hid (Bx2 W w.heap.size (.int .i64 n) (.slice a la ca) ∧ Bx3 W (w.heap.size + 1) (.int .i64 nl) (.slice ma lm cma) (.slice mb ln cmb) ∧ Bx3 W (w.heap.size + 2) (.int .i64 L) (.int .i64 Rr) (.slice da ld cda)) := hO.1
  have HR0 : Hid (Row W a la f ∧ RR W ma lm SA FA ∧ RR W mb ln SB FB ∧ Row W da ld h ∧ Row W p q g) := ⟨hra.below hO.2, hrm.below hO.2, hrn.below hO.2, hrd.below hO.2, hrq.below hO.2⟩
  clear hO hra hrm hrn hrd hrq
  go_enter Tryz.func3, Tryz.ntmps3
  go_wp2_with fail
  rw [← HW.out]
  clear HW
  refine (idealBegun_any _).mono ?_
  rintro e wa ⟨rfl, hb⟩
  have HBa : Hid (Below W.heap.size W wa) := hb
  clear hb
  go_wp2_with fail
  refine (completeBegun_any _).mono ?_
  rintro e wb ⟨rfl, hb⟩
  have HBb : Hid (Below W.heap.size W wb) := Below.then HBa.out hb
  clear hb HBa
  go_wp2_with fail
  refine (conceptBegun_any _).mono ?_
  rintro e wc ⟨rfl, hb⟩
  have HBc : Hid (Below W.heap.size W wc) := Below.then HBb.out hb
  clear hb HBb
  go_wp2_with fail
  refine (quotientBegun_any _).mono ?_
  rintro e w1 ⟨rfl, hb⟩
  have HBd : Hid (Below W.heap.size W w1) := Below.then HBc.out hb
  have HB1 : Hid (Below w.heap.size w w1) := Below.then HB0.out HBd.out
  have HO1 : Hid (Bx2 w1 w.heap.size (.int .i64 n) (.slice a la ca) ∧ Bx3 w1 (w.heap.size + 1) (.int .i64 nl) (.slice ma lm cma) (.slice mb ln cmb) ∧ Bx3 w1 (w.heap.size + 2) (.int .i64 L) (.int .i64 Rr) (.slice da ld cda)) := ⟨HO0.out.1.step HBd.out, HO0.out.2.1.step HBd.out, HO0.out.2.2.step HBd.out⟩
  have HR1 : Hid (Row w1 a la f ∧ RR w1 ma lm SA FA ∧ RR w1 mb ln SB FB ∧ Row w1 da ld h ∧ Row w1 p q g) := ⟨HR0.out.1.below HBd.out, HR0.out.2.1.below HBd.out, HR0.out.2.2.1.below HBd.out, HR0.out.2.2.2.1.below HBd.out, HR0.out.2.2.2.2.below HBd.out⟩
  clear hb HBc HBd HB0 HO0 HR0
  go_wp2_with fail
  go_loopw [9] (fun kv wx => ∃ k : Nat, k ≤ 4 ∧ kv = .int .i64 k ∧ Hid (Below w1.heap.size w1 wx)) (fun kv _ => 4 - (intOf kv).toNat)
  case atStart => exact ⟨0, by omega, rfl, Below.refl _ _⟩
  case round =>
    obtain ⟨k, hk, rfl, HBk⟩ := hrel
    by_cases hk4 : k < 4
    · have hkI : (k : Int) < 4 := by omega
      have o0 : ∀ w', Below wr.heap.size wr w' → w'.cell? ⟨w.heap.size, 0, none⟩ = some (.int .i64 n) := fun w' h => (HO1.out.1.step (Below.then HBk.out h)).1
      have o1 : ∀ w', Below wr.heap.size wr w' → w'.cell? ⟨w.heap.size, 1, none⟩ = some (.slice a la ca) := fun w' h => (HO1.out.1.step (Below.then HBk.out h)).2
      have HRA : Hid (∀ w', Below wr.heap.size wr w' → Row w' a la f) := fun w' h => HR1.out.1.below (Below.then HBk.out h)
      go_upto_region 6 with fail
      go_cut [10] from 30 to 159 (fun x wx => ∃ (P : Nat) (a2 : Option Addr) (c2 : Nat), x = .pointer (some ⟨P, 0, none⟩) ∧ Hid (Bx2 wx P (.int .i64 n) (.slice a2 la c2)) ∧ Hid (FR wx wr.heap.size a2 la f) ∧ Hid (Below wr.heap.size wr wx))
      case first =>
        refine wp_region_held_drew (S := (fun w' => Below wr.heap.size wr w')) (by kernel_rfl) ((Below.refl _ _).drew) (fun hHeld => ?_)
        generalize wr.drew = wj at *
        refine wpAnyH_take (i := 0) (oi := { dst := some 34, op := Go.Op.fieldAddr 24 (Go.Operand.tmp 4) 0, type := 0, pos := "memory.go:150", after := #[], guard := none }) (v := ?_) rfl (by kernel_rfl) (by kernel_rfl) (by kernel_rfl) (fun _ _ _ h => h) (Or.inl ⟨by rfl, ?hy⟩) (by assumption) ?_
        case hy => (intro w9 hSw; (try dsimp only at hSw); go_simp; try with_reducible rfl)
        try simp only [Act.put, List.setIfInBounds_toArray, List.set_cons_zero, List.set_cons_succ]
        refine wpAnyH_take (i := 1) (oi := { dst := some 35, op := Go.Op.load 3 (Go.Operand.tmp 34), type := 3, pos := "memory.go:150", after := #[{ on := 0, ground := Go.Ground.data }], guard := none }) (v := ?_) rfl (by kernel_rfl) (by kernel_rfl) (by kernel_rfl) (fun _ _ _ h => h) (Or.inl ⟨by rfl, ?hy⟩) (by assumption) ?_
        case hy => (intro w9 hSw; (try dsimp only at hSw); go_simp; try with_reducible rfl)
        try simp only [Act.put, List.setIfInBounds_toArray, List.set_cons_zero, List.set_cons_succ]
        refine wpAnyH_take (i := 2) (oi := { dst := some 36, op := Go.Op.fieldAddr 24 (Go.Operand.tmp 4) 1, type := 0, pos := "memory.go:150", after := #[], guard := none }) (v := ?_) rfl (by kernel_rfl) (by kernel_rfl) (by kernel_rfl) (fun _ _ _ h => h) (Or.inl ⟨by rfl, ?hy⟩) (by assumption) ?_
        case hy => (intro w9 hSw; (try dsimp only at hSw); go_simp; try with_reducible rfl)
        try simp only [Act.put, List.setIfInBounds_toArray, List.set_cons_zero, List.set_cons_succ]
        refine wpAnyH_take (i := 3) (oi := { dst := some 37, op := Go.Op.load 22 (Go.Operand.tmp 36), type := 22, pos := "memory.go:150", after := #[{ on := 2, ground := Go.Ground.data }], guard := none }) (v := ?_) rfl (by kernel_rfl) (by kernel_rfl) (by kernel_rfl) (fun _ _ _ h => h) (Or.inl ⟨by rfl, ?hy⟩) (by assumption) ?_
        case hy => (intro w9 hSw; (try dsimp only at hSw); go_simp; try with_reducible rfl)
        try simp only [Act.put, List.setIfInBounds_toArray, List.set_cons_zero, List.set_cons_succ]
        refine wpAnyH_ready (rs := [4, 6]) (by kernel_rfl) (by simp) ?_
        refine AllReadyH.cons (o := { dst := some 38, op := Go.Op.call { callee := Go.Callee.value (Go.Operand.func 8), args := #[Go.Operand.tmp 37], argTypes := #[22] }, type := 22, pos := "memory.go:150", after := #[{ on := 3, ground := Go.Ground.data }], guard := none }) rfl (fun K hK => ?_) ?_
        · go_simp
          refine (twin_any a la ca f _ hla (HRA.out _ (by assumption))).mono ?_
          rintro e w5 ⟨⟨a2, c2, rfl, hF5, _⟩, hb5⟩
          have HA : Hid (FR w5 wr.heap.size a2 la f) := hF5.wide (Below.size (by assumption)) (Nat.le_refl _)
          refine hK.out _ _ ?_ (fun hHeld => ?_)
          · exact Below.then (by assumption) hb5
          clear hK K
          try simp only [Act.put, List.setIfInBounds_toArray, List.set_cons_zero, List.set_cons_succ]
          try (have HAP := neF_old HLP hF5)
          try (replace HZP := zf2S HZP hb5)
          try (replace HLP := ltS HLP hb5)
          clear hF5 hb5
          try clear z0 z1 g0 g1
          try (obtain ⟨⟨z0, z1⟩, g0, g1⟩ := HZP.out)
          refine wpAnyH_take (i := 5) (oi := { dst := some 39, op := Go.Op.build 24 #[(0, Go.Operand.tmp 35), (1, Go.Operand.tmp 38)], type := 24, pos := "memory.go:150", after := #[{ on := 1, ground := Go.Ground.data }, { on := 4, ground := Go.Ground.data }], guard := none }) (v := ?_) rfl (by kernel_rfl) (by kernel_rfl) (by kernel_rfl) (fun _ _ _ h => h) (Or.inl ⟨by rfl, ?hy⟩) (by assumption) ?_
          case hy => (intro w9 hSw; (try dsimp only at hSw); go_simp; try with_reducible rfl)
          try simp only [Act.put, List.setIfInBounds_toArray, List.set_cons_zero, List.set_cons_succ]
          refine wpAnyH_ready (rs := [6]) (by kernel_rfl) (by simp) ?_
          refine AllReadyH.cons (o := { dst := some 10, op := Go.Op.alloc 24, type := 0, pos := "memory.go:150", after := #[], guard := none }) rfl (fun K hK => ?_) AllReadyH.nil
          go_simp
          refine gen_al (fun wp halp => ?_)
          have HXP := szP (W := wr) (by assumption) halp
          refine hK.out _ _ ?_ (fun hHeld => ?_)
          · exact alB (by assumption) halp
          clear hK K
          try simp only [Act.put, List.setIfInBounds_toArray, List.set_cons_zero, List.set_cons_succ]
          have HZP := zf2N halp
          have HLP := newLt halp
          try (have HAP := neF_new HA halp)
          try (replace HA := frA HA halp)
          clear halp
          try clear z0 z1 g0 g1
          try (obtain ⟨⟨z0, z1⟩, g0, g1⟩ := HZP.out)
          refine wpAnyH_ready (rs := [7]) (by kernel_rfl) (by simp) ?_
          refine AllReadyH.cons (o := { dst := none, op := Go.Op.store 24 (Go.Operand.tmp 10) (Go.Operand.tmp 39), type := 0, pos := "memory.go:150", after := #[{ on := 6, ground := Go.Ground.data }, { on := 5, ground := Go.Ground.data }, { on := 4, ground := Go.Ground.chain }, { on := 0, ground := Go.Ground.phase }, { on := 1, ground := Go.Ground.phase }, { on := 2, ground := Go.Ground.phase }, { on := 3, ground := Go.Ground.phase }, { on := 4, ground := Go.Ground.phase }, { on := 5, ground := Go.Ground.phase }, { on := 6, ground := Go.Ground.phase }], guard := none }) rfl (fun K hK => ?_) AllReadyH.nil
          go_simp
          refine gen_set2 (fun ws hst => ?_)
          refine hK.out _ _ ?_ (fun hHeld => ?_)
          · exact stB2 (by assumption) HXP.out hst
          clear hK K
          try simp only [Act.put, List.setIfInBounds_toArray, List.set_cons_zero, List.set_cons_succ]
          clear z0 z1 g0 g1
          have HPB := bx2P HZP hst
          replace HA := frX HA HAP (setX2 hst)
          clear hst HZP
          refine wpAnyH_done (by kernel_rfl) ?_ _
          try simp only [Act.put, List.setIfInBounds_toArray, List.set_cons_zero, List.set_cons_succ]
          go_wp2_with fail
          go_meet
          exact ⟨_, a2, c2, rfl, HPB.out, HA.out, by assumption⟩
        refine AllReadyH.cons (o := { dst := some 10, op := Go.Op.alloc 24, type := 0, pos := "memory.go:150", after := #[], guard := none }) rfl (fun K hK => ?_) ?_
        · go_simp
          refine gen_al (fun wp halp => ?_)
          have HXP := szP (W := wr) (by assumption) halp
          refine hK.out _ _ ?_ (fun hHeld => ?_)
          · exact alB (by assumption) halp
          clear hK K
          try simp only [Act.put, List.setIfInBounds_toArray, List.set_cons_zero, List.set_cons_succ]
          have HZP := zf2N halp
          have HLP := newLt halp
          try (have HAP := neF_new HA halp)
          try (replace HA := frA HA halp)
          clear halp
          try clear z0 z1 g0 g1
          try (obtain ⟨⟨z0, z1⟩, g0, g1⟩ := HZP.out)
          refine wpAnyH_ready (rs := [4]) (by kernel_rfl) (by simp) ?_
          refine AllReadyH.cons (o := { dst := some 38, op := Go.Op.call { callee := Go.Callee.value (Go.Operand.func 8), args := #[Go.Operand.tmp 37], argTypes := #[22] }, type := 22, pos := "memory.go:150", after := #[{ on := 3, ground := Go.Ground.data }], guard := none }) rfl (fun K hK => ?_) AllReadyH.nil
          go_simp
          refine (twin_any a la ca f _ hla (HRA.out _ (by assumption))).mono ?_
          rintro e w5 ⟨⟨a2, c2, rfl, hF5, _⟩, hb5⟩
          have HA : Hid (FR w5 wr.heap.size a2 la f) := hF5.wide (Below.size (by assumption)) (Nat.le_refl _)
          refine hK.out _ _ ?_ (fun hHeld => ?_)
          · exact Below.then (by assumption) hb5
          clear hK K
          try simp only [Act.put, List.setIfInBounds_toArray, List.set_cons_zero, List.set_cons_succ]
          try (have HAP := neF_old HLP hF5)
          try (replace HZP := zf2S HZP hb5)
          try (replace HLP := ltS HLP hb5)
          clear hF5 hb5
          try clear z0 z1 g0 g1
          try (obtain ⟨⟨z0, z1⟩, g0, g1⟩ := HZP.out)
          refine wpAnyH_take (i := 5) (oi := { dst := some 39, op := Go.Op.build 24 #[(0, Go.Operand.tmp 35), (1, Go.Operand.tmp 38)], type := 24, pos := "memory.go:150", after := #[{ on := 1, ground := Go.Ground.data }, { on := 4, ground := Go.Ground.data }], guard := none }) (v := ?_) rfl (by kernel_rfl) (by kernel_rfl) (by kernel_rfl) (fun _ _ _ h => h) (Or.inl ⟨by rfl, ?hy⟩) (by assumption) ?_
          case hy => (intro w9 hSw; (try dsimp only at hSw); go_simp; try with_reducible rfl)
          try simp only [Act.put, List.setIfInBounds_toArray, List.set_cons_zero, List.set_cons_succ]
          refine wpAnyH_ready (rs := [7]) (by kernel_rfl) (by simp) ?_
          refine AllReadyH.cons (o := { dst := none, op := Go.Op.store 24 (Go.Operand.tmp 10) (Go.Operand.tmp 39), type := 0, pos := "memory.go:150", after := #[{ on := 6, ground := Go.Ground.data }, { on := 5, ground := Go.Ground.data }, { on := 4, ground := Go.Ground.chain }, { on := 0, ground := Go.Ground.phase }, { on := 1, ground := Go.Ground.phase }, { on := 2, ground := Go.Ground.phase }, { on := 3, ground := Go.Ground.phase }, { on := 4, ground := Go.Ground.phase }, { on := 5, ground := Go.Ground.phase }, { on := 6, ground := Go.Ground.phase }], guard := none }) rfl (fun K hK => ?_) AllReadyH.nil
          go_simp
          refine gen_set2 (fun ws hst => ?_)
          refine hK.out _ _ ?_ (fun hHeld => ?_)
          · exact stB2 (by assumption) HXP.out hst
          clear hK K
          try simp only [Act.put, List.setIfInBounds_toArray, List.set_cons_zero, List.set_cons_succ]
          clear z0 z1 g0 g1
          have HPB := bx2P HZP hst
          replace HA := frX HA HAP (setX2 hst)
          clear hst HZP
          refine wpAnyH_done (by kernel_rfl) ?_ _
          try simp only [Act.put, List.setIfInBounds_toArray, List.set_cons_zero, List.set_cons_succ]
          go_wp2_with fail
          go_meet
          exact ⟨_, a2, c2, rfl, HPB.out, HA.out, by assumption⟩
        exact AllReadyH.nil
      case rest =>
        obtain ⟨P, a2, c2, rfl, HP6, HA6, HB6⟩ := hcut
        rename World => wu
        clear o0 o1 HRA
        have o0 : ∀ w', Below wu.heap.size wu w' → w'.cell? ⟨w.heap.size + 1, 0, none⟩ = some (.int .i64 nl) := fun w' h => (HO1.out.2.1.step (Below.then HBk.out (Below.then HB6.out h))).1
        have o1 : ∀ w', Below wu.heap.size wu w' → w'.cell? ⟨w.heap.size + 1, 1, none⟩ = some (.slice ma lm cma) := fun w' h => (HO1.out.2.1.step (Below.then HBk.out (Below.then HB6.out h))).2.1
        have o2 : ∀ w', Below wu.heap.size wu w' → w'.cell? ⟨w.heap.size + 1, 2, none⟩ = some (.slice mb ln cmb) := fun w' h => (HO1.out.2.1.step (Below.then HBk.out (Below.then HB6.out h))).2.2
        have HRM : Hid (∀ w', Below wu.heap.size wu w' → RR w' ma lm SA FA) := fun w' h => HR1.out.2.1.below (Below.then HBk.out (Below.then HB6.out h))
        have HRN : Hid (∀ w', Below wu.heap.size wu w' → RR w' mb ln SB FB) := fun w' h => HR1.out.2.2.1.below (Below.then HBk.out (Below.then HB6.out h))
        go_upto_region 7 with fail
        go_cut [11] from 30 to 159 (fun x wx => ∃ (M : Nat) (m1 : Option Addr) (e1 : Nat) (T1 : Nat → Option Addr × Nat × Nat) (m2 : Option Addr) (e2 : Nat) (T2 : Nat → Option Addr × Nat × Nat), x = .pointer (some ⟨M, 0, none⟩) ∧ Hid (Bx3 wx M (.int .i64 nl) (.slice m1 lm e1) (.slice m2 ln e2)) ∧ Hid (Tws wx wu.heap.size m1 lm T1 (fun k => (SA k).2.1) FA) ∧ Hid (Tws wx wu.heap.size m2 ln T2 (fun k => (SB k).2.1) FB) ∧ Hid (Below wu.heap.size wu wx))
        case first =>
          refine wp_region_held_drew (S := (fun w' => Below wu.heap.size wu w')) (by kernel_rfl) ((Below.refl _ _).drew) (fun hHeld => ?_)
          generalize wu.drew = wj at *
          refine wpAnyH_take (i := 0) (oi := { dst := some 40, op := Go.Op.fieldAddr 27 (Go.Operand.tmp 5) 0, type := 0, pos := "memory.go:151", after := #[], guard := none }) (v := ?_) rfl (by kernel_rfl) (by kernel_rfl) (by kernel_rfl) (fun _ _ _ h => h) (Or.inl ⟨by rfl, ?hy⟩) (by assumption) ?_
          case hy => (intro w9 hSw; (try dsimp only at hSw); go_simp; try with_reducible rfl)
          try simp only [Act.put, List.setIfInBounds_toArray, List.set_cons_zero, List.set_cons_succ]
          refine wpAnyH_take (i := 1) (oi := { dst := some 41, op := Go.Op.load 3 (Go.Operand.tmp 40), type := 3, pos := "memory.go:151", after := #[{ on := 0, ground := Go.Ground.data }], guard := none }) (v := ?_) rfl (by kernel_rfl) (by kernel_rfl) (by kernel_rfl) (fun _ _ _ h => h) (Or.inl ⟨by rfl, ?hy⟩) (by assumption) ?_
          case hy => (intro w9 hSw; (try dsimp only at hSw); go_simp; try with_reducible rfl)
          try simp only [Act.put, List.setIfInBounds_toArray, List.set_cons_zero, List.set_cons_succ]
          refine wpAnyH_take (i := 2) (oi := { dst := some 42, op := Go.Op.fieldAddr 27 (Go.Operand.tmp 5) 1, type := 0, pos := "memory.go:151", after := #[], guard := none }) (v := ?_) rfl (by kernel_rfl) (by kernel_rfl) (by kernel_rfl) (fun _ _ _ h => h) (Or.inl ⟨by rfl, ?hy⟩) (by assumption) ?_
          case hy => (intro w9 hSw; (try dsimp only at hSw); go_simp; try with_reducible rfl)
          try simp only [Act.put, List.setIfInBounds_toArray, List.set_cons_zero, List.set_cons_succ]
          refine wpAnyH_take (i := 3) (oi := { dst := some 43, op := Go.Op.load 25 (Go.Operand.tmp 42), type := 25, pos := "memory.go:151", after := #[{ on := 2, ground := Go.Ground.data }], guard := none }) (v := ?_) rfl (by kernel_rfl) (by kernel_rfl) (by kernel_rfl) (fun _ _ _ h => h) (Or.inl ⟨by rfl, ?hy⟩) (by assumption) ?_
          case hy => (intro w9 hSw; (try dsimp only at hSw); go_simp; try with_reducible rfl)
          try simp only [Act.put, List.setIfInBounds_toArray, List.set_cons_zero, List.set_cons_succ]
          refine wpAnyH_take (i := 5) (oi := { dst := some 45, op := Go.Op.fieldAddr 27 (Go.Operand.tmp 5) 2, type := 0, pos := "memory.go:151", after := #[], guard := none }) (v := ?_) rfl (by kernel_rfl) (by kernel_rfl) (by kernel_rfl) (fun _ _ _ h => h) (Or.inl ⟨by rfl, ?hy⟩) (by assumption) ?_
          case hy => (intro w9 hSw; (try dsimp only at hSw); go_simp; try with_reducible rfl)
          try simp only [Act.put, List.setIfInBounds_toArray, List.set_cons_zero, List.set_cons_succ]
          refine wpAnyH_take (i := 6) (oi := { dst := some 46, op := Go.Op.load 25 (Go.Operand.tmp 45), type := 25, pos := "memory.go:151", after := #[{ on := 5, ground := Go.Ground.data }], guard := none }) (v := ?_) rfl (by kernel_rfl) (by kernel_rfl) (by kernel_rfl) (fun _ _ _ h => h) (Or.inl ⟨by rfl, ?hy⟩) (by assumption) ?_
          case hy => (intro w9 hSw; (try dsimp only at hSw); go_simp; try with_reducible rfl)
          try simp only [Act.put, List.setIfInBounds_toArray, List.set_cons_zero, List.set_cons_succ]
          refine wpAnyH_ready (rs := [4, 9]) (by kernel_rfl) (by simp) ?_
          refine AllReadyH.cons (o := { dst := some 44, op := Go.Op.call { callee := Go.Callee.value (Go.Operand.func 9), args := #[Go.Operand.tmp 43], argTypes := #[25] }, type := 25, pos := "memory.go:151", after := #[{ on := 3, ground := Go.Ground.data }], guard := none }) rfl (fun K hK => ?_) ?_
          · go_simp
            refine (twins_any ma lm cma SA FA _ hlm hsa (HRM.out _ (by assumption))).mono ?_
            rintro e w5 ⟨⟨m1, e1, T1, rfl, hT5⟩, hb5⟩
            have H1 : Hid (Tws w5 wu.heap.size m1 lm T1 (fun k => (SA k).2.1) FA) := tw_wide hT5 (Below.size (by assumption))
            refine hK.out _ _ ?_ (fun hHeld => ?_)
            · exact Below.then (by assumption) hb5
            clear hK K
            try simp only [Act.put, List.setIfInBounds_toArray, List.set_cons_zero, List.set_cons_succ]
            try (have HAP := neT_old HLP hT5)
            try (replace HZP := zf3S HZP hb5)
            try (replace HLP := ltS HLP hb5)
            clear hT5 hb5
            try clear z0 z1 z2 g0 g1 g2
            try (obtain ⟨⟨z0, z1, z2⟩, g0, g1, g2⟩ := HZP.out)
            refine wpAnyH_ready (rs := [7, 9]) (by kernel_rfl) (by simp) ?_
            refine AllReadyH.cons (o := { dst := some 47, op := Go.Op.call { callee := Go.Callee.value (Go.Operand.func 9), args := #[Go.Operand.tmp 46], argTypes := #[25] }, type := 25, pos := "memory.go:151", after := #[{ on := 6, ground := Go.Ground.data }, { on := 4, ground := Go.Ground.chain }], guard := none }) rfl (fun K hK => ?_) ?_
            · go_simp
              refine (twins_any mb ln cmb SB FB _ hln hsb (HRN.out _ (by assumption))).mono ?_
              rintro e w6 ⟨⟨m2, e2, T2, rfl, hT6⟩, hb6⟩
              have H2 : Hid (Tws w6 wu.heap.size m2 ln T2 (fun k => (SB k).2.1) FB) := tw_wide hT6 (Below.size (by assumption))
              refine hK.out _ _ ?_ (fun hHeld => ?_)
              · exact Below.then (by assumption) hb6
              clear hK K
              try simp only [Act.put, List.setIfInBounds_toArray, List.set_cons_zero, List.set_cons_succ]
              try (have HBP := neT_old HLP hT6)
              try (replace HZP := zf3S HZP hb6)
              try (replace HLP := ltS HLP hb6)
              replace H1 := twS H1 hb6
              clear hT6 hb6
              try clear z0 z1 z2 g0 g1 g2
              try (obtain ⟨⟨z0, z1, z2⟩, g0, g1, g2⟩ := HZP.out)
              refine wpAnyH_take (i := 8) (oi := { dst := some 48, op := Go.Op.build 27 #[(0, Go.Operand.tmp 41), (1, Go.Operand.tmp 44), (2, Go.Operand.tmp 47)], type := 27, pos := "memory.go:151", after := #[{ on := 1, ground := Go.Ground.data }, { on := 4, ground := Go.Ground.data }, { on := 7, ground := Go.Ground.data }], guard := none }) (v := ?_) rfl (by kernel_rfl) (by kernel_rfl) (by kernel_rfl) (fun _ _ _ h => h) (Or.inl ⟨by rfl, ?hy⟩) (by assumption) ?_
              case hy => (intro w9 hSw; (try dsimp only at hSw); go_simp; try with_reducible rfl)
              try simp only [Act.put, List.setIfInBounds_toArray, List.set_cons_zero, List.set_cons_succ]
              refine wpAnyH_ready (rs := [9]) (by kernel_rfl) (by simp) ?_
              refine AllReadyH.cons (o := { dst := some 11, op := Go.Op.alloc 27, type := 0, pos := "memory.go:151", after := #[], guard := none }) rfl (fun K hK => ?_) AllReadyH.nil
              go_simp
              refine gen_al (fun wp halp => ?_)
              have HXP := szP (W := wu) (by assumption) halp
              refine hK.out _ _ ?_ (fun hHeld => ?_)
              · exact alB (by assumption) halp
              clear hK K
              try simp only [Act.put, List.setIfInBounds_toArray, List.set_cons_zero, List.set_cons_succ]
              have HZP := zf3N halp
              have HLP := newLt halp
              try (have HAP := neT_new H1 halp)
              try (have HBP := neT_new H2 halp)
              try (replace H1 := twA H1 halp)
              try (replace H2 := twA H2 halp)
              clear halp
              try clear z0 z1 z2 g0 g1 g2
              try (obtain ⟨⟨z0, z1, z2⟩, g0, g1, g2⟩ := HZP.out)
              refine wpAnyH_ready (rs := [10]) (by kernel_rfl) (by simp) ?_
              refine AllReadyH.cons (o := { dst := none, op := Go.Op.store 27 (Go.Operand.tmp 11) (Go.Operand.tmp 48), type := 0, pos := "memory.go:151", after := #[{ on := 9, ground := Go.Ground.data }, { on := 8, ground := Go.Ground.data }, { on := 7, ground := Go.Ground.chain }, { on := 0, ground := Go.Ground.phase }, { on := 1, ground := Go.Ground.phase }, { on := 2, ground := Go.Ground.phase }, { on := 3, ground := Go.Ground.phase }, { on := 4, ground := Go.Ground.phase }, { on := 5, ground := Go.Ground.phase }, { on := 6, ground := Go.Ground.phase }, { on := 7, ground := Go.Ground.phase }, { on := 8, ground := Go.Ground.phase }, { on := 9, ground := Go.Ground.phase }], guard := none }) rfl (fun K hK => ?_) AllReadyH.nil
              go_simp
              refine gen_set3 (fun ws hst => ?_)
              refine hK.out _ _ ?_ (fun hHeld => ?_)
              · exact stB3 (by assumption) HXP.out hst
              clear hK K
              try simp only [Act.put, List.setIfInBounds_toArray, List.set_cons_zero, List.set_cons_succ]
              clear z0 z1 z2 g0 g1 g2
              have HPB := bx3P HZP hst
              replace H1 := twX H1 HAP (setX3 hst)
              replace H2 := twX H2 HBP (setX3 hst)
              clear hst HZP
              refine wpAnyH_done (by kernel_rfl) ?_ _
              try simp only [Act.put, List.setIfInBounds_toArray, List.set_cons_zero, List.set_cons_succ]
              go_wp2_with fail
              go_meet
              exact ⟨_, m1, e1, T1, m2, e2, T2, rfl, HPB.out, H1.out, H2.out, by assumption⟩
            refine AllReadyH.cons (o := { dst := some 11, op := Go.Op.alloc 27, type := 0, pos := "memory.go:151", after := #[], guard := none }) rfl (fun K hK => ?_) ?_
            · go_simp
              refine gen_al (fun wp halp => ?_)
              have HXP := szP (W := wu) (by assumption) halp
              refine hK.out _ _ ?_ (fun hHeld => ?_)
              · exact alB (by assumption) halp
              clear hK K
              try simp only [Act.put, List.setIfInBounds_toArray, List.set_cons_zero, List.set_cons_succ]
              have HZP := zf3N halp
              have HLP := newLt halp
              try (have HAP := neT_new H1 halp)
              try (have HBP := neT_new H2 halp)
              try (replace H1 := twA H1 halp)
              try (replace H2 := twA H2 halp)
              clear halp
              try clear z0 z1 z2 g0 g1 g2
              try (obtain ⟨⟨z0, z1, z2⟩, g0, g1, g2⟩ := HZP.out)
              refine wpAnyH_ready (rs := [7]) (by kernel_rfl) (by simp) ?_
              refine AllReadyH.cons (o := { dst := some 47, op := Go.Op.call { callee := Go.Callee.value (Go.Operand.func 9), args := #[Go.Operand.tmp 46], argTypes := #[25] }, type := 25, pos := "memory.go:151", after := #[{ on := 6, ground := Go.Ground.data }, { on := 4, ground := Go.Ground.chain }], guard := none }) rfl (fun K hK => ?_) AllReadyH.nil
              go_simp
              refine (twins_any mb ln cmb SB FB _ hln hsb (HRN.out _ (by assumption))).mono ?_
              rintro e w6 ⟨⟨m2, e2, T2, rfl, hT6⟩, hb6⟩
              have H2 : Hid (Tws w6 wu.heap.size m2 ln T2 (fun k => (SB k).2.1) FB) := tw_wide hT6 (Below.size (by assumption))
              refine hK.out _ _ ?_ (fun hHeld => ?_)
              · exact Below.then (by assumption) hb6
              clear hK K
              try simp only [Act.put, List.setIfInBounds_toArray, List.set_cons_zero, List.set_cons_succ]
              try (have HBP := neT_old HLP hT6)
              try (replace HZP := zf3S HZP hb6)
              try (replace HLP := ltS HLP hb6)
              replace H1 := twS H1 hb6
              clear hT6 hb6
              try clear z0 z1 z2 g0 g1 g2
              try (obtain ⟨⟨z0, z1, z2⟩, g0, g1, g2⟩ := HZP.out)
              refine wpAnyH_take (i := 8) (oi := { dst := some 48, op := Go.Op.build 27 #[(0, Go.Operand.tmp 41), (1, Go.Operand.tmp 44), (2, Go.Operand.tmp 47)], type := 27, pos := "memory.go:151", after := #[{ on := 1, ground := Go.Ground.data }, { on := 4, ground := Go.Ground.data }, { on := 7, ground := Go.Ground.data }], guard := none }) (v := ?_) rfl (by kernel_rfl) (by kernel_rfl) (by kernel_rfl) (fun _ _ _ h => h) (Or.inl ⟨by rfl, ?hy⟩) (by assumption) ?_
              case hy => (intro w9 hSw; (try dsimp only at hSw); go_simp; try with_reducible rfl)
              try simp only [Act.put, List.setIfInBounds_toArray, List.set_cons_zero, List.set_cons_succ]
              refine wpAnyH_ready (rs := [10]) (by kernel_rfl) (by simp) ?_
              refine AllReadyH.cons (o := { dst := none, op := Go.Op.store 27 (Go.Operand.tmp 11) (Go.Operand.tmp 48), type := 0, pos := "memory.go:151", after := #[{ on := 9, ground := Go.Ground.data }, { on := 8, ground := Go.Ground.data }, { on := 7, ground := Go.Ground.chain }, { on := 0, ground := Go.Ground.phase }, { on := 1, ground := Go.Ground.phase }, { on := 2, ground := Go.Ground.phase }, { on := 3, ground := Go.Ground.phase }, { on := 4, ground := Go.Ground.phase }, { on := 5, ground := Go.Ground.phase }, { on := 6, ground := Go.Ground.phase }, { on := 7, ground := Go.Ground.phase }, { on := 8, ground := Go.Ground.phase }, { on := 9, ground := Go.Ground.phase }], guard := none }) rfl (fun K hK => ?_) AllReadyH.nil
              go_simp
              refine gen_set3 (fun ws hst => ?_)
              refine hK.out _ _ ?_ (fun hHeld => ?_)
              · exact stB3 (by assumption) HXP.out hst
              clear hK K
              try simp only [Act.put, List.setIfInBounds_toArray, List.set_cons_zero, List.set_cons_succ]
              clear z0 z1 z2 g0 g1 g2
              have HPB := bx3P HZP hst
              replace H1 := twX H1 HAP (setX3 hst)
              replace H2 := twX H2 HBP (setX3 hst)
              clear hst HZP
              refine wpAnyH_done (by kernel_rfl) ?_ _
              try simp only [Act.put, List.setIfInBounds_toArray, List.set_cons_zero, List.set_cons_succ]
              go_wp2_with fail
              go_meet
              exact ⟨_, m1, e1, T1, m2, e2, T2, rfl, HPB.out, H1.out, H2.out, by assumption⟩
            exact AllReadyH.nil
          refine AllReadyH.cons (o := { dst := some 11, op := Go.Op.alloc 27, type := 0, pos := "memory.go:151", after := #[], guard := none }) rfl (fun K hK => ?_) ?_
          · go_simp
            refine gen_al (fun wp halp => ?_)
            have HXP := szP (W := wu) (by assumption) halp
            refine hK.out _ _ ?_ (fun hHeld => ?_)
            · exact alB (by assumption) halp
            clear hK K
            try simp only [Act.put, List.setIfInBounds_toArray, List.set_cons_zero, List.set_cons_succ]
            have HZP := zf3N halp
            have HLP := newLt halp
            try (have HAP := neT_new H1 halp)
            try (have HBP := neT_new H2 halp)
            try (replace H1 := twA H1 halp)
            try (replace H2 := twA H2 halp)
            clear halp
            try clear z0 z1 z2 g0 g1 g2
            try (obtain ⟨⟨z0, z1, z2⟩, g0, g1, g2⟩ := HZP.out)
            refine wpAnyH_ready (rs := [4]) (by kernel_rfl) (by simp) ?_
            refine AllReadyH.cons (o := { dst := some 44, op := Go.Op.call { callee := Go.Callee.value (Go.Operand.func 9), args := #[Go.Operand.tmp 43], argTypes := #[25] }, type := 25, pos := "memory.go:151", after := #[{ on := 3, ground := Go.Ground.data }], guard := none }) rfl (fun K hK => ?_) AllReadyH.nil
            go_simp
            refine (twins_any ma lm cma SA FA _ hlm hsa (HRM.out _ (by assumption))).mono ?_
            rintro e w5 ⟨⟨m1, e1, T1, rfl, hT5⟩, hb5⟩
            have H1 : Hid (Tws w5 wu.heap.size m1 lm T1 (fun k => (SA k).2.1) FA) := tw_wide hT5 (Below.size (by assumption))
            refine hK.out _ _ ?_ (fun hHeld => ?_)
            · exact Below.then (by assumption) hb5
            clear hK K
            try simp only [Act.put, List.setIfInBounds_toArray, List.set_cons_zero, List.set_cons_succ]
            try (have HAP := neT_old HLP hT5)
            try (replace HZP := zf3S HZP hb5)
            try (replace HLP := ltS HLP hb5)
            clear hT5 hb5
            try clear z0 z1 z2 g0 g1 g2
            try (obtain ⟨⟨z0, z1, z2⟩, g0, g1, g2⟩ := HZP.out)
            refine wpAnyH_ready (rs := [7]) (by kernel_rfl) (by simp) ?_
            refine AllReadyH.cons (o := { dst := some 47, op := Go.Op.call { callee := Go.Callee.value (Go.Operand.func 9), args := #[Go.Operand.tmp 46], argTypes := #[25] }, type := 25, pos := "memory.go:151", after := #[{ on := 6, ground := Go.Ground.data }, { on := 4, ground := Go.Ground.chain }], guard := none }) rfl (fun K hK => ?_) AllReadyH.nil
            go_simp
            refine (twins_any mb ln cmb SB FB _ hln hsb (HRN.out _ (by assumption))).mono ?_
            rintro e w6 ⟨⟨m2, e2, T2, rfl, hT6⟩, hb6⟩
            have H2 : Hid (Tws w6 wu.heap.size m2 ln T2 (fun k => (SB k).2.1) FB) := tw_wide hT6 (Below.size (by assumption))
            refine hK.out _ _ ?_ (fun hHeld => ?_)
            · exact Below.then (by assumption) hb6
            clear hK K
            try simp only [Act.put, List.setIfInBounds_toArray, List.set_cons_zero, List.set_cons_succ]
            try (have HBP := neT_old HLP hT6)
            try (replace HZP := zf3S HZP hb6)
            try (replace HLP := ltS HLP hb6)
            replace H1 := twS H1 hb6
            clear hT6 hb6
            try clear z0 z1 z2 g0 g1 g2
            try (obtain ⟨⟨z0, z1, z2⟩, g0, g1, g2⟩ := HZP.out)
            refine wpAnyH_take (i := 8) (oi := { dst := some 48, op := Go.Op.build 27 #[(0, Go.Operand.tmp 41), (1, Go.Operand.tmp 44), (2, Go.Operand.tmp 47)], type := 27, pos := "memory.go:151", after := #[{ on := 1, ground := Go.Ground.data }, { on := 4, ground := Go.Ground.data }, { on := 7, ground := Go.Ground.data }], guard := none }) (v := ?_) rfl (by kernel_rfl) (by kernel_rfl) (by kernel_rfl) (fun _ _ _ h => h) (Or.inl ⟨by rfl, ?hy⟩) (by assumption) ?_
            case hy => (intro w9 hSw; (try dsimp only at hSw); go_simp; try with_reducible rfl)
            try simp only [Act.put, List.setIfInBounds_toArray, List.set_cons_zero, List.set_cons_succ]
            refine wpAnyH_ready (rs := [10]) (by kernel_rfl) (by simp) ?_
            refine AllReadyH.cons (o := { dst := none, op := Go.Op.store 27 (Go.Operand.tmp 11) (Go.Operand.tmp 48), type := 0, pos := "memory.go:151", after := #[{ on := 9, ground := Go.Ground.data }, { on := 8, ground := Go.Ground.data }, { on := 7, ground := Go.Ground.chain }, { on := 0, ground := Go.Ground.phase }, { on := 1, ground := Go.Ground.phase }, { on := 2, ground := Go.Ground.phase }, { on := 3, ground := Go.Ground.phase }, { on := 4, ground := Go.Ground.phase }, { on := 5, ground := Go.Ground.phase }, { on := 6, ground := Go.Ground.phase }, { on := 7, ground := Go.Ground.phase }, { on := 8, ground := Go.Ground.phase }, { on := 9, ground := Go.Ground.phase }], guard := none }) rfl (fun K hK => ?_) AllReadyH.nil
            go_simp
            refine gen_set3 (fun ws hst => ?_)
            refine hK.out _ _ ?_ (fun hHeld => ?_)
            · exact stB3 (by assumption) HXP.out hst
            clear hK K
            try simp only [Act.put, List.setIfInBounds_toArray, List.set_cons_zero, List.set_cons_succ]
            clear z0 z1 z2 g0 g1 g2
            have HPB := bx3P HZP hst
            replace H1 := twX H1 HAP (setX3 hst)
            replace H2 := twX H2 HBP (setX3 hst)
            clear hst HZP
            refine wpAnyH_done (by kernel_rfl) ?_ _
            try simp only [Act.put, List.setIfInBounds_toArray, List.set_cons_zero, List.set_cons_succ]
            go_wp2_with fail
            go_meet
            exact ⟨_, m1, e1, T1, m2, e2, T2, rfl, HPB.out, H1.out, H2.out, by assumption⟩
          exact AllReadyH.nil
        case rest =>
          obtain ⟨M, m1, e1, T1, m2, e2, T2, rfl, HM7, H17, H27, HB7⟩ := hcut
          rename World => wv
          clear o0 o1 o2 HRM HRN
          have HBv : Hid (Below w1.heap.size w1 wv) := Below.then HBk.out (Below.then HB6.out HB7.out)
          have o0 : ∀ w', Below wv.heap.size wv w' → w'.cell? ⟨w.heap.size + 2, 0, none⟩ = some (.int .i64 L) := fun w' h => (HO1.out.2.2.step (Below.then HBv.out h)).1
          have o1 : ∀ w', Below wv.heap.size wv w' → w'.cell? ⟨w.heap.size + 2, 1, none⟩ = some (.int .i64 Rr) := fun w' h => (HO1.out.2.2.step (Below.then HBv.out h)).2.1
          have o2 : ∀ w', Below wv.heap.size wv w' → w'.cell? ⟨w.heap.size + 2, 2, none⟩ = some (.slice da ld cda) := fun w' h => (HO1.out.2.2.step (Below.then HBv.out h)).2.2
          have HRD : Hid (∀ w', Below wv.heap.size wv w' → Row w' da ld h) := fun w' h => HR1.out.2.2.2.1.below (Below.then HBv.out h)
          go_upto_region 8 with fail
          go_cut [12] from 30 to 159 (fun x wx => ∃ (D : Nat) (dd : Option Addr) (e3 : Nat), x = .pointer (some ⟨D, 0, none⟩) ∧ Hid (Bx3 wx D (.int .i64 L) (.int .i64 Rr) (.slice dd ld e3)) ∧ Hid (FR wx wv.heap.size dd ld h) ∧ Hid (Below wv.heap.size wv wx))
          case first =>
            refine wp_region_held_drew (S := (fun w' => Below wv.heap.size wv w')) (by kernel_rfl) ((Below.refl _ _).drew) (fun hHeld => ?_)
            generalize wv.drew = wj at *
            refine wpAnyH_take (i := 0) (oi := { dst := some 49, op := Go.Op.fieldAddr 29 (Go.Operand.tmp 6) 0, type := 0, pos := "memory.go:152", after := #[], guard := none }) (v := ?_) rfl (by kernel_rfl) (by kernel_rfl) (by kernel_rfl) (fun _ _ _ h => h) (Or.inl ⟨by rfl, ?hy⟩) (by assumption) ?_
            case hy => (intro w9 hSw; (try dsimp only at hSw); go_simp; try with_reducible rfl)
            try simp only [Act.put, List.setIfInBounds_toArray, List.set_cons_zero, List.set_cons_succ]
            refine wpAnyH_take (i := 1) (oi := { dst := some 50, op := Go.Op.load 3 (Go.Operand.tmp 49), type := 3, pos := "memory.go:152", after := #[{ on := 0, ground := Go.Ground.data }], guard := none }) (v := ?_) rfl (by kernel_rfl) (by kernel_rfl) (by kernel_rfl) (fun _ _ _ h => h) (Or.inl ⟨by rfl, ?hy⟩) (by assumption) ?_
            case hy => (intro w9 hSw; (try dsimp only at hSw); go_simp; try with_reducible rfl)
            try simp only [Act.put, List.setIfInBounds_toArray, List.set_cons_zero, List.set_cons_succ]
            refine wpAnyH_take (i := 2) (oi := { dst := some 51, op := Go.Op.fieldAddr 29 (Go.Operand.tmp 6) 1, type := 0, pos := "memory.go:152", after := #[], guard := none }) (v := ?_) rfl (by kernel_rfl) (by kernel_rfl) (by kernel_rfl) (fun _ _ _ h => h) (Or.inl ⟨by rfl, ?hy⟩) (by assumption) ?_
            case hy => (intro w9 hSw; (try dsimp only at hSw); go_simp; try with_reducible rfl)
            try simp only [Act.put, List.setIfInBounds_toArray, List.set_cons_zero, List.set_cons_succ]
            refine wpAnyH_take (i := 3) (oi := { dst := some 52, op := Go.Op.load 3 (Go.Operand.tmp 51), type := 3, pos := "memory.go:152", after := #[{ on := 2, ground := Go.Ground.data }], guard := none }) (v := ?_) rfl (by kernel_rfl) (by kernel_rfl) (by kernel_rfl) (fun _ _ _ h => h) (Or.inl ⟨by rfl, ?hy⟩) (by assumption) ?_
            case hy => (intro w9 hSw; (try dsimp only at hSw); go_simp; try with_reducible rfl)
            try simp only [Act.put, List.setIfInBounds_toArray, List.set_cons_zero, List.set_cons_succ]
            refine wpAnyH_take (i := 4) (oi := { dst := some 53, op := Go.Op.fieldAddr 29 (Go.Operand.tmp 6) 2, type := 0, pos := "memory.go:152", after := #[], guard := none }) (v := ?_) rfl (by kernel_rfl) (by kernel_rfl) (by kernel_rfl) (fun _ _ _ h => h) (Or.inl ⟨by rfl, ?hy⟩) (by assumption) ?_
            case hy => (intro w9 hSw; (try dsimp only at hSw); go_simp; try with_reducible rfl)
            try simp only [Act.put, List.setIfInBounds_toArray, List.set_cons_zero, List.set_cons_succ]
            refine wpAnyH_take (i := 5) (oi := { dst := some 54, op := Go.Op.load 22 (Go.Operand.tmp 53), type := 22, pos := "memory.go:152", after := #[{ on := 4, ground := Go.Ground.data }], guard := none }) (v := ?_) rfl (by kernel_rfl) (by kernel_rfl) (by kernel_rfl) (fun _ _ _ h => h) (Or.inl ⟨by rfl, ?hy⟩) (by assumption) ?_
            case hy => (intro w9 hSw; (try dsimp only at hSw); go_simp; try with_reducible rfl)
            try simp only [Act.put, List.setIfInBounds_toArray, List.set_cons_zero, List.set_cons_succ]
            refine wpAnyH_ready (rs := [6, 8]) (by kernel_rfl) (by simp) ?_
            refine AllReadyH.cons (o := { dst := some 55, op := Go.Op.call { callee := Go.Callee.value (Go.Operand.func 8), args := #[Go.Operand.tmp 54], argTypes := #[22] }, type := 22, pos := "memory.go:152", after := #[{ on := 5, ground := Go.Ground.data }], guard := none }) rfl (fun K hK => ?_) ?_
            · go_simp
              refine (twin_any da ld cda h _ hld (HRD.out _ (by assumption))).mono ?_
              rintro e w5 ⟨⟨dd, e3, rfl, hF5, _⟩, hb5⟩
              have HA : Hid (FR w5 wv.heap.size dd ld h) := hF5.wide (Below.size (by assumption)) (Nat.le_refl _)
              refine hK.out _ _ ?_ (fun hHeld => ?_)
              · exact Below.then (by assumption) hb5
              clear hK K
              try simp only [Act.put, List.setIfInBounds_toArray, List.set_cons_zero, List.set_cons_succ]
              try (have HAP := neF_old HLP hF5)
              try (replace HZP := zf3S HZP hb5)
              try (replace HLP := ltS HLP hb5)
              clear hF5 hb5
              try clear z0 z1 z2 g0 g1 g2
              try (obtain ⟨⟨z0, z1, z2⟩, g0, g1, g2⟩ := HZP.out)
              refine wpAnyH_take (i := 7) (oi := { dst := some 56, op := Go.Op.build 29 #[(0, Go.Operand.tmp 50), (1, Go.Operand.tmp 52), (2, Go.Operand.tmp 55)], type := 29, pos := "memory.go:152", after := #[{ on := 1, ground := Go.Ground.data }, { on := 3, ground := Go.Ground.data }, { on := 6, ground := Go.Ground.data }], guard := none }) (v := ?_) rfl (by kernel_rfl) (by kernel_rfl) (by kernel_rfl) (fun _ _ _ h => h) (Or.inl ⟨by rfl, ?hy⟩) (by assumption) ?_
              case hy => (intro w9 hSw; (try dsimp only at hSw); go_simp; try with_reducible rfl)
              try simp only [Act.put, List.setIfInBounds_toArray, List.set_cons_zero, List.set_cons_succ]
              refine wpAnyH_ready (rs := [8]) (by kernel_rfl) (by simp) ?_
              refine AllReadyH.cons (o := { dst := some 12, op := Go.Op.alloc 29, type := 0, pos := "memory.go:152", after := #[], guard := none }) rfl (fun K hK => ?_) AllReadyH.nil
              go_simp
              refine gen_al (fun wp halp => ?_)
              have HXP := szP (W := wv) (by assumption) halp
              refine hK.out _ _ ?_ (fun hHeld => ?_)
              · exact alB (by assumption) halp
              clear hK K
              try simp only [Act.put, List.setIfInBounds_toArray, List.set_cons_zero, List.set_cons_succ]
              have HZP := zf3N halp
              have HLP := newLt halp
              try (have HAP := neF_new HA halp)
              try (replace HA := frA HA halp)
              clear halp
              try clear z0 z1 z2 g0 g1 g2
              try (obtain ⟨⟨z0, z1, z2⟩, g0, g1, g2⟩ := HZP.out)
              refine wpAnyH_ready (rs := [9]) (by kernel_rfl) (by simp) ?_
              refine AllReadyH.cons (o := { dst := none, op := Go.Op.store 29 (Go.Operand.tmp 12) (Go.Operand.tmp 56), type := 0, pos := "memory.go:152", after := #[{ on := 8, ground := Go.Ground.data }, { on := 7, ground := Go.Ground.data }, { on := 6, ground := Go.Ground.chain }, { on := 0, ground := Go.Ground.phase }, { on := 1, ground := Go.Ground.phase }, { on := 2, ground := Go.Ground.phase }, { on := 3, ground := Go.Ground.phase }, { on := 4, ground := Go.Ground.phase }, { on := 5, ground := Go.Ground.phase }, { on := 6, ground := Go.Ground.phase }, { on := 7, ground := Go.Ground.phase }, { on := 8, ground := Go.Ground.phase }], guard := none }) rfl (fun K hK => ?_) AllReadyH.nil
              go_simp
              refine gen_set3 (fun ws hst => ?_)
              refine hK.out _ _ ?_ (fun hHeld => ?_)
              · exact stB3 (by assumption) HXP.out hst
              clear hK K
              try simp only [Act.put, List.setIfInBounds_toArray, List.set_cons_zero, List.set_cons_succ]
              clear z0 z1 z2 g0 g1 g2
              have HPB := bx3P HZP hst
              replace HA := frX HA HAP (setX3 hst)
              clear hst HZP
              refine wpAnyH_done (by kernel_rfl) ?_ _
              try simp only [Act.put, List.setIfInBounds_toArray, List.set_cons_zero, List.set_cons_succ]
              go_wp2_with fail
              go_meet
              exact ⟨_, dd, e3, rfl, HPB.out, HA.out, by assumption⟩
            refine AllReadyH.cons (o := { dst := some 12, op := Go.Op.alloc 29, type := 0, pos := "memory.go:152", after := #[], guard := none }) rfl (fun K hK => ?_) ?_
            · go_simp
              refine gen_al (fun wp halp => ?_)
              have HXP := szP (W := wv) (by assumption) halp
              refine hK.out _ _ ?_ (fun hHeld => ?_)
              · exact alB (by assumption) halp
              clear hK K
              try simp only [Act.put, List.setIfInBounds_toArray, List.set_cons_zero, List.set_cons_succ]
              have HZP := zf3N halp
              have HLP := newLt halp
              try (have HAP := neF_new HA halp)
              try (replace HA := frA HA halp)
              clear halp
              try clear z0 z1 z2 g0 g1 g2
              try (obtain ⟨⟨z0, z1, z2⟩, g0, g1, g2⟩ := HZP.out)
              refine wpAnyH_ready (rs := [6]) (by kernel_rfl) (by simp) ?_
              refine AllReadyH.cons (o := { dst := some 55, op := Go.Op.call { callee := Go.Callee.value (Go.Operand.func 8), args := #[Go.Operand.tmp 54], argTypes := #[22] }, type := 22, pos := "memory.go:152", after := #[{ on := 5, ground := Go.Ground.data }], guard := none }) rfl (fun K hK => ?_) AllReadyH.nil
              go_simp
              refine (twin_any da ld cda h _ hld (HRD.out _ (by assumption))).mono ?_
              rintro e w5 ⟨⟨dd, e3, rfl, hF5, _⟩, hb5⟩
              have HA : Hid (FR w5 wv.heap.size dd ld h) := hF5.wide (Below.size (by assumption)) (Nat.le_refl _)
              refine hK.out _ _ ?_ (fun hHeld => ?_)
              · exact Below.then (by assumption) hb5
              clear hK K
              try simp only [Act.put, List.setIfInBounds_toArray, List.set_cons_zero, List.set_cons_succ]
              try (have HAP := neF_old HLP hF5)
              try (replace HZP := zf3S HZP hb5)
              try (replace HLP := ltS HLP hb5)
              clear hF5 hb5
              try clear z0 z1 z2 g0 g1 g2
              try (obtain ⟨⟨z0, z1, z2⟩, g0, g1, g2⟩ := HZP.out)
              refine wpAnyH_take (i := 7) (oi := { dst := some 56, op := Go.Op.build 29 #[(0, Go.Operand.tmp 50), (1, Go.Operand.tmp 52), (2, Go.Operand.tmp 55)], type := 29, pos := "memory.go:152", after := #[{ on := 1, ground := Go.Ground.data }, { on := 3, ground := Go.Ground.data }, { on := 6, ground := Go.Ground.data }], guard := none }) (v := ?_) rfl (by kernel_rfl) (by kernel_rfl) (by kernel_rfl) (fun _ _ _ h => h) (Or.inl ⟨by rfl, ?hy⟩) (by assumption) ?_
              case hy => (intro w9 hSw; (try dsimp only at hSw); go_simp; try with_reducible rfl)
              try simp only [Act.put, List.setIfInBounds_toArray, List.set_cons_zero, List.set_cons_succ]
              refine wpAnyH_ready (rs := [9]) (by kernel_rfl) (by simp) ?_
              refine AllReadyH.cons (o := { dst := none, op := Go.Op.store 29 (Go.Operand.tmp 12) (Go.Operand.tmp 56), type := 0, pos := "memory.go:152", after := #[{ on := 8, ground := Go.Ground.data }, { on := 7, ground := Go.Ground.data }, { on := 6, ground := Go.Ground.chain }, { on := 0, ground := Go.Ground.phase }, { on := 1, ground := Go.Ground.phase }, { on := 2, ground := Go.Ground.phase }, { on := 3, ground := Go.Ground.phase }, { on := 4, ground := Go.Ground.phase }, { on := 5, ground := Go.Ground.phase }, { on := 6, ground := Go.Ground.phase }, { on := 7, ground := Go.Ground.phase }, { on := 8, ground := Go.Ground.phase }], guard := none }) rfl (fun K hK => ?_) AllReadyH.nil
              go_simp
              refine gen_set3 (fun ws hst => ?_)
              refine hK.out _ _ ?_ (fun hHeld => ?_)
              · exact stB3 (by assumption) HXP.out hst
              clear hK K
              try simp only [Act.put, List.setIfInBounds_toArray, List.set_cons_zero, List.set_cons_succ]
              clear z0 z1 z2 g0 g1 g2
              have HPB := bx3P HZP hst
              replace HA := frX HA HAP (setX3 hst)
              clear hst HZP
              refine wpAnyH_done (by kernel_rfl) ?_ _
              try simp only [Act.put, List.setIfInBounds_toArray, List.set_cons_zero, List.set_cons_succ]
              go_wp2_with fail
              go_meet
              exact ⟨_, dd, e3, rfl, HPB.out, HA.out, by assumption⟩
            exact AllReadyH.nil
          case rest =>
            obtain ⟨D, dd, e3, rfl, HD8, HD9, HB8⟩ := hcut
            rename World => wy
            clear o0 o1 o2 HRD
            have HBy : Hid (Below w1.heap.size w1 wy) := Below.then HBv.out HB8.out
            go_wp2_with fail
            refine (twin_any p q cq g _ hq (HR1.out.2.2.2.2.below HBy.out)).mono ?_
            rintro e wz ⟨⟨tt, e4, rfl, hF, _⟩, hb⟩
            have HBz : Hid (Below w1.heap.size w1 wz) := Below.then HBy.out hb
            have HKz : Hid (Below wr.heap.size wr wz) := Below.then HB6.out (Below.then HB7.out (Below.then HB8.out hb))
            have HPz : Hid (Bx2 wz P (.int .i64 n) (.slice a2 la c2)) := ((HP6.out.step HB7.out).step HB8.out).step hb
            have HAz : Hid (FR wz wr.heap.size a2 la f) := frS (frS (frS HA6 HB7.out) HB8.out) hb
            have HMz : Hid (Bx3 wz M (.int .i64 nl) (.slice m1 lm e1) (.slice m2 ln e2)) := (HM7.out.step HB8.out).step hb
            have H1z : Hid (Tws wz wr.heap.size m1 lm T1 (fun k => (SA k).2.1) FA) := tw_wide ((H17.out.step HB8.out).step hb) HB6.out.size
            have H2z : Hid (Tws wz wr.heap.size m2 ln T2 (fun k => (SB k).2.1) FB) := tw_wide ((H27.out.step HB8.out).step hb) HB6.out.size
            have HDz : Hid (Bx3 wz D (.int .i64 L) (.int .i64 Rr) (.slice dd ld e3)) := HD8.out.step hb
            have HEz : Hid (FR wz wr.heap.size dd ld h) := (frS HD9 hb).out.wide (Nat.le_trans HB6.out.size HB7.out.size) (Nat.le_refl _)
            have HTz : Hid (FR wz wr.heap.size tt q g) := hF.wide (Nat.le_trans HB6.out.size (Nat.le_trans HB7.out.size HB8.out.size)) (Nat.le_refl _)
            clear hF hb HP6 HA6 HB6 HM7 H17 H27 HB7 HD8 HD9 HB8 HBv HBy
            go_upto_region 12 with fail
            go_cut [60] from 61 to 159 (fun y wx => y = .int .i64 k ∧ Hid (Zf3 wx wz.heap.size (.int .i64 0) (.slice none 0 0) (.slice none 0 0)) ∧ Hid (Zf3 wx (wz.heap.size + 1) (.int .i64 0) (.slice none 0 0) (.slice none 0 0)) ∧ Hid (wx.heap.size = wz.heap.size + 2) ∧ Hid (Below wz.heap.size wz wx))
            case first =>
              have HXY := xy_new (w := wz) (t := 27) rfl
              go_wp2_with fail
              go_meet
              exact ⟨rfl, HXY.1, HXY.2.1, HXY.2.2.1, HXY.2.2.2⟩
            case rest =>
              obtain ⟨rfl, HX, HY, HS, HBx⟩ := hcut
              rename World => wb
              have HLA : Hid (∀ k, k < lm → (SA k).2.1 ≤ maxLen) := fun k hk => by have := hsa k hk; unfold maxLen; omega
              have HLB : Hid (∀ k, k < ln → (SB k).2.1 ≤ maxLen) := fun k hk => by have := hsb k hk; unfold maxLen; omega
              go_step
              go_cut [9, 60] from 61 to 159 (fun s t wx => s = .int .i64 k ∧ t = .int .i64 k ∧ ∃ (N : Nat) (m j : Nat → Nat → Nat) (U1 U2 V1 V2 : Nat) (a1 : Option Addr) (c1 : Nat) (b1 : Option Addr) (d1 : Nat) (a3 : Option Addr) (c3 : Nat) (b3 : Option Addr) (d3 : Nat), Hid (Two2 wx wz.heap.size (wz.heap.size + 1) N m j U1 U2 V1 V2 a1 c1 b1 d1 a3 c3 b3 d3) ∧ Hid (wz.heap.size + 2 ≤ U1) ∧ Hid (N ≤ 40) ∧ Hid (Below wz.heap.size wz wx))
              case first =>
                have hcase : k = 0 ∨ k = 1 ∨ k = 2 ∨ k = 3 := by omega
                clear hk4 hk hkI
                rcases hcase with rfl | rfl | rfl | rfl
                · skip
                  obtain ⟨N, m, j, hN, hC⟩ := ideal_det n la f hMla
                  have HC := (show Hid _ from hC)
                  have HN : Hid (N ≤ 40) := hN
                  clear hC hN
                  have p0 := (HPz.out.step HBx.out).1
                  have p1 := (HPz.out.step HBx.out).2
                  have p2 := trivial
                  go_wp2_with fail
                  refine (HC.out a2 c2 _ (HAz.out.row.below HBx.out)).mono ?_
                  rintro e wc ⟨⟨a1, c1, b1, d1, c, rfl, hR⟩, hb⟩
                  have HRa : Hid (LatR wb.heap.size wc.heap.size wc N m j a1 c1 b1 d1) := hR
                  have HBC : Hid (Below wb.heap.size wb wc) := hb
                  obtain ⟨⟨z0, z1, z2⟩, g0, g1, g2⟩ := (zf3S HX hb).out
                  clear hR hb p0 p1 p2
                  go_upto_region 17 with fail
                  refine gen_set3 (fun wd hst => ?_)
                  have hsx := setX3 hst
                  have hXlt : wz.heap.size < wb.heap.size := by have := HS.out; omega
                  have HXd : Hid (Bx3 wd wz.heap.size (.int .i64 (N : Nat)) (.slice a1 N c1) (.slice b1 N d1)) := bx3P (zf3S HX HBC.out) hst
                  have HRd : Hid (LatR wb.heap.size wc.heap.size wd N m j a1 c1 b1 d1) := HRa.out.setX hXlt hsx
                  have HYd : Hid (Zf3 wd (wz.heap.size + 1) (.int .i64 0) (.slice none 0 0) (.slice none 0 0)) := (zf3S HY HBC.out).out.setX (by omega) hsx
                  have HBzd : Hid (Below wz.heap.size wz wd) := stB3 (Below.then HBx.out HBC.out) (Nat.le_refl _) hst
                  have HSd : Hid (wd.heap.size = wc.heap.size) := hsx.1
                  clear z0 z1 z2 g0 g1 g2 hst hsx HRa hXlt
                  have o0 := (HO1.out.1.step (Below.then HBz.out HBzd.out)).1
                  have o1 := (HO1.out.1.step (Below.then HBz.out HBzd.out)).2
                  have o2 := trivial
                  go_wp2_with fail
                  refine (HC.out a ca _ (HR1.out.1.below (Below.then HBz.out HBzd.out))).mono ?_
                  rintro e we ⟨⟨a3, c3, b3, d3, c', rfl, hR⟩, hb⟩
                  have HRe : Hid (LatR wd.heap.size we.heap.size we N m j a3 c3 b3 d3) := hR
                  have HBE : Hid (Below wd.heap.size wd we) := hb
                  obtain ⟨⟨z0, z1, z2⟩, g0, g1, g2⟩ := (zf3S HYd hb).out
                  clear hR hb o0 o1 o2
                  go_wp2_with fail
                  go_meet
                  have q1 := HS.out
                  have q2 := HBC.out.size
                  have q3 := HSd.out
                  exact ⟨rfl, rfl, N, m, j, _, _, _, _, a1, c1, b1, d1, a3, c3, b3, d3, two2_mk HXd HRd HYd HRe HBE.out (by omega) ⟨by omega, by omega⟩ (by omega) (by omega) rfl, (by show wz.heap.size + 2 ≤ wb.heap.size; omega), HN.out, stB3 (Below.then HBzd.out HBE.out) (Nat.le_succ _) rfl⟩
                · skip
                  obtain ⟨N, m, j, hN, hC⟩ := fill_det n la f hMla
                  have HC := (show Hid _ from hC)
                  have HN : Hid (N ≤ 40) := hN
                  clear hC hN
                  have p0 := (HPz.out.step HBx.out).1
                  have p1 := (HPz.out.step HBx.out).2
                  have p2 := trivial
                  go_wp2_with fail
                  refine (HC.out a2 c2 _ (HAz.out.row.below HBx.out)).mono ?_
                  rintro e wc ⟨⟨a1, c1, b1, d1, _, _, _, c, rfl, hR⟩, hb⟩
                  have HRa : Hid (LatR wb.heap.size wc.heap.size wc N m j a1 c1 b1 d1) := hR
                  have HBC : Hid (Below wb.heap.size wb wc) := hb
                  obtain ⟨⟨z0, z1, z2⟩, g0, g1, g2⟩ := (zf3S HX hb).out
                  clear hR hb p0 p1 p2
                  go_upto_region 20 with fail
                  refine gen_set3 (fun wd hst => ?_)
                  have hsx := setX3 hst
                  have hXlt : wz.heap.size < wb.heap.size := by have := HS.out; omega
                  have HXd : Hid (Bx3 wd wz.heap.size (.int .i64 (N : Nat)) (.slice a1 N c1) (.slice b1 N d1)) := bx3P (zf3S HX HBC.out) hst
                  have HRd : Hid (LatR wb.heap.size wc.heap.size wd N m j a1 c1 b1 d1) := HRa.out.setX hXlt hsx
                  have HYd : Hid (Zf3 wd (wz.heap.size + 1) (.int .i64 0) (.slice none 0 0) (.slice none 0 0)) := (zf3S HY HBC.out).out.setX (by omega) hsx
                  have HBzd : Hid (Below wz.heap.size wz wd) := stB3 (Below.then HBx.out HBC.out) (Nat.le_refl _) hst
                  have HSd : Hid (wd.heap.size = wc.heap.size) := hsx.1
                  clear z0 z1 z2 g0 g1 g2 hst hsx HRa hXlt
                  have o0 := (HO1.out.1.step (Below.then HBz.out HBzd.out)).1
                  have o1 := (HO1.out.1.step (Below.then HBz.out HBzd.out)).2
                  have o2 := trivial
                  go_wp2_with fail
                  refine (HC.out a ca _ (HR1.out.1.below (Below.then HBz.out HBzd.out))).mono ?_
                  rintro e we ⟨⟨a3, c3, b3, d3, _, _, _, c', rfl, hR⟩, hb⟩
                  have HRe : Hid (LatR wd.heap.size we.heap.size we N m j a3 c3 b3 d3) := hR
                  have HBE : Hid (Below wd.heap.size wd we) := hb
                  obtain ⟨⟨z0, z1, z2⟩, g0, g1, g2⟩ := (zf3S HYd hb).out
                  clear hR hb o0 o1 o2
                  go_wp2_with fail
                  go_meet
                  have q1 := HS.out
                  have q2 := HBC.out.size
                  have q3 := HSd.out
                  exact ⟨rfl, rfl, N, m, j, _, _, _, _, a1, c1, b1, d1, a3, c3, b3, d3, two2_mk HXd HRd HYd HRe HBE.out (by omega) ⟨by omega, by omega⟩ (by omega) (by omega) rfl, (by show wz.heap.size + 2 ≤ wb.heap.size; omega), HN.out, stB3 (Below.then HBzd.out HBE.out) (Nat.le_succ _) rfl⟩
                · skip
                  obtain ⟨N, m, j, hN, hC⟩ := concept_det L Rr ld h hMld
                  have HC := (show Hid _ from hC)
                  have HN : Hid (N ≤ 40) := hN
                  clear hC hN
                  have p0 := (HDz.out.step HBx.out).1
                  have p1 := (HDz.out.step HBx.out).2.1
                  have p2 := (HDz.out.step HBx.out).2.2
                  go_wp2_with fail
                  refine (HC.out dd e3 _ (HEz.out.row.below HBx.out)).mono ?_
                  rintro e wc ⟨⟨a1, c1, b1, d1, c, rfl, hR⟩, hb⟩
                  have HRa : Hid (LatR wb.heap.size wc.heap.size wc N m j a1 c1 b1 d1) := hR
                  have HBC : Hid (Below wb.heap.size wb wc) := hb
                  obtain ⟨⟨z0, z1, z2⟩, g0, g1, g2⟩ := (zf3S HX hb).out
                  clear hR hb p0 p1 p2
                  go_upto_region 23 with fail
                  refine gen_set3 (fun wd hst => ?_)
                  have hsx := setX3 hst
                  have hXlt : wz.heap.size < wb.heap.size := by have := HS.out; omega
                  have HXd : Hid (Bx3 wd wz.heap.size (.int .i64 (N : Nat)) (.slice a1 N c1) (.slice b1 N d1)) := bx3P (zf3S HX HBC.out) hst
                  have HRd : Hid (LatR wb.heap.size wc.heap.size wd N m j a1 c1 b1 d1) := HRa.out.setX hXlt hsx
                  have HYd : Hid (Zf3 wd (wz.heap.size + 1) (.int .i64 0) (.slice none 0 0) (.slice none 0 0)) := (zf3S HY HBC.out).out.setX (by omega) hsx
                  have HBzd : Hid (Below wz.heap.size wz wd) := stB3 (Below.then HBx.out HBC.out) (Nat.le_refl _) hst
                  have HSd : Hid (wd.heap.size = wc.heap.size) := hsx.1
                  clear z0 z1 z2 g0 g1 g2 hst hsx HRa hXlt
                  have o0 := (HO1.out.2.2.step (Below.then HBz.out HBzd.out)).1
                  have o1 := (HO1.out.2.2.step (Below.then HBz.out HBzd.out)).2.1
                  have o2 := (HO1.out.2.2.step (Below.then HBz.out HBzd.out)).2.2
                  go_wp2_with fail
                  refine (HC.out da cda _ (HR1.out.2.2.2.1.below (Below.then HBz.out HBzd.out))).mono ?_
                  rintro e we ⟨⟨a3, c3, b3, d3, c', rfl, hR⟩, hb⟩
                  have HRe : Hid (LatR wd.heap.size we.heap.size we N m j a3 c3 b3 d3) := hR
                  have HBE : Hid (Below wd.heap.size wd we) := hb
                  obtain ⟨⟨z0, z1, z2⟩, g0, g1, g2⟩ := (zf3S HYd hb).out
                  clear hR hb o0 o1 o2
                  go_wp2_with fail
                  go_meet
                  have q1 := HS.out
                  have q2 := HBC.out.size
                  have q3 := HSd.out
                  exact ⟨rfl, rfl, N, m, j, _, _, _, _, a1, c1, b1, d1, a3, c3, b3, d3, two2_mk HXd HRd HYd HRe HBE.out (by omega) ⟨by omega, by omega⟩ (by omega) (by omega) rfl, (by show wz.heap.size + 2 ≤ wb.heap.size; omega), HN.out, stB3 (Below.then HBzd.out HBE.out) (Nat.le_succ _) rfl⟩
                · skip
                  obtain ⟨N, m, j, hN, hC⟩ := by_det nl lm (fun k => (SA k).2.1) FA ln (fun k => (SB k).2.1) FB q g hMlm hMln
                  have HC := (show Hid _ from hC)
                  have HN : Hid (N ≤ 40) := hN
                  clear hC hN
                  have p0 := (HMz.out.step HBx.out).1
                  have p1 := (HMz.out.step HBx.out).2.1
                  have p2 := (HMz.out.step HBx.out).2.2
                  go_wp2_with fail
                  refine (HC.out m1 e1 T1 m2 e2 T2 tt e4 _ (fun x hx => (H1z.out x hx).2.1) (fun x hx => (H2z.out x hx).2.1) ((H1z.out.rr HLA.out).below HBx.out) ((H2z.out.rr HLB.out).below HBx.out) (HTz.out.row.below HBx.out)).mono ?_
                  rintro e wc ⟨⟨a1, c1, b1, d1, c, rfl, hR⟩, hb⟩
                  have HRa : Hid (LatR wb.heap.size wc.heap.size wc N m j a1 c1 b1 d1) := hR
                  have HBC : Hid (Below wb.heap.size wb wc) := hb
                  obtain ⟨⟨z0, z1, z2⟩, g0, g1, g2⟩ := (zf3S HX hb).out
                  clear hR hb p0 p1 p2
                  go_upto_region 14 with fail
                  refine gen_set3 (fun wd hst => ?_)
                  have hsx := setX3 hst
                  have hXlt : wz.heap.size < wb.heap.size := by have := HS.out; omega
                  have HXd : Hid (Bx3 wd wz.heap.size (.int .i64 (N : Nat)) (.slice a1 N c1) (.slice b1 N d1)) := bx3P (zf3S HX HBC.out) hst
                  have HRd : Hid (LatR wb.heap.size wc.heap.size wd N m j a1 c1 b1 d1) := HRa.out.setX hXlt hsx
                  have HYd : Hid (Zf3 wd (wz.heap.size + 1) (.int .i64 0) (.slice none 0 0) (.slice none 0 0)) := (zf3S HY HBC.out).out.setX (by omega) hsx
                  have HBzd : Hid (Below wz.heap.size wz wd) := stB3 (Below.then HBx.out HBC.out) (Nat.le_refl _) hst
                  have HSd : Hid (wd.heap.size = wc.heap.size) := hsx.1
                  clear z0 z1 z2 g0 g1 g2 hst hsx HRa hXlt
                  have o0 := (HO1.out.2.1.step (Below.then HBz.out HBzd.out)).1
                  have o1 := (HO1.out.2.1.step (Below.then HBz.out HBzd.out)).2.1
                  have o2 := (HO1.out.2.1.step (Below.then HBz.out HBzd.out)).2.2
                  go_wp2_with fail
                  refine (HC.out ma cma SA mb cmb SB p cq _ (fun _ _ => rfl) (fun _ _ => rfl) (HR1.out.2.1.below (Below.then HBz.out HBzd.out)) (HR1.out.2.2.1.below (Below.then HBz.out HBzd.out)) (HR1.out.2.2.2.2.below (Below.then HBz.out HBzd.out))).mono ?_
                  rintro e we ⟨⟨a3, c3, b3, d3, c', rfl, hR⟩, hb⟩
                  have HRe : Hid (LatR wd.heap.size we.heap.size we N m j a3 c3 b3 d3) := hR
                  have HBE : Hid (Below wd.heap.size wd we) := hb
                  obtain ⟨⟨z0, z1, z2⟩, g0, g1, g2⟩ := (zf3S HYd hb).out
                  clear hR hb o0 o1 o2
                  go_wp2_with fail
                  go_meet
                  have q1 := HS.out
                  have q2 := HBC.out.size
                  have q3 := HSd.out
                  exact ⟨rfl, rfl, N, m, j, _, _, _, _, a1, c1, b1, d1, a3, c3, b3, d3, two2_mk HXd HRd HYd HRe HBE.out (by omega) ⟨by omega, by omega⟩ (by omega) (by omega) rfl, (by show wz.heap.size + 2 ≤ wb.heap.size; omega), HN.out, stB3 (Below.then HBzd.out HBE.out) (Nat.le_succ _) rfl⟩
              case rest =>
                obtain ⟨rfl, rfl, N, m, j, U1, U2, V1, V2, a1, c1, b1, d1, a3, c3, b3, d3, HTW, HU, HN, HBw⟩ := hcut
                rename World => ww
                have HWS0 : Hid (Ws wr.heap.size wz.heap.size ww P M D a2 la c2 m1 lm e1 T1 m2 ln e2 T2 dd ld e3 tt q) := ⟨(HPz.out.step HBw.out).2, (HMz.out.step HBw.out).2.1, (HMz.out.step HBw.out).2.2, (HDz.out.step HBw.out).2.2, HAz.out.wr.step HBw.out, (H1z.out.wrs hsa).step HBw.out, (H2z.out.wrs hsb).step HBw.out, HEz.out.wr.step HBw.out, HTz.out.wr.step HBw.out⟩
                have HTW0 : Hid (Two2 ww wz.heap.size (wz.heap.size + 1) N m j U1 U2 V1 V2 a1 c1 b1 d1 a3 c3 b3 d3) := HTW.out
                have HBL0 : Hid (Below w1.heap.size w1 ww) := Below.then HBz.out HBw.out
                have HKZ : Hid (w1.heap.size ≤ wz.heap.size) := HBz.out.size
                clear HTW HBw HBx HS HX HY HPz HMz HDz HAz H1z H2z HEz HTz HLA HLB HBz HKz
                have k1 := HWS0.out.pc
                go_wp2_with fail
                refine (spoil2_any wr.heap.size wz.heap.size a2 la c2 _ hla HWS0.out.rp).mono ?_
                rintro e v1 ⟨rfl, hs⟩
                have HWS1 : Hid (Ws wr.heap.size wz.heap.size v1 P M D a2 la c2 m1 lm e1 T1 m2 ln e2 T2 dd ld e3 tt q) := HWS0.out.kp hs.2.2
                have HTW1 : Hid (Two2 v1 wz.heap.size (wz.heap.size + 1) N m j U1 U2 V1 V2 a1 c1 b1 d1 a3 c3 b3 d3) := HTW0.out.off ⟨Nat.le_refl _, Nat.le_succ _⟩ hs.1
                have HBL1 : Hid (Below w1.heap.size w1 v1) := hs.below HBk.out.size HBL0.out
                clear hs HWS0 HTW0 HBL0 k1
                have k2 := HWS1.out.dc
                go_wp2_with fail
                refine (spoil2_any wr.heap.size wz.heap.size dd ld e3 _ hld HWS1.out.rd).mono ?_
                rintro e v2 ⟨rfl, hs⟩
                have HWS2 : Hid (Ws wr.heap.size wz.heap.size v2 P M D a2 la c2 m1 lm e1 T1 m2 ln e2 T2 dd ld e3 tt q) := HWS1.out.kp hs.2.2
                have HTW2 : Hid (Two2 v2 wz.heap.size (wz.heap.size + 1) N m j U1 U2 V1 V2 a1 c1 b1 d1 a3 c3 b3 d3) := HTW1.out.off ⟨Nat.le_refl _, Nat.le_succ _⟩ hs.1
                have HBL2 : Hid (Below w1.heap.size w1 v2) := hs.below HBk.out.size HBL1.out
                clear hs HWS1 HTW1 HBL1 k2
                have k3 := trivial
                go_wp2_with fail
                refine (spoil2_any wr.heap.size wz.heap.size tt q e4 _ hq HWS2.out.rt).mono ?_
                rintro e v3 ⟨rfl, hs⟩
                have HWS3 : Hid (Ws wr.heap.size wz.heap.size v3 P M D a2 la c2 m1 lm e1 T1 m2 ln e2 T2 dd ld e3 tt q) := HWS2.out.kp hs.2.2
                have HTW3 : Hid (Two2 v3 wz.heap.size (wz.heap.size + 1) N m j U1 U2 V1 V2 a1 c1 b1 d1 a3 c3 b3 d3) := HTW2.out.off ⟨Nat.le_refl _, Nat.le_succ _⟩ hs.1
                have HBL3 : Hid (Below w1.heap.size w1 v3) := hs.below HBk.out.size HBL2.out
                clear hs HWS2 HTW2 HBL2 k3
                have k4 := HWS3.out.mc
                go_wp2_with fail
                refine (spoilAll_any wr.heap.size wz.heap.size m1 lm e1 T1 _ (by omega) HWS3.out.r1).mono ?_
                rintro e v4 ⟨rfl, hs⟩
                have HWS4 : Hid (Ws wr.heap.size wz.heap.size v4 P M D a2 la c2 m1 lm e1 T1 m2 ln e2 T2 dd ld e3 tt q) := HWS3.out.kp hs.2.2
                have HTW4 : Hid (Two2 v4 wz.heap.size (wz.heap.size + 1) N m j U1 U2 V1 V2 a1 c1 b1 d1 a3 c3 b3 d3) := HTW3.out.off ⟨Nat.le_refl _, Nat.le_succ _⟩ hs.1
                have HBL4 : Hid (Below w1.heap.size w1 v4) := hs.below HBk.out.size HBL3.out
                clear hs HWS3 HTW3 HBL3 k4
                have k5 := HWS4.out.nc
                go_wp2_with fail
                refine (spoilAll_any wr.heap.size wz.heap.size m2 ln e2 T2 _ (by omega) HWS4.out.r2).mono ?_
                rintro e v5 ⟨rfl, hs⟩
                have HWS5 : Hid (Ws wr.heap.size wz.heap.size v5 P M D a2 la c2 m1 lm e1 T1 m2 ln e2 T2 dd ld e3 tt q) := HWS4.out.kp hs.2.2
                have HTW5 : Hid (Two2 v5 wz.heap.size (wz.heap.size + 1) N m j U1 U2 V1 V2 a1 c1 b1 d1 a3 c3 b3 d3) := HTW4.out.off ⟨Nat.le_refl _, Nat.le_succ _⟩ hs.1
                have HBL5 : Hid (Below w1.heap.size w1 v5) := hs.below HBk.out.size HBL4.out
                clear hs HWS4 HTW4 HBL4 k5
                clear HWS5
                generalize HXB : wz.heap.size = XB at *
                clear HXB
                go_upto_region 29 with fail
                have x0 : ∀ w', RsX w1 XB N a1 c1 b1 d1 a3 c3 b3 d3 w' → w'.cell? ⟨XB, 0, none⟩ = some (.int .i64 (N : Nat)) := fun _ h => h.1.1
                have x1 : ∀ w', RsX w1 XB N a1 c1 b1 d1 a3 c3 b3 d3 w' → w'.cell? ⟨XB, 1, none⟩ = some (.slice a1 N c1) := fun _ h => h.1.2.1
                have x2 : ∀ w', RsX w1 XB N a1 c1 b1 d1 a3 c3 b3 d3 w' → w'.cell? ⟨XB, 2, none⟩ = some (.slice b1 N d1) := fun _ h => h.1.2.2
                have y0 : ∀ w', RsX w1 XB N a1 c1 b1 d1 a3 c3 b3 d3 w' → w'.cell? ⟨XB + 1, 0, none⟩ = some (.int .i64 (N : Nat)) := fun _ h => h.2.1.1
                have y1 : ∀ w', RsX w1 XB N a1 c1 b1 d1 a3 c3 b3 d3 w' → w'.cell? ⟨XB + 1, 1, none⟩ = some (.slice a3 N c3) := fun _ h => h.2.1.2.1
                have y2 : ∀ w', RsX w1 XB N a1 c1 b1 d1 a3 c3 b3 d3 w' → w'.cell? ⟨XB + 1, 2, none⟩ = some (.slice b3 N d3) := fun _ h => h.2.1.2.2
                have hMN : N ≤ maxLen := by have := HN.out; unfold maxLen; omega
                have HTj : Hid (Two2 v5.drew XB (XB + 1) N m j U1 U2 V1 V2 a1 c1 b1 d1 a3 c3 b3 d3) := HTW5.out.step (Below.refl _ _).drew
                have HSj : Hid (RsX w1 XB N a1 c1 b1 d1 a3 c3 b3 d3 v5.drew) := ⟨HTj.out.1.1, HTj.out.1.2, HBL5.out.trans ((Below.refl _ _).drew.mono HBL5.out.size)⟩
                have HKX : Hid (w1.heap.size ≤ XB) := HKZ.out
                by_cases hN0 : N = 0
                · subst hN0
                  rcases HTj.out.2.1 with ⟨_, rfl, rfl, rfl, rfl⟩ | ⟨q1, _⟩
                  · rcases HTj.out.2.2.1 with ⟨_, rfl, rfl, rfl, rfl⟩ | ⟨q1, _⟩
                    · skip
                      have HXS : Hid (XB + 1 < v5.drew.heap.size) := World.block_lt_of_cell? _ _ HSj.out.2.1.1
                      obtain ⟨i5, hi5, hz0, hz1, hz2⟩ := info_parts Tryz.infoLI
                      refine wp_region_held_drew (S := (fun w' => RsX w1 XB 0 none 0 none 0 none 0 none 0 w')) (by kernel_rfl) (HSj.out) (fun hHeld => ?_)
                      generalize v5.drew = wj at *
                      refine wpAnyH_take (i := 0) (oi := { dst := some 125, op := Go.Op.load 27 (Go.Operand.tmp 14), type := 27, pos := "memory.go:175", after := #[], guard := none }) (v := ?_) rfl (by kernel_rfl) (by kernel_rfl) (by kernel_rfl) (fun _ _ _ h => h) (Or.inl ⟨by rfl, ?hy⟩) (by assumption) ?_
                      case hy => (intro w9 hSw; (try dsimp only at hSw); go_simp; try with_reducible rfl)
                      try simp only [Act.put, List.setIfInBounds_toArray, List.set_cons_zero, List.set_cons_succ]
                      refine wpAnyH_take (i := 1) (oi := { dst := some 126, op := Go.Op.load 27 (Go.Operand.tmp 15), type := 27, pos := "memory.go:175", after := #[], guard := none }) (v := ?_) rfl (by kernel_rfl) (by kernel_rfl) (by kernel_rfl) (fun _ _ _ h => h) (Or.inl ⟨by rfl, ?hy⟩) (by assumption) ?_
                      case hy => (intro w9 hSw; (try dsimp only at hSw); go_simp; try with_reducible rfl)
                      try simp only [Act.put, List.setIfInBounds_toArray, List.set_cons_zero, List.set_cons_succ]
                      refine wpAnyH_ready (rs := [2]) (by kernel_rfl) (by simp) ?_
                      refine AllReadyH.cons (o := { dst := some 127, op := Go.Op.call { callee := Go.Callee.value (Go.Operand.func 16), args := #[Go.Operand.tmp 125, Go.Operand.tmp 126], argTypes := #[27, 27] }, type := 4, pos := "memory.go:175", after := #[{ on := 0, ground := Go.Ground.data }, { on := 1, ground := Go.Ground.data }], guard := none }) rfl (fun K hK => ?_) AllReadyH.nil
                      go_simp
                      refine (sameLattice_true 0 none none none none 0 0 0 0 0 0 _ hMN hMN (EqT.nil _) (EqT.nil _)).mono ?_
                      rintro e z1 ⟨rfl, hb1⟩
                      refine hK.out _ _ ?_ (fun hHeld => ?_)
                      · exact rsS HSj.out hb1
                      clear hK K
                      try simp only [Act.put, List.setIfInBounds_toArray, List.set_cons_zero, List.set_cons_succ]
                      refine wpAnyH_take (i := 3) (oi := { dst := some 128, op := Go.Op.unOp Go.UnOp.not 4 (Go.Operand.tmp 127), type := 4, pos := "memory.go:175", after := #[{ on := 2, ground := Go.Ground.data }], guard := none }) (v := ?_) rfl (by kernel_rfl) (by kernel_rfl) (by kernel_rfl) (fun _ _ _ h => h) (Or.inl ⟨by rfl, ?hy⟩) (by assumption) ?_
                      case hy => (intro w9 hSw; (try dsimp only at hSw); go_simp; try with_reducible rfl)
                      try simp only [Act.put, List.setIfInBounds_toArray, List.set_cons_zero, List.set_cons_succ]
                      refine wpAnyH_take (i := 4) (oi := { dst := some 129, op := Go.Op.move (Go.Operand.tmp 128), type := 4, pos := "memory.go:175", after := #[{ on := 3, ground := Go.Ground.data }, { on := 2, ground := Go.Ground.chain }], guard := none }) (v := ?_) rfl (by kernel_rfl) (by kernel_rfl) (by kernel_rfl) (fun _ _ _ h => h) (Or.inl ⟨by rfl, ?hy⟩) (by assumption) ?_
                      case hy => (intro w9 hSw; (try dsimp only at hSw); go_simp; try with_reducible rfl)
                      try simp only [Act.put, List.setIfInBounds_toArray, List.set_cons_zero, List.set_cons_succ]
                      refine wpAnyH_take (i := 5) (oi := { dst := some 130, op := Go.Op.fieldAddr 27 (Go.Operand.tmp 14) 0, type := 0, pos := "memory.go:175", after := #[{ on := 4, ground := Go.Ground.guard }], guard := some (4, false) }) (v := ?_) rfl (by kernel_rfl) (by kernel_rfl) (by kernel_rfl) (fun _ _ _ h => h) (Or.inl ⟨by rfl, ?hy⟩) (by assumption) ?_
                      case hy => (intro w9 hSw; (try dsimp only at hSw); go_simp; try with_reducible rfl)
                      try simp only [Act.put, List.setIfInBounds_toArray, List.set_cons_zero, List.set_cons_succ]
                      refine wpAnyH_take (i := 6) (oi := { dst := some 131, op := Go.Op.load 3 (Go.Operand.tmp 130), type := 3, pos := "memory.go:175", after := #[{ on := 5, ground := Go.Ground.data }, { on := 4, ground := Go.Ground.guard }], guard := some (4, false) }) (v := ?_) rfl (by kernel_rfl) (by kernel_rfl) (by kernel_rfl) (fun _ _ _ h => h) (Or.inl ⟨by rfl, ?hy⟩) (by assumption) ?_
                      case hy => (intro w9 hSw; (try dsimp only at hSw); go_simp; try with_reducible rfl)
                      try simp only [Act.put, List.setIfInBounds_toArray, List.set_cons_zero, List.set_cons_succ]
                      refine wpAnyH_take (i := 7) (oi := { dst := some 132, op := Go.Op.binOp Go.BinOp.gtr 3 (Go.Operand.tmp 131) (Go.Operand.const (Go.Value.int Go.IntKind.i64 0)) 3, type := 4, pos := "memory.go:175", after := #[{ on := 6, ground := Go.Ground.data }, { on := 4, ground := Go.Ground.guard }], guard := some (4, false) }) (v := .bool false) rfl (by kernel_rfl) (by kernel_rfl) (by kernel_rfl) (fun _ _ _ h => h) (Or.inl ⟨by rfl, ?hy⟩) (by assumption) ?_
                      case hy => (intro w9 hSw; (try dsimp only at hSw); go_simp <;> (first | with_reducible rfl | (simp; omega) | omega))
                      try simp only [Act.put, List.setIfInBounds_toArray, List.set_cons_zero, List.set_cons_succ]
                      refine wpAnyH_take (i := 8) (oi := { dst := some 133, op := Go.Op.move (Go.Operand.tmp 132), type := 4, pos := "memory.go:175", after := #[{ on := 7, ground := Go.Ground.data }, { on := 4, ground := Go.Ground.chain }, { on := 4, ground := Go.Ground.guard }], guard := some (4, false) }) (v := ?_) rfl (by kernel_rfl) (by kernel_rfl) (by kernel_rfl) (fun _ _ _ h => h) (Or.inl ⟨by rfl, ?hy⟩) (by assumption) ?_
                      case hy => (intro w9 hSw; (try dsimp only at hSw); go_simp; try with_reducible rfl)
                      try simp only [Act.put, List.setIfInBounds_toArray, List.set_cons_zero, List.set_cons_succ]
                      refine wpAnyH_take (i := 9) (oi := { dst := some 134, op := Go.Op.load 27 (Go.Operand.tmp 14), type := 27, pos := "memory.go:175", after := #[{ on := 8, ground := Go.Ground.guard }], guard := some (8, true) }) (v := undef) rfl (by kernel_rfl) (by kernel_rfl) (by kernel_rfl) (fun _ _ _ h => h) (Or.inr ⟨by rfl, rfl⟩) (by assumption) ?_
                      try simp only [Act.put, List.setIfInBounds_toArray, List.set_cons_zero, List.set_cons_succ]
                      refine wpAnyH_take (i := 10) (oi := { dst := some 135, op := Go.Op.call { callee := Go.Callee.value (Go.Operand.func 17), args := #[Go.Operand.tmp 134], argTypes := #[27] }, type := 33, pos := "memory.go:175", after := #[{ on := 9, ground := Go.Ground.data }, { on := 8, ground := Go.Ground.chain }, { on := 8, ground := Go.Ground.guard }], guard := some (8, true) }) (v := undef) rfl (by kernel_rfl) (by kernel_rfl) (by kernel_rfl) (fun _ _ _ h => h) (Or.inr ⟨by rfl, rfl⟩) (by assumption) ?_
                      try simp only [Act.put, List.setIfInBounds_toArray, List.set_cons_zero, List.set_cons_succ]
                      refine wpAnyH_take (i := 11) (oi := { dst := some 136, op := Go.Op.binOp Go.BinOp.neq 33 (Go.Operand.tmp 135) (Go.Operand.const (Go.Value.int Go.IntKind.i64 0)) 33, type := 4, pos := "memory.go:175", after := #[{ on := 10, ground := Go.Ground.data }, { on := 8, ground := Go.Ground.guard }], guard := some (8, true) }) (v := undef) rfl (by kernel_rfl) (by kernel_rfl) (by kernel_rfl) (fun _ _ _ h => h) (Or.inr ⟨by rfl, rfl⟩) (by assumption) ?_
                      try simp only [Act.put, List.setIfInBounds_toArray, List.set_cons_zero, List.set_cons_succ]
                      refine wpAnyH_take (i := 12) (oi := { dst := some 137, op := Go.Op.pick (Go.Operand.tmp 133) (Go.Operand.tmp 136) (Go.Operand.const (Go.Value.bool false)), type := 4, pos := "memory.go:175", after := #[{ on := 8, ground := Go.Ground.data }, { on := 11, ground := Go.Ground.data }, { on := 4, ground := Go.Ground.guard }], guard := some (4, false) }) (v := ?_) rfl (by kernel_rfl) (by kernel_rfl) (by kernel_rfl) (fun _ _ _ h => h) (Or.inl ⟨by rfl, ?hy⟩) (by assumption) ?_
                      case hy => (intro w9 hSw; (try dsimp only at hSw); go_simp; try with_reducible rfl)
                      try simp only [Act.put, List.setIfInBounds_toArray, List.set_cons_zero, List.set_cons_succ]
                      refine wpAnyH_take (i := 13) (oi := { dst := some 138, op := Go.Op.pick (Go.Operand.tmp 129) (Go.Operand.const (Go.Value.bool true)) (Go.Operand.tmp 137), type := 4, pos := "memory.go:175", after := #[{ on := 4, ground := Go.Ground.data }, { on := 12, ground := Go.Ground.data }], guard := none }) (v := ?_) rfl (by kernel_rfl) (by kernel_rfl) (by kernel_rfl) (fun _ _ _ h => h) (Or.inl ⟨by rfl, ?hy⟩) (by assumption) ?_
                      case hy => (intro w9 hSw; (try dsimp only at hSw); go_simp; try with_reducible rfl)
                      try simp only [Act.put, List.setIfInBounds_toArray, List.set_cons_zero, List.set_cons_succ]
                      refine wpAnyH_take (i := 14) (oi := { dst := some 139, op := Go.Op.move (Go.Operand.tmp 138), type := 4, pos := "memory.go:175", after := #[{ on := 13, ground := Go.Ground.data }, { on := 10, ground := Go.Ground.chain }], guard := none }) (v := ?_) rfl (by kernel_rfl) (by kernel_rfl) (by kernel_rfl) (fun _ _ _ h => h) (Or.inl ⟨by rfl, ?hy⟩) (by assumption) ?_
                      case hy => (intro w9 hSw; (try dsimp only at hSw); go_simp; try with_reducible rfl)
                      try simp only [Act.put, List.setIfInBounds_toArray, List.set_cons_zero, List.set_cons_succ]
                      refine wpAnyH_take (i := 16) (oi := { dst := some 141, op := Go.Op.fieldAddr 27 (Go.Operand.tmp 14) 1, type := 0, pos := "memory.go:175", after := #[{ on := 14, ground := Go.Ground.guard }], guard := some (14, false) }) (v := ?_) rfl (by kernel_rfl) (by kernel_rfl) (by kernel_rfl) (fun _ _ _ h => h) (Or.inl ⟨by rfl, ?hy⟩) (by assumption) ?_
                      case hy => (intro w9 hSw; (try dsimp only at hSw); go_simp; try with_reducible rfl)
                      try simp only [Act.put, List.setIfInBounds_toArray, List.set_cons_zero, List.set_cons_succ]
                      refine wpAnyH_take (i := 17) (oi := { dst := some 142, op := Go.Op.load 25 (Go.Operand.tmp 141), type := 25, pos := "memory.go:175", after := #[{ on := 16, ground := Go.Ground.data }, { on := 14, ground := Go.Ground.guard }], guard := some (14, false) }) (v := ?_) rfl (by kernel_rfl) (by kernel_rfl) (by kernel_rfl) (fun _ _ _ h => h) (Or.inl ⟨by rfl, ?hy⟩) (by assumption) ?_
                      case hy => (intro w9 hSw; (try dsimp only at hSw); go_simp; try with_reducible rfl)
                      try simp only [Act.put, List.setIfInBounds_toArray, List.set_cons_zero, List.set_cons_succ]
                      refine wpAnyH_take (i := 19) (oi := { dst := some 144, op := Go.Op.fieldAddr 27 (Go.Operand.tmp 14) 2, type := 0, pos := "memory.go:175", after := #[{ on := 14, ground := Go.Ground.guard }], guard := some (14, false) }) (v := ?_) rfl (by kernel_rfl) (by kernel_rfl) (by kernel_rfl) (fun _ _ _ h => h) (Or.inl ⟨by rfl, ?hy⟩) (by assumption) ?_
                      case hy => (intro w9 hSw; (try dsimp only at hSw); go_simp; try with_reducible rfl)
                      try simp only [Act.put, List.setIfInBounds_toArray, List.set_cons_zero, List.set_cons_succ]
                      refine wpAnyH_take (i := 20) (oi := { dst := some 145, op := Go.Op.load 25 (Go.Operand.tmp 144), type := 25, pos := "memory.go:175", after := #[{ on := 19, ground := Go.Ground.data }, { on := 14, ground := Go.Ground.guard }], guard := some (14, false) }) (v := ?_) rfl (by kernel_rfl) (by kernel_rfl) (by kernel_rfl) (fun _ _ _ h => h) (Or.inl ⟨by rfl, ?hy⟩) (by assumption) ?_
                      case hy => (intro w9 hSw; (try dsimp only at hSw); go_simp; try with_reducible rfl)
                      try simp only [Act.put, List.setIfInBounds_toArray, List.set_cons_zero, List.set_cons_succ]
                      refine wpAnyH_ready (rs := [15]) (by kernel_rfl) (by simp) ?_
                      refine AllReadyH.cons (o := { dst := some 140, op := Go.Op.buildSlice 25 0 #[], type := 25, pos := "memory.go:175", after := #[{ on := 14, ground := Go.Ground.guard }], guard := some (14, false) }) rfl (fun K hK => ?_) AllReadyH.nil
                      go_simp
                      refine gen_al (fun zb halb => ?_)
                      have HZB : Hid (Below z1.heap.size z1 zb) := by rw [Hid, ← halb]; exact (Below.refl _ _).alloc (Nat.le_refl _) _
                      clear halb
                      refine hK.out _ _ ?_ (fun hHeld => ?_)
                      · exact rsS (rsS HSj.out hb1) HZB.out
                      clear hK K
                      try simp only [Act.put, List.setIfInBounds_toArray, List.set_cons_zero, List.set_cons_succ]
                      refine wpAnyH_ready (rs := [18]) (by kernel_rfl) (by simp) ?_
                      refine AllReadyH.cons (o := { dst := some 143, op := Go.Op.call { callee := Go.Callee.builtin Go.Builtin.append, args := #[Go.Operand.tmp 140, Go.Operand.tmp 142], argTypes := #[25, 25] }, type := 25, pos := "memory.go:175", after := #[{ on := 15, ground := Go.Ground.data }, { on := 17, ground := Go.Ground.data }, { on := 14, ground := Go.Ground.chain }, { on := 14, ground := Go.Ground.guard }], guard := some (14, false) }) rfl (fun K hK => ?_) AllReadyH.nil
                      rw [if_pos (by rfl)]
                      refine wp_apn _ _ 25 22 i5 Tryz.underlying25 hi5 rfl z1.heap.size 0 0 0 rfl (Nat.le_refl _) rfl ?_
                      refine hK.out _ _ ?_ (fun hHeld => ?_)
                      · exact rsS (rsS HSj.out hb1) HZB.out
                      clear hK K
                      try simp only [Act.put, List.setIfInBounds_toArray, List.set_cons_zero, List.set_cons_succ]
                      refine wpAnyH_ready (rs := [21]) (by kernel_rfl) (by simp) ?_
                      refine AllReadyH.cons (o := { dst := some 146, op := Go.Op.call { callee := Go.Callee.builtin Go.Builtin.append, args := #[Go.Operand.tmp 143, Go.Operand.tmp 145], argTypes := #[25, 25] }, type := 25, pos := "memory.go:175", after := #[{ on := 18, ground := Go.Ground.data }, { on := 20, ground := Go.Ground.data }, { on := 18, ground := Go.Ground.chain }, { on := 14, ground := Go.Ground.guard }], guard := some (14, false) }) rfl (fun K hK => ?_) AllReadyH.nil
                      rw [if_pos (by rfl)]
                      refine wp_apn _ _ 25 22 i5 Tryz.underlying25 hi5 rfl z1.heap.size 0 0 0 rfl (Nat.le_refl _) rfl ?_
                      refine hK.out _ _ ?_ (fun hHeld => ?_)
                      · exact rsS (rsS HSj.out hb1) HZB.out
                      clear hK K
                      try simp only [Act.put, List.setIfInBounds_toArray, List.set_cons_zero, List.set_cons_succ]
                      refine wpAnyH_ready (rs := [22]) (by kernel_rfl) (by simp) ?_
                      refine AllReadyH.cons (o := { dst := some 147, op := Go.Op.call { callee := Go.Callee.value (Go.Operand.func 18), args := #[Go.Operand.tmp 146], argTypes := #[25] }, type := 4, pos := "memory.go:175", after := #[{ on := 21, ground := Go.Ground.data }, { on := 21, ground := Go.Ground.chain }, { on := 14, ground := Go.Ground.guard }], guard := some (14, false) }) rfl (fun K hK => ?_) AllReadyH.nil
                      go_simp
                      refine (own_any zb.heap.size zb.heap.size z1.heap.size 0 0 0 0 (fun _ => (none, 0, 0)) (fun _ _ => 0) zb (by omega) (by omega) (fun h => h) (Nat.le_refl _) (Nat.le_refl _) ⟨fun _ h => absurd h (Nat.not_lt_zero _), fun _ _ h => absurd h (Nat.not_lt_zero _), fun _ h => absurd h (Nat.not_lt_zero _), fun _ _ h => absurd h (Nat.not_lt_zero _)⟩ (fun _ h => absurd h (Nat.not_lt_zero _))).mono ?_
                      rintro e z6 ⟨rfl, hs6⟩
                      have HR6 : Hid (RsX w1 XB 0 none 0 none 0 none 0 none 0 z6) := rsO (rsS (rsS HSj.out hb1) HZB.out) hs6 ⟨by have := HXS.out; have := hb1.size; have := HZB.out.size; omega, by have := HXS.out; have := hb1.size; have := HZB.out.size; omega⟩ (by have := HSj.out.2.2.size; have := hb1.size; have := HZB.out.size; omega)
                      refine hK.out _ _ ?_ (fun hHeld => ?_)
                      · exact HR6.out
                      clear hK K
                      try simp only [Act.put, List.setIfInBounds_toArray, List.set_cons_zero, List.set_cons_succ]
                      refine wpAnyH_take (i := 23) (oi := { dst := some 148, op := Go.Op.unOp Go.UnOp.not 4 (Go.Operand.tmp 147), type := 4, pos := "memory.go:175", after := #[{ on := 22, ground := Go.Ground.data }, { on := 14, ground := Go.Ground.guard }], guard := some (14, false) }) (v := ?_) rfl (by kernel_rfl) (by kernel_rfl) (by kernel_rfl) (fun _ _ _ h => h) (Or.inl ⟨by rfl, ?hy⟩) (by assumption) ?_
                      case hy => (intro w9 hSw; (try dsimp only at hSw); go_simp; try with_reducible rfl)
                      try simp only [Act.put, List.setIfInBounds_toArray, List.set_cons_zero, List.set_cons_succ]
                      refine wpAnyH_take (i := 24) (oi := { dst := some 149, op := Go.Op.pick (Go.Operand.tmp 139) (Go.Operand.const (Go.Value.bool true)) (Go.Operand.tmp 148), type := 4, pos := "memory.go:175", after := #[{ on := 14, ground := Go.Ground.data }, { on := 23, ground := Go.Ground.data }], guard := none }) (v := ?_) rfl (by kernel_rfl) (by kernel_rfl) (by kernel_rfl) (fun _ _ _ h => h) (Or.inl ⟨by rfl, ?hy⟩) (by assumption) ?_
                      case hy => (intro w9 hSw; (try dsimp only at hSw); go_simp; try with_reducible rfl)
                      try simp only [Act.put, List.setIfInBounds_toArray, List.set_cons_zero, List.set_cons_succ]
                      refine wpAnyH_take (i := 25) (oi := { dst := some 150, op := Go.Op.move (Go.Operand.tmp 149), type := 4, pos := "memory.go:175", after := #[{ on := 24, ground := Go.Ground.data }, { on := 22, ground := Go.Ground.chain }], guard := none }) (v := ?_) rfl (by kernel_rfl) (by kernel_rfl) (by kernel_rfl) (fun _ _ _ h => h) (Or.inl ⟨by rfl, ?hy⟩) (by assumption) ?_
                      case hy => (intro w9 hSw; (try dsimp only at hSw); go_simp; try with_reducible rfl)
                      try simp only [Act.put, List.setIfInBounds_toArray, List.set_cons_zero, List.set_cons_succ]
                      refine wpAnyH_take (i := 26) (oi := { dst := some 151, op := Go.Op.fieldAddr 27 (Go.Operand.tmp 15) 0, type := 0, pos := "memory.go:175", after := #[{ on := 25, ground := Go.Ground.guard }], guard := some (25, false) }) (v := ?_) rfl (by kernel_rfl) (by kernel_rfl) (by kernel_rfl) (fun _ _ _ h => h) (Or.inl ⟨by rfl, ?hy⟩) (by assumption) ?_
                      case hy => (intro w9 hSw; (try dsimp only at hSw); go_simp; try with_reducible rfl)
                      try simp only [Act.put, List.setIfInBounds_toArray, List.set_cons_zero, List.set_cons_succ]
                      refine wpAnyH_take (i := 27) (oi := { dst := some 152, op := Go.Op.load 3 (Go.Operand.tmp 151), type := 3, pos := "memory.go:175", after := #[{ on := 26, ground := Go.Ground.data }, { on := 25, ground := Go.Ground.guard }], guard := some (25, false) }) (v := ?_) rfl (by kernel_rfl) (by kernel_rfl) (by kernel_rfl) (fun _ _ _ h => h) (Or.inl ⟨by rfl, ?hy⟩) (by assumption) ?_
                      case hy => (intro w9 hSw; (try dsimp only at hSw); go_simp; try with_reducible rfl)
                      try simp only [Act.put, List.setIfInBounds_toArray, List.set_cons_zero, List.set_cons_succ]
                      refine wpAnyH_take (i := 28) (oi := { dst := some 153, op := Go.Op.binOp Go.BinOp.gtr 3 (Go.Operand.tmp 152) (Go.Operand.const (Go.Value.int Go.IntKind.i64 0)) 3, type := 4, pos := "memory.go:175", after := #[{ on := 27, ground := Go.Ground.data }, { on := 25, ground := Go.Ground.guard }], guard := some (25, false) }) (v := .bool false) rfl (by kernel_rfl) (by kernel_rfl) (by kernel_rfl) (fun _ _ _ h => h) (Or.inl ⟨by rfl, ?hy⟩) (by assumption) ?_
                      case hy => (intro w9 hSw; (try dsimp only at hSw); go_simp <;> (first | with_reducible rfl | (simp; omega) | omega))
                      try simp only [Act.put, List.setIfInBounds_toArray, List.set_cons_zero, List.set_cons_succ]
                      refine wpAnyH_take (i := 29) (oi := { dst := some 154, op := Go.Op.move (Go.Operand.tmp 153), type := 4, pos := "memory.go:175", after := #[{ on := 28, ground := Go.Ground.data }, { on := 25, ground := Go.Ground.chain }, { on := 25, ground := Go.Ground.guard }], guard := some (25, false) }) (v := ?_) rfl (by kernel_rfl) (by kernel_rfl) (by kernel_rfl) (fun _ _ _ h => h) (Or.inl ⟨by rfl, ?hy⟩) (by assumption) ?_
                      case hy => (intro w9 hSw; (try dsimp only at hSw); go_simp; try with_reducible rfl)
                      try simp only [Act.put, List.setIfInBounds_toArray, List.set_cons_zero, List.set_cons_succ]
                      refine wpAnyH_take (i := 30) (oi := { dst := some 155, op := Go.Op.load 27 (Go.Operand.tmp 15), type := 27, pos := "memory.go:175", after := #[{ on := 29, ground := Go.Ground.guard }], guard := some (29, true) }) (v := undef) rfl (by kernel_rfl) (by kernel_rfl) (by kernel_rfl) (fun _ _ _ h => h) (Or.inr ⟨by rfl, rfl⟩) (by assumption) ?_
                      try simp only [Act.put, List.setIfInBounds_toArray, List.set_cons_zero, List.set_cons_succ]
                      refine wpAnyH_take (i := 31) (oi := { dst := some 156, op := Go.Op.call { callee := Go.Callee.value (Go.Operand.func 17), args := #[Go.Operand.tmp 155], argTypes := #[27] }, type := 33, pos := "memory.go:175", after := #[{ on := 30, ground := Go.Ground.data }, { on := 29, ground := Go.Ground.chain }, { on := 29, ground := Go.Ground.guard }], guard := some (29, true) }) (v := undef) rfl (by kernel_rfl) (by kernel_rfl) (by kernel_rfl) (fun _ _ _ h => h) (Or.inr ⟨by rfl, rfl⟩) (by assumption) ?_
                      try simp only [Act.put, List.setIfInBounds_toArray, List.set_cons_zero, List.set_cons_succ]
                      refine wpAnyH_take (i := 32) (oi := { dst := some 157, op := Go.Op.binOp Go.BinOp.neq 33 (Go.Operand.tmp 156) (Go.Operand.const (Go.Value.int Go.IntKind.i64 0)) 33, type := 4, pos := "memory.go:175", after := #[{ on := 31, ground := Go.Ground.data }, { on := 29, ground := Go.Ground.guard }], guard := some (29, true) }) (v := undef) rfl (by kernel_rfl) (by kernel_rfl) (by kernel_rfl) (fun _ _ _ h => h) (Or.inr ⟨by rfl, rfl⟩) (by assumption) ?_
                      try simp only [Act.put, List.setIfInBounds_toArray, List.set_cons_zero, List.set_cons_succ]
                      refine wpAnyH_take (i := 33) (oi := { dst := some 158, op := Go.Op.pick (Go.Operand.tmp 154) (Go.Operand.tmp 157) (Go.Operand.const (Go.Value.bool false)), type := 4, pos := "memory.go:175", after := #[{ on := 29, ground := Go.Ground.data }, { on := 32, ground := Go.Ground.data }, { on := 25, ground := Go.Ground.guard }], guard := some (25, false) }) (v := ?_) rfl (by kernel_rfl) (by kernel_rfl) (by kernel_rfl) (fun _ _ _ h => h) (Or.inl ⟨by rfl, ?hy⟩) (by assumption) ?_
                      case hy => (intro w9 hSw; (try dsimp only at hSw); go_simp; try with_reducible rfl)
                      try simp only [Act.put, List.setIfInBounds_toArray, List.set_cons_zero, List.set_cons_succ]
                      refine wpAnyH_take (i := 34) (oi := { dst := some 159, op := Go.Op.pick (Go.Operand.tmp 150) (Go.Operand.const (Go.Value.bool true)) (Go.Operand.tmp 158), type := 4, pos := "memory.go:175", after := #[{ on := 25, ground := Go.Ground.data }, { on := 33, ground := Go.Ground.data }], guard := none }) (v := ?_) rfl (by kernel_rfl) (by kernel_rfl) (by kernel_rfl) (fun _ _ _ h => h) (Or.inl ⟨by rfl, ?hy⟩) (by assumption) ?_
                      case hy => (intro w9 hSw; (try dsimp only at hSw); go_simp; try with_reducible rfl)
                      try simp only [Act.put, List.setIfInBounds_toArray, List.set_cons_zero, List.set_cons_succ]
                      refine wpAnyH_done (by kernel_rfl) ?_ _
                      try simp only [Act.put, List.setIfInBounds_toArray, List.set_cons_zero, List.set_cons_succ]
                      have HF : Hid (Below w1.heap.size w1 z6) := HR6.out.2.2
                      clear x0 x1 x2 y0 y1 y2 HTj HSj
                      go_wp2_with fail
                      go_roundw
                      case rel => exact ⟨k + 1, by omega, by go_num, HF.out⟩
                      case measure => simp [intOf]; omega
                    · exact absurd q1 (by omega)
                  · exact absurd q1 (by omega)
                · have hN1 : 1 ≤ N := by omega
                  obtain ⟨i5, hi5, hz0, hz1, hz2⟩ := info_parts Tryz.infoLI
                  rcases HTj.out.2.1 with ⟨q1, _⟩ | ⟨_, h40, hLat, X1, X2, R1, R2, ⟨E1, E2, E3, E4⟩, t1, t2, hTT, hRR, hap, hUU⟩
                  · exact absurd q1 hN0
                  subst E1
                  subst E3
                  obtain rfl : N = c1 := E2.symm
                  obtain rfl : N = d1 := E4.symm
                  have HXT : Hid (XT v5.drew N m j X1 X2 R1 R2) := ⟨t1, t2, hap⟩
                  have HXU : Hid (∀ k, k < N → (U1 ≤ (R1 k).1 ∧ (R1 k).1 < U2) ∧ U1 ≤ (R2 k).1 ∧ (R2 k).1 < U2) := fun k hk => ⟨⟨(hRR k hk).1, (hUU k hk).1⟩, (hRR k hk).2, (hUU k hk).2⟩
                  have HLT : Hid (Lat N m j) := hLat
                  clear t1 t2 hTT hRR hap hUU hLat E2 E4
                  have HU12 : Hid (U1 ≤ U2) := HTj.out.2.2.2.2.1
                  have HU2V : Hid (U2 ≤ V1) := HTj.out.2.2.2.2.2
                  have HXX : Hid (XB < U1 ∧ XB + 1 < U1) := HTj.out.2.2.2.1
                  have HW1U : Hid (w1.heap.size ≤ U1) := by have h1 := HKX.out; have h2 := HU.out; rw [Hid]; omega
                  refine wp_region_held_drew (S := (fun w' => RsX w1 XB N (some ⟨X1, 0, none⟩) N (some ⟨X2, 0, none⟩) N a3 c3 b3 d3 w')) (by kernel_rfl) (HSj.out) (fun hHeld => ?_)
                  generalize v5.drew = wj at *
                  refine wpAnyH_take (i := 0) (oi := { dst := some 125, op := Go.Op.load 27 (Go.Operand.tmp 14), type := 27, pos := "memory.go:175", after := #[], guard := none }) (v := ?_) rfl (by kernel_rfl) (by kernel_rfl) (by kernel_rfl) (fun _ _ _ h => h) (Or.inl ⟨by rfl, ?hy⟩) (by assumption) ?_
                  case hy => (intro w9 hSw; (try dsimp only at hSw); go_simp; try with_reducible rfl)
                  try simp only [Act.put, List.setIfInBounds_toArray, List.set_cons_zero, List.set_cons_succ]
                  refine wpAnyH_take (i := 1) (oi := { dst := some 126, op := Go.Op.load 27 (Go.Operand.tmp 15), type := 27, pos := "memory.go:175", after := #[], guard := none }) (v := ?_) rfl (by kernel_rfl) (by kernel_rfl) (by kernel_rfl) (fun _ _ _ h => h) (Or.inl ⟨by rfl, ?hy⟩) (by assumption) ?_
                  case hy => (intro w9 hSw; (try dsimp only at hSw); go_simp; try with_reducible rfl)
                  try simp only [Act.put, List.setIfInBounds_toArray, List.set_cons_zero, List.set_cons_succ]
                  refine wpAnyH_ready (rs := [2]) (by kernel_rfl) (by simp) ?_
                  refine AllReadyH.cons (o := { dst := some 127, op := Go.Op.call { callee := Go.Callee.value (Go.Operand.func 16), args := #[Go.Operand.tmp 125, Go.Operand.tmp 126], argTypes := #[27, 27] }, type := 4, pos := "memory.go:175", after := #[{ on := 0, ground := Go.Ground.data }, { on := 1, ground := Go.Ground.data }], guard := none }) rfl (fun K hK => ?_) AllReadyH.nil
                  go_simp
                  refine (sameLattice_true (N : Nat) (some ⟨X1, 0, none⟩) (some ⟨X2, 0, none⟩) a3 b3 N N N N c3 d3 _ hMN hMN (HTj.out.2.1.eqt HTj.out.2.2.1).1 (HTj.out.2.1.eqt HTj.out.2.2.1).2).mono ?_
                  rintro e z1 ⟨rfl, hb1⟩
                  have HR1 : Hid (RsX w1 XB N (some ⟨X1, 0, none⟩) N (some ⟨X2, 0, none⟩) N a3 c3 b3 d3 z1) := rsS HSj.out hb1
                  have HT1 : Hid (Two2 z1 XB (XB + 1) N m j U1 U2 V1 V2 (some ⟨X1, 0, none⟩) N (some ⟨X2, 0, none⟩) N a3 c3 b3 d3) := HTj.out.step hb1
                  have HX1 : Hid (XT z1 N m j X1 X2 R1 R2) := HXT.out.step hb1
                  clear hb1
                  refine hK.out _ _ ?_ (fun hHeld => ?_)
                  · exact HR1.out
                  clear hK K
                  try simp only [Act.put, List.setIfInBounds_toArray, List.set_cons_zero, List.set_cons_succ]
                  refine wpAnyH_take (i := 3) (oi := { dst := some 128, op := Go.Op.unOp Go.UnOp.not 4 (Go.Operand.tmp 127), type := 4, pos := "memory.go:175", after := #[{ on := 2, ground := Go.Ground.data }], guard := none }) (v := ?_) rfl (by kernel_rfl) (by kernel_rfl) (by kernel_rfl) (fun _ _ _ h => h) (Or.inl ⟨by rfl, ?hy⟩) (by assumption) ?_
                  case hy => (intro w9 hSw; (try dsimp only at hSw); go_simp; try with_reducible rfl)
                  try simp only [Act.put, List.setIfInBounds_toArray, List.set_cons_zero, List.set_cons_succ]
                  refine wpAnyH_take (i := 4) (oi := { dst := some 129, op := Go.Op.move (Go.Operand.tmp 128), type := 4, pos := "memory.go:175", after := #[{ on := 3, ground := Go.Ground.data }, { on := 2, ground := Go.Ground.chain }], guard := none }) (v := ?_) rfl (by kernel_rfl) (by kernel_rfl) (by kernel_rfl) (fun _ _ _ h => h) (Or.inl ⟨by rfl, ?hy⟩) (by assumption) ?_
                  case hy => (intro w9 hSw; (try dsimp only at hSw); go_simp; try with_reducible rfl)
                  try simp only [Act.put, List.setIfInBounds_toArray, List.set_cons_zero, List.set_cons_succ]
                  refine wpAnyH_take (i := 5) (oi := { dst := some 130, op := Go.Op.fieldAddr 27 (Go.Operand.tmp 14) 0, type := 0, pos := "memory.go:175", after := #[{ on := 4, ground := Go.Ground.guard }], guard := some (4, false) }) (v := ?_) rfl (by kernel_rfl) (by kernel_rfl) (by kernel_rfl) (fun _ _ _ h => h) (Or.inl ⟨by rfl, ?hy⟩) (by assumption) ?_
                  case hy => (intro w9 hSw; (try dsimp only at hSw); go_simp; try with_reducible rfl)
                  try simp only [Act.put, List.setIfInBounds_toArray, List.set_cons_zero, List.set_cons_succ]
                  refine wpAnyH_take (i := 6) (oi := { dst := some 131, op := Go.Op.load 3 (Go.Operand.tmp 130), type := 3, pos := "memory.go:175", after := #[{ on := 5, ground := Go.Ground.data }, { on := 4, ground := Go.Ground.guard }], guard := some (4, false) }) (v := ?_) rfl (by kernel_rfl) (by kernel_rfl) (by kernel_rfl) (fun _ _ _ h => h) (Or.inl ⟨by rfl, ?hy⟩) (by assumption) ?_
                  case hy => (intro w9 hSw; (try dsimp only at hSw); go_simp; try with_reducible rfl)
                  try simp only [Act.put, List.setIfInBounds_toArray, List.set_cons_zero, List.set_cons_succ]
                  refine wpAnyH_take (i := 7) (oi := { dst := some 132, op := Go.Op.binOp Go.BinOp.gtr 3 (Go.Operand.tmp 131) (Go.Operand.const (Go.Value.int Go.IntKind.i64 0)) 3, type := 4, pos := "memory.go:175", after := #[{ on := 6, ground := Go.Ground.data }, { on := 4, ground := Go.Ground.guard }], guard := some (4, false) }) (v := .bool true) rfl (by kernel_rfl) (by kernel_rfl) (by kernel_rfl) (fun _ _ _ h => h) (Or.inl ⟨by rfl, ?hy⟩) (by assumption) ?_
                  case hy => (intro w9 hSw; (try dsimp only at hSw); go_simp <;> (first | with_reducible rfl | (simp; omega) | omega))
                  try simp only [Act.put, List.setIfInBounds_toArray, List.set_cons_zero, List.set_cons_succ]
                  refine wpAnyH_take (i := 8) (oi := { dst := some 133, op := Go.Op.move (Go.Operand.tmp 132), type := 4, pos := "memory.go:175", after := #[{ on := 7, ground := Go.Ground.data }, { on := 4, ground := Go.Ground.chain }, { on := 4, ground := Go.Ground.guard }], guard := some (4, false) }) (v := ?_) rfl (by kernel_rfl) (by kernel_rfl) (by kernel_rfl) (fun _ _ _ h => h) (Or.inl ⟨by rfl, ?hy⟩) (by assumption) ?_
                  case hy => (intro w9 hSw; (try dsimp only at hSw); go_simp; try with_reducible rfl)
                  try simp only [Act.put, List.setIfInBounds_toArray, List.set_cons_zero, List.set_cons_succ]
                  refine wpAnyH_take (i := 9) (oi := { dst := some 134, op := Go.Op.load 27 (Go.Operand.tmp 14), type := 27, pos := "memory.go:175", after := #[{ on := 8, ground := Go.Ground.guard }], guard := some (8, true) }) (v := ?_) rfl (by kernel_rfl) (by kernel_rfl) (by kernel_rfl) (fun _ _ _ h => h) (Or.inl ⟨by rfl, ?hy⟩) (by assumption) ?_
                  case hy => (intro w9 hSw; (try dsimp only at hSw); go_simp; try with_reducible rfl)
                  try simp only [Act.put, List.setIfInBounds_toArray, List.set_cons_zero, List.set_cons_succ]
                  refine wpAnyH_ready (rs := [10]) (by kernel_rfl) (by simp) ?_
                  refine AllReadyH.cons (o := { dst := some 135, op := Go.Op.call { callee := Go.Callee.value (Go.Operand.func 17), args := #[Go.Operand.tmp 134], argTypes := #[27] }, type := 33, pos := "memory.go:175", after := #[{ on := 9, ground := Go.Ground.data }, { on := 8, ground := Go.Ground.chain }, { on := 8, ground := Go.Ground.guard }], guard := some (8, true) }) rfl (fun K hK => ?_) AllReadyH.nil
                  go_simp
                  obtain ⟨S2, S2', hra2, hrb2, hlc2⟩ := HT1.out.2.1.chk hN1
                  refine (checkLattice_any (N : Nat) (some ⟨X1, 0, none⟩) N N S2 _ (some ⟨X2, 0, none⟩) N N S2' _ _ hMN hMN hra2 hrb2).mono ?_
                  rintro e z2 ⟨⟨cc2, rfl, hcc2⟩, hb2⟩
                  obtain rfl : cc2 = 0 := hcc2.one hlc2
                  have HR2 : Hid (RsX w1 XB N (some ⟨X1, 0, none⟩) N (some ⟨X2, 0, none⟩) N a3 c3 b3 d3 z2) := rsS HR1.out hb2
                  have HT2 : Hid (Two2 z2 XB (XB + 1) N m j U1 U2 V1 V2 (some ⟨X1, 0, none⟩) N (some ⟨X2, 0, none⟩) N a3 c3 b3 d3) := HT1.out.step hb2
                  have HX2 : Hid (XT z2 N m j X1 X2 R1 R2) := HX1.out.step hb2
                  clear hb2 hra2 hrb2 hlc2 hcc2 HR1 HT1 HX1
                  refine hK.out _ _ ?_ (fun hHeld => ?_)
                  · exact HR2.out
                  clear hK K
                  try simp only [Act.put, List.setIfInBounds_toArray, List.set_cons_zero, List.set_cons_succ]
                  refine wpAnyH_take (i := 11) (oi := { dst := some 136, op := Go.Op.binOp Go.BinOp.neq 33 (Go.Operand.tmp 135) (Go.Operand.const (Go.Value.int Go.IntKind.i64 0)) 33, type := 4, pos := "memory.go:175", after := #[{ on := 10, ground := Go.Ground.data }, { on := 8, ground := Go.Ground.guard }], guard := some (8, true) }) (v := ?_) rfl (by kernel_rfl) (by kernel_rfl) (by kernel_rfl) (fun _ _ _ h => h) (Or.inl ⟨by rfl, ?hy⟩) (by assumption) ?_
                  case hy => (intro w9 hSw; (try dsimp only at hSw); go_simp; try with_reducible rfl)
                  try simp only [Act.put, List.setIfInBounds_toArray, List.set_cons_zero, List.set_cons_succ]
                  refine wpAnyH_take (i := 12) (oi := { dst := some 137, op := Go.Op.pick (Go.Operand.tmp 133) (Go.Operand.tmp 136) (Go.Operand.const (Go.Value.bool false)), type := 4, pos := "memory.go:175", after := #[{ on := 8, ground := Go.Ground.data }, { on := 11, ground := Go.Ground.data }, { on := 4, ground := Go.Ground.guard }], guard := some (4, false) }) (v := ?_) rfl (by kernel_rfl) (by kernel_rfl) (by kernel_rfl) (fun _ _ _ h => h) (Or.inl ⟨by rfl, ?hy⟩) (by assumption) ?_
                  case hy => (intro w9 hSw; (try dsimp only at hSw); go_simp; try with_reducible rfl)
                  try simp only [Act.put, List.setIfInBounds_toArray, List.set_cons_zero, List.set_cons_succ]
                  refine wpAnyH_take (i := 13) (oi := { dst := some 138, op := Go.Op.pick (Go.Operand.tmp 129) (Go.Operand.const (Go.Value.bool true)) (Go.Operand.tmp 137), type := 4, pos := "memory.go:175", after := #[{ on := 4, ground := Go.Ground.data }, { on := 12, ground := Go.Ground.data }], guard := none }) (v := ?_) rfl (by kernel_rfl) (by kernel_rfl) (by kernel_rfl) (fun _ _ _ h => h) (Or.inl ⟨by rfl, ?hy⟩) (by assumption) ?_
                  case hy => (intro w9 hSw; (try dsimp only at hSw); go_simp; try with_reducible rfl)
                  try simp only [Act.put, List.setIfInBounds_toArray, List.set_cons_zero, List.set_cons_succ]
                  refine wpAnyH_take (i := 14) (oi := { dst := some 139, op := Go.Op.move (Go.Operand.tmp 138), type := 4, pos := "memory.go:175", after := #[{ on := 13, ground := Go.Ground.data }, { on := 10, ground := Go.Ground.chain }], guard := none }) (v := ?_) rfl (by kernel_rfl) (by kernel_rfl) (by kernel_rfl) (fun _ _ _ h => h) (Or.inl ⟨by rfl, ?hy⟩) (by assumption) ?_
                  case hy => (intro w9 hSw; (try dsimp only at hSw); go_simp; try with_reducible rfl)
                  try simp only [Act.put, List.setIfInBounds_toArray, List.set_cons_zero, List.set_cons_succ]
                  refine wpAnyH_take (i := 16) (oi := { dst := some 141, op := Go.Op.fieldAddr 27 (Go.Operand.tmp 14) 1, type := 0, pos := "memory.go:175", after := #[{ on := 14, ground := Go.Ground.guard }], guard := some (14, false) }) (v := ?_) rfl (by kernel_rfl) (by kernel_rfl) (by kernel_rfl) (fun _ _ _ h => h) (Or.inl ⟨by rfl, ?hy⟩) (by assumption) ?_
                  case hy => (intro w9 hSw; (try dsimp only at hSw); go_simp; try with_reducible rfl)
                  try simp only [Act.put, List.setIfInBounds_toArray, List.set_cons_zero, List.set_cons_succ]
                  refine wpAnyH_take (i := 17) (oi := { dst := some 142, op := Go.Op.load 25 (Go.Operand.tmp 141), type := 25, pos := "memory.go:175", after := #[{ on := 16, ground := Go.Ground.data }, { on := 14, ground := Go.Ground.guard }], guard := some (14, false) }) (v := ?_) rfl (by kernel_rfl) (by kernel_rfl) (by kernel_rfl) (fun _ _ _ h => h) (Or.inl ⟨by rfl, ?hy⟩) (by assumption) ?_
                  case hy => (intro w9 hSw; (try dsimp only at hSw); go_simp; try with_reducible rfl)
                  try simp only [Act.put, List.setIfInBounds_toArray, List.set_cons_zero, List.set_cons_succ]
                  refine wpAnyH_take (i := 19) (oi := { dst := some 144, op := Go.Op.fieldAddr 27 (Go.Operand.tmp 14) 2, type := 0, pos := "memory.go:175", after := #[{ on := 14, ground := Go.Ground.guard }], guard := some (14, false) }) (v := ?_) rfl (by kernel_rfl) (by kernel_rfl) (by kernel_rfl) (fun _ _ _ h => h) (Or.inl ⟨by rfl, ?hy⟩) (by assumption) ?_
                  case hy => (intro w9 hSw; (try dsimp only at hSw); go_simp; try with_reducible rfl)
                  try simp only [Act.put, List.setIfInBounds_toArray, List.set_cons_zero, List.set_cons_succ]
                  refine wpAnyH_take (i := 20) (oi := { dst := some 145, op := Go.Op.load 25 (Go.Operand.tmp 144), type := 25, pos := "memory.go:175", after := #[{ on := 19, ground := Go.Ground.data }, { on := 14, ground := Go.Ground.guard }], guard := some (14, false) }) (v := ?_) rfl (by kernel_rfl) (by kernel_rfl) (by kernel_rfl) (fun _ _ _ h => h) (Or.inl ⟨by rfl, ?hy⟩) (by assumption) ?_
                  case hy => (intro w9 hSw; (try dsimp only at hSw); go_simp; try with_reducible rfl)
                  try simp only [Act.put, List.setIfInBounds_toArray, List.set_cons_zero, List.set_cons_succ]
                  refine wpAnyH_ready (rs := [15]) (by kernel_rfl) (by simp) ?_
                  refine AllReadyH.cons (o := { dst := some 140, op := Go.Op.buildSlice 25 0 #[], type := 25, pos := "memory.go:175", after := #[{ on := 14, ground := Go.Ground.guard }], guard := some (14, false) }) rfl (fun K hK => ?_) AllReadyH.nil
                  go_simp
                  refine gen_al (fun zb halb => ?_)
                  have HZB : Hid (Below z2.heap.size z2 zb) := by rw [Hid, ← halb]; exact (Below.refl _ _).alloc (Nat.le_refl _) _
                  have HOW : Hid (zb.ownsRow z2.heap.size 22 1 (.slice (some ⟨z2.heap.size, 0, none⟩) 0 0) 0 []) := by rw [Hid, ← halb]; exact World.ownsRow_made _ _ _ (Nat.le_refl _) (by unfold maxLen; omega) (by simp)
                  have HRb : Hid (RsX w1 XB N (some ⟨X1, 0, none⟩) N (some ⟨X2, 0, none⟩) N a3 c3 b3 d3 zb) := rsS HR2.out HZB.out
                  have HXB : Hid (XT zb N m j X1 X2 R1 R2) := HX2.out.step HZB.out
                  have HBASE : Hid (z2.heap.size ≤ zb.heap.size) := HZB.out.size
                  clear halb
                  refine hK.out _ _ ?_ (fun hHeld => ?_)
                  · exact HRb.out
                  clear hK K
                  try simp only [Act.put, List.setIfInBounds_toArray, List.set_cons_zero, List.set_cons_succ]
                  refine wpAnyH_ready (rs := [18]) (by kernel_rfl) (by simp) ?_
                  refine AllReadyH.cons (o := { dst := some 143, op := Go.Op.call { callee := Go.Callee.builtin Go.Builtin.append, args := #[Go.Operand.tmp 140, Go.Operand.tmp 142], argTypes := #[25, 25] }, type := 25, pos := "memory.go:175", after := #[{ on := 15, ground := Go.Ground.data }, { on := 17, ground := Go.Ground.data }, { on := 14, ground := Go.Ground.chain }, { on := 14, ground := Go.Ground.guard }], guard := some (14, false) }) rfl (fun K hK => ?_) AllReadyH.nil
                  rw [if_pos (by rfl)]
                  refine wp_append_own _ _ _ 25 rfl z2.heap.size 22 i5 (.slice none 0 0) 1 24 Tryz.underlying25 hi5 hz0 hz1 hz2 rfl (by decide) (.slice (some ⟨z2.heap.size, 0, none⟩) 0 0) 0 [] rfl HOW.out ⟨X1, 0, none⟩ N N (svl (rv N R1) N) rfl (by rw [svl_len]; omega) (tb_cells HXB.out.1) (svl_one _ _) (by unfold maxLen; omega) (by omega) (HBASE.out) ?_
                  intro vA z4 hown4 hgr4 _
                  have HB4 : Hid (Below z2.heap.size z2 z4) := HZB.out.grown hgr4 HZB.out.size (fun q hq => own_ge HOW.out hq)
                  have HO4 : Hid (z4.ownsRow z2.heap.size 22 1 vA (0 + N) ([] ++ svl (rv N R1) N)) := hown4
                  have HR4 : Hid (RsX w1 XB N (some ⟨X1, 0, none⟩) N (some ⟨X2, 0, none⟩) N a3 c3 b3 d3 z4) := rsS HR2.out HB4.out
                  have HX4 : Hid (XT z4 N m j X1 X2 R1 R2) := HX2.out.step HB4.out
                  have HBASE : Hid (z2.heap.size ≤ z4.heap.size) := HB4.out.size
                  clear hown4 hgr4 HRb HXB HZB HOW
                  refine hK.out _ _ ?_ (fun hHeld => ?_)
                  · exact HR4.out
                  clear hK K
                  try simp only [Act.put, List.setIfInBounds_toArray, List.set_cons_zero, List.set_cons_succ]
                  refine wpAnyH_ready (rs := [21]) (by kernel_rfl) (by simp) ?_
                  refine AllReadyH.cons (o := { dst := some 146, op := Go.Op.call { callee := Go.Callee.builtin Go.Builtin.append, args := #[Go.Operand.tmp 143, Go.Operand.tmp 145], argTypes := #[25, 25] }, type := 25, pos := "memory.go:175", after := #[{ on := 18, ground := Go.Ground.data }, { on := 20, ground := Go.Ground.data }, { on := 18, ground := Go.Ground.chain }, { on := 14, ground := Go.Ground.guard }], guard := some (14, false) }) rfl (fun K hK => ?_) AllReadyH.nil
                  rw [if_pos (by rfl)]
                  refine wp_append_own _ _ _ 25 rfl z2.heap.size 22 i5 (.slice none 0 0) 1 24 Tryz.underlying25 hi5 hz0 hz1 hz2 rfl (by decide) vA (0 + N) ([] ++ svl (rv N R1) N) rfl HO4.out ⟨X2, 0, none⟩ N N (svl (rv N R2) N) rfl (by rw [svl_len]; omega) (tb_cells HX4.out.2.1) (svl_one _ _) (by unfold maxLen; omega) (by omega) (HBASE.out) ?_
                  intro vB z5 hown5 hgr5 _
                  have HB5 : Hid (Below z2.heap.size z2 z5) := HB4.out.grown hgr5 HB4.out.size (fun q hq => own_ge HO4.out hq)
                  obtain ⟨gB, capB, rfl⟩ := owns_form hown5 (by omega)
                  have HR5 : Hid (RsX w1 XB N (some ⟨X1, 0, none⟩) N (some ⟨X2, 0, none⟩) N a3 c3 b3 d3 z5) := rsS HR2.out HB5.out
                  have HT5 : Hid (Two2 z5 XB (XB + 1) N m j U1 U2 V1 V2 (some ⟨X1, 0, none⟩) N (some ⟨X2, 0, none⟩) N a3 c3 b3 d3) := HT2.out.step HB5.out
                  have HOL : Hid (OwL z5 U1 U2 gB 0 (N + N) N 0 (rvv N R1 R2) (fvv N m j)) := own_of (HX2.out.step HB5.out) HXU.out (by simpa using hown5)
                  have HU25 : Hid (U2 ≤ z5.heap.size) := own_hi hN1 HT5.out.2.2.1 HT5.out.2.2.2.2.2
                  clear hown5 hgr5 HR4 HX4 HO4
                  refine hK.out _ _ ?_ (fun hHeld => ?_)
                  · exact HR5.out
                  clear hK K
                  try simp only [Act.put, List.setIfInBounds_toArray, List.set_cons_zero, List.set_cons_succ]
                  refine wpAnyH_ready (rs := [22]) (by kernel_rfl) (by simp) ?_
                  refine AllReadyH.cons (o := { dst := some 147, op := Go.Op.call { callee := Go.Callee.value (Go.Operand.func 18), args := #[Go.Operand.tmp 146], argTypes := #[25] }, type := 4, pos := "memory.go:175", after := #[{ on := 21, ground := Go.Ground.data }, { on := 21, ground := Go.Ground.chain }, { on := 14, ground := Go.Ground.guard }], guard := some (14, false) }) rfl (fun K hK => ?_) AllReadyH.nil
                  go_simp
                  refine (own_any U1 U2 gB 0 (N + N) N capB (rvv N R1 R2) (fvv N m j) z5 (by omega) (by omega) (fun _ => by omega) HU25.out HU12.out HOL.out (fun _ _ => rvv_len _ _ _ _)).mono ?_
                  rintro e z6 ⟨rfl, hs6⟩
                  have HR6 : Hid (RsX w1 XB N (some ⟨X1, 0, none⟩) N (some ⟨X2, 0, none⟩) N a3 c3 b3 d3 z6) := rsO HR5.out hs6 HXX.out HW1U.out
                  have HT6 : Hid (LatR V1 V2 z6 N m j a3 c3 b3 d3) := HT5.out.2.2.1.off HU2V.out hs6.1
                  refine hK.out _ _ ?_ (fun hHeld => ?_)
                  · exact HR6.out
                  clear hK K
                  try simp only [Act.put, List.setIfInBounds_toArray, List.set_cons_zero, List.set_cons_succ]
                  refine wpAnyH_take (i := 23) (oi := { dst := some 148, op := Go.Op.unOp Go.UnOp.not 4 (Go.Operand.tmp 147), type := 4, pos := "memory.go:175", after := #[{ on := 22, ground := Go.Ground.data }, { on := 14, ground := Go.Ground.guard }], guard := some (14, false) }) (v := ?_) rfl (by kernel_rfl) (by kernel_rfl) (by kernel_rfl) (fun _ _ _ h => h) (Or.inl ⟨by rfl, ?hy⟩) (by assumption) ?_
                  case hy => (intro w9 hSw; (try dsimp only at hSw); go_simp; try with_reducible rfl)
                  try simp only [Act.put, List.setIfInBounds_toArray, List.set_cons_zero, List.set_cons_succ]
                  refine wpAnyH_take (i := 24) (oi := { dst := some 149, op := Go.Op.pick (Go.Operand.tmp 139) (Go.Operand.const (Go.Value.bool true)) (Go.Operand.tmp 148), type := 4, pos := "memory.go:175", after := #[{ on := 14, ground := Go.Ground.data }, { on := 23, ground := Go.Ground.data }], guard := none }) (v := ?_) rfl (by kernel_rfl) (by kernel_rfl) (by kernel_rfl) (fun _ _ _ h => h) (Or.inl ⟨by rfl, ?hy⟩) (by assumption) ?_
                  case hy => (intro w9 hSw; (try dsimp only at hSw); go_simp; try with_reducible rfl)
                  try simp only [Act.put, List.setIfInBounds_toArray, List.set_cons_zero, List.set_cons_succ]
                  refine wpAnyH_take (i := 25) (oi := { dst := some 150, op := Go.Op.move (Go.Operand.tmp 149), type := 4, pos := "memory.go:175", after := #[{ on := 24, ground := Go.Ground.data }, { on := 22, ground := Go.Ground.chain }], guard := none }) (v := ?_) rfl (by kernel_rfl) (by kernel_rfl) (by kernel_rfl) (fun _ _ _ h => h) (Or.inl ⟨by rfl, ?hy⟩) (by assumption) ?_
                  case hy => (intro w9 hSw; (try dsimp only at hSw); go_simp; try with_reducible rfl)
                  try simp only [Act.put, List.setIfInBounds_toArray, List.set_cons_zero, List.set_cons_succ]
                  refine wpAnyH_take (i := 26) (oi := { dst := some 151, op := Go.Op.fieldAddr 27 (Go.Operand.tmp 15) 0, type := 0, pos := "memory.go:175", after := #[{ on := 25, ground := Go.Ground.guard }], guard := some (25, false) }) (v := ?_) rfl (by kernel_rfl) (by kernel_rfl) (by kernel_rfl) (fun _ _ _ h => h) (Or.inl ⟨by rfl, ?hy⟩) (by assumption) ?_
                  case hy => (intro w9 hSw; (try dsimp only at hSw); go_simp; try with_reducible rfl)
                  try simp only [Act.put, List.setIfInBounds_toArray, List.set_cons_zero, List.set_cons_succ]
                  refine wpAnyH_take (i := 27) (oi := { dst := some 152, op := Go.Op.load 3 (Go.Operand.tmp 151), type := 3, pos := "memory.go:175", after := #[{ on := 26, ground := Go.Ground.data }, { on := 25, ground := Go.Ground.guard }], guard := some (25, false) }) (v := ?_) rfl (by kernel_rfl) (by kernel_rfl) (by kernel_rfl) (fun _ _ _ h => h) (Or.inl ⟨by rfl, ?hy⟩) (by assumption) ?_
                  case hy => (intro w9 hSw; (try dsimp only at hSw); go_simp; try with_reducible rfl)
                  try simp only [Act.put, List.setIfInBounds_toArray, List.set_cons_zero, List.set_cons_succ]
                  refine wpAnyH_take (i := 28) (oi := { dst := some 153, op := Go.Op.binOp Go.BinOp.gtr 3 (Go.Operand.tmp 152) (Go.Operand.const (Go.Value.int Go.IntKind.i64 0)) 3, type := 4, pos := "memory.go:175", after := #[{ on := 27, ground := Go.Ground.data }, { on := 25, ground := Go.Ground.guard }], guard := some (25, false) }) (v := .bool true) rfl (by kernel_rfl) (by kernel_rfl) (by kernel_rfl) (fun _ _ _ h => h) (Or.inl ⟨by rfl, ?hy⟩) (by assumption) ?_
                  case hy => (intro w9 hSw; (try dsimp only at hSw); go_simp <;> (first | with_reducible rfl | (simp; omega) | omega))
                  try simp only [Act.put, List.setIfInBounds_toArray, List.set_cons_zero, List.set_cons_succ]
                  refine wpAnyH_take (i := 29) (oi := { dst := some 154, op := Go.Op.move (Go.Operand.tmp 153), type := 4, pos := "memory.go:175", after := #[{ on := 28, ground := Go.Ground.data }, { on := 25, ground := Go.Ground.chain }, { on := 25, ground := Go.Ground.guard }], guard := some (25, false) }) (v := ?_) rfl (by kernel_rfl) (by kernel_rfl) (by kernel_rfl) (fun _ _ _ h => h) (Or.inl ⟨by rfl, ?hy⟩) (by assumption) ?_
                  case hy => (intro w9 hSw; (try dsimp only at hSw); go_simp; try with_reducible rfl)
                  try simp only [Act.put, List.setIfInBounds_toArray, List.set_cons_zero, List.set_cons_succ]
                  refine wpAnyH_take (i := 30) (oi := { dst := some 155, op := Go.Op.load 27 (Go.Operand.tmp 15), type := 27, pos := "memory.go:175", after := #[{ on := 29, ground := Go.Ground.guard }], guard := some (29, true) }) (v := ?_) rfl (by kernel_rfl) (by kernel_rfl) (by kernel_rfl) (fun _ _ _ h => h) (Or.inl ⟨by rfl, ?hy⟩) (by assumption) ?_
                  case hy => (intro w9 hSw; (try dsimp only at hSw); go_simp; try with_reducible rfl)
                  try simp only [Act.put, List.setIfInBounds_toArray, List.set_cons_zero, List.set_cons_succ]
                  refine wpAnyH_ready (rs := [31]) (by kernel_rfl) (by simp) ?_
                  refine AllReadyH.cons (o := { dst := some 156, op := Go.Op.call { callee := Go.Callee.value (Go.Operand.func 17), args := #[Go.Operand.tmp 155], argTypes := #[27] }, type := 33, pos := "memory.go:175", after := #[{ on := 30, ground := Go.Ground.data }, { on := 29, ground := Go.Ground.chain }, { on := 29, ground := Go.Ground.guard }], guard := some (29, true) }) rfl (fun K hK => ?_) AllReadyH.nil
                  go_simp
                  obtain ⟨S7, S7', hra7, hrb7, hlc7⟩ := HT6.out.chk hN1
                  refine (checkLattice_any (N : Nat) a3 N c3 S7 _ b3 N d3 S7' _ _ hMN hMN hra7 hrb7).mono ?_
                  rintro e z7 ⟨⟨cc7, rfl, hcc7⟩, hb7⟩
                  obtain rfl : cc7 = 0 := hcc7.one hlc7
                  refine hK.out _ _ ?_ (fun hHeld => ?_)
                  · exact rsS HR6.out hb7
                  clear hK K
                  try simp only [Act.put, List.setIfInBounds_toArray, List.set_cons_zero, List.set_cons_succ]
                  refine wpAnyH_take (i := 32) (oi := { dst := some 157, op := Go.Op.binOp Go.BinOp.neq 33 (Go.Operand.tmp 156) (Go.Operand.const (Go.Value.int Go.IntKind.i64 0)) 33, type := 4, pos := "memory.go:175", after := #[{ on := 31, ground := Go.Ground.data }, { on := 29, ground := Go.Ground.guard }], guard := some (29, true) }) (v := ?_) rfl (by kernel_rfl) (by kernel_rfl) (by kernel_rfl) (fun _ _ _ h => h) (Or.inl ⟨by rfl, ?hy⟩) (by assumption) ?_
                  case hy => (intro w9 hSw; (try dsimp only at hSw); go_simp; try with_reducible rfl)
                  try simp only [Act.put, List.setIfInBounds_toArray, List.set_cons_zero, List.set_cons_succ]
                  refine wpAnyH_take (i := 33) (oi := { dst := some 158, op := Go.Op.pick (Go.Operand.tmp 154) (Go.Operand.tmp 157) (Go.Operand.const (Go.Value.bool false)), type := 4, pos := "memory.go:175", after := #[{ on := 29, ground := Go.Ground.data }, { on := 32, ground := Go.Ground.data }, { on := 25, ground := Go.Ground.guard }], guard := some (25, false) }) (v := ?_) rfl (by kernel_rfl) (by kernel_rfl) (by kernel_rfl) (fun _ _ _ h => h) (Or.inl ⟨by rfl, ?hy⟩) (by assumption) ?_
                  case hy => (intro w9 hSw; (try dsimp only at hSw); go_simp; try with_reducible rfl)
                  try simp only [Act.put, List.setIfInBounds_toArray, List.set_cons_zero, List.set_cons_succ]
                  refine wpAnyH_take (i := 34) (oi := { dst := some 159, op := Go.Op.pick (Go.Operand.tmp 150) (Go.Operand.const (Go.Value.bool true)) (Go.Operand.tmp 158), type := 4, pos := "memory.go:175", after := #[{ on := 25, ground := Go.Ground.data }, { on := 33, ground := Go.Ground.data }], guard := none }) (v := ?_) rfl (by kernel_rfl) (by kernel_rfl) (by kernel_rfl) (fun _ _ _ h => h) (Or.inl ⟨by rfl, ?hy⟩) (by assumption) ?_
                  case hy => (intro w9 hSw; (try dsimp only at hSw); go_simp; try with_reducible rfl)
                  try simp only [Act.put, List.setIfInBounds_toArray, List.set_cons_zero, List.set_cons_succ]
                  refine wpAnyH_done (by kernel_rfl) ?_ _
                  try simp only [Act.put, List.setIfInBounds_toArray, List.set_cons_zero, List.set_cons_succ]
                  have HF : Hid (Below w1.heap.size w1 z7) := (rsS HR6.out hb7).2.2
                  clear x0 x1 x2 y0 y1 y2 HTj HSj
                  go_wp2_with fail
                  go_roundw
                  case rel => exact ⟨k + 1, by omega, by go_num, HF.out⟩
                  case measure => simp [intOf]; omega
    · obtain rfl : k = 4 := by omega
      go_wp2_with fail
      go_ret
      exact ⟨rfl, Below.then HB1.out HBk.out⟩
end Go.Proofs.YthhnngmfbbljaaaGreat
