/-
  What slices.CompactFunc does to forms of one length. Conditions: as in GnI.
-/
import Derived.Test.YtfbdgdphpdhcpaaDoorGnN
namespace Go.Proofs.YtfbdgdphpdhcpaaDoor
open Go Go.Conc Go.RowKit Sm
set_option maxRecDepth 100000

theorem compL_all {ys : List (List Nat)} (h : ∀ j, j < ys.length → kp (fun j => ys.getD j []) j = true) : compL ys = ys := by
  unfold compL
  rw [kept_all _ h]
  refine List.ext_getElem (by simp) fun i h1 h2 => ?_
  simp [List.getElem?_eq_getElem h2]
theorem put_at {F cur : Array Value} {t : Nat} (h1 : t < F.size) (h3 : t < cur.size) : (Go.Sort.putCells id 0 F cur)[t]? = F[t]? := by
  simp [Go.Sort.putCells, h1, h3]
theorem z24 : ∀ w, (zeroValue 24).run Tryd.prog w = .ok (.agg #[.int .i64 0, .slice none 0 0]) w := Tryd.zeroValue24
/-- What is left when the second loop is through. -/
theorem comp_end {w : World} {B N gv cv kk q : Nat} {ys : List (List Nat)} {r : Nat → Nat} {cur : Array Value} {dk : Array Nat} {os : Array Obj} (h : GApart w B N gv cv ys r cur) (hI : CI (fun j => ys.getD j []) ys.length ys.length kk dk) :
    (compL ys).length = kk ∧ GRow ((cW r ys.length N w gv q dk os).setCells gv (kk * 2) (Builtin.zeroCells #[.int .i64 0, .slice none 0 0] (ys.length - kk)).toList) B (.slice (some ⟨gv, 0, none⟩) (compL ys).length cv) (compL ys) ∧
      w.grownBy ((cW r ys.length N w gv q dk os).setCells gv (kk * 2) (Builtin.zeroCells #[.int .i64 0, .slice none 0 0] (ys.length - kk)).toList) (some gv) := by
  have hlen : (compL ys).length = kk := by unfold compL; rw [List.length_map]; exact hI.len
  have hlt := hI.lt
  have hzl : (Builtin.zeroCells #[Value.int .i64 0, .slice none 0 0] (ys.length - kk)).toList.length = (ys.length - kk) * 2 := by simp [Builtin.zeroCells]
  rw [cW_set r ys.length N w gv q dk os _ _ (Array.getElem?_eq_some_iff.1 h.blk).1 (by rw [hzl, hI.size]; omega)]
  generalize (Builtin.zeroCells #[Value.int .i64 0, .slice none 0 0] (ys.length - kk)).toList = zs at hzl ⊢
  have hgr := pr_grown (Go.Sort.setMany (Go.Sort.flatK (encP r ys.length N) 2 dk) (kk * 2) zs) w gv q os
  have hbl := pr_block (Go.Sort.setMany (Go.Sort.flatK (encP r ys.length N) 2 dk) (kk * 2) zs) w gv q os h.blk
  have hcs := h.size
  have hle := h.le
  refine ⟨hlen, h.made hgr (p := fun j => dk[j]!) hbl (by simp [Go.Sort.putCells, hcs]) (by omega) fun j y hy => ?_, hgr⟩
  have hj : j < kk := by rw [← hlen]; exact (List.getElem?_eq_some_iff.1 hy).1
  have hlow := hI.low j hj
  have hpn : dk[j]! < ys.length := kept_lt (List.mem_of_getElem? hlow)
  have hfl := flat_at r ys.length N dk j (by rw [hI.size]; omega)
  rw [cl_in hpn] at hfl
  have hF : ∀ t, t < kk * 2 → (Go.Sort.putCells id 0 (Go.Sort.setMany (Go.Sort.flatK (encP r ys.length N) 2 dk) (kk * 2) zs) cur)[t]? = (Go.Sort.flatK (encP r ys.length N) 2 dk)[t]? := fun t ht => by
    have h1 : t < (Go.Sort.flatK (encP r ys.length N) 2 dk).size := by rw [Go.Sort.size_flatK, hI.size]; omega
    have h2 := Go.Sort.get_setMany zs (kk * 2) (Go.Sort.flatK (encP r ys.length N) 2 dk) t h1
    rw [if_neg (by omega)] at h2
    have h3 : t < cur.size := by omega
    have h4 : t < dk.size * 2 := by rw [hI.size]; omega
    have h5 : t < (Go.Sort.setMany (Go.Sort.flatK (encP r ys.length N) 2 dk) (kk * 2) zs).size := by rw [Go.Sort.size_setMany]; exact h1
    rw [put_at h5 h3, Array.getElem?_eq_getElem h5, Array.getElem?_eq_getElem h1]
    rw [getElem!_pos (Go.Sort.setMany (Go.Sort.flatK (encP r ys.length N) 2 dk) (kk * 2) zs) t h5, getElem!_pos (Go.Sort.flatK (encP r ys.length N) 2 dk) t h1] at h2
    rw [h2]
  refine ⟨hpn, ?_, by rw [hF _ (by omega)]; exact hfl.1, by rw [hF _ (by omega)]; exact hfl.2⟩
  simp only [compL, List.getElem?_map, hlow, Option.map_some, Option.some.injEq] at hy
  exact hy.symm
set_option maxHeartbeats 4000000 in
theorem compF_any {B N gv cv : Nat} {ys : List (List Nat)} (w : World) (hN : N ≤ 40) (hl : ∀ y ∈ ys, y.length = N) (h0 : 0 < ys.length) (hn : ys.length ≤ 1000) (h : GRow w B (.slice (some ⟨gv, 0, none⟩) ys.length cv) ys) :
    Calls Tryd.prog 52 #[.slice (some ⟨gv, 0, none⟩) ys.length cv, .func (.func 53) #[] #[]] w fun e w' => e = .returned (.slice (some ⟨gv, 0, none⟩) (compL ys).length cv) ∧ GRow w' B (.slice (some ⟨gv, 0, none⟩) (compL ys).length cv) (compL ys) ∧ w.grownBy w' (some gv) := by
  have mixed : Tryd.prog.follows .mixedOrders = true := by kernel_rfl
  obtain ⟨r, cur, A⟩ := h.apart hl
  have HA : Hid (GApart w B N gv cv ys r cur) := A
  have HR : Hid (GRow w B (.slice (some ⟨gv, 0, none⟩) ys.length cv) ys) := h
  have HSTART : Hid (w = cW r ys.length N w gv 0 (List.range ys.length).toArray #[]) := by
    show w = _
    unfold cW sortWorldK
    rw [Go.Sort.grow_empty]
    exact (Go.Sort.putRowK_self (encP r ys.length N) 2 w gv 0 _ A.holds).symm
  have HSELF : Hid (∀ q os, GRow (cW r ys.length N w gv q (List.range ys.length).toArray os) B (.slice (some ⟨gv, 0, none⟩) ys.length cv) ys) := fun q os => by
    have hsz := A.size
    have hle := A.le
    refine A.made (swk_grown _ w gv 0 q _ os) (p := fun j => j) (swk_block (encP r ys.length N) w gv 0 q (List.range ys.length).toArray os A.blk) (by simp [Go.Sort.putCells, A.size]) A.le fun j y hy => ?_
    have hj := (List.getElem?_eq_some_iff.1 hy).1
    have hfl := flat_at r ys.length N (List.range ys.length).toArray j (by simpa using hj)
    rw [range_at hj, cl_in hj] at hfl
    refine ⟨hj, by rw [List.getD_eq_getElem?_getD, hy]; rfl, ?_, ?_⟩
    · rw [put_at (by simp; omega) (by omega)]; exact hfl.1
    · rw [put_at (by simp; omega) (by omega)]; exact hfl.2
  have HGR : Hid (∀ q os, w.grownBy (cW r ys.length N w gv q (List.range ys.length).toArray os) (some gv)) := fun q os => swk_grown _ w gv 0 q _ os
  have HCA : Hid (∀ q dk os x y, _) := cW_same A hN h0
  have HCC : Hid (∀ {q : Nat} {dk : Array Nat} {os : Array Obj}, dk.size = ys.length → ∀ {i : Nat}, i < ys.length → _) := fun {q dk os} hs {i} hi => cW_cells A (q := q) (dk := dk) (os := os) hs hi
  have hcv : ys.length ≤ cv := A.le
  have hgv : gv < w.heap.size := (Array.getElem?_eq_some_iff.1 A.blk).1
  have HEND : Hid (∀ {q kk : Nat} {dk : Array Nat} {os : Array Obj}, CI (fun j => ys.getD j []) ys.length ys.length kk dk → _) := fun {q kk dk os} hI => comp_end (q := q) (os := os) A hI
  clear h A
  by_cases h2 : ys.length < 2
  · have h2' : (ys.length : Int) < 2 := by omega
    have HC : Hid (compL ys = ys) := compL_all fun j hj => kp_one j (by omega)
    go_enter Tryd.func52, Tryd.ntmps52
    go_wp2_with fail
    go_ret
    rw [HC.out]
    refine ⟨rfl, HR.out, ?_⟩
    have := HGR.out 0 #[]
    rw [← HSTART.out] at this
    exact this
  · have h2' : ¬ (ys.length : Int) < 2 := by omega
    go_enter Tryd.func52, Tryd.ntmps52
    go_wp2_with fail
    go_loopg [5] ys.length (fun g s5 wr => ∃ (k q : Nat) (os : Array Obj), 1 ≤ k ∧ k ≤ ys.length ∧ ys.length - k ≤ g ∧ s5 = .int .i64 k ∧ wr = cW r ys.length N w gv q (List.range ys.length).toArray os ∧ Hid (∀ j, j < k → kp (fun j => ys.getD j []) j = true))
    case atStart => exact ⟨1, 0, #[], Nat.le_refl _, by omega, by omega, rfl, HSTART.out, kp_one⟩
    case round =>
      obtain ⟨k, q, os, hk1, hk, hg, rfl, rfl, HALL⟩ := hrel
      by_cases hlt : k < ys.length
      · have hltz : (k : Int) < (ys.length : Int) := by omega
        have hwp : IntKind.i64.wrap ((k : Int) - 1) = ((k - 1 : Nat) : Int) := by rw [IntKind.wrap_i64]; omega
        have hkz : ((k - 1 : Nat) : Int) < (ys.length : Int) := by omega
        have hkc : ¬ cv = k := by omega
        generalize hW : cW r ys.length N w gv q (List.range ys.length).toArray os = W
        have hcls : ∀ n' os', Go.Sort.grow (W.drewN n') os' = cW r ys.length N w gv (q + n') (List.range ys.length).toArray (os ++ os') := fun n' os' => by rw [← hW]; exact cW_grow _ _ _ _ _ _ _ _ _ _
        have c0 : ∀ n' os', (Go.Sort.grow (W.drewN n') os').cell? ⟨gv, k * 2, none⟩ = some (.int .i64 (N : Nat)) := fun n' os' => by rw [hcls]; exact (HCC.out (by simp) hlt).1.1
        have c1 : ∀ n' os', (Go.Sort.grow (W.drewN n') os').cell? ⟨gv, k * 2 + 1, none⟩ = some (.slice (some ⟨r (cl ys.length k), 0, none⟩) N N) := fun n' os' => by rw [hcls, (HCC.out (by simp) hlt).1.2, range_at hlt]
        have d0 : ∀ n' os', (Go.Sort.grow (W.drewN n') os').cell? ⟨gv, (k - 1) * 2, none⟩ = some (.int .i64 (N : Nat)) := fun n' os' => by rw [hcls]; exact (HCC.out (by simp) (show k - 1 < ys.length by omega)).1.1
        have d1 : ∀ n' os', (Go.Sort.grow (W.drewN n') os').cell? ⟨gv, (k - 1) * 2 + 1, none⟩ = some (.slice (some ⟨r (cl ys.length (k - 1)), 0, none⟩) N N) := fun n' os' => by rw [hcls, (HCC.out (by simp) (show k - 1 < ys.length by omega)).1.2, range_at (by omega)]
        have hcg : ∀ n' os', Calls Tryd.prog 53 #[.agg #[.int .i64 (N : Nat), .slice (some ⟨r (cl ys.length k), 0, none⟩) N N], .agg #[.int .i64 (N : Nat), .slice (some ⟨r (cl ys.length (k - 1)), 0, none⟩) N N]] (Go.Sort.grow (W.drewN n') os') fun e w' =>
            e = .returned (.bool (ys.getD k [] == ys.getD (k - 1) [])) ∧ ∃ q' os'', w' = Go.Sort.grow ((Go.Sort.grow (W.drewN n') os').drewN q') os'' := fun n' os' => by
          have h := HCA.out (q + n') (List.range ys.length).toArray (os ++ os') k (k - 1)
          rw [← hcls n' os', cl_in hlt, cl_in (show k - 1 < ys.length by omega)] at h
          rw [cl_in hlt, cl_in (show k - 1 < ys.length by omega)]
          exact h
        have CLS : Hid (∀ n' os', Go.Sort.grow (W.drewN n') os' = cW r ys.length N w gv (q + n') (List.range ys.length).toArray (os ++ os')) := hcls
        clear hcls hW
        generalize r (cl ys.length k) = rk at c1 hcg
        generalize r (cl ys.length (k - 1)) = rp at d1 hcg
        have HEQ : Hid ((ys.getD k [] == ys.getD (k - 1) []) = true ↔ ys.getD k [] = ys.getD (k - 1) []) := beq_iff_eq
        generalize (ys.getD k [] == ys.getD (k - 1) []) = same at hcg HEQ
        have eg : ∀ args w, (callFunc 53 args).run Tryd.prog w = .ok (.enter 53 args) w := enters_of Tryd.func53 (by kernel_rfl) rfl
        cases same with
        | true =>
          go_wp2_with fail
          go_quiet_grown (first | (go_at_fn 53; refine Calls.grown_of (hcg _ _)))
          clear c0 c1 d0 d1 hcg hkz hwp
          go_wp2_with fail
          go_loopg [5, 7] ys.length (fun g s5 s7 wr => ∃ (kk k2 q2 : Nat) (dk : Array Nat) (os2 : Array Obj), s5 = .int .i64 kk ∧ s7 = .int .i64 k2 ∧ 1 ≤ k2 ∧ k + k2 ≤ ys.length ∧ ys.length - (k + k2) ≤ g ∧ wr = cW r ys.length N w gv q2 dk os2 ∧ CI (fun j => ys.getD j []) ys.length (k + k2) kk dk)
          case atStart => exact ⟨k, 1, _, _, _, rfl, rfl, Nat.le_refl _, by omega, by omega, CLS.out nq osq, CI.start hlt HALL.out (kp_neg (by omega) (HEQ.out.1 (by trivial)))⟩
          case round =>
            obtain ⟨kk, k2, q2, dk, os2, rfl, rfl, g1, g2, hg2, rfl, hI⟩ := hrel
            have hkk := hI.lt
            have hds := hI.size
            have HI : Hid (CI (fun j => ys.getD j []) ys.length (k + k2) kk dk) := hI
            by_cases hl2 : k + k2 < ys.length
            · have hk2z : (k2 : Int) < ((ys.length - k : Nat) : Int) := by omega
              have hwp2 : IntKind.i64.wrap ((k2 : Int) - 1) = ((k2 - 1 : Nat) : Int) := by rw [IntKind.wrap_i64]; omega
              have hk2z' : ((k2 - 1 : Nat) : Int) < ((ys.length - k : Nat) : Int) := by omega
              have hkkz : (kk : Int) < (ys.length : Int) := by omega
              generalize hW : cW r ys.length N w gv q2 dk os2 = W2
              have hcls : ∀ n' os', Go.Sort.grow (W2.drewN n') os' = cW r ys.length N w gv (q2 + n') dk (os2 ++ os') := fun n' os' => by rw [← hW]; exact cW_grow _ _ _ _ _ _ _ _ _ _
              have c0 : ∀ n' os', (Go.Sort.grow (W2.drewN n') os').cell? ⟨gv, k * 2 + k2 * 2, none⟩ = some (.int .i64 (N : Nat)) := fun n' os' => by rw [hcls, show k * 2 + k2 * 2 = (k + k2) * 2 by omega]; exact (HCC.out hds hl2).1.1
              have c1 : ∀ n' os', (Go.Sort.grow (W2.drewN n') os').cell? ⟨gv, k * 2 + k2 * 2 + 1, none⟩ = some (.slice (some ⟨r (cl ys.length (k + k2)), 0, none⟩) N N) := fun n' os' => by rw [hcls, show k * 2 + k2 * 2 = (k + k2) * 2 by omega, (HCC.out hds hl2).1.2, hI.high (k + k2) (by omega) hl2]
              have d0 : ∀ n' os', (Go.Sort.grow (W2.drewN n') os').cell? ⟨gv, k * 2 + (k2 - 1) * 2, none⟩ = some (.int .i64 (N : Nat)) := fun n' os' => by rw [hcls, show k * 2 + (k2 - 1) * 2 = (k + k2 - 1) * 2 by omega]; exact (HCC.out hds (show k + k2 - 1 < ys.length by omega)).1.1
              have d1 : ∀ n' os', (Go.Sort.grow (W2.drewN n') os').cell? ⟨gv, k * 2 + (k2 - 1) * 2 + 1, none⟩ = some (.slice (some ⟨r (cl ys.length (k + k2 - 1)), 0, none⟩) N N) := fun n' os' => by rw [hcls, show k * 2 + (k2 - 1) * 2 = (k + k2 - 1) * 2 by omega, (HCC.out hds (show k + k2 - 1 < ys.length by omega)).1.2, hI.high (k + k2 - 1) (by omega) (by omega)]
              obtain ⟨old, e1⟩ : ∃ old, ∀ n' os', (Go.Sort.grow (W2.drewN n') os').cell? ⟨gv, kk * 2 + 1, none⟩ = some old := ⟨_, fun n' os' => by rw [hcls]; exact (HCC.out hds (show kk < ys.length by omega)).1.2⟩
              have e0 : ∀ n' os', (Go.Sort.grow (W2.drewN n') os').cell? ⟨gv, kk * 2, none⟩ = some (.int .i64 (N : Nat)) := fun n' os' => by rw [hcls]; exact (HCC.out hds (show kk < ys.length by omega)).1.1
              have f0 : ∀ n' os', (Go.Sort.grow (W2.drewN n') os').frozen? ⟨gv, kk * 2, none⟩ = false := fun n' os' => by rw [hcls]; exact (HCC.out hds (show kk < ys.length by omega)).2.1
              have f1 : ∀ n' os', (Go.Sort.grow (W2.drewN n') os').frozen? ⟨gv, kk * 2 + 1, none⟩ = false := fun n' os' => by rw [hcls]; exact (HCC.out hds (show kk < ys.length by omega)).2.2
              have hcg : ∀ n' os', Calls Tryd.prog 53 #[.agg #[.int .i64 (N : Nat), .slice (some ⟨r (cl ys.length (k + k2)), 0, none⟩) N N], .agg #[.int .i64 (N : Nat), .slice (some ⟨r (cl ys.length (k + k2 - 1)), 0, none⟩) N N]] (Go.Sort.grow (W2.drewN n') os') fun e w' =>
                  e = .returned (.bool (ys.getD (k + k2) [] == ys.getD (k + k2 - 1) [])) ∧ ∃ q' os'', w' = Go.Sort.grow ((Go.Sort.grow (W2.drewN n') os').drewN q') os'' := fun n' os' => by
                have h := HCA.out (q2 + n') dk (os2 ++ os') (k + k2) (k + k2 - 1)
                rw [← hcls n' os', cl_in hl2, cl_in (show k + k2 - 1 < ys.length by omega)] at h
                rw [cl_in hl2, cl_in (show k + k2 - 1 < ys.length by omega)]
                exact h
              have CLS2 : Hid (∀ n' os', Go.Sort.grow (W2.drewN n') os' = cW r ys.length N w gv (q2 + n') dk (os2 ++ os')) := hcls
              clear hcls hW
              have HRK : ∃ x, Hid (x = r (cl ys.length (k + k2))) := ⟨_, rfl⟩
              obtain ⟨rk2, HRK⟩ := HRK
              rw [← HRK.out] at c1 hcg
              generalize r (cl ys.length (k + k2 - 1)) = rp2 at d1 hcg
              have HEQ2 : Hid ((ys.getD (k + k2) [] == ys.getD (k + k2 - 1) []) = true ↔ ys.getD (k + k2) [] = ys.getD (k + k2 - 1) []) := beq_iff_eq
              generalize (ys.getD (k + k2) [] == ys.getD (k + k2 - 1) []) = same2 at hcg HEQ2
              clear hI CLS
              cases same2 with
              | true =>
                go_wp2_with fail
                go_quiet_grown (first | (go_at_fn 53; refine Calls.grown_of (hcg _ _)))
                clear c0 c1 d0 d1 e0 e1 f0 f1 hcg
                go_wp2_with fail
                go_roundg (ys.length - (k + (k2 + 1)))
                case measure => omega
                case rel => exact ⟨kk, k2 + 1, _, dk, _, rfl, by go_num, by omega, by omega, Nat.le_refl _, CLS2.out _ _, HI.out.skip (kp_neg (by omega) (HEQ2.out.1 (by trivial)))⟩
              | false =>
                go_wp2_with fail
                go_quiet_grown (first | (go_at_fn 53; refine Calls.grown_of (hcg _ _)))
                clear d0 d1 hcg
                go_wp2_with fail
                go_roundg (ys.length - (k + (k2 + 1)))
                case measure => omega
                case rel =>
                  refine ⟨kk + 1, k2 + 1, q2 + nq, dk.setIfInBounds kk (k + k2), os2 ++ osq, by go_num, by go_num, by omega, by omega, Nat.le_refl _, ?_, HI.out.keep hl2 (kp_pos fun e => by have := HEQ2.out.2 e; cases this)⟩
                  rw [CLS2.out, HRK.out]
                  exact cW_store r ys.length N w gv _ dk _ kk (k + k2) hgv (by omega)
            · have hend : k + k2 = ys.length := by omega
              have hnl : ¬ (k2 : Int) < ((ys.length - k : Nat) : Int) := by omega
              have hkcv : ¬ cv = kk := by omega
              have hcl : ∀ ty, (Builtin.clear_ #[45] ty #[.slice (some ⟨gv, kk * 2, none⟩) (ys.length - kk) (cv - kk)]).run Tryd.prog (cW r ys.length N w gv q2 dk os2) = .ok (.tuple #[]) ((cW r ys.length N w gv q2 dk os2).setCells gv (kk * 2) (Builtin.zeroCells #[.int .i64 0, .slice none 0 0] (ys.length - kk)).toList) := fun ty =>
                run_clear_two _ 45 24 ty _ _ _ Tryd.underlying45 z24 rfl rfl rfl gv (kk * 2) _ _ (by omega) (fun j hj => by
                  have h1 := HCC.out (q := q2) (dk := dk) (os := os2) hds (i := kk + j / 2) (by omega)
                  rcases Nat.mod_two_eq_zero_or_one j with e | e
                  · rw [show kk * 2 + j = (kk + j / 2) * 2 by omega, h1.1.1]; rfl
                  · rw [show kk * 2 + j = (kk + j / 2) * 2 + 1 by omega, h1.1.2]; rfl) (fun j hj => by
                  have h1 := HCC.out (q := q2) (dk := dk) (os := os2) hds (i := kk + j / 2) (by omega)
                  rcases Nat.mod_two_eq_zero_or_one j with e | e
                  · rw [show kk * 2 + j = (kk + j / 2) * 2 by omega]; exact h1.2.1
                  · rw [show kk * 2 + j = (kk + j / 2) * 2 + 1 by omega]; exact h1.2.2)
              rw [hend] at HI
              have HE := (show Hid _ from HEND.out (q := q2) (os := os2) HI.out)
              clear hI
              generalize cW r ys.length N w gv q2 dk os2 = W2 at hcl HE
              go_wp2_with fail
              go_ret
              rw [HE.out.1]
              rw [HE.out.1] at HE
              exact ⟨rfl, HE.out.2.1, HE.out.2.2⟩
        | false =>
          go_wp2_with fail
          go_quiet_grown (first | (go_at_fn 53; refine Calls.grown_of (hcg _ _)))
          go_wp2_with fail
          go_roundg (ys.length - (k + 1))
          case measure => omega
          case rel =>
            refine ⟨k + 1, q + nq, os ++ osq, by omega, by omega, Nat.le_refl _, by go_num, CLS.out nq osq, fun j hj => ?_⟩
            by_cases e : j = k
            · subst e
              exact kp_pos fun e => by have := HEQ.out.2 e; cases this
            · exact HALL.out j (by omega)
      · have hnlt : ¬ (k : Int) < (ys.length : Int) := by omega
        obtain rfl : k = ys.length := by omega
        have HC : Hid (compL ys = ys) := compL_all HALL.out
        have HS := (show Hid _ from HSELF.out q os)
        have HG := (show Hid _ from HGR.out q os)
        generalize cW r ys.length N w gv q (List.range ys.length).toArray os = W at HS HG
        go_wp2_with fail
        go_ret
        rw [HC.out]
        exact ⟨rfl, HS.out, HG.out⟩
end Go.Proofs.YtfbdgdphpdhcpaaDoor
