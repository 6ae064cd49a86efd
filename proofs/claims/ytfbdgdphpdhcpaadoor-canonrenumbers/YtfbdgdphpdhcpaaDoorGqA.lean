/-
  What slices.CompactFunc does to forms of one length. Conditions: as in GnI.
  grown, to its end. Conditions: the forms handed in are orders of one length; so are those that come, a thousand at most.
  All's pieces, alone. Condition: five points at most.
-/
import Derived.Test.YtfbdgdphpdhcpaaDoorGnN
namespace Go.Proofs.YtfbdgdphpdhcpaaDoor
open Go Go.Conc Go.RowKit Sm
set_option maxRecDepth 100000

theorem compL_all {ys : List (List Nat)} (h : ∀ j, j < ys.length → kp (fun j => ys.getD j []) j = true) : compL ys = ys := by
  unfold compL
  rw [kept_all _ h]
  refine List.ext_getElem (by simp) fun i h1 h2 => ?_
  simp [List.getElem?_eq_getElem h2]
theorem put_at {F cur : Array Value} {t : Nat} (h1 : t < F.size) (h3 : t < cur.size) : (Go.Sort.putCells id 0 F cur)[t]? = F[t]? := by
  simp [Go.Sort.putCells, h1, h3]
theorem z24 : ∀ w, (zeroValue 24).run Tryd.prog w = .ok (.agg #[.int .i64 0, .slice none 0 0]) w := Tryd.zeroValue24
/-- What is left when the second loop is through. -/
theorem comp_end {w : World} {B N gv cv kk q : Nat} {ys : List (List Nat)} {r : Nat → Nat} {cur : Array Value} {dk : Array Nat} {os : Array Obj} (h : GApart w B N gv cv ys r cur) (hI : CI (fun j => ys.getD j []) ys.length ys.length kk dk) :
    (compL ys).length = kk ∧ GRow ((cW r ys.length N w gv q dk os).setCells gv (kk * 2) (Builtin.zeroCells #[.int .i64 0, .slice none 0 0] (ys.length - kk)).toList) B (.slice (some ⟨gv, 0, none⟩) (compL ys).length cv) (compL ys) ∧
      w.grownBy ((cW r ys.length N w gv q dk os).setCells gv (kk * 2) (Builtin.zeroCells #[.int .i64 0, .slice none 0 0] (ys.length - kk)).toList) (some gv) := by
  have hlen : (compL ys).length = kk := by unfold compL; rw [List.length_map]; exact hI.len
  have hlt := hI.lt
  have hzl : (Builtin.zeroCells #[Value.int .i64 0, .slice none 0 0] (ys.length - kk)).toList.length = (ys.length - kk) * 2 := by simp [Builtin.zeroCells]
  rw [cW_set r ys.length N w gv q dk os _ _ (Array.getElem?_eq_some_iff.1 h.blk).1 (by rw [hzl, hI.size]; omega)]
  generalize (Builtin.zeroCells #[Value.int .i64 0, .slice none 0 0] (ys.length - kk)).toList = zs at hzl ⊢
  have hgr := pr_grown (Go.Sort.setMany (Go.Sort.flatK (encP r ys.length N) 2 dk) (kk * 2) zs) w gv q os
  have hbl := pr_block (Go.Sort.setMany (Go.Sort.flatK (encP r ys.length N) 2 dk) (kk * 2) zs) w gv q os h.blk
  have hcs := h.size
  have hle := h.le
  refine ⟨hlen, h.made hgr (p := fun j => dk[j]!) hbl (by simp [Go.Sort.putCells, hcs]) (by omega) fun j y hy => ?_, hgr⟩
  have hj : j < kk := by rw [← hlen]; exact (List.getElem?_eq_some_iff.1 hy).1
  have hlow := hI.low j hj
  have hpn : dk[j]! < ys.length := kept_lt (List.mem_of_getElem? hlow)
  have hfl := flat_at r ys.length N dk j (by rw [hI.size]; omega)
  rw [cl_in hpn] at hfl
  have hF : ∀ t, t < kk * 2 → (Go.Sort.putCells id 0 (Go.Sort.setMany (Go.Sort.flatK (encP r ys.length N) 2 dk) (kk * 2) zs) cur)[t]? = (Go.Sort.flatK (encP r ys.length N) 2 dk)[t]? := fun t ht => by
    have h1 : t < (Go.Sort.flatK (encP r ys.length N) 2 dk).size := by rw [Go.Sort.size_flatK, hI.size]; omega
    have h2 := Go.Sort.get_setMany zs (kk * 2) (Go.Sort.flatK (encP r ys.length N) 2 dk) t h1
    rw [if_neg (by omega)] at h2
    have h3 : t < cur.size := by omega
    have h4 : t < dk.size * 2 := by rw [hI.size]; omega
    have h5 : t < (Go.Sort.setMany (Go.Sort.flatK (encP r ys.length N) 2 dk) (kk * 2) zs).size := by rw [Go.Sort.size_setMany]; exact h1
    rw [put_at h5 h3, Array.getElem?_eq_getElem h5, Array.getElem?_eq_getElem h1]
    rw [getElem!_pos (Go.Sort.setMany (Go.Sort.flatK (encP r ys.length N) 2 dk) (kk * 2) zs) t h5, getElem!_pos (Go.Sort.flatK (encP r ys.length N) 2 dk) t h1] at h2
    rw [h2]
  refine ⟨hpn, ?_, by rw [hF _ (by omega)]; exact hfl.1, by rw [hF _ (by omega)]; exact hfl.2⟩
  simp only [compL, List.getElem?_map, hlow, Option.map_some, Option.some.injEq] at hy
  exact hy.symm
set_option maxHeartbeats 4000000 in
theorem compF_any {B N gv cv : Nat} {ys : List (List Nat)} (w : World) (hN : N ≤ 40) (hl : ∀ y ∈ ys, y.length = N) (h0 : 0 < ys.length) (hn : ys.length ≤ 1000) (h : GRow w B (.slice (some ⟨gv, 0, none⟩) ys.length cv) ys) :
    Calls Tryd.prog 52 #[.slice (some ⟨gv, 0, none⟩) ys.length cv, .func (.func 53) #[] #[]] w fun e w' => e = .returned (.slice (some ⟨gv, 0, none⟩) (compL ys).length cv) ∧ GRow w' B (.slice (some ⟨gv, 0, none⟩) (compL ys).length cv) (compL ys) ∧ w.grownBy w' (some gv) := by
  have mixed : Tryd.prog.follows .mixedOrders = true := by kernel_rfl
  obtain ⟨r, cur, A⟩ := h.apart hl
  have HA : Hid (GApart w B N gv cv ys r cur) := A
  have HR : Hid (GRow w B (.slice (some ⟨gv, 0, none⟩) ys.length cv) ys) := h
  have HSTART : Hid (w = cW r ys.length N w gv 0 (List.range ys.length).toArray #[]) := by
    show w = _
    unfold cW sortWorldK
    rw [Go.Sort.grow_empty]
    exact (Go.Sort.putRowK_self (encP r ys.length N) 2 w gv 0 _ A.holds).symm
  have HSELF : Hid (∀ q os, GRow (cW r ys.length N w gv q (List.range ys.length).toArray os) B (.slice (some ⟨gv, 0, none⟩) ys.length cv) ys) := fun q os => by
    have hsz := A.size
    have hle := A.le
    refine A.made (swk_grown _ w gv 0 q _ os) (p := fun j => j) (swk_block (encP r ys.length N) w gv 0 q (List.range ys.length).toArray os A.blk) (by simp [Go.Sort.putCells, A.size]) A.le fun j y hy => ?_
    have hj := (List.getElem?_eq_some_iff.1 hy).1
    have hfl := flat_at r ys.length N (List.range ys.length).toArray j (by simpa using hj)
    rw [range_at hj, cl_in hj] at hfl
    refine ⟨hj, by rw [List.getD_eq_getElem?_getD, hy]; rfl, ?_, ?_⟩
    · rw [put_at (by simp; omega) (by omega)]; exact hfl.1
    · rw [put_at (by simp; omega) (by omega)]; exact hfl.2
  have HGR : Hid (∀ q os, w.grownBy (cW r ys.length N w gv q (List.range ys.length).toArray os) (some gv)) := fun q os => swk_grown _ w gv 0 q _ os
  have HCA : Hid (∀ q dk os x y, _) := cW_same A hN h0
  have HCC : Hid (∀ {q : Nat} {dk : Array Nat} {os : Array Obj}, dk.size = ys.length → ∀ {i : Nat}, i < ys.length → _) := fun {q dk os} hs {i} hi => cW_cells A (q := q) (dk := dk) (os := os) hs hi
  have hcv : ys.length ≤ cv := A.le
  have hgv : gv < w.heap.size := (Array.getElem?_eq_some_iff.1 A.blk).1
  have HEND : Hid (∀ {q kk : Nat} {dk : Array Nat} {os : Array Obj}, CI (fun j => ys.getD j []) ys.length ys.length kk dk → _) := fun {q kk dk os} hI => comp_end (q := q) (os := os) A hI
  clear h A
  by_cases h2 : ys.length < 2
  · have h2' : (ys.length : Int) < 2 := by omega
    have HC : Hid (compL ys = ys) := compL_all fun j hj => kp_one j (by omega)
    go_enter Tryd.func52, Tryd.ntmps52
    go_wp2_with fail
    go_ret
    rw [HC.out]
    refine ⟨rfl, HR.out, ?_⟩
    have := HGR.out 0 #[]
    rw [← HSTART.out] at this
    exact this
  · have h2' : ¬ (ys.length : Int) < 2 := by omega
    go_enter Tryd.func52, Tryd.ntmps52
    go_wp2_with fail
    go_loopg [5] ys.length (fun g s5 wr => ∃ (k q : Nat) (os : Array Obj), 1 ≤ k ∧ k ≤ ys.length ∧ ys.length - k ≤ g ∧ s5 = .int .i64 k ∧ wr = cW r ys.length N w gv q (List.range ys.length).toArray os ∧ Hid (∀ j, j < k → kp (fun j => ys.getD j []) j = true))
    case atStart => exact ⟨1, 0, #[], Nat.le_refl _, by omega, by omega, rfl, HSTART.out, kp_one⟩
    case round =>
      obtain ⟨k, q, os, hk1, hk, hg, rfl, rfl, HALL⟩ := hrel
      by_cases hlt : k < ys.length
      · have hltz : (k : Int) < (ys.length : Int) := by omega
        have hwp : IntKind.i64.wrap ((k : Int) - 1) = ((k - 1 : Nat) : Int) := by rw [IntKind.wrap_i64]; omega
        have hkz : ((k - 1 : Nat) : Int) < (ys.length : Int) := by omega
        have hkc : ¬ cv = k := by omega
        generalize hW : cW r ys.length N w gv q (List.range ys.length).toArray os = W
        have hcls : ∀ n' os', Go.Sort.grow (W.drewN n') os' = cW r ys.length N w gv (q + n') (List.range ys.length).toArray (os ++ os') := fun n' os' => by rw [← hW]; exact cW_grow _ _ _ _ _ _ _ _ _ _
        have c0 : ∀ n' os', (Go.Sort.grow (W.drewN n') os').cell? ⟨gv, k * 2, none⟩ = some (.int .i64 (N : Nat)) := fun n' os' => by rw [hcls]; exact (HCC.out (by simp) hlt).1.1
        have c1 : ∀ n' os', (Go.Sort.grow (W.drewN n') os').cell? ⟨gv, k * 2 + 1, none⟩ = some (.slice (some ⟨r (cl ys.length k), 0, none⟩) N N) := fun n' os' => by rw [hcls, (HCC.out (by simp) hlt).1.2, range_at hlt]
        have d0 : ∀ n' os', (Go.Sort.grow (W.drewN n') os').cell? ⟨gv, (k - 1) * 2, none⟩ = some (.int .i64 (N : Nat)) := fun n' os' => by rw [hcls]; exact (HCC.out (by simp) (show k - 1 < ys.length by omega)).1.1
        have d1 : ∀ n' os', (Go.Sort.grow (W.drewN n') os').cell? ⟨gv, (k - 1) * 2 + 1, none⟩ = some (.slice (some ⟨r (cl ys.length (k - 1)), 0, none⟩) N N) := fun n' os' => by rw [hcls, (HCC.out (by simp) (show k - 1 < ys.length by omega)).1.2, range_at (by omega)]
        have hcg : ∀ n' os', Calls Tryd.prog 53 #[.agg #[.int .i64 (N : Nat), .slice (some ⟨r (cl ys.length k), 0, none⟩) N N], .agg #[.int .i64 (N : Nat), .slice (some ⟨r (cl ys.length (k - 1)), 0, none⟩) N N]] (Go.Sort.grow (W.drewN n') os') fun e w' =>
            e = .returned (.bool (ys.getD k [] == ys.getD (k - 1) [])) ∧ ∃ q' os'', w' = Go.Sort.grow ((Go.Sort.grow (W.drewN n') os').drewN q') os'' := fun n' os' => by
          have h := HCA.out (q + n') (List.range ys.length).toArray (os ++ os') k (k - 1)
          rw [← hcls n' os', cl_in hlt, cl_in (show k - 1 < ys.length by omega)] at h
          rw [cl_in hlt, cl_in (show k - 1 < ys.length by omega)]
          exact h
        have CLS : Hid (∀ n' os', Go.Sort.grow (W.drewN n') os' = cW r ys.length N w gv (q + n') (List.range ys.length).toArray (os ++ os')) := hcls
        clear hcls hW
        generalize r (cl ys.length k) = rk at c1 hcg
        generalize r (cl ys.length (k - 1)) = rp at d1 hcg
        have HEQ : Hid ((ys.getD k [] == ys.getD (k - 1) []) = true ↔ ys.getD k [] = ys.getD (k - 1) []) := beq_iff_eq
        generalize (ys.getD k [] == ys.getD (k - 1) []) = same at hcg HEQ
        have eg : ∀ args w, (callFunc 53 args).run Tryd.prog w = .ok (.enter 53 args) w := enters_of Tryd.func53 (by kernel_rfl) rfl
        cases same with
        | true =>
          go_wp2_with fail
          go_quiet_grown (first | (go_at_fn 53; refine Calls.grown_of (hcg _ _)))
          clear c0 c1 d0 d1 hcg hkz hwp
          go_wp2_with fail
          go_loopg [5, 7] ys.length (fun g s5 s7 wr => ∃ (kk k2 q2 : Nat) (dk : Array Nat) (os2 : Array Obj), s5 = .int .i64 kk ∧ s7 = .int .i64 k2 ∧ 1 ≤ k2 ∧ k + k2 ≤ ys.length ∧ ys.length - (k + k2) ≤ g ∧ wr = cW r ys.length N w gv q2 dk os2 ∧ CI (fun j => ys.getD j []) ys.length (k + k2) kk dk)
          case atStart => exact ⟨k, 1, _, _, _, rfl, rfl, Nat.le_refl _, by omega, by omega, CLS.out nq osq, CI.start hlt HALL.out (kp_neg (by omega) (HEQ.out.1 (by trivial)))⟩
          case round =>
            obtain ⟨kk, k2, q2, dk, os2, rfl, rfl, g1, g2, hg2, rfl, hI⟩ := hrel
            have hkk := hI.lt
            have hds := hI.size
            have HI : Hid (CI (fun j => ys.getD j []) ys.length (k + k2) kk dk) := hI
            by_cases hl2 : k + k2 < ys.length
            · have hk2z : (k2 : Int) < ((ys.length - k : Nat) : Int) := by omega
              have hwp2 : IntKind.i64.wrap ((k2 : Int) - 1) = ((k2 - 1 : Nat) : Int) := by rw [IntKind.wrap_i64]; omega
              have hk2z' : ((k2 - 1 : Nat) : Int) < ((ys.length - k : Nat) : Int) := by omega
              have hkkz : (kk : Int) < (ys.length : Int) := by omega
              generalize hW : cW r ys.length N w gv q2 dk os2 = W2
              have hcls : ∀ n' os', Go.Sort.grow (W2.drewN n') os' = cW r ys.length N w gv (q2 + n') dk (os2 ++ os') := fun n' os' => by rw [← hW]; exact cW_grow _ _ _ _ _ _ _ _ _ _
              have c0 : ∀ n' os', (Go.Sort.grow (W2.drewN n') os').cell? ⟨gv, k * 2 + k2 * 2, none⟩ = some (.int .i64 (N : Nat)) := fun n' os' => by rw [hcls, show k * 2 + k2 * 2 = (k + k2) * 2 by omega]; exact (HCC.out hds hl2).1.1
              have c1 : ∀ n' os', (Go.Sort.grow (W2.drewN n') os').cell? ⟨gv, k * 2 + k2 * 2 + 1, none⟩ = some (.slice (some ⟨r (cl ys.length (k + k2)), 0, none⟩) N N) := fun n' os' => by rw [hcls, show k * 2 + k2 * 2 = (k + k2) * 2 by omega, (HCC.out hds hl2).1.2, hI.high (k + k2) (by omega) hl2]
              have d0 : ∀ n' os', (Go.Sort.grow (W2.drewN n') os').cell? ⟨gv, k * 2 + (k2 - 1) * 2, none⟩ = some (.int .i64 (N : Nat)) := fun n' os' => by rw [hcls, show k * 2 + (k2 - 1) * 2 = (k + k2 - 1) * 2 by omega]; exact (HCC.out hds (show k + k2 - 1 < ys.length by omega)).1.1
              have d1 : ∀ n' os', (Go.Sort.grow (W2.drewN n') os').cell? ⟨gv, k * 2 + (k2 - 1) * 2 + 1, none⟩ = some (.slice (some ⟨r (cl ys.length (k + k2 - 1)), 0, none⟩) N N) := fun n' os' => by rw [hcls, show k * 2 + (k2 - 1) * 2 = (k + k2 - 1) * 2 by omega, (HCC.out hds (show k + k2 - 1 < ys.length by omega)).1.2, hI.high (k + k2 - 1) (by omega) (by omega)]
              obtain ⟨old, e1⟩ : ∃ old, ∀ n' os', (Go.Sort.grow (W2.drewN n') os').cell? ⟨gv, kk * 2 + 1, none⟩ = some old := ⟨_, fun n' os' => by rw [hcls]; exact (HCC.out hds (show kk < ys.length by omega)).1.2⟩
              have e0 : ∀ n' os', (Go.Sort.grow (W2.drewN n') os').cell? ⟨gv, kk * 2, none⟩ = some (.int .i64 (N : Nat)) := fun n' os' => by rw [hcls]; exact (HCC.out hds (show kk < ys.length by omega)).1.1
              have f0 : ∀ n' os', (Go.Sort.grow (W2.drewN n') os').frozen? ⟨gv, kk * 2, none⟩ = false := fun n' os' => by rw [hcls]; exact (HCC.out hds (show kk < ys.length by omega)).2.1
              have f1 : ∀ n' os', (Go.Sort.grow (W2.drewN n') os').frozen? ⟨gv, kk * 2 + 1, none⟩ = false := fun n' os' => by rw [hcls]; exact (HCC.out hds (show kk < ys.length by omega)).2.2
              have hcg : ∀ n' os', Calls Tryd.prog 53 #[.agg #[.int .i64 (N : Nat), .slice (some ⟨r (cl ys.length (k + k2)), 0, none⟩) N N], .agg #[.int .i64 (N : Nat), .slice (some ⟨r (cl ys.length (k + k2 - 1)), 0, none⟩) N N]] (Go.Sort.grow (W2.drewN n') os') fun e w' =>
                  e = .returned (.bool (ys.getD (k + k2) [] == ys.getD (k + k2 - 1) [])) ∧ ∃ q' os'', w' = Go.Sort.grow ((Go.Sort.grow (W2.drewN n') os').drewN q') os'' := fun n' os' => by
                have h := HCA.out (q2 + n') dk (os2 ++ os') (k + k2) (k + k2 - 1)
                rw [← hcls n' os', cl_in hl2, cl_in (show k + k2 - 1 < ys.length by omega)] at h
                rw [cl_in hl2, cl_in (show k + k2 - 1 < ys.length by omega)]
                exact h
              have CLS2 : Hid (∀ n' os', Go.Sort.grow (W2.drewN n') os' = cW r ys.length N w gv (q2 + n') dk (os2 ++ os')) := hcls
              clear hcls hW
              have HRK : ∃ x, Hid (x = r (cl ys.length (k + k2))) := ⟨_, rfl⟩
              obtain ⟨rk2, HRK⟩ := HRK
              rw [← HRK.out] at c1 hcg
              generalize r (cl ys.length (k + k2 - 1)) = rp2 at d1 hcg
              have HEQ2 : Hid ((ys.getD (k + k2) [] == ys.getD (k + k2 - 1) []) = true ↔ ys.getD (k + k2) [] = ys.getD (k + k2 - 1) []) := beq_iff_eq
              generalize (ys.getD (k + k2) [] == ys.getD (k + k2 - 1) []) = same2 at hcg HEQ2
              clear hI CLS
              cases same2 with
              | true =>
                go_wp2_with fail
                go_quiet_grown (first | (go_at_fn 53; refine Calls.grown_of (hcg _ _)))
                clear c0 c1 d0 d1 e0 e1 f0 f1 hcg
                go_wp2_with fail
                go_roundg (ys.length - (k + (k2 + 1)))
                case measure => omega
                case rel => exact ⟨kk, k2 + 1, _, dk, _, rfl, by go_num, by omega, by omega, Nat.le_refl _, CLS2.out _ _, HI.out.skip (kp_neg (by omega) (HEQ2.out.1 (by trivial)))⟩
              | false =>
                go_wp2_with fail
                go_quiet_grown (first | (go_at_fn 53; refine Calls.grown_of (hcg _ _)))
                clear d0 d1 hcg
                go_wp2_with fail
                go_roundg (ys.length - (k + (k2 + 1)))
                case measure => omega
                case rel =>
                  refine ⟨kk + 1, k2 + 1, q2 + nq, dk.setIfInBounds kk (k + k2), os2 ++ osq, by go_num, by go_num, by omega, by omega, Nat.le_refl _, ?_, HI.out.keep hl2 (kp_pos fun e => by have := HEQ2.out.2 e; cases this)⟩
                  rw [CLS2.out, HRK.out]
                  exact cW_store r ys.length N w gv _ dk _ kk (k + k2) hgv (by omega)
            · have hend : k + k2 = ys.length := by omega
              have hnl : ¬ (k2 : Int) < ((ys.length - k : Nat) : Int) := by omega
              have hkcv : ¬ cv = kk := by omega
              have hcl : ∀ ty, (Builtin.clear_ #[45] ty #[.slice (some ⟨gv, kk * 2, none⟩) (ys.length - kk) (cv - kk)]).run Tryd.prog (cW r ys.length N w gv q2 dk os2) = .ok (.tuple #[]) ((cW r ys.length N w gv q2 dk os2).setCells gv (kk * 2) (Builtin.zeroCells #[.int .i64 0, .slice none 0 0] (ys.length - kk)).toList) := fun ty =>
                run_clear_two _ 45 24 ty _ _ _ Tryd.underlying45 z24 rfl rfl rfl gv (kk * 2) _ _ (by omega) (fun j hj => by
                  have h1 := HCC.out (q := q2) (dk := dk) (os := os2) hds (i := kk + j / 2) (by omega)
                  rcases Nat.mod_two_eq_zero_or_one j with e | e
                  · rw [show kk * 2 + j = (kk + j / 2) * 2 by omega, h1.1.1]; rfl
                  · rw [show kk * 2 + j = (kk + j / 2) * 2 + 1 by omega, h1.1.2]; rfl) (fun j hj => by
                  have h1 := HCC.out (q := q2) (dk := dk) (os := os2) hds (i := kk + j / 2) (by omega)
                  rcases Nat.mod_two_eq_zero_or_one j with e | e
                  · rw [show kk * 2 + j = (kk + j / 2) * 2 by omega]; exact h1.2.1
                  · rw [show kk * 2 + j = (kk + j / 2) * 2 + 1 by omega]; exact h1.2.2)
              rw [hend] at HI
              have HE := (show Hid _ from HEND.out (q := q2) (os := os2) HI.out)
              clear hI
              generalize cW r ys.length N w gv q2 dk os2 = W2 at hcl HE
              go_wp2_with fail
              go_ret
              rw [HE.out.1]
              rw [HE.out.1] at HE
              exact ⟨rfl, HE.out.2.1, HE.out.2.2⟩
        | false =>
          go_wp2_with fail
          go_quiet_grown (first | (go_at_fn 53; refine Calls.grown_of (hcg _ _)))
          go_wp2_with fail
          go_roundg (ys.length - (k + 1))
          case measure => omega
          case rel =>
            refine ⟨k + 1, q + nq, os ++ osq, by omega, by omega, Nat.le_refl _, by go_num, CLS.out nq osq, fun j hj => ?_⟩
            by_cases e : j = k
            · subst e
              exact kp_pos fun e => by have := HEQ.out.2 e; cases this
            · exact HALL.out j (by omega)
      · have hnlt : ¬ (k : Int) < (ys.length : Int) := by omega
        obtain rfl : k = ys.length := by omega
        have HC : Hid (compL ys = ys) := compL_all HALL.out
        have HS := (show Hid _ from HSELF.out q os)
        have HG := (show Hid _ from HGR.out q os)
        generalize cW r ys.length N w gv q (List.range ys.length).toArray os = W at HS HG
        go_wp2_with fail
        go_ret
        rw [HC.out]
        exact ⟨rfl, HS.out, HG.out⟩
end Go.Proofs.YtfbdgdphpdhcpaaDoor
namespace Go.Proofs.YtfbdgdphpdhcpaaDoor
open Go Go.Conc Go.RowKit Sm
set_option maxRecDepth 100000

theorem Srt.tail {N : Nat} {x : List Nat} {xs : List (List Nat)} (h : Srt N (x :: xs)) : Srt N xs := fun j k a b hjk ha hb => h (j + 1) (k + 1) a b (by omega) (by simpa using ha) (by simpa using hb)
theorem Srt.head {N : Nat} {x : List Nat} {xs : List (List Nat)} (h : Srt N (x :: xs)) {y : List Nat} (hy : y ∈ xs) : ¬ cmpF (nth y) (nth x) N 0 < 0 := by
  obtain ⟨k, hk, e⟩ := List.getElem_of_mem hy
  exact h 0 (k + 1) x y (by omega) rfl (by simp [hk, e])
/-- Sorted in one way alone. -/
theorem srt_uniq {N : Nat} : ∀ (a b : List (List Nat)), (∀ y ∈ a, y.length = N) → a.Perm b → Srt N a → Srt N b → a = b
  | [], b, _, hp, _, _ => (List.nil_perm.1 hp).symm
  | x :: xs, [], _, hp, _, _ => absurd (List.perm_nil.1 hp) (by simp)
  | x :: xs, y :: ys, hl, hp, ha, hb => by
    have hxy : x = y := by
      rcases List.mem_cons.1 (hp.mem_iff.1 (List.mem_cons_self : x ∈ x :: xs)) with h | h
      · exact h
      · rcases List.mem_cons.1 (hp.mem_iff.2 (List.mem_cons_self : y ∈ y :: ys)) with h' | h'
        · exact h'.symm
        · have lx : x.length = N := hl x (by simp)
          have ly : y.length = N := hl y (List.mem_cons_of_mem _ h')
          rcases cmp_tri (nth x) (nth y) N with q | q | q
          · exact absurd q (hb.head h)
          · exact absurd q (ha.head h')
          · refine List.ext_getElem (by omega) fun i h1 h2 => ?_
            have := q i (by omega)
            simpa [nth, h1, h2] using this
    subst hxy
    rw [srt_uniq xs ys (fun y hy => hl y (List.mem_cons_of_mem _ hy)) ((List.perm_cons x).1 hp) ha.tail hb.tail]
theorem hn_grown {v w : World} {gv : Nat} {cur : Array Value} {fr : Nat × Nat} (hg : v.grownBy w (some gv)) (hb : v.heap[gv]? = some (.cells cur 24 fr)) : HN 24 v w :=
  ⟨hg.size, fun b c t f ht hv => (hg.block b (Array.getElem?_eq_some_iff.1 hv).1 fun e => by
    cases e
    rw [hb] at hv
    cases hv
    exact ht rfl).trans hv⟩
theorem hl_grown {v w : World} {B gv : Nat} (hg : v.grownBy w (some gv)) (hv : v.heap.size ≥ B) (hB : B ≤ gv) : ∀ b, b < B → w.heap[b]? = v.heap[b]? := fun b hb => hg.block b (by omega) (fun e => by cases e; omega)
theorem GRow.lo {v : World} {B gv n cv : Nat} {ys : List (List Nat)} (h : GRow v B (.slice (some ⟨gv, 0, none⟩) n cv) ys) : B ≤ gv ∧ gv < v.heap.size := by
  obtain ⟨xs, h1, _⟩ := h
  exact h1.lt gv rfl
theorem GRow.blk {v : World} {B gv n cv : Nat} {ys : List (List Nat)} (h : GRow v B (.slice (some ⟨gv, 0, none⟩) n cv) ys) : ∃ cur, v.heap[gv]? = some (.cells cur 24 (0, 0)) := by
  obtain ⟨xs, ⟨_, h2⟩, _⟩ := h
  rcases h2 with ⟨e, _⟩ | ⟨g, cap, cur, e, _, a2, _⟩
  · cases e
  · simp only [Value.slice.injEq, Option.some.injEq, Addr.mk.injEq] at e
    obtain ⟨⟨rfl, _, _⟩, _, rfl⟩ := e
    exact ⟨cur, a2⟩
theorem GRow.slice {v : World} {B : Nat} {z : Value} {ys : List (List Nat)} (h : GRow v B z ys) (h0 : 0 < ys.length) : ∃ gv cv, z = .slice (some ⟨gv, 0, none⟩) ys.length cv := by
  obtain ⟨xs, h1, _⟩ := h
  rcases h1.2 with ⟨_, e⟩ | ⟨g, cap, cur, e, _⟩
  · omega
  · exact ⟨g, cap, e⟩
/-- The sort. -/
theorem gn_r17 (tm : Array Value) (B N gv cv : Nat) (ys : List (List Nat)) (v : World) (hs : tm.size = 49) (h6 : tm[6]? = some (.slice (some ⟨gv, 0, none⟩) ys.length cv)) (hN : N ≤ 40) (hl : ∀ y ∈ ys, y.length = N) (h0 : 0 < ys.length) (hn : ys.length ≤ 1000) (h : GRow v B (.slice (some ⟨gv, 0, none⟩) ys.length cv) ys) :
    (atc [1, 1, 1, 1, 1, 0] (Tryd.f36.body.getD .skip)).wp Tryd.prog (fun e s w => e = .normal ∧ s.defers = [] ∧ s.tmps.size = 49 ∧ s.tmps[6]? = some (.slice (some ⟨gv, 0, none⟩) ys.length cv) ∧ ∃ ys' : List (List Nat), List.Perm ys' ys ∧ Srt N ys' ∧ GRow w B (.slice (some ⟨gv, 0, none⟩) ys'.length cv) ys' ∧ HN 24 v w ∧ ∀ b, b < B → w.heap[b]? = v.heap[b]?) ⟨tm, []⟩ v := by
  have HS : Hid (tm.size = 49) := hs
  have s6 : 6 < tm.size := by omega
  have E6 : Hid (tm[6] = .slice (some ⟨gv, 0, none⟩) ys.length cv) := by
    rw [Array.getElem?_eq_getElem s6] at h6
    exact Option.some.inj h6
  have s45 : 45 < tm.size := by omega
  have s46 : 46 < tm.size := by omega
  have HC := (show Hid _ from sortF_any v hN hl h0 hn h)
  obtain ⟨cur, HCUR⟩ := h.blk
  have HCUR := (show Hid _ from HCUR)
  have HLO := (show Hid _ from h.lo)
  clear hs h hl
  simp only [Tryd.f36, Option.getD_some, atc]
  go_wp2_with (go_at_call 50; rw [E6.out]; refine Calls.mono HC.out ?_; rintro e w' ⟨rfl, ys', q1, q2, q3, q4⟩; replace q4 := And.intro (hn_grown q4 HCUR.out) (hl_grown q4 (by have := HLO.out; omega) HLO.out.1))
  exact ⟨HS.out, E6.out, ys', q1, q2, q3, q4.2⟩
/-- The same once. -/
theorem gn_r18 (tm : Array Value) (B N gv cv : Nat) (ys : List (List Nat)) (v : World) (hs : tm.size = 49) (h6 : tm[6]? = some (.slice (some ⟨gv, 0, none⟩) ys.length cv)) (hN : N ≤ 40) (hl : ∀ y ∈ ys, y.length = N) (h0 : 0 < ys.length) (hn : ys.length ≤ 1000) (h : GRow v B (.slice (some ⟨gv, 0, none⟩) ys.length cv) ys) :
    (atc [1, 1, 1, 1, 1, 1, 0] (Tryd.f36.body.getD .skip)).wp Tryd.prog (fun e s w => e = .normal ∧ s.defers = [] ∧ s.tmps.size = 49 ∧ s.tmps[2]? = some (.slice (some ⟨gv, 0, none⟩) (compL ys).length cv) ∧ GRow w B (.slice (some ⟨gv, 0, none⟩) (compL ys).length cv) (compL ys) ∧ HN 24 v w ∧ ∀ b, b < B → w.heap[b]? = v.heap[b]?) ⟨tm, []⟩ v := by
  have HS : Hid (tm.size = 49) := hs
  have s6 : 6 < tm.size := by omega
  have E6 : Hid (tm[6] = .slice (some ⟨gv, 0, none⟩) ys.length cv) := by
    rw [Array.getElem?_eq_getElem s6] at h6
    exact Option.some.inj h6
  have s2 : 2 < tm.size := by omega
  have s47 : 47 < tm.size := by omega
  have s48 : 48 < tm.size := by omega
  have HC := (show Hid _ from compF_any v hN hl h0 hn h)
  obtain ⟨cur, HCUR⟩ := h.blk
  have HCUR := (show Hid _ from HCUR)
  have HLO := (show Hid _ from h.lo)
  clear hs h hl
  simp only [Tryd.f36, Option.getD_some, atc]
  go_wp2_with (go_at_call 52; rw [E6.out]; refine Calls.mono HC.out ?_; rintro e w' ⟨rfl, q3, q4⟩; replace q4 := And.intro (hn_grown q4 HCUR.out) (hl_grown q4 (by have := HLO.out; omega) HLO.out.1))
  exact ⟨HS.out, q4.2⟩
section
variable {Fin : Value → World → Prop} {K : World} {k : List Item} {rc : List Frame}
theorem flatMap_map {α β γ : Type} (f : α → β) (g : β → List γ) (l : List α) : (l.map f).flatMap g = l.flatMap fun x => g (f x) := by
  induction l with
  | nil => rfl
  | cons x l ih => simp [ih]
/-- grown, from its start to its return. -/
theorem grown_all {C : Code} (hC : IsN C) {bf capf N : Nat} {Ls L0 : List (List Nat)} (hLs : ∀ o ∈ Ls, FOk o) (hm : Ls.length < 1000) (hN : N ≤ 40) (hl : ∀ y ∈ L0, y.length = N) (h0 : 0 < L0.length) (hn : L0.length ≤ 1000) (hp : L0.Perm (Ls.flatMap outsL)) (hs0 : Srt N L0)
    {r : Nat → Nat → Prop} {v : World} {tm tm' : Array Value} (hx : XR (Rg Tryd.prog afs cgs r) tm tm') (hg : ∀ g ∈ cgs, r g g) (hs : tm.size = 49) (t0 : tm[0]? = some (.slice (some ⟨bf, 0, none⟩) Ls.length capf)) (hL : LObj v bf Ls) (hT : Tab v) (hlow : Tryd.prog.globals.size ≤ v.heap.size) (hp0 : PureB v 0) (hp1 : PureB v 1)
    (hk : ∀ r' v' tm1 tm1' B gv cv, (∀ b b', r b b' → r' b b') → HB v v' → (∀ g ∈ cgs, r' g g) → XR (Rg Tryd.prog afs cgs r') tm1 tm1' → tm1.size = 49 → tm1[2]? = some (.slice (some ⟨gv, 0, none⟩) (compL L0).length cv) → GRow v' B (.slice (some ⟨gv, 0, none⟩) (compL L0).length cv) (compL L0) → Tab v' → Tryd.prog.globals.size ≤ v'.heap.size → PureB v' 0 → PureB v' 1 →
      Mc Fin K r' v' (fun _ => none) none (G (fF GN tm1' (.code .ret :: k) [] .normal) rc)) :
    Mc Fin K r v (fun _ => none) none (G (fF GN tm' (.code C :: k) [] .normal) rc) := by
  rw [gn_shape hC]
  refine mmv (mv_seq _ _) ?_
  -- nothing yet
  refine mpiece gn_in (gn_ok hC (by simp)) hg hx (Q := fun s w => HB v w ∧ s.tmps = tm.setIfInBounds 2 (.slice none 0 0)) (fun τ => ?_) fun r1 v1 tm1 tm1' hr1 hx1 hq => ?_
  · rw [hC]; exact gn_r0 tm (tap τ v)
  obtain ⟨hb1, e1⟩ := hq
  have e1 : tm1 = _ := e1
  have s1 : tm1.size = 49 := by rw [e1]; simp [hs]
  have a0 : tm1[0]? = some (.slice (some ⟨bf, 0, none⟩) Ls.length capf) := by rw [e1, set_ne (by decide)]; exact t0
  refine mmv (mv_seq _ _) ?_
  -- the row of channels
  refine mpiece gn_in (gn_ok hC (by simp)) (fun g h => hr1 _ _ (hg g h)) hx1 (Q := fun s w => HB v1 w ∧ s.tmps.size = 49 ∧ s.tmps[3]? = some (.slice (some ⟨v1.heap.size, 0, none⟩) Ls.length Ls.length) ∧ (∀ i, i ≠ 3 → (i < 10 ∨ 12 < i) → s.tmps[i]? = tm1[i]?) ∧ ChR w v1.heap.size [] Ls.length) (fun τ => ?_) fun r2 v2 tm2 tm2' hr2 hx2 hq => ?_
  · rw [hC]; exact gn_r1 tm1 _ Ls.length capf (tap τ v1) s1 a0 (by omega)
  obtain ⟨hb2, s2, b3, e2, hch⟩ := hq
  have b0 := (e2 0 (by decide) (by decide)).trans a0
  have b3 : tm2[3]? = _ := b3
  have hbc : v.heap.size ≤ v1.heap.size := hb1.1
  generalize v1.heap.size = bc at b3 hch hbc
  refine mmv (mv_seq _ _) ?_
  refine mmv (mv_seq _ _) ?_
  refine mpiece gn_in (gn_ok hC (by simp)) (fun g h => hr2 _ _ (hr1 _ _ (hg g h))) hx2 (Q := fun s w => HB v2 w ∧ s.tmps = ((tm2.setIfInBounds 13 (.slice (some ⟨bf, 0, none⟩) Ls.length capf)).setIfInBounds 14 (.int .i64 (Ls.length : Nat))).setIfInBounds 15 (.int .i64 0)) (fun τ => ?_) fun r3 v3 tm3 tm3' hr3 hx3 hq => ?_
  · rw [hC]; exact gn_r2 tm2 _ Ls.length capf (tap τ v2) s2 b0
  obtain ⟨hb3, e3⟩ := hq
  have e3 : tm3 = _ := e3
  have s2 : tm2.size = 49 := s2
  have hb : HB v v3 := (hb1.trans hb2).trans hb3
  refine mmv (mv_block _ _) ?_
  refine mmv (mv_loop _) ?_
  refine n_loop1 (r0 := r) (v0 := v) hC (capf := capf) (bf := bf) (bc := bc) hLs hm (fun r4 v4 tm4 tm4' ps h4 => ?_) Ls.length 0 (by omega) r3 v3 tm3 tm3' [] ⟨fun b b' q => hr3 _ _ (hr2 _ _ (hr1 _ _ q)), hb, hbc, hx3, fun g h => hr3 _ _ (hr2 _ _ (hr1 _ _ (hg g h))), by rw [e3]; simp [s2], by rw [e3, set_ne (by decide), set_ne (by decide), set_ne (by decide)]; exact b3, by rw [e3, set_ne (by decide), set_ne (by decide), set_at (by rw [s2]; decide)], by rw [e3, set_ne (by decide), set_at (by simp [s2])], by rw [e3, set_at (by simp [s2])]; rfl, hL.hn (hb.hn 70), (hb3.2 _ (Array.getElem?_eq_some_iff.1 hch).1).trans hch, rfl, by simp, by simp, hT, Nat.le_trans hlow hb.1, hp0, hp1⟩
  -- what comes
  refine mmv (mv_seq _ _) ?_
  refine mpiece gn_in (gn_ok hC (by simp)) h4.rg h4.xr (Q := fun s w => HB v4 w ∧ s.tmps = tm4.setIfInBounds 6 (.slice none 0 0)) (fun τ => ?_) fun r5 v5 tm5 tm5' hr5 hx5 hq => ?_
  · rw [hC]; exact gn_r8 tm4 (tap τ v4)
  obtain ⟨hb5, e5⟩ := hq
  have e5 : tm5 = _ := e5
  have h5 := h4.mv hr5 hb5 hx5 (by rw [e5]; simp [h4.sz]) fun j hj => by rw [e5]; exact set_ne (by omega) _
  have c6 : tm5[6]? = some (.slice none 0 0) := by rw [e5, set_at (by rw [h4.sz]; decide)]
  refine mmv (mv_seq _ _) ?_
  refine mmv (mv_seq _ _) ?_
  refine mpiece gn_in (gn_ok hC (by simp)) h5.rg h5.xr (Q := fun s w => HB v5 w ∧ s.tmps = ((tm5.setIfInBounds 30 (.slice (some ⟨bc, 0, none⟩) Ls.length Ls.length)).setIfInBounds 31 (.int .i64 (Ls.length : Nat))).setIfInBounds 32 (.int .i64 0)) (fun τ => ?_) fun r6 v6 tm6 tm6' hr6 hx6 hq => ?_
  · rw [hC]; exact gn_r9 tm5 _ Ls.length Ls.length (tap τ v5) h5.sz h5.t3
  obtain ⟨hb6, e6⟩ := hq
  have e6 : tm6 = _ := e6
  have h6 := h5.mv hr6 hb6 hx6 (by rw [e6]; simp [h5.sz]) fun j hj => by rw [e6, set_ne (by omega), set_ne (by omega), set_ne (by omega)]
  refine mmv (mv_block _ _) ?_
  refine mmv (mv_loop _) ?_
  have hfl : ps.flatMap Prod.snd = Ls.flatMap outsL := by
    have h := congrArg (fun l => l.flatMap id) h6.outs
    simp only [List.take_length, flatMap_map, id] at h
    exact h
  have hcl : (ps.map Prod.fst).length = Ls.length := by simpa using h6.len
  refine n_loop2 (r0 := r) (v0 := v) hC (m := Ls.length) (bc := bc) (B := v6.heap.size) (cs := ps.map Prod.fst) hm ps 0 [] r6 v6 tm6 tm6' ⟨h6.le, h6.hb, h6.hb.1, hx6, h6.rg, h6.sz, by rw [e6, set_ne (by decide), set_ne (by decide), set_at (by rw [h5.sz]; decide)], by rw [e6, set_ne (by decide), set_at (by simp [h5.sz])], by rw [e6, set_at (by simp [h5.sz])]; rfl, ⟨_, by rw [e6, set_ne (by decide), set_ne (by decide), set_ne (by decide)]; exact c6, [], World.ownsRow_nil _ _ _ _, fun k y hk => by simp at hk⟩, Nat.le_refl _, h6.ch, hcl, h6.tab0, h6.low, h6.q0, h6.q1⟩ (Nat.zero_le _) (by simp) h6.nd (by rw [hfl, ← hp.length_eq]; simpa using hn) fun r7 v7 tm7 tm7' h7 => ?_
  rw [hfl, List.nil_append] at h7
  obtain ⟨z, t6, hrow⟩ := h7.row
  generalize hY : Ls.flatMap outsL = ys at *
  have hyl : ∀ y ∈ ys, y.length = N := fun y hy => hl y (hp.mem_iff.2 hy)
  have hy0 : 0 < ys.length := by rw [← hp.length_eq]; exact h0
  have hyn : ys.length ≤ 1000 := by rw [← hp.length_eq]; exact hn
  obtain ⟨gv, cv, rfl⟩ := hrow.slice hy0
  refine mmv (mv_seq _ _) ?_
  refine mpiece gn_in (gn_ok hC (by simp)) h7.rg h7.xr (Q := fun s w => s.tmps.size = 49 ∧ s.tmps[6]? = some (.slice (some ⟨gv, 0, none⟩) ys.length cv) ∧ ∃ ys' : List (List Nat), List.Perm ys' ys ∧ Srt N ys' ∧ GRow w v6.heap.size (.slice (some ⟨gv, 0, none⟩) ys'.length cv) ys' ∧ HN 24 v7 w ∧ ∀ b, b < v6.heap.size → w.heap[b]? = v7.heap[b]?) (fun τ => ?_) fun r8 v8 tm8 tm8' hr8 hx8 hq => ?_
  · rw [hC]; exact gn_r17 tm7 _ N gv cv ys (tap τ v7) h7.sz t6 hN hyl hy0 hyn hrow
  obtain ⟨s8, d6, ys', q1, q2, q3, q4, l8⟩ := hq
  have hE : ys' = L0 := srt_uniq ys' L0 (fun y hy => hyl y (q1.mem_iff.1 hy)) (q1.trans hp.symm) q2 hs0
  subst hE
  have hn8 := q4
  rw [← q1.length_eq] at d6
  refine mmv (mv_seq _ _) ?_
  refine mpiece gn_in (gn_ok hC (by simp)) (fun g h => hr8 _ _ (h7.rg g h)) hx8 (Q := fun s w => s.tmps.size = 49 ∧ s.tmps[2]? = some (.slice (some ⟨gv, 0, none⟩) (compL ys').length cv) ∧ GRow w v6.heap.size (.slice (some ⟨gv, 0, none⟩) (compL ys').length cv) (compL ys') ∧ HN 24 v8 w ∧ ∀ b, b < v6.heap.size → w.heap[b]? = v8.heap[b]?) (fun τ => ?_) fun r9 v9 tm9 tm9' hr9 hx9 hq => ?_
  · rw [hC]; exact gn_r18 tm8 _ N gv cv ys' (tap τ v8) s8 d6 hN hl h0 hn q3
  obtain ⟨s9, d2, q5, q6, l9⟩ := hq
  have hn9 := q6
  have hHB : HB v v9 := ⟨Nat.le_trans h7.hb.1 (Nat.le_trans hn8.1 hn9.1), fun b hlt => ((l9 b (Nat.lt_of_lt_of_le hlt h7.lo)).trans (l8 b (Nat.lt_of_lt_of_le hlt h7.lo))).trans (h7.hb.2 b hlt)⟩
  exact hk r9 v9 tm9 tm9' _ gv cv (fun b b' q => hr9 _ _ (hr8 _ _ (h7.le b b' q))) hHB (fun g h => hr9 _ _ (hr8 _ _ (h7.rg g h))) hx9 s9 d2 q5 (hHB.tab hT) (Nat.le_trans h7.low (Nat.le_trans hn8.1 hn9.1)) (hHB.pure hp0) (hHB.pure hp1)
end
end Go.Proofs.YtfbdgdphpdhcpaaDoor
namespace Go.Proofs.YtfbdgdphpdhcpaaDoor
open Go Go.Conc Go.RowKit Sm
set_option maxRecDepth 100000

abbrev GA : FuncId := 22
/-- What a condition leads to. -/
def thenT : Code → Code
  | .seq _ (.cond _ a _) => a
  | c => c
/-- All's code. -/
def IsA (C : Code) : Prop := C = Tryd.f22.body.getD .skip
theorem ga_shape {C : Code} (hC : IsA C) : C = .seq (atc [0] C) (.seq (.seq (atc [1, 0, 0] C) (.cond (.tmp 10) (thenT (atc [1, 0] C)) .skip)) (.seq (atc [1, 1, 0] C) (.seq (.seq (atc [1, 1, 1, 0, 0] C) (.block 0 (.loop (.seq (atc [1, 1, 1, 0, 1, 2, 2, 0] C) (.seq (.cond (.tmp 15) .skip (.exit 0)) (.seq (.block 1 (atc [1, 1, 1, 0, 1, 2, 2, 1, 1, 0, 2] C)) (atc [1, 1, 1, 0, 1, 2, 2, 1, 1, 1] C))))))) (.seq (atc [1, 1, 1, 1, 0] C) .ret)))) := by
  rw [hC]
  kernel_rfl
abbrev gal : List (List Nat) := [[0], [1, 0, 0], [1, 1, 0], [1, 1, 1, 0, 0], [1, 1, 1, 0, 1, 2, 2, 0], [1, 1, 1, 0, 1, 2, 2, 1, 1, 1], [1, 1, 1, 1, 0]]
theorem ga_item : (gal.all fun l => itemB Tryd.prog afs cgs (.code (atc l (Tryd.f22.body.getD .skip)))) = true := by kernel_rfl
theorem ga_ok {C : Code} (hC : IsA C) {l : List Nat} (h : l ∈ gal) : itemB Tryd.prog afs cgs (.code (atc l C)) = true := by
  rw [hC]
  exact List.all_eq_true.1 ga_item l h
theorem ga_in : ∃ f, Tryd.prog.funcs[GA]? = some f := ⟨_, Tryd.func22⟩
abbrev P6 : List Nat := [1, 1, 1, 0, 1, 2, 2, 1, 1, 0, 2]
theorem ga6_shape {C : Code} (hC : IsA C) : atc P6 C = .region 6 (opsOf (atc P6 C)) false := by
  rw [hC]
  kernel_rfl
theorem ga6_ops {C : Code} (hC : IsA C) : ((opsOf (atc P6 C)).map fun o => (o.dst, o.op, o.guard)).toList = [(some 16, .move (.tmp 4), none), (some 17, .call { callee := .value (.func GN), args := #[.tmp 16], argTypes := #[45] }, none), (some 4, .assign (.tmp 17), none)] := by
  rw [hC]
  kernel_rfl
theorem ga_r0 (tm : Array Value) (v : World) : (atc [0] (Tryd.f22.body.getD .skip)).wp Tryd.prog (fun e s w => e = .normal ∧ s.defers = [] ∧ HB v w ∧ ∃ u, s.tmps = (tm.setIfInBounds 2 (.slice none 0 0)).setIfInBounds 3 u) ⟨tm, []⟩ v := by
  simp only [Tryd.f22, Option.getD_some, atc]
  go_wp2_with fail
  exact ⟨HB.refl _, _, rfl⟩
theorem ga_r1 (tm : Array Value) (n : Nat) (v : World) (hs : tm.size = 20) (h0 : tm[0]? = some (.int .i64 (n : Nat))) (hn : n ≤ 5) : (atc [1, 0, 0] (Tryd.f22.body.getD .skip)).wp Tryd.prog (fun e s w => e = .normal ∧ s.defers = [] ∧ HB v w ∧ s.tmps.size = 20 ∧ s.tmps[10]? = some (.bool false) ∧ ∀ j, (j < 5 ∨ 10 < j) → s.tmps[j]? = tm[j]?) ⟨tm, []⟩ v := by
  have HS : Hid (tm.size = 20) := hs
  have s5 : 5 < tm.size := by omega
  have s6 : 6 < tm.size := by omega
  have s7 : 7 < tm.size := by omega
  have s8 : 8 < tm.size := by omega
  have s9 : 9 < tm.size := by omega
  have s10 : 10 < tm.size := by omega
  have n0 : ¬ (n : Int) < 0 := by omega
  have n5 : ¬ (5 : Int) < (n : Int) := by omega
  clear hs
  simp only [Tryd.f22, Option.getD_some, atc]
  go_wp2_with fail
  refine ⟨HB.refl _, HS.out, fun j hj => ?_⟩
  repeat rw [Array.getElem?_setIfInBounds_ne (by omega)]
theorem ga_r3 (tm : Array Value) (v : World) (hs : tm.size = 20) : (atc [1, 1, 0] (Tryd.f22.body.getD .skip)).wp Tryd.prog (fun e s w => e = .normal ∧ s.defers = [] ∧ HB v w ∧ s.tmps.size = 20 ∧ s.tmps[4]? = some (.slice (some ⟨v.heap.size, 0, none⟩) 1 1) ∧ LObj w v.heap.size [[]] ∧ ∀ j, j ≠ 4 → (j < 11 ∨ 12 < j) → s.tmps[j]? = tm[j]?) ⟨tm, []⟩ v := by
  have HS : Hid (tm.size = 20) := hs
  have s4 : 4 < tm.size := by omega
  have s11 : 11 < tm.size := by omega
  have s12 : 12 < tm.size := by omega
  clear hs
  simp only [Tryd.f22, Option.getD_some, atc]
  go_wp2_with fail
  refine ⟨HB.of (B := v.heap.size) ((Below.refl _ v).alloc (Nat.le_refl _) _) (Nat.le_refl _), HS.out, ⟨_, _, heap_new v _, fun k o hk => ?_⟩, fun j h4 hj => ?_⟩
  · cases k with
    | zero => exact ⟨_, _, .inl ⟨by simpa using hk.symm, rfl⟩, rfl, rfl⟩
    | succ k => simp at hk
  · repeat rw [Array.getElem?_setIfInBounds_ne (by omega)]
theorem ga_r4 (tm : Array Value) (n : Nat) (v : World) (hs : tm.size = 20) (h0 : tm[0]? = some (.int .i64 (n : Nat))) : (atc [1, 1, 1, 0, 0] (Tryd.f22.body.getD .skip)).wp Tryd.prog (fun e s w => e = .normal ∧ s.defers = [] ∧ HB v w ∧ s.tmps = (tm.setIfInBounds 13 (.int .i64 (n : Nat))).setIfInBounds 14 (.int .i64 0)) ⟨tm, []⟩ v := by
  have s13 : 13 < tm.size := by omega
  clear hs
  simp only [Tryd.f22, Option.getD_some, atc]
  go_wp2_with fail
  exact HB.refl _
theorem ga_r5 (tm : Array Value) (i l : Nat) (v : World) (h14 : tm[14]? = some (.int .i64 (i : Nat))) (h13 : tm[13]? = some (.int .i64 (l : Nat))) :
    (atc [1, 1, 1, 0, 1, 2, 2, 0] (Tryd.f22.body.getD .skip)).wp Tryd.prog (fun e s w => e = .normal ∧ s.defers = [] ∧ HB v w ∧ s.tmps = tm.setIfInBounds 15 (.bool (decide ((i : Int) < (l : Int))))) ⟨tm, []⟩ v := by
  simp only [Tryd.f22, Option.getD_some, atc]
  go_wp2_with fail
  exact HB.refl _
theorem ga_r7 (tm : Array Value) (i : Nat) (v : World) (hs : tm.size = 20) (h14 : tm[14]? = some (.int .i64 (i : Nat))) (hi : i < 1000) :
    (atc [1, 1, 1, 0, 1, 2, 2, 1, 1, 1] (Tryd.f22.body.getD .skip)).wp Tryd.prog (fun e s w => e = .normal ∧ s.defers = [] ∧ HB v w ∧ s.tmps = (tm.setIfInBounds 18 (.int .i64 ((i + 1 : Nat) : Int))).setIfInBounds 14 (.int .i64 ((i + 1 : Nat) : Int))) ⟨tm, []⟩ v := by
  have s18 : 18 < tm.size := by omega
  clear hs
  simp only [Tryd.f22, Option.getD_some, atc]
  go_wp2_with fail
  exact HB.refl _
theorem ga_r8 (tm : Array Value) (z : Value) (v : World) (hs : tm.size = 20) (h4 : tm[4]? = some z) : (atc [1, 1, 1, 1, 0] (Tryd.f22.body.getD .skip)).wp Tryd.prog (fun e s w => e = .normal ∧ s.defers = [] ∧ HB v w ∧ s.tmps = ((tm.setIfInBounds 19 z).setIfInBounds 2 z).setIfInBounds 3 (.int .i64 0)) ⟨tm, []⟩ v := by
  have s19 : 19 < tm.size := by omega
  clear hs
  simp only [Tryd.f22, Option.getD_some, atc]
  go_wp2_with fail
  exact HB.refl _
end Go.Proofs.YtfbdgdphpdhcpaaDoor
