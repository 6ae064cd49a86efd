/-
  Proved: whatever order and lattice and context and list hasselaw.RestLattices is handed, it returns true, and what it was handed reads afterwards as it read before. No condition.
-/
import Derived.Test.YthhnngmfbbljaaaGreatRtL
import Derived.Test.YthhnngmfbbljaaaGreatFrame
namespace Go.Proofs.YthhnngmfbbljaaaGreat
open Go.ChangeShapes Go.WideShapes Go.ChangeAt Go.RowKit Go.Joins

set_option maxRecDepth 100000 in
theorem restLattices_lifted (os : Os) (started : os.Started) (H : Type) (enc : TypeId × Value → H) :
    ReturnsInHanded {} Tryz.checked os 3 .any (Rows.restLatticesSpec.pre6 enc Tryz.prog Tryz.f3 Rows.restLatticesRow.domain false) (Rows.restLatticesSpec.post enc Tryz.prog Tryz.f3 false true false false) := by
  refine returnsInHanded_of_change_sized (C := Tryz.checked) own started (by kernel_rfl) Tryz.func3
    (ChangeSpec.witness6 (enc := enc) (C := Tryz.checked) false ⟨#[], #[.agg #[.int .i64 0, .slice none 0 0], .agg #[.int .i64 0, .slice none 0 0, .slice none 0 0], .agg #[.int .i64 0, .int .i64 0, .slice none 0 0], .slice none 0 0], []⟩ 8 (by kernel_rfl) (by kernel_rfl) (by kernel_rfl) (by kernel_rfl)) ?_
  intro W base args ds gs before hval0 hW _ hsz0 _
  have hval : ∀ (j : Nat) t v, Tryz.f3.params[j]? = some t → args[j]? = some v → Value.okWide Tryz.prog W .any base t v := hval0
  have hW' := hW
  obtain ⟨p, q, hA0, hV, rfl, _, _⟩ := hW
  have hA : DataW.TrodAll enc Tryz.prog W 0 (fun _ => true) true Tryz.f3.params.toList args.toList ds p := hA0
  rw [Tryz.params3] at hA hval
  obtain ⟨v0, vs0, d0, ds0, p0, q0, hargs, rfl, rfl, h0, r0⟩ := trodAll_cons hA
  obtain ⟨v1, vs1, d1, ds1, p1, q1, rfl, rfl, rfl, h1, r1⟩ := trodAll_cons r0
  obtain ⟨v2, vs2, d2, ds2, p2, q2, rfl, rfl, rfl, h2, r2⟩ := trodAll_cons r1
  obtain ⟨v3, vs3, d3, ds3, p3, q3, rfl, rfl, rfl, h3, r3⟩ := trodAll_cons r2
  obtain ⟨rfl, rfl, rfl⟩ := trodAll_nil r3
  obtain rfl : args = #[v0, v1, v2, v3] := by cases args; simp_all
  obtain ⟨rfl, rfl⟩ := trodVars_none hV
  have k0 := h0
  have lt0 : ∀ x ∈ p0, x.block < W.heap.size := by obtain ⟨m, hm⟩ := k0; exact DataW.trod_lt m _ _ _ hm
  have k1 := h1
  have lt1 : ∀ x ∈ p1, x.block < W.heap.size := by obtain ⟨m, hm⟩ := k1; exact DataW.trod_lt m _ _ _ hm
  have k2 := h2
  have lt2 : ∀ x ∈ p2, x.block < W.heap.size := by obtain ⟨m, hm⟩ := k2; exact DataW.trod_lt m _ _ _ hm
  have k3 := h3
  have lt3 : ∀ x ∈ p3, x.block < W.heap.size := by obtain ⟨m, hm⟩ := k3; exact DataW.trod_lt m _ _ _ hm
  have hsz : (DataW.weightsEach Tryz.prog [24, 27, 29, 22] [d0, d1, d2, d3]).all (fun x => decide (x ≤ reachBytes)) = true := hsz0
  have hz : ∀ (j : Nat) (t : TypeId) d, ([24, 27, 29, 22] : List TypeId)[j]? = some t → [d0, d1, d2, d3][j]? = some d → ∀ n ∈ d.weights Tryz.prog t, n ≤ reachBytes := fun j t d h1 h2 n hn => by
    have hx := List.all_eq_true.1 hsz n (DataW.weights_mem_each h1 h2 n hn)
    simpa using hx
  obtain ⟨u0, w0, y00, y10, m0, rfl, hd0, _, hy00, hy10⟩ := open_agg2 Tryz.underlying24 (by kernel_rfl) cells24 (hval 0 24 v0 rfl rfl) h0
  obtain ⟨n0, e00, _, _⟩ := DataW.trod_int Tryz.underlying3 hy00
  simp at e00
  subst e00
  obtain ⟨a0, len0, cap0, f0, rfl, hl0, hr0⟩ := row_of_trod hy10 (fun n hn => hz 0 24 _ rfl rfl n (by rw [hd0]; simp only [DataW.weights, Tryz.underlying24]; simp [DataW.weightsEach]; exact .inr hn))
  obtain ⟨u1, w1, x1, y01, y11, y21, m1, rfl, hd1, _, hy01, hy11, hy21⟩ := open_agg3 Tryz.underlying27 (by kernel_rfl) cellsLA (hval 1 27 v1 rfl rfl) h1
  obtain ⟨n1, e01, _, _⟩ := DataW.trod_int Tryz.underlying3 hy01
  simp at e01
  subst e01
  obtain ⟨a1, la1, ca1, SA1, FA1, rfl, hla1, hsa1, hra1⟩ := rr_of_trod hy11 (fun n hn => hz 1 27 _ rfl rfl n (by rw [hd1]; simp only [DataW.weights, Tryz.underlying27]; simp [DataW.weightsEach]; exact .inr (.inl hn)))
  obtain ⟨b1, lb1, cb1, SB1, FB1, rfl, hlb1, hsb1, hrb1⟩ := rr_of_trod hy21 (fun n hn => hz 1 27 _ rfl rfl n (by rw [hd1]; simp only [DataW.weights, Tryz.underlying27]; simp [DataW.weightsEach]; exact .inr (.inr hn)))
  obtain ⟨u2, w2, x2, y02, y12, y22, m2, rfl, hd2, _, hy02, hy12, hy22⟩ := open_agg3 Tryz.underlying29 (by kernel_rfl) cellsCA (hval 2 29 v2 rfl rfl) h2
  obtain ⟨n2, e02, _, _⟩ := DataW.trod_int Tryz.underlying3 hy02
  simp at e02
  subst e02
  obtain ⟨m02, e12, _, _⟩ := DataW.trod_int Tryz.underlying3 hy12
  simp at e12
  subst e12
  obtain ⟨a2, len2, cap2, f2, rfl, hl2, hr2⟩ := row_of_trod hy22 (fun n hn => hz 2 29 _ rfl rfl n (by rw [hd2]; simp only [DataW.weights, Tryz.underlying29]; simp [DataW.weightsEach]; exact .inr (.inr hn)))
  obtain ⟨a3, b3, c3, rfl⟩ := okWide_slice Tryz.underlying22 (hval 3 22 v3 rfl rfl)
  obtain ⟨ml3, hml3⟩ := h3
  obtain ⟨ap3, lenp3, capp3, f3, e33, hl3, hr3⟩ := row_of_trod (v := .slice a3 b3 c3) hml3 (fun n hn => hz 3 22 _ rfl rfl n hn)
  simp only [Value.slice.injEq] at e33
  obtain ⟨rfl, rfl, rfl⟩ := e33
  clear hA0 hval0
  refine (restLattices_any n0 a0 len0 cap0 f0 n1 a1 la1 ca1 SA1 FA1 b1 lb1 cb1 SB1 FB1 n2 m02 a2 len2 cap2 f2 a3 b3 c3 f3 W hl0 hla1 hlb1 hsa1 hsb1 hl2 hl3 hr0 hra1 hrb1 hr2 hr3).mono fun e W' ⟨he, bel⟩ => ?_
  subst he
  exact ⟨_, rfl, _, _, _, [], _, [], hW', trodAll_mk1 (shut_bool Tryz.underlying4 _), (trodAll_cons_mk (Below.trod laidOut (by kernel_rfl) (of_decide_eq_true (by kernel_rfl)) k0 bel lt0) (trodAll_cons_mk (Below.trod laidOut (by kernel_rfl) (of_decide_eq_true (by kernel_rfl)) k1 bel lt1) (trodAll_cons_mk (Below.trod laidOut (by kernel_rfl) (of_decide_eq_true (by kernel_rfl)) k2 bel lt2) (trodAll_cons_mk (Below.trod laidOut (by kernel_rfl) (of_decide_eq_true (by kernel_rfl)) k3 bel lt3) trodAll_mk0)))), rfl, bel.frame _, fun h => by cases h⟩

theorem restLattices_holds : Rows.RestLatticesSaid :=
  OpenClaim.holds_of_wide 3 Tryz.f3 rfl rfl rfl rfl rfl rfl rfl ⟨rfl, rfl, rfl, rfl, rfl⟩ rfl rfl rfl rfl rfl (by kernel_rfl) Tryz.func3 (by kernel_rfl)
    (of_decide_eq_true (by kernel_rfl)) (by unfold Func.isWrapper; rw [if_neg (of_decide_eq_false (by kernel_rfl))]; exact ⟨rfl, rfl⟩)
    (fun os started H enc _ => restLattices_lifted os started H enc)
end Go.Proofs.YthhnngmfbbljaaaGreat
