/-
  What the reference's Place and Permutations answer. Conditions: at most six points; a slice reads as a slice of numbers.
-/
import Derived.Test.YtfbdgdphpdhcpaaDoorMvB
import Derived.Test.YtfbdgdphpdhcpaaDoorRfN
namespace Go.Proofs.YtfbdgdphpdhcpaaDoor
open Go.RowKit Go.Shelf
set_option maxRecDepth 100000

/-- Where x stands first; or nowhere. -/
def PlaceAt (f : Nat → Int) (m : Nat) (x : Nat) (r : Int) : Prop := (∃ j : Nat, j < m ∧ r = j ∧ f j = x ∧ ∀ i, i < j → f i ≠ x) ∨ (r = -1 ∧ ∀ j, j < m → f j ≠ x)
theorem placeR_any (a : Option Addr) (m cap : Nat) (f : Nat → Int) (x : Nat) (w : World) (hm : m ≤ maxLen) (hr : Row w a m f) :
    Calls Tryd.prog 39 #[.slice a m cap, .int .i64 x] w fun e w' => (∃ r : Int, e = .returned (.int .i64 r) ∧ PlaceAt f m x r) ∧ w = w' := by
  unfold maxLen at hm
  have HR : Hid (Row w a m f) := hr
  clear hr
  go_enter Tryd.func39, Tryd.ntmps39
  go_wp2_with fail
  go_loopw [5] (fun i wx => ∃ k : Nat, k ≤ m ∧ i = .int .i64 k ∧ wx = w ∧ Hid (∀ j, j < k → f j ≠ x)) (fun i _ => m - (intOf i).toNat)
  case atStart => exact ⟨0, Nat.zero_le _, rfl, rfl, fun j hj => absurd hj (Nat.not_lt_zero _)⟩
  case round =>
    obtain ⟨k, hk, rfl, rfl, HN⟩ := hrel
    by_cases hlt : k < m
    · obtain ⟨b, off, rfl, hc⟩ := HR.out k hlt
      by_cases he : f k = x
      · have he' : (f k == (x : Int)) = true := by rw [he]; simp
        have HE : Hid (PlaceAt f m x k) := .inl ⟨k, hlt, rfl, he, HN.out⟩
        generalize f k = X at *
        clear HN he
        go_wp2_with fail
        go_ret
        exact ⟨⟨_, rfl, HE.out⟩, rfl⟩
      · have he' : (f k == (x : Int)) = false := by simpa using he
        have HN2 : Hid (∀ j, j < k + 1 → f j ≠ x) := fun j hj => by
          by_cases e : j = k
          · subst e; exact he
          · exact HN.out j (by omega)
        generalize f k = X at *
        clear HN he
        go_wp2_with fail
        go_roundw
        case rel => exact ⟨k + 1, by omega, by go_num, by first | rfl | trivial, HN2.out⟩
        case measure => simp [intOf]; omega
    · obtain rfl : k = m := by omega
      have HE : Hid (PlaceAt f k x (-1)) := .inr ⟨rfl, HN.out⟩
      clear HN
      go_wp2_with fail
      go_ret
      exact ⟨⟨_, rfl, HE.out⟩, rfl⟩
theorem PlaceAt.neg {y : List Nat} {x : Nat} {r : Int} (h : PlaceAt (fun k => (nth y k : Nat)) y.length x r) : (r < 0) ↔ y.contains x = false := by
  have hm : y.contains x = true ↔ ∃ j, j < y.length ∧ nth y j = x := by
    rw [List.contains_iff_mem, List.mem_iff_getElem]
    constructor
    · rintro ⟨j, hj, e⟩
      exact ⟨j, hj, by rw [← e]; simp [nth, hj]⟩
    · rintro ⟨j, hj, e⟩
      exact ⟨j, hj, by rw [← e]; simp [nth, hj]⟩
  rcases h with ⟨j, hj, rfl, e, _⟩ | ⟨rfl, hn⟩
  · have : y.contains x = true := hm.2 ⟨j, hj, by have e : ((nth y j : Nat) : Int) = (x : Nat) := e; omega⟩
    rw [this]; simp
  · have : y.contains x = false := by
      rw [Bool.eq_false_iff]
      intro hc
      obtain ⟨j, hj, e⟩ := hm.1 hc
      exact hn j hj (by show ((nth y j : Nat) : Int) = (x : Nat); omega)
    rw [this]; simp
/-- A list more by each point that it lacks. -/
def mrT (x : List Nat) (p : Nat) : List (List Nat) := ((List.range p).filter fun q => !x.contains q).map fun q => x ++ [q]
def mrL (n : Nat) (l : List (List Nat)) : List (List Nat) := l.flatMap fun x => mrT x n
def pmL (n : Nat) : Nat → List (List Nat)
  | 0 => [[]]
  | k + 1 => mrL n (pmL n k)
theorem mrT_zero (x : List Nat) : mrT x 0 = [] := rfl
theorem mrT_yes {x : List Nat} {p : Nat} (h : x.contains p = false) : mrT x (p + 1) = mrT x p ++ [x ++ [p]] := by
  unfold mrT
  rw [List.range_succ, List.filter_append, List.map_append, List.filter_cons_of_pos (by rw [h]; rfl)]
  rfl
theorem mrT_no {x : List Nat} {p : Nat} (h : x.contains p = true) : mrT x (p + 1) = mrT x p := by
  unfold mrT
  rw [List.range_succ, List.filter_append, List.map_append, List.filter_cons_of_neg (by rw [h]; decide)]
  simp
theorem mrL_snoc (n : Nat) (l : List (List Nat)) (x : List Nat) : mrL n (l ++ [x]) = mrL n l ++ mrT x n := by simp [mrL, List.flatMap_append]
theorem pmB : ((List.range 7).all fun n => decide (pmL n n = per n [] (pw n - 1)) && (List.range (n + 1)).all fun k => decide ((pmL n k).length ≤ 720) && (pmL n k).all fun x => decide (x.length = k)) = true := by decide +kernel
theorem pm_is {n : Nat} (hn : n ≤ 6) : pmL n n = per n [] (pw n - 1) := by
  have h := List.all_eq_true.1 pmB n (List.mem_range.2 (by omega))
  rw [Bool.and_eq_true] at h
  exact of_decide_eq_true h.1
theorem pm_len {n k : Nat} (hn : n ≤ 6) (hk : k ≤ n) : (pmL n k).length ≤ 720 ∧ ∀ x ∈ pmL n k, x.length = k := by
  have h := List.all_eq_true.1 pmB n (List.mem_range.2 (by omega))
  rw [Bool.and_eq_true] at h
  have h2 := List.all_eq_true.1 h.2 k (List.mem_range.2 (by omega))
  rw [Bool.and_eq_true] at h2
  exact ⟨of_decide_eq_true h2.1, fun x hx => of_decide_eq_true (List.all_eq_true.1 h2.2 x hx)⟩
theorem mrL_le (n : Nat) (l : List (List Nat)) (i : Nat) (x : List Nat) (hx : l[i]? = some x) (p : Nat) (hp : p ≤ n) : (mrL n (l.take i)).length + (mrT x p).length ≤ (mrL n l).length := by
  have hi : i < l.length := (List.getElem?_eq_some_iff.1 hx).1
  have h1 : l = l.take i ++ (x :: l.drop (i + 1)) := by
    rw [List.getElem?_eq_some_iff] at hx
    obtain ⟨_, e⟩ := hx
    rw [← e, List.getElem_cons_drop, List.take_append_drop]
  have h2 : mrL n l = mrL n (l.take i) ++ (mrT x n ++ mrL n (l.drop (i + 1))) := by
    conv => lhs; rw [h1]
    simp [mrL, List.flatMap_append]
  have h3 : (mrT x p).length ≤ (mrT x n).length := by
    unfold mrT
    rw [List.length_map, List.length_map]
    exact (List.Sublist.filter _ (List.range_sublist.2 hp)).length_le
  rw [h2, List.length_append, List.length_append]
  omega

/-- A list that append may be handed second. -/
def Src2 (w : World) (y : Value) (p : List Nat) : Prop := (p = [] ∧ y = .slice none 0 0) ∨ ∃ b c, y = .slice (some ⟨b, 0, none⟩) p.length c ∧ ∀ j u, (natVals p)[j]? = some u → w.cell? ⟨b, j, none⟩ = some u
theorem Src2.below {W W' : World} {v : Value} {y : List Nat} (h : Src2 W v y) (hb : Below W.heap.size W W') : Src2 W' v y :=
  h.imp id fun ⟨ad, c, e, hc⟩ => ⟨ad, c, e, fun j u hj => cell_stp hb (hc j u hj)⟩
theorem Src2.of_owns {w : World} {base : Nat} {v : Value} {l : List Nat} (h : w.ownsRow base 3 1 v l.length (natVals l)) : Src2 w v l := by
  rcases h.2 with ⟨rfl, h0⟩ | ⟨g, cap, cur, rfl, _⟩
  · exact .inl ⟨List.length_eq_zero_iff.1 h0, rfl⟩
  · refine .inr ⟨_, cap, rfl, fun j u hj => ?_⟩
    have hlt := (List.getElem?_eq_some_iff.1 hj).1
    rw [h.cellAt j (by simpa [natVals] using hlt)]
    exact hj
theorem Src2.row {w : World} {v : Value} {l : List Nat} (h : Src2 w v l) : ∃ a c, v = .slice a l.length c ∧ Row w a l.length (fun k => (nth l k : Nat)) := by
  rcases h with ⟨rfl, rfl⟩ | ⟨ad, c, rfl, hc⟩
  · exact ⟨none, 0, rfl, fun k hk => absurd hk (Nat.not_lt_zero _)⟩
  · exact ⟨_, c, rfl, fun k hk => ⟨ad, 0, rfl, by rw [Nat.zero_add]; exact hc k _ (natVals_at l k hk)⟩⟩
/-- A slice of lists, read. -/
def LRd (W : World) (a : Option Addr) (ys : List (List Nat)) : Prop := ∀ (i : Nat) y, ys[i]? = some y → ∃ g v, a = some ⟨g, 0, none⟩ ∧ W.cell? ⟨g, i, none⟩ = some v ∧ Src2 W v y
theorem LRd.below {W W' : World} {a : Option Addr} {ys : List (List Nat)} (h : LRd W a ys) (hb : Below W.heap.size W W') : LRd W' a ys := fun i y hy => by
  obtain ⟨g, v, e, hc, hr⟩ := h i y hy
  exact ⟨g, v, e, cell_stp hb hc, hr.below hb⟩
theorem MLst.rd {W : World} {B : Nat} {z : Value} {ys : List (List Nat)} (h : MLst W B z ys) : ∃ a cap, z = .slice a ys.length cap ∧ LRd W a ys := by
  obtain ⟨vs, ho, hv⟩ := h
  rcases Nat.eq_zero_or_pos ys.length with h0 | h0
  · rcases ho.2 with ⟨rfl, _⟩ | ⟨g, cap, cur, rfl, _⟩
    · exact ⟨none, 0, by rw [h0], fun i y hy => by have := (List.getElem?_eq_some_iff.1 hy).1; omega⟩
    · exact ⟨_, cap, rfl, fun i y hy => by have := (List.getElem?_eq_some_iff.1 hy).1; omega⟩
  · obtain ⟨g, cap, rfl⟩ := owns_form ho h0
    refine ⟨_, cap, rfl, fun i y hy => ?_⟩
    obtain ⟨v, q1, q2⟩ := hv i y hy
    have hi : i < vs.length := (List.getElem?_eq_some_iff.1 q1).1
    refine ⟨g, v, rfl, ?_, Src2.of_owns q2⟩
    rw [ho.cellAt i (by have := ho.1; omega)]; exact q1
theorem MLst.below {W W' : World} {B : Nat} {z : Value} {ys : List (List Nat)} (h : MLst W B z ys) (hb : Below W.heap.size W W') : MLst W' B z ys := by
  obtain ⟨vs, ho, hv⟩ := h
  exact ⟨vs, owns_below ho hb, fun k y hy => by
    obtain ⟨v, q1, q2⟩ := hv k y hy
    exact ⟨v, q1, owns_below q2 hb⟩⟩
theorem MLst.mono {W : World} {B B' : Nat} {z : Value} {ys : List (List Nat)} (h : MLst W B z ys) (hb : B' ≤ B) : MLst W B' z ys := by
  obtain ⟨vs, ho, hv⟩ := h
  exact ⟨vs, ⟨ho.1, ho.2.imp id fun ⟨g, cap, cur, h1, h2, h3⟩ => ⟨g, cap, cur, h1, Nat.le_trans hb h2, h3⟩⟩, fun k y hy => by
    obtain ⟨v, q1, q2⟩ := hv k y hy
    exact ⟨v, q1, ⟨q2.1, q2.2.imp id fun ⟨g, cap, cur, h1, h2, h3⟩ => ⟨g, cap, cur, h1, Nat.le_trans hb h2, h3⟩⟩⟩⟩
theorem MLst.nil (W : World) (B : Nat) : MLst W B (.slice none 0 0) [] := ⟨[], World.ownsRow_nil _ _ _ _, fun k y hy => by simp at hy⟩
/-- A list more. -/
theorem MLst.snoc {W w2 w3 : World} {B : Nat} {z z' v : Value} {ys : List (List Nat)} {x : List Nat} {vs : List Value} (ho : W.ownsRow B 22 1 z ys.length vs) (hv : ∀ (k : Nat) y, ys[k]? = some y → ∃ v, vs[k]? = some v ∧ W.ownsRow B 3 1 v y.length (natVals y))
    (hb : Below W.heap.size W w2) (hx : w2.ownsRow B 3 1 v x.length (natVals x)) (h3 : w3.ownsRow B 22 1 z' (ys.length + 1) (vs ++ [v])) (hg : w2.grownBy w3 z.ownBlock) : MLst w3 B z' (ys ++ [x]) := by
  have ho2 := owns_below ho hb
  have lift : ∀ {m : Nat} {u : Value} {us : List Value}, w2.ownsRow B 3 1 u m us → w3.ownsRow B 3 1 u m us := fun {m u us} h => by
    refine ⟨h.1, h.2.imp id fun ⟨q, cap', cur, e1, e2, e3, e4⟩ => ⟨q, cap', cur, e1, e2, ?_, e4⟩⟩
    rw [hg.block q (Array.getElem?_eq_some_iff.1 e3).1 (fun e => by
      rcases ho2.2 with ⟨rfl, _⟩ | ⟨g', c', cur', rfl, _, hgg, _⟩
      · cases e
      · simp only [Value.ownBlock, Option.some.injEq] at e
        subst e
        rw [hgg] at e3
        cases e3)]
    exact e3
  refine ⟨vs ++ [v], by rw [List.length_append]; exact h3, fun k y hy => ?_⟩
  have hl : vs.length = ys.length := by have := ho.1; omega
  rcases Nat.lt_or_ge k ys.length with hk | hk
  · rw [List.getElem?_append_left hk] at hy
    obtain ⟨u, q1, q2⟩ := hv k y hy
    exact ⟨u, by rw [List.getElem?_append_left (by omega)]; exact q1, lift (owns_below q2 hb)⟩
  · rw [List.getElem?_append_right hk] at hy
    obtain ⟨h5, rfl⟩ := List.getElem?_eq_some_iff.1 hy
    have ek : k = ys.length := by simp at h5; omega
    subst ek
    simp only [Nat.sub_self, List.getElem_cons_zero]
    exact ⟨v, by rw [List.getElem?_append_right (by omega), hl, Nat.sub_self]; rfl, lift hx⟩
theorem run_app_none (t ty : TypeId) (i : TypeInfo) (ht : Tryd.prog.underlying t = some (.slice 3)) (hi : Tryd.prog.info? 3 = some i) (b n cap : Nat) (hn : n ≤ cap) (w : World) :
    (Builtin.append_ #[t, t] ty #[.slice (some ⟨b, 0, none⟩) n cap, .slice none 0 0]).run Tryd.prog w = .ok (.slice (some ⟨b, 0, none⟩) n cap) w := by
  simp [Builtin.append_, run_underlying ht, Builtin.lenOf, Builtin.firstCells, sizeOf, typeInfo, hi, storeCells, Result.andThen, hn]
theorem nat_one (p : List Nat) : ∀ u ∈ natVals p, u.oneCell' = true := fun u hu => by
  unfold natVals at hu
  obtain ⟨k, _, rfl⟩ := List.mem_map.1 hu
  rfl
theorem wp_apnd {o : Oper} {a : Act} {K : Act → World → Prop} {Q : Exit → Act → World → Prop} (w : World) (s x : Operand)
    (ho : o.op = .call { callee := .builtin .append, args := #[s, x], argTypes := #[22, 22] }) (base b n cap : Nat) (xs : List Value) (p : List Nat) (y : Value) (hs : a.eval s = .slice (some ⟨b, 0, none⟩) n cap) (hown : w.ownsRow base 3 1 (.slice (some ⟨b, 0, none⟩) n cap) n xs) (hnc : n ≤ cap)
    (hsrc : Src2 w y p) (hx : a.eval x = y) (hlen : n + p.length ≤ 1000) (hbase : base ≤ w.heap.size)
    (h : ∀ v' w', w'.ownsRow base 3 1 v' (n + p.length) (xs ++ natVals p) → w.grownBy w' (some b) → K (a.put o.dst v') w') : o.wp Tryd.prog a w K Q := by
  obtain ⟨i0, hi, hz0, hz1, hz2⟩ := info_parts Tryd.info3
  rcases hsrc with ⟨rfl, rfl⟩ | ⟨ad, c, rfl, hc⟩
  · have hrun := run_app_none 22 o.type i0 Tryd.underlying22 hi b n cap hnc w
    unfold Oper.wp execOp
    simp only [ho, resolve, invoke, builtin, Sem.run_bind, Sem.run_pure, Result.andThen_ok, List.map_toArray, List.map_cons, List.map_nil, hs, hx, hrun]
    refine h _ _ ?_ ⟨rfl, rfl, rfl, Nat.le_refl _, fun _ _ _ => rfl⟩
    simpa [natVals] using hown
  · refine wp_append_own w s x 22 ho base 3 i0 (.int .i64 0) 1 8 Tryd.underlying22 hi hz0 hz1 hz2 rfl (by decide) _ n xs hs hown ⟨ad, 0, none⟩ p.length c (natVals p) hx (by simp [natVals]) (fun j u hj => by rw [show (⟨ad, 0, none⟩ : Addr).add j = ⟨ad, j, none⟩ by simp [Addr.add]; exact fun h => h.symm]; exact hc j u hj) (nat_one p) (by unfold maxLen; omega) (by omega) hbase ?_
    intro v' w' h1 h2 _
    exact h v' w' h1 h2
set_option maxHeartbeats 4000000 in
theorem perms_any (n : Nat) (w : World) (hn : n ≤ 6) :
    Calls Tryd.prog 31 #[.int .i64 (n : Nat)] w fun e w' => (∃ z, e = .returned z ∧ MLst w' w.heap.size z (per n [] (pw n - 1))) ∧ Below w.heap.size w w' := by
  rw [← pm_is hn]
  obtain ⟨i0, hi, hz0, hz1, hz2⟩ := info_parts Tryd.info3
  have hM1 : MLst (w.alloc (.cells #[.slice none 0 0] 22)) w.heap.size (.slice (some ⟨w.heap.size, 0, none⟩) 1 1) [[]] :=
    ⟨[.slice none 0 0], ⟨rfl, .inr ⟨w.heap.size, 1, #[.slice none 0 0], rfl, Nat.le_refl _, heap_alloc_new w _, Nat.le_refl _, by unfold maxLen; omega, rfl, rfl⟩⟩, fun k y hy => by
      match k, hy with
      | 0, hy => simp at hy; subst hy; exact ⟨_, rfl, World.ownsRow_nil _ _ _ _⟩⟩
  have HM1 : Hid (MLst (w.alloc (.cells #[.slice none 0 0] 22)) w.heap.size (.slice (some ⟨w.heap.size, 0, none⟩) 1 1) [[]]) := hM1
  have HB1 : Hid (Below w.heap.size w (w.alloc (.cells #[.slice none 0 0] 22))) := (Below.refl _ _).alloc (Nat.le_refl _) _
  clear hM1
  go_enter Tryd.func31, Tryd.ntmps31
  go_wp2_with fail
  go_loopw [3, 4] (fun z c wx => ∃ k : Nat, k ≤ n ∧ c = .int .i64 k ∧ Hid (MLst wx w.heap.size z (pmL n k)) ∧ Hid (Below w.heap.size w wx)) (fun _ c _ => n - (intOf c).toNat)
  case atStart => exact ⟨0, Nat.zero_le _, rfl, HM1.out, HB1.out⟩
  case round =>
    clear HM1 HB1
    obtain ⟨k, hk, rfl, HM, HB⟩ := hrel
    by_cases hkn : k < n
    · have hkn' : (k : Int) < (n : Int) := by omega
      obtain ⟨P, HP⟩ : ∃ P, Hid (P = pmL n k) := ⟨_, rfl⟩
      obtain ⟨hP720, hPl⟩ := pm_len hn hk
      obtain ⟨hN720, _⟩ := pm_len (k := k + 1) hn hkn
      have HNX : Hid ((mrL n P).length ≤ 720) := by rw [HP.out]; exact hN720
      have HPX : Hid (∀ x ∈ P, x.length ≤ 6) := by rw [HP.out]; intro x hx; rw [hPl x hx]; omega
      have hPlen : P.length ≤ 720 := by rw [HP.out]; exact hP720
      rw [← HP.out] at HM
      obtain ⟨az, cz, rfl, hrd⟩ := HM.out.rd
      obtain ⟨WK, HWK⟩ : ∃ X : World, Hid (X = wr) := ⟨_, rfl⟩
      have HRD : Hid (LRd WK az P) := by rw [HWK.out]; exact hrd
      have HBW : Hid (Below w.heap.size w WK) := by rw [HWK.out]; exact HB.out
      have HB0 : Hid (Below WK.heap.size WK wr) := by rw [HWK.out]; exact Below.refl _ _
      clear hrd hP720 hPl hN720 HM HB HWK
      go_wp2_with fail
      go_loopw [5, 6] (fun z c wx => ∃ i : Nat, i ≤ P.length ∧ c = .int .i64 i ∧ Hid (MLst wx WK.heap.size z (mrL n (P.take i))) ∧ Hid (Below WK.heap.size WK wx)) (fun _ c _ => P.length - (intOf c).toNat)
      case atStart => exact ⟨0, Nat.zero_le _, rfl, by rw [List.take_zero]; exact MLst.nil _ _, HB0.out⟩
      case round =>
        clear HB0
        obtain ⟨i, hi', rfl, HMi, HBi⟩ := hrel
        by_cases hil : i < P.length
        · have hil' : (i : Int) < (P.length : Int) := by omega
          obtain ⟨x, HX⟩ : ∃ x, Hid (P[i]? = some x) := ⟨_, List.getElem?_eq_getElem hil⟩
          have hx6 := HPX.out x (List.mem_of_getElem? HX.out)
          go_wp2_with fail
          go_loopw [5, 7] (fun z c wx => ∃ p : Nat, p ≤ n ∧ c = .int .i64 p ∧ Hid (MLst wx WK.heap.size z (mrL n (P.take i) ++ mrT x p)) ∧ Hid (Below WK.heap.size WK wx)) (fun _ c _ => n - (intOf c).toNat)
          case atStart => exact ⟨0, Nat.zero_le _, rfl, by rw [mrT_zero, List.append_nil]; exact HMi.out, HBi.out⟩
          case round =>
            clear HMi HBi
            obtain ⟨p, hp, rfl, HMp, HBp⟩ := hrel
            by_cases hpn : p < n
            · have hpn' : (p : Int) < (n : Int) := by omega
              obtain ⟨g, v, rfl, hc, hs⟩ := HRD.out.below HBp.out i x HX.out
              obtain ⟨av, cv, ev, hrv⟩ := hs.row
              have HSV : Hid (Src2 wr v x) := hs
              have HCV : Hid (wr.cell? ⟨g, i, none⟩ = some v) := hc
              have HPL : Hid (Calls Tryd.prog 39 #[v, .int .i64 (p : Nat)] wr fun e w' => (∃ r : Int, e = .returned (.int .i64 r) ∧ PlaceAt (fun k => (nth x k : Nat)) x.length p r) ∧ wr = w') := by
                rw [ev]; exact placeR_any av x.length cv _ p _ (by unfold maxLen; omega) hrv
              clear hrv hs ev
              go_wp2_with fail
              refine HPL.out.mono ?_
              rintro e w' ⟨⟨r, rfl, hpl⟩, rfl⟩
              have hng := hpl.neg
              clear hpl
              by_cases hct : x.contains p = true
              · have hr0 : ¬ r < 0 := by rw [hng, hct]; simp
                have HMN : Hid (mrT x (p + 1) = mrT x p) := mrT_no hct
                clear hc hng hct
                go_wp2_with fail
                go_roundw
                case rel => exact ⟨p + 1, by omega, by go_num, by rw [HMN.out]; exact HMp.out, HBp.out⟩
                case measure => simp [intOf]; omega
              · have hct : x.contains p = false := by simpa using hct
                have hr0 : r < 0 := by rw [hng, hct]
                have HMN : Hid (mrT x (p + 1) = mrT x p ++ [x ++ [p]]) := mrT_yes hct
                clear hc hng hct
                have hc : (wr.alloc (.cells #[] 3)).cell? ⟨g, i, none⟩ = some v := cell_al HCV.out
                obtain ⟨vs, hvo, hvv⟩ := HMp.out
                have HVO : Hid (wr.ownsRow WK.heap.size 22 1 u5 (mrL n (P.take i) ++ mrT x p).length vs) := hvo
                have HVV : Hid (∀ (k : Nat) y, (mrL n (P.take i) ++ mrT x p)[k]? = some y → ∃ v, vs[k]? = some v ∧ wr.ownsRow WK.heap.size 3 1 v y.length (natVals y)) := hvv
                have HLE : Hid ((mrL n (P.take i) ++ mrT x p).length ≤ 720) := by
                  have h1 := mrL_le n P i x HX.out p hp
                  have h2 := HNX.out
                  rw [Hid, List.length_append]; omega
                have HWS := HBp.out.size
                clear hvo hvv HMp HPX HPL
                go_wp2_with (first
                  | (at_builtin; refine wpList_plain rfl fun _ hK => wp_apnd _ _ _ rfl wr.heap.size wr.heap.size 0 0 [] x _ rfl (World.ownsRow_made wr #[] 0 (Nat.le_refl _) (by unfold maxLen; omega) (by simp)) (Nat.le_refl _) (HSV.out.below ((Below.refl _ _).alloc (Nat.le_refl _) _)) rfl (by omega) (by simp) fun v1 w1 ho1 hg1 => hK _ _ ?_; have HB1 : Hid (Below wr.heap.size wr w1) := ((Below.refl _ _).alloc (Nat.le_refl _) _).grown hg1 (by simp) (fun k e => by cases e; exact Nat.le_refl _); have HO1 : Hid (w1.ownsRow wr.heap.size 3 1 v1 x.length (natVals x)) := (by have h := ho1; rw [Nat.zero_add, List.nil_append] at h; exact h); have hs1 := HB1.out.size; clear hg1 ho1)
                  | (at_builtin; refine wpList_append_own _ rfl _ _ 22 rfl wr.heap.size 3 i0 (.int .i64 0) 1 8 Tryd.underlying22 hi hz0 hz1 hz2 rfl (by decide) _ x.length (natVals x) rfl (HO1.out.alloc _) ⟨w1.heap.size, 0, none⟩ 1 1 [.int .i64 (p : Nat)] rfl rfl (fun j u hj => by
                        match j, hj with
                        | 0, hj => simp at hj; subst hj; simp [Addr.add]) (fun u hu => by simp at hu; subst hu; rfl) (by unfold maxLen; omega) (by omega) (by simp; omega) ?_; intro v2 w2 ho2 hg2 _; have HB2 : Hid (Below wr.heap.size wr w2) := (HB1.out.alloc hs1 _).grown hg2 (by simp; omega) (owns_block HO1.out); obtain ⟨g2, c2, rfl⟩ := owns_form ho2 (by omega); have HO2 : Hid (w2.ownsRow wr.heap.size 3 1 (.slice (some ⟨g2, 0, none⟩) (x.length + 1) c2) (x ++ [p]).length (natVals (x ++ [p]))) := (by rw [natVals_append, List.length_append]; exact ho2); have hs2 := HB2.out.size; clear ho2 hg2)
                  | (at_builtin; refine wpList_plain rfl fun _ hK => wp_list _ _ _ rfl WK.heap.size u5 _ vs rfl (owns_below HVO.out (HB2.out.alloc hs2 _)) w2.heap.size (.slice (some ⟨g2, 0, none⟩) (x.length + 1) c2) rfl (by simp) (by rfl) (by have := HLE.out; omega) (by simp; omega) fun v3 w3 ho3 hg3 => hK _ _ ?_; have HM3 : Hid (MLst w3 WK.heap.size v3 ((mrL n (P.take i) ++ mrT x p) ++ [x ++ [p]])) := MLst.snoc HVO.out HVV.out (HB2.out.alloc hs2 _) (owns_mono (owns_below HO2.out ((Below.refl _ _).alloc (Nat.le_refl _) _)) HWS) ho3 hg3; have HB3 : Hid (Below WK.heap.size WK w3) := ((Below.then HBp.out HB2.out).alloc (by omega) _).grown hg3 (by simp; omega) (owns_block HVO.out); clear ho3 hg3))
                go_roundw
                case rel => exact ⟨p + 1, by omega, by go_num, by rw [HMN.out, ← List.append_assoc]; exact HM3.out, HB3.out⟩
                case measure => simp [intOf]; omega
            · obtain rfl : p = n := by omega
              have HMN : Hid (mrL p (P.take (i + 1)) = mrL p (P.take i) ++ mrT x p) := by
                show mrL p (P.take (i + 1)) = _
                rw [List.take_add_one, HX.out, Option.toList_some, mrL_snoc]
              go_wp2_with fail
              go_roundw
              case rel => exact ⟨i + 1, by omega, by go_num, by rw [HMN.out]; exact HMp.out, HBp.out⟩
              case measure => simp [intOf]; omega
        · obtain rfl : i = P.length := by omega
          have HMN : Hid (pmL n (k + 1) = mrL n (P.take P.length)) := by rw [List.take_length, HP.out]; rfl
          have HLEW := HBW.out.size
          go_wp2_with fail
          go_roundw
          case rel => exact ⟨k + 1, by omega, by go_num, by rw [HMN.out]; exact HMi.out.mono HLEW, Below.then HBW.out HBi.out⟩
          case measure => simp [intOf]; omega
    · obtain rfl : k = n := by omega
      go_wp2_with fail
      go_ret
      exact ⟨⟨_, rfl, HM.out⟩, HB.out⟩
end Go.Proofs.YtfbdgdphpdhcpaaDoor
