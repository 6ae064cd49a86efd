/-
  Appends of lists of rows: to a row of the call's own, and to what has no room; and a sorted list into which one more is put. Conditions: as each theorem says.
-/
import Derived.Test.YtappekjkcgmheaaCgB
import Derived.ArgAppend
namespace Go.Proofs.Ytappekjkcgmheaa
open Go.RowKit
set_option maxRecDepth 100000

/-- Rows as values. -/
def hvl (q : Nat) (R : Nat → Nat × Nat) (L : List Nat) : List Value := L.map fun i => .slice (some ⟨(R i).1, 0, none⟩) q (R i).2
theorem hvl_len (q : Nat) (R : Nat → Nat × Nat) (L : List Nat) : (hvl q R L).length = L.length := by simp [hvl]
theorem hvl_append (q : Nat) (R : Nat → Nat × Nat) (L M : List Nat) : hvl q R (L ++ M) = hvl q R L ++ hvl q R M := by simp [hvl]
theorem hvl_at {q : Nat} {R : Nat → Nat × Nat} {L : List Nat} {k : Nat} (h : k < L.length) : (hvl q R L)[k]? = some (.slice (some ⟨(R (nth L k)).1, 0, none⟩) q (R (nth L k)).2) := by
  simp [hvl, nth, h]
theorem hvl_one (q : Nat) (R : Nat → Nat × Nat) (L : List Nat) : ∀ u ∈ hvl q R L, u.oneCell' = true := fun u hu => by
  unfold hvl at hu
  obtain ⟨k, _, rfl⟩ := List.mem_map.1 hu
  rfl
/-- A list that append may be handed second. -/
def SrcV (w : World) (y : Value) (ys : List Value) : Prop := (ys = [] ∧ y = .slice none 0 0) ∨ ∃ ad c, y = .slice (some ad) ys.length c ∧ ∀ j u, ys[j]? = some u → w.cell? (ad.add j) = some u
theorem run_app_noneV (t ty : TypeId) (i : TypeInfo) (ht : Try.prog.underlying t = some (.slice 25)) (hi : Try.prog.info? 25 = some i) (b n cap : Nat) (hn : n ≤ cap) (w : World) :
    (Builtin.append_ #[t, t] ty #[.slice (some ⟨b, 0, none⟩) n cap, .slice none 0 0]).run Try.prog w = .ok (.slice (some ⟨b, 0, none⟩) n cap) w := by
  simp [Builtin.append_, run_underlying ht, Builtin.lenOf, Builtin.firstCells, sizeOf, typeInfo, hi, storeCells, Result.andThen, hn]
theorem wp_apndV {o : Oper} {a : Act} {K : Act → World → Prop} {Q : Exit → Act → World → Prop} (w : World) (s x : Operand)
    (ho : o.op = .call { callee := .builtin .append, args := #[s, x], argTypes := #[22, 22] }) (base b n cap : Nat) (xs ys : List Value) (y : Value) (hs : a.eval s = .slice (some ⟨b, 0, none⟩) n cap) (hown : w.ownsRow base 25 1 (.slice (some ⟨b, 0, none⟩) n cap) n xs) (hnc : n ≤ cap)
    (hsrc : SrcV w y ys) (h1 : ∀ u ∈ ys, u.oneCell' = true) (hx : a.eval x = y) (hlen : n + ys.length ≤ 1000) (hbase : base ≤ w.heap.size)
    (h : ∀ v' w', w'.ownsRow base 25 1 v' (n + ys.length) (xs ++ ys) → w.grownBy w' (some b) → K (a.put o.dst v') w') : o.wp Try.prog a w K Q := by
  obtain ⟨i0, hi, hz0, hz1, hz2⟩ := info_parts Try.infoL
  rcases hsrc with ⟨rfl, rfl⟩ | ⟨ad, c, rfl, hc⟩
  · have hrun := run_app_noneV 22 o.type i0 Try.underlying22 hi b n cap hnc w
    unfold Oper.wp execOp
    simp only [ho, resolve, invoke, builtin, Sem.run_bind, Sem.run_pure, Result.andThen_ok, List.map_toArray, List.map_cons, List.map_nil, hs, hx, hrun]
    refine h _ _ ?_ ⟨rfl, rfl, rfl, Nat.le_refl _, fun _ _ _ => rfl⟩
    simpa using hown
  · refine wp_append_own w s x 22 ho base 25 i0 (.slice none 0 0) 1 24 Try.underlying22 hi hz0 hz1 hz2 rfl (by decide) _ n xs hs hown ad ys.length c ys hx (by simp) hc h1 (by unfold maxLen; omega) (by omega) hbase ?_
    intro v' w' h1 h2 _
    exact h v' w' h1 h2
/-- append to what has no room: it is copied. -/
theorem wp_cutV {o : Oper} {a : Act} {K : Act → World → Prop} {Q : Exit → Act → World → Prop} (w : World) (s x : Operand)
    (ho : o.op = .call { callee := .builtin .append, args := #[s, x], argTypes := #[22, 22] }) (b : Addr) (n : Nat) (olds : List Value) (hs : a.eval s = .slice (some b) n n) (hlo : olds.length = n) (holds : ∀ j u, olds[j]? = some u → w.cell? (b.add j) = some u)
    (ad : Addr) (m c : Nat) (news : List Value) (hx : a.eval x = .slice (some ad) m c) (hl : news.length = m) (hnews : ∀ j u, news[j]? = some u → w.cell? (ad.add j) = some u) (hm : 0 < m) (hlen : n + m ≤ 1000)
    (h : ∀ v' w', w'.ownsRow w.heap.size 25 1 v' (n + m) (olds ++ news) → w.grownBy w' none → K (a.put o.dst v') w') : o.wp Try.prog a w K Q := by
  obtain ⟨i0, hi, hz0, hz1, hz2⟩ := info_parts Try.infoL
  obtain ⟨v', w', hrun, h1, h2⟩ := run_append_arg_grows (P := Try.prog) w 22 o.type 25 i0 (.slice none 0 0) 1 24 Try.underlying22 hi hz0 hz1 hz2 rfl (by decide) b n n olds (by omega) holds ad m c news (by omega) hnews (by omega) (by unfold maxLen; omega) (by omega)
  unfold Oper.wp execOp
  simp only [ho, resolve, invoke, builtin, Sem.run_bind, Sem.run_pure, Result.andThen_ok, List.map_toArray, List.map_cons, List.map_nil, hs, hx, hrun]
  exact h _ _ h1 h2
theorem one_ownV (w : World) (x : Value) : (w.alloc (.cells #[x] 25)).ownsRow w.heap.size 25 1 (.slice (some ⟨w.heap.size, 0, none⟩) 1 1) 1 [x] :=
  ⟨by simp, .inr ⟨w.heap.size, 1, #[x], rfl, Nat.le_refl _, heap_alloc_new w _, Nat.le_refl _, by unfold maxLen; omega, rfl, rfl⟩⟩
theorem formV {w : World} {base n : Nat} {v : Value} {xs : List Value} (h : w.ownsRow base 25 1 v n xs) (hn : 0 < n) :
    ∃ B cap, v = .slice (some ⟨B, 0, none⟩) n cap ∧ ∀ j u, xs[j]? = some u → w.cell? (Addr.add ⟨B, 0, none⟩ j) = some u := by
  obtain ⟨g, cap, rfl⟩ := owns_form h hn
  refine ⟨g, cap, rfl, fun j u hj => ?_⟩
  have hl : j < n := by
    have h1 := h.1
    rcases Nat.lt_or_ge j n with h2 | h2
    · exact h2
    · rw [List.getElem?_eq_none (by omega)] at hj; cases hj
  have e : (Addr.add ⟨g, 0, none⟩ j) = ⟨g, j, none⟩ := by cases j <;> simp [Addr.add]
  rw [e, h.cellAt j (by omega)]
  exact hj
/-- The first k, sorted. -/
structure InsI (q : Nat) (G : Nat → Nat → Nat) (k : Nat) (L : List Nat) : Prop where
  len : L.length = k
  lt : ∀ a, a ∈ L → a < k
  mem : ∀ a, a < k → a ∈ L
  srt : ∀ a b, a < b → b < k → cmpF (G (nth L a)) (G (nth L b)) q 0 < 0
theorem nth_take {L : List Nat} {p a : Nat} (h : a < p) (hp : p ≤ L.length) : ∀ M, nth (L.take p ++ M) a = nth L a := fun M => by
  have h1 : a < (L.take p).length := by simp; omega
  simp only [nth, List.getD_eq_getElem?_getD]
  rw [List.getElem?_append_left h1, List.getElem?_take_of_lt h]
theorem nth_mid {L : List Nat} {p x : Nat} (hp : p ≤ L.length) : nth (L.take p ++ x :: L.drop p) p = x := by
  have h1 : (L.take p).length = p := by simp; omega
  simp only [nth, List.getD_eq_getElem?_getD]
  rw [List.getElem?_append_right (by omega), h1]
  simp
theorem nth_drop {L : List Nat} {p a x : Nat} (h : p < a) (hp : p ≤ L.length) : nth (L.take p ++ x :: L.drop p) a = nth L (a - 1) := by
  have h1 : (L.take p).length = p := by simp; omega
  simp only [nth, List.getD_eq_getElem?_getD]
  rw [List.getElem?_append_right (by omega), h1]
  obtain ⟨d, rfl⟩ : ∃ d, a = p + 1 + d := ⟨a - p - 1, by omega⟩
  rw [show p + 1 + d - p = d + 1 by omega, List.getElem?_cons_succ, List.getElem?_drop, show p + 1 + d - 1 = p + d by omega]
theorem nth_mem2 {L : List Nat} {a : Nat} (h : a < L.length) : nth L a ∈ L := by
  unfold nth
  rw [List.getD_eq_getElem?_getD, List.getElem?_eq_getElem h]
  exact List.getElem_mem _
theorem InsI.ins {q : Nat} {G : Nat → Nat → Nat} {k p : Nat} {L : List Nat} (h : InsI q G k L) (hd : ∀ a, a < k → ¬ ∀ i, i < q → G a i = G k i) (hp : p ≤ k) (hlo : ∀ s, s < p → cmpF (G (nth L s)) (G k) q 0 < 0) (hhi : p < k → ¬ cmpF (G (nth L p)) (G k) q 0 < 0) : InsI q G (k + 1) (L.take p ++ k :: L.drop p) := by
  have hl := h.len
  have hpl : p ≤ L.length := by omega
  have up : ∀ s, p ≤ s → s < k → cmpF (G k) (G (nth L s)) q 0 < 0 := fun s hs hsk => by
    have h0 : cmpF (G k) (G (nth L p)) q 0 < 0 := by
      rcases cmp_tri (G k) (G (nth L p)) q with h1 | h1 | h1
      · exact h1
      · exact absurd h1 (hhi (by omega))
      · exact absurd (fun i hi => (h1 i hi).symm) (hd (nth L p) (h.lt _ (nth_mem2 (by omega))))
    by_cases e : s = p
    · subst e; exact h0
    · exact cmp_trans h0 (h.srt p s (by omega) hsk)
  refine ⟨by simp; omega, fun a ha => ?_, fun a ha => ?_, fun a b hab hb => ?_⟩
  · rcases List.mem_append.1 ha with h1 | h1
    · have := h.lt a (List.mem_of_mem_take h1); omega
    · rcases List.mem_cons.1 h1 with rfl | h2
      · omega
      · have := h.lt a (List.mem_of_mem_drop h2); omega
  · by_cases e : a = k
    · subst e; simp
    · have := h.mem a (by omega)
      rw [← List.take_append_drop p L] at this
      rcases List.mem_append.1 this with h1 | h1
      · exact List.mem_append.2 (.inl h1)
      · exact List.mem_append.2 (.inr (List.mem_cons_of_mem _ h1))
  · rcases Nat.lt_trichotomy b p with hbp | rfl | hbp
    · rw [nth_take (show a < p by omega) hpl, nth_take hbp hpl]; exact h.srt a b hab (by omega)
    · rw [nth_take hab hpl, nth_mid hpl]; exact hlo a hab
    · rcases Nat.lt_trichotomy a p with hap | rfl | hap
      · rw [nth_take hap hpl, nth_drop hbp hpl]; exact cmp_trans (hlo a hap) (up (b - 1) (by omega) (by omega))
      · rw [nth_mid hpl, nth_drop hbp hpl]; exact up (b - 1) (by omega) (by omega)
      · rw [nth_drop hap hpl, nth_drop hbp hpl]; exact h.srt (a - 1) (b - 1) (by omega) (by omega)
theorem InsI.zero (q : Nat) (G : Nat → Nat → Nat) : InsI q G 0 [] := ⟨rfl, fun a h => (by cases h), fun a h => absurd h (Nat.not_lt_zero _), fun a b _ h => absurd h (Nat.not_lt_zero _)⟩
end Go.Proofs.Ytappekjkcgmheaa
