/-
  Pairs in slices: reading and appending. Conditions: as each theorem says.
  What slices.Clone answers of pairs. Conditions: the pairs lie there; at most a thousand.
  What quotient.together keeps: the classes so far, the pairs that are left, and how far it has still to go. Conditions: as each theorem says.
-/
import Derived.ArgAppend
import Derived.Test.YthhnngmfbbljaaaGreatShkM
import Derived.Test.YthhnngmfbbljaaaGreatConN
import Derived.Lib.SliceRun
import Derived.WalkSmall
import Derived.Test.YthhnngmfbbljaaaGreatLaws
namespace Go.Proofs.YthhnngmfbbljaaaGreat
set_option maxRecDepth 100000
open Go.RowKit

theorem Tryz.infoRU : (Tryz.prog.info? 94).map (fun i => (i.zero, i.size, i.bytes)) = some (some (.agg #[.int .i64 0, .int .i64 0]), 2, 16) := by kernel_rfl
theorem pairAt_get {l : List (Nat × Nat)} {j : Nat} (h : j < l.length) : pairAt l j = ((l[j].1 : Int), (l[j].2 : Int)) := by simp [pairAt, h]
theorem pairVals_len : ∀ l : List (Nat × Nat), (pairVals l).length = l.length * 2
  | [] => rfl
  | _ :: l => by simp [pairVals, pairVals_len l]; omega
theorem pairVals_one : ∀ (l : List (Nat × Nat)) (u : Value), u ∈ pairVals l → u.oneCell' = true
  | [], u, h => by simp [pairVals] at h
  | q :: l, u, h => by
    simp [pairVals] at h
    rcases h with rfl | rfl | h
    · rfl
    · rfl
    · exact pairVals_one l u h
theorem add_flat (b off j : Nat) : Addr.add ⟨b, off, none⟩ j = ⟨b, off + j, none⟩ := by
  cases j <;> simp [Addr.add]
theorem prow_cells {w : World} {b off : Nat} {l : List (Nat × Nat)} (h : PRow w (some ⟨b, off, none⟩) l.length (pairAt l)) : ∀ j u, (pairVals l)[j]? = some u → w.cell? (Addr.add ⟨b, off, none⟩ j) = some u := fun j u hj => by
  have hlt : j < l.length * 2 := by
    rw [← pairVals_len]
    exact (List.getElem?_eq_some_iff.1 hj).1
  obtain ⟨q, hq⟩ : ∃ q, j = q * 2 ∨ j = q * 2 + 1 := ⟨j / 2, by omega⟩
  obtain ⟨b', off', e, h1, h2⟩ := h q (by omega)
  simp at e
  obtain ⟨rfl, rfl⟩ := e
  obtain ⟨p1, p2⟩ := pairVals_at l q (by omega)
  rcases hq with rfl | rfl
  · rw [p1] at hj; cases hj; rw [add_flat]; exact h1
  · rw [p2] at hj; cases hj; rw [add_flat, ← Nat.add_assoc]; exact h2
theorem prow_take {w : World} {b off : Nat} {l : List (Nat × Nat)} {k : Nat} (hk : k ≤ l.length) (h : PRow w (some ⟨b, off, none⟩) l.length (pairAt l)) : PRow w (some ⟨b, off, none⟩) (l.take k).length (pairAt (l.take k)) := fun j hj => by
  have hj' : j < k := by simp at hj; omega
  obtain ⟨b', off', e, h1, h2⟩ := h j (by omega)
  refine ⟨b', off', e, ?_, ?_⟩
  · rw [h1]; simp [pairAt, hj']
  · rw [h2]; simp [pairAt, hj']
theorem prow_drop {w : World} {b off : Nat} {l : List (Nat × Nat)} {k : Nat} (h : PRow w (some ⟨b, off, none⟩) l.length (pairAt l)) : PRow w (some ⟨b, off + k * 2, none⟩) (l.drop k).length (pairAt (l.drop k)) := fun j hj => by
  have hj' : k + j < l.length := by simp at hj; omega
  obtain ⟨b', off', e, h1, h2⟩ := h (k + j) hj'
  simp at e
  obtain ⟨rfl, rfl⟩ := e
  refine ⟨b, off + k * 2, rfl, ?_, ?_⟩
  · rw [show off + k * 2 + j * 2 = off + (k + j) * 2 by omega, h1]; simp [pairAt]
  · rw [show off + k * 2 + j * 2 + 1 = off + (k + j) * 2 + 1 by omega, h2]; simp [pairAt]
/-- The pairs l lie in v, above base; or v is empty and has no room. -/
def PApp (w : World) (base : Nat) (v : Value) (l : List (Nat × Nat)) : Prop :=
  (l = [] ∧ ∃ b, v = .slice (some ⟨b, 0, none⟩) 0 0) ∨ w.ownsRow base 94 2 v l.length (pairVals l)
theorem owns_qpairs {w : World} {base : Nat} {v : Value} {l : List (Nat × Nat)} (h : w.ownsRow base 94 2 v l.length (pairVals l)) : PSl w v l := by
  by_cases hn : 0 < l.length
  · obtain ⟨g, cap, rfl⟩ := owns_form h hn
    refine ⟨_, cap, rfl, fun k hk => ⟨g, 0, rfl, ?_, ?_⟩⟩
    · rw [Nat.zero_add, h.cellAt _ (by omega)]; exact (pairVals_at l k hk).1
    · rw [Nat.zero_add, h.cellAt _ (by omega)]; exact (pairVals_at l k hk).2
  · have h0 : l.length = 0 := by omega
    rcases h.2 with ⟨rfl, _⟩ | ⟨g, cap, cur, rfl, _⟩
    · exact ⟨none, 0, by rw [h0], fun k hk => absurd (Nat.lt_of_le_of_lt (Nat.zero_le _) hk) hn⟩
    · exact ⟨_, cap, rfl, fun k hk => absurd (Nat.lt_of_le_of_lt (Nat.zero_le _) hk) hn⟩

theorem PApp.pairs {w : World} {base : Nat} {v : Value} {l : List (Nat × Nat)} (h : PApp w base v l) : PSl w v l := by
  rcases h with ⟨rfl, b, rfl⟩ | h
  · exact ⟨_, 0, rfl, fun k hk => absurd hk (Nat.not_lt_zero _)⟩
  · exact owns_qpairs h
theorem owns_base {w : World} {base base' e size : Nat} {v : Value} {n : Nat} {xs : List Value} (h : w.ownsRow base e size v n xs) (hb : base' ≤ base) : w.ownsRow base' e size v n xs := by
  obtain ⟨h1, h2 | ⟨g, cap, cur, h3, h4, h5⟩⟩ := h
  · exact ⟨h1, .inl h2⟩
  · exact ⟨h1, .inr ⟨g, cap, cur, h3, Nat.le_trans hb h4, h5⟩⟩

theorem wp_app {o : Oper} {a : Act} {K : Act → World → Prop} {Q : Exit → Act → World → Prop} (w W : World) (s x : Operand)
    (ho : o.op = .call { callee := .builtin .append, args := #[s, x], argTypes := #[92, 92] }) (v : Value) (l l2 : List (Nat × Nat)) (hs : a.eval s = v) (hA : PApp w W.heap.size v l) (hB : Below W.heap.size W w)
    (b off m c : Nat) (hx : a.eval x = .slice (some ⟨b, off, none⟩) m c) (hm : m = l2.length) (hp : PRow w (some ⟨b, off, none⟩) l2.length (pairAt l2)) (hlen : l.length + l2.length ≤ 1000)
    (h : ∀ v' w', PApp w' W.heap.size v' (l ++ l2) → Below W.heap.size W w' → K (a.put o.dst v') w') : o.wp Tryz.prog a w K Q := by
  obtain ⟨i0, hi, hz0, hz1, hz2⟩ := info_parts Tryz.infoRU
  have hc := prow_cells hp
  have h1 := pairVals_one l2
  have hl := pairVals_len l2
  subst hm
  rcases hA with ⟨rfl, b', rfl⟩ | hown
  · by_cases h0 : l2.length = 0
    · obtain rfl : l2 = [] := List.eq_nil_of_length_eq_zero h0
      have hrun := run_append_room_cells (P := Tryz.prog) w 92 o.type 94 i0 Tryz.underlying92 hi b' 0 0 0 ⟨b, off, none⟩ 0 c [] (by simp) (fun j u hj => by simp at hj) (fun u hu => by simp at hu) (by omega) (fun j hj => by simp at hj) (fun j hj => by simp at hj)
      unfold Oper.wp
      simp only [List.length_nil] at hx
      simp [execOp, ho, resolve, invoke, builtin, hs, hx, hrun, Result.andThen]
      exact h _ _ (.inl ⟨rfl, b', rfl⟩) hB
    · obtain ⟨v', w', hrun, r1, r2⟩ := run_append_arg_grows (P := Tryz.prog) w 92 o.type 94 i0 (.agg #[.int .i64 0, .int .i64 0]) 2 16 Tryz.underlying92 hi hz0 hz1 hz2 rfl (by decide) ⟨b', 0, none⟩ 0 0 [] rfl (fun j u hj => by simp at hj) ⟨b, off, none⟩ l2.length c (pairVals l2) hl hc (by omega) (by unfold maxLen; omega) (by omega)
      unfold Oper.wp
      simp [execOp, ho, resolve, invoke, builtin, hs, hx, hrun, Result.andThen]
      refine h v' w' (.inr (owns_base ?_ hB.size)) (hB.grown r2 hB.size (by simp))
      simpa using r1
  · refine wp_append_own w s x 92 ho W.heap.size 94 i0 (.agg #[.int .i64 0, .int .i64 0]) 2 16 Tryz.underlying92 hi hz0 hz1 hz2 rfl (by decide) v l.length (pairVals l) hs hown ⟨b, off, none⟩ l2.length c (pairVals l2) hx hl hc h1 (by unfold maxLen; omega) (by omega) hB.size ?_
    intro v' w' hown' hgrow _
    refine h v' w' (.inr ?_) (hB.grown hgrow hB.size (owns_block hown))
    rw [List.length_append, pairVals_append]
    exact hown'
end Go.Proofs.YthhnngmfbbljaaaGreat
namespace Go.Proofs.YthhnngmfbbljaaaGreat
open Go.RowKit

/-- Pairs that lie there, or nil. -/
def PSrc (w : World) (v : Value) (l : List (Nat × Nat)) : Prop := (l = [] ∧ v = .slice none 0 0) ∨ (∃ b off c, v = .slice (some ⟨b, off, none⟩) l.length c ∧ PRow w (some ⟨b, off, none⟩) l.length (pairAt l))
theorem PSrc.step {w w' : World} {v : Value} {l : List (Nat × Nat)} (h : PSrc w v l) (hb : Below w.heap.size w w') : PSrc w' v l := by
  rcases h with h | ⟨b, off, c, e, hr⟩
  · exact .inl h
  · exact .inr ⟨b, off, c, e, hr.below hb⟩
set_option maxRecDepth 100000 in
set_option maxHeartbeats 1000000 in
theorem clone_any (v : Value) (l : List (Nat × Nat)) (w : World) (hl : l.length ≤ 1000) (hv : PSrc w v l) :
    Calls Tryz.prog 82 #[v] w fun e w' => (∃ v', e = .returned v' ∧ w'.ownsRow w.heap.size 94 2 v' l.length (pairVals l)) ∧ Below w.heap.size w w' := by
  obtain ⟨i0, hi, hz0, hz1, hz2⟩ := info_parts Tryz.infoRU
  rcases hv with ⟨rfl, rfl⟩ | ⟨b, off, c, rfl, hr⟩
  · have hq : ∀ w, (binOp .eql 92 (.slice none 0 0) (.slice none 0 0)).run Tryz.prog w = .ok (.bool true) w := fun w => Lib.run_eql_slice_nil w 92 94 none 0 0 0 0 Tryz.underlying92
    go_enter Tryz.func82, Tryz.ntmps82
    go_wp2_with fail
    go_ret
    exact ⟨⟨_, rfl, World.ownsRow_nil _ _ _ _⟩, Below.refl _ _⟩
  · have hq : ∀ w, (binOp .eql 92 (.slice (some ⟨b, off, none⟩) l.length c) (.slice none 0 0)).run Tryz.prog w = .ok (.bool false) w := fun w => Lib.run_eql_slice_nil w 92 94 (some ⟨b, off, none⟩) l.length c 0 0 Tryz.underlying92
    have hb0 : Below w.heap.size w (w.alloc (.cells #[] 94)) := (Below.refl _ _).alloc (Nat.le_refl _) _
    have HC := (show Hid _ from prow_cells (hr.below hb0))
    have HB : Hid (Below w.heap.size w (w.alloc (.cells #[] 94))) := hb0
    have hown : (w.alloc (.cells #[] 94)).ownsRow w.heap.size 94 2 (.slice (some ⟨w.heap.size, 0, none⟩) 0 0) 0 [] := World.ownsRow_made w #[] 0 (Nat.le_refl _) (by unfold maxLen; omega) (by simp)
    clear hr hb0
    go_enter Tryz.func82, Tryz.ntmps82
    go_wp2_with (at_builtin; refine wpList_append_own _ rfl _ _ 92 rfl w.heap.size 94 i0 (.agg #[.int .i64 0, .int .i64 0]) 2 16 Tryz.underlying92 hi hz0 hz1 hz2 rfl (by decide) _ _ _ rfl hown ⟨b, off, none⟩ l.length c (pairVals l) rfl (pairVals_len l) ?c1 (pairVals_one l) ?c3 ?c4 ?c5 ?_)
    case c1 => exact HC.out
    case c3 => unfold maxLen; omega
    case c4 => omega
    case c5 => simp
    intro v' w' hown' hgrow _
    have HO : Hid (w'.ownsRow w.heap.size 94 2 v' l.length (pairVals l)) := hown'
    have HB2 : Hid (Below w.heap.size w w') := HB.out.grown hgrow (by simp) (fun j e => by cases e; exact Nat.le_refl _)
    clear hown' hgrow hown
    go_wp2_with fail
    go_ret
    exact ⟨⟨_, rfl, HO.out⟩, HB2.out⟩
end Go.Proofs.YthhnngmfbbljaaaGreat
namespace Go.Proofs.YthhnngmfbbljaaaGreat
set_option maxRecDepth 100000
open Go.RowKit

theorem owns_popP {w : World} {base g cap : Nat} {L : List (Nat × Nat)} {p : Nat × Nat} (h : w.ownsRow base 94 2 (.slice (some ⟨g, 0, none⟩) (L.length + 1) cap) (L.length + 1) (pairVals (L ++ [p]))) :
    w.ownsRow base 94 2 (.slice (some ⟨g, 0, none⟩) L.length cap) L.length (pairVals L) := by
  rw [pairVals_append] at h
  exact ownsRow_pop (pairVals_len L) h
theorem cntB_congr {P Q : Nat → Bool} : ∀ k, (∀ i, i < k → P i = Q i) → cntB P k = cntB Q k := fun k h =>
  Nat.le_antisymm (cntB_mono k fun i hi e => by rw [← h i hi]; exact e) (cntB_mono k fun i hi e => by rw [h i hi]; exact e)
theorem frst_congr {c d : Nat → Nat} {k : Nat} (h : ∀ i, i ≤ k → c i = d i) : frst c k = frst d k := by
  rw [Bool.eq_iff_iff, frst_iff, frst_iff]
  constructor
  · intro h1 i hi
    rw [← h i (by omega), ← h k (Nat.le_refl _)]
    exact h1 i hi
  · intro h1 i hi
    rw [h i (by omega), h k (Nat.le_refl _)]
    exact h1 i hi
theorem clsN_congr {c d : Nat → Nat} {q : Nat} (h : ∀ i, i < q → c i = d i) : clsN c q = clsN d q :=
  cntB_congr q fun i hi => frst_congr fun j hj => h j (by omega)
/-- The classes as they lie in a block. -/
def cOf (w : World) (B x : Nat) : Nat := match w.cell? ⟨B, x, none⟩ with | some (.int _ v) => v.toNat | _ => 0
theorem cOf_own {w : World} {B q : Nat} {c : Nat → Nat} (h : Own w B q c) {x : Nat} (hx : x < q) : cOf w B x = c x := by
  unfold cOf
  rw [(h x hx).1]
  simp
def lenV : Value → Nat
  | .slice _ n _ => n
  | _ => 0
/-- How far there is still to go. -/
def mesT (B q : Nat) (v : Value) (w : World) : Nat := clsN (cOf w B) q * (2 * q + 1) + lenV v
theorem mesT_own {B q : Nat} {v : Value} {w : World} {c : Nat → Nat} (h : Own w B q c) : mesT B q v w = clsN c q * (2 * q + 1) + lenV v := by
  unfold mesT
  rw [clsN_congr (d := c) fun i hi => cOf_own h hi]
theorem owns_lenV {w : World} {base e size n : Nat} {v : Value} {xs : List Value} (h : w.ownsRow base e size v n xs) : lenV v = n := by
  rcases h.2 with ⟨rfl, rfl⟩ | ⟨g, cap, cur, rfl, _⟩
  · rfl
  · rfl
/-- What holds at each turn. -/
structure TgI (w0 : World) (B q : Nat) (m j : Nat → Nat → Nat) (P : List (Nat × Nat)) (c : Nat → Nat) (L : List (Nat × Nat)) (v : Value) (wx : World) : Prop where
  inv : TInv q m j P c L
  own : Own wx B q c
  low : ∀ x, x < q → c x < q
  row : wx.ownsRow (B + 1) 94 2 v L.length (pairVals L)
  bel : Below w0.heap.size w0 wx
  sml : clsN c q * (2 * q) + L.length ≤ 5000
theorem rel1_low {c : Nat → Nat} {q a b : Nat} (h : ∀ x, x < q → c x < q) (hb : b < q) : ∀ x, x < q → rel1 c a b x < q := fun x hx => by
  unfold rel1
  split
  · exact hb
  · exact h x hx
theorem less_sml {k k' q l : Nat} (h : k' < k) (hs : k * (2 * q) + (l + 1) ≤ 5000) : k' * (2 * q) + (l + 2 * q) ≤ 5000 := by
  have := Nat.mul_le_mul_right (2 * q) (show k' + 1 ≤ k from h)
  rw [Nat.succ_mul] at this
  omega
theorem less_mes {k k' q l : Nat} (h : k' < k) : k' * (2 * q + 1) + (l + 2 * q) < k * (2 * q + 1) + (l + 1) := by
  have := Nat.mul_le_mul_right (2 * q + 1) (show k' + 1 ≤ k from h)
  rw [Nat.succ_mul] at this
  omega
theorem start_sml {q l : Nat} (h40 : q ≤ 40) (hl : l ≤ 1000) : clsN (fun x => x) q * (2 * q) + l ≤ 5000 := by
  have h1 : clsN (fun x => x) q ≤ 40 := Nat.le_trans (cntB_le _ _) h40
  have := Nat.mul_le_mul h1 (show 2 * q ≤ 80 by omega)
  omega
theorem list_last {L : List (Nat × Nat)} (h : 0 < L.length) : ∃ L' x y, L = L' ++ [(x, y)] := by
  have hne : L ≠ [] := by intro e; subst e; simp at h
  exact ⟨L.dropLast, (L.getLast hne).1, (L.getLast hne).2, (List.dropLast_concat_getLast hne).symm⟩
theorem last_at (L : List (Nat × Nat)) (x y : Nat) : (pairVals (L ++ [(x, y)]))[L.length * 2]? = some (.int .i64 (x : Nat)) ∧ (pairVals (L ++ [(x, y)]))[L.length * 2 + 1]? = some (.int .i64 (y : Nat)) := by
  have := pairVals_at (L ++ [(x, y)]) L.length (by simp)
  simpa [pairAt] using this
theorem owns_parts {w : World} {base e size n : Nat} {v : Value} {xs : List Value} (h : w.ownsRow base e size v n xs) (hn : 0 < n) : ∃ g cap, v = .slice (some ⟨g, 0, none⟩) n cap ∧ n ≤ cap ∧ cap ≤ maxLen ∧ base ≤ g := by
  rcases h.2 with ⟨_, h0⟩ | ⟨g, cap, cur, rfl, h2, _, h4, h5, _⟩
  · omega
  · exact ⟨g, cap, rfl, h4, h5, h2⟩
theorem TgI.drew {w0 : World} {B q : Nat} {m j : Nat → Nat → Nat} {P : List (Nat × Nat)} {c : Nat → Nat} {L : List (Nat × Nat)} {v : Value} {wx : World} (h : TgI w0 B q m j P c L v wx) : TgI w0 B q m j P c L v wx.drew := ⟨h.inv, h.own, h.low, h.row.drew, h.bel.drew, h.sml⟩
theorem TgI.skipT {w0 : World} {B q : Nat} {m j : Nat → Nat → Nat} {P : List (Nat × Nat)} {c : Nat → Nat} {L : List (Nat × Nat)} {x y g cap n : Nat} {wx : World} (h : TgI w0 B q m j P c (L ++ [(x, y)]) (.slice (some ⟨g, 0, none⟩) n cap) wx) (hn : n = L.length + 1) (e : c x = c y) :
    TgI w0 B q m j P c L (.slice (some ⟨g, 0, none⟩) L.length cap) wx := by
  subst hn
  have hr := h.row
  have hs := h.sml
  rw [List.length_append, List.length_singleton] at hr hs
  exact ⟨h.inv.skip e, h.own, h.low, owns_popP hr, h.bel, by omega⟩
theorem TgI.pop {w0 : World} {B q : Nat} {m j : Nat → Nat → Nat} {P : List (Nat × Nat)} {c : Nat → Nat} {L : List (Nat × Nat)} {x y g cap n : Nat} {wx : World} (h : TgI w0 B q m j P c (L ++ [(x, y)]) (.slice (some ⟨g, 0, none⟩) n cap) wx) (hn : n = L.length + 1) :
    wx.ownsRow (B + 1) 94 2 (.slice (some ⟨g, 0, none⟩) L.length cap) L.length (pairVals L) := by
  subst hn
  have hr := h.row
  rw [List.length_append, List.length_singleton] at hr
  exact owns_popP hr
theorem owns_none {w : World} {base e size : Nat} {v : Value} {xs : List Value} (h : w.ownsRow base e size v 0 xs) : ∃ a cap, v = .slice a 0 cap := by
  rcases h.2 with ⟨rfl, _⟩ | ⟨g, cap, cur, rfl, _⟩
  · exact ⟨_, _, rfl⟩
  · exact ⟨_, _, rfl⟩
theorem owns_far {w w' : World} {base e size n : Nat} {v : Value} {xs : List Value} {row : Option Nat} (h : w.ownsRow base e size v n xs) (hg : w.grownBy w' row) (hlt : ∀ k, row = some k → k < base) : w'.ownsRow base e size v n xs := by
  refine ⟨h.1, ?_⟩
  rcases h.2 with h0 | ⟨g, cap, cur, h1, h2, h3, h4⟩
  · exact .inl h0
  · exact .inr ⟨g, cap, cur, h1, h2, (hg.block g (Array.getElem?_eq_some_iff.1 h3).1 (fun e => by have := hlt g e.symm; omega)).trans h3, h4⟩
theorem LB.far {w w' : World} {B : Nat} {n : Int} {a : Option Addr} {la ca : Nat} {b : Option Addr} {lb cb : Nat} {row : Option Nat} (h : LB w B n a la ca b lb cb) (hg : w.grownBy w' row) (hne : some B ≠ row) : LB w' B n a la ca b lb cb :=
  ⟨(hg.cell_far ⟨B, 0, none⟩ (World.block_lt_of_cell? _ _ h.1) hne).trans h.1, (hg.cell_far ⟨B, 1, none⟩ (World.block_lt_of_cell? _ _ h.2.1) hne).trans h.2.1, (hg.cell_far ⟨B, 2, none⟩ (World.block_lt_of_cell? _ _ h.2.2) hne).trans h.2.2⟩
theorem LB.keep {N : Nat} {w w' : World} {B : Nat} {n : Int} {a : Option Addr} {la ca : Nat} {b : Option Addr} {lb cb : Nat} (h : LB w B n a la ca b lb cb) (hb : Below N w w') (hB : B < N) : LB w' B n a la ca b lb cb :=
  ⟨(hb.cell (p := ⟨B, 0, none⟩) hB).trans h.1, (hb.cell (p := ⟨B, 1, none⟩) hB).trans h.2.1, (hb.cell (p := ⟨B, 2, none⟩) hB).trans h.2.2⟩
/-- Two pairs in a new block. -/
theorem prow_two {w : World} {t : TypeId} {x y z u : Nat} : PRow (w.alloc (.cells #[.int .i64 (x : Nat), .int .i64 (y : Nat), .int .i64 (z : Nat), .int .i64 (u : Nat)] t)) (some ⟨w.heap.size, 0, none⟩) [(x, y), (z, u)].length (pairAt [(x, y), (z, u)]) := fun k hk => by
  refine ⟨w.heap.size, 0, rfl, ?_, ?_⟩
  all_goals
    rcases (show k = 0 ∨ k = 1 by simp at hk; omega) with rfl | rfl <;> simp [pairAt]
end Go.Proofs.YthhnngmfbbljaaaGreat
