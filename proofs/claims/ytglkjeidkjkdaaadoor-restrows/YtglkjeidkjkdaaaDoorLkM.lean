/-
  Three rows that grow side by side, held in one struct of the call's own. Conditions: as each theorem says.
-/
import Derived.Maps.AppendAt
import Derived.Test.YtglkjeidkjkdaaaDoorSpA
import Derived.Test.YtglkjeidkjkdaaaDoorLate
namespace Go.Proofs.YtglkjeidkjkdaaaDoor
set_option maxRecDepth 100000
open Go.RowKit

theorem own_ltR {w : World} {base size n : Nat} {e : TypeId} {v : Value} {xs : List Value} (h : w.ownsRow base e size v n xs) {b : Nat} (hb : v.ownBlock = some b) : b < w.heap.size := by
  rcases h.2 with ⟨rfl, _⟩ | ⟨g, cap, cur, rfl, _, hg, _⟩
  · cases hb
  · simp [Value.ownBlock] at hb
    subst hb
    exact (Array.getElem?_eq_some_iff.1 hg).1
def updV (v : Nat → Value) (i : Nat) (x : Value) (j : Nat) : Value := if j = i then x else v j
/-- Three rows in the cells of block B. -/
structure Lk (B : Nat) (W wx : World) (v : Nat → Value) (m : Nat → Nat) (F : Nat → Nat → Nat) : Prop where
  cell : ∀ i, i < 3 → wx.cell? ⟨B, i, none⟩ = some (v i)
  froz : ∀ i, i < 3 → wx.frozen? ⟨B, i, none⟩ = false
  own : ∀ i, i < 3 → wx.ownsRow (B + 1) 3 1 (v i) (m i) (rowVals (F i) (m i))
  ne : ∀ i j, i < 3 → j < 3 → i ≠ j → ∀ b, (v i).ownBlock = some b → (v j).ownBlock ≠ some b
  below : Below B W wx
theorem Lk.size {B : Nat} {W wx : World} {v : Nat → Value} {m : Nat → Nat} {F : Nat → Nat → Nat} (h : Lk B W wx v m F) : B + 1 ≤ wx.heap.size := World.block_lt_of_cell? _ _ (h.cell 0 (by omega))
theorem Lk.step {B : Nat} {W wx w' : World} {v : Nat → Value} {m : Nat → Nat} {F : Nat → Nat → Nat} (h : Lk B W wx v m F) (hb : Below wx.heap.size wx w') : Lk B W w' v m F := by
  have hs := h.size
  exact ⟨fun i hi => (hb.cell (p := ⟨B, i, none⟩) hs).trans (h.cell i hi), fun i hi => (hb.frozen (p := ⟨B, i, none⟩) hs).trans (h.froz i hi), fun i hi => owns_below (h.own i hi) hb, h.ne, h.below.trans (hb.mono (by omega))⟩
theorem Lk.grown {B : Nat} {W wx w1 : World} {o : Obj} {v : Nat → Value} {m : Nat → Nat} {F : Nat → Nat → Nat} {i x : Nat} {v' : Value} (h : Lk B W wx v m F) (hi : i < 3) (hF : F i (m i) = x)
    (hown : w1.ownsRow (B + 1) 3 1 v' (m i + 1) (rowVals (F i) (m i) ++ [.int .i64 (x : Nat)])) (hg : (wx.alloc o).grownBy w1 (v i).ownBlock) (hat : v'.ownBlock = (v i).ownBlock ∨ v'.ownBlock = some (wx.heap.size + 1)) :
    w1.cell? ⟨B, i, none⟩ = some (v i) ∧ w1.frozen? ⟨B, i, none⟩ = false ∧ Below B W w1 ∧ Lk B W (w1.setCell ⟨B, i, none⟩ v') (updV v i v') (upd m i (m i + 1)) F := by
  have hs := h.size
  have h' := h.step ((Below.refl _ _).alloc (Nat.le_refl _) o)
  have hb : Below (B + 1) (wx.alloc o) w1 := (Below.refl _ _).grown hg (by simp; omega) (owns_block (h.own i hi))
  have c : ∀ j, j < 3 → w1.cell? ⟨B, j, none⟩ = some (v j) := fun j hj => (hb.cell (p := ⟨B, j, none⟩) (by simp)).trans (h'.cell j hj)
  have f : ∀ j, j < 3 → w1.frozen? ⟨B, j, none⟩ = false := fun j hj => (hb.frozen (p := ⟨B, j, none⟩) (by simp)).trans (h'.froz j hj)
  refine ⟨c i hi, f i hi, h'.below.trans (hb.mono (by omega)), ?_, ?_, ?_, ?_, ?_⟩
  · intro j hj
    unfold updV
    by_cases e : j = i
    · subst e; rw [if_pos rfl]; exact World.cell?_setCell_same _ _ _ (c j hj)
    · rw [if_neg e, World.cell?_setCell_other _ _ _ _ (fun k => by injection k with _ e2; exact e e2.symm)]; exact c j hj
  · intro j hj; rw [World.frozen?_setCell]; exact f j hj
  · intro j hj
    unfold updV upd
    by_cases e : j = i
    · subst e
      rw [if_pos rfl, if_pos rfl, rowVals_succ, hF]; exact ownsRow_setCell_below hown (by simp) _
    · rw [if_neg e, if_neg e]
      refine ownsRow_setCell_below ((h'.own j hj).kept hg ?_) (by simp) _
      cases hv : (v j).ownBlock with
      | none => exact .inl rfl
      | some b => exact .inr (fun k => h.ne j i hj hi e b hv k.symm)
  · intro j l hj hl hjl b e1 e2
    unfold updV at e1 e2
    by_cases e : j = i
    · subst e
      rw [if_pos rfl] at e1
      rw [if_neg (fun k => hjl k.symm)] at e2
      rcases hat with k | k
      · exact h.ne j l hj hl hjl b (k ▸ e1) e2
      · have := own_ltR (h.own l hl) e2
        rw [k] at e1; simp at e1; omega
    · rw [if_neg e] at e1
      by_cases e' : l = i
      · subst e'
        rw [if_pos rfl] at e2
        rcases hat with k | k
        · exact h.ne j l hj hl hjl b e1 (k ▸ e2)
        · have := own_ltR (h.own j hj) e1
          rw [k] at e2; simp at e2; omega
      · rw [if_neg e'] at e2
        exact h.ne j l hj hl hjl b e1 e2
  · exact (h'.below.trans (hb.mono (by omega))).setCell (p := ⟨B, i, none⟩) (Nat.le_refl _) _
theorem Lk.congr {B : Nat} {W wx : World} {v : Nat → Value} {m m' : Nat → Nat} {F : Nat → Nat → Nat} (h : Lk B W wx v m F) (e : ∀ i, i < 3 → m i = m' i) : Lk B W wx v m' F :=
  ⟨h.cell, h.froz, fun i hi => by rw [← e i hi]; exact h.own i hi, h.ne, h.below⟩
/-- append in a region: as wpList_append_own_at, of one operation. -/
theorem wp_append_at {P : Program} {w : World} {o : Oper} {a : Act} {K : Act → World → Prop} {Q : Exit → Act → World → Prop} (s x : Operand) (t : TypeId)
    (ho : o.op = .call { callee := .builtin .append, args := #[s, x], argTypes := #[t, t] })
    (base : Nat) (e : TypeId) (i : TypeInfo) (z : Value) (size bytes : Nat) (ht : P.underlying t = some (.slice e)) (hi : P.info? e = some i) (hz : i.zero = some z)
    (hsize : i.size = size) (hby : i.bytes = bytes) (hzs : z.cells.size = size) (hsz : 0 < size)
    (v : Value) (n : Nat) (xs : List Value) (hs : a.eval s = v) (hown : w.ownsRow base e size v n xs)
    (ad : Addr) (m c : Nat) (news : List Value) (hx : a.eval x = .slice (some ad) m c) (hl : news.length = m * size) (hnews : ∀ j u, news[j]? = some u → w.cell? (ad.add j) = some u) (h1 : ∀ u ∈ news, u.oneCell' = true)
    (h63 : n + m ≤ maxLen) (hbytes : (n + m) * bytes ≤ 140737488355328) (hbase : base ≤ w.heap.size)
    (h : ∀ v' w', w'.ownsRow base e size v' (n + m) (xs ++ news) → w.grownBy w' v.ownBlock → (v'.ownBlock = v.ownBlock ∨ v'.ownBlock = some w.heap.size) → K (a.put o.dst v') w') : o.wp P a w K Q := by
  obtain ⟨v', w', hr, h2, h3, h4, h5⟩ := run_append_own_at (P := P) w base t o.type e i z size bytes ht hi hz hsize hby hzs hsz v n xs hown ad m c news hl hnews h1 h63 hbytes hbase
  unfold Oper.wp execOp
  simp only [ho, resolve, invoke, builtin, Sem.run_bind, Sem.run_pure, Result.andThen_ok, List.map_toArray, List.map_cons, List.map_nil, hs, hx, hr]
  exact h v' w' h2 h3 h5
theorem Lk.start (W : World) (F : Nat → Nat → Nat) : Lk W.heap.size W (W.alloc (.cells #[.slice none 0 0, .slice none 0 0, .slice none 0 0] 62)) (fun _ => .slice none 0 0) (fun _ => 0) F := by
  refine ⟨fun i hi => ?_, fun i hi => ?_, fun i _ => World.ownsRow_nil _ _ _ _, (fun i j _ _ _ b e => by cases e), (Below.refl _ _).alloc (Nat.le_refl _) _⟩
  · rcases (by omega : i = 0 ∨ i = 1 ∨ i = 2) with rfl | rfl | rfl <;> simp
  · exact World.frozen?_alloc_at _ _ _ _ (by simp)
end Go.Proofs.YtglkjeidkjkdaaaDoor
