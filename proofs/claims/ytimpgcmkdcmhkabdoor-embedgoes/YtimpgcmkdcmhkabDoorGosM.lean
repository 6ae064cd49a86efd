/-
  A word with a letter more; what append does with a list that is its own and one that is not. Conditions: as each theorem says.
-/
import Derived.Test.YtimpgcmkdcmhkabDoorHigM
namespace Go.Proofs.YtimpgcmkdcmhkabDoor
set_option maxRecDepth 100000
open Go.RowKit

def tk (fa : Nat → Nat) (k : Nat) : List Nat := (List.range k).map fa
def dr (fa : Nat → Nat) (k l : Nat) : List Nat := (List.range (l - k)).map (fun i => fa (k + i))
/-- A word with the letter x at place k. -/
def ins (fa : Nat → Nat) (k l x : Nat) : List Nat := (tk fa k ++ [x]) ++ dr fa k l
theorem tk_len (fa : Nat → Nat) (k : Nat) : (tk fa k).length = k := by simp [tk]
theorem dr_len (fa : Nat → Nat) (k l : Nat) : (dr fa k l).length = l - k := by simp [dr]
theorem ins_len {fa : Nat → Nat} {k l x : Nat} (hk : k ≤ l) : (ins fa k l x).length = l + 1 := by simp [ins, tk_len, dr_len]; omega
theorem ins_lo {fa : Nat → Nat} {k l x i : Nat} (h : i < k) : nth (ins fa k l x) i = fa i := by
  unfold nth ins
  rw [List.append_assoc, List.getD_eq_getElem?_getD, List.getElem?_append_left (by rw [tk_len]; exact h)]
  simp [tk, h]
theorem ins_at {fa : Nat → Nat} {k l x : Nat} : nth (ins fa k l x) k = x := by
  unfold nth ins
  rw [List.append_assoc, List.getD_eq_getElem?_getD, List.getElem?_append_right (by rw [tk_len]; omega), tk_len]
  simp
theorem ins_hi {fa : Nat → Nat} {k l x i : Nat} (h : k ≤ i) (hi : i < l) : nth (ins fa k l x) (i + 1) = fa i := by
  unfold nth ins
  rw [List.append_assoc, List.getD_eq_getElem?_getD, List.getElem?_append_right (by rw [tk_len]; omega), tk_len, List.getElem?_append_right (by simp; omega)]
  have e : i + 1 - k - [x].length = i - k := by simp; omega
  rw [e]
  simp [dr, show i - k < l - k by omega, show k + (i - k) = i by omega]
theorem ins_lt {fa : Nat → Nat} {k l x n : Nat} (hk : k ≤ l) (hf : ∀ i, i < l → fa i < n) (hx : x < n) : ∀ i, i < l + 1 → nth (ins fa k l x) i < n := fun i hi => by
  rcases Nat.lt_trichotomy i k with h | h | h
  · rw [ins_lo h]; exact hf i (by omega)
  · subst h; rw [ins_at]; exact hx
  · obtain ⟨j, rfl⟩ : ∃ j, i = j + 1 := ⟨i - 1, by omega⟩
    rw [ins_hi (by omega) (by omega)]; exact hf j (by omega)
theorem ins_emb (g : Nat → Nat) {fa : Nat → Nat} {k l x : Nat} : Emb g l fa (l + 1) (nth (ins fa k l x)) := by
  refine ⟨fun i => if i < k then i else i + 1, fun i hi => ?_, fun i j hij hj => ?_⟩
  · by_cases h : i < k
    · have e : (if i < k then i else i + 1) = i := if_pos h
      show (if i < k then i else i + 1) < l + 1 ∧ upt g (fa i) (nth (ins fa k l x) (if i < k then i else i + 1)) = true
      rw [e, ins_lo h]; exact ⟨by omega, upt_self g _⟩
    · have e : (if i < k then i else i + 1) = i + 1 := if_neg h
      show (if i < k then i else i + 1) < l + 1 ∧ upt g (fa i) (nth (ins fa k l x) (if i < k then i else i + 1)) = true
      rw [e, ins_hi (by omega) hi]; exact ⟨by omega, upt_self g _⟩
  · show (if i < k then i else i + 1) < (if j < k then j else j + 1)
    split <;> split <;> omega
/-- A list that append may be handed second. -/
def Src2 (w : World) (y : Value) (p : List Nat) : Prop := (p = [] ∧ y = .slice none 0 0) ∨ ∃ ad c, y = .slice (some ad) p.length c ∧ ∀ j u, (natVals p)[j]? = some u → w.cell? (ad.add j) = some u
theorem Src2.step {w w' : World} {y : Value} {p : List Nat} (h : Src2 w y p) (hb : Below w.heap.size w w') : Src2 w' y p := by
  rcases h with h | ⟨ad, c, e, hc⟩
  · exact .inl h
  · exact .inr ⟨ad, c, e, fun j u hj => cell_step hb (hc j u hj)⟩
theorem run_app_none (t ty : TypeId) (i : TypeInfo) (ht : Tryd.prog.underlying t = some (.slice 3)) (hi : Tryd.prog.info? 3 = some i) (b n cap : Nat) (hn : n ≤ cap) (w : World) :
    (Builtin.append_ #[t, t] ty #[.slice (some ⟨b, 0, none⟩) n cap, .slice none 0 0]).run Tryd.prog w = .ok (.slice (some ⟨b, 0, none⟩) n cap) w := by
  simp [Builtin.append_, run_underlying ht, Builtin.lenOf, Builtin.firstCells, sizeOf, typeInfo, hi, storeCells, Result.andThen, hn]
theorem wp_apnd {o : Oper} {a : Act} {K : Act → World → Prop} {Q : Exit → Act → World → Prop} (w : World) (s x : Operand)
    (ho : o.op = .call { callee := .builtin .append, args := #[s, x], argTypes := #[22, 22] }) (base b n cap : Nat) (xs : List Value) (p : List Nat) (y : Value) (hs : a.eval s = .slice (some ⟨b, 0, none⟩) n cap) (hown : w.ownsRow base 3 1 (.slice (some ⟨b, 0, none⟩) n cap) n xs) (hnc : n ≤ cap)
    (hsrc : Src2 w y p) (hx : a.eval x = y) (hlen : n + p.length ≤ 1000) (hbase : base ≤ w.heap.size)
    (h : ∀ v' w', w'.ownsRow base 3 1 v' (n + p.length) (xs ++ natVals p) → w.grownBy w' (some b) → K (a.put o.dst v') w') : o.wp Tryd.prog a w K Q := by
  obtain ⟨i0, hi, hz0, hz1, hz2⟩ := info_parts Tryd.info3
  rcases hsrc with ⟨rfl, rfl⟩ | ⟨ad, c, rfl, hc⟩
  · have hrun := run_app_none 22 o.type i0 Tryd.underlying22 hi b n cap hnc w
    unfold Oper.wp execOp
    simp only [ho, resolve, invoke, builtin, Sem.run_bind, Sem.run_pure, Result.andThen_ok, List.map_toArray, List.map_cons, List.map_nil, hs, hx, hrun]
    refine h _ _ ?_ ⟨rfl, rfl, rfl, Nat.le_refl _, fun _ _ _ => rfl⟩
    simpa [natVals] using hown
  · refine wp_append_own w s x 22 ho base 3 i0 (.int .i64 0) 1 8 Tryd.underlying22 hi hz0 hz1 hz2 rfl (by decide) _ n xs hs hown ad p.length c (natVals p) hx (by simp [natVals]) hc (fun u hu => by
      unfold natVals at hu
      obtain ⟨k, _, rfl⟩ := List.mem_map.1 hu
      rfl) (by unfold maxLen; omega) (by omega) hbase ?_
    intro v' w' h1 h2 _
    exact h v' w' h1 h2
end Go.Proofs.YtimpgcmkdcmhkabDoor
