/-
  What is appended to pairs; what Make says of covers and a pair more; what is weighed of orders that come out. Conditions: as each theorem says.
-/
import Derived.Test.YtipgojoiakbaiaaWoH
import Derived.Test.YtipgojoiakbaiaaAppend
import Derived.Test.YtipgojoiakbaiaaWoU
import Derived.Test.YtipgojoiakbaiaaWoC
namespace Go.Proofs.Ytipgojoiakbaiaa
open Go.RowKit
set_option maxRecDepth 100000

/-- The block holds cells of a type. -/
def TyB (w : World) (b : Nat) (T : TypeId) : Prop := ∃ cs fr, w.heap[b]? = some (.cells cs T fr)
theorem TyB.new (w : World) (cs : Array Value) (T : TypeId) : TyB (w.alloc (.cells cs T)) w.heap.size T := ⟨cs, (0, 0), heap_alloc_new w _⟩
theorem TyB.grown {w w' : World} {b : Nat} {T : TypeId} {row : Option Nat} (h : TyB w b T) (hg : w.grownBy w' row) (hne : some b ≠ row) : TyB w' b T := by
  obtain ⟨cs, fr, h⟩ := h
  have hlt : b < w.heap.size := (Array.getElem?_eq_some_iff.1 h).1
  exact ⟨cs, fr, (hg.block b hlt hne).trans h⟩
theorem knw_eq {f : Nat → Int} {len k : Nat} (h : k < len) : knw (nat f) len k = nat f k := by unfold knw; rw [if_pos h]
theorem cell_off {X : World} {b b' i j : Nat} {v : Value} (h : b' ≠ b) : (X.setCell ⟨b, i, none⟩ v).cell? ⟨b', j, none⟩ = X.cell? ⟨b', j, none⟩ := World.cell?_setCell_other _ _ _ _ (fun e => h (by injection e with e1; exact e1.symm))
theorem set2K {N : Nat} {w X : World} {b : Nat} {u v : Value} (h : Below N w X) (hb : N ≤ b) : Below N w ((X.setCell ⟨b, 0, none⟩ u).setCell ⟨b, 1, none⟩ v) :=
  Below.setCell (p := ⟨b, 1, none⟩) (Below.setCell (p := ⟨b, 0, none⟩) h hb _) hb _
theorem run_app_nilP (t ty : TypeId) (i : TypeInfo) (ht : Try.prog.underlying t = some (.slice 42)) (hi : Try.prog.info? 42 = some i) (b n cap : Nat) (hn : n ≤ cap) (w : World) :
    (Builtin.append_ #[t, t] ty #[.slice (some ⟨b, 0, none⟩) n cap, .slice none 0 0]).run Try.prog w = .ok (.slice (some ⟨b, 0, none⟩) n cap) w := by
  simp [Builtin.append_, run_underlying ht, Builtin.lenOf, Builtin.firstCells, sizeOf, typeInfo, hi, storeCells, Result.andThen, hn]
theorem wp_app0 {o : Oper} {a : Act} {K : Act → World → Prop} {Q : Exit → Act → World → Prop} (w : World) (s x : Operand)
    (ho : o.op = .call { callee := .builtin .append, args := #[s, x], argTypes := #[37, 37] }) (e : Nat) (hs : a.eval s = .slice (some ⟨e, 0, none⟩) 0 0) (v2 : Value) (l2 : List (Nat × Nat)) (hx : a.eval x = v2) (hsrc : PSc w v2 l2) (hlen : l2.length ≤ 1000) (base : Nat) (hbase : base ≤ w.heap.size)
    (h : ∀ v' w', PApp w' base v' l2 → w.grownBy w' none → K (a.put o.dst v') w') : o.wp Try.prog a w K Q := by
  obtain ⟨i0, hi, hz0, hz1, hz2⟩ := info_parts Try.info42
  obtain ⟨ad, cap, rfl, hcap, hp, hn⟩ := hsrc
  by_cases h0 : l2.length = 0
  · obtain rfl : l2 = [] := List.eq_nil_of_length_eq_zero h0
    simp only [List.length_nil] at hx
    cases ad with
    | none =>
      obtain rfl := hn rfl
      have hrun := run_app_nilP 37 o.type i0 Try.underlying37 hi e 0 0 (Nat.le_refl _) w
      unfold Oper.wp
      simp [execOp, ho, resolve, invoke, builtin, hs, hx, hrun, Result.andThen]
      exact h _ _ (.inl ⟨rfl, e, rfl⟩) ⟨rfl, rfl, rfl, Nat.le_refl _, fun _ _ _ => rfl⟩
    | some ad =>
      have hrun := run_append_room_cells (P := Try.prog) w 37 o.type 42 i0 Try.underlying37 hi e 0 0 0 ad 0 cap [] (by simp) (fun j u hj => by simp at hj) (fun u hu => by simp at hu) (by omega) (fun j hj => by simp at hj) (fun j hj => by simp at hj)
      unfold Oper.wp
      simp [execOp, ho, resolve, invoke, builtin, hs, hx, hrun, Result.andThen]
      exact h _ _ (.inl ⟨rfl, e, rfl⟩) ⟨rfl, rfl, rfl, Nat.le_refl _, fun _ _ _ => rfl⟩
  · obtain ⟨b, off, rfl, _⟩ := hp 0 (by omega)
    obtain ⟨v', w', hrun, r1, r2⟩ := run_append_arg_grows (P := Try.prog) w 37 o.type 42 i0 (.agg #[.int .i64 0, .int .i64 0]) 2 16 Try.underlying37 hi hz0 hz1 hz2 rfl (by decide) ⟨e, 0, none⟩ 0 0 [] rfl (fun j u hj => by simp at hj) ⟨b, off, none⟩ l2.length cap (pairVals l2) (pairVals_len l2) (prow_cells hp) (by omega) (by unfold maxLen; omega) (by omega)
    unfold Oper.wp
    simp [execOp, ho, resolve, invoke, builtin, hs, hx, hrun, Result.andThen]
    refine h v' w' (.inr (owns_base ?_ hbase)) r2
    simpa using r1
theorem wp_app1 {o : Oper} {a : Act} {K : Act → World → Prop} {Q : Exit → Act → World → Prop} (w : World) (s x : Operand)
    (ho : o.op = .call { callee := .builtin .append, args := #[s, x], argTypes := #[37, 37] }) (v : Value) (l : List (Nat × Nat)) (hs : a.eval s = v) (base : Nat) (hA : PApp w base v l) (b A B : Nat) (hx : a.eval x = .slice (some ⟨b, 0, none⟩) 1 1) (hp : PRow w (some ⟨b, 0, none⟩) 1 (pairAt [(A, B)])) (hlen : l.length ≤ 900) (hbase : base ≤ w.heap.size)
    (h : ∀ v' w', PApp w' base v' (l ++ [(A, B)]) → (∃ row, w.grownBy w' row ∧ ∀ k, row = some k → TyB w k 42 ∧ base ≤ k) → K (a.put o.dst v') w') : o.wp Try.prog a w K Q := by
  obtain ⟨i0, hi, hz0, hz1, hz2⟩ := info_parts Try.info42
  have hc := prow_cells (l := [(A, B)]) hp
  rcases hA with ⟨rfl, b', rfl⟩ | hown
  · obtain ⟨v', w', hrun, r1, r2⟩ := run_append_arg_grows (P := Try.prog) w 37 o.type 42 i0 (.agg #[.int .i64 0, .int .i64 0]) 2 16 Try.underlying37 hi hz0 hz1 hz2 rfl (by decide) ⟨b', 0, none⟩ 0 0 [] rfl (fun j u hj => by simp at hj) ⟨b, 0, none⟩ 1 1 (pairVals [(A, B)]) rfl hc (by omega) (by unfold maxLen; omega) (by omega)
    unfold Oper.wp
    simp [execOp, ho, resolve, invoke, builtin, hs, hx, hrun, Result.andThen]
    refine h v' w' (.inr (owns_base ?_ hbase)) ⟨none, r2, fun k e => by cases e⟩
    simpa using r1
  · refine wp_append_own w s x 37 ho base 42 i0 (.agg #[.int .i64 0, .int .i64 0]) 2 16 Try.underlying37 hi hz0 hz1 hz2 rfl (by decide) v l.length (pairVals l) hs hown ⟨b, 0, none⟩ 1 1 (pairVals [(A, B)]) hx rfl hc (pairVals_one _) (by unfold maxLen; omega) (by omega) hbase ?_
    intro v' w' hown' hgrow _
    refine h v' w' (.inr ?_) ⟨_, hgrow, fun k e => ?_⟩
    · rw [List.length_append, pairVals_append]; exact hown'
    · rcases hown.2 with ⟨rfl, _⟩ | ⟨g, cap, cur, rfl, hb, hg, _⟩
      · cases e
      · have e2 : g = k := by simpa [Value.ownBlock] using e
        subst e2
        exact ⟨⟨cur, (0, 0), hg⟩, hb⟩
/-- A box for an order that is still empty. -/
def ZBx (X : World) (b : Nat) : Prop := ZBox X b ∧ TyB X b 24
theorem ZBx.lt {X : World} {b : Nat} (h : ZBx X b) : b < X.heap.size := World.block_lt_of_cell? _ _ h.1.1
theorem zb_gr {X Y : World} {b : Nat} {row : Option Nat} (h : Hid (ZBx X b)) (hg : X.grownBy Y row) (hr : ∀ k, row = some k → TyB X k 42) : Hid (ZBx Y b) := by
  have hne : some b ≠ row := fun e => by
    obtain ⟨cs, fr, h1⟩ := hr b e.symm
    obtain ⟨cs', fr', h2⟩ := h.out.2
    rw [h1] at h2; simp at h2
  have hb : Y.heap[b]? = X.heap[b]? := hg.block b h.out.lt hne
  obtain ⟨⟨z1, z2, z3, z4⟩, hty⟩ := h.out
  exact ⟨⟨(World.cell?_of_block (w := X) (a := ⟨b, 0, none⟩) hb).trans z1, (World.cell?_of_block (w := X) (a := ⟨b, 1, none⟩) hb).trans z2, (World.frozen?_of_block (w := X) (a := ⟨b, 0, none⟩) hb).trans z3, (World.frozen?_of_block (w := X) (a := ⟨b, 1, none⟩) hb).trans z4⟩, hty.grown hg hne⟩
theorem zb_new {X wa : World} (h : X.alloc (.cells #[.int .i64 0, .slice none 0 0] 24) = wa) : Hid (ZBx wa X.heap.size) := by rw [← h]; exact ⟨ZBox.new X, TyB.new X _ _⟩
theorem zb_al {X wa : World} {o : Obj} {b : Nat} (h : Hid (ZBx X b)) (e : X.alloc o = wa) : Hid (ZBx wa b) := zb_gr h (by rw [← e]; exact World.grownBy_alloc _ _ none) (fun k e => by cases e)
theorem zb_be {X Y : World} {b : Nat} (h : Hid (ZBx X b)) (hb : Below X.heap.size X Y) : Hid (ZBx Y b) := zb_gr h (grown_of_below hb none) (fun k e => by cases e)
theorem prow_new {X wa : World} {A B : Nat} (h : X.alloc (.cells #[.int .i64 (A : Nat), .int .i64 (B : Nat)] 42) = wa) : Hid (PRow wa (some ⟨X.heap.size, 0, none⟩) 1 (pairAt [(A, B)])) := by
  rw [← h]
  intro k hk
  obtain rfl : k = 0 := by omega
  exact ⟨X.heap.size, 0, rfl, by simp [pairAt], by simp [pairAt]⟩
theorem prow_gr {X Y : World} {a : Option Addr} {n : Nat} {p : Nat → Int × Int} (h : Hid (PRow X a n p)) (hg : X.grownBy Y none) : Hid (PRow Y a n p) := fun k hk => by
  obtain ⟨b, off, e, h1, h2⟩ := h.out k hk
  exact ⟨b, off, e, hg.cell h1 (by simp), hg.cell h2 (by simp)⟩
theorem prow_al {X wa : World} {o : Obj} {a : Option Addr} {n : Nat} {p : Nat → Int × Int} (h : Hid (PRow X a n p)) (e : X.alloc o = wa) : Hid (PRow wa a n p) := prow_gr h (by rw [← e]; exact World.grownBy_alloc _ _ none)
theorem papp_al {X wa : World} {o : Obj} {base : Nat} {v : Value} {l : List (Nat × Nat)} (h : Hid (PApp X base v l)) (e : X.alloc o = wa) : Hid (PApp wa base v l) := by
  rw [← e]
  rcases h.out with h | h
  · exact .inl h
  · exact .inr (h.alloc o)
/-- What Make answers of the covers and a pair more. -/
def MadeG (n : Nat) (g : Nat → Nat) (A B : Nat) (B0 : Nat) (e : Ending) (w' : World) : Prop := ∃ (i : Int) (a' : Option Addr) (l' c' : Nat) (c : Int), e = .returned (.tuple #[.agg #[.int .i64 i, .slice a' l' c'], .int .i64 c]) ∧
  ((c = 4 ∧ (A = B ∨ (g A).testBit B = true)) ∨ (c = 0 ∧ A ≠ B ∧ (g A).testBit B = false ∧ i = (n : Int) ∧ l' = n ∧ Row w' a' n (fun k => (wth g A B k : Nat)) ∧ ∃ b, a' = some ⟨b, 0, none⟩ ∧ B0 ≤ b ∧ b < w'.heap.size))
theorem made_g {n : Nat} {g : Nat → Nat} {A B : Nat} (h : WOk n g) (hA : A < n) (hB : B < n) {w w' : World} {e : Ending} (hm : Made (n : Int) (plus g n A B).length (pairAt (plus g n A B)) w e w') : MadeG n g A B w.heap.size e w' := by
  rcases hm with ⟨c, hc, hk, rfl⟩ | ⟨m, b, hk, hn, _, hb, rfl, hown⟩
  · refine ⟨0, none, 0, 0, c, rfl, ?_⟩
    rcases plus_mk h hA hB hk with h1 | ⟨h1, _⟩
    · exact .inl h1
    · exact absurd h1 hc
  · obtain rfl : n = m := by omega
    refine ⟨_, _, _, _, 0, rfl, ?_⟩
    rcases plus_mk h hA hB hk with ⟨h1, _⟩ | ⟨_, h1, h2⟩
    · cases h1
    · refine .inr ⟨rfl, h1, h2, rfl, rfl, ?_, b, rfl, hb, hown.lt hA⟩
      exact (hown.congr fun k hk' => plus_same h hA hB h1 h2 hk').row
theorem wok_chk {n : Nat} {g : Nat → Nat} (h : WOk n g) : WCk n n (fun k => (g k : Nat)) 0 := by
  have e : nat (fun k => ((g k : Nat) : Int)) = g := by funext k; simp [nat]
  refine .inr ⟨.inr ⟨n, rfl, by have := h.n5; omega, .inr ⟨rfl, .inr ⟨?_, .inr ⟨rfl, ?_⟩⟩⟩⟩, .inr ⟨h.n5, rfl⟩⟩
  · intro k hk; have := h.sm k hk; exact ⟨by show (0 : Int) ≤ ((g k : Nat) : Int); omega, by show ((g k : Nat) : Int) < _; omega⟩
  · rw [e]; exact h.ord
theorem wok_knw {n : Nat} {g : Nat → Nat} (h : WOk n g) : knw (nat (fun k => ((g k : Nat) : Int))) n = g := by
  funext p
  unfold knw nat
  split
  · simp
  · rw [h.out p (by omega)]
/-- Turned over. -/
def dlN (g : Nat → Nat) (n p : Nat) : Nat := if p < n then trn g n p else 0
theorem dlN_bit {g : Nat → Nat} {n p x : Nat} : (dlN g n p).testBit x = true ↔ p < n ∧ x < n ∧ (g x).testBit p = true := by
  unfold dlN
  split
  · rename_i hp
    unfold trn
    rw [setBy_bit, Bool.and_eq_true, decide_eq_true_eq]
    exact ⟨fun h => ⟨hp, h⟩, fun h => h.2⟩
  · rename_i hp
    simp [hp]
theorem dlN_ok {n : Nat} {g : Nat → Nat} (h : WOk n g) : WOk n (dlN g n) := by
  refine ⟨h.n5, fun k hk => ?_, fun p hp => by unfold dlN; rw [if_neg (by omega)], fun p => ?_, fun p x y h1 h2 => ?_⟩
  · unfold dlN; rw [if_pos hk]; exact setBy_lt _ _
  · rw [Bool.eq_false_iff]; intro hc
    have := (dlN_bit.1 hc).2.2
    rw [h.irr p] at this; cases this
  · obtain ⟨a1, a2, a3⟩ := dlN_bit.1 h1
    obtain ⟨b1, b2, b3⟩ := dlN_bit.1 h2
    exact dlN_bit.2 ⟨a1, b2, h.tr y x p b3 a3⟩
theorem dlN_dl {n : Nat} {g : Nat → Nat} (h : WOk n g) : Dl g (dlN g n) := fun p x => by
  rw [dlN_bit]
  exact ⟨fun k => ⟨(h.lt k).1, (h.lt k).2, k⟩, fun k => k.2.2⟩
theorem dlN_trn {n : Nat} {f : Nat → Int} {k : Nat} (hk : k < n) : trn (nat f) n k = dlN (knw (nat f) n) n k := by
  unfold dlN trn
  rw [if_pos hk]
  exact setBy_congr n fun i hi => by rw [knw_eq hi]
theorem covs_knw {f : Nat → Int} {n : Nat} : covs (knw (nat f) n) n = covs (nat f) n := by
  unfold covs
  refine allPairs_congr n fun x y hx hy => ?_
  have e : trn (knw (nat f) n) n x = trn (nat f) n x := setBy_congr n fun i hi => by rw [knw_eq hi]
  unfold covB
  rw [knw_eq hy, e]
theorem covs_small {g : Nat → Nat} {n : Nat} (h : n ≤ 5) : (covs g n).length ≤ 50 := by
  have := allPairs_len (covB g n) n (by omega) n
  unfold covs; omega
end Go.Proofs.Ytipgojoiakbaiaa
