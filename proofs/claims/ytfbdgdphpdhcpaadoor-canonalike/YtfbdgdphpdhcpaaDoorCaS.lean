/-
  Regions that draw their order and end with stores: an operation for which the late ones wait by way of another one may be taken first. No condition.
  Regions that draw their order: an operation may be taken first, if the late ones wait for it, be it by way of others. No condition.
  What the reference's May, and extend's mayFollow and goingOn answer. Conditions: an order of at most ten points that lies in a slice of numbers; a table of what goes behind each set.
  What slices.Clone answers of numbers. Conditions: at most ten.
  Small laws of other texts: what canon's own calls ask of them. No condition.
  canon.lists hands back an iterator over all lists of n points, in order. Conditions: at most ten points; the library's table.
-/
import Derived.Test.YtfbdgdphpdhcpaaDoorLateF
import Derived.Test.YtfbdgdphpdhcpaaDoorCaM
import Derived.Test.YtfbdgdphpdhcpaaDoorBuild
import Derived.RangeFuncBound
import Derived.RangeFuncCalls
import Derived.Shelf.RegionOpen
import Derived.Shelf.Abstract
import Derived.WalkKit
import Derived.OwnWalkIn
import Derived.TacticsInMore
import Derived.LoopNIn
import Derived.LoopIn
import Derived.Maps.AppendAt
import Derived.Laws.EntriesVeiled
namespace Go.Proofs.YtfbdgdphpdhcpaaDoor
open Go

section
variable {P : Program} {ops : Array Oper} {Q : Exit → Act → World → Prop} {S : World → Prop} {late : Nat → Bool}
theorem Lates.first2 {i m : Nat} {oi om : Oper} {v : Value} (hi : ops[i]? = some oi) (hsel : ∀ (j : Nat) (o : Oper) cs b, ops[j]? = some o → o.op ≠ .select cs b)
    (hQ : ∀ c a w, Q (.panic c) (a.put oi.dst v) w → Q (.panic c) a w) (hm : ops[m]? = some om) (hmi : ∃ e, e ∈ om.after ∧ Region.binds .any e = true ∧ e.on = i) (hw : waits ops late m = true) :
    ∀ (k : Nat) (done : Array Bool) (a : Act) (w : World),
      (∀ j oj, ops[j]? = some oj → j ≠ i → done.getD j true = false → (∀ e ∈ oj.after, Region.binds .any e = true → e.on ≠ i) → oi.apart ops oj = true) →
      i ∈ Region.ready .any ops done → done.getD m true = false → YieldsIf P ops S oi v a → S w → Lates P ops Q S late k (done.setIfInBounds i true) (a.put oi.dst v) w → Lates P ops Q S late (k + 1) done a w
  | 0, done, a, w, _, hr, _, hy, hS, H => by
    refine ⟨fun h => ?_, fun j hj => ?_⟩
    · rw [h] at hr; cases hr
    · by_cases e : j = i
      · rw [e]; exact hy.wpOp hi hS ⟨fun _ => hS, H⟩
      · have := ready_mono hj e
        rw [H.1] at this; cases this
  | k + 1, done, a, w, hf, hr, hdm, hy, hS, H => by
    refine ⟨fun h => ?_, fun j hj => ?_⟩
    · rw [h] at hr; cases hr
    by_cases e : j = i
    · rw [e]; exact hy.wpOp hi hS ⟨fun _ => hS, H⟩
    obtain ⟨hj0, oj, hoj, hall⟩ := mem_ready.1 hj
    have hno2 : ∀ n, done.getD n true = false → ∀ e ∈ oj.after, Region.binds .any e = true → e.on ≠ n := by
      intro n h0 e he hb he'
      have h1 := hall e he hb
      rw [he'] at h1
      rcases Nat.lt_or_ge n done.size with h' | h'
      · simp [h'] at h0 h1; rw [h0] at h1; cases h1
      · simp [Array.getElem?_eq_none h'] at h1
    have hno := hno2 i (mem_ready.1 hr).1
    have hjl : late j = false := by
      cases hl : late j
      · rfl
      · obtain ⟨e, he, hb, he'⟩ := waits_at hw hl hoj
        exact absurd he' (hno2 m hdm e he hb)
    have hjm : j ≠ m := fun q => by
      subst q
      rw [hoj] at hm
      cases hm
      obtain ⟨e, he, hb, he'⟩ := hmi
      exact hno e he hb he'
    have h1 := wpOp_putIf hoj (hf j oj hoj e hj0 hno) (fun cs b => hsel i oi cs b hi) (fun cs b => hsel j oj cs b hoj) hQ hy (H.2 j (ready_mono hj e))
    refine wpOp_mono (fun a' w' h3 => ⟨h3.2.1, Lates.first2 hi hsel hQ hm hmi hw k (done.setIfInBounds j true) a' w' ?_ (ready_mono hr (Ne.symm e)) ?_ h3.1 (h3.2.1 hjl) ?_⟩) h1
    · intro l ol hl hli hun hnl
      refine hf l ol hl hli ?_ hnl
      by_cases q : j = l
      · rw [← q]; exact hj0
      · rw [getD_set_ne true q] at hun; exact hun
    · rw [getD_set_ne true hjm]; exact hdm
    · rw [Array.setIfInBounds_comm _ _ e]; exact h3.2.2
/-- Does one wait for i? -/
def waitsOn (om : Oper) (i : Nat) : Bool := om.after.any fun e => Region.binds .any e && e.on == i
theorem lates_take2 {i m : Nat} {oi om : Oper} {v : Value} {k : Nat} {done : Array Bool} {a : Act} {w : World} (hi : ops[i]? = some oi) (hm : ops[m]? = some om) (hmi : waitsOn om i = true) (hw : waits ops late m = true) (hdm : done.getD m true = false)
    (hs : Region.noSelect ops = true) (hf : Region.free .any ops done i = true) (hr : (Region.ready .any ops done).contains i = true)
    (hQ : ∀ c a w, Q (.panic c) (a.put oi.dst v) w → Q (.panic c) a w) (hy : YieldsIf P ops S oi v a) (hS : S w)
    (h : Lates P ops Q S late k (done.setIfInBounds i true) (a.put oi.dst v) w) : Lates P ops Q S late (k + 1) done a w := by
  refine Lates.first2 hi (Region.noSelect_spec hs) hQ hm ?_ hw k done a w (Region.free_spec hi hf) (by simpa using hr) hdm hy hS h
  obtain ⟨q, hq, he⟩ := Array.any_eq_true.1 hmi
  simp only [Bool.and_eq_true, beq_iff_eq] at he
  exact ⟨_, Array.getElem_mem _, he.1, he.2⟩
end
end Go.Proofs.YtfbdgdphpdhcpaaDoor
namespace Go.Proofs.YtfbdgdphpdhcpaaDoor
open Go

section
variable {P : Program} {ops : Array Oper} {Q : Exit → Act → World → Prop} {S : World → Prop} {late : Nat → Bool}
/-- Do the late ones, and those of M, wait for i or one of M? -/
def waitsM (ops : Array Oper) (late : Nat → Bool) (i : Nat) (M : List Nat) : Bool :=
  (List.range ops.size).all fun j => !(late j || M.contains j) || (match ops[j]? with
    | some o => o.after.any fun e => Region.binds .any e && (e.on == i || M.contains e.on)
    | none => true)
theorem waitsM_at {i j : Nat} {M : List Nat} {oj : Oper} (h : waitsM ops late i M = true) (hl : late j = true ∨ j ∈ M) (hj : ops[j]? = some oj) : ∃ e, e ∈ oj.after ∧ Region.binds .any e = true ∧ (e.on = i ∨ e.on ∈ M) := by
  have hlt : j < ops.size := by
    rcases Nat.lt_or_ge j ops.size with h | h
    · exact h
    · rw [Array.getElem?_eq_none h] at hj; cases hj
  have h1 := List.all_eq_true.1 h j (List.mem_range.2 hlt)
  have h2 : (late j || M.contains j) = true := by
    rcases hl with hl | hl
    · rw [hl]; rfl
    · rw [List.contains_iff_mem.2 hl, Bool.or_true]
  rw [h2, hj] at h1
  simp only [Bool.not_true, Bool.false_or] at h1
  obtain ⟨k, hk, he⟩ := Array.any_eq_true.1 h1
  rw [Bool.and_eq_true, Bool.or_eq_true, beq_iff_eq] at he
  refine ⟨_, Array.getElem_mem _, he.1, ?_⟩
  rcases he.2 with he | he
  · exact .inl he
  · exact .inr (List.contains_iff_mem.1 he)
theorem Lates.firstM {i : Nat} {M : List Nat} {oi : Oper} {v : Value} (hi : ops[i]? = some oi) (hsel : ∀ (j : Nat) (o : Oper) cs b, ops[j]? = some o → o.op ≠ .select cs b)
    (hQ : ∀ c a w, Q (.panic c) (a.put oi.dst v) w → Q (.panic c) a w) (hw : waitsM ops late i M = true) :
    ∀ (k : Nat) (done : Array Bool) (a : Act) (w : World),
      (∀ j oj, ops[j]? = some oj → j ≠ i → done.getD j true = false → (∀ e ∈ oj.after, Region.binds .any e = true → e.on ≠ i) → oi.apart ops oj = true) →
      i ∈ Region.ready .any ops done → (∀ m, m ∈ M → done.getD m true = false) → YieldsIf P ops S oi v a → S w → Lates P ops Q S late k (done.setIfInBounds i true) (a.put oi.dst v) w → Lates P ops Q S late (k + 1) done a w
  | 0, done, a, w, _, hr, _, hy, hS, H => by
    refine ⟨fun h => ?_, fun j hj => ?_⟩
    · rw [h] at hr; cases hr
    · by_cases e : j = i
      · rw [e]; exact hy.wpOp hi hS ⟨fun _ => hS, H⟩
      · have := ready_mono hj e
        rw [H.1] at this; cases this
  | k + 1, done, a, w, hf, hr, hdm, hy, hS, H => by
    refine ⟨fun h => ?_, fun j hj => ?_⟩
    · rw [h] at hr; cases hr
    by_cases e : j = i
    · rw [e]; exact hy.wpOp hi hS ⟨fun _ => hS, H⟩
    obtain ⟨hj0, oj, hoj, hall⟩ := mem_ready.1 hj
    have hno2 : ∀ n, done.getD n true = false → ∀ e ∈ oj.after, Region.binds .any e = true → e.on ≠ n := by
      intro n h0 e he hb he'
      have h1 := hall e he hb
      rw [he'] at h1
      rcases Nat.lt_or_ge n done.size with h' | h'
      · simp [h'] at h0 h1; rw [h0] at h1; cases h1
      · simp [Array.getElem?_eq_none h'] at h1
    have hno := hno2 i (mem_ready.1 hr).1
    have hnot : ¬ (late j = true ∨ j ∈ M) := fun h => by
      obtain ⟨e, he, hb, he'⟩ := waitsM_at hw h hoj
      rcases he' with he' | he'
      · exact hno e he hb he'
      · exact hno2 _ (hdm _ he') e he hb rfl
    have hjl : late j = false := by
      cases hl : late j
      · rfl
      · exact absurd (.inl hl) hnot
    have h1 := wpOp_putIf hoj (hf j oj hoj e hj0 hno) (fun cs b => hsel i oi cs b hi) (fun cs b => hsel j oj cs b hoj) hQ hy (H.2 j (ready_mono hj e))
    refine wpOp_mono (fun a' w' h3 => ⟨h3.2.1, Lates.firstM hi hsel hQ hw k (done.setIfInBounds j true) a' w' ?_ (ready_mono hr (Ne.symm e)) ?_ h3.1 (h3.2.1 hjl) ?_⟩) h1
    · intro l ol hl hli hun hnl
      refine hf l ol hl hli ?_ hnl
      by_cases q : j = l
      · rw [← q]; exact hj0
      · rw [getD_set_ne true q] at hun; exact hun
    · intro m hm
      rw [getD_set_ne true (fun q => hnot (.inr (by rw [q]; exact hm)))]; exact hdm m hm
    · rw [Array.setIfInBounds_comm _ _ e]; exact h3.2.2
theorem lates_takeM {i : Nat} (M : List Nat) {oi : Oper} {v : Value} {k : Nat} {done : Array Bool} {a : Act} {w : World} (hi : ops[i]? = some oi) (hw : waitsM ops late i M = true) (hdm : (M.all fun m => done.getD m true == false) = true)
    (hs : Region.noSelect ops = true) (hf : Region.free .any ops done i = true) (hr : (Region.ready .any ops done).contains i = true)
    (hQ : ∀ c a w, Q (.panic c) (a.put oi.dst v) w → Q (.panic c) a w) (hy : YieldsIf P ops S oi v a) (hS : S w)
    (h : Lates P ops Q S late k (done.setIfInBounds i true) (a.put oi.dst v) w) : Lates P ops Q S late (k + 1) done a w :=
  Lates.firstM hi (Region.noSelect_spec hs) hQ hw k done a w (Region.free_spec hi hf) (by simpa using hr) (fun m hm => by simpa using List.all_eq_true.1 hdm m hm) hy hS h
end
end Go.Proofs.YtfbdgdphpdhcpaaDoor
namespace Go.Proofs.YtfbdgdphpdhcpaaDoor
open Go.RowKit

theorem iwrap_pow (n : Nat) (h : n < 62) : IntKind.i64.wrap ((2 : Int) ^ n) = ((pw n : Nat) : Int) := by
  have := pw_small n h
  rw [show ((2 : Int) ^ n) = ((pw n : Nat) : Int) by simp [pw]]
  generalize pw n = m at *
  exact wrap_i64_small _ (by omega) (by omega)
/-- The table of what goes behind each set, from some set on. -/
def Tabl (w : World) (b n lo : Nat) (u : Nat → Nat) : Prop := ∀ s, s < pw n → lo ≤ s → w.cell? ⟨b, s, none⟩ = some (.int .i64 (ways u n s : Nat))
theorem Tabl.step {w w' : World} {b n lo : Nat} {u : Nat → Nat} (h : Tabl w b n lo u) (hb : Below w.heap.size w w') : Tabl w' b n lo u := fun s hs hl => by
  have := h s hs hl
  exact (hb.cell (World.block_lt_of_cell? _ _ this)).trans this

end Go.Proofs.YtfbdgdphpdhcpaaDoor
namespace Go.Proofs.YtfbdgdphpdhcpaaDoor
open Go.RowKit

set_option maxHeartbeats 1000000 in
theorem clone_any (n : Nat) (a : Option Addr) (cap : Nat) (g : Nat → Nat) (w : World) (hn : n ≤ 10) (hr : Row w a n (fun k => (g k : Nat))) :
    Calls Tryd.prog 35 #[.slice a n cap] w fun e w' => (∃ v, e = .returned v ∧ w'.ownsRow w.heap.size 3 1 v n (rowVals g n)) ∧ Below w.heap.size w w' := by
  obtain ⟨i0, hi, hz0, hz1, hz2⟩ := info_parts Tryd.info3
  rcases a with _ | a
  · have h0 : n = 0 := by
      rcases Nat.eq_zero_or_pos n with h | h
      · exact h
      · obtain ⟨b, off, e, _⟩ := hr 0 h; cases e
    subst h0
    clear hr
    have hq : ∀ w, (binOp .eql 22 (.slice none 0 cap) (.slice none 0 0)).run Tryd.prog w = .ok (.bool true) w := fun w => Lib.run_eql_slice_nil w 22 3 none 0 cap 0 0 Tryd.underlying22
    go_enter Tryd.func35, Tryd.ntmps35
    go_wp2_with fail
    go_ret
    exact ⟨⟨_, rfl, World.ownsRow_nil _ _ _ _⟩, Below.refl _ _⟩
  · have hq : ∀ w, (binOp .eql 22 (.slice (some a) n cap) (.slice none 0 0)).run Tryd.prog w = .ok (.bool false) w := fun w => Lib.run_eql_slice_nil w 22 3 (some a) n cap 0 0 Tryd.underlying22
    go_enter Tryd.func35, Tryd.ntmps35
    have hown : (w.alloc (.cells #[] 3)).ownsRow w.heap.size 3 1 (.slice (some ⟨w.heap.size, 0, none⟩) 0 0) 0 [] := World.ownsRow_made w #[] 0 (Nat.le_refl _) (by unfold maxLen; omega) (by simp)
    go_wp2_with (at_builtin; refine wpList_append_own _ rfl _ _ 22 rfl w.heap.size 3 i0 (.int .i64 0) 1 8 Tryd.underlying22 hi hz0 hz1 hz2 rfl (by decide) _ _ _ rfl hown a n cap (rowVals g n) rfl (by simp [rowVals]) ?c1 ?c2 ?c3 ?c4 ?c5 ?_)
    case c1 =>
      intro j u hj
      have hjn : j < n := by
        rcases Nat.lt_or_ge j n with h | h
        · exact h
        · rw [List.getElem?_eq_none (by simp [rowVals]; omega)] at hj; cases hj
      rw [rowVals_at g n j hjn] at hj
      cases hj
      obtain ⟨b, off, e, hc⟩ := hr j hjn
      cases e
      have hlt := World.block_lt_of_cell? _ _ hc
      have e2 : (⟨b, off, none⟩ : Addr).add j = ⟨b, off + j, none⟩ := by unfold Addr.add; split <;> simp_all
      rw [e2, World.cell?_alloc_old _ _ _ (Nat.ne_of_lt hlt)]
      exact hc
    case c2 =>
      intro u hu
      simp [rowVals] at hu
      obtain ⟨k, _, rfl⟩ := hu
      rfl
    case c3 => unfold maxLen; omega
    case c4 => omega
    case c5 => simp
    intro v' w2 hown' hgrow _
    have HO : Hid (w2.ownsRow w.heap.size 3 1 v' n (rowVals g n)) := by
      first
        | exact hown'
        | simpa using hown'
    have HB : Hid (Below w.heap.size w w2) := ((Below.refl _ _).alloc (Nat.le_refl _) _).grown hgrow (by simp) (by intro k hk; simp [Value.ownBlock] at hk; omega)
    clear hown' hgrow hown
    go_wp2_with fail
    go_ret
    exact ⟨⟨_, rfl, HO.out⟩, HB.out⟩
end Go.Proofs.YtfbdgdphpdhcpaaDoor
namespace Go.Proofs.YtfbdgdphpdhcpaaDoor
open Go.RowKit

theorem owns_mono {w : World} {b b' size n : Nat} {e : TypeId} {v : Value} {xs : List Value} (h : w.ownsRow b e size v n xs) (hb : b' ≤ b) : w.ownsRow b' e size v n xs := by
  refine ⟨h.1, ?_⟩
  rcases h.2 with h0 | ⟨g, cap, cur, h1, h2, h3⟩
  · exact .inl h0
  · exact .inr ⟨g, cap, cur, h1, Nat.le_trans hb h2, h3⟩
/-- What lies in cells is kept where another block turns that is no cells. -/
theorem nc_owns {W W' : World} {row : Option Nat} {base size n : Nat} {e : TypeId} {v : Value} {xs : List Value} (h : W.ownsRow base e size v n xs) (hg : W.grownBy W' row) (hr : ∀ r, row = some r → ∃ o : Obj, W.heap[r]? = some o ∧ o.isCells = false) : W'.ownsRow base e size v n xs := by
  refine h.kept hg ?_
  rcases h.2 with ⟨rfl, _⟩ | ⟨g, cap, cur, rfl, _, hgg, _⟩
  · exact .inl rfl
  · refine .inr fun e => ?_
    obtain ⟨o, ho, hc⟩ := hr g e.symm
    rw [hgg] at ho
    cases ho; cases hc
theorem nc_cell {W W' : World} {row : Option Nat} {p : Addr} {v : Value} (h : W.cell? p = some v) (hg : W.grownBy W' row) (hr : ∀ r, row = some r → ∃ o : Obj, W.heap[r]? = some o ∧ o.isCells = false) : W'.cell? p = some v ∧ W'.frozen? p = W.frozen? p := by
  obtain ⟨o, ho, hc⟩ := cells_of_cell h
  have hb : W'.heap[p.block]? = W.heap[p.block]? := hg.block _ (World.block_lt_of_cell? _ _ h) fun e => by
    obtain ⟨o', ho', hc'⟩ := hr _ e.symm
    rw [ho] at ho'; cases ho'; rw [hc] at hc'; cases hc'
  refine ⟨by rw [← h]; exact World.cell?_of_block (w := W) hb, ?_⟩
  unfold World.frozen?
  rw [hb]
/-- A block of just n numbers. -/
def Szd (w : World) (b n : Nat) : Prop := ∃ cs, w.heap[b]? = some (.cells cs 3 (0, 0)) ∧ cs.size = n
theorem Szd.below {K : Nat} {w w' : World} {b n : Nat} (h : Szd w b n) (hb : Below K w w') (hlt : b < K) : Szd w' b n := by
  obtain ⟨cs, h1, h2⟩ := h
  exact ⟨cs, (hb.block b hlt).trans h1, h2⟩
theorem Szd.set {w : World} {b n : Nat} (h : Szd w b n) (a : Addr) (x : Value) : Szd (w.setCell a x) b n := by
  obtain ⟨cs, h1, h2⟩ := h
  by_cases e : b = a.block
  · refine ⟨if a.spot.isSome then cs else cs.setIfInBounds a.off x, ?_, by split <;> simp [h2]⟩
    unfold World.setCell
    simp only [Array.getElem?_modify, if_pos e.symm, h1, Option.map_some]
  · exact ⟨cs, (Below.heap_setCell _ _ _ _ e).trans h1, h2⟩
theorem Szd.nc {W W' : World} {row : Option Nat} {b n : Nat} (h : Szd W b n) (hg : W.grownBy W' row) (hr : ∀ r, row = some r → ∃ o : Obj, W.heap[r]? = some o ∧ o.isCells = false) : Szd W' b n := by
  obtain ⟨cs, h1, h2⟩ := h
  refine ⟨cs, (hg.block _ (Array.getElem?_eq_some_iff.1 h1).1 fun e => ?_).trans h1, h2⟩
  obtain ⟨o, ho, hc⟩ := hr b e.symm
  rw [h1] at ho
  cases ho; cases hc
theorem szd_made {w : World} {base b n : Nat} {xs : List Value} (h : w.ownsRow base 3 1 (.slice (some ⟨b, 0, none⟩) n n) n xs) : Szd w b n := by
  rcases h.2 with ⟨h0, _⟩ | ⟨g, cap, cur, h1, _, h3, _, _, h4, _⟩
  · cases h0
  · injection h1 with e1 e2 e3
    injection e1 with e4
    injection e4 with e5
    subst e3 e5
    exact ⟨cur, h3, by rw [h4]; omega⟩
theorem all_as (n : Nat) (w : World) (hn : n ≤ 10) (M : Nat) (hM : M + 1 = pw n) :
    Calls Tryd.prog 47 #[.int .i64 n] w fun e w' => e = .returned (.int .i64 (M : Nat)) ∧ w = w' :=
  (all_any n w hn).mono fun _ _ ⟨h1, h2⟩ => ⟨by rw [h1]; exact ret_int (by omega), h2⟩
end Go.Proofs.YtfbdgdphpdhcpaaDoor
namespace Go.Proofs.YtfbdgdphpdhcpaaDoor
open Go.RowKit
set_option maxRecDepth 100000

theorem wp_make0 {o : Oper} {a : Act} {K : Act → World → Prop} {Q : Exit → Act → World → Prop} (base : Nat) (w : World) (l c : Operand) (hop : o.op = Op.makeSlice 22 l c) (n : Nat) (hl : a.eval l = .int .i64 0) (hc : a.eval c = .int .i64 (n : Int)) (hn : n ≤ 1000) (hb : base ≤ w.heap.size)
    (h : ∀ w', w'.ownsRow base 3 1 (.slice (some ⟨w.heap.size, 0, none⟩) 0 n) 0 [] → Below w.heap.size w w' → K (a.put o.dst (.slice (some ⟨w.heap.size, 0, none⟩) 0 n)) w') : o.wp Tryd.prog a w K Q := by
  obtain ⟨j0, hj, hy0, hy1, hy2⟩ := info_parts Tryd.info3
  obtain ⟨w', hrun, r1, r2⟩ := run_make_own (P := Tryd.prog) w base 22 3 j0 (.int .i64 0) 1 Tryd.underlying22 hj hy0 hy1 .i64 .i64 n (by rw [hy2]; omega) (by unfold maxLen; omega) hb
  have hK := h w' r1 ((Below.refl _ _).grown r2 (Nat.le_refl _) (fun k e => by cases e))
  unfold Oper.wp
  simp [execOp, hop, hl, hc, hrun, Result.andThen]
  exact hK
theorem yield_any {m : Nat} (m' : Nat) {P : Program} {l : Nat} {args : Array Value} {W : World} {R : Ending → World → Prop} (h : YieldAt Fence.wide m P l args W R) : YieldAt Fence.wide m' P l args W R := by
  obtain ⟨fn, tmps, assign, body, hy, hR⟩ := h
  exact ⟨fn, tmps, assign, body, hy, hR.1, fun c cs _ => hR.2 c cs (fun d hd => by cases hd)⟩
theorem cellS {w w' : World} {p : Addr} {v : Value} (hb : Below w.heap.size w w') (h : w.cell? p = some v) : w'.cell? p = some v := (hb.cell (World.block_lt_of_cell? _ _ h)).trans h
theorem lists_any (n : Int) (w : World) : Calls Tryd.prog 33 #[.int .i64 n] w fun e w' => e = .returned (.func (.func 44) #[] #[.pointer (some ⟨w.heap.size, 0, none⟩)]) ∧ w' = w.alloc (.cells #[.int .i64 n] 3) := by
  go_enter Tryd.func33, Tryd.ntmps33
  go_wp2
  go_ret
  exact ⟨rfl, rfl⟩
/-- What a round is handed. -/
def encL (n : Nat) (x : Nat × List Nat) : Value := .slice (some ⟨x.1, 0, none⟩) n n
def VL (n K B : Nat) (x : Nat × List Nat) (W : World) : Prop := x.1 = B ∧ K ≤ B ∧ W.ownsRow K 3 1 (encL n x) n (natVals x.2) ∧ x.2 ∈ per n [] (pw n - 1)
theorem VL.loop {n K : Nat} (B : Nat) (x : Nat × List Nat) (A : World) (l : Nat) (r r' : Loop) (h : VL n K B x A) (hl : A.heap[l]? = some (.loop r)) : VL n K B x (A.putObj l (.loop r')) :=
  ⟨h.1, h.2.1, (OthS.loop (fun _ => False) A l r r' hl).owns h.2.2.1 (fun _ _ _ h => h), h.2.2.2⟩
theorem pcAll : ((List.range 11).all fun n => decide (pw n - 1 < 1024) && (pc (pw n - 1) == n)) = true := by decide +kernel
theorem pc_all {n : Nat} (hn : n ≤ 10) : pw n - 1 < 1024 ∧ pc (pw n - 1) = n := by
  have := List.all_eq_true.1 pcAll n (List.mem_range.2 (by omega))
  simpa using this
set_option maxHeartbeats 4000000 in
theorem lists_seq (m n A : Nat) (C : Nat → Prop) (w : World) (hn : n ≤ 10) (hT : Tab w) (nT : ¬ C 1) (hC : ∀ k, C k → k < w.heap.size) (a0 : w.cell? ⟨A, 0, none⟩ = some (.int .i64 (n : Nat))) :
    SeqX Fence.wide m Tryd.prog 44 #[.pointer (some ⟨A, 0, none⟩)] (encL n) (VL n w.heap.size) (OthS C) (fun xs => xs.map Prod.snd = per n [] (pw n - 1)) (per n [] (pw n - 1)).length w := fun l J W hW hJ hY h0 => by
  refine callsIn_wide.2 ?_
  show Calls Tryd.prog 44 #[.func (.yield l) #[] #[], .pointer (some ⟨A, 0, none⟩)] W _
  obtain ⟨X, HXE⟩ : ∃ X, Hid (X = W.alloc (.cells #[.func (.yield l) #[] #[]] 66)) := ⟨_, rfl⟩
  have hX : Below W.heap.size W X := by rw [HXE.out]; exact (Below.refl _ _).alloc (Nat.le_refl _) _
  have hXs : X.heap.size = W.heap.size + 1 := by rw [HXE.out]; simp
  have cY : X.cell? ⟨W.heap.size, 0, none⟩ = some (.func (.yield l) #[] #[]) := by rw [HXE.out]; simp
  obtain ⟨W0, HWE⟩ : ∃ W0, Hid (W0 = X.alloc (.cells #[.func (.func 45) #[] #[.pointer (some ⟨W.heap.size, 0, none⟩), .pointer (some ⟨W.heap.size + 1, 0, none⟩)]] 67)) := ⟨_, rfl⟩
  have hb2 : Below X.heap.size X W0 := by rw [HWE.out]; exact (Below.refl _ _).alloc (Nat.le_refl _) _
  have hWW : Below W.heap.size W W0 := Below.then hX hb2
  have hww : Below w.heap.size w W0 := Below.then hW hWW
  have h0s : W0.heap.size = W.heap.size + 2 := by rw [HWE.out]; simp [hXs]
  have cG : W0.cell? ⟨W.heap.size + 1, 0, none⟩ = some (.func (.func 45) #[] #[.pointer (some ⟨W.heap.size, 0, none⟩), .pointer (some ⟨W.heap.size + 1, 0, none⟩)]) := by rw [HWE.out, ← hXs]; simp
  have hWs := hW.size
  have ht1 : 1 < w.heap.size := World.block_lt_of_cell? _ _ (hT 0 (by decide))
  obtain ⟨M, HM⟩ : ∃ M, Hid (M = pw n - 1) := ⟨_, rfl⟩
  have hM : M + 1 = pw n := by rw [HM.out]; have := pw_pos n; omega
  have hP := pc_all hn
  rw [← HM.out] at hP
  have HGO : Hid (∀ B w5, Below W0.heap.size W0 w5 → w5.ownsRow W0.heap.size 3 1 (.slice (some ⟨B, 0, none⟩) 0 n) 0 [] → Calls Tryd.prog 45 #[.slice (some ⟨B, 0, none⟩) 0 n, .int .i64 (M : Nat), .pointer (some ⟨W.heap.size, 0, none⟩), .pointer (some ⟨W.heap.size + 1, 0, none⟩)] w5 fun e W' =>
      (∃ v, e = .returned (.bool v)) ∧ ∃ B xs, (xs : List (Nat × List Nat)).map Prod.snd = per n [] (pw n - 1) ∧ J B xs W') := fun B w5 h5 hown => by
    have hB : W0.heap.size ≤ B := by
      rcases hown.2 with ⟨h0, _⟩ | ⟨g', cap', cur, h1, h2, _⟩
      · cases h0
      · simp only [Value.slice.injEq, Option.some.injEq, Addr.mk.injEq] at h1
        obtain ⟨⟨rfl, _⟩, _⟩ := h1
        exact h2
    have hG := goOn_in (n := n) (l := l) (Y := W.heap.size) (Gn := W.heap.size + 1) (B := B) (N := (per n [] (pw n - 1)).length) (s0 := W.heap.size) (C := C) (W0 := W0) (Vx := fun x => x ∈ per n [] (pw n - 1)) (J := J B) hn
      (hT.step hww) (by rintro (h | h); exact nT h; omega) (cellS hb2 cY) (by rintro (h | h); have := hC _ h; omega; omega) cG (by rintro (h | h); have := hC _ h; omega; omega)
      (fun k hk => by have := hC k hk; omega) hWW.size hB (hJ B)
      (fun m' pre x X' hj hown hx hlen => yield_any m' (hY B pre (B, x) X' hj ⟨rfl, by omega, by
        refine ⟨hown.1, ?_⟩
        rcases hown.2 with q0 | ⟨g, cap, cur, q1, q2, q3⟩
        · exact .inl q0
        · exact .inr ⟨g, cap, cur, q1, by omega, q3⟩, hx⟩ hlen)) n 0 0 [] [] M w5 (by omega) rfl hP.1 hP.2 (OthS.below _ h5) (by simpa [natVals] using hown) (hJ B _ _ _ (h0 B (by omega)) (Itr.of_below (Below.then hWW h5) (Nat.le_refl _))) (by rw [HM.out]; simp) (fun x hx => by rw [HM.out] at hx; exact hx)
    refine (callsIn_wide.1 hG).mono ?_
    rintro e W' ⟨rfl, hj, _, _⟩
    refine ⟨⟨_, rfl⟩, B, (per n [] M).map (Prod.mk B), ?_, by simpa using hj⟩
    rw [List.map_map, HM.out]; exact List.map_id' _
  have d0 : ∀ w', Below W0.heap.size W0 w' → w'.cell? ⟨A, 0, none⟩ = some (.int .i64 (n : Nat)) := fun w' h => cellS h (cellS hww a0)
  have d1 : ∀ w', Below W0.heap.size W0 w' → w'.cell? ⟨W.heap.size + 1, 0, none⟩ = some (.func (.func 45) #[] #[.pointer (some ⟨W.heap.size, 0, none⟩), .pointer (some ⟨W.heap.size + 1, 0, none⟩)]) := fun w' h => cellS h cG
  clear hY hJ cY cG hb2 hww hWW hX hW h0 hT nT hC a0 h0s hP
  go_enter Tryd.func44, Tryd.ntmps44
  go_wp2_with fail
  rw [← HXE.out, ← HWE.out]
  clear HXE HWE hXs
  refine wp_lates (S := (fun w' => Below W0.heap.size W0 w')) (late := (fun i => i == 5)) (by kernel_rfl) ?_
  have HS : Hid (Below W0.heap.size W0 W0.drew) := (Below.refl _ _).drew
  refine lates_takeM [] (i := 0) (oi := { dst := some 5, op := Go.Op.load 67 (Go.Operand.tmp 3), type := 67, pos := "lists.go:26", after := #[], guard := none }) (v := ?_) rfl (by kernel_rfl) (by kernel_rfl) (by kernel_rfl) (by kernel_rfl) (by kernel_rfl) (fun _ _ _ h => h) (Or.inl ⟨by rfl, ?hy⟩) HS.out ?_
  case hy => (intro w9 hSw; (have e0 := d0 _ hSw); (have e1 := d1 _ hSw); go_simp; try with_reducible rfl)
  try simp only [Act.put, List.setIfInBounds_toArray, List.set_cons_zero, List.set_cons_succ]
  refine lates_takeM [2] (i := 1) (oi := { dst := some 6, op := Go.Op.load 3 (Go.Operand.tmp 1), type := 3, pos := "lists.go:26", after := #[], guard := none }) (v := ?_) rfl (by kernel_rfl) (by kernel_rfl) (by kernel_rfl) (by kernel_rfl) (by kernel_rfl) (fun _ _ _ h => h) (Or.inl ⟨by rfl, ?hy⟩) HS.out ?_
  case hy => (intro w9 hSw; (have e0 := d0 _ hSw); (have e1 := d1 _ hSw); go_simp; try with_reducible rfl)
  try simp only [Act.put, List.setIfInBounds_toArray, List.set_cons_zero, List.set_cons_succ]
  refine lates_takeM [4] (i := 3) (oi := { dst := some 8, op := Go.Op.load 3 (Go.Operand.tmp 1), type := 3, pos := "lists.go:26", after := #[], guard := none }) (v := ?_) rfl (by kernel_rfl) (by kernel_rfl) (by kernel_rfl) (by kernel_rfl) (by kernel_rfl) (fun _ _ _ h => h) (Or.inl ⟨by rfl, ?hy⟩) HS.out ?_
  case hy => (intro w9 hSw; (have e0 := d0 _ hSw); (have e1 := d1 _ hSw); go_simp; try with_reducible rfl)
  try simp only [Act.put, List.setIfInBounds_toArray, List.set_cons_zero, List.set_cons_succ]
  refine lates_ready (rs := [2, 4]) (by kernel_rfl) (by simp) ?_
  refine AllLate.cons (o := { dst := some 7, op := Go.Op.makeSlice 22 (Go.Operand.const (Go.Value.int Go.IntKind.i64 0)) (Go.Operand.tmp 6), type := 22, pos := "lists.go:26", after := #[{ on := 1, ground := Go.Ground.data }], guard := none }) rfl (fun K hK => ?_) ?_
  · rw [if_pos (by rfl)]
    refine wp_make0 W0.heap.size _ _ _ rfl n rfl rfl (by omega) HS.out.size ?_
    intro w5 hown5 hb5
    have HS5 : Hid (Below W0.heap.size W0 w5) := Below.then HS.out hb5
    refine hK.out _ _ (fun _ => ?_) ?_
    · exact HS5.out
    have HS := HS5
    clear hK K
    try simp only [Act.put, List.setIfInBounds_toArray, List.set_cons_zero, List.set_cons_succ]
    refine lates_ready (rs := [4]) (by kernel_rfl) (by simp) ?_
    refine AllLate.cons (o := { dst := some 9, op := Go.Op.call { callee := Go.Callee.value (Go.Operand.func 47), args := #[Go.Operand.tmp 8], argTypes := #[3] }, type := 3, pos := "lists.go:26", after := #[{ on := 3, ground := Go.Ground.data }], guard := none }) rfl (fun K hK => ?_) ?_
    · go_simp
      refine (all_as n _ hn M hM).mono ?_
      rintro e w' ⟨rfl, rfl⟩
      refine hK.out _ _ (fun _ => ?_) ?_
      · exact HS.out
      skip
      clear hK K
      try simp only [Act.put, List.setIfInBounds_toArray, List.set_cons_zero, List.set_cons_succ]
      refine lates_ready (rs := [5]) (by kernel_rfl) (by simp) ?_
      refine AllLate.cons (o := { dst := some 10, op := Go.Op.call { callee := Go.Callee.value (Go.Operand.tmp 5), args := #[Go.Operand.tmp 7, Go.Operand.tmp 9], argTypes := #[22, 3] }, type := 4, pos := "lists.go:26", after := #[{ on := 0, ground := Go.Ground.data }, { on := 2, ground := Go.Ground.data }, { on := 4, ground := Go.Ground.data }, { on := 4, ground := Go.Ground.chain }], guard := none }) rfl (fun K hK => ?_) ?_
      · go_simp
        refine (HGO.out _ w5 HS.out hown5).mono ?_
        rintro e w6 ⟨⟨v, rfl⟩, h6⟩
        refine hK.out _ _ (fun h => by cases h) ?_
        clear hK K
        try simp only [Act.put, List.setIfInBounds_toArray, List.set_cons_zero, List.set_cons_succ]
        refine lates_done (by kernel_rfl) ?_ _
        try simp only [Act.put, List.setIfInBounds_toArray, List.set_cons_zero, List.set_cons_succ]
        go_end0
        exact ⟨⟨_, rfl⟩, h6⟩
      exact AllLate.nil
    exact AllLate.nil
  refine AllLate.cons (o := { dst := some 9, op := Go.Op.call { callee := Go.Callee.value (Go.Operand.func 47), args := #[Go.Operand.tmp 8], argTypes := #[3] }, type := 3, pos := "lists.go:26", after := #[{ on := 3, ground := Go.Ground.data }], guard := none }) rfl (fun K hK => ?_) ?_
  · go_simp
    refine (all_as n _ hn M hM).mono ?_
    rintro e w' ⟨rfl, rfl⟩
    refine hK.out _ _ (fun _ => ?_) ?_
    · exact HS.out
    skip
    clear hK K
    try simp only [Act.put, List.setIfInBounds_toArray, List.set_cons_zero, List.set_cons_succ]
    refine lates_ready (rs := [2]) (by kernel_rfl) (by simp) ?_
    refine AllLate.cons (o := { dst := some 7, op := Go.Op.makeSlice 22 (Go.Operand.const (Go.Value.int Go.IntKind.i64 0)) (Go.Operand.tmp 6), type := 22, pos := "lists.go:26", after := #[{ on := 1, ground := Go.Ground.data }], guard := none }) rfl (fun K hK => ?_) ?_
    · rw [if_pos (by rfl)]
      refine wp_make0 W0.heap.size _ _ _ rfl n rfl rfl (by omega) HS.out.size ?_
      intro w5 hown5 hb5
      have HS5 : Hid (Below W0.heap.size W0 w5) := Below.then HS.out hb5
      refine hK.out _ _ (fun _ => ?_) ?_
      · exact HS5.out
      have HS := HS5
      clear hK K
      try simp only [Act.put, List.setIfInBounds_toArray, List.set_cons_zero, List.set_cons_succ]
      refine lates_ready (rs := [5]) (by kernel_rfl) (by simp) ?_
      refine AllLate.cons (o := { dst := some 10, op := Go.Op.call { callee := Go.Callee.value (Go.Operand.tmp 5), args := #[Go.Operand.tmp 7, Go.Operand.tmp 9], argTypes := #[22, 3] }, type := 4, pos := "lists.go:26", after := #[{ on := 0, ground := Go.Ground.data }, { on := 2, ground := Go.Ground.data }, { on := 4, ground := Go.Ground.data }, { on := 4, ground := Go.Ground.chain }], guard := none }) rfl (fun K hK => ?_) ?_
      · go_simp
        refine (HGO.out _ w5 HS.out hown5).mono ?_
        rintro e w6 ⟨⟨v, rfl⟩, h6⟩
        refine hK.out _ _ (fun h => by cases h) ?_
        clear hK K
        try simp only [Act.put, List.setIfInBounds_toArray, List.set_cons_zero, List.set_cons_succ]
        refine lates_done (by kernel_rfl) ?_ _
        try simp only [Act.put, List.setIfInBounds_toArray, List.set_cons_zero, List.set_cons_succ]
        go_end0
        exact ⟨⟨_, rfl⟩, h6⟩
      exact AllLate.nil
    exact AllLate.nil
  exact AllLate.nil
end Go.Proofs.YtfbdgdphpdhcpaaDoor
