/-
  Rows of the call's own that are written over: what hasselaw.twin and hasselaw.spoil answer. Conditions: a slice of at most 17592186043904 numbers.
-/
import Derived.BigQuiet
import Derived.Test.YtglkjeidkjkdaaaDoorClone
import Derived.Test.YtglkjeidkjkdaaaDoorPieP
import Derived.Test.YtglkjeidkjkdaaaDoorFourM
import Derived.Test.YtglkjeidkjkdaaaDoorNats
namespace Go.Proofs.YtglkjeidkjkdaaaDoor
set_option maxRecDepth 100000
open Go.RowKit

def vals (f : Nat → Int) (n : Nat) : List Value := (List.range n).map fun y => .int .i64 (f y)
theorem vals_at (f : Nat → Int) (n k : Nat) (h : k < n) : (vals f n)[k]? = some (.int .i64 (f k)) := by simp [vals, h]
theorem vals_len (f : Nat → Int) (n : Nat) : (vals f n).length = n := by simp [vals]
/-- A row whose block lies from K on and below K', and which may be written. -/
def FRow (w : World) (K K' : Nat) (a : Option Addr) (n : Nat) (f : Nat → Int) : Prop :=
  ∀ k, k < n → ∃ b, a = some ⟨b, 0, none⟩ ∧ (K ≤ b ∧ b < K') ∧ w.cell? ⟨b, k, none⟩ = some (.int .i64 (f k)) ∧ w.frozen? ⟨b, k, none⟩ = false
theorem FRow.row {w : World} {K K' : Nat} {a : Option Addr} {n : Nat} {f : Nat → Int} (h : FRow w K K' a n f) : Row w a n f := fun k hk => by
  obtain ⟨b, rfl, _, hc, _⟩ := h k hk
  exact ⟨b, 0, rfl, by rw [Nat.zero_add]; exact hc⟩
theorem FRow.step {w w' : World} {K K' : Nat} {a : Option Addr} {n : Nat} {f : Nat → Int} (h : FRow w K K' a n f) (hb : Below w.heap.size w w') : FRow w' K K' a n f := fun k hk => by
  obtain ⟨b, rfl, hK, hc, hz⟩ := h k hk
  have hlt := World.block_lt_of_cell? _ _ hc
  exact ⟨b, rfl, hK, (hb.cell (p := ⟨b, k, none⟩) hlt).trans hc, (hb.frozen (p := ⟨b, k, none⟩) hlt).trans hz⟩
theorem FRow.wide {w : World} {K K' L L' : Nat} {a : Option Addr} {n : Nat} {f : Nat → Int} (h : FRow w K K' a n f) (hl : L ≤ K) (hu : K' ≤ L') : FRow w L L' a n f := fun k hk => by
  obtain ⟨b, e, ⟨h1, h2⟩, r⟩ := h k hk
  exact ⟨b, e, ⟨by omega, by omega⟩, r⟩
theorem frow_owns {w : World} {K n : Nat} {v : Value} {xs : List Value} {f : Nat → Int} (h : w.ownsRow K 3 1 v n xs) (hx : ∀ k, k < n → xs[k]? = some (.int .i64 (f k))) : ∃ a cap, v = .slice a n cap ∧ FRow w K w.heap.size a n f := by
  have h' := h
  rcases h.2 with ⟨rfl, rfl⟩ | ⟨g, cap, cur, rfl, hb, _⟩
  · exact ⟨none, 0, rfl, fun k hk => absurd hk (Nat.not_lt_zero _)⟩
  · refine ⟨_, cap, rfl, fun k hk => ⟨g, rfl, ?_, ?_, h'.frozenAt k⟩⟩
    · have hc := h'.cellAt k (by omega)
      rw [hx k hk] at hc
      exact ⟨hb, World.block_lt_of_cell? _ _ hc⟩
    · rw [h'.cellAt k (by omega)]; exact hx k hk
/-- A slice of the call's own that may be written. -/
def Wrt (K : Nat) (w : World) (v : Value) : Prop := ∃ (a : Option Addr) (n cap : Nat) (f : Nat → Int), v = .slice a n cap ∧ FRow w K w.heap.size a n f
theorem wrt_nats {w : World} {K L : Nat} {v : Value} {l : List Nat} (hL : L ≤ K) (h : w.ownsRow K 3 1 v l.length (natVals l)) : Wrt L w v := by
  obtain ⟨a, cap, e, hf⟩ := frow_owns h (f := fun k => (nth l k : Nat)) (fun k hk => natVals_at l k hk)
  exact ⟨a, _, cap, _, e, hf.wide hL (Nat.le_refl _)⟩
theorem wrt_row {w : World} {K L : Nat} {v : Value} {n : Nat} {F : Nat → Nat} (hL : L ≤ K) (h : w.ownsRow K 3 1 v n (rowVals F n)) : Wrt L w v := by
  obtain ⟨a, cap, e, hf⟩ := frow_owns h (f := fun k => (F k : Nat)) (fun k hk => rowVals_at F n k hk)
  exact ⟨a, _, cap, _, e, hf.wide hL (Nat.le_refl _)⟩
/-- Only blocks from K on and below K' were written. -/
def Off (K K' : Nat) (w w' : World) : Prop := w.heap.size ≤ w'.heap.size ∧ ∀ p : Addr, (p.block < K ∨ K' ≤ p.block) →
  (∀ v, w.cell? p = some v → w'.cell? p = some v) ∧ (∀ v, w.cell? p = some v → w.frozen? p = false → w'.frozen? p = false)
theorem Off.refl (K K' : Nat) (w : World) : Off K K' w w := ⟨Nat.le_refl _, fun _ _ => ⟨fun _ h => h, fun _ _ h => h⟩⟩
theorem Off.set {K K' : Nat} {w0 w : World} (h : Off K K' w0 w) {b u : Nat} {z : Value} (h1 : K ≤ b) (h2 : b < K') : Off K K' w0 (w.setCell ⟨b, u, none⟩ z) := by
  refine ⟨by simpa using h.1, fun p hp => ⟨fun v hv => ?_, fun v hv hf => ?_⟩⟩
  · rw [World.cell?_setCell_other _ _ _ _ (fun e => by subst e; simp at hp; omega)]; exact (h.2 p hp).1 v hv
  · rw [World.frozen?_setCell]; exact (h.2 p hp).2 v hv hf
theorem Row.off {K K' : Nat} {w0 w w' : World} {a : Option Addr} {n : Nat} {f : Nat → Int} (h0 : Row w0 a n f) (hK : w0.heap.size ≤ K) (h : Row w a n f) (ho : Off K K' w w') : Row w' a n f := fun k hk => by
  obtain ⟨b, off, e, hc⟩ := h k hk
  obtain ⟨b', off', e', hc'⟩ := h0 k hk
  rw [e] at e'
  injection e' with e'
  injection e' with e1 e2
  subst e1
  have := World.block_lt_of_cell? _ _ hc'
  exact ⟨b, off, e, (ho.2 _ (.inl (by show b < K; simp at this; omega))).1 _ hc⟩
theorem FRow.off {K K' L L' : Nat} {w w' : World} {a : Option Addr} {n : Nat} {f : Nat → Int} (h : FRow w L L' a n f) (hK : K' ≤ L) (ho : Off K K' w w') : FRow w' L L' a n f := fun k hk => by
  obtain ⟨b, e, h1, hc, hz⟩ := h k hk
  have hp := ho.2 ⟨b, k, none⟩ (.inr (by show K' ≤ b; omega))
  exact ⟨b, e, h1, hp.1 _ hc, hp.2 _ hc hz⟩
theorem TRep.off {K K' L : Nat} {w w' : World} (hK : K' ≤ L) (ho : Off K K' w w') (T : TT) : ∀ v, TRep L w T v → TRep L w' T v := by
  induction T using TT.ind with
  | leaf => exact fun _ h => h.elim
  | mk k x n kid ih =>
    intro v h
    obtain ⟨a, cap, rfl, hn, hk⟩ := h
    refine ⟨a, cap, rfl, hn, fun i hi => ?_⟩
    obtain ⟨b, off, e, hL, k', x', a', n', c', ⟨h1, h2, h3⟩, h4⟩ := hk i hi
    have hp : ∀ o v, w.cell? ⟨b, o, none⟩ = some v → w'.cell? ⟨b, o, none⟩ = some v := fun o v hv => (ho.2 ⟨b, o, none⟩ (.inr (by show K' ≤ b; omega))).1 v hv
    exact ⟨b, off, e, hL, k', x', a', n', c', ⟨hp _ _ h1, hp _ _ h2, hp _ _ h3⟩, ih i _ h4⟩
theorem NSl.off {K K' : Nat} {w w' : World} {v : Value} {l : List Nat} (h : NSl w v l) (hN : NewV K' v) (ho : Off K K' w w') : NSl w' v l := by
  obtain ⟨a, cap, rfl, hr⟩ := h
  refine ⟨a, cap, rfl, fun k hk => ?_⟩
  obtain ⟨b, off, e, hc⟩ := hr k hk
  subst e
  exact ⟨b, off, rfl, (ho.2 _ (.inr (hN b rfl))).1 _ hc⟩
theorem NSl.offOld {K K' : Nat} {w0 w w' : World} {v : Value} {l : List Nat} (h0 : NSl w0 v l) (hK : w0.heap.size ≤ K) (h : NSl w v l) (ho : Off K K' w w') : NSl w' v l := by
  obtain ⟨a, cap, rfl, hr⟩ := h
  obtain ⟨a', cap', e, hr'⟩ := h0
  injection e with e1 _ e2
  subst e1
  exact ⟨a, cap, rfl, Row.off hr' hK hr ho⟩
theorem Off.cell {K K' : Nat} {w w' : World} (ho : Off K K' w w') {p : Addr} {v : Value} (hp : p.block < K ∨ K' ≤ p.block) (h : w.cell? p = some v) : w'.cell? p = some v := (ho.2 p hp).1 v h

set_option maxHeartbeats 1000000 in
theorem spoil_any (K K' : Nat) (a : Option Addr) (n cap : Nat) (f : Nat → Int) (w : World) (hn : n ≤ 17592186043904) (h : FRow w K K' a n f) :
    Calls Tryd.prog 12 #[.slice a n cap] w fun e w' => e = .returned (.tuple #[]) ∧ Off K K' w w' ∧ (∀ w0 : World, w0.heap.size ≤ K → Below w0.heap.size w0 w → Below w0.heap.size w0 w') := by
  have HF : Hid (FRow w K K' a n f) := h
  clear h
  go_enter Tryd.func12, Tryd.ntmps12
  go_wp2_with fail
  go_loopw [2] (fun i wx => ∃ k : Nat, k ≤ n ∧ i = .int .i64 k ∧ Hid ((∃ f', FRow wx K K' a n f') ∧ Off K K' w wx ∧ (∀ w0 : World, w0.heap.size ≤ K → Below w0.heap.size w0 w → Below w0.heap.size w0 wx))) (fun i _ => n - (intOf i).toNat)
  case atStart => exact ⟨0, Nat.zero_le _, rfl, ⟨f, HF.out⟩, Off.refl _ _ _, fun _ _ h => h⟩
  case round =>
    clear HF
    obtain ⟨k, hk, rfl, HH⟩ := hrel
    by_cases hkn : k < n
    · obtain ⟨⟨f', hF⟩, hO, hB⟩ := HH.out
      obtain ⟨b, rfl, hKb, hc, hz⟩ := hF k hkn
      have HN : Hid ((∃ f', FRow (wr.setCell ⟨b, k, none⟩ (.int .i64 (-7))) K K' (some ⟨b, 0, none⟩) n f') ∧ Off K K' w (wr.setCell ⟨b, k, none⟩ (.int .i64 (-7))) ∧ (∀ w0 : World, w0.heap.size ≤ K → Below w0.heap.size w0 w → Below w0.heap.size w0 (wr.setCell ⟨b, k, none⟩ (.int .i64 (-7))))) := by
        refine ⟨⟨fun j => if j = k then -7 else f' j, fun j hj => ?_⟩, hO.set hKb.1 hKb.2, fun w0 h1 h2 => (hB w0 h1 h2).setCell (p := ⟨b, k, none⟩) (by show w0.heap.size ≤ b; omega) _⟩
        obtain ⟨b', e, hK', hc', hz'⟩ := hF j hj
        injection e with e
        injection e with e1
        subst e1
        refine ⟨b, rfl, hKb, ?_, by rw [World.frozen?_setCell]; exact hz'⟩
        show _ = some (Value.int .i64 (if j = k then -7 else f' j))
        by_cases e : j = k
        · subst e; rw [if_pos rfl]; exact World.cell?_setCell_same _ _ _ hc
        · rw [World.cell?_setCell_other _ _ _ _ (fun e2 => e (by injection e2 with _ h2; exact h2.symm)), if_neg e]; exact hc'
      have hkI : (k : Int) < (n : Int) := by omega
      clear HH hF hO hB hKb
      go_wp2_with fail
      go_roundw
      case rel => exact ⟨k + 1, by omega, by go_num, HN.out⟩
      case measure => simp [intOf]; omega
    · obtain rfl : k = n := by omega
      go_wp2_with fail
      go_end0
      exact ⟨rfl, HH.out.2⟩

theorem run_app_none (t ty : TypeId) (i : TypeInfo) (ht : Tryd.prog.underlying t = some (.slice 3)) (hi : Tryd.prog.info? 3 = some i) (b n cap c : Nat) (hn : n ≤ cap) (w : World) :
    (Builtin.append_ #[t, t] ty #[.slice (some ⟨b, 0, none⟩) n cap, .slice none 0 c]).run Tryd.prog w = .ok (.slice (some ⟨b, 0, none⟩) n cap) w := by
  simp [Builtin.append_, run_underlying ht, Builtin.lenOf, Builtin.firstCells, sizeOf, typeInfo, hi, storeCells, Result.andThen, hn]

theorem wp_apnone {ops : Array Oper} {rest : List Oper} {o : Oper} {a : Act} {Q : Exit → Act → World → Prop} {w : World} (hgd : o.guard = none) (s x : Operand)
    (ho : o.op = .call { callee := .builtin .append, args := #[s, x], argTypes := #[22, 22] }) (b n cap c : Nat) (hs : a.eval s = .slice (some ⟨b, 0, none⟩) n cap) (hnc : n ≤ cap) (hx : a.eval x = .slice none 0 c)
    (h : wpList Tryd.prog ops Q rest (a.put o.dst (.slice (some ⟨b, 0, none⟩) n cap)) w) : wpList Tryd.prog ops Q (o :: rest) a w := by
  refine wpList_plain hgd fun K hK => ?_
  obtain ⟨i0, hi, hz0, hz1, hz2⟩ := info_parts Tryd.info3
  have hrun := run_app_none 22 o.type i0 Tryd.underlying22 hi b n cap c hnc w
  unfold Oper.wp execOp
  simp only [ho, resolve, invoke, builtin, Sem.run_bind, Sem.run_pure, Result.andThen_ok, List.map_toArray, List.map_cons, List.map_nil, hs, hx, hrun]
  exact hK _ _ h

set_option maxHeartbeats 1000000 in
theorem twin_any (a : Option Addr) (n cap : Nat) (f : Nat → Int) (w : World) (hn : n ≤ 17592186043904) (hr : Row w a n f) :
    Calls Tryd.prog 7 #[.slice a n cap] w fun e w' => (∃ a' cap', e = .returned (.slice a' n cap') ∧ FRow w' w.heap.size w'.heap.size a' n f) ∧ Below w.heap.size w w' := by
  obtain ⟨i0, hi, hz0, hz1, hz2⟩ := info_parts Tryd.info3
  have hown : (w.alloc (.cells #[] 3)).ownsRow w.heap.size 3 1 (.slice (some ⟨w.heap.size, 0, none⟩) 0 0) 0 [] := World.ownsRow_made w #[] 0 (Nat.le_refl _) (by unfold maxLen; omega) (by simp)
  rcases a with _ | a
  · have h0 : n = 0 := by
      rcases Nat.eq_zero_or_pos n with h | h
      · exact h
      · obtain ⟨b, off, e, _⟩ := hr 0 h; cases e
    subst h0
    clear hr
    go_enter Tryd.func7, Tryd.ntmps7
    go_wp2_with (at_builtin; refine wp_apnone rfl _ _ rfl w.heap.size 0 0 cap rfl (Nat.le_refl _) rfl ?_)
    go_ret
    exact ⟨⟨_, _, rfl, fun k hk => absurd hk (Nat.not_lt_zero _)⟩, (Below.refl _ _).alloc (Nat.le_refl _) _⟩
  · go_enter Tryd.func7, Tryd.ntmps7
    go_wp2_with (at_builtin; refine wpList_append_own _ rfl _ _ 22 rfl w.heap.size 3 i0 (.int .i64 0) 1 8 Tryd.underlying22 hi hz0 hz1 hz2 rfl (by decide) _ _ _ rfl hown a n cap (vals f n) rfl (by simp [vals]) ?c1 ?c2 ?c3 ?c4 ?c5 ?_)
    case c1 =>
      intro j u hj
      have hjn : j < n := by
        rcases Nat.lt_or_ge j n with h | h
        · exact h
        · rw [List.getElem?_eq_none (by simp [vals]; omega)] at hj; cases hj
      rw [vals_at f n j hjn] at hj
      cases hj
      obtain ⟨b, off, e, hc⟩ := hr j hjn
      cases e
      have hlt := World.block_lt_of_cell? _ _ hc
      have e2 : (⟨b, off, none⟩ : Addr).add j = ⟨b, off + j, none⟩ := by unfold Addr.add; split <;> simp_all
      rw [e2, World.cell?_alloc_old _ _ _ (Nat.ne_of_lt hlt)]
      exact hc
    case c2 =>
      intro u hu
      simp [vals] at hu
      obtain ⟨k, _, rfl⟩ := hu
      rfl
    case c3 => unfold maxLen; omega
    case c4 => omega
    case c5 => simp
    intro v' w2 hown' hgrow _
    have HO : Hid (∃ a' cap', v' = .slice a' n cap' ∧ FRow w2 w.heap.size w2.heap.size a' n f) := by
      refine frow_owns (xs := vals f n) ?_ (vals_at f n)
      first
        | exact hown'
        | simpa using hown'
    have HB : Hid (Below w.heap.size w w2) := ((Below.refl _ _).alloc (Nat.le_refl _) _).grown hgrow (by simp) (by intro k hk; simp [Value.ownBlock] at hk; omega)
    clear hown' hgrow hown
    obtain ⟨a', cap', rfl, hF⟩ := HO.out
    have HF : Hid (FRow w2 w.heap.size w2.heap.size a' n f) := hF
    clear hF HO
    go_wp2_with fail
    go_ret
    exact ⟨⟨_, _, rfl, HF.out⟩, HB.out⟩
end Go.Proofs.YtglkjeidkjkdaaaDoor
