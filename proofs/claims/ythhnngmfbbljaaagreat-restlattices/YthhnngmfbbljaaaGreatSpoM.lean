/-
  What hasselaw.pair answers: the lattice of two elements. No condition.
  A lattice whose tables lie there is one by Check; the lattice of two elements. No condition.
  An order's row that is new and may be written. No condition.
  Rows of the call's own that are written over: what hasselaw.twin and hasselaw.spoil answer. Conditions: a slice of at most 17592186043904 numbers.
-/
import Derived.Test.YthhnngmfbbljaaaGreatSameL
import Derived.Test.YthhnngmfbbljaaaGreatLaws
import Derived.Test.YthhnngmfbbljaaaGreatFilM
import Derived.Test.YthhnngmfbbljaaaGreatBuild
import Derived.BigQuiet
namespace Go.Proofs.YthhnngmfbbljaaaGreat
set_option maxRecDepth 100000
open Go.RowKit

/-- The lattice of two elements lies there. -/
def PairIs (x : Value) (w : World) : Prop := ∃ b b' R R', x = .agg #[.int .i64 2, .slice (some ⟨b, 0, none⟩) 2 2, .slice (some ⟨b', 0, none⟩) 2 2] ∧ Tb w b 0 2 R (fun x y => min x y) ∧ Tb w b' 0 2 R' (fun x y => max x y)
def pairW (w : World) : World :=
  ((((((w.alloc (.cells #[.int .i64 2, .slice (some ⟨w.heap.size + 1 + 1 + 1, 0, none⟩) 2 2, .slice (some ⟨w.heap.size + 1 + 1 + 1 + 1 + 1 + 1, 0, none⟩) 2 2] 27)).alloc (.cells #[.int .i64 0, .int .i64 0] 3)).alloc (.cells #[.int .i64 0, .int .i64 1] 3)).alloc
    (.cells #[.slice (some ⟨w.heap.size + 1, 0, none⟩) 2 2, .slice (some ⟨w.heap.size + 1 + 1, 0, none⟩) 2 2] 22)).alloc (.cells #[.int .i64 0, .int .i64 1] 3)).alloc (.cells #[.int .i64 1, .int .i64 1] 3)).alloc
    (.cells #[.slice (some ⟨w.heap.size + 1 + 1 + 1 + 1, 0, none⟩) 2 2, .slice (some ⟨w.heap.size + 1 + 1 + 1 + 1 + 1, 0, none⟩) 2 2] 22)
set_option maxHeartbeats 2000000 in
theorem pair_any (w : World) : Calls Tryz.prog 20 #[] w fun e w' => (∃ x, e = .returned x ∧ PairIs x w') ∧ Below w.heap.size w w' := by
  have HB : Hid (Below w.heap.size w (pairW w)) := by
    unfold pairW
    refine ((((((((Below.refl _ _).alloc (Nat.le_refl _) _).alloc ?_ _).alloc ?_ _).alloc ?_ _).alloc ?_ _).alloc ?_ _).alloc ?_ _) <;> simp <;> omega
  have HP : Hid (PairIs (.agg #[.int .i64 2, .slice (some ⟨w.heap.size + 1 + 1 + 1, 0, none⟩) 2 2, .slice (some ⟨w.heap.size + 1 + 1 + 1 + 1 + 1 + 1, 0, none⟩) 2 2]) (pairW w)) := by
    refine ⟨_, _, fun x => if x = 0 then (w.heap.size + 1, 0, 2) else (w.heap.size + 1 + 1, 0, 2), fun x => if x = 0 then (w.heap.size + 1 + 1 + 1 + 1, 0, 2) else (w.heap.size + 1 + 1 + 1 + 1 + 1, 0, 2), rfl, fun x hx => ?_, fun x hx => ?_⟩
    · rcases (by omega : x = 0 ∨ x = 1) with rfl | rfl
      · refine ⟨by simp [pairW, go_sem], fun y hy => ?_⟩
        rcases (by omega : y = 0 ∨ y = 1) with rfl | rfl <;> simp [pairW, go_sem]
      · refine ⟨by simp [pairW, go_sem], fun y hy => ?_⟩
        rcases (by omega : y = 0 ∨ y = 1) with rfl | rfl <;> simp [pairW, go_sem]
    · rcases (by omega : x = 0 ∨ x = 1) with rfl | rfl
      · refine ⟨by simp [pairW, go_sem], fun y hy => ?_⟩
        rcases (by omega : y = 0 ∨ y = 1) with rfl | rfl <;> simp [pairW, go_sem]
      · refine ⟨by simp [pairW, go_sem], fun y hy => ?_⟩
        rcases (by omega : y = 0 ∨ y = 1) with rfl | rfl <;> simp [pairW, go_sem]
  go_enter Tryz.func20, Tryz.ntmps20
  go_wp2_with fail
  exact bodyPost_ret (v := .agg #[.int .i64 2, .slice (some ⟨w.heap.size + 1 + 1 + 1, 0, none⟩) 2 2, .slice (some ⟨w.heap.size + 1 + 1 + 1 + 1 + 1 + 1, 0, none⟩) 2 2]) (by simp [results, Tryz.results20, go_sem]) rfl ⟨⟨_, rfl, HP.out⟩, HB.out⟩
end Go.Proofs.YthhnngmfbbljaaaGreat
namespace Go.Proofs.YthhnngmfbbljaaaGreat
set_option maxRecDepth 100000
open Go.RowKit

/-- A table as it comes in. -/
theorem Tb.rr {w : World} {b off n : Nat} {R : Nat → Nat × Nat × Nat} {m : Nat → Nat → Nat} (h : Tb w b off n R m) (hn : n ≤ maxLen) : RR w (some ⟨b, off, none⟩) n (fun x => (some ⟨(R x).1, (R x).2.1, none⟩, n, (R x).2.2)) (fun x y => (m x y : Nat)) :=
  fun k hk => ⟨b, off, rfl, (h k hk).1, hn, h.row hk⟩
theorem nat2_cast (m : Nat → Nat → Nat) : nat2 (fun x y => (m x y : Nat)) = m := by funext x y; simp [nat2]
theorem LCk.of {n : Nat} {SA SB : Nat → Option Addr × Nat × Nat} {m j : Nat → Nat → Nat} (h1 : 1 ≤ n) (h40 : n ≤ 40) (ha : ∀ x, x < n → (SA x).2.1 = n) (hb : ∀ x, x < n → (SB x).2.1 = n) (hL : Lat n m j) : LCk n n SA (fun x y => (m x y : Nat)) n SB (fun x y => (j x y : Nat)) 0 := by
  refine .inr ⟨⟨by omega, by omega⟩, .inr ⟨⟨⟨rfl, fun k hk => by rw [ha k hk]⟩, rfl, fun k hk => by rw [hb k hk]⟩, .inr ⟨⟨fun x hx y hy => ?_, fun x hx y hy => ?_⟩, .inr ⟨rfl, ?_, ?_⟩⟩⟩⟩
  · have := hL.im x y hx (by rw [ha x hx] at hy; exact hy); show 0 ≤ ((m x y : Nat) : Int) ∧ ((m x y : Nat) : Int) < (n : Int); omega
  · have := hL.ij x y hx (by rw [hb x hx] at hy; exact hy); show 0 ≤ ((j x y : Nat) : Int) ∧ ((j x y : Nat) : Int) < (n : Int); omega
  · rw [nat2_cast, nat2_cast]; exact hL.lm
  · rw [nat2_cast, nat2_cast]; exact hL.lj
theorem lat2 : Lat 2 (fun x y => min x y) (fun x y => max x y) := by
  refine ⟨fun x y hx hy => by omega, fun x y hx hy => by omega, lws_iff.2 fun x y z hx hy hz => ?_, lws_iff.2 fun x y z hx hy hz => ?_⟩ <;> refine ⟨by omega, by omega, by omega, by omega⟩
end Go.Proofs.YthhnngmfbbljaaaGreat
namespace Go.Proofs.YthhnngmfbbljaaaGreat
open Go.RowKit

/-- The row of an order lies from block K on, and may be written. -/
def WrB (K : Nat) (w : World) (x : Value) : Prop := ∀ N a l cp, x = .agg #[N, .slice a l cp] → ∀ k, k < l → ∃ b, a = some ⟨b, 0, none⟩ ∧ (K ≤ b ∧ b < w.heap.size) ∧ w.frozen? ⟨b, k, none⟩ = false
theorem wrb_no (K : Nat) (w : World) : WrB K w noOrder := fun N a l cp h k hk => by
  simp [noOrder] at h
  obtain ⟨_, _, rfl, _⟩ := h
  exact absurd hk (Nat.not_lt_zero _)
theorem wrb_own {K : Nat} {w : World} {b n : Nat} {g : Nat → Nat} {N : Value} {cp : Nat} (h : Own w b n g) (hK : K ≤ b) : WrB K w (.agg #[N, .slice (some ⟨b, 0, none⟩) n cp]) := fun N' a l cp' e k hk => by
  simp at e
  obtain ⟨_, rfl, rfl, _⟩ := e
  exact ⟨b, rfl, ⟨hK, World.block_lt_of_cell? _ _ (h k hk).1⟩, (h k hk).2⟩
theorem wrb_owns {K : Nat} {w : World} {b n m base cap : Nat} {xs : List Value} {N : Value} {cp : Nat} (h : w.ownsRow base 3 1 (.slice (some ⟨b, 0, none⟩) m cap) m xs) (hK : K ≤ b) : WrB K w (.agg #[N, .slice (some ⟨b, 0, none⟩) n cp]) := fun N' a l cp' e k hk => by
  simp at e
  obtain ⟨_, rfl, rfl, _⟩ := e
  exact ⟨b, rfl, ⟨hK, (h.lt b rfl).2⟩, h.frozenAt k⟩
theorem wrb_set2 {K : Nat} {X : World} {p q : Addr} {u v x : Value} (h : WrB K X x) : WrB K ((X.setCell p u).setCell q v) x := fun N a l cp e k hk => by
  obtain ⟨b, e1, e2, e3⟩ := h N a l cp e k hk
  exact ⟨b, e1, by simpa using e2, by rw [World.frozen?_setCell, World.frozen?_setCell]; exact e3⟩
theorem wrb_mono {K K' : Nat} {w : World} {x : Value} (h : WrB K w x) (hK : K' ≤ K) : WrB K' w x := fun N a l cp e k hk => by
  obtain ⟨b, e1, e2, e3⟩ := h N a l cp e k hk
  exact ⟨b, e1, ⟨by omega, e2.2⟩, e3⟩
end Go.Proofs.YthhnngmfbbljaaaGreat
namespace Go.Proofs.YthhnngmfbbljaaaGreat
set_option maxRecDepth 100000
open Go.RowKit

def vals (f : Nat → Int) (n : Nat) : List Value := (List.range n).map fun y => .int .i64 (f y)
theorem vals_at (f : Nat → Int) (n k : Nat) (h : k < n) : (vals f n)[k]? = some (.int .i64 (f k)) := by simp [vals, h]
theorem vals_len (f : Nat → Int) (n : Nat) : (vals f n).length = n := by simp [vals]
/-- A row whose block lies from K on and below K', and which may be written. -/
def FRow (w : World) (K K' : Nat) (a : Option Addr) (n : Nat) (f : Nat → Int) : Prop :=
  ∀ k, k < n → ∃ b, a = some ⟨b, 0, none⟩ ∧ (K ≤ b ∧ b < K') ∧ w.cell? ⟨b, k, none⟩ = some (.int .i64 (f k)) ∧ w.frozen? ⟨b, k, none⟩ = false
theorem FRow.row {w : World} {K K' : Nat} {a : Option Addr} {n : Nat} {f : Nat → Int} (h : FRow w K K' a n f) : Row w a n f := fun k hk => by
  obtain ⟨b, rfl, _, hc, _⟩ := h k hk
  exact ⟨b, 0, rfl, by rw [Nat.zero_add]; exact hc⟩
theorem FRow.step {w w' : World} {K K' : Nat} {a : Option Addr} {n : Nat} {f : Nat → Int} (h : FRow w K K' a n f) (hb : Below w.heap.size w w') : FRow w' K K' a n f := fun k hk => by
  obtain ⟨b, rfl, hK, hc, hz⟩ := h k hk
  have hlt := World.block_lt_of_cell? _ _ hc
  exact ⟨b, rfl, hK, (hb.cell (p := ⟨b, k, none⟩) hlt).trans hc, (hb.frozen (p := ⟨b, k, none⟩) hlt).trans hz⟩
theorem FRow.wide {w : World} {K K' L L' : Nat} {a : Option Addr} {n : Nat} {f : Nat → Int} (h : FRow w K K' a n f) (hl : L ≤ K) (hu : K' ≤ L') : FRow w L L' a n f := fun k hk => by
  obtain ⟨b, e, ⟨h1, h2⟩, r⟩ := h k hk
  exact ⟨b, e, ⟨by omega, by omega⟩, r⟩
theorem frow_owns {w : World} {K n : Nat} {v : Value} {xs : List Value} {f : Nat → Int} (h : w.ownsRow K 3 1 v n xs) (hx : ∀ k, k < n → xs[k]? = some (.int .i64 (f k))) : ∃ a cap, v = .slice a n cap ∧ FRow w K w.heap.size a n f := by
  have h' := h
  rcases h.2 with ⟨rfl, rfl⟩ | ⟨g, cap, cur, rfl, hb, _⟩
  · exact ⟨none, 0, rfl, fun k hk => absurd hk (Nat.not_lt_zero _)⟩
  · refine ⟨_, cap, rfl, fun k hk => ⟨g, rfl, ?_, ?_, h'.frozenAt k⟩⟩
    · have hc := h'.cellAt k (by omega)
      rw [hx k hk] at hc
      exact ⟨hb, World.block_lt_of_cell? _ _ hc⟩
    · rw [h'.cellAt k (by omega)]; exact hx k hk
/-- A slice of the call's own that may be written. -/
def Wrt (K : Nat) (w : World) (v : Value) : Prop := ∃ (a : Option Addr) (n cap : Nat) (f : Nat → Int), v = .slice a n cap ∧ FRow w K w.heap.size a n f
theorem wrt_nats {w : World} {K L : Nat} {v : Value} {l : List Nat} (hL : L ≤ K) (h : w.ownsRow K 3 1 v l.length (natVals l)) : Wrt L w v := by
  obtain ⟨a, cap, e, hf⟩ := frow_owns h (f := fun k => (nth l k : Nat)) (fun k hk => natVals_at l k hk)
  exact ⟨a, _, cap, _, e, hf.wide hL (Nat.le_refl _)⟩
theorem wrt_row {w : World} {K L : Nat} {v : Value} {n : Nat} {F : Nat → Nat} (hL : L ≤ K) (h : w.ownsRow K 3 1 v n (rowVals F n)) : Wrt L w v := by
  obtain ⟨a, cap, e, hf⟩ := frow_owns h (f := fun k => (F k : Nat)) (fun k hk => rowVals_at F n k hk)
  exact ⟨a, _, cap, _, e, hf.wide hL (Nat.le_refl _)⟩
/-- Only blocks from K on and below K' were written. -/
def Off (K K' : Nat) (w w' : World) : Prop := w.heap.size ≤ w'.heap.size ∧ ∀ p : Addr, (p.block < K ∨ K' ≤ p.block) →
  (∀ v, w.cell? p = some v → w'.cell? p = some v) ∧ (∀ v, w.cell? p = some v → w.frozen? p = false → w'.frozen? p = false)
theorem Off.refl (K K' : Nat) (w : World) : Off K K' w w := ⟨Nat.le_refl _, fun _ _ => ⟨fun _ h => h, fun _ _ h => h⟩⟩
theorem Off.set {K K' : Nat} {w0 w : World} (h : Off K K' w0 w) {b u : Nat} {z : Value} (h1 : K ≤ b) (h2 : b < K') : Off K K' w0 (w.setCell ⟨b, u, none⟩ z) := by
  refine ⟨by simpa using h.1, fun p hp => ⟨fun v hv => ?_, fun v hv hf => ?_⟩⟩
  · rw [World.cell?_setCell_other _ _ _ _ (fun e => by subst e; simp at hp; omega)]; exact (h.2 p hp).1 v hv
  · rw [World.frozen?_setCell]; exact (h.2 p hp).2 v hv hf
theorem Row.off {K K' : Nat} {w0 w w' : World} {a : Option Addr} {n : Nat} {f : Nat → Int} (h0 : Row w0 a n f) (hK : w0.heap.size ≤ K) (h : Row w a n f) (ho : Off K K' w w') : Row w' a n f := fun k hk => by
  obtain ⟨b, off, e, hc⟩ := h k hk
  obtain ⟨b', off', e', hc'⟩ := h0 k hk
  rw [e] at e'
  injection e' with e'
  injection e' with e1 e2
  subst e1
  have := World.block_lt_of_cell? _ _ hc'
  exact ⟨b, off, e, (ho.2 _ (.inl (by show b < K; simp at this; omega))).1 _ hc⟩
theorem FRow.off {K K' L L' : Nat} {w w' : World} {a : Option Addr} {n : Nat} {f : Nat → Int} (h : FRow w L L' a n f) (hK : K' ≤ L) (ho : Off K K' w w') : FRow w' L L' a n f := fun k hk => by
  obtain ⟨b, e, h1, hc, hz⟩ := h k hk
  have hp := ho.2 ⟨b, k, none⟩ (.inr (by show K' ≤ b; omega))
  exact ⟨b, e, h1, hp.1 _ hc, hp.2 _ hc hz⟩



theorem Off.cell {K K' : Nat} {w w' : World} (ho : Off K K' w w') {p : Addr} {v : Value} (hp : p.block < K ∨ K' ≤ p.block) (h : w.cell? p = some v) : w'.cell? p = some v := (ho.2 p hp).1 v h

set_option maxHeartbeats 1000000 in
theorem spoil_any (K K' : Nat) (a : Option Addr) (n cap : Nat) (f : Nat → Int) (w : World) (hn : n ≤ 17592186043904) (h : FRow w K K' a n f) :
    Calls Tryz.prog 14 #[.slice a n cap] w fun e w' => e = .returned (.tuple #[]) ∧ Off K K' w w' ∧ (∀ w0 : World, w0.heap.size ≤ K → Below w0.heap.size w0 w → Below w0.heap.size w0 w') := by
  have HF : Hid (FRow w K K' a n f) := h
  clear h
  go_enter Tryz.func14, Tryz.ntmps14
  go_wp2_with fail
  go_loopw [2] (fun i wx => ∃ k : Nat, k ≤ n ∧ i = .int .i64 k ∧ Hid ((∃ f', FRow wx K K' a n f') ∧ Off K K' w wx ∧ (∀ w0 : World, w0.heap.size ≤ K → Below w0.heap.size w0 w → Below w0.heap.size w0 wx))) (fun i _ => n - (intOf i).toNat)
  case atStart => exact ⟨0, Nat.zero_le _, rfl, ⟨f, HF.out⟩, Off.refl _ _ _, fun _ _ h => h⟩
  case round =>
    clear HF
    obtain ⟨k, hk, rfl, HH⟩ := hrel
    by_cases hkn : k < n
    · obtain ⟨⟨f', hF⟩, hO, hB⟩ := HH.out
      obtain ⟨b, rfl, hKb, hc, hz⟩ := hF k hkn
      have HN : Hid ((∃ f', FRow (wr.setCell ⟨b, k, none⟩ (.int .i64 (-7))) K K' (some ⟨b, 0, none⟩) n f') ∧ Off K K' w (wr.setCell ⟨b, k, none⟩ (.int .i64 (-7))) ∧ (∀ w0 : World, w0.heap.size ≤ K → Below w0.heap.size w0 w → Below w0.heap.size w0 (wr.setCell ⟨b, k, none⟩ (.int .i64 (-7))))) := by
        refine ⟨⟨fun j => if j = k then -7 else f' j, fun j hj => ?_⟩, hO.set hKb.1 hKb.2, fun w0 h1 h2 => (hB w0 h1 h2).setCell (p := ⟨b, k, none⟩) (by show w0.heap.size ≤ b; omega) _⟩
        obtain ⟨b', e, hK', hc', hz'⟩ := hF j hj
        injection e with e
        injection e with e1
        subst e1
        refine ⟨b, rfl, hKb, ?_, by rw [World.frozen?_setCell]; exact hz'⟩
        show _ = some (Value.int .i64 (if j = k then -7 else f' j))
        by_cases e : j = k
        · subst e; rw [if_pos rfl]; exact World.cell?_setCell_same _ _ _ hc
        · rw [World.cell?_setCell_other _ _ _ _ (fun e2 => e (by injection e2 with _ h2; exact h2.symm)), if_neg e]; exact hc'
      have hkI : (k : Int) < (n : Int) := by omega
      clear HH hF hO hB hKb
      go_wp2_with fail
      go_roundw
      case rel => exact ⟨k + 1, by omega, by go_num, HN.out⟩
      case measure => simp [intOf]; omega
    · obtain rfl : k = n := by omega
      go_wp2_with fail
      go_end0
      exact ⟨rfl, HH.out.2⟩

theorem run_app_none (t ty : TypeId) (i : TypeInfo) (ht : Tryz.prog.underlying t = some (.slice 3)) (hi : Tryz.prog.info? 3 = some i) (b n cap c : Nat) (hn : n ≤ cap) (w : World) :
    (Builtin.append_ #[t, t] ty #[.slice (some ⟨b, 0, none⟩) n cap, .slice none 0 c]).run Tryz.prog w = .ok (.slice (some ⟨b, 0, none⟩) n cap) w := by
  simp [Builtin.append_, run_underlying ht, Builtin.lenOf, Builtin.firstCells, sizeOf, typeInfo, hi, storeCells, Result.andThen, hn]

theorem wp_apnone {ops : Array Oper} {rest : List Oper} {o : Oper} {a : Act} {Q : Exit → Act → World → Prop} {w : World} (hgd : o.guard = none) (s x : Operand)
    (ho : o.op = .call { callee := .builtin .append, args := #[s, x], argTypes := #[22, 22] }) (b n cap c : Nat) (hs : a.eval s = .slice (some ⟨b, 0, none⟩) n cap) (hnc : n ≤ cap) (hx : a.eval x = .slice none 0 c)
    (h : wpList Tryz.prog ops Q rest (a.put o.dst (.slice (some ⟨b, 0, none⟩) n cap)) w) : wpList Tryz.prog ops Q (o :: rest) a w := by
  refine wpList_plain hgd fun K hK => ?_
  obtain ⟨i0, hi, hz0, hz1, hz2⟩ := info_parts Tryz.info3
  have hrun := run_app_none 22 o.type i0 Tryz.underlying22 hi b n cap c hnc w
  unfold Oper.wp execOp
  simp only [ho, resolve, invoke, builtin, Sem.run_bind, Sem.run_pure, Result.andThen_ok, List.map_toArray, List.map_cons, List.map_nil, hs, hx, hrun]
  exact hK _ _ h

set_option maxHeartbeats 1000000 in
theorem twin_any (a : Option Addr) (n cap : Nat) (f : Nat → Int) (w : World) (hn : n ≤ 17592186043904) (hr : Row w a n f) :
    Calls Tryz.prog 8 #[.slice a n cap] w fun e w' => (∃ a' cap', e = .returned (.slice a' n cap') ∧ FRow w' w.heap.size w'.heap.size a' n f ∧ (a' = none → n = 0 ∧ cap' = 0)) ∧ Below w.heap.size w w' := by
  obtain ⟨i0, hi, hz0, hz1, hz2⟩ := info_parts Tryz.info3
  have hown : (w.alloc (.cells #[] 3)).ownsRow w.heap.size 3 1 (.slice (some ⟨w.heap.size, 0, none⟩) 0 0) 0 [] := World.ownsRow_made w #[] 0 (Nat.le_refl _) (by unfold maxLen; omega) (by simp)
  rcases a with _ | a
  · have h0 : n = 0 := by
      rcases Nat.eq_zero_or_pos n with h | h
      · exact h
      · obtain ⟨b, off, e, _⟩ := hr 0 h; cases e
    subst h0
    clear hr
    go_enter Tryz.func8, Tryz.ntmps8
    go_wp2_with (at_builtin; refine wp_apnone rfl _ _ rfl w.heap.size 0 0 cap rfl (Nat.le_refl _) rfl ?_)
    go_ret
    exact ⟨⟨_, _, rfl, fun k hk => absurd hk (Nat.not_lt_zero _), fun h => by cases h⟩, (Below.refl _ _).alloc (Nat.le_refl _) _⟩
  · go_enter Tryz.func8, Tryz.ntmps8
    go_wp2_with (at_builtin; refine wpList_append_own _ rfl _ _ 22 rfl w.heap.size 3 i0 (.int .i64 0) 1 8 Tryz.underlying22 hi hz0 hz1 hz2 rfl (by decide) _ _ _ rfl hown a n cap (vals f n) rfl (by simp [vals]) ?c1 ?c2 ?c3 ?c4 ?c5 ?_)
    case c1 =>
      intro j u hj
      have hjn : j < n := by
        rcases Nat.lt_or_ge j n with h | h
        · exact h
        · rw [List.getElem?_eq_none (by simp [vals]; omega)] at hj; cases hj
      rw [vals_at f n j hjn] at hj
      cases hj
      obtain ⟨b, off, e, hc⟩ := hr j hjn
      cases e
      have hlt := World.block_lt_of_cell? _ _ hc
      have e2 : (⟨b, off, none⟩ : Addr).add j = ⟨b, off + j, none⟩ := by unfold Addr.add; split <;> simp_all
      rw [e2, World.cell?_alloc_old _ _ _ (Nat.ne_of_lt hlt)]
      exact hc
    case c2 =>
      intro u hu
      simp [vals] at hu
      obtain ⟨k, _, rfl⟩ := hu
      rfl
    case c3 => unfold maxLen; omega
    case c4 => omega
    case c5 => simp
    intro v' w2 hown' hgrow _
    have HNN : Hid (∀ a' cap', v' = .slice a' n cap' → a' = none → n = 0 ∧ cap' = 0) := fun a' cap' e e0 => by
      subst e0
      rcases hown'.2 with ⟨q0, _⟩ | ⟨g, c1, cur, q1, _⟩
      · rw [e] at q0; cases q0; exact ⟨rfl, rfl⟩
      · rw [e] at q1; cases q1
    have HO : Hid (∃ a' cap', v' = .slice a' n cap' ∧ FRow w2 w.heap.size w2.heap.size a' n f) := by
      refine frow_owns (xs := vals f n) ?_ (vals_at f n)
      first
        | exact hown'
        | simpa using hown'
    have HB : Hid (Below w.heap.size w w2) := ((Below.refl _ _).alloc (Nat.le_refl _) _).grown hgrow (by simp) (by intro k hk; simp [Value.ownBlock] at hk; omega)
    clear hown' hgrow hown
    obtain ⟨a', cap', rfl, hF⟩ := HO.out
    have HF : Hid (FRow w2 w.heap.size w2.heap.size a' n f) := hF
    have HN2 : Hid (a' = none → n = 0 ∧ cap' = 0) := HNN.out _ _ rfl
    clear hF HO HNN
    go_wp2_with fail
    go_ret
    exact ⟨⟨_, _, rfl, HF.out, HN2.out⟩, HB.out⟩
end Go.Proofs.YthhnngmfbbljaaaGreat
