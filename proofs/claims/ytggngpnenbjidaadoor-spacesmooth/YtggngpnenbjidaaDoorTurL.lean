/-
  What the reference's TurnsOf answers: as many as come of a set. For every order and number that are handed in, hasselaw.SpaceTurns returns true, and writes nothing that was there. Condition: the table of the least bits.
-/
import Derived.Deep.RegionHeld3
import Derived.ArgAppend
import Derived.Test.YtggngpnenbjidaaDoorCloL
import Derived.Test.YtggngpnenbjidaaDoorKurM
namespace Go.Proofs.YtggngpnenbjidaaDoor
set_option maxRecDepth 100000
open Go.RowKit

theorem bel_more {w v : World} (h : Below w.heap.size w v) (o : Obj) : Below w.heap.size w (v.alloc o) := h.alloc h.size _
/-- A list of sets that came of s, the first i of which were looked at. -/
structure Bfs (f h : Nat → Nat) (m s : Nat) (l : List Nat) (i : Nat) : Prop where
  nd : l.Nodup
  small : ∀ x, x ∈ l → x < m
  self : s ∈ l
  only : ∀ x, x ∈ l → Rch f h s x
  shut : ∀ j, j < i → f (nth l j) ∈ l ∧ h (nth l j) ∈ l
theorem Bfs.start {f h : Nat → Nat} {m s : Nat} (hs : s < m) : Bfs f h m s [s] 0 :=
  ⟨by simp, fun x hx => by rw [List.mem_singleton] at hx; omega, by simp, fun x hx => by rw [List.mem_singleton] at hx; subst hx; exact Rch.self _ _ _, fun j hj => absurd hj (Nat.not_lt_zero _)⟩
theorem nth_left {l : List Nat} {x j : Nat} (h : j < l.length) : nth (l ++ [x]) j = nth l j := by simp [nth, List.getElem?_append_left h]
theorem Bfs.add {f h : Nat → Nat} {m s : Nat} {l : List Nat} {i x : Nat} (b : Bfs f h m s l i) (hi : i ≤ l.length) (hx : x ∉ l) (hm : x < m) (hr : Rch f h s x) : Bfs f h m s (l ++ [x]) i := by
  refine ⟨?_, fun y hy => ?_, List.mem_append_left _ b.self, fun y hy => ?_, fun j hj => ?_⟩
  · rw [List.nodup_append]
    exact ⟨b.nd, by simp, fun a ha c hc => by rw [List.mem_singleton] at hc; subst hc; exact fun e => hx (e ▸ ha)⟩
  · rcases List.mem_append.1 hy with h1 | h1
    · exact b.small y h1
    · rw [List.mem_singleton] at h1; omega
  · rcases List.mem_append.1 hy with h1 | h1
    · exact b.only y h1
    · rw [List.mem_singleton] at h1; subst h1; exact hr
  · rw [nth_left (by omega)]
    exact ⟨List.mem_append_left _ (b.shut j hj).1, List.mem_append_left _ (b.shut j hj).2⟩
theorem Bfs.next {f h : Nat → Nat} {m s : Nat} {l : List Nat} {i : Nat} (b : Bfs f h m s l i) (h1 : f (nth l i) ∈ l) (h2 : h (nth l i) ∈ l) : Bfs f h m s l (i + 1) :=
  ⟨b.nd, b.small, b.self, b.only, fun j hj => by
    rcases Nat.lt_or_ge j i with h3 | h3
    · exact b.shut j h3
    · obtain rfl : j = i := by omega
      exact ⟨h1, h2⟩⟩
theorem Bfs.len {f h : Nat → Nat} {m s : Nat} {l : List Nat} {i : Nat} (b : Bfs f h m s l i) : l.length ≤ m := by
  have h1 := nodup_len l (fil (fun _ => true) m) b.nd fun x hx => (fil_mem m).2 ⟨b.small x hx, rfl⟩
  exact Nat.le_trans h1 (fil_len _ m)
theorem Bfs.count {f h : Nat → Nat} {m s : Nat} {l : List Nat} (b : Bfs f h m s l l.length) {M : Nat → Bool} (hM : ∀ y, M y = true ↔ Rch f h s y) (hm : ∀ y, M y = true → y < m) : l.length = cntT M m := by
  have hall : ∀ x, x ∈ l ↔ M x = true := fun x => by
    constructor
    · exact fun hx => (hM x).2 (b.only x hx)
    · intro hx
      refine (hM x).1 hx (fun y => y ∈ l) b.self ?_ ?_
      · intro y hy
        obtain ⟨j, hj, rfl⟩ := mem_nth hy
        exact (b.shut j hj).1
      · intro y hy
        obtain ⟨j, hj, rfl⟩ := mem_nth hy
        exact (b.shut j hj).2
  have h1 : cntT M m ≤ l.length := cnt_list fun x hx => (hall x).2 hx
  have h2 : l.length ≤ cntT M m := by
    rw [← fil_cnt]
    exact nodup_len l _ b.nd fun x hx => (fil_mem m).2 ⟨hm x ((hall x).1 hx), (hall x).1 hx⟩
  omega
theorem Rch.goF {f h : Nat → Nat} {s x : Nat} (k : Rch f h s x) : Rch f h s (f x) := fun P h1 h2 h3 => h2 x (k P h1 h2 h3)
theorem Rch.goH {f h : Nat → Nat} {s x : Nat} (k : Rch f h s x) : Rch f h s (h x) := fun P h1 h2 h3 => h3 x (k P h1 h2 h3)
/-- Where x stands first; or nowhere. -/
def PlaceAt (f : Nat → Int) (m : Nat) (x : Nat) (r : Int) : Prop := (∃ j : Nat, j < m ∧ r = j ∧ f j = x ∧ ∀ i, i < j → f i ≠ x) ∨ (r = -1 ∧ ∀ j, j < m → f j ≠ x)
theorem placeR_any (a : Option Addr) (m cap : Nat) (f : Nat → Int) (x : Nat) (w : World) (hm : m ≤ maxLen) (hr : Row w a m f) :
    Calls Tryd.prog 31 #[.slice a m cap, .int .i64 x] w fun e w' => (∃ r : Int, e = .returned (.int .i64 r) ∧ PlaceAt f m x r) ∧ w = w' := by
  unfold maxLen at hm
  have HR : Hid (Row w a m f) := hr
  clear hr
  go_enter Tryd.func31, Tryd.ntmps31
  go_wp2_with fail
  go_loopw [5] (fun i wx => ∃ k : Nat, k ≤ m ∧ i = .int .i64 k ∧ wx = w ∧ Hid (∀ j, j < k → f j ≠ x)) (fun i _ => m - (intOf i).toNat)
  case atStart => exact ⟨0, Nat.zero_le _, rfl, rfl, fun j hj => absurd hj (Nat.not_lt_zero _)⟩
  case round =>
    obtain ⟨k, hk, rfl, rfl, HN⟩ := hrel
    by_cases hlt : k < m
    · obtain ⟨b, off, rfl, hc⟩ := HR.out k hlt
      by_cases he : f k = x
      · have he' : (f k == (x : Int)) = true := by rw [he]; simp
        have HE : Hid (PlaceAt f m x k) := .inl ⟨k, hlt, rfl, he, HN.out⟩
        generalize f k = X at *
        clear HN he
        go_wp2_with fail
        go_ret
        exact ⟨⟨_, rfl, HE.out⟩, rfl⟩
      · have he' : (f k == (x : Int)) = false := by simpa using he
        have HN2 : Hid (∀ j, j < k + 1 → f j ≠ x) := fun j hj => by
          by_cases e : j = k
          · subst e; exact he
          · exact HN.out j (by omega)
        generalize f k = X at *
        clear HN he
        go_wp2_with fail
        go_roundw
        case rel => exact ⟨k + 1, by omega, by go_num, by first | rfl | trivial, HN2.out⟩
        case measure => simp [intOf]; omega
    · obtain rfl : k = m := by omega
      have HE : Hid (PlaceAt f k x (-1)) := .inr ⟨rfl, HN.out⟩
      clear HN
      go_wp2_with fail
      go_ret
      exact ⟨⟨_, rfl, HE.out⟩, rfl⟩
theorem place_in (l : List Nat) (a : Option Addr) (m cap x : Nat) (w : World) (hm : m ≤ maxLen) (he : m = l.length) (hr : Row w a l.length (fun k => (nth l k : Nat))) (hx : ∃ k, k < l.length ∧ nth l k = x) :
    Calls Tryd.prog 31 #[.slice a m cap, .int .i64 x] w fun e w' => (∃ r : Nat, e = .returned (.int .i64 (r : Nat))) ∧ w = w' := by
  subst he
  refine (placeR_any a l.length cap _ x w hm hr).mono ?_
  rintro e w' ⟨⟨r, rfl, h⟩, rfl⟩
  rcases h with ⟨j, _, rfl, _⟩ | ⟨_, h⟩
  · exact ⟨⟨j, rfl⟩, rfl⟩
  · obtain ⟨k, hk, e⟩ := hx
    exact absurd (congrArg (fun z : Nat => (z : Int)) e) (h k hk)
theorem place_out (l : List Nat) (a : Option Addr) (m cap x : Nat) (w : World) (hm : m ≤ maxLen) (he : m = l.length) (hr : Row w a l.length (fun k => (nth l k : Nat))) (hx : ∀ k, k < l.length → nth l k ≠ x) :
    Calls Tryd.prog 31 #[.slice a m cap, .int .i64 x] w fun e w' => e = .returned (.int .i64 (-1)) ∧ w = w' := by
  subst he
  refine (placeR_any a l.length cap _ x w hm hr).mono ?_
  rintro e w' ⟨⟨r, rfl, h⟩, rfl⟩
  rcases h with ⟨j, hj, _, e, _⟩ | ⟨rfl, _⟩
  · have h2 : ((nth l j : Nat) : Int) = (x : Int) := e
    exact absurd (by omega) (hx j hj)
  · exact ⟨rfl, rfl⟩
theorem add_flat (b off j : Nat) : Addr.add ⟨b, off, none⟩ j = ⟨b, off + j, none⟩ := by
  cases j <;> simp [Addr.add]
/-- A number put behind a list of the call's own: where the list lies then. -/
theorem wp_appN {o : Oper} {a : Act} {K : Act → World → Prop} {Q : Exit → Act → World → Prop} (w : World) (s x : Operand)
    (ho : o.op = .call { callee := .builtin .append, args := #[s, x], argTypes := #[22, 22] }) (base : Nat) (l : List Nat) (v : Value) (hs : a.eval s = v) (hown : w.ownsRow base 3 1 v l.length (natVals l)) (hl : 0 < l.length) (hlen : l.length ≤ 100000)
    (b y : Nat) (hx : a.eval x = .slice (some ⟨b, 0, none⟩) 1 1) (hc : w.cell? ⟨b, 0, none⟩ = some (.int .i64 (y : Nat))) (hbase : base ≤ w.heap.size)
    (h : ∀ v' w', w'.ownsRow base 3 1 v' (l ++ [y]).length (natVals (l ++ [y])) → w.grownBy w' v.ownBlock → (∀ k, v'.ownBlock = some k → v.ownBlock = some k ∨ w.heap.size ≤ k) → K (a.put o.dst v') w') : o.wp Tryd.prog a w K Q := by
  obtain ⟨i0, hi, hz0, hz1, hz2⟩ := info_parts Tryd.info3
  obtain ⟨g, cap, rfl⟩ := owns_form hown hl
  have hnew : ∀ j u, [Value.int .i64 (y : Nat)][j]? = some u → w.cell? (Addr.add ⟨b, 0, none⟩ j) = some u := fun j u hj => by
    have hlt : j < 1 := by have := (List.getElem?_eq_some_iff.1 hj).1; simpa using this
    obtain rfl : j = 0 := by omega
    rw [add_flat, hc]
    simpa using hj
  have h1c : ∀ u ∈ [Value.int .i64 (y : Nat)], u.oneCell' = true := fun u hu => by rw [List.mem_singleton] at hu; subst hu; rfl
  have hln : (l ++ [y]).length = l.length + 1 := by simp
  have hnv : natVals (l ++ [y]) = natVals l ++ [.int .i64 (y : Nat)] := natVals_append l [y]
  rw [hln, hnv] at h
  by_cases hr : l.length + 1 ≤ cap
  · obtain ⟨w', hrun, r1, r2⟩ := run_append_fits (P := Tryd.prog) w base 22 o.type 3 i0 1 Tryd.underlying22 hi hz1 g l.length cap (natVals l) hown ⟨b, 0, none⟩ 1 1 [.int .i64 (y : Nat)] rfl hnew h1c hr
    unfold Oper.wp
    simp [execOp, ho, resolve, invoke, builtin, hs, hx, hrun, Result.andThen]
    exact h _ w' r1 r2 (fun k hk => .inl hk)
  · have hcell : ∀ j u, (natVals l)[j]? = some u → w.cell? (Addr.add ⟨g, 0, none⟩ j) = some u := fun j u hj => by
      have hlt : j < l.length := by have := (List.getElem?_eq_some_iff.1 hj).1; simpa [natVals] using this
      rw [add_flat, Nat.zero_add, hown.cellAt j (by omega)]
      exact hj
    obtain ⟨v', w', hrun, r1, r2⟩ := run_append_arg_grows (P := Tryd.prog) w 22 o.type 3 i0 (.int .i64 0) 1 8 Tryd.underlying22 hi hz0 hz1 hz2 rfl (by decide) ⟨g, 0, none⟩ l.length cap (natVals l) (by simp [natVals]) hcell ⟨b, 0, none⟩ 1 1 [.int .i64 (y : Nat)] rfl hnew (by omega) (by unfold maxLen; omega) (by omega)
    unfold Oper.wp
    simp [execOp, ho, resolve, invoke, builtin, hs, hx, hrun, Result.andThen]
    refine h v' w' ?_ ⟨r2.os, r2.tape, r2.output, r2.size, fun k hk _ => r2.block k hk (by simp)⟩ (fun k hk => .inr (r1.lt k hk).1)
    obtain ⟨q1, q2 | ⟨g', c2, cur, q3, q4, q5⟩⟩ := r1
    · exact ⟨q1, .inl q2⟩
    · exact ⟨q1, .inr ⟨g', c2, cur, q3, Nat.le_trans hbase q4, q5⟩⟩

/-- The two sets that come of z. -/
def nx (g : Nat → Nat) (len z k : Nat) : Nat := if k = 0 then clo g z else rst len z
theorem row_grown {w w' : World} {b m : Nat} {f : Nat → Int} {r : Option Nat} (h : Row w (some ⟨b, 0, none⟩) m f) (hg : w.grownBy w' r) (hne : some b ≠ r) : Row w' (some ⟨b, 0, none⟩) m f := fun k hk => by
  obtain ⟨b', off, e, hc⟩ := h k hk
  simp at e
  obtain ⟨rfl, rfl⟩ := e
  exact ⟨b, 0, rfl, (World.cell?_of_block (w := w) (hg.block b (World.block_lt_of_cell? _ _ hc) hne)).trans hc⟩

set_option maxHeartbeats 8000000 in
theorem turnsOf_any (a : Option Addr) (len cap : Nat) (g : Nat → Nat) (s : Nat) (w : World) (h10 : len ≤ 10) (hg : ∀ k, k < len → g k < pw len) (hr : Row w a len (fun k => (g k : Nat))) (hs : s < pw len) :
    Calls Tryd.prog 25 #[.agg #[.int .i64 (len : Int), .slice a len cap], .int .i64 (s : Nat)] w fun e w' => (∃ l, e = .returned (.int .i64 ((l.length : Nat) : Int)) ∧ Bfs (clo g) (rst len) (pw len) s l l.length) ∧ Below w.heap.size w w' := by
  have hpl := pw_le len h10
  have hpp := pw_pos len
  have HB0 : Hid (Below w.heap.size w (w.alloc (.cells #[.int .i64 (len : Int), .slice a len cap] 24))) := bel_one w _
  have K0 : Hid (Held (w.alloc (.cells #[.int .i64 (len : Int), .slice a len cap] 24)) w.heap.size len a len cap (fun k => (g k : Nat))) := Held.box hr
  have HG : Hid (∀ k, k < len → g k < pw len) := hg
  clear hr hg
  go_enter Tryd.func25, Tryd.ntmps25
  generalize hC : Code.region 1 _ false = C
  go_wp2_with fail
  generalize w.alloc (.cells #[.int .i64 (len : Int), .slice a len cap] 24) = W at *
  have LH0 : Hid (∀ w', Below W.heap.size W w' → Held w' w.heap.size len a len cap (fun k => ((g k : Nat) : Int))) := fun w' h => K0.out.step h
  generalize hB : w.heap.size = B at *
  rw [← hC]
  clear hC C K0
  have hO1 : (W.alloc (.cells #[.int .i64 (s : Nat)] 3)).ownsRow W.heap.size 3 1 (.slice (some ⟨W.heap.size, 0, none⟩) 1 1) [s].length (natVals [s]) :=
    ⟨rfl, .inr ⟨W.heap.size, 1, #[.int .i64 (s : Nat)], rfl, Nat.le_refl _, heap_alloc_new W _, by simp, by unfold maxLen; omega, rfl, rfl⟩⟩
  have HO1 := (show Hid (World.ownsRow _ _ _ _ _ _ _) from hO1)
  have HB1 : Hid (Below W.heap.size W (W.alloc (.cells #[.int .i64 (s : Nat)] 3))) := bel_one W _
  clear hO1
  go_wp2_with fail
  go_loopw [5, 6] (fun v i wx => ∃ (l : List Nat) (k : Nat), k ≤ l.length ∧ i = .int .i64 k ∧ Hid (Bfs (clo g) (rst len) (pw len) s l k) ∧ wx.ownsRow W.heap.size 3 1 v l.length (natVals l) ∧ Hid (Below W.heap.size W wx)) (fun _ i _ => pw len - (intOf i).toNat)
  case atStart => exact ⟨[s], 0, Nat.zero_le _, rfl, Bfs.start hs, HO1.out, HB1.out⟩
  case round =>
    clear HO1 HB1
    obtain ⟨l, i, hi, rfl, HF, hown, HB⟩ := hrel
    have hll := HF.out.len
    obtain ⟨va, vc, rfl, hrow⟩ := owns_nats hown
    by_cases hil : i < l.length
    · have hil' : (i : Int) < (l.length : Int) := by omega
      obtain ⟨z, hz0⟩ : ∃ z, nth l i = z := ⟨_, rfl⟩
      have hz : z < pw len := by rw [← hz0]; exact HF.out.small _ (nth_mem hil)
      have LH : Hid (∀ w', (Below W.heap.size W w' ∧ w'.ownsRow W.heap.size 3 1 (.slice va l.length vc) l.length (natVals l)) → Held w' B len a len cap (fun k => ((g k : Nat) : Int))) := fun w' h => LH0.out w' h.1
      have l0 : ∀ w', (Below W.heap.size W w' ∧ w'.ownsRow W.heap.size 3 1 (.slice va l.length vc) l.length (natVals l)) → w'.cell? ⟨B, 0, none⟩ = some (.int .i64 (len : Int)) := fun w' h => (LH.out w' h).c0
      have l1 : ∀ w', (Below W.heap.size W w' ∧ w'.ownsRow W.heap.size 3 1 (.slice va l.length vc) l.length (natVals l)) → w'.cell? ⟨B, 1, none⟩ = some (.slice a len cap) := fun w' h => (LH.out w' h).c1
      obtain ⟨b2, o2, rfl, _⟩ := hrow i hil
      have l2 : ∀ w', (Below W.heap.size W w' ∧ w'.ownsRow W.heap.size 3 1 (.slice (some ⟨b2, o2, none⟩) l.length vc) l.length (natVals l)) → w'.cell? ⟨b2, o2 + i, none⟩ = some (.int .i64 (z : Nat)) := fun w' h => by
        obtain ⟨a3, c3, e3, h3⟩ := owns_nats h.2
        simp only [Value.slice.injEq] at e3
        obtain ⟨rfl, _, _⟩ := e3
        obtain ⟨b4, o4, e4, h4⟩ := h3 i hil
        simp at e4
        obtain ⟨rfl, rfl⟩ := e4
        rw [← hz0]; exact h4
      have e1 := rst_sub h10 hz
      have hw0 : IntKind.i64.wrap (((pw len : Nat) : Int) - 1) = ((pw len : Nat) : Int) - 1 := wrap_i64_small _ (by omega) (by omega)
      have hw1 : IntKind.i64.wrap (((pw len : Nat) : Int) - 1 - ((z : Nat) : Int)) = ((rst len z : Nat) : Int) := by
        rw [show ((pw len : Nat) : Int) - 1 - ((z : Nat) : Int) = ((rst len z : Nat) : Int) by omega]
        exact wrap_i64_small _ (by omega) (by omega)
      clear e1 hrow
      go_wp2_with fail
      refine wp_region_held_drew (S := (fun w' => Below W.heap.size W w' ∧ w'.ownsRow W.heap.size 3 1 (.slice (some ⟨b2, o2, none⟩) l.length vc) l.length (natVals l))) (by kernel_rfl) (⟨HB.out.drew, hown.drew⟩) (fun hHeld => ?_)
      refine wpAnyH_take (i := 0) (oi := { dst := some 17, op := Go.Op.load 24 (Go.Operand.tmp 2), type := 24, pos := "quotient.go:582", after := #[], guard := none }) (v := ?_) rfl (by kernel_rfl) (by kernel_rfl) (by kernel_rfl) (fun _ _ _ h => h) (Or.inl ⟨by rfl, ?hy⟩) (by assumption) ?_
      case hy => (intro w9 hSw; (try dsimp only at hSw); go_simp; try with_reducible rfl)
      try simp only [Act.put, List.setIfInBounds_toArray, List.set_cons_zero, List.set_cons_succ]
      refine wpAnyH_take (i := 1) (oi := { dst := some 18, op := Go.Op.move (Go.Operand.tmp 5), type := 22, pos := "quotient.go:582", after := #[], guard := none }) (v := ?_) rfl (by kernel_rfl) (by kernel_rfl) (by kernel_rfl) (fun _ _ _ h => h) (Or.inl ⟨by rfl, ?hy⟩) (by assumption) ?_
      case hy => (intro w9 hSw; (try dsimp only at hSw); go_simp; try with_reducible rfl)
      try simp only [Act.put, List.setIfInBounds_toArray, List.set_cons_zero, List.set_cons_succ]
      refine wpAnyH_take (i := 2) (oi := { dst := some 19, op := Go.Op.move (Go.Operand.tmp 6), type := 3, pos := "quotient.go:582", after := #[], guard := none }) (v := ?_) rfl (by kernel_rfl) (by kernel_rfl) (by kernel_rfl) (fun _ _ _ h => h) (Or.inl ⟨by rfl, ?hy⟩) (by assumption) ?_
      case hy => (intro w9 hSw; (try dsimp only at hSw); go_simp; try with_reducible rfl)
      try simp only [Act.put, List.setIfInBounds_toArray, List.set_cons_zero, List.set_cons_succ]
      refine wpAnyH_take (i := 3) (oi := { dst := some 20, op := Go.Op.indexAddr 22 (Go.Operand.tmp 18) (Go.Operand.tmp 19), type := 0, pos := "quotient.go:582", after := #[{ on := 1, ground := Go.Ground.data }, { on := 2, ground := Go.Ground.data }], guard := none }) (v := ?_) rfl (by kernel_rfl) (by kernel_rfl) (by kernel_rfl) (fun _ _ _ h => h) (Or.inl ⟨by rfl, ?hy⟩) (by assumption) ?_
      case hy => (intro w9 hSw; (try dsimp only at hSw); go_simp; try with_reducible rfl)
      try simp only [Act.put, List.setIfInBounds_toArray, List.set_cons_zero, List.set_cons_succ]
      refine wpAnyH_take (i := 4) (oi := { dst := some 21, op := Go.Op.load 3 (Go.Operand.tmp 20), type := 3, pos := "quotient.go:582", after := #[{ on := 3, ground := Go.Ground.data }], guard := none }) (v := ?_) rfl (by kernel_rfl) (by kernel_rfl) (by kernel_rfl) (fun _ _ _ h => h) (Or.inl ⟨by rfl, ?hy⟩) (by assumption) ?_
      case hy => (intro w9 hSw; (try dsimp only at hSw); go_simp; try with_reducible rfl)
      try simp only [Act.put, List.setIfInBounds_toArray, List.set_cons_zero, List.set_cons_succ]
      refine wpAnyH_take (i := 6) (oi := { dst := some 23, op := Go.Op.fieldAddr 24 (Go.Operand.tmp 2) 0, type := 0, pos := "quotient.go:582", after := #[], guard := none }) (v := ?_) rfl (by kernel_rfl) (by kernel_rfl) (by kernel_rfl) (fun _ _ _ h => h) (Or.inl ⟨by rfl, ?hy⟩) (by assumption) ?_
      case hy => (intro w9 hSw; (try dsimp only at hSw); go_simp; try with_reducible rfl)
      try simp only [Act.put, List.setIfInBounds_toArray, List.set_cons_zero, List.set_cons_succ]
      refine wpAnyH_take (i := 7) (oi := { dst := some 24, op := Go.Op.load 3 (Go.Operand.tmp 23), type := 3, pos := "quotient.go:582", after := #[{ on := 6, ground := Go.Ground.data }], guard := none }) (v := ?_) rfl (by kernel_rfl) (by kernel_rfl) (by kernel_rfl) (fun _ _ _ h => h) (Or.inl ⟨by rfl, ?hy⟩) (by assumption) ?_
      case hy => (intro w9 hSw; (try dsimp only at hSw); go_simp; try with_reducible rfl)
      try simp only [Act.put, List.setIfInBounds_toArray, List.set_cons_zero, List.set_cons_succ]
      refine wpAnyH_take (i := 10) (oi := { dst := some 27, op := Go.Op.move (Go.Operand.tmp 5), type := 22, pos := "quotient.go:582", after := #[], guard := none }) (v := ?_) rfl (by kernel_rfl) (by kernel_rfl) (by kernel_rfl) (fun _ _ _ h => h) (Or.inl ⟨by rfl, ?hy⟩) (by assumption) ?_
      case hy => (intro w9 hSw; (try dsimp only at hSw); go_simp; try with_reducible rfl)
      try simp only [Act.put, List.setIfInBounds_toArray, List.set_cons_zero, List.set_cons_succ]
      refine wpAnyH_take (i := 11) (oi := { dst := some 28, op := Go.Op.move (Go.Operand.tmp 6), type := 3, pos := "quotient.go:582", after := #[], guard := none }) (v := ?_) rfl (by kernel_rfl) (by kernel_rfl) (by kernel_rfl) (fun _ _ _ h => h) (Or.inl ⟨by rfl, ?hy⟩) (by assumption) ?_
      case hy => (intro w9 hSw; (try dsimp only at hSw); go_simp; try with_reducible rfl)
      try simp only [Act.put, List.setIfInBounds_toArray, List.set_cons_zero, List.set_cons_succ]
      refine wpAnyH_take (i := 12) (oi := { dst := some 29, op := Go.Op.indexAddr 22 (Go.Operand.tmp 27) (Go.Operand.tmp 28), type := 0, pos := "quotient.go:582", after := #[{ on := 10, ground := Go.Ground.data }, { on := 11, ground := Go.Ground.data }], guard := none }) (v := ?_) rfl (by kernel_rfl) (by kernel_rfl) (by kernel_rfl) (fun _ _ _ h => h) (Or.inl ⟨by rfl, ?hy⟩) (by assumption) ?_
      case hy => (intro w9 hSw; (try dsimp only at hSw); go_simp; try with_reducible rfl)
      try simp only [Act.put, List.setIfInBounds_toArray, List.set_cons_zero, List.set_cons_succ]
      refine wpAnyH_take (i := 13) (oi := { dst := some 30, op := Go.Op.load 3 (Go.Operand.tmp 29), type := 3, pos := "quotient.go:582", after := #[{ on := 12, ground := Go.Ground.data }], guard := none }) (v := ?_) rfl (by kernel_rfl) (by kernel_rfl) (by kernel_rfl) (fun _ _ _ h => h) (Or.inl ⟨by rfl, ?hy⟩) (by assumption) ?_
      case hy => (intro w9 hSw; (try dsimp only at hSw); go_simp; try with_reducible rfl)
      try simp only [Act.put, List.setIfInBounds_toArray, List.set_cons_zero, List.set_cons_succ]
      refine wpAnyH_ready (rs := [5]) (by kernel_rfl) (by simp) ?_
      refine AllReadyH.cons (o := { dst := some 22, op := Go.Op.call { callee := Go.Callee.value (Go.Operand.func 22), args := #[Go.Operand.tmp 17, Go.Operand.tmp 21], argTypes := #[24, 3] }, type := 3, pos := "quotient.go:582", after := #[{ on := 0, ground := Go.Ground.data }, { on := 4, ground := Go.Ground.data }], guard := none }) rfl (fun K hK => ?_) AllReadyH.nil
      go_simp
      refine (closureOf_any a len cap g z _ h10 HG.out (LH.out _ (by assumption)).row hz).mono ?_
      rintro e w5 ⟨rfl, hb5⟩
      refine hK.out _ _ ?_ (fun hHeld => ?_)
      · first | assumption | exact hHeld | exact ⟨Below.then (And.left (by assumption)) (by assumption), owns_below (And.right (by assumption)) (by assumption)⟩ | exact ⟨bel_more (And.left (by assumption)) _, (And.right (by assumption) : World.ownsRow _ _ _ _ _ _ _).alloc _⟩
      clear hK K
      try simp only [Act.put, List.setIfInBounds_toArray, List.set_cons_zero, List.set_cons_succ]
      refine wpAnyH_ready (rs := [8]) (by kernel_rfl) (by simp) ?_
      refine AllReadyH.cons (o := { dst := some 25, op := Go.Op.call { callee := Go.Callee.value (Go.Operand.func 21), args := #[Go.Operand.tmp 24], argTypes := #[3] }, type := 3, pos := "quotient.go:582", after := #[{ on := 7, ground := Go.Ground.data }, { on := 5, ground := Go.Ground.chain }], guard := none }) rfl (fun K hK => ?_) AllReadyH.nil
      go_simp
      refine (bit_any len _ (by omega)).mono ?_
      rintro e w6 ⟨rfl, rfl⟩
      refine hK.out _ _ ?_ (fun hHeld => ?_)
      · first | assumption | exact hHeld | exact ⟨Below.then (And.left (by assumption)) (by assumption), owns_below (And.right (by assumption)) (by assumption)⟩ | exact ⟨bel_more (And.left (by assumption)) _, (And.right (by assumption) : World.ownsRow _ _ _ _ _ _ _).alloc _⟩
      clear hK K
      try simp only [Act.put, List.setIfInBounds_toArray, List.set_cons_zero, List.set_cons_succ]
      refine wpAnyH_take (i := 9) (oi := { dst := some 26, op := Go.Op.binOp Go.BinOp.sub 3 (Go.Operand.tmp 25) (Go.Operand.const (Go.Value.int Go.IntKind.i64 1)) 3, type := 3, pos := "quotient.go:582", after := #[{ on := 8, ground := Go.Ground.data }], guard := none }) (v := .int .i64 (((pw len : Nat) : Int) - 1)) rfl (by kernel_rfl) (by kernel_rfl) (by kernel_rfl) (fun _ _ _ h => h) (Or.inl ⟨by rfl, ?hy⟩) (by assumption) ?_
      case hy => (intro w9 hSw; (try dsimp only at hSw); go_simp <;> (first | with_reducible rfl | (simp; omega) | omega))
      try simp only [Act.put, List.setIfInBounds_toArray, List.set_cons_zero, List.set_cons_succ]
      refine wpAnyH_take (i := 14) (oi := { dst := some 31, op := Go.Op.binOp Go.BinOp.sub 3 (Go.Operand.tmp 26) (Go.Operand.tmp 30) 3, type := 3, pos := "quotient.go:582", after := #[{ on := 9, ground := Go.Ground.data }, { on := 13, ground := Go.Ground.data }], guard := none }) (v := .int .i64 ((rst len z : Nat) : Int)) rfl (by kernel_rfl) (by kernel_rfl) (by kernel_rfl) (fun _ _ _ h => h) (Or.inl ⟨by rfl, ?hy⟩) (by assumption) ?_
      case hy => (intro w9 hSw; (try dsimp only at hSw); go_simp <;> (first | with_reducible rfl | (simp; omega) | omega))
      try simp only [Act.put, List.setIfInBounds_toArray, List.set_cons_zero, List.set_cons_succ]
      refine wpAnyH_ready (rs := [15]) (by kernel_rfl) (by simp) ?_
      refine AllReadyH.cons (o := { dst := some 32, op := Go.Op.buildSlice 22 2 #[(0, Go.Operand.tmp 22), (1, Go.Operand.tmp 31)], type := 22, pos := "quotient.go:582", after := #[{ on := 5, ground := Go.Ground.data }, { on := 14, ground := Go.Ground.data }], guard := none }) rfl (fun K hK => ?_) AllReadyH.nil
      go_simp
      skip
      refine hK.out _ _ ?_ (fun hHeld => ?_)
      · first | assumption | exact hHeld | exact ⟨Below.then (And.left (by assumption)) (by assumption), owns_below (And.right (by assumption)) (by assumption)⟩ | exact ⟨bel_more (And.left (by assumption)) _, (And.right (by assumption) : World.ownsRow _ _ _ _ _ _ _).alloc _⟩
      clear hK K
      try simp only [Act.put, List.setIfInBounds_toArray, List.set_cons_zero, List.set_cons_succ]
      refine wpAnyH_take (i := 16) (oi := { dst := some 7, op := Go.Op.assign (Go.Operand.tmp 32), type := 22, pos := "quotient.go:582", after := #[{ on := 15, ground := Go.Ground.data }, { on := 8, ground := Go.Ground.chain }, { on := 0, ground := Go.Ground.phase }, { on := 1, ground := Go.Ground.phase }, { on := 2, ground := Go.Ground.phase }, { on := 3, ground := Go.Ground.phase }, { on := 4, ground := Go.Ground.phase }, { on := 5, ground := Go.Ground.phase }, { on := 6, ground := Go.Ground.phase }, { on := 7, ground := Go.Ground.phase }, { on := 8, ground := Go.Ground.phase }, { on := 9, ground := Go.Ground.phase }, { on := 10, ground := Go.Ground.phase }, { on := 11, ground := Go.Ground.phase }, { on := 12, ground := Go.Ground.phase }, { on := 13, ground := Go.Ground.phase }, { on := 14, ground := Go.Ground.phase }, { on := 15, ground := Go.Ground.phase }], guard := none }) (v := ?_) rfl (by kernel_rfl) (by kernel_rfl) (by kernel_rfl) (fun _ _ _ h => h) (Or.inl ⟨by rfl, ?hy⟩) (by assumption) ?_
      case hy => (intro w9 hSw; (try dsimp only at hSw); go_simp; try with_reducible rfl)
      try simp only [Act.put, List.setIfInBounds_toArray, List.set_cons_zero, List.set_cons_succ]
      refine wpAnyH_done (by kernel_rfl) ?_ _
      try simp only [Act.put, List.setIfInBounds_toArray, List.set_cons_zero, List.set_cons_succ]
      obtain ⟨hHB, hHO⟩ := hHeld
      have hb7 : Below w5.heap.size w5 (w5.alloc (.cells #[.int .i64 (clo g z : Nat), .int .i64 (rst len z : Nat)] 3)) := bel_one w5 _
      have hR7 : Row (w5.alloc (.cells #[.int .i64 (clo g z : Nat), .int .i64 (rst len z : Nat)] 3)) (some ⟨w5.heap.size, 0, none⟩) 2 (fun k => ((nx g len z k : Nat) : Int)) := fun k hk => by
        refine ⟨_, _, rfl, ?_⟩
        rcases (by omega : k = 0 ∨ k = 1) with rfl | rfl <;> simp [nx]
      have hN7 : ∀ q, (Value.slice (some ⟨b2, o2, none⟩) l.length vc).ownBlock = some q → q ≠ w5.heap.size := fun q hq => by
        have h5 : w5.ownsRow W.heap.size 3 1 (.slice (some ⟨b2, o2, none⟩) l.length vc) l.length (natVals l) := And.right (by assumption)
        have := (h5.lt q hq).2
        omega
      have HNX : Hid (∀ k, k < 2 → nx g len z k < pw len ∧ Rch (clo g) (rst len) s (nx g len z k)) := fun k hk => by
        have hzr : Rch (clo g) (rst len) s z := by rw [← hz0]; exact HF.out.only _ (nth_mem hil)
        rcases (by omega : k = 0 ∨ k = 1) with rfl | rfl
        · exact ⟨clo_lt HG.out hz, hzr.goF⟩
        · exact ⟨rst_lt, hzr.goH⟩
      have HB7 := (show Hid (Below W.heap.size W _) from hHB)
      have HO7 := (show Hid (World.ownsRow _ _ _ _ _ _ _) from hHO)
      have HR7 := (show Hid (Row _ _ _ _) from hR7)
      have HN7 : Hid (∀ q, (Value.slice (some ⟨b2, o2, none⟩) l.length vc).ownBlock = some q → q ≠ w5.heap.size) := hN7
      have HLZ : Hid (nth l i = z) := hz0
      clear hHB hHO hb7 hR7 hN7 l0 l1 l2 LH hown HB hz0 hb5
      generalize w5.alloc (.cells #[.int .i64 (clo g z : Nat), .int .i64 (rst len z : Nat)] 3) = X7 at *
      generalize w5.heap.size = B7 at *
      go_wp2_with fail
      go_loopw [5, 8] (fun v c wx => ∃ (l' : List Nat) (k : Nat), k ≤ 2 ∧ c = .int .i64 k ∧ i < l'.length ∧ Hid (Bfs (clo g) (rst len) (pw len) s l' i) ∧ Hid (nth l' i = z) ∧ Hid (∀ q, q < k → nx g len z q ∈ l') ∧ wx.ownsRow W.heap.size 3 1 v l'.length (natVals l') ∧ Hid (∀ q, v.ownBlock = some q → q ≠ B7) ∧ Hid (Row wx (some ⟨B7, 0, none⟩) 2 (fun k => ((nx g len z k : Nat) : Int))) ∧ Hid (Below W.heap.size W wx)) (fun _ c _ => 2 - (intOf c).toNat)
      case atStart => exact ⟨l, 0, Nat.zero_le _, rfl, hil, HF, HLZ, upto_zero, HO7.out, HN7, HR7, HB7⟩
      case round =>
        clear HF HLZ HO7 HN7 HR7 HB7
        obtain ⟨l', k, hk, rfl, hil2, HF, HLZ, HIN, hown, HN, HR, HB⟩ := hrel
        have hll2 := HF.out.len
        obtain ⟨va, vc2, rfl, hrow⟩ := owns_nats hown
        by_cases hk2 : k < 2
        · have hk2' : (k : Int) < 2 := by omega
          have c3 : wr.cell? ⟨B7, k, none⟩ = some (.int .i64 ((nx g len z k : Nat) : Int)) := by
            obtain ⟨b3, o3, e3, c3⟩ := HR.out k hk2
            simp at e3
            obtain ⟨rfl, rfl⟩ := e3
            rw [Nat.zero_add] at c3
            exact c3
          obtain ⟨hxm, hxr⟩ := HNX.out k hk2
          by_cases hm : nx g len z k ∈ l'
          · have HIN2 : Hid (∀ q, q < k + 1 → nx g len z q ∈ l') := upto_succ HIN.out hm
            have HRW : Hid (Row wr va l'.length (fun k => (nth l' k : Nat))) := hrow
            have HMM : Hid (∃ q, q < l'.length ∧ nth l' q = nx g len z k) := mem_nth hm
            clear hrow hm HIN
            go_wp2_with fail
            refine (place_in l' va l'.length vc2 (nx g len z k) _ (by unfold maxLen; omega) rfl HRW.out HMM.out).mono ?_
            rintro e w9 ⟨⟨r, rfl⟩, rfl⟩
            go_wp2_with fail
            go_roundw
            case rel => exact ⟨l', k + 1, by omega, by go_num, hil2, HF, HLZ, HIN2, hown, HN, HR, HB⟩
            case measure => simp [intOf]; omega
          · have HRW : Hid (Row wr va l'.length (fun k => (nth l' k : Nat))) := hrow
            have HMM : Hid (∀ q, q < l'.length → nth l' q ≠ nx g len z k) := fun q hq e => hm (e ▸ nth_mem hq)
            have HF2 : Hid (Bfs (clo g) (rst len) (pw len) s (l' ++ [nx g len z k]) i) := HF.out.add (by omega) hm hxm hxr
            have HIN2 : Hid (∀ q, q < k + 1 → nx g len z q ∈ l' ++ [nx g len z k]) := fun q hq => by
              rcases Nat.lt_or_ge q k with h1 | h1
              · exact List.mem_append_left _ (HIN.out q h1)
              · obtain rfl : q = k := by omega
                exact List.mem_append_right _ (by simp)
            have HLZ2 : Hid (nth (l' ++ [nx g len z k]) i = z) := by show _ = _; rw [nth_left hil2]; exact HLZ.out
            have hsz := HB.out.size
            have HBK : Hid (B7 < wr.heap.size) := World.block_lt_of_cell? _ _ c3
            clear hrow hm HIN hxr
            go_wp2_with fail
            refine (place_out l' va l'.length vc2 (nx g len z k) _ (by unfold maxLen; omega) rfl HRW.out HMM.out).mono ?_
            rintro e w9 ⟨rfl, rfl⟩
            clear HMM HRW
            go_wp2_with (at_builtin; refine wpList_plain rfl (fun K hK' => ?_); refine wp_appN _ _ _ rfl W.heap.size l' _ rfl (hown.alloc _) (by omega) (by omega) wr.heap.size (nx g len z k) rfl (newAt _ _ _) (by simp; omega) ?_; intro v' w1 hown' hgrow hblk; refine hK' _ _ ?_; clear hK')
            have HB5 : Hid (Below W.heap.size W w1) := below_append3 HB.out hown hgrow
            have HN5 : Hid (∀ q, v'.ownBlock = some q → q ≠ B7) := fun q hq => by
              rcases hblk q hq with h1 | h1
              · exact HN.out q h1
              · have := HBK.out
                rw [World.size_alloc] at h1
                omega
            have HR5 : Hid (Row w1 (some ⟨B7, 0, none⟩) 2 (fun k => ((nx g len z k : Nat) : Int))) := row_grown (HR.out.below (bel_one _ _)) hgrow (fun e => HN.out B7 e.symm rfl)
            clear hgrow hblk HB HN HR HF HLZ
            go_wp2_with fail
            go_roundw
            case rel => exact ⟨l' ++ [nx g len z k], k + 1, by omega, by go_num, by simp; omega, HF2, HLZ2, HIN2, hown', HN5, HR5, HB5⟩
            case measure => simp [intOf]; omega
        · obtain rfl : k = 2 := by omega
          have HF3 : Hid (Bfs (clo g) (rst len) (pw len) s l' (i + 1)) := HF.out.next (by rw [HLZ.out]; exact HIN.out 0 (by omega)) (by rw [HLZ.out]; exact HIN.out 1 (by omega))
          clear HF HIN HLZ
          go_wp2_with fail
          go_roundw
          case rel => exact ⟨l', i + 1, by omega, by go_num, HF3, hown, HB⟩
          case measure => simp [intOf]; omega
    · obtain rfl : i = l.length := by omega
      go_wp2_with fail
      go_ret
      exact ⟨⟨l, rfl, HF.out⟩, Below.then (by rw [hB]; exact HB0.out) HB.out⟩
end Go.Proofs.YtggngpnenbjidaaDoor
