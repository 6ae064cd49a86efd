/-
  What the reference's LostOf answers: the lost messages, rising. Conditions: at most ten events in which nothing is wrong.
-/
import Derived.Test.YtomoodpgmkjacaaClV
import Derived.Test.YtomoodpgmkjacaaClE
import Derived.Deep.RegionHeld3
import Derived.ArgAppend
namespace Go.Proofs.Ytomoodpgmkjacaa
set_option maxRecDepth 100000
open Go.RowKit

/-- A list that append may be handed second. -/
def Src2 (w : World) (y : Value) (p : List Nat) : Prop := (p = [] ∧ y = .slice none 0 0) ∨ ∃ ad c, y = .slice (some ad) p.length c ∧ ∀ j u, (natVals p)[j]? = some u → w.cell? (ad.add j) = some u
theorem run_app_none (t ty : TypeId) (i : TypeInfo) (ht : Try.prog.underlying t = some (.slice 3)) (hi : Try.prog.info? 3 = some i) (b n cap : Nat) (hn : n ≤ cap) (w : World) :
    (Builtin.append_ #[t, t] ty #[.slice (some ⟨b, 0, none⟩) n cap, .slice none 0 0]).run Try.prog w = .ok (.slice (some ⟨b, 0, none⟩) n cap) w := by
  simp [Builtin.append_, run_underlying ht, Builtin.lenOf, Builtin.firstCells, sizeOf, typeInfo, hi, storeCells, Result.andThen, hn]
theorem owns_mono {w : World} {base base' : Nat} {e : TypeId} {size : Nat} {v : Value} {n : Nat} {xs : List Value} (h : w.ownsRow base e size v n xs) (hb : base' ≤ base) : w.ownsRow base' e size v n xs :=
  ⟨h.1, h.2.imp id fun ⟨g, cap, cur, h1, h2, h3⟩ => ⟨g, cap, cur, h1, Nat.le_trans hb h2, h3⟩⟩
theorem nat_one (p : List Nat) : ∀ u ∈ natVals p, u.oneCell' = true := fun u hu => by
  unfold natVals at hu
  obtain ⟨k, _, rfl⟩ := List.mem_map.1 hu
  rfl
theorem wp_apnd {o : Oper} {a : Act} {K : Act → World → Prop} {Q : Exit → Act → World → Prop} (w : World) (s x : Operand)
    (ho : o.op = .call { callee := .builtin .append, args := #[s, x], argTypes := #[27, 27] }) (base b n cap : Nat) (xs : List Value) (p : List Nat) (y : Value) (hs : a.eval s = .slice (some ⟨b, 0, none⟩) n cap) (hown : w.ownsRow base 3 1 (.slice (some ⟨b, 0, none⟩) n cap) n xs) (hnc : n ≤ cap)
    (hsrc : Src2 w y p) (hx : a.eval x = y) (hlen : n + p.length ≤ 1000) (hbase : base ≤ w.heap.size)
    (h : ∀ v' w', w'.ownsRow base 3 1 v' (n + p.length) (xs ++ natVals p) → w.grownBy w' (some b) → K (a.put o.dst v') w') : o.wp Try.prog a w K Q := by
  obtain ⟨i0, hi, hz0, hz1, hz2⟩ := info_parts Try.info3
  rcases hsrc with ⟨rfl, rfl⟩ | ⟨ad, c, rfl, hc⟩
  · have hrun := run_app_none 27 o.type i0 Try.underlying27 hi b n cap hnc w
    unfold Oper.wp execOp
    simp only [ho, resolve, invoke, builtin, Sem.run_bind, Sem.run_pure, Result.andThen_ok, List.map_toArray, List.map_cons, List.map_nil, hs, hx, hrun]
    refine h _ _ ?_ ⟨rfl, rfl, rfl, Nat.le_refl _, fun _ _ _ => rfl⟩
    simpa [natVals] using hown
  · refine wp_append_own w s x 27 ho base 3 i0 (.int .i64 0) 1 8 Try.underlying27 hi hz0 hz1 hz2 rfl (by decide) _ n xs hs hown ad p.length c (natVals p) hx (by simp [natVals]) hc (nat_one p) (by unfold maxLen; omega) (by omega) hbase ?_
    intro v' w' h1 h2 _
    exact h v' w' h1 h2
/-- append to what has no room: it is copied. -/
theorem wp_cut {o : Oper} {a : Act} {K : Act → World → Prop} {Q : Exit → Act → World → Prop} (w : World) (s x : Operand)
    (ho : o.op = .call { callee := .builtin .append, args := #[s, x], argTypes := #[27, 27] }) (b : Addr) (n : Nat) (olds : List Value) (hs : a.eval s = .slice (some b) n n) (hlo : olds.length = n) (holds : ∀ j u, olds[j]? = some u → w.cell? (b.add j) = some u)
    (ad : Addr) (m c : Nat) (news : List Value) (hx : a.eval x = .slice (some ad) m c) (hl : news.length = m) (hnews : ∀ j u, news[j]? = some u → w.cell? (ad.add j) = some u) (hm : 0 < m) (hlen : n + m ≤ 1000)
    (h : ∀ v' w', w'.ownsRow w.heap.size 3 1 v' (n + m) (olds ++ news) → w.grownBy w' none → K (a.put o.dst v') w') : o.wp Try.prog a w K Q := by
  obtain ⟨i0, hi, hz0, hz1, hz2⟩ := info_parts Try.info3
  obtain ⟨v', w', hrun, h1, h2⟩ := run_append_arg_grows (P := Try.prog) w 27 o.type 3 i0 (.int .i64 0) 1 8 Try.underlying27 hi hz0 hz1 hz2 rfl (by decide) b n n olds (by omega) holds ad m c news (by omega) hnews (by omega) (by unfold maxLen; omega) (by omega)
  unfold Oper.wp execOp
  simp only [ho, resolve, invoke, builtin, Sem.run_bind, Sem.run_pure, Result.andThen_ok, List.map_toArray, List.map_cons, List.map_nil, hs, hx, hrun]
  exact h _ _ h1 h2
theorem one_own (w : World) (x : Value) : (w.alloc (.cells #[x] 3)).ownsRow w.heap.size 3 1 (.slice (some ⟨w.heap.size, 0, none⟩) 1 1) 1 [x] :=
  ⟨by simp, .inr ⟨w.heap.size, 1, #[x], rfl, Nat.le_refl _, heap_alloc_new w _, Nat.le_refl _, by unfold maxLen; omega, rfl, rfl⟩⟩
theorem one_form {w : World} {base x : Nat} {v : Value} {l : List Nat} (h : w.ownsRow base 3 1 v (1 + l.length) ([.int .i64 (x : Nat)] ++ natVals l)) :
    ∃ B cap, v = .slice (some ⟨B, 0, none⟩) (1 + l.length) cap ∧ ∀ j u, (natVals (x :: l))[j]? = some u → w.cell? (Addr.add ⟨B, 0, none⟩ j) = some u := by
  obtain ⟨g, cap, rfl⟩ := owns_form h (by omega)
  refine ⟨g, cap, rfl, fun j u hj => ?_⟩
  have hl : j < 1 + l.length := by
    rcases Nat.lt_or_ge j (1 + l.length) with h | h
    · exact h
    · rw [List.getElem?_eq_none (by simp [natVals]; omega)] at hj; cases hj
  have e : (Addr.add ⟨g, 0, none⟩ j) = ⟨g, j, none⟩ := by cases j <;> simp [Addr.add]
  rw [e, h.cellAt j (by omega)]
  exact hj
theorem low_lt {x : Nat} : ∀ {l : List Nat} {k : Nat}, k < low x l → nth l k < x
  | [], k, h => absurd h (Nat.not_lt_zero _)
  | y :: l, k, h => by
    rw [low] at h
    split at h
    · rename_i hy
      cases k with
      | zero => simpa [nth] using hy
      | succ k => have := low_lt (x := x) (l := l) (k := k) (by omega); simpa [nth] using this
    · omega
theorem low_end {x : Nat} : ∀ {l : List Nat}, low x l < l.length → ¬ nth l (low x l) < x
  | [], h => absurd h (Nat.not_lt_zero _)
  | y :: l, h => by
    rw [low] at h ⊢
    split
    · rename_i hy
      rw [if_pos hy] at h
      have := low_end (x := x) (l := l) (by simpa using h)
      simpa [nth] using this
    · rename_i hy
      simpa [nth] using hy
/-- Lost, as far as the first k events tell. -/
def lb (E : Nat → Int × Int × Int) (i k : Nat) : Bool := (E i).1 == 2 && !hasB E 3 (E i).2.2 k
theorem lb_succ (E : Nat → Int × Int × Int) (i k : Nat) : lb E i (k + 1) = (lb E i k && !((E k).1 == 3 && (E k).2.2 == (E i).2.2)) := by
  unfold lb
  rw [hasB]
  cases (E i).1 == 2 <;> cases hasB E 3 (E i).2.2 k <;> simp
set_option maxHeartbeats 8000000 in
theorem lostOf_any (Wk : Int) (a : Option Addr) (len cap : Nat) (E : Nat → Int × Int × Int) (w : World) (h10 : len ≤ 10) (hev : ∀ j, j < len → EvIs Wk E j 0) (hr : ERow w a len E) :
    Calls Try.prog 21 #[.slice a len cap] w fun e w' => (∃ v, e = .returned v ∧ NSl w' v (srt E len len)) ∧ Below w.heap.size w w' := by
  have HR : Hid (ERow w a len E) := hr
  have HMS : Hid (∀ j, j < len → (E j).2.2 = (msg E j : Nat)) := fun j hj => by
    have := (hev j hj).good.2.1.2.2
    unfold msg; omega
  clear hr hev
  obtain ⟨i0, hi, hz0, hz1, hz2⟩ := info_parts Try.info3
  go_enter Try.func21, Try.ntmps21
  go_wp2_with fail
  go_loopw [3, 4] (fun v t wx => ∃ i : Nat, i ≤ len ∧ t = .int .i64 i ∧ wx.ownsRow w.heap.size 3 1 v (srt E len i).length (natVals (srt E len i)) ∧ Hid (Below w.heap.size w wx)) (fun _ t _ => len - (intOf t).toNat)
  case atStart => exact ⟨0, Nat.zero_le _, rfl, World.ownsRow_nil _ _ _ _, Below.refl _ _⟩
  case round =>
    obtain ⟨i, hi', rfl, hown, hB⟩ := hrel
    by_cases hlt : i < len
    · obtain ⟨b, off, rfl, c1, c2, c3⟩ := (HR.out.below hB.out) i hlt
      have hlt' : (i : Int) < (len : Int) := by omega
      have HO1 : Hid (wr.ownsRow w.heap.size 3 1 u3 (srt E len i).length (natVals (srt E len i))) := hown
      have hb0 : (.bool ((E i).1 == 2) : Value) = .bool (lb E i 0) := by simp [lb, hasB]
      clear hown
      have HBW := hB
      clear hB
      go_wp2_with fail
      try rw [hb0]
      clear hb0 c1 c2 c3
      go_loopw [5, 6] (fun s t wx => ∃ k : Nat, k ≤ len ∧ t = .int .i64 k ∧ s = .bool (lb E i k) ∧ Hid (wx.ownsRow w.heap.size 3 1 u3 (srt E len i).length (natVals (srt E len i))) ∧ Hid (Below w.heap.size w wx)) (fun _ t _ => len - (intOf t).toNat)
      case atStart => exact ⟨0, Nat.zero_le _, rfl, rfl, HO1.out, HBW.out⟩
      case round =>
        obtain ⟨k, hk, rfl, rfl, hO, hB⟩ := hrel
        clear HO1 HBW
        by_cases hkl : k < len
        · have hkl' : (k : Int) < (len : Int) := by omega
          obtain ⟨b2, off2, hbo, c1, c2, c3⟩ := (HR.out.below hB.out) k hkl
          simp at hbo
          obtain ⟨rfl, rfl⟩ := hbo
          obtain ⟨b2, off2, hbo, d1, d2, d3⟩ := (HR.out.below hB.out) i hlt
          simp at hbo
          obtain ⟨rfl, rfl⟩ := hbo
          have hsucc := lb_succ E i k
          rcases (Bool.eq_false_or_eq_true (lb E i k)).symm with g0 | g0
          · have HN : Hid (lb E i (k + 1) = false) := by rw [hsucc, g0]; rfl
            rw [g0]
            clear hsucc
            go_wp2_with fail
            go_quiet (fail)
            go_wp2_with fail
            go_roundw
            case rel => exact ⟨k + 1, by omega, by go_num, by rw [HN.out], hO.out, below_drewN hB.out _⟩
            case measure => simp [intOf]; omega
          · rw [g0]
            rcases (Bool.eq_false_or_eq_true ((E k).1 == 3)).symm with g1 | g1
            · have HN : Hid (lb E i (k + 1) = true) := by rw [hsucc, g0, g1]; rfl
              have g1' : ((E k).1 != 3) = true := by simp [bne, g1]
              clear hsucc
              go_wp2_with fail
              go_quiet (fail)
              go_wp2_with fail
              go_roundw
              case rel => exact ⟨k + 1, by omega, by go_num, by rw [HN.out], hO.out, below_drewN hB.out _⟩
              case measure => simp [intOf]; omega
            · have g1' : ((E k).1 != 3) = false := by simp [bne, g1]
              rcases (Bool.eq_false_or_eq_true ((E k).2.2 == (E i).2.2)).symm with g2 | g2
              · have HN : Hid (lb E i (k + 1) = true) := by rw [hsucc, g0, g1, g2]; rfl
                have g2' : ((E k).2.2 != (E i).2.2) = true := by simp [bne, g2]
                clear hsucc
                go_wp2_with fail
                go_quiet (fail)
                go_wp2_with fail
                go_roundw
                case rel => exact ⟨k + 1, by omega, by go_num, by rw [HN.out], hO.out, below_drewN hB.out _⟩
                case measure => simp [intOf]; omega
              · have HN : Hid (lb E i (k + 1) = false) := by rw [hsucc, g0, g1, g2]; rfl
                have g2' : ((E k).2.2 != (E i).2.2) = false := by simp [bne, g2]
                clear hsucc
                go_wp2_with fail
                go_quiet (fail)
                go_wp2_with fail
                go_roundw
                case rel => exact ⟨k + 1, by omega, by go_num, by rw [HN.out], hO.out, below_drewN hB.out _⟩
                case measure => simp [intOf]; omega
        · obtain rfl : k = len := by omega
          have hlb : lb E i k = lostB E k i := rfl
          rcases (Bool.eq_false_or_eq_true (lb E i k)).symm with g0 | g0
          · have HE : Hid (srt E k (i + 1) = srt E k i) := srt_no (hlb.symm.trans g0)
            rw [g0]
            clear hlb
            go_wp2_with fail
            go_roundw
            case rel => exact ⟨i + 1, by omega, by go_num, by rw [HE.out]; exact hO.out, hB.out⟩
            case measure => simp [intOf]; omega
          · have HE : Hid (srt E k (i + 1) = insL (msg E i) (srt E k i)) := srt_yes (hlb.symm.trans g0)
            rw [g0]
            clear hlb
            have hLlen : (srt E k i).length ≤ 10 := by rw [srt_len]; exact Nat.le_trans (lostL_len E k i) (by omega)
            obtain ⟨L, HLL⟩ : ∃ L, Hid (srt E k i = L) := ⟨_, rfl⟩
            rw [HLL.out] at hLlen HE hO
            clear HLL
            have HO1 := hO
            have HB1 := hB
            clear hO hB
            go_wp2_with fail
            rcases HO1.out.2 with ⟨hu3, h0⟩ | ⟨B, capv, cur, hu3, hBw, hheap, hle, _⟩
            · subst hu3
              obtain rfl : L = [] := List.length_eq_zero_iff.1 h0
              have HBN := HB1
              clear HO1 HB1 h0
              go_loopw [7] (fun t wx => t = .int .i64 0 ∧ Hid (Below w.heap.size w wx)) (fun _ _ => 0)
              case atStart => exact ⟨rfl, HBN.out⟩
              case round =>
                obtain ⟨rfl, hB⟩ := hrel
                clear HBN
                go_wp2_with fail
                go_quiet (fail)
                have HB2 : Hid (Below w.heap.size w (wr.drewN nq)) := below_drewN hB.out _
                clear hB
                generalize wr.drewN nq = wr at *
                obtain ⟨b2, off2, hbo, d1, d2, d3⟩ := (HR.out.below HB2.out) i hlt
                simp at hbo
                obtain ⟨rfl, rfl⟩ := hbo
                rw [HMS.out i hlt] at d3
                have l0 : ∀ w', Below wr.heap.size wr w' → w'.cell? ⟨b, off + i * 3 + 2, none⟩ = some (.int .i64 (msg E i : Nat)) := fun w' h => (h.cell (World.block_lt_of_cell? _ _ d3)).trans d3
                have HSR : Hid (∀ w', Below wr.heap.size wr w' → Src2 w' (.slice none 0 0) (([] : List Nat).drop 0)) := fun _ _ => .inl ⟨rfl, rfl⟩
                have KK : Below wr.heap.size wr wr.drew := (Below.refl _ _).drew
                clear d1 d2 d3
                go_wp2_with fail
                refine wp_region_held_drew (S := (fun w' => Below wr.heap.size wr w')) (by kernel_rfl) (KK) (fun hHeld => ?_)
                refine wpAnyH_take (i := 0) (oi := { dst := some 68, op := Go.Op.move (Go.Operand.tmp 3), type := 27, pos := "embed.go:312", after := #[], guard := none }) (v := ?_) rfl (by kernel_rfl) (by kernel_rfl) (by kernel_rfl) (fun _ _ _ h => h) (Or.inl ⟨by rfl, ?hy⟩) (by assumption) ?_
                case hy => (intro w9 hSw; (try dsimp only at hSw); go_simp; try with_reducible rfl)
                try simp only [Act.put, List.setIfInBounds_toArray, List.set_cons_zero, List.set_cons_succ]
                refine wpAnyH_take (i := 1) (oi := { dst := some 69, op := Go.Op.move (Go.Operand.tmp 7), type := 3, pos := "embed.go:312", after := #[], guard := none }) (v := ?_) rfl (by kernel_rfl) (by kernel_rfl) (by kernel_rfl) (fun _ _ _ h => h) (Or.inl ⟨by rfl, ?hy⟩) (by assumption) ?_
                case hy => (intro w9 hSw; (try dsimp only at hSw); go_simp; try with_reducible rfl)
                try simp only [Act.put, List.setIfInBounds_toArray, List.set_cons_zero, List.set_cons_succ]
                refine wpAnyH_take (i := 2) (oi := { dst := some 70, op := Go.Op.move (Go.Operand.tmp 7), type := 3, pos := "embed.go:312", after := #[], guard := none }) (v := ?_) rfl (by kernel_rfl) (by kernel_rfl) (by kernel_rfl) (fun _ _ _ h => h) (Or.inl ⟨by rfl, ?hy⟩) (by assumption) ?_
                case hy => (intro w9 hSw; (try dsimp only at hSw); go_simp; try with_reducible rfl)
                try simp only [Act.put, List.setIfInBounds_toArray, List.set_cons_zero, List.set_cons_succ]
                refine wpAnyH_take (i := 3) (oi := { dst := some 71, op := Go.Op.slice 27 (Go.Operand.tmp 68) none (some (Go.Operand.tmp 69)) (some (Go.Operand.tmp 70)), type := 27, pos := "embed.go:312", after := #[{ on := 0, ground := Go.Ground.data }, { on := 1, ground := Go.Ground.data }, { on := 2, ground := Go.Ground.data }], guard := none }) (v := ?_) rfl (by kernel_rfl) (by kernel_rfl) (by kernel_rfl) (fun _ _ _ h => h) (Or.inl ⟨by rfl, ?hy⟩) (by assumption) ?_
                case hy => (intro w9 hSw; (try dsimp only at hSw); go_simp; try with_reducible rfl)
                try simp only [Act.put, List.setIfInBounds_toArray, List.set_cons_zero, List.set_cons_succ]
                refine wpAnyH_take (i := 4) (oi := { dst := some 72, op := Go.Op.move (Go.Operand.tmp 0), type := 22, pos := "embed.go:312", after := #[], guard := none }) (v := ?_) rfl (by kernel_rfl) (by kernel_rfl) (by kernel_rfl) (fun _ _ _ h => h) (Or.inl ⟨by rfl, ?hy⟩) (by assumption) ?_
                case hy => (intro w9 hSw; (try dsimp only at hSw); go_simp; try with_reducible rfl)
                try simp only [Act.put, List.setIfInBounds_toArray, List.set_cons_zero, List.set_cons_succ]
                refine wpAnyH_take (i := 5) (oi := { dst := some 73, op := Go.Op.move (Go.Operand.tmp 4), type := 3, pos := "embed.go:312", after := #[], guard := none }) (v := ?_) rfl (by kernel_rfl) (by kernel_rfl) (by kernel_rfl) (fun _ _ _ h => h) (Or.inl ⟨by rfl, ?hy⟩) (by assumption) ?_
                case hy => (intro w9 hSw; (try dsimp only at hSw); go_simp; try with_reducible rfl)
                try simp only [Act.put, List.setIfInBounds_toArray, List.set_cons_zero, List.set_cons_succ]
                refine wpAnyH_take (i := 6) (oi := { dst := some 74, op := Go.Op.indexAddr 22 (Go.Operand.tmp 72) (Go.Operand.tmp 73), type := 0, pos := "embed.go:312", after := #[{ on := 4, ground := Go.Ground.data }, { on := 5, ground := Go.Ground.data }], guard := none }) (v := ?_) rfl (by kernel_rfl) (by kernel_rfl) (by kernel_rfl) (fun _ _ _ h => h) (Or.inl ⟨by rfl, ?hy⟩) (by assumption) ?_
                case hy => (intro w9 hSw; (try dsimp only at hSw); go_simp; try with_reducible rfl)
                try simp only [Act.put, List.setIfInBounds_toArray, List.set_cons_zero, List.set_cons_succ]
                refine wpAnyH_take (i := 7) (oi := { dst := some 75, op := Go.Op.fieldAddr 44 (Go.Operand.tmp 74) 2, type := 0, pos := "embed.go:312", after := #[{ on := 6, ground := Go.Ground.data }], guard := none }) (v := ?_) rfl (by kernel_rfl) (by kernel_rfl) (by kernel_rfl) (fun _ _ _ h => h) (Or.inl ⟨by rfl, ?hy⟩) (by assumption) ?_
                case hy => (intro w9 hSw; (try dsimp only at hSw); go_simp; try with_reducible rfl)
                try simp only [Act.put, List.setIfInBounds_toArray, List.set_cons_zero, List.set_cons_succ]
                refine wpAnyH_take (i := 8) (oi := { dst := some 76, op := Go.Op.load 3 (Go.Operand.tmp 75), type := 3, pos := "embed.go:312", after := #[{ on := 7, ground := Go.Ground.data }], guard := none }) (v := ?_) rfl (by kernel_rfl) (by kernel_rfl) (by kernel_rfl) (fun _ _ _ h => h) (Or.inl ⟨by rfl, ?hy⟩) (by assumption) ?_
                case hy => (intro w9 hSw; (try dsimp only at hSw); go_simp; try with_reducible rfl)
                try simp only [Act.put, List.setIfInBounds_toArray, List.set_cons_zero, List.set_cons_succ]
                refine wpAnyH_take (i := 10) (oi := { dst := some 78, op := Go.Op.move (Go.Operand.tmp 3), type := 27, pos := "embed.go:312", after := #[], guard := none }) (v := ?_) rfl (by kernel_rfl) (by kernel_rfl) (by kernel_rfl) (fun _ _ _ h => h) (Or.inl ⟨by rfl, ?hy⟩) (by assumption) ?_
                case hy => (intro w9 hSw; (try dsimp only at hSw); go_simp; try with_reducible rfl)
                try simp only [Act.put, List.setIfInBounds_toArray, List.set_cons_zero, List.set_cons_succ]
                refine wpAnyH_take (i := 11) (oi := { dst := some 79, op := Go.Op.move (Go.Operand.tmp 7), type := 3, pos := "embed.go:312", after := #[], guard := none }) (v := ?_) rfl (by kernel_rfl) (by kernel_rfl) (by kernel_rfl) (fun _ _ _ h => h) (Or.inl ⟨by rfl, ?hy⟩) (by assumption) ?_
                case hy => (intro w9 hSw; (try dsimp only at hSw); go_simp; try with_reducible rfl)
                try simp only [Act.put, List.setIfInBounds_toArray, List.set_cons_zero, List.set_cons_succ]
                refine wpAnyH_take (i := 12) (oi := { dst := some 80, op := Go.Op.slice 27 (Go.Operand.tmp 78) (some (Go.Operand.tmp 79)) none none, type := 27, pos := "embed.go:312", after := #[{ on := 10, ground := Go.Ground.data }, { on := 11, ground := Go.Ground.data }], guard := none }) (v := ?_) rfl (by kernel_rfl) (by kernel_rfl) (by kernel_rfl) (fun _ _ _ h => h) (Or.inl ⟨by rfl, ?hy⟩) (by assumption) ?_
                case hy => (intro w9 hSw; (try dsimp only at hSw); go_simp; try with_reducible rfl)
                try simp only [Act.put, List.setIfInBounds_toArray, List.set_cons_zero, List.set_cons_succ]
                refine wpAnyH_ready (rs := [9]) (by kernel_rfl) (by simp) ?_
                refine AllReadyH.cons (o := { dst := some 77, op := Go.Op.buildSlice 27 1 #[(0, Go.Operand.tmp 76)], type := 27, pos := "embed.go:312", after := #[{ on := 8, ground := Go.Ground.data }], guard := none }) rfl (fun K hK => ?_) AllReadyH.nil
                go_simp
                skip
                refine hK.out _ _ ?_ (fun hHeld => ?_)
                · exact KK.alloc KK.size _
                clear hK K
                try simp only [Act.put, List.setIfInBounds_toArray, List.set_cons_zero, List.set_cons_succ]
                refine wpAnyH_ready (rs := [13]) (by kernel_rfl) (by simp) ?_
                refine AllReadyH.cons (o := { dst := some 81, op := Go.Op.call { callee := Go.Callee.builtin Go.Builtin.append, args := #[Go.Operand.tmp 77, Go.Operand.tmp 80], argTypes := #[27, 27] }, type := 27, pos := "embed.go:312", after := #[{ on := 9, ground := Go.Ground.data }, { on := 12, ground := Go.Ground.data }], guard := none }) rfl (fun K hK => ?_) AllReadyH.nil
                rw [if_pos (by rfl)]
                refine wp_apnd _ _ _ rfl wr.heap.size wr.heap.size 1 1 [.int .i64 (msg E i : Nat)] (([] : List Nat).drop 0) _ rfl (one_own wr.drew _) (Nat.le_refl _) (HSR.out _ (KK.alloc KK.size _)) rfl (by first | (simp; done) | (simp; omega) | (simp [HNL.out] <;> omega)) (by simp) ?_
                intro v1 w6 hown1 hg1
                have hB6 : Below wr.heap.size wr w6 := (KK.alloc KK.size _).grown hg1 (by simp) (by intro k hk; injection hk with hk; omega)
                obtain ⟨B1, cap1, rfl, hc1⟩ := one_form hown1
                clear hg1
                refine hK.out _ _ ?_ (fun hHeld => ?_)
                · exact hB6
                clear hK K
                try simp only [Act.put, List.setIfInBounds_toArray, List.set_cons_zero, List.set_cons_succ]
                refine wpAnyH_ready (rs := [14]) (by kernel_rfl) (by simp) ?_
                refine AllReadyH.cons (o := { dst := some 82, op := Go.Op.call { callee := Go.Callee.builtin Go.Builtin.append, args := #[Go.Operand.tmp 71, Go.Operand.tmp 81], argTypes := #[27, 27] }, type := 27, pos := "embed.go:312", after := #[{ on := 3, ground := Go.Ground.data }, { on := 13, ground := Go.Ground.data }, { on := 13, ground := Go.Ground.chain }], guard := none }) rfl (fun K hK => ?_) AllReadyH.nil
                rw [if_pos (by rfl)]
                refine wp_append_own _ _ _ 27 rfl w6.heap.size 3 i0 (.int .i64 0) 1 8 Try.underlying27 hi hz0 hz1 hz2 rfl (by decide) _ 0 [] rfl (World.ownsRow_nil _ _ _ _) ⟨B1, 0, none⟩ (1 + (([] : List Nat).drop 0).length) cap1 (natVals (msg E i :: ([] : List Nat).drop 0)) rfl (by first | (simp [natVals]; done) | (simp [natVals]; omega) | (simp [natVals, HNL.out] <;> omega)) hc1 (nat_one _) (by unfold maxLen; first | (simp; done) | (simp; omega)) (by first | (simp; done) | (simp; omega) | (simp [HNL.out] <;> omega)) (Nat.le_refl _) ?_
                intro v3 w9 hown3 hg3 _
                have hB9 : Below wr.heap.size wr w9 := hB6.grown hg3 hB6.size (by intro k hk; cases hk)
                clear hg3
                refine hK.out _ _ ?_ (fun hHeld => ?_)
                · exact hB9
                clear hK K
                try simp only [Act.put, List.setIfInBounds_toArray, List.set_cons_zero, List.set_cons_succ]
                refine wpAnyH_take (i := 15) (oi := { dst := some 3, op := Go.Op.assign (Go.Operand.tmp 82), type := 27, pos := "embed.go:312", after := #[{ on := 14, ground := Go.Ground.data }, { on := 14, ground := Go.Ground.chain }, { on := 0, ground := Go.Ground.phase }, { on := 1, ground := Go.Ground.phase }, { on := 2, ground := Go.Ground.phase }, { on := 3, ground := Go.Ground.phase }, { on := 4, ground := Go.Ground.phase }, { on := 5, ground := Go.Ground.phase }, { on := 6, ground := Go.Ground.phase }, { on := 7, ground := Go.Ground.phase }, { on := 8, ground := Go.Ground.phase }, { on := 9, ground := Go.Ground.phase }, { on := 10, ground := Go.Ground.phase }, { on := 11, ground := Go.Ground.phase }, { on := 12, ground := Go.Ground.phase }, { on := 13, ground := Go.Ground.phase }, { on := 14, ground := Go.Ground.phase }], guard := none }) (v := ?_) rfl (by kernel_rfl) (by kernel_rfl) (by kernel_rfl) (fun _ _ _ h => h) (Or.inl ⟨by rfl, ?hy⟩) (by assumption) ?_
                case hy => (intro w9 hSw; (try dsimp only at hSw); go_simp; try with_reducible rfl)
                try simp only [Act.put, List.setIfInBounds_toArray, List.set_cons_zero, List.set_cons_succ]
                refine wpAnyH_done (by kernel_rfl) ?_ _
                try simp only [Act.put, List.setIfInBounds_toArray, List.set_cons_zero, List.set_cons_succ]
                have HB9 : Hid (Below w.heap.size w w9) := Below.then HB2.out hB9
                have HO9 : Hid (w9.ownsRow w.heap.size 3 1 v3 (srt E k (i + 1)).length (natVals (srt E k (i + 1)))) := by
                  rw [HE.out]
                  have h := owns_mono hown3 (Nat.le_trans HB2.out.size hB6.size)
                  have e : (insL (msg E i) []) = [msg E i] := by simp [insL, low]
                  rw [e]
                  exact h
                clear hown3 hB9 hB6 HSR l0 KK
                go_wp2_with fail
                go_roundw
                case rel => exact ⟨i + 1, by omega, by go_num, HO9.out, HB9.out⟩
                case measure => simp [intOf]; omega
            · subst hu3
              obtain ⟨nL, HNL⟩ : ∃ n, Hid (L.length = n) := ⟨_, rfl⟩
              have HBN := HB1
              have hloL := low_le (msg E i) L
              rw [HNL.out] at HO1 hLlen hle hloL
              rw [HNL.out]
              clear HB1 hheap
              go_loopw [7] (fun t wx => ∃ q : Nat, q ≤ low (msg E i) L ∧ t = .int .i64 q ∧ Hid (wx.ownsRow w.heap.size 3 1 (.slice (some ⟨B, 0, none⟩) nL capv) nL (natVals L)) ∧ Hid (Below w.heap.size w wx)) (fun t _ => low (msg E i) L - (intOf t).toNat)
              case atStart => exact ⟨0, Nat.zero_le _, rfl, HO1.out, HBN.out⟩
              case round =>
                obtain ⟨q, hq, rfl, hO, hB⟩ := hrel
                clear HBN HO1
                obtain ⟨b2, off2, hbo, d1, d2, d3⟩ := (HR.out.below hB.out) i hlt
                simp at hbo
                obtain ⟨rfl, rfl⟩ := hbo
                rw [HMS.out i hlt] at d3
                by_cases hql : q < low (msg E i) L
                · have hqn : (q : Int) < (nL : Int) := by omega
                  have hlow : ((nth L q : Nat) : Int) < ((msg E i : Nat) : Int) := by have := low_lt hql; omega
                  have cq : wr.cell? ⟨B, q, none⟩ = some (.int .i64 (nth L q : Nat)) := by rw [hO.out.cellAt q (by omega)]; exact natVals_at L q (by rw [HNL.out]; omega)
                  go_wp2_with fail
                  go_quiet (fail)
                  go_wp2_with fail
                  go_roundw
                  case rel => exact ⟨q + 1, by omega, by go_num, hO.out, below_drewN hB.out _⟩
                  case measure => simp [intOf]; omega
                · have HQE : Hid (q = low (msg E i) L) := by show q = low (msg E i) L; omega
                  rcases Nat.lt_or_ge q nL with hqn0 | hqn0
                  · have hqn : (q : Int) < (nL : Int) := by omega
                    have hlow : ¬ ((nth L q : Nat) : Int) < ((msg E i : Nat) : Int) := by
                      have h1 := HQE.out
                      have h2 := low_end (x := msg E i) (l := L) (by rw [HNL.out]; omega)
                      rw [← h1] at h2; omega
                    have cq : wr.cell? ⟨B, q, none⟩ = some (.int .i64 (nth L q : Nat)) := by rw [hO.out.cellAt q (by omega)]; exact natVals_at L q (by rw [HNL.out]; omega)
                    go_wp2_with fail
                    go_quiet (fail)
                    clear cq
                    have HB2 : Hid (Below w.heap.size w (wr.drewN nq)) := below_drewN hB.out _
                    have HO2 : Hid ((wr.drewN nq).ownsRow w.heap.size 3 1 (.slice (some ⟨B, 0, none⟩) nL capv) nL (natVals L)) := hO.out
                    have d3' : (wr.drewN nq).cell? ⟨b, off + i * 3 + 2, none⟩ = some (.int .i64 (msg E i : Nat)) := d3
                    clear hB hO d1 d2 d3
                    generalize wr.drewN nq = wr at *
                    have l0 : ∀ w', Below wr.heap.size wr w' → w'.cell? ⟨b, off + i * 3 + 2, none⟩ = some (.int .i64 (msg E i : Nat)) := fun w' h => (h.cell (World.block_lt_of_cell? _ _ d3')).trans d3'
                    have HCQ : Hid (∀ w', Below wr.heap.size wr w' → ∀ j, j < nL → w'.cell? ⟨B, j, none⟩ = some (.int .i64 (nth L j : Nat))) := fun w' h j hj => by
                      have hc : wr.cell? ⟨B, j, none⟩ = some (.int .i64 (nth L j : Nat)) := by rw [HO2.out.cellAt j (by omega)]; exact natVals_at L j (by rw [HNL.out]; exact hj)
                      exact (h.cell (World.block_lt_of_cell? _ _ hc)).trans hc
                    obtain ⟨ad, HAD⟩ : ∃ ad : Addr, Hid ((⟨B, 0, none⟩ : Addr) = ad) := ⟨_, rfl⟩
                    obtain ⟨aq, haq, HAQ⟩ : ∃ aq : Addr, (if capv = q then some ad else some (Addr.add ad q)) = some aq ∧ Hid (q < nL → aq = ⟨B, q, none⟩) := by
                      by_cases h : capv = q
                      · exact ⟨_, by rw [if_pos h], fun h2 => by omega⟩
                      · exact ⟨_, by rw [if_neg h], fun _ => by rw [← HAD.out]; cases q <;> simp [Addr.add]⟩
                    have HSL : Hid (∀ w', Below wr.heap.size wr w' → ∀ j u, (natVals (L.take q))[j]? = some u → w'.cell? (Addr.add ad j) = some u) := fun w' h j u hj => by
                      have hjq : j < q := by
                        rcases Nat.lt_or_ge j q with h | h
                        · exact h
                        · rw [List.getElem?_eq_none (by simp [natVals, HNL.out] <;> omega)] at hj; cases hj
                      have e : (Addr.add ⟨B, 0, none⟩ j) = ⟨B, j, none⟩ := by cases j <;> simp [Addr.add]
                      rw [← HAD.out, e, HCQ.out w' h j (by omega)]
                      simpa [natVals, nth, hjq, show j < L.length by rw [HNL.out]; omega] using hj
                    have HSR : Hid (∀ w', Below wr.heap.size wr w' → Src2 w' (.slice (some aq) (nL - q) (capv - q)) (L.drop q)) := fun w' h => by
                      refine .inr ⟨aq, capv - q, by simp [HNL.out], fun j u hj => ?_⟩
                      have hjq : j < nL - q := by
                        rcases Nat.lt_or_ge j (nL - q) with h | h
                        · exact h
                        · rw [List.getElem?_eq_none (by simp [natVals, HNL.out] <;> omega)] at hj; cases hj
                      have e : (Addr.add ⟨B, q, none⟩ j) = ⟨B, q + j, none⟩ := by cases j <;> simp [Addr.add]
                      rw [HAQ.out (by omega), e, HCQ.out w' h (q + j) (by omega)]
                      simpa [natVals, nth, show q + j < L.length by rw [HNL.out]; omega] using hj
                    have KK : Below wr.heap.size wr wr.drew := (Below.refl _ _).drew
                    have hq1 : (q : Int) ≤ (nL : Int) := by omega
                    have hq2 : (nL : Int) ≤ (capv : Int) := by omega
                    have hq3 : (q : Int) ≤ (capv : Int) := by omega
                    clear d3' HCQ
                    rw [HAD.out]
                    go_wp2_with fail
                    refine wp_region_held_drew (S := (fun w' => Below wr.heap.size wr w')) (by kernel_rfl) (KK) (fun hHeld => ?_)
                    refine wpAnyH_take (i := 0) (oi := { dst := some 68, op := Go.Op.move (Go.Operand.tmp 3), type := 27, pos := "embed.go:312", after := #[], guard := none }) (v := ?_) rfl (by kernel_rfl) (by kernel_rfl) (by kernel_rfl) (fun _ _ _ h => h) (Or.inl ⟨by rfl, ?hy⟩) (by assumption) ?_
                    case hy => (intro w9 hSw; (try dsimp only at hSw); go_simp; try with_reducible rfl)
                    try simp only [Act.put, List.setIfInBounds_toArray, List.set_cons_zero, List.set_cons_succ]
                    refine wpAnyH_take (i := 1) (oi := { dst := some 69, op := Go.Op.move (Go.Operand.tmp 7), type := 3, pos := "embed.go:312", after := #[], guard := none }) (v := ?_) rfl (by kernel_rfl) (by kernel_rfl) (by kernel_rfl) (fun _ _ _ h => h) (Or.inl ⟨by rfl, ?hy⟩) (by assumption) ?_
                    case hy => (intro w9 hSw; (try dsimp only at hSw); go_simp; try with_reducible rfl)
                    try simp only [Act.put, List.setIfInBounds_toArray, List.set_cons_zero, List.set_cons_succ]
                    refine wpAnyH_take (i := 2) (oi := { dst := some 70, op := Go.Op.move (Go.Operand.tmp 7), type := 3, pos := "embed.go:312", after := #[], guard := none }) (v := ?_) rfl (by kernel_rfl) (by kernel_rfl) (by kernel_rfl) (fun _ _ _ h => h) (Or.inl ⟨by rfl, ?hy⟩) (by assumption) ?_
                    case hy => (intro w9 hSw; (try dsimp only at hSw); go_simp; try with_reducible rfl)
                    try simp only [Act.put, List.setIfInBounds_toArray, List.set_cons_zero, List.set_cons_succ]
                    refine wpAnyH_take (i := 3) (oi := { dst := some 71, op := Go.Op.slice 27 (Go.Operand.tmp 68) none (some (Go.Operand.tmp 69)) (some (Go.Operand.tmp 70)), type := 27, pos := "embed.go:312", after := #[{ on := 0, ground := Go.Ground.data }, { on := 1, ground := Go.Ground.data }, { on := 2, ground := Go.Ground.data }], guard := none }) (v := ?_) rfl (by kernel_rfl) (by kernel_rfl) (by kernel_rfl) (fun _ _ _ h => h) (Or.inl ⟨by rfl, ?hy⟩) (by assumption) ?_
                    case hy => (intro w9 hSw; (try dsimp only at hSw); go_simp; try with_reducible rfl)
                    try simp only [Act.put, List.setIfInBounds_toArray, List.set_cons_zero, List.set_cons_succ]
                    refine wpAnyH_take (i := 4) (oi := { dst := some 72, op := Go.Op.move (Go.Operand.tmp 0), type := 22, pos := "embed.go:312", after := #[], guard := none }) (v := ?_) rfl (by kernel_rfl) (by kernel_rfl) (by kernel_rfl) (fun _ _ _ h => h) (Or.inl ⟨by rfl, ?hy⟩) (by assumption) ?_
                    case hy => (intro w9 hSw; (try dsimp only at hSw); go_simp; try with_reducible rfl)
                    try simp only [Act.put, List.setIfInBounds_toArray, List.set_cons_zero, List.set_cons_succ]
                    refine wpAnyH_take (i := 5) (oi := { dst := some 73, op := Go.Op.move (Go.Operand.tmp 4), type := 3, pos := "embed.go:312", after := #[], guard := none }) (v := ?_) rfl (by kernel_rfl) (by kernel_rfl) (by kernel_rfl) (fun _ _ _ h => h) (Or.inl ⟨by rfl, ?hy⟩) (by assumption) ?_
                    case hy => (intro w9 hSw; (try dsimp only at hSw); go_simp; try with_reducible rfl)
                    try simp only [Act.put, List.setIfInBounds_toArray, List.set_cons_zero, List.set_cons_succ]
                    refine wpAnyH_take (i := 6) (oi := { dst := some 74, op := Go.Op.indexAddr 22 (Go.Operand.tmp 72) (Go.Operand.tmp 73), type := 0, pos := "embed.go:312", after := #[{ on := 4, ground := Go.Ground.data }, { on := 5, ground := Go.Ground.data }], guard := none }) (v := ?_) rfl (by kernel_rfl) (by kernel_rfl) (by kernel_rfl) (fun _ _ _ h => h) (Or.inl ⟨by rfl, ?hy⟩) (by assumption) ?_
                    case hy => (intro w9 hSw; (try dsimp only at hSw); go_simp; try with_reducible rfl)
                    try simp only [Act.put, List.setIfInBounds_toArray, List.set_cons_zero, List.set_cons_succ]
                    refine wpAnyH_take (i := 7) (oi := { dst := some 75, op := Go.Op.fieldAddr 44 (Go.Operand.tmp 74) 2, type := 0, pos := "embed.go:312", after := #[{ on := 6, ground := Go.Ground.data }], guard := none }) (v := ?_) rfl (by kernel_rfl) (by kernel_rfl) (by kernel_rfl) (fun _ _ _ h => h) (Or.inl ⟨by rfl, ?hy⟩) (by assumption) ?_
                    case hy => (intro w9 hSw; (try dsimp only at hSw); go_simp; try with_reducible rfl)
                    try simp only [Act.put, List.setIfInBounds_toArray, List.set_cons_zero, List.set_cons_succ]
                    refine wpAnyH_take (i := 8) (oi := { dst := some 76, op := Go.Op.load 3 (Go.Operand.tmp 75), type := 3, pos := "embed.go:312", after := #[{ on := 7, ground := Go.Ground.data }], guard := none }) (v := ?_) rfl (by kernel_rfl) (by kernel_rfl) (by kernel_rfl) (fun _ _ _ h => h) (Or.inl ⟨by rfl, ?hy⟩) (by assumption) ?_
                    case hy => (intro w9 hSw; (try dsimp only at hSw); go_simp; try with_reducible rfl)
                    try simp only [Act.put, List.setIfInBounds_toArray, List.set_cons_zero, List.set_cons_succ]
                    refine wpAnyH_take (i := 10) (oi := { dst := some 78, op := Go.Op.move (Go.Operand.tmp 3), type := 27, pos := "embed.go:312", after := #[], guard := none }) (v := ?_) rfl (by kernel_rfl) (by kernel_rfl) (by kernel_rfl) (fun _ _ _ h => h) (Or.inl ⟨by rfl, ?hy⟩) (by assumption) ?_
                    case hy => (intro w9 hSw; (try dsimp only at hSw); go_simp; try with_reducible rfl)
                    try simp only [Act.put, List.setIfInBounds_toArray, List.set_cons_zero, List.set_cons_succ]
                    refine wpAnyH_take (i := 11) (oi := { dst := some 79, op := Go.Op.move (Go.Operand.tmp 7), type := 3, pos := "embed.go:312", after := #[], guard := none }) (v := ?_) rfl (by kernel_rfl) (by kernel_rfl) (by kernel_rfl) (fun _ _ _ h => h) (Or.inl ⟨by rfl, ?hy⟩) (by assumption) ?_
                    case hy => (intro w9 hSw; (try dsimp only at hSw); go_simp; try with_reducible rfl)
                    try simp only [Act.put, List.setIfInBounds_toArray, List.set_cons_zero, List.set_cons_succ]
                    refine wpAnyH_take (i := 12) (oi := { dst := some 80, op := Go.Op.slice 27 (Go.Operand.tmp 78) (some (Go.Operand.tmp 79)) none none, type := 27, pos := "embed.go:312", after := #[{ on := 10, ground := Go.Ground.data }, { on := 11, ground := Go.Ground.data }], guard := none }) (v := ?_) rfl (by kernel_rfl) (by kernel_rfl) (by kernel_rfl) (fun _ _ _ h => h) (Or.inl ⟨by rfl, ?hy⟩) (by assumption) ?_
                    case hy => (intro w9 hSw; (try dsimp only at hSw); go_simp; try with_reducible rfl)
                    try simp only [Act.put, List.setIfInBounds_toArray, List.set_cons_zero, List.set_cons_succ]
                    refine wpAnyH_ready (rs := [9]) (by kernel_rfl) (by simp) ?_
                    refine AllReadyH.cons (o := { dst := some 77, op := Go.Op.buildSlice 27 1 #[(0, Go.Operand.tmp 76)], type := 27, pos := "embed.go:312", after := #[{ on := 8, ground := Go.Ground.data }], guard := none }) rfl (fun K hK => ?_) AllReadyH.nil
                    go_simp
                    skip
                    refine hK.out _ _ ?_ (fun hHeld => ?_)
                    · exact KK.alloc KK.size _
                    clear hK K
                    try simp only [Act.put, List.setIfInBounds_toArray, List.set_cons_zero, List.set_cons_succ]
                    refine wpAnyH_ready (rs := [13]) (by kernel_rfl) (by simp) ?_
                    refine AllReadyH.cons (o := { dst := some 81, op := Go.Op.call { callee := Go.Callee.builtin Go.Builtin.append, args := #[Go.Operand.tmp 77, Go.Operand.tmp 80], argTypes := #[27, 27] }, type := 27, pos := "embed.go:312", after := #[{ on := 9, ground := Go.Ground.data }, { on := 12, ground := Go.Ground.data }], guard := none }) rfl (fun K hK => ?_) AllReadyH.nil
                    rw [if_pos (by rfl)]
                    refine wp_apnd _ _ _ rfl wr.heap.size wr.heap.size 1 1 [.int .i64 (msg E i : Nat)] (L.drop q) _ rfl (one_own wr.drew _) (Nat.le_refl _) (HSR.out _ (KK.alloc KK.size _)) rfl (by first | (simp; done) | (simp; omega) | (simp [HNL.out] <;> omega)) (by simp) ?_
                    intro v1 w6 hown1 hg1
                    have hB6 : Below wr.heap.size wr w6 := (KK.alloc KK.size _).grown hg1 (by simp) (by intro k hk; injection hk with hk; omega)
                    obtain ⟨B1, cap1, rfl, hc1⟩ := one_form hown1
                    clear hg1
                    refine hK.out _ _ ?_ (fun hHeld => ?_)
                    · exact hB6
                    clear hK K
                    try simp only [Act.put, List.setIfInBounds_toArray, List.set_cons_zero, List.set_cons_succ]
                    refine wpAnyH_ready (rs := [14]) (by kernel_rfl) (by simp) ?_
                    refine AllReadyH.cons (o := { dst := some 82, op := Go.Op.call { callee := Go.Callee.builtin Go.Builtin.append, args := #[Go.Operand.tmp 71, Go.Operand.tmp 81], argTypes := #[27, 27] }, type := 27, pos := "embed.go:312", after := #[{ on := 3, ground := Go.Ground.data }, { on := 13, ground := Go.Ground.data }, { on := 13, ground := Go.Ground.chain }], guard := none }) rfl (fun K hK => ?_) AllReadyH.nil
                    rw [if_pos (by rfl)]
                    refine wp_cut _ _ _ rfl ad q (natVals (L.take q)) rfl (by first | (simp [natVals]; done) | (simp [natVals]; omega) | (simp [natVals, HNL.out] <;> omega)) (HSL.out _ hB6) ⟨B1, 0, none⟩ (1 + (L.drop q).length) cap1 (natVals (msg E i :: L.drop q)) rfl (by first | (simp [natVals]; done) | (simp [natVals]; omega) | (simp [natVals, HNL.out] <;> omega)) hc1 (by omega) (by first | (simp; done) | (simp; omega) | (simp [HNL.out] <;> omega)) ?_
                    intro v3 w9 hown3 hg3
                    have hB9 : Below wr.heap.size wr w9 := hB6.grown hg3 hB6.size (by intro k hk; cases hk)
                    clear hg3
                    refine hK.out _ _ ?_ (fun hHeld => ?_)
                    · exact hB9
                    clear hK K
                    try simp only [Act.put, List.setIfInBounds_toArray, List.set_cons_zero, List.set_cons_succ]
                    refine wpAnyH_take (i := 15) (oi := { dst := some 3, op := Go.Op.assign (Go.Operand.tmp 82), type := 27, pos := "embed.go:312", after := #[{ on := 14, ground := Go.Ground.data }, { on := 14, ground := Go.Ground.chain }, { on := 0, ground := Go.Ground.phase }, { on := 1, ground := Go.Ground.phase }, { on := 2, ground := Go.Ground.phase }, { on := 3, ground := Go.Ground.phase }, { on := 4, ground := Go.Ground.phase }, { on := 5, ground := Go.Ground.phase }, { on := 6, ground := Go.Ground.phase }, { on := 7, ground := Go.Ground.phase }, { on := 8, ground := Go.Ground.phase }, { on := 9, ground := Go.Ground.phase }, { on := 10, ground := Go.Ground.phase }, { on := 11, ground := Go.Ground.phase }, { on := 12, ground := Go.Ground.phase }, { on := 13, ground := Go.Ground.phase }, { on := 14, ground := Go.Ground.phase }], guard := none }) (v := ?_) rfl (by kernel_rfl) (by kernel_rfl) (by kernel_rfl) (fun _ _ _ h => h) (Or.inl ⟨by rfl, ?hy⟩) (by assumption) ?_
                    case hy => (intro w9 hSw; (try dsimp only at hSw); go_simp; try with_reducible rfl)
                    try simp only [Act.put, List.setIfInBounds_toArray, List.set_cons_zero, List.set_cons_succ]
                    refine wpAnyH_done (by kernel_rfl) ?_ _
                    try simp only [Act.put, List.setIfInBounds_toArray, List.set_cons_zero, List.set_cons_succ]
                    have HB9 : Hid (Below w.heap.size w w9) := Below.then HB2.out hB9
                    have HO9 : Hid (w9.ownsRow w.heap.size 3 1 v3 (srt E k (i + 1)).length (natVals (srt E k (i + 1)))) := by
                      have h := owns_mono hown3 (Nat.le_trans HB2.out.size hB6.size)
                      have e1 : natVals (srt E k (i + 1)) = natVals (L.take q) ++ natVals (msg E i :: L.drop q) := by rw [HE.out, insL, ← HQE.out, natVals_append]
                      have e2 : (srt E k (i + 1)).length = q + (1 + (L.drop q).length) := by rw [HE.out, insL_len]; simp [HNL.out] <;> omega
                      rw [e1, e2]
                      exact h
                    clear hown3 hB9 hB6 HSR HSL l0 KK
                    go_wp2_with fail
                    go_roundw
                    case rel => exact ⟨i + 1, by omega, by go_num, HO9.out, HB9.out⟩
                    case measure => simp [intOf]; omega
                  · obtain rfl : q = nL := by omega
                    go_wp2_with fail
                    go_quiet (fail)
                    have HB2 : Hid (Below w.heap.size w (wr.drewN nq)) := below_drewN hB.out _
                    have HO2 : Hid ((wr.drewN nq).ownsRow w.heap.size 3 1 (.slice (some ⟨B, 0, none⟩) q capv) q (natVals L)) := hO.out
                    have d3' : (wr.drewN nq).cell? ⟨b, off + i * 3 + 2, none⟩ = some (.int .i64 (msg E i : Nat)) := d3
                    clear hB hO d1 d2 d3
                    generalize wr.drewN nq = wr at *
                    have l0 : ∀ w', Below wr.heap.size wr w' → w'.cell? ⟨b, off + i * 3 + 2, none⟩ = some (.int .i64 (msg E i : Nat)) := fun w' h => (h.cell (World.block_lt_of_cell? _ _ d3')).trans d3'
                    have HCQ : Hid (∀ w', Below wr.heap.size wr w' → ∀ j, j < q → w'.cell? ⟨B, j, none⟩ = some (.int .i64 (nth L j : Nat))) := fun w' h j hj => by
                      have hc : wr.cell? ⟨B, j, none⟩ = some (.int .i64 (nth L j : Nat)) := by rw [HO2.out.cellAt j (by omega)]; exact natVals_at L j (by rw [HNL.out]; exact hj)
                      exact (h.cell (World.block_lt_of_cell? _ _ hc)).trans hc
                    obtain ⟨ad, HAD⟩ : ∃ ad : Addr, Hid ((⟨B, 0, none⟩ : Addr) = ad) := ⟨_, rfl⟩
                    obtain ⟨aq, haq, HAQ⟩ : ∃ aq : Addr, (if capv = q then some ad else some (Addr.add ad q)) = some aq ∧ Hid (q < q → aq = ⟨B, q, none⟩) := by
                      by_cases h : capv = q
                      · exact ⟨_, by rw [if_pos h], fun h2 => by omega⟩
                      · exact ⟨_, by rw [if_neg h], fun _ => by rw [← HAD.out]; cases q <;> simp [Addr.add]⟩
                    have HSL : Hid (∀ w', Below wr.heap.size wr w' → ∀ j u, (natVals (L.take q))[j]? = some u → w'.cell? (Addr.add ad j) = some u) := fun w' h j u hj => by
                      have hjq : j < q := by
                        rcases Nat.lt_or_ge j q with h | h
                        · exact h
                        · rw [List.getElem?_eq_none (by simp [natVals, HNL.out] <;> omega)] at hj; cases hj
                      have e : (Addr.add ⟨B, 0, none⟩ j) = ⟨B, j, none⟩ := by cases j <;> simp [Addr.add]
                      rw [← HAD.out, e, HCQ.out w' h j (by omega)]
                      simpa [natVals, nth, hjq, show j < L.length by rw [HNL.out]; omega] using hj
                    have HSR : Hid (∀ w', Below wr.heap.size wr w' → Src2 w' (.slice (some aq) 0 (capv - q)) (L.drop q)) := fun w' h => by
                      refine .inr ⟨aq, capv - q, by simp [HNL.out], fun j u hj => ?_⟩
                      have hjq : j < 0 := by
                        rcases Nat.lt_or_ge j 0 with h | h
                        · exact h
                        · rw [List.getElem?_eq_none (by simp [natVals, HNL.out] <;> omega)] at hj; cases hj
                      exact absurd hjq (Nat.not_lt_zero _)
                    have KK : Below wr.heap.size wr wr.drew := (Below.refl _ _).drew
                    have hq1 : (q : Int) ≤ (q : Int) := by omega
                    have hq2 : (q : Int) ≤ (capv : Int) := by omega
                    have hq3 : (q : Int) ≤ (capv : Int) := by omega
                    clear d3' HCQ
                    rw [HAD.out]
                    go_wp2_with fail
                    refine wp_region_held_drew (S := (fun w' => Below wr.heap.size wr w')) (by kernel_rfl) (KK) (fun hHeld => ?_)
                    refine wpAnyH_take (i := 0) (oi := { dst := some 68, op := Go.Op.move (Go.Operand.tmp 3), type := 27, pos := "embed.go:312", after := #[], guard := none }) (v := ?_) rfl (by kernel_rfl) (by kernel_rfl) (by kernel_rfl) (fun _ _ _ h => h) (Or.inl ⟨by rfl, ?hy⟩) (by assumption) ?_
                    case hy => (intro w9 hSw; (try dsimp only at hSw); go_simp; try with_reducible rfl)
                    try simp only [Act.put, List.setIfInBounds_toArray, List.set_cons_zero, List.set_cons_succ]
                    refine wpAnyH_take (i := 1) (oi := { dst := some 69, op := Go.Op.move (Go.Operand.tmp 7), type := 3, pos := "embed.go:312", after := #[], guard := none }) (v := ?_) rfl (by kernel_rfl) (by kernel_rfl) (by kernel_rfl) (fun _ _ _ h => h) (Or.inl ⟨by rfl, ?hy⟩) (by assumption) ?_
                    case hy => (intro w9 hSw; (try dsimp only at hSw); go_simp; try with_reducible rfl)
                    try simp only [Act.put, List.setIfInBounds_toArray, List.set_cons_zero, List.set_cons_succ]
                    refine wpAnyH_take (i := 2) (oi := { dst := some 70, op := Go.Op.move (Go.Operand.tmp 7), type := 3, pos := "embed.go:312", after := #[], guard := none }) (v := ?_) rfl (by kernel_rfl) (by kernel_rfl) (by kernel_rfl) (fun _ _ _ h => h) (Or.inl ⟨by rfl, ?hy⟩) (by assumption) ?_
                    case hy => (intro w9 hSw; (try dsimp only at hSw); go_simp; try with_reducible rfl)
                    try simp only [Act.put, List.setIfInBounds_toArray, List.set_cons_zero, List.set_cons_succ]
                    refine wpAnyH_take (i := 3) (oi := { dst := some 71, op := Go.Op.slice 27 (Go.Operand.tmp 68) none (some (Go.Operand.tmp 69)) (some (Go.Operand.tmp 70)), type := 27, pos := "embed.go:312", after := #[{ on := 0, ground := Go.Ground.data }, { on := 1, ground := Go.Ground.data }, { on := 2, ground := Go.Ground.data }], guard := none }) (v := ?_) rfl (by kernel_rfl) (by kernel_rfl) (by kernel_rfl) (fun _ _ _ h => h) (Or.inl ⟨by rfl, ?hy⟩) (by assumption) ?_
                    case hy => (intro w9 hSw; (try dsimp only at hSw); go_simp; try with_reducible rfl)
                    try simp only [Act.put, List.setIfInBounds_toArray, List.set_cons_zero, List.set_cons_succ]
                    refine wpAnyH_take (i := 4) (oi := { dst := some 72, op := Go.Op.move (Go.Operand.tmp 0), type := 22, pos := "embed.go:312", after := #[], guard := none }) (v := ?_) rfl (by kernel_rfl) (by kernel_rfl) (by kernel_rfl) (fun _ _ _ h => h) (Or.inl ⟨by rfl, ?hy⟩) (by assumption) ?_
                    case hy => (intro w9 hSw; (try dsimp only at hSw); go_simp; try with_reducible rfl)
                    try simp only [Act.put, List.setIfInBounds_toArray, List.set_cons_zero, List.set_cons_succ]
                    refine wpAnyH_take (i := 5) (oi := { dst := some 73, op := Go.Op.move (Go.Operand.tmp 4), type := 3, pos := "embed.go:312", after := #[], guard := none }) (v := ?_) rfl (by kernel_rfl) (by kernel_rfl) (by kernel_rfl) (fun _ _ _ h => h) (Or.inl ⟨by rfl, ?hy⟩) (by assumption) ?_
                    case hy => (intro w9 hSw; (try dsimp only at hSw); go_simp; try with_reducible rfl)
                    try simp only [Act.put, List.setIfInBounds_toArray, List.set_cons_zero, List.set_cons_succ]
                    refine wpAnyH_take (i := 6) (oi := { dst := some 74, op := Go.Op.indexAddr 22 (Go.Operand.tmp 72) (Go.Operand.tmp 73), type := 0, pos := "embed.go:312", after := #[{ on := 4, ground := Go.Ground.data }, { on := 5, ground := Go.Ground.data }], guard := none }) (v := ?_) rfl (by kernel_rfl) (by kernel_rfl) (by kernel_rfl) (fun _ _ _ h => h) (Or.inl ⟨by rfl, ?hy⟩) (by assumption) ?_
                    case hy => (intro w9 hSw; (try dsimp only at hSw); go_simp; try with_reducible rfl)
                    try simp only [Act.put, List.setIfInBounds_toArray, List.set_cons_zero, List.set_cons_succ]
                    refine wpAnyH_take (i := 7) (oi := { dst := some 75, op := Go.Op.fieldAddr 44 (Go.Operand.tmp 74) 2, type := 0, pos := "embed.go:312", after := #[{ on := 6, ground := Go.Ground.data }], guard := none }) (v := ?_) rfl (by kernel_rfl) (by kernel_rfl) (by kernel_rfl) (fun _ _ _ h => h) (Or.inl ⟨by rfl, ?hy⟩) (by assumption) ?_
                    case hy => (intro w9 hSw; (try dsimp only at hSw); go_simp; try with_reducible rfl)
                    try simp only [Act.put, List.setIfInBounds_toArray, List.set_cons_zero, List.set_cons_succ]
                    refine wpAnyH_take (i := 8) (oi := { dst := some 76, op := Go.Op.load 3 (Go.Operand.tmp 75), type := 3, pos := "embed.go:312", after := #[{ on := 7, ground := Go.Ground.data }], guard := none }) (v := ?_) rfl (by kernel_rfl) (by kernel_rfl) (by kernel_rfl) (fun _ _ _ h => h) (Or.inl ⟨by rfl, ?hy⟩) (by assumption) ?_
                    case hy => (intro w9 hSw; (try dsimp only at hSw); go_simp; try with_reducible rfl)
                    try simp only [Act.put, List.setIfInBounds_toArray, List.set_cons_zero, List.set_cons_succ]
                    refine wpAnyH_take (i := 10) (oi := { dst := some 78, op := Go.Op.move (Go.Operand.tmp 3), type := 27, pos := "embed.go:312", after := #[], guard := none }) (v := ?_) rfl (by kernel_rfl) (by kernel_rfl) (by kernel_rfl) (fun _ _ _ h => h) (Or.inl ⟨by rfl, ?hy⟩) (by assumption) ?_
                    case hy => (intro w9 hSw; (try dsimp only at hSw); go_simp; try with_reducible rfl)
                    try simp only [Act.put, List.setIfInBounds_toArray, List.set_cons_zero, List.set_cons_succ]
                    refine wpAnyH_take (i := 11) (oi := { dst := some 79, op := Go.Op.move (Go.Operand.tmp 7), type := 3, pos := "embed.go:312", after := #[], guard := none }) (v := ?_) rfl (by kernel_rfl) (by kernel_rfl) (by kernel_rfl) (fun _ _ _ h => h) (Or.inl ⟨by rfl, ?hy⟩) (by assumption) ?_
                    case hy => (intro w9 hSw; (try dsimp only at hSw); go_simp; try with_reducible rfl)
                    try simp only [Act.put, List.setIfInBounds_toArray, List.set_cons_zero, List.set_cons_succ]
                    refine wpAnyH_take (i := 12) (oi := { dst := some 80, op := Go.Op.slice 27 (Go.Operand.tmp 78) (some (Go.Operand.tmp 79)) none none, type := 27, pos := "embed.go:312", after := #[{ on := 10, ground := Go.Ground.data }, { on := 11, ground := Go.Ground.data }], guard := none }) (v := ?_) rfl (by kernel_rfl) (by kernel_rfl) (by kernel_rfl) (fun _ _ _ h => h) (Or.inl ⟨by rfl, ?hy⟩) (by assumption) ?_
                    case hy => (intro w9 hSw; (try dsimp only at hSw); go_simp; try with_reducible rfl)
                    try simp only [Act.put, List.setIfInBounds_toArray, List.set_cons_zero, List.set_cons_succ]
                    refine wpAnyH_ready (rs := [9]) (by kernel_rfl) (by simp) ?_
                    refine AllReadyH.cons (o := { dst := some 77, op := Go.Op.buildSlice 27 1 #[(0, Go.Operand.tmp 76)], type := 27, pos := "embed.go:312", after := #[{ on := 8, ground := Go.Ground.data }], guard := none }) rfl (fun K hK => ?_) AllReadyH.nil
                    go_simp
                    skip
                    refine hK.out _ _ ?_ (fun hHeld => ?_)
                    · exact KK.alloc KK.size _
                    clear hK K
                    try simp only [Act.put, List.setIfInBounds_toArray, List.set_cons_zero, List.set_cons_succ]
                    refine wpAnyH_ready (rs := [13]) (by kernel_rfl) (by simp) ?_
                    refine AllReadyH.cons (o := { dst := some 81, op := Go.Op.call { callee := Go.Callee.builtin Go.Builtin.append, args := #[Go.Operand.tmp 77, Go.Operand.tmp 80], argTypes := #[27, 27] }, type := 27, pos := "embed.go:312", after := #[{ on := 9, ground := Go.Ground.data }, { on := 12, ground := Go.Ground.data }], guard := none }) rfl (fun K hK => ?_) AllReadyH.nil
                    rw [if_pos (by rfl)]
                    refine wp_apnd _ _ _ rfl wr.heap.size wr.heap.size 1 1 [.int .i64 (msg E i : Nat)] (L.drop q) _ rfl (one_own wr.drew _) (Nat.le_refl _) (HSR.out _ (KK.alloc KK.size _)) rfl (by first | (simp; done) | (simp; omega) | (simp [HNL.out] <;> omega)) (by simp) ?_
                    intro v1 w6 hown1 hg1
                    have hB6 : Below wr.heap.size wr w6 := (KK.alloc KK.size _).grown hg1 (by simp) (by intro k hk; injection hk with hk; omega)
                    obtain ⟨B1, cap1, rfl, hc1⟩ := one_form hown1
                    clear hg1
                    refine hK.out _ _ ?_ (fun hHeld => ?_)
                    · exact hB6
                    clear hK K
                    try simp only [Act.put, List.setIfInBounds_toArray, List.set_cons_zero, List.set_cons_succ]
                    refine wpAnyH_ready (rs := [14]) (by kernel_rfl) (by simp) ?_
                    refine AllReadyH.cons (o := { dst := some 82, op := Go.Op.call { callee := Go.Callee.builtin Go.Builtin.append, args := #[Go.Operand.tmp 71, Go.Operand.tmp 81], argTypes := #[27, 27] }, type := 27, pos := "embed.go:312", after := #[{ on := 3, ground := Go.Ground.data }, { on := 13, ground := Go.Ground.data }, { on := 13, ground := Go.Ground.chain }], guard := none }) rfl (fun K hK => ?_) AllReadyH.nil
                    rw [if_pos (by rfl)]
                    refine wp_cut _ _ _ rfl ad q (natVals (L.take q)) rfl (by first | (simp [natVals]; done) | (simp [natVals]; omega) | (simp [natVals, HNL.out] <;> omega)) (HSL.out _ hB6) ⟨B1, 0, none⟩ (1 + (L.drop q).length) cap1 (natVals (msg E i :: L.drop q)) rfl (by first | (simp [natVals]; done) | (simp [natVals]; omega) | (simp [natVals, HNL.out] <;> omega)) hc1 (by omega) (by first | (simp; done) | (simp; omega) | (simp [HNL.out] <;> omega)) ?_
                    intro v3 w9 hown3 hg3
                    have hB9 : Below wr.heap.size wr w9 := hB6.grown hg3 hB6.size (by intro k hk; cases hk)
                    clear hg3
                    refine hK.out _ _ ?_ (fun hHeld => ?_)
                    · exact hB9
                    clear hK K
                    try simp only [Act.put, List.setIfInBounds_toArray, List.set_cons_zero, List.set_cons_succ]
                    refine wpAnyH_take (i := 15) (oi := { dst := some 3, op := Go.Op.assign (Go.Operand.tmp 82), type := 27, pos := "embed.go:312", after := #[{ on := 14, ground := Go.Ground.data }, { on := 14, ground := Go.Ground.chain }, { on := 0, ground := Go.Ground.phase }, { on := 1, ground := Go.Ground.phase }, { on := 2, ground := Go.Ground.phase }, { on := 3, ground := Go.Ground.phase }, { on := 4, ground := Go.Ground.phase }, { on := 5, ground := Go.Ground.phase }, { on := 6, ground := Go.Ground.phase }, { on := 7, ground := Go.Ground.phase }, { on := 8, ground := Go.Ground.phase }, { on := 9, ground := Go.Ground.phase }, { on := 10, ground := Go.Ground.phase }, { on := 11, ground := Go.Ground.phase }, { on := 12, ground := Go.Ground.phase }, { on := 13, ground := Go.Ground.phase }, { on := 14, ground := Go.Ground.phase }], guard := none }) (v := ?_) rfl (by kernel_rfl) (by kernel_rfl) (by kernel_rfl) (fun _ _ _ h => h) (Or.inl ⟨by rfl, ?hy⟩) (by assumption) ?_
                    case hy => (intro w9 hSw; (try dsimp only at hSw); go_simp; try with_reducible rfl)
                    try simp only [Act.put, List.setIfInBounds_toArray, List.set_cons_zero, List.set_cons_succ]
                    refine wpAnyH_done (by kernel_rfl) ?_ _
                    try simp only [Act.put, List.setIfInBounds_toArray, List.set_cons_zero, List.set_cons_succ]
                    have HB9 : Hid (Below w.heap.size w w9) := Below.then HB2.out hB9
                    have HO9 : Hid (w9.ownsRow w.heap.size 3 1 v3 (srt E k (i + 1)).length (natVals (srt E k (i + 1)))) := by
                      have h := owns_mono hown3 (Nat.le_trans HB2.out.size hB6.size)
                      have e1 : natVals (srt E k (i + 1)) = natVals (L.take q) ++ natVals (msg E i :: L.drop q) := by rw [HE.out, insL, ← HQE.out, natVals_append]
                      have e2 : (srt E k (i + 1)).length = q + (1 + (L.drop q).length) := by rw [HE.out, insL_len]; simp [HNL.out] <;> omega
                      rw [e1, e2]
                      exact h
                    clear hown3 hB9 hB6 HSR HSL l0 KK
                    go_wp2_with fail
                    go_roundw
                    case rel => exact ⟨i + 1, by omega, by go_num, HO9.out, HB9.out⟩
                    case measure => simp [intOf]; omega
    · obtain rfl : i = len := by omega
      have HN : Hid (NSl wr u3 (srt E i i)) := owns_nats hown
      clear hown
      go_wp2_with fail
      go_ret
      exact ⟨⟨_, rfl, HN.out⟩, hB.out⟩
end Go.Proofs.Ytomoodpgmkjacaa
