/-
  The drawn region of the algebra's layOut: one number more in a row of the table. Conditions: as each theorem says.
-/
import Derived.Test.YtfkkjebgccnlnaaOrdered
import Derived.Test.YtfkkjebgccnlnaaOneM
namespace Go.Proofs.Ytfkkjebgccnlnaa
set_option maxRecDepth 100000
open Go.RowKit

/-- What the loads of the region read. -/
def LS (A T n x : Nat) (v : Value) (w : World) : Prop := w.cell? ⟨A, 6, none⟩ = some (.slice (some ⟨T, 0, none⟩) n n) ∧ w.cell? ⟨T, x, none⟩ = some v
section
variable {wa : World} {A T H n x : Nat} {Rr : Nat → Nat × Nat} {f : Nat → Nat → Nat} {v : Value} {y : Nat} {w w' : World}
theorem LS.of (h : One wa A T H n x Rr f v y w) (hx : x < n) : LS A T n x v w := by
  have h1 := (h.o x hx).1
  rw [rowF_at] at h1
  exact ⟨h.tb, h1⟩
theorem LS.keepB (h : One wa A T H n x Rr f v y w) (hb : Below H w w') (hl : LS A T n x v w) : LS A T n x v w' := by
  have h1 := h.aa
  have h2 := h.th
  exact ⟨(hb.cell (p := ⟨A, 6, none⟩) (show A < H by omega)).trans hl.1, (hb.cell (p := ⟨T, x, none⟩) (show T < H by omega)).trans hl.2⟩
end
/-- An append of one number to a row of the call's own. -/
theorem wp_grow {o : Oper} {a : Act} {K : Act → World → Prop} {Q : Exit → Act → World → Prop} (w : World) (s x : Operand)
    (ho : o.op = .call { callee := .builtin .append, args := #[s, x], argTypes := #[37, 37] }) (base : Nat) (v : Value) (n : Nat) (xs : List Value) (hs : a.eval s = v) (hown : w.ownsRow base 3 1 v n xs)
    (b : Nat) (u : Int) (hx : a.eval x = .slice (some ⟨b, 0, none⟩) 1 1) (hc : w.cell? ⟨b, 0, none⟩ = some (.int .i64 u)) (hlen : n ≤ 1000) (hbase : base ≤ w.heap.size)
    (h : ∀ v' w', w'.ownsRow base 3 1 v' (n + 1) (xs ++ [.int .i64 u]) → w.grownBy w' v.ownBlock → (v'.ownBlock = v.ownBlock ∨ v'.ownBlock = some w.heap.size) → K (a.put o.dst v') w') : o.wp Try.prog a w K Q := by
  obtain ⟨i0, hi, hz0, hz1, hz2⟩ := info_parts Try.info3
  obtain ⟨v', w', hr, h2, h3, _, h5⟩ := run_append_own_at (P := Try.prog) w base 37 o.type 3 i0 (.int .i64 0) 1 8 Try.underlying37 hi hz0 hz1 hz2 rfl (by decide) v n xs hown ⟨b, 0, none⟩ 1 1 [.int .i64 u] rfl (fun j q hj => by
    match j, hj with
    | 0, hj => simp at hj; subst hj; simpa [Addr.add] using hc) (fun q hq => by simp at hq; subst hq; rfl) (by unfold maxLen; omega) (by omega) hbase
  unfold Oper.wp execOp
  simp only [ho, resolve, invoke, builtin, Sem.run_bind, Sem.run_pure, Result.andThen_ok, List.map_toArray, List.map_cons, List.map_nil, hs, hx, hr]
  exact h v' w' h2 h3 h5
def ops7 : Array Oper :=
  #[{ dst := some 29, op := Go.Op.move (Go.Operand.tmp 0), type := 43, pos := "algebra.go:48", after := #[], guard := none },
    { dst := some 30, op := Go.Op.nilCheck (Go.Operand.tmp 29), type := 0, pos := "algebra.go:48", after := #[{ on := 0, ground := Go.Ground.data }], guard := none },
    { dst := some 31, op := Go.Op.fieldAddr 73 (Go.Operand.tmp 30) 2, type := 0, pos := "algebra.go:48", after := #[{ on := 1, ground := Go.Ground.data }], guard := none },
    { dst := some 32, op := Go.Op.load 22 (Go.Operand.tmp 31), type := 22, pos := "algebra.go:48", after := #[{ on := 2, ground := Go.Ground.data }], guard := none },
    { dst := some 33, op := Go.Op.move (Go.Operand.tmp 2), type := 3, pos := "algebra.go:48", after := #[], guard := none },
    { dst := some 34, op := Go.Op.move (Go.Operand.tmp 0), type := 43, pos := "algebra.go:48", after := #[], guard := none },
    { dst := some 35, op := Go.Op.nilCheck (Go.Operand.tmp 34), type := 0, pos := "algebra.go:48", after := #[{ on := 5, ground := Go.Ground.data }], guard := none },
    { dst := some 36, op := Go.Op.fieldAddr 73 (Go.Operand.tmp 35) 2, type := 0, pos := "algebra.go:48", after := #[{ on := 6, ground := Go.Ground.data }], guard := none },
    { dst := some 37, op := Go.Op.load 22 (Go.Operand.tmp 36), type := 22, pos := "algebra.go:48", after := #[{ on := 7, ground := Go.Ground.data }], guard := none },
    { dst := some 38, op := Go.Op.move (Go.Operand.tmp 2), type := 3, pos := "algebra.go:48", after := #[], guard := none },
    { dst := some 39, op := Go.Op.indexAddr 22 (Go.Operand.tmp 37) (Go.Operand.tmp 38), type := 0, pos := "algebra.go:48", after := #[{ on := 8, ground := Go.Ground.data }, { on := 9, ground := Go.Ground.data }], guard := none },
    { dst := some 40, op := Go.Op.load 37 (Go.Operand.tmp 39), type := 37, pos := "algebra.go:48", after := #[{ on := 10, ground := Go.Ground.data }], guard := none },
    { dst := some 41, op := Go.Op.move (Go.Operand.tmp 0), type := 43, pos := "algebra.go:48", after := #[], guard := none },
    { dst := some 42, op := Go.Op.move (Go.Operand.tmp 2), type := 3, pos := "algebra.go:48", after := #[], guard := none },
    { dst := some 43, op := Go.Op.move (Go.Operand.tmp 3), type := 3, pos := "algebra.go:48", after := #[], guard := none },
    { dst := some 44, op := Go.Op.call { callee := Go.Callee.value (Go.Operand.func 39), args := #[Go.Operand.tmp 41, Go.Operand.tmp 42, Go.Operand.tmp 43], argTypes := #[43, 3, 3] }, type := 3, pos := "algebra.go:48", after := #[{ on := 12, ground := Go.Ground.data }, { on := 13, ground := Go.Ground.data }, { on := 14, ground := Go.Ground.data }], guard := none },
    { dst := some 45, op := Go.Op.buildSlice 37 1 #[(0, Go.Operand.tmp 44)], type := 37, pos := "algebra.go:48", after := #[{ on := 15, ground := Go.Ground.data }], guard := none },
    { dst := some 46, op := Go.Op.call { callee := Go.Callee.builtin Go.Builtin.append, args := #[Go.Operand.tmp 40, Go.Operand.tmp 45], argTypes := #[37, 37] }, type := 37, pos := "algebra.go:48", after := #[{ on := 11, ground := Go.Ground.data }, { on := 16, ground := Go.Ground.data }, { on := 15, ground := Go.Ground.chain }], guard := none },
    { dst := some 47, op := Go.Op.indexAddr 22 (Go.Operand.tmp 32) (Go.Operand.tmp 33), type := 0, pos := "algebra.go:48", after := #[{ on := 3, ground := Go.Ground.data }, { on := 4, ground := Go.Ground.data }, { on := 0, ground := Go.Ground.phase }, { on := 1, ground := Go.Ground.phase }, { on := 2, ground := Go.Ground.phase }, { on := 3, ground := Go.Ground.phase }, { on := 4, ground := Go.Ground.phase }, { on := 5, ground := Go.Ground.phase }, { on := 6, ground := Go.Ground.phase }, { on := 7, ground := Go.Ground.phase }, { on := 8, ground := Go.Ground.phase }, { on := 9, ground := Go.Ground.phase }, { on := 10, ground := Go.Ground.phase }, { on := 11, ground := Go.Ground.phase }, { on := 12, ground := Go.Ground.phase }, { on := 13, ground := Go.Ground.phase }, { on := 14, ground := Go.Ground.phase }, { on := 15, ground := Go.Ground.phase }, { on := 16, ground := Go.Ground.phase }, { on := 17, ground := Go.Ground.phase }], guard := none },
    { dst := none, op := Go.Op.store 37 (Go.Operand.tmp 47) (Go.Operand.tmp 46), type := 0, pos := "algebra.go:48", after := #[{ on := 18, ground := Go.Ground.data }, { on := 17, ground := Go.Ground.data }, { on := 17, ground := Go.Ground.chain }, { on := 0, ground := Go.Ground.phase }, { on := 1, ground := Go.Ground.phase }, { on := 2, ground := Go.Ground.phase }, { on := 3, ground := Go.Ground.phase }, { on := 4, ground := Go.Ground.phase }, { on := 5, ground := Go.Ground.phase }, { on := 6, ground := Go.Ground.phase }, { on := 7, ground := Go.Ground.phase }, { on := 8, ground := Go.Ground.phase }, { on := 9, ground := Go.Ground.phase }, { on := 10, ground := Go.Ground.phase }, { on := 11, ground := Go.Ground.phase }, { on := 12, ground := Go.Ground.phase }, { on := 13, ground := Go.Ground.phase }, { on := 14, ground := Go.Ground.phase }, { on := 15, ground := Go.Ground.phase }, { on := 16, ground := Go.Ground.phase }, { on := 17, ground := Go.Ground.phase }], guard := none }]
set_option maxHeartbeats 8000000 in
theorem reg7 {wa w : World} {A T H n x y : Nat} {Rr : Nat → Nat × Nat} {f : Nat → Nat → Nat} {v : Value} {uab uae uaf uag uah uai uaj uba ubb ubc ubd ube ubf ubg ubh ubi ubj uca ucb ucc ucd uce ucf ucg uch uci ucj uda udb udc udd ude udf udg udh udi udj uea ueb uec ued uee uef ueg ueh uei uej : Value} {Q : Exit → Act → World → Prop}
    (HTW : Hid (One wa A T H n x Rr f v y w)) (hx : x < n) (hy : y < n) (h40 : n ≤ 40)
    (HC : Hid (∀ w', One wa A T H n x Rr f v y w' → Calls Try.prog 39 #[.pointer (some ⟨A, 0, none⟩), .int .i64 (x : Nat), .int .i64 (y : Nat)] w' fun e w'' => e = .returned (.int .i64 (f x y : Nat)) ∧ Below w'.heap.size w' w''))
    (hQ : ∀ c a w (d : Nat) v, Q (.panic c) (a.put (some d) v) w → Q (.panic c) a w)
    (hk : ∀ v' w', One wa A T H n x Rr f v' (y + 1) w' → ∀ zcj zda zdb zdc zdd zde zdf zdg zdh zdi zdj zea zeb zec zed zee zef zeg zeh : Value, Q .normal { tmps := ((.pointer (some ⟨A, 0, none⟩)) :: uab :: (.int .i64 (x : Nat)) :: (.int .i64 (y : Nat)) :: uae :: uaf :: uag :: uah :: uai :: uaj :: uba :: ubb :: ubc :: ubd :: ube :: ubf :: ubg :: ubh :: ubi :: ubj :: uca :: ucb :: ucc :: ucd :: uce :: ucf :: ucg :: uch :: uci :: zcj :: zda :: zdb :: zdc :: zdd :: zde :: zdf :: zdg :: zdh :: zdi :: zdj :: zea :: zeb :: zec :: zed :: zee :: zef :: zeg :: zeh :: uei :: uej :: []).toArray, defers := [] } w') :
    (Code.region 7 ops7 true).wp Try.prog Q { tmps := ((.pointer (some ⟨A, 0, none⟩)) :: uab :: (.int .i64 (x : Nat)) :: (.int .i64 (y : Nat)) :: uae :: uaf :: uag :: uah :: uai :: uaj :: uba :: ubb :: ubc :: ubd :: ube :: ubf :: ubg :: ubh :: ubi :: ubj :: uca :: ucb :: ucc :: ucd :: uce :: ucf :: ucg :: uch :: uci :: ucj :: uda :: udb :: udc :: udd :: ude :: udf :: udg :: udh :: udi :: udj :: uea :: ueb :: uec :: ued :: uee :: uef :: ueg :: ueh :: uei :: uej :: []).toArray, defers := [] } w := by
  have hx' : (x : Int) < (n : Int) := by omega
  have hy' : (y : Int) < (n : Int) := by omega
  unfold ops7
  refine wp_lates (S := (LS A T n x v)) (late := (fun i => i == 19)) (by kernel_rfl) ?_
  have HTW : Hid (One wa A T H n x Rr f v y w.drew) := HTW.out.step (Below.refl _ _).drew
  have HS : Hid (LS A T n x v w.drew) := LS.of HTW.out hx
  refine lates_take (i := 0) (oi := { dst := some 29, op := Go.Op.move (Go.Operand.tmp 0), type := 43, pos := "algebra.go:48", after := #[], guard := none }) (v := ?_) rfl (by kernel_rfl) (by kernel_rfl) (by kernel_rfl) ⟨rfl, by kernel_rfl⟩ (fun _ _ _ h => hQ _ _ _ _ _ h) (Or.inl ⟨by rfl, ?hy⟩) HS.out ?_
  case hy => (intro w9 hSw; obtain ⟨q1, q2⟩ := hSw; go_simp; try with_reducible rfl)
  try simp only [Act.put, List.setIfInBounds_toArray, List.set_cons_zero, List.set_cons_succ]
  refine lates_take (i := 1) (oi := { dst := some 30, op := Go.Op.nilCheck (Go.Operand.tmp 29), type := 0, pos := "algebra.go:48", after := #[{ on := 0, ground := Go.Ground.data }], guard := none }) (v := ?_) rfl (by kernel_rfl) (by kernel_rfl) (by kernel_rfl) ⟨rfl, by kernel_rfl⟩ (fun _ _ _ h => hQ _ _ _ _ _ h) (Or.inl ⟨by rfl, ?hy⟩) HS.out ?_
  case hy => (intro w9 hSw; obtain ⟨q1, q2⟩ := hSw; go_simp; try with_reducible rfl)
  try simp only [Act.put, List.setIfInBounds_toArray, List.set_cons_zero, List.set_cons_succ]
  refine lates_take (i := 2) (oi := { dst := some 31, op := Go.Op.fieldAddr 73 (Go.Operand.tmp 30) 2, type := 0, pos := "algebra.go:48", after := #[{ on := 1, ground := Go.Ground.data }], guard := none }) (v := ?_) rfl (by kernel_rfl) (by kernel_rfl) (by kernel_rfl) ⟨rfl, by kernel_rfl⟩ (fun _ _ _ h => hQ _ _ _ _ _ h) (Or.inl ⟨by rfl, ?hy⟩) HS.out ?_
  case hy => (intro w9 hSw; obtain ⟨q1, q2⟩ := hSw; go_simp; try with_reducible rfl)
  try simp only [Act.put, List.setIfInBounds_toArray, List.set_cons_zero, List.set_cons_succ]
  refine lates_take (i := 3) (oi := { dst := some 32, op := Go.Op.load 22 (Go.Operand.tmp 31), type := 22, pos := "algebra.go:48", after := #[{ on := 2, ground := Go.Ground.data }], guard := none }) (v := ?_) rfl (by kernel_rfl) (by kernel_rfl) (by kernel_rfl) ⟨rfl, by kernel_rfl⟩ (fun _ _ _ h => hQ _ _ _ _ _ h) (Or.inl ⟨by rfl, ?hy⟩) HS.out ?_
  case hy => (intro w9 hSw; obtain ⟨q1, q2⟩ := hSw; go_simp; try with_reducible rfl)
  try simp only [Act.put, List.setIfInBounds_toArray, List.set_cons_zero, List.set_cons_succ]
  refine lates_take (i := 4) (oi := { dst := some 33, op := Go.Op.move (Go.Operand.tmp 2), type := 3, pos := "algebra.go:48", after := #[], guard := none }) (v := ?_) rfl (by kernel_rfl) (by kernel_rfl) (by kernel_rfl) ⟨rfl, by kernel_rfl⟩ (fun _ _ _ h => hQ _ _ _ _ _ h) (Or.inl ⟨by rfl, ?hy⟩) HS.out ?_
  case hy => (intro w9 hSw; obtain ⟨q1, q2⟩ := hSw; go_simp; try with_reducible rfl)
  try simp only [Act.put, List.setIfInBounds_toArray, List.set_cons_zero, List.set_cons_succ]
  refine lates_take (i := 5) (oi := { dst := some 34, op := Go.Op.move (Go.Operand.tmp 0), type := 43, pos := "algebra.go:48", after := #[], guard := none }) (v := ?_) rfl (by kernel_rfl) (by kernel_rfl) (by kernel_rfl) ⟨rfl, by kernel_rfl⟩ (fun _ _ _ h => hQ _ _ _ _ _ h) (Or.inl ⟨by rfl, ?hy⟩) HS.out ?_
  case hy => (intro w9 hSw; obtain ⟨q1, q2⟩ := hSw; go_simp; try with_reducible rfl)
  try simp only [Act.put, List.setIfInBounds_toArray, List.set_cons_zero, List.set_cons_succ]
  refine lates_take (i := 6) (oi := { dst := some 35, op := Go.Op.nilCheck (Go.Operand.tmp 34), type := 0, pos := "algebra.go:48", after := #[{ on := 5, ground := Go.Ground.data }], guard := none }) (v := ?_) rfl (by kernel_rfl) (by kernel_rfl) (by kernel_rfl) ⟨rfl, by kernel_rfl⟩ (fun _ _ _ h => hQ _ _ _ _ _ h) (Or.inl ⟨by rfl, ?hy⟩) HS.out ?_
  case hy => (intro w9 hSw; obtain ⟨q1, q2⟩ := hSw; go_simp; try with_reducible rfl)
  try simp only [Act.put, List.setIfInBounds_toArray, List.set_cons_zero, List.set_cons_succ]
  refine lates_take (i := 7) (oi := { dst := some 36, op := Go.Op.fieldAddr 73 (Go.Operand.tmp 35) 2, type := 0, pos := "algebra.go:48", after := #[{ on := 6, ground := Go.Ground.data }], guard := none }) (v := ?_) rfl (by kernel_rfl) (by kernel_rfl) (by kernel_rfl) ⟨rfl, by kernel_rfl⟩ (fun _ _ _ h => hQ _ _ _ _ _ h) (Or.inl ⟨by rfl, ?hy⟩) HS.out ?_
  case hy => (intro w9 hSw; obtain ⟨q1, q2⟩ := hSw; go_simp; try with_reducible rfl)
  try simp only [Act.put, List.setIfInBounds_toArray, List.set_cons_zero, List.set_cons_succ]
  refine lates_take (i := 8) (oi := { dst := some 37, op := Go.Op.load 22 (Go.Operand.tmp 36), type := 22, pos := "algebra.go:48", after := #[{ on := 7, ground := Go.Ground.data }], guard := none }) (v := ?_) rfl (by kernel_rfl) (by kernel_rfl) (by kernel_rfl) ⟨rfl, by kernel_rfl⟩ (fun _ _ _ h => hQ _ _ _ _ _ h) (Or.inl ⟨by rfl, ?hy⟩) HS.out ?_
  case hy => (intro w9 hSw; obtain ⟨q1, q2⟩ := hSw; go_simp; try with_reducible rfl)
  try simp only [Act.put, List.setIfInBounds_toArray, List.set_cons_zero, List.set_cons_succ]
  refine lates_take (i := 9) (oi := { dst := some 38, op := Go.Op.move (Go.Operand.tmp 2), type := 3, pos := "algebra.go:48", after := #[], guard := none }) (v := ?_) rfl (by kernel_rfl) (by kernel_rfl) (by kernel_rfl) ⟨rfl, by kernel_rfl⟩ (fun _ _ _ h => hQ _ _ _ _ _ h) (Or.inl ⟨by rfl, ?hy⟩) HS.out ?_
  case hy => (intro w9 hSw; obtain ⟨q1, q2⟩ := hSw; go_simp; try with_reducible rfl)
  try simp only [Act.put, List.setIfInBounds_toArray, List.set_cons_zero, List.set_cons_succ]
  refine lates_take (i := 10) (oi := { dst := some 39, op := Go.Op.indexAddr 22 (Go.Operand.tmp 37) (Go.Operand.tmp 38), type := 0, pos := "algebra.go:48", after := #[{ on := 8, ground := Go.Ground.data }, { on := 9, ground := Go.Ground.data }], guard := none }) (v := ?_) rfl (by kernel_rfl) (by kernel_rfl) (by kernel_rfl) ⟨rfl, by kernel_rfl⟩ (fun _ _ _ h => hQ _ _ _ _ _ h) (Or.inl ⟨by rfl, ?hy⟩) HS.out ?_
  case hy => (intro w9 hSw; obtain ⟨q1, q2⟩ := hSw; go_simp; try with_reducible rfl)
  try simp only [Act.put, List.setIfInBounds_toArray, List.set_cons_zero, List.set_cons_succ]
  refine lates_take (i := 11) (oi := { dst := some 40, op := Go.Op.load 37 (Go.Operand.tmp 39), type := 37, pos := "algebra.go:48", after := #[{ on := 10, ground := Go.Ground.data }], guard := none }) (v := ?_) rfl (by kernel_rfl) (by kernel_rfl) (by kernel_rfl) ⟨rfl, by kernel_rfl⟩ (fun _ _ _ h => hQ _ _ _ _ _ h) (Or.inl ⟨by rfl, ?hy⟩) HS.out ?_
  case hy => (intro w9 hSw; obtain ⟨q1, q2⟩ := hSw; go_simp; try with_reducible rfl)
  try simp only [Act.put, List.setIfInBounds_toArray, List.set_cons_zero, List.set_cons_succ]
  refine lates_take (i := 12) (oi := { dst := some 41, op := Go.Op.move (Go.Operand.tmp 0), type := 43, pos := "algebra.go:48", after := #[], guard := none }) (v := ?_) rfl (by kernel_rfl) (by kernel_rfl) (by kernel_rfl) ⟨rfl, by kernel_rfl⟩ (fun _ _ _ h => hQ _ _ _ _ _ h) (Or.inl ⟨by rfl, ?hy⟩) HS.out ?_
  case hy => (intro w9 hSw; obtain ⟨q1, q2⟩ := hSw; go_simp; try with_reducible rfl)
  try simp only [Act.put, List.setIfInBounds_toArray, List.set_cons_zero, List.set_cons_succ]
  refine lates_take (i := 13) (oi := { dst := some 42, op := Go.Op.move (Go.Operand.tmp 2), type := 3, pos := "algebra.go:48", after := #[], guard := none }) (v := ?_) rfl (by kernel_rfl) (by kernel_rfl) (by kernel_rfl) ⟨rfl, by kernel_rfl⟩ (fun _ _ _ h => hQ _ _ _ _ _ h) (Or.inl ⟨by rfl, ?hy⟩) HS.out ?_
  case hy => (intro w9 hSw; obtain ⟨q1, q2⟩ := hSw; go_simp; try with_reducible rfl)
  try simp only [Act.put, List.setIfInBounds_toArray, List.set_cons_zero, List.set_cons_succ]
  refine lates_take (i := 14) (oi := { dst := some 43, op := Go.Op.move (Go.Operand.tmp 3), type := 3, pos := "algebra.go:48", after := #[], guard := none }) (v := ?_) rfl (by kernel_rfl) (by kernel_rfl) (by kernel_rfl) ⟨rfl, by kernel_rfl⟩ (fun _ _ _ h => hQ _ _ _ _ _ h) (Or.inl ⟨by rfl, ?hy⟩) HS.out ?_
  case hy => (intro w9 hSw; obtain ⟨q1, q2⟩ := hSw; go_simp; try with_reducible rfl)
  try simp only [Act.put, List.setIfInBounds_toArray, List.set_cons_zero, List.set_cons_succ]
  refine lates_ready (rs := [15]) (by kernel_rfl) (by simp) ?_
  refine AllLate.cons (o := { dst := some 44, op := Go.Op.call { callee := Go.Callee.value (Go.Operand.func 39), args := #[Go.Operand.tmp 41, Go.Operand.tmp 42, Go.Operand.tmp 43], argTypes := #[43, 3, 3] }, type := 3, pos := "algebra.go:48", after := #[{ on := 12, ground := Go.Ground.data }, { on := 13, ground := Go.Ground.data }, { on := 14, ground := Go.Ground.data }], guard := none }) rfl (fun K hK => ?_) ?_
  · go_simp
    refine (HC.out _ HTW.out).mono ?_
    rintro e w2 ⟨rfl, hb2⟩
    have HT2 : Hid (One wa A T H n x Rr f v y w2) := HTW.out.step hb2
    refine hK.out _ _ (fun _ => ?_) ?_
    · exact LS.of HT2.out hx
    have HS : Hid (LS A T n x v w2) := LS.of HT2.out hx
    clear hK K
    try simp only [Act.put, List.setIfInBounds_toArray, List.set_cons_zero, List.set_cons_succ]
    refine lates_ready (rs := [16]) (by kernel_rfl) (by simp) ?_
    refine AllLate.cons (o := { dst := some 45, op := Go.Op.buildSlice 37 1 #[(0, Go.Operand.tmp 44)], type := 37, pos := "algebra.go:48", after := #[{ on := 15, ground := Go.Ground.data }], guard := none }) rfl (fun K hK => ?_) ?_
    · go_simp
      have HT3 : Hid (One wa A T H n x Rr f v y (w2.alloc (.cells #[.int .i64 (f x y : Nat)] 3))) := HT2.out.step ((Below.refl _ _).alloc (Nat.le_refl _) _)
      have hcell : (w2.alloc (.cells #[.int .i64 (f x y : Nat)] 3)).cell? ⟨w2.heap.size, 0, none⟩ = some (.int .i64 (f x y : Nat)) := by simp
      refine hK.out _ _ (fun _ => ?_) ?_
      · exact LS.of HT3.out hx
      have HS : Hid (LS A T n x v (w2.alloc (.cells #[.int .i64 (f x y : Nat)] 3))) := LS.of HT3.out hx
      clear hK K
      try simp only [Act.put, List.setIfInBounds_toArray, List.set_cons_zero, List.set_cons_succ]
      refine lates_ready (rs := [17]) (by kernel_rfl) (by simp) ?_
      refine AllLate.cons (o := { dst := some 46, op := Go.Op.call { callee := Go.Callee.builtin Go.Builtin.append, args := #[Go.Operand.tmp 40, Go.Operand.tmp 45], argTypes := #[37, 37] }, type := 37, pos := "algebra.go:48", after := #[{ on := 11, ground := Go.Ground.data }, { on := 16, ground := Go.Ground.data }, { on := 15, ground := Go.Ground.chain }], guard := none }) rfl (fun K hK => ?_) ?_
      · rw [if_pos (by rfl)]
        refine wp_grow _ _ _ rfl H v y _ rfl HT3.out.r w2.heap.size _ rfl hcell (by omega) HT3.out.hs ?_
        intro v' w4 hown' hgrow' hblk'
        obtain ⟨b4, cp4, rfl⟩ := owns_form hown' (Nat.succ_pos _)
        have hB4 := HT3.out.below hgrow'
        refine hK.out _ _ (fun _ => ?_) ?_
        · exact LS.keepB HT3.out hB4 (LS.of HT3.out hx)
        have HS : Hid (LS A T n x v w4) := LS.keepB HT3.out hB4 (LS.of HT3.out hx)
        have c4 := HS.out.2
        have f4 := (HT3.out.o.keep hB4 HT3.out.th x hx).2
        clear hK K
        try simp only [Act.put, List.setIfInBounds_toArray, List.set_cons_zero, List.set_cons_succ]
        refine lates_take (i := 18) (oi := { dst := some 47, op := Go.Op.indexAddr 22 (Go.Operand.tmp 32) (Go.Operand.tmp 33), type := 0, pos := "algebra.go:48", after := #[{ on := 3, ground := Go.Ground.data }, { on := 4, ground := Go.Ground.data }, { on := 0, ground := Go.Ground.phase }, { on := 1, ground := Go.Ground.phase }, { on := 2, ground := Go.Ground.phase }, { on := 3, ground := Go.Ground.phase }, { on := 4, ground := Go.Ground.phase }, { on := 5, ground := Go.Ground.phase }, { on := 6, ground := Go.Ground.phase }, { on := 7, ground := Go.Ground.phase }, { on := 8, ground := Go.Ground.phase }, { on := 9, ground := Go.Ground.phase }, { on := 10, ground := Go.Ground.phase }, { on := 11, ground := Go.Ground.phase }, { on := 12, ground := Go.Ground.phase }, { on := 13, ground := Go.Ground.phase }, { on := 14, ground := Go.Ground.phase }, { on := 15, ground := Go.Ground.phase }, { on := 16, ground := Go.Ground.phase }, { on := 17, ground := Go.Ground.phase }], guard := none }) (v := ?_) rfl (by kernel_rfl) (by kernel_rfl) (by kernel_rfl) ⟨rfl, by kernel_rfl⟩ (fun _ _ _ h => hQ _ _ _ _ _ h) (Or.inl ⟨by rfl, ?hy⟩) HS.out ?_
        case hy => (intro w9 hSw; obtain ⟨q1, q2⟩ := hSw; go_simp; try with_reducible rfl)
        try simp only [Act.put, List.setIfInBounds_toArray, List.set_cons_zero, List.set_cons_succ]
        refine lates_ready (rs := [19]) (by kernel_rfl) (by simp) ?_
        refine AllLate.cons (o := { dst := none, op := Go.Op.store 37 (Go.Operand.tmp 47) (Go.Operand.tmp 46), type := 0, pos := "algebra.go:48", after := #[{ on := 18, ground := Go.Ground.data }, { on := 17, ground := Go.Ground.data }, { on := 17, ground := Go.Ground.chain }, { on := 0, ground := Go.Ground.phase }, { on := 1, ground := Go.Ground.phase }, { on := 2, ground := Go.Ground.phase }, { on := 3, ground := Go.Ground.phase }, { on := 4, ground := Go.Ground.phase }, { on := 5, ground := Go.Ground.phase }, { on := 6, ground := Go.Ground.phase }, { on := 7, ground := Go.Ground.phase }, { on := 8, ground := Go.Ground.phase }, { on := 9, ground := Go.Ground.phase }, { on := 10, ground := Go.Ground.phase }, { on := 11, ground := Go.Ground.phase }, { on := 12, ground := Go.Ground.phase }, { on := 13, ground := Go.Ground.phase }, { on := 14, ground := Go.Ground.phase }, { on := 15, ground := Go.Ground.phase }, { on := 16, ground := Go.Ground.phase }, { on := 17, ground := Go.Ground.phase }], guard := none }) rfl (fun K hK => ?_) ?_
        · go_simp
          have HF : Hid (One wa A T H n x Rr f (.slice (some ⟨b4, 0, none⟩) (y + 1) cp4) (y + 1) (w4.setCell ⟨T, x, none⟩ (.slice (some ⟨b4, 0, none⟩) (y + 1) cp4))) := HT3.out.grow (.slice (some ⟨b4, 0, none⟩) (y + 1) cp4) hown' hgrow'
          refine hK.out _ _ (fun h => by cases h) ?_
          clear hK K
          try simp only [Act.put, List.setIfInBounds_toArray, List.set_cons_zero, List.set_cons_succ]
          refine lates_done (by kernel_rfl) ?_ _
          try simp only [Act.put, List.setIfInBounds_toArray, List.set_cons_zero, List.set_cons_succ]
          exact hk _ _ HF.out _ _ _ _ _ _ _ _ _ _ _ _ _ _ _ _ _ _ _
        exact AllLate.nil
      exact AllLate.nil
    exact AllLate.nil
  exact AllLate.nil
end Go.Proofs.Ytfkkjebgccnlnaa
