/-
  Lists of pairs as slices: what is owned, what SamePairs answers of two slices of one list. Conditions: as each theorem says.
  What concept.checkSet, Marks, Things, Concepts and Next answer, whatever they are handed. No condition but that a slice reads as a slice of numbers.
-/
import Derived.Test.YthhnngmfbbljaaaGreatBuild
import Derived.Laws.StructEq
import Derived.Test.YthhnngmfbbljaaaGreatConC
namespace Go.Proofs.YthhnngmfbbljaaaGreat
set_option maxRecDepth 100000
open Go.RowKit

theorem Tryz.info59 : (Tryz.prog.info? 59).map (fun i => (i.zero, i.size, i.bytes)) = some (some (.agg #[.int .i64 0, .int .i64 0]), 2, 16) := by kernel_rfl

def pairVals : List (Nat × Nat) → List Value
  | [] => []
  | p :: l => .int .i64 (p.1 : Nat) :: .int .i64 (p.2 : Nat) :: pairVals l
theorem pairVals_append : ∀ l m, pairVals (l ++ m) = pairVals l ++ pairVals m
  | [], _ => rfl
  | p :: l, m => by simp [pairVals, pairVals_append l m]
def pairAt (l : List (Nat × Nat)) (k : Nat) : Int × Int := (((l.getD k (0, 0)).1 : Nat), ((l.getD k (0, 0)).2 : Nat))
theorem pairVals_at : ∀ (l : List (Nat × Nat)) (k : Nat), k < l.length → (pairVals l)[k * 2]? = some (.int .i64 (pairAt l k).1) ∧ (pairVals l)[k * 2 + 1]? = some (.int .i64 (pairAt l k).2)
  | [], k, h => absurd h (Nat.not_lt_zero _)
  | p :: l, 0, _ => ⟨rfl, rfl⟩
  | p :: l, k + 1, h => by
    have ih := pairVals_at l k (by simpa using h)
    have e1 : (k + 1) * 2 = k * 2 + 1 + 1 := by omega
    rw [e1]
    simp only [pairVals, List.getElem?_cons_succ]
    exact ih

def rowPairs (C : Nat → Nat → Bool) (x : Nat) : Nat → List (Nat × Nat)
  | 0 => []
  | k + 1 => if C x k = true then rowPairs C x k ++ [(x, k)] else rowPairs C x k
def allPairs (C : Nat → Nat → Bool) (n : Nat) : Nat → List (Nat × Nat)
  | 0 => []
  | x + 1 => allPairs C n x ++ rowPairs C x n
theorem rowPairs_yes {C : Nat → Nat → Bool} {x k : Nat} (h : C x k = true) : rowPairs C x (k + 1) = rowPairs C x k ++ [(x, k)] := by simp [rowPairs, h]
theorem rowPairs_no {C : Nat → Nat → Bool} {x k : Nat} (h : C x k = false) : rowPairs C x (k + 1) = rowPairs C x k := by simp [rowPairs, h]
theorem rowPairs_len (C : Nat → Nat → Bool) (x : Nat) : ∀ k, (rowPairs C x k).length ≤ k
  | 0 => by simp [rowPairs]
  | k + 1 => by
    have ih := rowPairs_len C x k
    cases h : C x k
    · rw [rowPairs_no h]; omega
    · rw [rowPairs_yes h, List.length_append]; simp; exact ih
theorem allPairs_len (C : Nat → Nat → Bool) (n : Nat) (hn : n ≤ 10) : ∀ x, (allPairs C n x).length ≤ x * 10
  | 0 => by simp [allPairs]
  | x + 1 => by
    have ih := allPairs_len C n hn x
    have := rowPairs_len C x n
    rw [allPairs, List.length_append]; omega
theorem rowPairs_congr {C D : Nat → Nat → Bool} {x : Nat} : ∀ k, (∀ y, y < k → C x y = D x y) → rowPairs C x k = rowPairs D x k
  | 0, _ => rfl
  | k + 1, h => by
    have ih := rowPairs_congr k (fun y hy => h y (by omega))
    simp only [rowPairs, h k (by omega), ih]
theorem allPairs_congr {C D : Nat → Nat → Bool} {n : Nat} : ∀ x, (∀ z y, z < x → y < n → C z y = D z y) → allPairs C n x = allPairs D n x
  | 0, _ => rfl
  | x + 1, h => by
    rw [allPairs, allPairs, allPairs_congr x (fun z y hz hy => h z y (by omega) hy), rowPairs_congr n (fun y hy => h x y (by omega) hy)]

/-- A value that is a slice of the pairs l. -/
def PSl (w : World) (v : Value) (l : List (Nat × Nat)) : Prop := ∃ a cap, v = .slice a l.length cap ∧ PRow w a l.length (pairAt l)
theorem PSl.below {w w' : World} {v : Value} {l : List (Nat × Nat)} (h : PSl w v l) (hb : Below w.heap.size w w') : PSl w' v l := by
  obtain ⟨a, cap, rfl, hr⟩ := h
  exact ⟨a, cap, rfl, hr.below hb⟩
theorem owns_pairs {w : World} {base : Nat} {v : Value} {l : List (Nat × Nat)} (h : w.ownsRow base 59 2 v l.length (pairVals l)) : PSl w v l := by
  by_cases hn : 0 < l.length
  · obtain ⟨g, cap, rfl⟩ := owns_form h hn
    refine ⟨_, cap, rfl, fun k hk => ⟨g, 0, rfl, ?_, ?_⟩⟩
    · rw [Nat.zero_add, h.cellAt _ (by omega)]; exact (pairVals_at l k hk).1
    · rw [Nat.zero_add, h.cellAt _ (by omega)]; exact (pairVals_at l k hk).2
  · have h0 : l.length = 0 := by omega
    rcases h.2 with ⟨rfl, _⟩ | ⟨g, cap, cur, rfl, _⟩
    · exact ⟨none, 0, by rw [h0], fun k hk => absurd (Nat.lt_of_le_of_lt (Nat.zero_le _) hk) hn⟩
    · exact ⟨_, cap, rfl, fun k hk => absurd (Nat.lt_of_le_of_lt (Nat.zero_le _) hk) hn⟩

theorem eqIn_pair (d : Nat) (x y : Int) (w : World) : (Op.equalIn (d + 2) 59 (.agg #[.int .i64 x, .int .i64 y]) (.agg #[.int .i64 x, .int .i64 y])).run Tryz.prog w = .ok true w := by
  have hP2 : Tryz.prog.underlying 59 = some (.array 2 3) := Tryz.underlying59
  have h3 : Tryz.prog.underlying 3 = some (.int .i64) := Tryz.underlying3
  obtain ⟨i0, hi, _, hz1, _⟩ := info_parts Tryz.info3
  have hd : (d + 2) = (d + 1) + 1 := rfl
  rw [hd, Op.equalIn]
  simp only [Sem.run_bind, run_underlying hP2, Result.andThen_ok]
  simp [sizeOf, typeInfo, hi, hz1, Std.Legacy.Range.forIn_eq_forIn_range', show List.range' 0 2 = [0, 1] from rfl, part, isAgg, Op.equalIn, run_underlying h3]
theorem neq_pair (x y : Int) (w : World) : (binOp .neq 59 (.agg #[.int .i64 x, .int .i64 y]) (.agg #[.int .i64 x, .int .i64 y])).run Tryz.prog w = .ok (.bool false) w := by
  simp only [binOp]
  simp [Op.equal, Op.maxDepth, eqIn_pair 9998]

theorem samePairs_any (v v' : Value) (l : List (Nat × Nat)) (w : World) (hl : l.length ≤ 100000) (ha : PSl w v l) (hb : PSl w v' l) :
    Calls Tryz.prog 28 #[v, v'] w fun e w' => e = .returned (.bool true) ∧ Below w.heap.size w w' := by
  obtain ⟨a, ca, rfl, hA⟩ := ha
  obtain ⟨b, cb, rfl, hB⟩ := hb
  generalize l.length = n at *
  generalize pairAt l = p at *
  have HA : Hid (PRow w a n p) := hA
  have HB : Hid (PRow w b n p) := hB
  clear hA hB
  have hneq := neq_pair
  go_enter Tryz.func28, Tryz.ntmps28
  go_wp2
  go_loopw [5] (fun i wx => ∃ k : Nat, k ≤ n ∧ i = .int .i64 k ∧ Hid (PRow wx a n p) ∧ Hid (PRow wx b n p) ∧ Hid (Below w.heap.size w wx)) (fun i _ => n - (intOf i).toNat)
  case atStart => exact ⟨0, Nat.zero_le _, rfl, HA.out, HB.out, Below.refl _ _⟩
  case round =>
    obtain ⟨k, hk, rfl, hA, hB, hW⟩ := hrel
    clear HA HB
    by_cases hlt : k < n
    · obtain ⟨b1, o1, rfl, d1, d2⟩ := hA.out k hlt
      obtain ⟨b2, o2, rfl, d3, d4⟩ := hB.out k hlt
      have hlt' : (k : Int) < (n : Int) := by omega
      go_wp2
      go_quiet (fail)
      go_wp2
      go_roundw
      case rel => exact ⟨k + 1, by omega, by go_num, hA.out, hB.out, below_drewN hW.out _⟩
      case measure => simp [intOf]; omega
    · have hkn : k = n := by omega
      subst hkn
      go_wp2
      go_ret
      exact ⟨rfl, hW.out⟩
end Go.Proofs.YthhnngmfbbljaaaGreat
namespace Go.Proofs.YthhnngmfbbljaaaGreat
set_option maxRecDepth 100000
open Go.RowKit

/-- What checkSet must answer of a context and a set of N. -/
def SChk (L R N : Int) (len : Nat) (f : Nat → Int) (S : Int) (c : Int) : Prop :=
  (c ≠ 0 ∧ GChk L R len f c) ∨ (GChk L R len f 0 ∧ ∃ k : Nat, N = k ∧ k ≤ 10 ∧ ((c = 3 ∧ ¬ (0 ≤ S ∧ S < (pw k : Nat))) ∨ (c = 0 ∧ 0 ≤ S ∧ S < (pw k : Nat))))
theorem SChk.unique {L R N : Int} {len : Nat} {f : Nat → Int} {S c c' : Int} (h : SChk L R N len f S c) (h' : SChk L R N len f S c') : c = c' := by
  rcases h with ⟨h0, h⟩ | ⟨h, k, rfl, hk, h2⟩
  · rcases h' with ⟨_, h'⟩ | ⟨h', _⟩
    · exact GChk.unique h h'
    · exact absurd (GChk.unique h h') h0
  · rcases h' with ⟨h0, h'⟩ | ⟨_, k', e, _, h2'⟩
    · exact absurd (GChk.unique h' h) h0
    · obtain rfl : k' = k := by omega
      rcases h2 with ⟨rfl, h2⟩ | ⟨rfl, h2⟩ <;> rcases h2' with ⟨rfl, h2'⟩ | ⟨rfl, h2'⟩ <;> first | rfl | (exact absurd h2 h2') | (exact absurd h2' h2)
theorem GRng.row {l r : Nat} {f : Nat → Int} {w : World} {a : Option Addr} (hr : GRng l r f) (h : Row w a l f) : Row w a l (fun k => (nat f k : Nat)) := fun k hk => by
  obtain ⟨b, off, e, hc⟩ := h k hk
  refine ⟨b, off, e, ?_⟩
  have := hr k hk
  rw [hc]
  show some (Value.int .i64 (f k)) = some (Value.int .i64 ((f k).toNat : Int))
  congr 2; omega
theorem GRng.small {l r : Nat} {f : Nat → Int} (hr : GRng l r f) : ∀ k, k < l → nat f k < pw r := fun k hk => by have := hr k hk; unfold nat; omega
theorem GRng.small2 {l r : Nat} {f : Nat → Int} (hr : GRng l r f) (h : r ≤ 10) : ∀ k, k < l → nat f k < 1024 := fun k hk => Nat.lt_of_lt_of_le (hr.small k hk) (pw_le r h)

theorem checkSet_any (L R N : Int) (a : Option Addr) (len cap : Nat) (f : Nat → Int) (S : Int) (w : World) (hl : len ≤ maxLen) (hr : Row w a len f) (hN : GChk L R len f 0 → ∃ k : Nat, N = k ∧ k ≤ 10) :
    Calls Tryz.prog 54 #[.agg #[.int .i64 L, .int .i64 R, .slice a len cap], .int .i64 S, .int .i64 N] w fun e w' => (∃ c : Int, e = .returned (.int .i64 c) ∧ SChk L R N len f S c) ∧ Below w.heap.size w w' := by
  have K0 : GHeld (w.alloc (.cells #[.int .i64 L, .int .i64 R, .slice a len cap] 29)) w.heap.size L R a len cap f := GHeld.box hr
  have HB0 : Hid (Below w.heap.size w (w.alloc (.cells #[.int .i64 L, .int .i64 R, .slice a len cap] 29))) := (Below.refl _ _).alloc (Nat.le_refl _) _
  have HN : Hid (GChk L R len f 0 → ∃ k : Nat, N = k ∧ k ≤ 10) := hN
  clear hr hN
  go_enter Tryz.func54, Tryz.ntmps54
  go_wp2_with fail
  refine (ccheck_any L R a len cap f _ hl K0.row).mono ?_
  rintro e w1 ⟨⟨c, rfl, hc⟩, hb⟩
  have HB1 : Hid (Below w.heap.size w w1) := Below.then HB0.out hb
  clear hb K0 HB0
  by_cases h0 : c = 0
  · subst h0
    obtain ⟨k, rfl, hk⟩ := HN.out hc
    have HC : Hid (GChk L R len f 0) := hc
    clear hc HN
    by_cases hs : 0 ≤ S ∧ S < (pw k : Nat)
    · have hsd : sts S k = true := by simpa [sts] using hs
      have HS : Hid (0 ≤ S ∧ S < (pw k : Nat)) := hs; clear hs
      go_wp2_with (go_at_call 51; refine (isSet_any _ _ _ hk).mono ?_; rintro e w' ⟨rfl, rfl⟩)
      go_ret
      exact ⟨⟨_, rfl, .inr ⟨HC.out, k, rfl, hk, .inr ⟨rfl, HS.out⟩⟩⟩, HB1.out⟩
    · have hsd : sts S k = false := by simpa [sts] using hs
      have HS : Hid (¬ (0 ≤ S ∧ S < (pw k : Nat))) := hs; clear hs
      go_wp2_with (go_at_call 51; refine (isSet_any _ _ _ hk).mono ?_; rintro e w' ⟨rfl, rfl⟩)
      go_ret
      exact ⟨⟨_, rfl, .inr ⟨HC.out, k, rfl, hk, .inl ⟨rfl, HS.out⟩⟩⟩, HB1.out⟩
  · have hne : (c != 0) = true := by simpa using h0
    have HC : Hid (GChk L R len f c) := hc
    clear hc HN
    go_wp2_with fail
    go_ret
    exact ⟨⟨_, rfl, .inl ⟨h0, HC.out⟩⟩, HB1.out⟩

theorem good_L {L R : Int} {len : Nat} {f : Nat → Int} (h : GChk L R len f 0) : ∃ k : Nat, L = k ∧ k ≤ 10 := by
  obtain ⟨r, e, _, h1, _⟩ := h.good
  exact ⟨len, e, h1⟩
theorem good_R {L R : Int} {len : Nat} {f : Nat → Int} (h : GChk L R len f 0) : ∃ k : Nat, R = k ∧ k ≤ 10 := by
  obtain ⟨r, _, e, _, h1, _⟩ := h.good
  exact ⟨r, e, h1⟩
/-- A number beside an errno: what F says of a good context and set. -/
def NumIs (L R N : Int) (len : Nat) (f : Nat → Int) (S : Int) (F : Nat → Nat → Nat → Nat → Prop) (e : Ending) : Prop :=
  (∃ c : Int, c ≠ 0 ∧ SChk L R N len f S c ∧ e = .returned (.tuple #[.int .i64 0, .int .i64 c])) ∨
  (∃ r s x : Nat, L = (len : Int) ∧ R = (r : Int) ∧ len ≤ 10 ∧ r ≤ 10 ∧ GRng len r f ∧ S = (s : Int) ∧ s < 1024 ∧ SChk L R N len f S 0 ∧ F len r s x ∧ e = .returned (.tuple #[.int .i64 (x : Nat), .int .i64 0]))

/-- What Next must answer. -/
def NextIs (L R : Int) (len : Nat) (f : Nat → Int) (S : Int) (e : Ending) : Prop :=
  (∃ c : Int, c ≠ 0 ∧ SChk L R R len f S c ∧ e = .returned (.tuple #[.int .i64 0, .int .i64 c])) ∨
  (∃ r s : Nat, L = (len : Int) ∧ R = (r : Int) ∧ len ≤ 10 ∧ r ≤ 10 ∧ GRng len r f ∧ S = (s : Int) ∧ s < pw r ∧ SChk L R R len f S 0 ∧
    ((nxt (clm (nat f) len r) s r = none ∧ e = .returned (.tuple #[.int .i64 0, .int .i64 5])) ∨ ∃ x, nxt (clm (nat f) len r) s r = some x ∧ e = .returned (.tuple #[.int .i64 (x : Nat), .int .i64 0])))
set_option maxHeartbeats 4000000 in
theorem next_any (L R : Int) (a : Option Addr) (len cap : Nat) (f : Nat → Int) (S : Int) (w : World) (hl : len ≤ maxLen) (hr : Row w a len f) :
    Calls Tryz.prog 27 #[.agg #[.int .i64 L, .int .i64 R, .slice a len cap], .int .i64 S] w fun e w' => NextIs L R len f S e ∧ Below w.heap.size w w' := by
  have K0 : GHeld (w.alloc (.cells #[.int .i64 L, .int .i64 R, .slice a len cap] 29)) w.heap.size L R a len cap f := GHeld.box hr
  have HB0 : Hid (Below w.heap.size w (w.alloc (.cells #[.int .i64 L, .int .i64 R, .slice a len cap] 29))) := (Below.refl _ _).alloc (Nat.le_refl _) _
  clear hr
  go_enter Tryz.func27, Tryz.ntmps27
  go_wp2_with fail
  refine (checkSet_any L R R a len cap f S _ hl K0.row good_R).mono ?_
  rintro e W ⟨⟨c, rfl, hc⟩, hb⟩
  have K1 := K0.step hb
  have HB1 : Hid (Below w.heap.size w W) := Below.then HB0.out hb
  clear hb K0 HB0
  by_cases h0 : c = 0
  · subst h0
    have HC : Hid (SChk L R R len f S 0) := hc
    rcases hc with ⟨h, _⟩ | ⟨hg, k, e1, hk, ⟨h, _⟩ | ⟨_, hs0, hs1⟩⟩
    · exact absurd rfl h
    · cases h
    obtain ⟨r, rfl, rfl, h10, r10, hrng⟩ := hg.good
    obtain rfl : r = k := by omega
    obtain ⟨s, rfl⟩ := Int.eq_ofNat_of_zero_le hs0
    have hs : s < 1024 := by have := pw_le r r10; omega
    have hsp : s < pw r := by omega
    have HRG : Hid (GRng len r f) := hrng
    have HG : Hid (∀ k, k < len → nat f k < 1024) := hrng.small2 r10
    have HCLT : Hid (∀ x, clm (nat f) len r x < 1024) := fun x => Nat.lt_of_lt_of_le (clm_lt _ _ _ _) (pw_le r r10)
    have l0 : ∀ w', Below W.heap.size W w' → w'.cell? ⟨w.heap.size, 0, none⟩ = some (.int .i64 (len : Int)) := fun w' h => (K1.step h).c0
    have l1 : ∀ w', Below W.heap.size W w' → w'.cell? ⟨w.heap.size, 1, none⟩ = some (.int .i64 (r : Int)) := fun w' h => (K1.step h).c1
    have l2 : ∀ w', Below W.heap.size W w' → w'.cell? ⟨w.heap.size, 2, none⟩ = some (.slice a len cap) := fun w' h => (K1.step h).c2
    have HR : Hid (∀ w', Below W.heap.size W w' → Row w' a len (fun k => (nat f k : Nat))) := fun w' h => hrng.row (K1.step h).row
    have KK : Below W.heap.size W W.drew := (Below.refl _ _).drew
    clear hrng hg K1 hs0 hs1 e1
    go_wp2_with fail
    refine wp_region_held_drew (S := (fun w' => Below W.heap.size W w')) (by kernel_rfl) (KK) (fun hHeld => ?_)
    refine wpAnyH_take (i := 0) (oi := { dst := some 18, op := Go.Op.fieldAddr 29 (Go.Operand.tmp 2) 1, type := 0, pos := "concept.go:67", after := #[], guard := none }) (v := ?_) rfl (by kernel_rfl) (by kernel_rfl) (by kernel_rfl) (fun _ _ _ h => h) (Or.inl ⟨by rfl, ?hy⟩) (by assumption) ?_
    case hy => (intro w9 hSw; (try dsimp only at hSw); go_simp; try with_reducible rfl)
    try simp only [Act.put, List.setIfInBounds_toArray, List.set_cons_zero, List.set_cons_succ]
    refine wpAnyH_take (i := 1) (oi := { dst := some 19, op := Go.Op.load 3 (Go.Operand.tmp 18), type := 3, pos := "concept.go:67", after := #[{ on := 0, ground := Go.Ground.data }], guard := none }) (v := ?_) rfl (by kernel_rfl) (by kernel_rfl) (by kernel_rfl) (fun _ _ _ h => h) (Or.inl ⟨by rfl, ?hy⟩) (by assumption) ?_
    case hy => (intro w9 hSw; (try dsimp only at hSw); go_simp; try with_reducible rfl)
    try simp only [Act.put, List.setIfInBounds_toArray, List.set_cons_zero, List.set_cons_succ]
    refine wpAnyH_take (i := 2) (oi := { dst := some 20, op := Go.Op.move (Go.Operand.tmp 1), type := 3, pos := "concept.go:67", after := #[], guard := none }) (v := ?_) rfl (by kernel_rfl) (by kernel_rfl) (by kernel_rfl) (fun _ _ _ h => h) (Or.inl ⟨by rfl, ?hy⟩) (by assumption) ?_
    case hy => (intro w9 hSw; (try dsimp only at hSw); go_simp; try with_reducible rfl)
    try simp only [Act.put, List.setIfInBounds_toArray, List.set_cons_zero, List.set_cons_succ]
    refine wpAnyH_take (i := 3) (oi := { dst := some 21, op := Go.Op.load 29 (Go.Operand.tmp 2), type := 29, pos := "concept.go:67", after := #[], guard := none }) (v := ?_) rfl (by kernel_rfl) (by kernel_rfl) (by kernel_rfl) (fun _ _ _ h => h) (Or.inl ⟨by rfl, ?hy⟩) (by assumption) ?_
    case hy => (intro w9 hSw; (try dsimp only at hSw); go_simp; try with_reducible rfl)
    try simp only [Act.put, List.setIfInBounds_toArray, List.set_cons_zero, List.set_cons_succ]
    refine wpAnyH_ready (rs := [4]) (by kernel_rfl) (by simp) ?_
    refine AllReadyH.cons (o := { dst := some 22, op := Go.Op.call { callee := Go.Callee.value (Go.Operand.func 56), args := #[Go.Operand.tmp 21], argTypes := #[29] }, type := 65, pos := "concept.go:67", after := #[{ on := 3, ground := Go.Ground.data }], guard := none }) rfl (fun K hK => ?_) AllReadyH.nil
    go_simp
    refine (marksClosing_any len r a cap (nat f) _ h10 r10 HG.out (HR.out _ (by assumption))).mono ?_
    rintro e w2 ⟨rfl, hcl, hb2⟩
    have HCL2 : Hid (CloC _ _ (clm (nat f) len r) w2) := hcl
    clear hcl
    refine hK.out _ _ ?_ (fun hHeld => ?_)
    · first | assumption | exact Below.then (by assumption) (by assumption)
    clear hK K
    try simp only [Act.put, List.setIfInBounds_toArray, List.set_cons_zero, List.set_cons_succ]
    refine wpAnyH_ready (rs := [5]) (by kernel_rfl) (by simp) ?_
    refine AllReadyH.cons (o := { dst := some 23, op := Go.Op.call { callee := Go.Callee.value (Go.Operand.func 55), args := #[Go.Operand.tmp 19, Go.Operand.tmp 20, Go.Operand.tmp 22], argTypes := #[3, 3, 65] }, type := 85, pos := "concept.go:67", after := #[{ on := 1, ground := Go.Ground.data }, { on := 2, ground := Go.Ground.data }, { on := 4, ground := Go.Ground.data }, { on := 4, ground := Go.Ground.chain }], guard := none }) rfl (fun K hK => ?_) AllReadyH.nil
    go_simp
    refine (firstBehind_any r s _ _ (clm (nat f) len r) _ r10 hs ent_mc HCL2.out HCLT.out).mono ?_
    rintro e w3 ⟨rfl, hb3⟩
    obtain ⟨y, hy⟩ : ∃ y, y = nxt (clm (nat f) len r) s r := ⟨_, rfl⟩
    rw [← hy]
    unfold fbv
    have HY : Hid (y = nxt (clm (nat f) len r) s r) := hy
    clear hy
    refine hK.out _ _ ?_ (fun hHeld => ?_)
    · first | assumption | exact Below.then (by assumption) (by assumption)
    clear hK K
    try simp only [Act.put, List.setIfInBounds_toArray, List.set_cons_zero, List.set_cons_succ]
    refine wpAnyH_take (i := 6) (oi := { dst := some 17, op := Go.Op.move (Go.Operand.tmp 23), type := 85, pos := "concept.go:67", after := #[{ on := 5, ground := Go.Ground.data }], guard := none }) (v := ?_) rfl (by kernel_rfl) (by kernel_rfl) (by kernel_rfl) (fun _ _ _ h => h) (Or.inl ⟨by rfl, ?hy⟩) (by assumption) ?_
    case hy => (intro w9 hSw; (try dsimp only at hSw); go_simp; try with_reducible rfl)
    try simp only [Act.put, List.setIfInBounds_toArray, List.set_cons_zero, List.set_cons_succ]
    refine wpAnyH_take (i := 7) (oi := { dst := some 24, op := Go.Op.extract (Go.Operand.tmp 17) 0, type := 3, pos := "concept.go:67", after := #[{ on := 6, ground := Go.Ground.data }], guard := none }) (v := ?_) rfl (by kernel_rfl) (by kernel_rfl) (by kernel_rfl) (fun _ _ _ h => h) (Or.inl ⟨by rfl, ?hy⟩) (by assumption) ?_
    case hy => (intro w9 hSw; (try dsimp only at hSw); go_simp; try with_reducible rfl)
    try simp only [Act.put, List.setIfInBounds_toArray, List.set_cons_zero, List.set_cons_succ]
    refine wpAnyH_take (i := 8) (oi := { dst := some 25, op := Go.Op.extract (Go.Operand.tmp 17) 1, type := 4, pos := "concept.go:67", after := #[{ on := 6, ground := Go.Ground.data }, { on := 9, ground := Go.Ground.gcOnly Go.Departure.lateStores }], guard := none }) (v := ?_) rfl (by kernel_rfl) (by kernel_rfl) (by kernel_rfl) (fun _ _ _ h => h) (Or.inl ⟨by rfl, ?hy⟩) (by assumption) ?_
    case hy => (intro w9 hSw; (try dsimp only at hSw); go_simp; try with_reducible rfl)
    try simp only [Act.put, List.setIfInBounds_toArray, List.set_cons_zero, List.set_cons_succ]
    refine wpAnyH_take (i := 9) (oi := { dst := some 7, op := Go.Op.assign (Go.Operand.tmp 24), type := 3, pos := "concept.go:67", after := #[{ on := 7, ground := Go.Ground.data }, { on := 5, ground := Go.Ground.chain }, { on := 0, ground := Go.Ground.phase }, { on := 1, ground := Go.Ground.phase }, { on := 2, ground := Go.Ground.phase }, { on := 3, ground := Go.Ground.phase }, { on := 4, ground := Go.Ground.phase }, { on := 5, ground := Go.Ground.phase }, { on := 6, ground := Go.Ground.phase }, { on := 7, ground := Go.Ground.phase }, { on := 8, ground := Go.Ground.textOnly Go.Departure.lateStores }], guard := none }) (v := ?_) rfl (by kernel_rfl) (by kernel_rfl) (by kernel_rfl) (fun _ _ _ h => h) (Or.inl ⟨by rfl, ?hy⟩) (by assumption) ?_
    case hy => (intro w9 hSw; (try dsimp only at hSw); go_simp; try with_reducible rfl)
    try simp only [Act.put, List.setIfInBounds_toArray, List.set_cons_zero, List.set_cons_succ]
    refine wpAnyH_take (i := 10) (oi := { dst := some 8, op := Go.Op.assign (Go.Operand.tmp 25), type := 4, pos := "concept.go:67", after := #[{ on := 8, ground := Go.Ground.data }, { on := 9, ground := Go.Ground.chain }, { on := 0, ground := Go.Ground.phase }, { on := 1, ground := Go.Ground.phase }, { on := 2, ground := Go.Ground.phase }, { on := 3, ground := Go.Ground.phase }, { on := 4, ground := Go.Ground.phase }, { on := 5, ground := Go.Ground.phase }, { on := 6, ground := Go.Ground.phase }, { on := 7, ground := Go.Ground.phase }, { on := 8, ground := Go.Ground.phase }, { on := 9, ground := Go.Ground.phase }], guard := none }) (v := ?_) rfl (by kernel_rfl) (by kernel_rfl) (by kernel_rfl) (fun _ _ _ h => h) (Or.inl ⟨by rfl, ?hy⟩) (by assumption) ?_
    case hy => (intro w9 hSw; (try dsimp only at hSw); go_simp; try with_reducible rfl)
    try simp only [Act.put, List.setIfInBounds_toArray, List.set_cons_zero, List.set_cons_succ]
    refine wpAnyH_done (by kernel_rfl) ?_ _
    try simp only [Act.put, List.setIfInBounds_toArray, List.set_cons_zero, List.set_cons_succ]
    have hb8 : Below W.heap.size W w3 := by first | assumption | exact hHeld
    have HB8 : Hid (Below w.heap.size w w3) := Below.then HB1.out hb8
    clear hb8
    rcases y with _ | y
    · simp only [Option.getD_none, Option.isSome_none]
      go_wp2_with fail
      go_ret2
      exact ⟨.inr ⟨r, s, rfl, rfl, h10, r10, HRG.out, rfl, hsp, HC.out, .inl ⟨HY.out.symm, rfl⟩⟩, HB8.out⟩
    · simp only [Option.getD_some, Option.isSome_some]
      go_wp2_with fail
      go_ret2
      exact ⟨.inr ⟨r, s, rfl, rfl, h10, r10, HRG.out, rfl, hsp, HC.out, .inr ⟨y, HY.out.symm, rfl⟩⟩, HB8.out⟩
  · have hne : (c != 0) = true := by simpa using h0
    have HC : Hid (SChk L R R len f S c) := hc
    clear hc K1
    go_wp2_with fail
    go_ret2
    exact ⟨.inl ⟨c, h0, HC.out, rfl⟩, HB1.out⟩
end Go.Proofs.YthhnngmfbbljaaaGreat
