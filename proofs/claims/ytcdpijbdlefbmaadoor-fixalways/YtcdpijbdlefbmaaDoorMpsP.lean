/-
  Maps counted by their beginnings. No condition. No Go text here.
  What the reference's MapsFrom answers, by induction on the places that are open. Conditions: two orders of at most five points each; a beginning of a map.
-/
import Derived.Test.YtcdpijbdlefbmaaDoorGoOn
import Derived.Test.YtcdpijbdlefbmaaDoorRefMon
import Derived.Test.YtcdpijbdlefbmaaDoorLate
import Derived.Deep.RegionHeld3
import Derived.Maps.AppendAt
namespace Go.Proofs.YtcdpijbdlefbmaaDoor
open Go.RowKit

/-- Does no point go to itself? -/
def nofB (p : List Nat) : Bool := (List.range p.length).all fun i => !(nth p i == i)
theorem nofB_iff {p : List Nat} : nofB p = true ↔ ∀ i, i < p.length → nth p i ≠ i := by
  unfold nofB
  simp [List.all_eq_true, List.mem_range]
/-- How many of the maps that begin so, the last d places open, are as T says. -/
def fT (T : List Nat → Bool) (nb : Nat) : Nat → List Nat → Nat
  | 0, p => if T p = true then 1 else 0
  | d + 1, p => ((List.range nb).map fun x => fT T nb d (p ++ [x])).sum
def fTo (T : List Nat → Bool) (nb d : Nat) (p : List Nat) (k : Nat) : Nat := ((List.range k).map fun x => fT T nb d (p ++ [x])).sum
theorem fTo_succ (T : List Nat → Bool) (nb d : Nat) (p : List Nat) (k : Nat) : fTo T nb d p (k + 1) = fTo T nb d p k + fT T nb d (p ++ [k]) := by
  simp [fTo, List.range_succ, List.map_append]
theorem fT_le (T : List Nat → Bool) {nb : Nat} (hn : nb ≤ 5) : ∀ d p, fT T nb d p ≤ 5 ^ d
  | 0, p => by unfold fT; split <;> simp
  | d + 1, p => by
    have key : ∀ k, fTo T nb d p k ≤ k * 5 ^ d := fun k => by
      induction k with
      | zero => simp [fTo]
      | succ k ih =>
        rw [fTo_succ, Nat.succ_mul]
        have := fT_le T hn d (p ++ [k])
        omega
    have h1 := key nb
    have h2 : nb * 5 ^ d ≤ 5 * 5 ^ d := Nat.mul_le_mul_right _ hn
    have e : 5 ^ (d + 1) = 5 * 5 ^ d := by rw [Nat.pow_succ, Nat.mul_comm]
    rw [e]
    exact Nat.le_trans h1 h2
theorem fTo_le (T : List Nat → Bool) {nb : Nat} (hn : nb ≤ 5) (d : Nat) (p : List Nat) {k : Nat} (hk : k ≤ nb) : fTo T nb d p k ≤ 5 ^ (d + 1) := by
  have key : ∀ k, fTo T nb d p k ≤ k * 5 ^ d := fun k => by
    induction k with
    | zero => simp [fTo]
    | succ k ih =>
      rw [fTo_succ, Nat.succ_mul]
      have := fT_le T hn d (p ++ [k])
      omega
  have h1 := key k
  have h2 : k * 5 ^ d ≤ 5 * 5 ^ d := Nat.mul_le_mul_right _ (by omega)
  have e : 5 ^ (d + 1) = 5 * 5 ^ d := by rw [Nat.pow_succ, Nat.mul_comm]
  rw [e]
  exact Nat.le_trans h1 h2
theorem monB_init {P Q : Nat → Nat → Bool} {p : List Nat} {x : Nat} (h : monB P Q (p ++ [x]) = true) : monB P Q p = true := by
  rw [monB_iff] at *
  intro y hy z hz hp
  have := h y (by simp; omega) z (by simp; omega) hp
  rw [nth_snoc_old hy, nth_snoc_old hz] at this
  exact this
/-- Counted all, and counted by the beginnings that are monotone. -/
theorem fT_cmp {P Q : Nat → Nat → Bool} (N : List Nat → Bool) (nb : Nat) : ∀ d p, fT (fun p => monB P Q p && N p) nb d p = if monB P Q p = true then ((cmp P Q nb d p).filter N).length else 0
  | 0, p => by
    unfold fT cmp
    cases h : monB P Q p
    · simp
    · cases h2 : N p <;> simp [h2]
  | d + 1, p => by
    have key : ∀ k, fTo (fun p => monB P Q p && N p) nb d p k = ((cmpTo P Q nb d p k).filter N).length := fun k => by
      induction k with
      | zero => simp [fTo, cmpTo]
      | succ k ih =>
        rw [fTo_succ, ih, fT_cmp N nb d (p ++ [k])]
        cases h : monB P Q (p ++ [k])
        · rw [cmpTo_no h]; simp
        · rw [cmpTo_yes h, List.filter_append, List.length_append]; simp
    have e1 : fT (fun p => monB P Q p && N p) nb (d + 1) p = fTo (fun p => monB P Q p && N p) nb d p nb := rfl
    have e2 : cmp P Q nb (d + 1) p = cmpTo P Q nb d p nb := rfl
    rw [e1, e2, key nb]
    cases h : monB P Q p
    · simp only [Bool.false_eq_true, if_false]
      have : cmpTo P Q nb d p nb = [] := by
        unfold cmpTo
        rw [List.flatMap_eq_nil_iff]
        intro x _
        rw [if_neg]
        intro h2
        rw [monB_init h2] at h; cases h
      rw [this]; rfl
    · simp


theorem cell_farX {W : World} (o : Obj) {a : Addr} {v : Value} (h : W.cell? a = some v) : (W.alloc o).cell? a = some v := (World.cell?_alloc_lt _ _ _ (World.block_lt_of_cell? _ _ h)).trans h
theorem cell_newX (W : World) (v : Value) (T : TypeId) (b : Nat) (hb : b = W.heap.size) : (W.alloc (.cells #[v] T)).cell? ⟨b, 0, none⟩ = some v := by rw [hb]; simp
theorem owns_empty {base : Nat} (w : World) (hb : base ≤ w.heap.size) : (w.alloc (.cells #[] 3)).ownsRow base 3 1 (.slice (some ⟨w.heap.size, 0, none⟩) 0 0) 0 [] :=
  World.ownsRow_made w #[] 0 hb (Nat.zero_le _) rfl
/-- A list as it is handed on: nothing, or numbers in a row. -/
def Src (w : World) (v : Value) (p : List Nat) : Prop := (p = [] ∧ v = .slice none 0 0) ∨ (∃ b off c, v = .slice (some ⟨b, off, none⟩) p.length c ∧ Row w (some ⟨b, off, none⟩) p.length (fun k => (nth p k : Nat)))
theorem Src.step {w w' : World} {v : Value} {p : List Nat} (h : Src w v p) (hb : Below w.heap.size w w') : Src w' v p := by
  rcases h with h | ⟨b, off, c, e, hr⟩
  · exact .inl h
  · exact .inr ⟨b, off, c, e, hr.below hb⟩
theorem owns_src {w : World} {base : Nat} {v : Value} {p : List Nat} (hp : 0 < p.length) (h : w.ownsRow base 3 1 v p.length (natVals p)) : Src w v p := by
  obtain ⟨g, cap, rfl⟩ := owns_form h hp
  refine .inr ⟨g, 0, cap, rfl, fun k hk => ⟨g, 0, rfl, ?_⟩⟩
  rw [Nat.zero_add, h.cellAt _ (by omega)]; exact natVals_at p k hk
theorem owns_lowB {w : World} {base base' : Nat} {e : TypeId} {size : Nat} {v : Value} {n : Nat} {xs : List Value} (h : w.ownsRow base e size v n xs) (hb : base' ≤ base) : w.ownsRow base' e size v n xs := by
  refine ⟨h.1, ?_⟩
  rcases h.2 with h0 | ⟨g, cap, cur, h1, h2, h3⟩
  · exact .inl h0
  · exact .inr ⟨g, cap, cur, h1, by omega, h3⟩
theorem run_copy_none (t ty : TypeId) (i : TypeInfo) (ht : Tryd.prog.underlying t = some (.slice 3)) (hi : Tryd.prog.info? 3 = some i) (b : Nat) (w : World) :
    (Builtin.append_ #[t, t] ty #[.slice (some ⟨b, 0, none⟩) 0 0, .slice none 0 0]).run Tryd.prog w = .ok (.slice (some ⟨b, 0, none⟩) 0 0) w := by
  simp [Builtin.append_, run_underlying ht, Builtin.lenOf, Builtin.firstCells, sizeOf, typeInfo, hi, storeCells, Result.andThen]
theorem addr_flatX (b off j : Nat) : Addr.add ⟨b, off, none⟩ j = ⟨b, off + j, none⟩ := by
  cases j <;> simp [Addr.add]
theorem nat_cells {w : World} {b off : Nat} {p : List Nat} (h : Row w (some ⟨b, off, none⟩) p.length (fun k => (nth p k : Nat))) : ∀ j u, (natVals p)[j]? = some u → w.cell? ((⟨b, off, none⟩ : Addr).add j) = some u := fun j u hj => by
  have hlt : j < p.length := by
    have := List.getElem?_eq_some_iff.1 hj
    obtain ⟨h1, _⟩ := this
    simpa [natVals] using h1
  rw [natVals_at p j hlt] at hj
  cases hj
  obtain ⟨b', off', e, hc⟩ := h j hlt
  cases e
  rw [addr_flatX]; exact hc
theorem wp_copy {o : Oper} {a : Act} {K : Act → World → Prop} {Q : Exit → Act → World → Prop} (w : World) (s x : Operand)
    (ho : o.op = .call { callee := .builtin .append, args := #[s, x], argTypes := #[22, 22] }) (base e : Nat) {v : Value} {p : List Nat} (hs : a.eval s = .slice (some ⟨e, 0, none⟩) 0 0) (hown : w.ownsRow base 3 1 (.slice (some ⟨e, 0, none⟩) 0 0) 0 [])
    (hsrc : Src w v p) (hx : a.eval x = v) (hlen : p.length ≤ 5) (hbase : base ≤ w.heap.size)
    (h : ∀ v' w', w'.ownsRow base 3 1 v' p.length (natVals p) → w.grownBy w' (some e) → K (a.put o.dst v') w') : o.wp Tryd.prog a w K Q := by
  obtain ⟨i0, hi, hz0, hz1, hz2⟩ := info_parts Tryd.info3
  rcases hsrc with ⟨rfl, rfl⟩ | ⟨b, off, c, rfl, hr⟩
  · have hrun := run_copy_none 22 o.type i0 Tryd.underlying22 hi e w
    unfold Oper.wp execOp
    simp only [ho, resolve, invoke, builtin, Sem.run_bind, Sem.run_pure, Result.andThen_ok, List.map_toArray, List.map_cons, List.map_nil, hs, hx, hrun]
    exact h _ _ hown ⟨rfl, rfl, rfl, Nat.le_refl _, fun _ _ _ => rfl⟩
  · refine wp_append_own w s x 22 ho base 3 i0 (.int .i64 0) 1 8 Tryd.underlying22 hi hz0 hz1 hz2 rfl (by decide) _ 0 [] hs hown ⟨b, off, none⟩ p.length c (natVals p) hx (by simp [natVals]) (nat_cells hr) (fun u hu => by
      unfold natVals at hu
      obtain ⟨k, _, rfl⟩ := List.mem_map.1 hu
      rfl) (by unfold maxLen; omega) (by omega) hbase ?_
    intro v' w' h1 h2 _
    rw [Nat.zero_add, List.nil_append] at h1
    exact h v' w' h1 h2
theorem wp_grow {o : Oper} {a : Act} {K : Act → World → Prop} {Q : Exit → Act → World → Prop} (w : World) (s x : Operand)
    (ho : o.op = .call { callee := .builtin .append, args := #[s, x], argTypes := #[22, 22] }) (base : Nat) (v : Value) (n : Nat) (xs : List Value) (hs : a.eval s = v) (hown : w.ownsRow base 3 1 v n xs)
    (b : Nat) (u : Int) (hx : a.eval x = .slice (some ⟨b, 0, none⟩) 1 1) (hc : w.cell? ⟨b, 0, none⟩ = some (.int .i64 u)) (hlen : n ≤ 1000) (hbase : base ≤ w.heap.size)
    (h : ∀ v' w', w'.ownsRow base 3 1 v' (n + 1) (xs ++ [.int .i64 u]) → w.grownBy w' v.ownBlock → (v'.ownBlock = v.ownBlock ∨ v'.ownBlock = some w.heap.size) → K (a.put o.dst v') w') : o.wp Tryd.prog a w K Q := by
  obtain ⟨i0, hi, hz0, hz1, hz2⟩ := info_parts Tryd.info3
  obtain ⟨v', w', hr, h2, h3, _, h5⟩ := run_append_own_at (P := Tryd.prog) w base 22 o.type 3 i0 (.int .i64 0) 1 8 Tryd.underlying22 hi hz0 hz1 hz2 rfl (by decide) v n xs hown ⟨b, 0, none⟩ 1 1 [.int .i64 u] rfl (fun j q hj => by
    match j, hj with
    | 0, hj => simp at hj; subst hj; simpa [Addr.add] using hc) (fun q hq => by simp at hq; subst hq; rfl) (by unfold maxLen; omega) (by omega) hbase
  unfold Oper.wp execOp
  simp only [ho, resolve, invoke, builtin, Sem.run_bind, Sem.run_pure, Result.andThen_ok, List.map_toArray, List.map_cons, List.map_nil, hs, hx, hr]
  exact h v' w' h2 h3 h5
theorem pow5_le {d : Nat} (h : d ≤ 5) : 5 ^ d ≤ 3125 := Nat.le_trans (Nat.pow_le_pow_right (by decide) h) (by decide)
def T1 (P Q : Nat → Nat → Bool) (N : List Nat → Bool) (p : List Nat) : Bool := monB P Q p && N p
def yesL (_ : List Nat) : Bool := true

set_option maxRecDepth 100000 in
set_option maxHeartbeats 4000000 in
theorem mapsFrom_any (q q' : Nat) (a a' : Option Addr) (ca ca' : Nat) (g g' : Nat → Nat) (h5 : q ≤ 5) (h5' : q' ≤ 5) (hg : ∀ k, k < q → g k < 1024) (hg' : ∀ k, k < q' → g' k < 1024) :
    ∀ (d : Nat) (p : List Nat) (v : Value) (w : World), p.length + d = q → (∀ i, i < p.length → nth p i < q') → Row w a q (fun k => (g k : Nat)) → Row w a' q' (fun k => (g' k : Nat)) → Src w v p →
      Calls Tryd.prog 7 #[.agg #[.int .i64 (q : Nat), .slice a q ca], .agg #[.int .i64 (q' : Nat), .slice a' q' ca'], v] w fun e w' => e = .returned (.tuple #[.int .i64 (fT (T1 (upB g) (upB g') yesL) q' d p : Nat), .int .i64 (fT (T1 (upB g) (upB g') nofB) q' d p : Nat)]) ∧ Below w.heap.size w w' := by
  intro d
  induction d with
  | zero =>
    intro p v w hpd hpn hr1 hr2 hsrc
    obtain rfl : q = p.length := by omega
    obtain ⟨fa, fc, rfl, hrow⟩ : ∃ fa fc, v = .slice fa p.length fc ∧ Row w fa p.length (fun k => (nth p k : Nat)) := by
      rcases hsrc with ⟨rfl, rfl⟩ | ⟨b, off, c, rfl, hr⟩
      · exact ⟨none, 0, rfl, fun k hk => absurd hk (Nat.not_lt_zero _)⟩
      · exact ⟨_, c, rfl, hr⟩
    clear hsrc
    obtain ⟨W, HW⟩ : ∃ W, Hid (W = (w.alloc (.cells #[.int .i64 (p.length : Nat), .slice a p.length ca] 24)).alloc (.cells #[.int .i64 (q' : Nat), .slice a' q' ca'] 24)) := ⟨_, rfl⟩
    have hbW : Below w.heap.size w W := by rw [HW.out]; exact ((Below.refl _ _).alloc (Nat.le_refl _) _).alloc (by simp) _
    have HBW : Hid (Below w.heap.size w W) := hbW
    have xa : OB W w.heap.size (p.length : Nat) a p.length ca := by rw [HW.out]; exact two_a w ⟨(p.length : Nat), a, p.length, ca, fun _ => 0⟩ ⟨(q' : Nat), a', q', ca', fun _ => 0⟩
    have xb : OB W (w.heap.size + 1) (q' : Nat) a' q' ca' := by rw [HW.out]; exact two_b w ⟨(p.length : Nat), a, p.length, ca, fun _ => 0⟩ ⟨(q' : Nat), a', q', ca', fun _ => 0⟩
    have HMON : Hid (Calls Tryd.prog 15 #[.agg #[.int .i64 (p.length : Nat), .slice a p.length ca], .agg #[.int .i64 (q' : Nat), .slice a' q' ca'], .slice fa p.length fc] W fun e w' => e = .returned (.bool (monB (upB g) (upB g') p)) ∧ Below W.heap.size W w') :=
      (refMon_any p.length q' a a' fa ca ca' fc g g' (nth p) W (by omega) (by omega) hg hg' hpn (hr1.below hbW) (hr2.below hbW) (hrow.below hbW)).mono fun e w' ⟨⟨b, e1, hb⟩, hB⟩ => ⟨by
        rw [e1]
        have : b = monB (upB g) (upB g') p := by rw [Bool.eq_iff_iff, hb, monB_iff]
        rw [this], hB⟩
    have HR : Hid (∀ wx, Below W.heap.size W wx → Row wx fa p.length (fun k => (nth p k : Nat))) := fun wx h => (hrow.below hbW).below h
    obtain ⟨k0, k1⟩ := xa
    obtain ⟨k2, k3⟩ := xb
    clear hbW hr1 hr2 hrow hpn hg hg' hpd
    go_enter Tryd.func7, Tryd.ntmps7
    go_wp2_with fail
    rw [← HW.out]
    go_wp2_with fail
    refine (Calls.mono HMON.out) ?_
    rintro e w1 ⟨rfl, hb1⟩
    have HB1 : Hid (Below W.heap.size W w1) := hb1
    clear hb1 k0 k1 k2 k3 HW HMON
    cases hm : monB (upB g) (upB g') p
    · have HE : Hid (fT (T1 (upB g) (upB g') yesL) q' 0 p = 0 ∧ fT (T1 (upB g) (upB g') nofB) q' 0 p = 0) := by simp [fT, T1, hm, Hid]
      clear hm
      go_wp2_with fail
      go_ret2
      exact ⟨by rw [HE.out.1, HE.out.2]; rfl, Below.then HBW.out HB1.out⟩
    · have HM : Hid (monB (upB g) (upB g') p = true) := hm
      clear hm
      go_wp2_with fail
      go_loopw [8] (fun i wx => ∃ k : Nat, k ≤ p.length ∧ i = .int .i64 k ∧ wx = w1 ∧ Hid (∀ j, j < k → nth p j ≠ j)) (fun i _ => p.length - (intOf i).toNat)
      case atStart => exact ⟨0, Nat.zero_le _, rfl, rfl, upto_zero⟩
      case round =>
        obtain ⟨k, hk, rfl, rfl, HN⟩ := hrel
        by_cases hkl : k < p.length
        · obtain ⟨bf, off, rfl, hcc⟩ := (HR.out _ HB1.out).at hkl
          have hck := hcc k hkl
          have hlk : (k : Int) < (p.length : Int) := by omega
          clear hcc
          by_cases hfx : nth p k = k
          · have HE : Hid (fT (T1 (upB g) (upB g') yesL) q' 0 p = 1 ∧ fT (T1 (upB g) (upB g') nofB) q' 0 p = 0) := by
              have h1 := HM.out
              have h2 : nofB p = false := by
                cases h : nofB p
                · rfl
                · exact absurd hfx (nofB_iff.1 h k hkl)
              constructor
              · simp [fT, T1, h1, yesL]
              · simp [fT, T1, h2]
            have hfe : (((nth p k : Nat) : Int) == (k : Int)) = true := by simp; omega
            clear hfx
            generalize nth p k = Z at *
            go_wp2_with fail
            go_ret2
            exact ⟨by rw [HE.out.1, HE.out.2]; rfl, Below.then HBW.out HB1.out⟩
          · have HN2 : Hid (∀ j, j < k + 1 → nth p j ≠ j) := upto_succ HN.out hfx
            have hfe : (((nth p k : Nat) : Int) == (k : Int)) = false := by simp; omega
            clear hfx
            generalize nth p k = Z at *
            go_wp2_with fail
            go_roundw
            case rel => exact ⟨k + 1, by omega, by go_num, trivial, HN2⟩
            case measure => simp [intOf]; omega
        · obtain rfl : k = p.length := by omega
          have HE : Hid (fT (T1 (upB g) (upB g') yesL) q' 0 p = 1 ∧ fT (T1 (upB g) (upB g') nofB) q' 0 p = 1) := by
            have h1 := HM.out
            have h2 : nofB p = true := nofB_iff.2 HN.out
            constructor
            · simp [fT, T1, h1, yesL]
            · simp [fT, T1, h1, h2]
          go_wp2_with fail
          go_ret2
          exact ⟨by rw [HE.out.1, HE.out.2]; rfl, Below.then HBW.out HB1.out⟩
  | succ d ih =>
    intro p v w hpd hpn hr1 hr2 hsrc
    have HSR0 : Hid (Src w v p) := hsrc
    obtain ⟨fa, fc, rfl⟩ : ∃ fa fc, v = .slice fa p.length fc := by
      rcases hsrc with ⟨rfl, rfl⟩ | ⟨b, off, c, rfl, hr⟩
      · exact ⟨none, 0, rfl⟩
      · exact ⟨_, c, rfl⟩
    clear hsrc
    obtain ⟨W, HW⟩ : ∃ W, Hid (W = (w.alloc (.cells #[.int .i64 (q : Nat), .slice a q ca] 24)).alloc (.cells #[.int .i64 (q' : Nat), .slice a' q' ca'] 24)) := ⟨_, rfl⟩
    have hbW : Below w.heap.size w W := by rw [HW.out]; exact ((Below.refl _ _).alloc (Nat.le_refl _) _).alloc (by simp) _
    have HBW : Hid (Below w.heap.size w W) := hbW
    have xa : OB W w.heap.size (q : Nat) a q ca := by rw [HW.out]; exact two_a w ⟨(q : Nat), a, q, ca, fun _ => 0⟩ ⟨(q' : Nat), a', q', ca', fun _ => 0⟩
    have xb : OB W (w.heap.size + 1) (q' : Nat) a' q' ca' := by rw [HW.out]; exact two_b w ⟨(q : Nat), a, q, ca, fun _ => 0⟩ ⟨(q' : Nat), a', q', ca', fun _ => 0⟩
    have HXX : Hid (∀ wx, Below W.heap.size W wx → OB wx w.heap.size (q : Nat) a q ca ∧ OB wx (w.heap.size + 1) (q' : Nat) a' q' ca') := fun wx h => ⟨xa.step h, xb.step h⟩
    have HSW : Hid (∀ wx, Below W.heap.size W wx → Src wx (.slice fa p.length fc) p) := fun wx h => (HSR0.out.step hbW).step h
    have HIH : Hid (∀ x, x < q' → ∀ wx v', Below W.heap.size W wx → wx.ownsRow W.heap.size 3 1 v' (p.length + 1) (natVals p ++ [.int .i64 (x : Nat)]) → Calls Tryd.prog 7 #[.agg #[.int .i64 (q : Nat), .slice a q ca], .agg #[.int .i64 (q' : Nat), .slice a' q' ca'], v'] wx fun e w' => e = .returned (.tuple #[.int .i64 (fT (T1 (upB g) (upB g') yesL) q' d (p ++ [x]) : Nat), .int .i64 (fT (T1 (upB g) (upB g') nofB) q' d (p ++ [x]) : Nat)]) ∧ Below wx.heap.size wx w') := fun x hx wx v' h ho => by
      refine ih (p ++ [x]) v' wx (by simp; omega) (fun i hi => ?_) ((hr1.below hbW).below h) ((hr2.below hbW).below h) ?_
      · by_cases e : i < p.length
        · rw [nth_snoc_old e]; exact hpn i e
        · obtain rfl : i = p.length := by simp at hi; omega
          rw [nth_snoc_new]; exact hx
      · refine owns_src (base := W.heap.size) (by simp) ?_
        rw [natVals_append, List.length_append]
        exact ho
    have HT1 : Hid (∀ k, k ≤ q' → fTo (T1 (upB g) (upB g') yesL) q' d p k ≤ 15625 ∧ fTo (T1 (upB g) (upB g') nofB) q' d p k ≤ 15625) := fun k hk => by
      have h1 := pow5_le (d := d) (by omega)
      have e : 5 ^ (d + 1) = 5 * 5 ^ d := by rw [Nat.pow_succ, Nat.mul_comm]
      have a1 := fTo_le (T1 (upB g) (upB g') yesL) h5' d p hk
      have a2 := fTo_le (T1 (upB g) (upB g') nofB) h5' d p hk
      rw [e] at a1 a2
      exact ⟨by omega, by omega⟩
    have hpq : ((p.length : Int) == (q : Int)) = false := by simp; omega
    have hpk5 : p.length ≤ 5 := by omega
    obtain ⟨k0, k1⟩ := xa
    obtain ⟨k2, k3⟩ := xb
    clear hbW hr1 hr2 hpn hg hg' ih HSR0
    go_enter Tryd.func7, Tryd.ntmps7
    go_wp2_with fail
    rw [← HW.out]
    go_wp2_with fail
    clear k0 k1 k2 k3 HW
    go_loopw [9, 10, 11] (fun n m i wx => ∃ x : Nat, x ≤ q' ∧ i = .int .i64 x ∧ n = .int .i64 (fTo (T1 (upB g) (upB g') yesL) q' d p x : Nat) ∧ m = .int .i64 (fTo (T1 (upB g) (upB g') nofB) q' d p x : Nat) ∧ Hid (Below W.heap.size W wx)) (fun _ _ i _ => q' - (intOf i).toNat)
    case atStart => exact ⟨0, Nat.zero_le _, rfl, rfl, rfl, Below.refl _ _⟩
    case round =>
      obtain ⟨x, hxq, rfl, rfl, rfl, HB⟩ := hrel
      have hX := HXX.out _ HB.out
      have l2 := hX.2.1
      by_cases hx : x < q'
      · have hlx : (x : Int) < (q' : Int) := by omega
        have m0 : ∀ wx, Below wr.heap.size wr wx → wx.cell? ⟨w.heap.size, 0, none⟩ = some (.int .i64 (q : Nat)) := fun wx h => (HXX.out wx (Below.then HB.out h)).1.1
        have m1 : ∀ wx, Below wr.heap.size wr wx → wx.cell? ⟨w.heap.size, 1, none⟩ = some (.slice a q ca) := fun wx h => (HXX.out wx (Below.then HB.out h)).1.2
        have m2 : ∀ wx, Below wr.heap.size wr wx → wx.cell? ⟨w.heap.size + 1, 0, none⟩ = some (.int .i64 (q' : Nat)) := fun wx h => (HXX.out wx (Below.then HB.out h)).2.1
        have m3 : ∀ wx, Below wr.heap.size wr wx → wx.cell? ⟨w.heap.size + 1, 1, none⟩ = some (.slice a' q' ca') := fun wx h => (HXX.out wx (Below.then HB.out h)).2.2
        have HSR : Hid (∀ wx, Below wr.heap.size wr wx → Src wx (.slice fa p.length fc) p) := fun wx h => HSW.out wx (Below.then HB.out h)
        have hsz : W.heap.size ≤ wr.heap.size := HB.out.size
        have HREC : Hid (∀ wx v', Below wr.heap.size wr wx → wx.ownsRow wr.heap.size 3 1 v' (p.length + 1) (natVals p ++ [.int .i64 (x : Nat)]) → Calls Tryd.prog 7 #[.agg #[.int .i64 (q : Nat), .slice a q ca], .agg #[.int .i64 (q' : Nat), .slice a' q' ca'], v'] wx fun e w' => e = .returned (.tuple #[.int .i64 (fT (T1 (upB g) (upB g') yesL) q' d (p ++ [x]) : Nat), .int .i64 (fT (T1 (upB g) (upB g') nofB) q' d (p ++ [x]) : Nat)]) ∧ Below wx.heap.size wx w') := fun wx v' h ho => HIH.out x hx wx v' (Below.then HB.out h) (owns_lowB ho hsz)
        have HN1 : Hid (fTo (T1 (upB g) (upB g') yesL) q' d p (x + 1) = fTo (T1 (upB g) (upB g') yesL) q' d p x + fT (T1 (upB g) (upB g') yesL) q' d (p ++ [x])) := fTo_succ _ _ _ _ _
        have HN2 : Hid (fTo (T1 (upB g) (upB g') nofB) q' d p (x + 1) = fTo (T1 (upB g) (upB g') nofB) q' d p x + fT (T1 (upB g) (upB g') nofB) q' d (p ++ [x])) := fTo_succ _ _ _ _ _
        have hb1 := (HT1.out (x + 1) (by omega)).1
        have hb2 := (HT1.out (x + 1) (by omega)).2
        rw [HN1.out] at hb1
        rw [HN2.out] at hb2
        generalize fT (T1 (upB g) (upB g') yesL) q' d (p ++ [x]) = F1 at *
        generalize fT (T1 (upB g) (upB g') nofB) q' d (p ++ [x]) = F2 at *
        generalize fTo (T1 (upB g) (upB g') yesL) q' d p x = G1 at *
        generalize fTo (T1 (upB g) (upB g') nofB) q' d p x = G2 at *
        clear hX
        go_wp2_with fail
        clear l2
        refine wp_lates (S := (fun w' => Below wr.heap.size wr w')) (late := (fun _ => false)) (by kernel_rfl) ?_
        obtain ⟨D, HD⟩ : ∃ D, Hid (D = wr.drew) := ⟨_, rfl⟩
        rw [← HD.out]
        have HS : Hid (Below wr.heap.size wr D) := by rw [HD.out]; exact (Below.refl _ _).drew
        have hDs : wr.heap.size ≤ D.heap.size := HS.out.size
        have e1 := owns_empty D hDs
        have e2 := e1.alloc (.cells #[.int .i64 (x : Nat)] 3)
        have e3 : ((D.alloc (.cells #[.int .i64 (x : Nat)] 3)).alloc (.cells #[] 3)).ownsRow wr.heap.size 3 1 (.slice (some ⟨D.heap.size + 1, 0, none⟩) 0 0) 0 [] := by
          have := owns_empty (base := wr.heap.size) (D.alloc (.cells #[.int .i64 (x : Nat)] 3)) (by simp; omega)
          rw [World.size_alloc] at this
          exact this
        have x1 : ((D.alloc (.cells #[] 3)).alloc (.cells #[.int .i64 (x : Nat)] 3)).cell? ⟨D.heap.size + 1, 0, none⟩ = some (.int .i64 (x : Nat)) := cell_newX _ _ _ _ (by simp)
        have x2 : ((D.alloc (.cells #[.int .i64 (x : Nat)] 3)).alloc (.cells #[] 3)).cell? ⟨D.heap.size, 0, none⟩ = some (.int .i64 (x : Nat)) := cell_farX _ (cell_newX _ _ _ _ rfl)
        refine lates_take (i := 0) (oi := { dst := some 43, op := Go.Op.load 24 (Go.Operand.tmp 3), type := 24, pos := "fix.go:45", after := #[], guard := none }) (v := ?_) rfl (by kernel_rfl) (by kernel_rfl) (by kernel_rfl) ⟨rfl, by kernel_rfl⟩ (fun _ _ _ h => h) (Or.inl ⟨by rfl, ?hy⟩) HS.out ?_
        case hy => (intro w9 hSw; (try dsimp only at hSw); go_simp; try with_reducible rfl)
        try simp only [Act.put, List.setIfInBounds_toArray, List.set_cons_zero, List.set_cons_succ]
        refine lates_take (i := 1) (oi := { dst := some 44, op := Go.Op.load 24 (Go.Operand.tmp 4), type := 24, pos := "fix.go:45", after := #[], guard := none }) (v := ?_) rfl (by kernel_rfl) (by kernel_rfl) (by kernel_rfl) ⟨rfl, by kernel_rfl⟩ (fun _ _ _ h => h) (Or.inl ⟨by rfl, ?hy⟩) HS.out ?_
        case hy => (intro w9 hSw; (try dsimp only at hSw); go_simp; try with_reducible rfl)
        try simp only [Act.put, List.setIfInBounds_toArray, List.set_cons_zero, List.set_cons_succ]
        refine lates_take (i := 3) (oi := { dst := some 46, op := Go.Op.move (Go.Operand.tmp 2), type := 22, pos := "fix.go:45", after := #[], guard := none }) (v := ?_) rfl (by kernel_rfl) (by kernel_rfl) (by kernel_rfl) ⟨rfl, by kernel_rfl⟩ (fun _ _ _ h => h) (Or.inl ⟨by rfl, ?hy⟩) HS.out ?_
        case hy => (intro w9 hSw; (try dsimp only at hSw); go_simp; try with_reducible rfl)
        try simp only [Act.put, List.setIfInBounds_toArray, List.set_cons_zero, List.set_cons_succ]
        refine lates_take (i := 5) (oi := { dst := some 48, op := Go.Op.move (Go.Operand.tmp 11), type := 3, pos := "fix.go:45", after := #[], guard := none }) (v := ?_) rfl (by kernel_rfl) (by kernel_rfl) (by kernel_rfl) ⟨rfl, by kernel_rfl⟩ (fun _ _ _ h => h) (Or.inl ⟨by rfl, ?hy⟩) HS.out ?_
        case hy => (intro w9 hSw; (try dsimp only at hSw); go_simp; try with_reducible rfl)
        try simp only [Act.put, List.setIfInBounds_toArray, List.set_cons_zero, List.set_cons_succ]
        refine lates_ready (rs := [2, 6]) (by kernel_rfl) (by simp) ?_
        refine AllLate.cons (o := { dst := some 45, op := Go.Op.buildSlice 22 0 #[], type := 22, pos := "fix.go:45", after := #[], guard := none }) rfl (fun K hK => ?_) ?_
        · go_simp
          skip
          refine hK.out _ _ (fun _ => ?_) ?_
          · exact HS.out.alloc HS.out.size _
          have HS := (show Hid (Below wr.heap.size wr _) from HS.out.alloc HS.out.size (.cells #[] 3))
          clear hK K
          try simp only [Act.put, List.setIfInBounds_toArray, List.set_cons_zero, List.set_cons_succ]
          refine lates_ready (rs := [4, 6]) (by kernel_rfl) (by simp) ?_
          refine AllLate.cons (o := { dst := some 47, op := Go.Op.call { callee := Go.Callee.builtin Go.Builtin.append, args := #[Go.Operand.tmp 45, Go.Operand.tmp 46], argTypes := #[22, 22] }, type := 22, pos := "fix.go:45", after := #[{ on := 2, ground := Go.Ground.data }, { on := 3, ground := Go.Ground.data }], guard := none }) rfl (fun K hK => ?_) ?_
          · rw [if_pos (by rfl)]
            have HSC := HSR.out _ HS.out
            first | refine wp_copy _ _ _ rfl wr.heap.size D.heap.size rfl e1 HSC rfl hpk5 HS.out.size ?_ | refine wp_copy _ _ _ rfl wr.heap.size D.heap.size rfl e2 HSC rfl hpk5 HS.out.size ?_ | refine wp_copy _ _ _ rfl wr.heap.size (D.heap.size + 1) rfl e3 HSC rfl hpk5 HS.out.size ?_
            intro v5 w5 hown5 hgrow5
            have HB5 : Hid (Below wr.heap.size wr w5) := HS.out.grown hgrow5 HS.out.size (fun k e => by cases e; omega)
            refine hK.out _ _ (fun _ => ?_) ?_
            · exact HB5.out
            have HS : Hid (Below wr.heap.size wr w5) := HB5
            clear hK K
            try simp only [Act.put, List.setIfInBounds_toArray, List.set_cons_zero, List.set_cons_succ]
            refine lates_ready (rs := [6]) (by kernel_rfl) (by simp) ?_
            refine AllLate.cons (o := { dst := some 49, op := Go.Op.buildSlice 22 1 #[(0, Go.Operand.tmp 48)], type := 22, pos := "fix.go:45", after := #[{ on := 5, ground := Go.Ground.data }], guard := none }) rfl (fun K hK => ?_) ?_
            · go_simp
              skip
              refine hK.out _ _ (fun _ => ?_) ?_
              · exact HS.out.alloc HS.out.size _
              have HS := (show Hid (Below wr.heap.size wr _) from HS.out.alloc HS.out.size (.cells #[.int .i64 (x : Nat)] 3))
              clear hK K
              try simp only [Act.put, List.setIfInBounds_toArray, List.set_cons_zero, List.set_cons_succ]
              refine lates_ready (rs := [7]) (by kernel_rfl) (by simp) ?_
              refine AllLate.cons (o := { dst := some 50, op := Go.Op.call { callee := Go.Callee.builtin Go.Builtin.append, args := #[Go.Operand.tmp 47, Go.Operand.tmp 49], argTypes := #[22, 22] }, type := 22, pos := "fix.go:45", after := #[{ on := 4, ground := Go.Ground.data }, { on := 6, ground := Go.Ground.data }, { on := 4, ground := Go.Ground.chain }], guard := none }) rfl (fun K hK => ?_) ?_
              · rw [if_pos (by rfl)]
                first | refine wp_grow _ _ _ rfl wr.heap.size v5 p.length _ rfl (hown5.alloc _) w5.heap.size (x : Nat) rfl (by simp) (by omega) HS.out.size ?_ | refine wp_grow _ _ _ rfl wr.heap.size v5 p.length _ rfl hown5 (D.heap.size + 1) (x : Nat) rfl (hgrow5.cell x1 (by simp)) (by omega) HS.out.size ?_ | refine wp_grow _ _ _ rfl wr.heap.size v5 p.length _ rfl hown5 D.heap.size (x : Nat) rfl (hgrow5.cell x2 (by simp)) (by omega) HS.out.size ?_
                intro v6 w6 hown6 hgrow6 _
                have HB6 : Hid (Below wr.heap.size wr w6) := HS.out.grown hgrow6 HS.out.size (owns_block hown5)
                refine hK.out _ _ (fun _ => ?_) ?_
                · exact HB6.out
                have HS : Hid (Below wr.heap.size wr w6) := HB6
                clear hK K
                try simp only [Act.put, List.setIfInBounds_toArray, List.set_cons_zero, List.set_cons_succ]
                refine lates_ready (rs := [8]) (by kernel_rfl) (by simp) ?_
                refine AllLate.cons (o := { dst := some 51, op := Go.Op.call { callee := Go.Callee.value (Go.Operand.func 7), args := #[Go.Operand.tmp 43, Go.Operand.tmp 44, Go.Operand.tmp 50], argTypes := #[24, 24, 22] }, type := 29, pos := "fix.go:45", after := #[{ on := 0, ground := Go.Ground.data }, { on := 1, ground := Go.Ground.data }, { on := 7, ground := Go.Ground.data }, { on := 7, ground := Go.Ground.chain }], guard := none }) rfl (fun K hK => ?_) ?_
                · go_simp
                  refine (HREC.out w6 v6 HS.out hown6).mono ?_
                  rintro e w7 ⟨rfl, hb7⟩
                  refine hK.out _ _ (fun _ => ?_) ?_
                  · exact Below.then HS.out hb7
                  have HS : Hid (Below wr.heap.size wr w7) := Below.then HS.out hb7
                  clear hK K
                  try simp only [Act.put, List.setIfInBounds_toArray, List.set_cons_zero, List.set_cons_succ]
                  refine lates_take (i := 9) (oi := { dst := some 42, op := Go.Op.move (Go.Operand.tmp 51), type := 29, pos := "fix.go:45", after := #[{ on := 8, ground := Go.Ground.data }], guard := none }) (v := ?_) rfl (by kernel_rfl) (by kernel_rfl) (by kernel_rfl) ⟨rfl, by kernel_rfl⟩ (fun _ _ _ h => h) (Or.inl ⟨by rfl, ?hy⟩) HS.out ?_
                  case hy => (intro w9 hSw; (try dsimp only at hSw); go_simp; try with_reducible rfl)
                  try simp only [Act.put, List.setIfInBounds_toArray, List.set_cons_zero, List.set_cons_succ]
                  refine lates_take (i := 10) (oi := { dst := some 52, op := Go.Op.extract (Go.Operand.tmp 42) 0, type := 3, pos := "fix.go:45", after := #[{ on := 9, ground := Go.Ground.data }], guard := none }) (v := ?_) rfl (by kernel_rfl) (by kernel_rfl) (by kernel_rfl) ⟨rfl, by kernel_rfl⟩ (fun _ _ _ h => h) (Or.inl ⟨by rfl, ?hy⟩) HS.out ?_
                  case hy => (intro w9 hSw; (try dsimp only at hSw); go_simp; try with_reducible rfl)
                  try simp only [Act.put, List.setIfInBounds_toArray, List.set_cons_zero, List.set_cons_succ]
                  refine lates_take (i := 11) (oi := { dst := some 53, op := Go.Op.extract (Go.Operand.tmp 42) 1, type := 3, pos := "fix.go:45", after := #[{ on := 9, ground := Go.Ground.data }, { on := 12, ground := Go.Ground.gcOnly Go.Departure.lateStores }], guard := none }) (v := ?_) rfl (by kernel_rfl) (by kernel_rfl) (by kernel_rfl) ⟨rfl, by kernel_rfl⟩ (fun _ _ _ h => h) (Or.inl ⟨by rfl, ?hy⟩) HS.out ?_
                  case hy => (intro w9 hSw; (try dsimp only at hSw); go_simp; try with_reducible rfl)
                  try simp only [Act.put, List.setIfInBounds_toArray, List.set_cons_zero, List.set_cons_succ]
                  refine lates_take (i := 12) (oi := { dst := some 12, op := Go.Op.assign (Go.Operand.tmp 52), type := 3, pos := "fix.go:45", after := #[{ on := 10, ground := Go.Ground.data }, { on := 8, ground := Go.Ground.chain }, { on := 0, ground := Go.Ground.phase }, { on := 1, ground := Go.Ground.phase }, { on := 2, ground := Go.Ground.phase }, { on := 3, ground := Go.Ground.phase }, { on := 4, ground := Go.Ground.phase }, { on := 5, ground := Go.Ground.phase }, { on := 6, ground := Go.Ground.phase }, { on := 7, ground := Go.Ground.phase }, { on := 8, ground := Go.Ground.phase }, { on := 9, ground := Go.Ground.phase }, { on := 10, ground := Go.Ground.phase }, { on := 11, ground := Go.Ground.textOnly Go.Departure.lateStores }], guard := none }) (v := ?_) rfl (by kernel_rfl) (by kernel_rfl) (by kernel_rfl) ⟨rfl, by kernel_rfl⟩ (fun _ _ _ h => h) (Or.inl ⟨by rfl, ?hy⟩) HS.out ?_
                  case hy => (intro w9 hSw; (try dsimp only at hSw); go_simp; try with_reducible rfl)
                  try simp only [Act.put, List.setIfInBounds_toArray, List.set_cons_zero, List.set_cons_succ]
                  refine lates_take (i := 13) (oi := { dst := some 13, op := Go.Op.assign (Go.Operand.tmp 53), type := 3, pos := "fix.go:45", after := #[{ on := 11, ground := Go.Ground.data }, { on := 12, ground := Go.Ground.chain }, { on := 0, ground := Go.Ground.phase }, { on := 1, ground := Go.Ground.phase }, { on := 2, ground := Go.Ground.phase }, { on := 3, ground := Go.Ground.phase }, { on := 4, ground := Go.Ground.phase }, { on := 5, ground := Go.Ground.phase }, { on := 6, ground := Go.Ground.phase }, { on := 7, ground := Go.Ground.phase }, { on := 8, ground := Go.Ground.phase }, { on := 9, ground := Go.Ground.phase }, { on := 10, ground := Go.Ground.phase }, { on := 11, ground := Go.Ground.phase }, { on := 12, ground := Go.Ground.phase }], guard := none }) (v := ?_) rfl (by kernel_rfl) (by kernel_rfl) (by kernel_rfl) ⟨rfl, by kernel_rfl⟩ (fun _ _ _ h => h) (Or.inl ⟨by rfl, ?hy⟩) HS.out ?_
                  case hy => (intro w9 hSw; (try dsimp only at hSw); go_simp; try with_reducible rfl)
                  try simp only [Act.put, List.setIfInBounds_toArray, List.set_cons_zero, List.set_cons_succ]
                  refine lates_done (by kernel_rfl) ?_ _
                  try simp only [Act.put, List.setIfInBounds_toArray, List.set_cons_zero, List.set_cons_succ]
                  have HB7 : Hid (Below W.heap.size W w7) := Below.then HB.out HS.out
                  clear HS HSC hown5 hgrow5 HB5 hown6 hgrow6 HB6 hb7 e1 e2 e3 x1 x2 m0 m1 m2 m3
                  go_wp2_with fail
                  go_roundw
                  case rel => exact ⟨x + 1, by omega, by go_num, by rw [HN1.out]; go_num, by rw [HN2.out]; go_num, HB7⟩
                  case measure => simp [intOf]; omega
                exact AllLate.nil
              exact AllLate.nil
            exact AllLate.nil
          refine AllLate.cons (o := { dst := some 49, op := Go.Op.buildSlice 22 1 #[(0, Go.Operand.tmp 48)], type := 22, pos := "fix.go:45", after := #[{ on := 5, ground := Go.Ground.data }], guard := none }) rfl (fun K hK => ?_) ?_
          · go_simp
            skip
            refine hK.out _ _ (fun _ => ?_) ?_
            · exact HS.out.alloc HS.out.size _
            have HS := (show Hid (Below wr.heap.size wr _) from HS.out.alloc HS.out.size (.cells #[.int .i64 (x : Nat)] 3))
            clear hK K
            try simp only [Act.put, List.setIfInBounds_toArray, List.set_cons_zero, List.set_cons_succ]
            refine lates_ready (rs := [4]) (by kernel_rfl) (by simp) ?_
            refine AllLate.cons (o := { dst := some 47, op := Go.Op.call { callee := Go.Callee.builtin Go.Builtin.append, args := #[Go.Operand.tmp 45, Go.Operand.tmp 46], argTypes := #[22, 22] }, type := 22, pos := "fix.go:45", after := #[{ on := 2, ground := Go.Ground.data }, { on := 3, ground := Go.Ground.data }], guard := none }) rfl (fun K hK => ?_) ?_
            · rw [if_pos (by rfl)]
              have HSC := HSR.out _ HS.out
              first | refine wp_copy _ _ _ rfl wr.heap.size D.heap.size rfl e1 HSC rfl hpk5 HS.out.size ?_ | refine wp_copy _ _ _ rfl wr.heap.size D.heap.size rfl e2 HSC rfl hpk5 HS.out.size ?_ | refine wp_copy _ _ _ rfl wr.heap.size (D.heap.size + 1) rfl e3 HSC rfl hpk5 HS.out.size ?_
              intro v5 w5 hown5 hgrow5
              have HB5 : Hid (Below wr.heap.size wr w5) := HS.out.grown hgrow5 HS.out.size (fun k e => by cases e; omega)
              refine hK.out _ _ (fun _ => ?_) ?_
              · exact HB5.out
              have HS : Hid (Below wr.heap.size wr w5) := HB5
              clear hK K
              try simp only [Act.put, List.setIfInBounds_toArray, List.set_cons_zero, List.set_cons_succ]
              refine lates_ready (rs := [7]) (by kernel_rfl) (by simp) ?_
              refine AllLate.cons (o := { dst := some 50, op := Go.Op.call { callee := Go.Callee.builtin Go.Builtin.append, args := #[Go.Operand.tmp 47, Go.Operand.tmp 49], argTypes := #[22, 22] }, type := 22, pos := "fix.go:45", after := #[{ on := 4, ground := Go.Ground.data }, { on := 6, ground := Go.Ground.data }, { on := 4, ground := Go.Ground.chain }], guard := none }) rfl (fun K hK => ?_) ?_
              · rw [if_pos (by rfl)]
                first | refine wp_grow _ _ _ rfl wr.heap.size v5 p.length _ rfl (hown5.alloc _) w5.heap.size (x : Nat) rfl (by simp) (by omega) HS.out.size ?_ | refine wp_grow _ _ _ rfl wr.heap.size v5 p.length _ rfl hown5 (D.heap.size + 1) (x : Nat) rfl (hgrow5.cell x1 (by simp)) (by omega) HS.out.size ?_ | refine wp_grow _ _ _ rfl wr.heap.size v5 p.length _ rfl hown5 D.heap.size (x : Nat) rfl (hgrow5.cell x2 (by simp)) (by omega) HS.out.size ?_
                intro v6 w6 hown6 hgrow6 _
                have HB6 : Hid (Below wr.heap.size wr w6) := HS.out.grown hgrow6 HS.out.size (owns_block hown5)
                refine hK.out _ _ (fun _ => ?_) ?_
                · exact HB6.out
                have HS : Hid (Below wr.heap.size wr w6) := HB6
                clear hK K
                try simp only [Act.put, List.setIfInBounds_toArray, List.set_cons_zero, List.set_cons_succ]
                refine lates_ready (rs := [8]) (by kernel_rfl) (by simp) ?_
                refine AllLate.cons (o := { dst := some 51, op := Go.Op.call { callee := Go.Callee.value (Go.Operand.func 7), args := #[Go.Operand.tmp 43, Go.Operand.tmp 44, Go.Operand.tmp 50], argTypes := #[24, 24, 22] }, type := 29, pos := "fix.go:45", after := #[{ on := 0, ground := Go.Ground.data }, { on := 1, ground := Go.Ground.data }, { on := 7, ground := Go.Ground.data }, { on := 7, ground := Go.Ground.chain }], guard := none }) rfl (fun K hK => ?_) ?_
                · go_simp
                  refine (HREC.out w6 v6 HS.out hown6).mono ?_
                  rintro e w7 ⟨rfl, hb7⟩
                  refine hK.out _ _ (fun _ => ?_) ?_
                  · exact Below.then HS.out hb7
                  have HS : Hid (Below wr.heap.size wr w7) := Below.then HS.out hb7
                  clear hK K
                  try simp only [Act.put, List.setIfInBounds_toArray, List.set_cons_zero, List.set_cons_succ]
                  refine lates_take (i := 9) (oi := { dst := some 42, op := Go.Op.move (Go.Operand.tmp 51), type := 29, pos := "fix.go:45", after := #[{ on := 8, ground := Go.Ground.data }], guard := none }) (v := ?_) rfl (by kernel_rfl) (by kernel_rfl) (by kernel_rfl) ⟨rfl, by kernel_rfl⟩ (fun _ _ _ h => h) (Or.inl ⟨by rfl, ?hy⟩) HS.out ?_
                  case hy => (intro w9 hSw; (try dsimp only at hSw); go_simp; try with_reducible rfl)
                  try simp only [Act.put, List.setIfInBounds_toArray, List.set_cons_zero, List.set_cons_succ]
                  refine lates_take (i := 10) (oi := { dst := some 52, op := Go.Op.extract (Go.Operand.tmp 42) 0, type := 3, pos := "fix.go:45", after := #[{ on := 9, ground := Go.Ground.data }], guard := none }) (v := ?_) rfl (by kernel_rfl) (by kernel_rfl) (by kernel_rfl) ⟨rfl, by kernel_rfl⟩ (fun _ _ _ h => h) (Or.inl ⟨by rfl, ?hy⟩) HS.out ?_
                  case hy => (intro w9 hSw; (try dsimp only at hSw); go_simp; try with_reducible rfl)
                  try simp only [Act.put, List.setIfInBounds_toArray, List.set_cons_zero, List.set_cons_succ]
                  refine lates_take (i := 11) (oi := { dst := some 53, op := Go.Op.extract (Go.Operand.tmp 42) 1, type := 3, pos := "fix.go:45", after := #[{ on := 9, ground := Go.Ground.data }, { on := 12, ground := Go.Ground.gcOnly Go.Departure.lateStores }], guard := none }) (v := ?_) rfl (by kernel_rfl) (by kernel_rfl) (by kernel_rfl) ⟨rfl, by kernel_rfl⟩ (fun _ _ _ h => h) (Or.inl ⟨by rfl, ?hy⟩) HS.out ?_
                  case hy => (intro w9 hSw; (try dsimp only at hSw); go_simp; try with_reducible rfl)
                  try simp only [Act.put, List.setIfInBounds_toArray, List.set_cons_zero, List.set_cons_succ]
                  refine lates_take (i := 12) (oi := { dst := some 12, op := Go.Op.assign (Go.Operand.tmp 52), type := 3, pos := "fix.go:45", after := #[{ on := 10, ground := Go.Ground.data }, { on := 8, ground := Go.Ground.chain }, { on := 0, ground := Go.Ground.phase }, { on := 1, ground := Go.Ground.phase }, { on := 2, ground := Go.Ground.phase }, { on := 3, ground := Go.Ground.phase }, { on := 4, ground := Go.Ground.phase }, { on := 5, ground := Go.Ground.phase }, { on := 6, ground := Go.Ground.phase }, { on := 7, ground := Go.Ground.phase }, { on := 8, ground := Go.Ground.phase }, { on := 9, ground := Go.Ground.phase }, { on := 10, ground := Go.Ground.phase }, { on := 11, ground := Go.Ground.textOnly Go.Departure.lateStores }], guard := none }) (v := ?_) rfl (by kernel_rfl) (by kernel_rfl) (by kernel_rfl) ⟨rfl, by kernel_rfl⟩ (fun _ _ _ h => h) (Or.inl ⟨by rfl, ?hy⟩) HS.out ?_
                  case hy => (intro w9 hSw; (try dsimp only at hSw); go_simp; try with_reducible rfl)
                  try simp only [Act.put, List.setIfInBounds_toArray, List.set_cons_zero, List.set_cons_succ]
                  refine lates_take (i := 13) (oi := { dst := some 13, op := Go.Op.assign (Go.Operand.tmp 53), type := 3, pos := "fix.go:45", after := #[{ on := 11, ground := Go.Ground.data }, { on := 12, ground := Go.Ground.chain }, { on := 0, ground := Go.Ground.phase }, { on := 1, ground := Go.Ground.phase }, { on := 2, ground := Go.Ground.phase }, { on := 3, ground := Go.Ground.phase }, { on := 4, ground := Go.Ground.phase }, { on := 5, ground := Go.Ground.phase }, { on := 6, ground := Go.Ground.phase }, { on := 7, ground := Go.Ground.phase }, { on := 8, ground := Go.Ground.phase }, { on := 9, ground := Go.Ground.phase }, { on := 10, ground := Go.Ground.phase }, { on := 11, ground := Go.Ground.phase }, { on := 12, ground := Go.Ground.phase }], guard := none }) (v := ?_) rfl (by kernel_rfl) (by kernel_rfl) (by kernel_rfl) ⟨rfl, by kernel_rfl⟩ (fun _ _ _ h => h) (Or.inl ⟨by rfl, ?hy⟩) HS.out ?_
                  case hy => (intro w9 hSw; (try dsimp only at hSw); go_simp; try with_reducible rfl)
                  try simp only [Act.put, List.setIfInBounds_toArray, List.set_cons_zero, List.set_cons_succ]
                  refine lates_done (by kernel_rfl) ?_ _
                  try simp only [Act.put, List.setIfInBounds_toArray, List.set_cons_zero, List.set_cons_succ]
                  have HB7 : Hid (Below W.heap.size W w7) := Below.then HB.out HS.out
                  clear HS HSC hown5 hgrow5 HB5 hown6 hgrow6 HB6 hb7 e1 e2 e3 x1 x2 m0 m1 m2 m3
                  go_wp2_with fail
                  go_roundw
                  case rel => exact ⟨x + 1, by omega, by go_num, by rw [HN1.out]; go_num, by rw [HN2.out]; go_num, HB7⟩
                  case measure => simp [intOf]; omega
                exact AllLate.nil
              exact AllLate.nil
            exact AllLate.nil
          exact AllLate.nil
        refine AllLate.cons (o := { dst := some 49, op := Go.Op.buildSlice 22 1 #[(0, Go.Operand.tmp 48)], type := 22, pos := "fix.go:45", after := #[{ on := 5, ground := Go.Ground.data }], guard := none }) rfl (fun K hK => ?_) ?_
        · go_simp
          skip
          refine hK.out _ _ (fun _ => ?_) ?_
          · exact HS.out.alloc HS.out.size _
          have HS := (show Hid (Below wr.heap.size wr _) from HS.out.alloc HS.out.size (.cells #[.int .i64 (x : Nat)] 3))
          clear hK K
          try simp only [Act.put, List.setIfInBounds_toArray, List.set_cons_zero, List.set_cons_succ]
          refine lates_ready (rs := [2]) (by kernel_rfl) (by simp) ?_
          refine AllLate.cons (o := { dst := some 45, op := Go.Op.buildSlice 22 0 #[], type := 22, pos := "fix.go:45", after := #[], guard := none }) rfl (fun K hK => ?_) ?_
          · go_simp
            skip
            refine hK.out _ _ (fun _ => ?_) ?_
            · exact HS.out.alloc HS.out.size _
            have HS := (show Hid (Below wr.heap.size wr _) from HS.out.alloc HS.out.size (.cells #[] 3))
            clear hK K
            try simp only [Act.put, List.setIfInBounds_toArray, List.set_cons_zero, List.set_cons_succ]
            refine lates_ready (rs := [4]) (by kernel_rfl) (by simp) ?_
            refine AllLate.cons (o := { dst := some 47, op := Go.Op.call { callee := Go.Callee.builtin Go.Builtin.append, args := #[Go.Operand.tmp 45, Go.Operand.tmp 46], argTypes := #[22, 22] }, type := 22, pos := "fix.go:45", after := #[{ on := 2, ground := Go.Ground.data }, { on := 3, ground := Go.Ground.data }], guard := none }) rfl (fun K hK => ?_) ?_
            · rw [if_pos (by rfl)]
              have HSC := HSR.out _ HS.out
              first | refine wp_copy _ _ _ rfl wr.heap.size D.heap.size rfl e1 HSC rfl hpk5 HS.out.size ?_ | refine wp_copy _ _ _ rfl wr.heap.size D.heap.size rfl e2 HSC rfl hpk5 HS.out.size ?_ | refine wp_copy _ _ _ rfl wr.heap.size (D.heap.size + 1) rfl e3 HSC rfl hpk5 HS.out.size ?_
              intro v5 w5 hown5 hgrow5
              have HB5 : Hid (Below wr.heap.size wr w5) := HS.out.grown hgrow5 HS.out.size (fun k e => by cases e; omega)
              refine hK.out _ _ (fun _ => ?_) ?_
              · exact HB5.out
              have HS : Hid (Below wr.heap.size wr w5) := HB5
              clear hK K
              try simp only [Act.put, List.setIfInBounds_toArray, List.set_cons_zero, List.set_cons_succ]
              refine lates_ready (rs := [7]) (by kernel_rfl) (by simp) ?_
              refine AllLate.cons (o := { dst := some 50, op := Go.Op.call { callee := Go.Callee.builtin Go.Builtin.append, args := #[Go.Operand.tmp 47, Go.Operand.tmp 49], argTypes := #[22, 22] }, type := 22, pos := "fix.go:45", after := #[{ on := 4, ground := Go.Ground.data }, { on := 6, ground := Go.Ground.data }, { on := 4, ground := Go.Ground.chain }], guard := none }) rfl (fun K hK => ?_) ?_
              · rw [if_pos (by rfl)]
                first | refine wp_grow _ _ _ rfl wr.heap.size v5 p.length _ rfl (hown5.alloc _) w5.heap.size (x : Nat) rfl (by simp) (by omega) HS.out.size ?_ | refine wp_grow _ _ _ rfl wr.heap.size v5 p.length _ rfl hown5 (D.heap.size + 1) (x : Nat) rfl (hgrow5.cell x1 (by simp)) (by omega) HS.out.size ?_ | refine wp_grow _ _ _ rfl wr.heap.size v5 p.length _ rfl hown5 D.heap.size (x : Nat) rfl (hgrow5.cell x2 (by simp)) (by omega) HS.out.size ?_
                intro v6 w6 hown6 hgrow6 _
                have HB6 : Hid (Below wr.heap.size wr w6) := HS.out.grown hgrow6 HS.out.size (owns_block hown5)
                refine hK.out _ _ (fun _ => ?_) ?_
                · exact HB6.out
                have HS : Hid (Below wr.heap.size wr w6) := HB6
                clear hK K
                try simp only [Act.put, List.setIfInBounds_toArray, List.set_cons_zero, List.set_cons_succ]
                refine lates_ready (rs := [8]) (by kernel_rfl) (by simp) ?_
                refine AllLate.cons (o := { dst := some 51, op := Go.Op.call { callee := Go.Callee.value (Go.Operand.func 7), args := #[Go.Operand.tmp 43, Go.Operand.tmp 44, Go.Operand.tmp 50], argTypes := #[24, 24, 22] }, type := 29, pos := "fix.go:45", after := #[{ on := 0, ground := Go.Ground.data }, { on := 1, ground := Go.Ground.data }, { on := 7, ground := Go.Ground.data }, { on := 7, ground := Go.Ground.chain }], guard := none }) rfl (fun K hK => ?_) ?_
                · go_simp
                  refine (HREC.out w6 v6 HS.out hown6).mono ?_
                  rintro e w7 ⟨rfl, hb7⟩
                  refine hK.out _ _ (fun _ => ?_) ?_
                  · exact Below.then HS.out hb7
                  have HS : Hid (Below wr.heap.size wr w7) := Below.then HS.out hb7
                  clear hK K
                  try simp only [Act.put, List.setIfInBounds_toArray, List.set_cons_zero, List.set_cons_succ]
                  refine lates_take (i := 9) (oi := { dst := some 42, op := Go.Op.move (Go.Operand.tmp 51), type := 29, pos := "fix.go:45", after := #[{ on := 8, ground := Go.Ground.data }], guard := none }) (v := ?_) rfl (by kernel_rfl) (by kernel_rfl) (by kernel_rfl) ⟨rfl, by kernel_rfl⟩ (fun _ _ _ h => h) (Or.inl ⟨by rfl, ?hy⟩) HS.out ?_
                  case hy => (intro w9 hSw; (try dsimp only at hSw); go_simp; try with_reducible rfl)
                  try simp only [Act.put, List.setIfInBounds_toArray, List.set_cons_zero, List.set_cons_succ]
                  refine lates_take (i := 10) (oi := { dst := some 52, op := Go.Op.extract (Go.Operand.tmp 42) 0, type := 3, pos := "fix.go:45", after := #[{ on := 9, ground := Go.Ground.data }], guard := none }) (v := ?_) rfl (by kernel_rfl) (by kernel_rfl) (by kernel_rfl) ⟨rfl, by kernel_rfl⟩ (fun _ _ _ h => h) (Or.inl ⟨by rfl, ?hy⟩) HS.out ?_
                  case hy => (intro w9 hSw; (try dsimp only at hSw); go_simp; try with_reducible rfl)
                  try simp only [Act.put, List.setIfInBounds_toArray, List.set_cons_zero, List.set_cons_succ]
                  refine lates_take (i := 11) (oi := { dst := some 53, op := Go.Op.extract (Go.Operand.tmp 42) 1, type := 3, pos := "fix.go:45", after := #[{ on := 9, ground := Go.Ground.data }, { on := 12, ground := Go.Ground.gcOnly Go.Departure.lateStores }], guard := none }) (v := ?_) rfl (by kernel_rfl) (by kernel_rfl) (by kernel_rfl) ⟨rfl, by kernel_rfl⟩ (fun _ _ _ h => h) (Or.inl ⟨by rfl, ?hy⟩) HS.out ?_
                  case hy => (intro w9 hSw; (try dsimp only at hSw); go_simp; try with_reducible rfl)
                  try simp only [Act.put, List.setIfInBounds_toArray, List.set_cons_zero, List.set_cons_succ]
                  refine lates_take (i := 12) (oi := { dst := some 12, op := Go.Op.assign (Go.Operand.tmp 52), type := 3, pos := "fix.go:45", after := #[{ on := 10, ground := Go.Ground.data }, { on := 8, ground := Go.Ground.chain }, { on := 0, ground := Go.Ground.phase }, { on := 1, ground := Go.Ground.phase }, { on := 2, ground := Go.Ground.phase }, { on := 3, ground := Go.Ground.phase }, { on := 4, ground := Go.Ground.phase }, { on := 5, ground := Go.Ground.phase }, { on := 6, ground := Go.Ground.phase }, { on := 7, ground := Go.Ground.phase }, { on := 8, ground := Go.Ground.phase }, { on := 9, ground := Go.Ground.phase }, { on := 10, ground := Go.Ground.phase }, { on := 11, ground := Go.Ground.textOnly Go.Departure.lateStores }], guard := none }) (v := ?_) rfl (by kernel_rfl) (by kernel_rfl) (by kernel_rfl) ⟨rfl, by kernel_rfl⟩ (fun _ _ _ h => h) (Or.inl ⟨by rfl, ?hy⟩) HS.out ?_
                  case hy => (intro w9 hSw; (try dsimp only at hSw); go_simp; try with_reducible rfl)
                  try simp only [Act.put, List.setIfInBounds_toArray, List.set_cons_zero, List.set_cons_succ]
                  refine lates_take (i := 13) (oi := { dst := some 13, op := Go.Op.assign (Go.Operand.tmp 53), type := 3, pos := "fix.go:45", after := #[{ on := 11, ground := Go.Ground.data }, { on := 12, ground := Go.Ground.chain }, { on := 0, ground := Go.Ground.phase }, { on := 1, ground := Go.Ground.phase }, { on := 2, ground := Go.Ground.phase }, { on := 3, ground := Go.Ground.phase }, { on := 4, ground := Go.Ground.phase }, { on := 5, ground := Go.Ground.phase }, { on := 6, ground := Go.Ground.phase }, { on := 7, ground := Go.Ground.phase }, { on := 8, ground := Go.Ground.phase }, { on := 9, ground := Go.Ground.phase }, { on := 10, ground := Go.Ground.phase }, { on := 11, ground := Go.Ground.phase }, { on := 12, ground := Go.Ground.phase }], guard := none }) (v := ?_) rfl (by kernel_rfl) (by kernel_rfl) (by kernel_rfl) ⟨rfl, by kernel_rfl⟩ (fun _ _ _ h => h) (Or.inl ⟨by rfl, ?hy⟩) HS.out ?_
                  case hy => (intro w9 hSw; (try dsimp only at hSw); go_simp; try with_reducible rfl)
                  try simp only [Act.put, List.setIfInBounds_toArray, List.set_cons_zero, List.set_cons_succ]
                  refine lates_done (by kernel_rfl) ?_ _
                  try simp only [Act.put, List.setIfInBounds_toArray, List.set_cons_zero, List.set_cons_succ]
                  have HB7 : Hid (Below W.heap.size W w7) := Below.then HB.out HS.out
                  clear HS HSC hown5 hgrow5 HB5 hown6 hgrow6 HB6 hb7 e1 e2 e3 x1 x2 m0 m1 m2 m3
                  go_wp2_with fail
                  go_roundw
                  case rel => exact ⟨x + 1, by omega, by go_num, by rw [HN1.out]; go_num, by rw [HN2.out]; go_num, HB7⟩
                  case measure => simp [intOf]; omega
                exact AllLate.nil
              exact AllLate.nil
            exact AllLate.nil
          exact AllLate.nil
        exact AllLate.nil
      · obtain rfl : x = q' := by omega
        have HE : Hid (fT (T1 (upB g) (upB g') yesL) x (d + 1) p = fTo (T1 (upB g) (upB g') yesL) x d p x ∧ fT (T1 (upB g) (upB g') nofB) x (d + 1) p = fTo (T1 (upB g) (upB g') nofB) x d p x) := ⟨rfl, rfl⟩
        clear hX
        generalize fTo (T1 (upB g) (upB g') yesL) x d p x = G1 at *
        generalize fTo (T1 (upB g) (upB g') nofB) x d p x = G2 at *
        go_wp2_with fail
        go_ret2
        exact ⟨by rw [HE.out.1, HE.out.2]; rfl, Below.then HBW.out HB.out⟩
end Go.Proofs.YtcdpijbdlefbmaaDoor
