/-
  What weigh.Sum answers, whatever lists it is handed: the document's W2. Conditions: slices read as slices of rows; what is handed besides is no list at all or lies at an address.
-/
import Derived.ArgAppend
import Derived.Test.YtoagfjikjdacoaaFouP
namespace Go.Proofs.Ytoagfjikjdacoaa
set_option maxRecDepth 100000
open Go.RowKit

def cns {α : Type} (x : α) (f : Nat → α) : Nat → α
  | 0 => x
  | k + 1 => f k
/-- A product, times the next ones. -/
def prd (f : Nat → Nat) (G : Nat → Nat → Nat) (x : Nat) : Nat → Nat
  | 0 => f x
  | j + 1 => prd f G x j * G j x
theorem prd_le {f : Nat → Nat} {G : Nat → Nat → Nat} {x : Nat} (hf : f x ≤ 1000) : ∀ j, (∀ i, i < j → G i x ≤ 1000) → prd f G x j ≤ 1000 ^ (j + 1)
  | 0, _ => by simpa [prd] using hf
  | j + 1, h => by
    have h1 := prd_le hf j (fun i hi => h i (by omega))
    have h2 := h j (by omega)
    rw [prd, Nat.pow_succ]
    exact Nat.mul_le_mul h1 h2
/-- What Sum adds up. -/
def wsum (n m : Nat) (f : Nat → Int) (F : Nat → Nat → Int) : Nat := sumTo (fun x => prd (nt f) (fun j => nt (F j)) x m) (pw n)
theorem Try.infoLL : (Try.prog.info? 22).map (fun i => (i.zero, i.size, i.bytes)) = some (some (.slice none 0 0), 1, 24) := by kernel_rfl
def cellsL (S : Nat → Option Addr × Nat × Nat) (m : Nat) : List Value := (List.range m).map fun k => .slice (S k).1 (S k).2.1 (S k).2.2
theorem cellsL_at {S : Nat → Option Addr × Nat × Nat} {m k : Nat} (h : k < m) : (cellsL S m)[k]? = some (.slice (S k).1 (S k).2.1 (S k).2.2) := by simp [cellsL, h]
theorem cellsL_len (S : Nat → Option Addr × Nat × Nat) (m : Nat) : (cellsL S m).length = m := by simp [cellsL]
theorem add_flat (b off j : Nat) : Addr.add ⟨b, off, none⟩ j = ⟨b, off + j, none⟩ := by
  cases j <;> simp [Addr.add]
theorem owns_form {w : World} {base size n : Nat} {e : TypeId} {v : Value} {xs : List Value} (h : w.ownsRow base e size v n xs) (hn : 0 < n) : ∃ g cap, v = .slice (some ⟨g, 0, none⟩) n cap := by
  rcases h.2 with ⟨_, h0⟩ | ⟨g, cap, _, hv, _⟩
  · omega
  · exact ⟨g, cap, hv⟩

theorem wp_lists {o : Oper} {a : Act} {K : Act → World → Prop} {Q : Exit → Act → World → Prop} (w w1 : World) (s x : Operand)
    (ho : o.op = .call { callee := .builtin .append, args := #[s, x], argTypes := #[39, 39] }) (aw : Option Addr) (lw kw : Nat) (hw1 : w1 = w.alloc (.cells #[.slice aw lw kw] 22)) (hs : a.eval s = .slice (some ⟨w.heap.size, 0, none⟩) 1 1)
    (al : Option Addr) (m cap : Nat) (S : Nat → Option Addr × Nat × Nat) (F : Nat → Nat → Int) (hx : a.eval x = .slice al m cap) (hr : RR w al m S F) (h0 : m = 0 → al = none ∧ cap = 0) (hm : m ≤ 2)
    (h : ∀ v' w', w'.ownsRow w.heap.size 22 1 v' (1 + m) (.slice aw lw kw :: cellsL S m) → Below w.heap.size w w' → K (a.put o.dst v') w') : o.wp Try.prog a w1 K Q := by
  obtain ⟨i0, hi, hz0, hz1, hz2⟩ := info_parts Try.infoLL
  have hB : Below w.heap.size w w1 := by rw [hw1]; exact bel_more (Below.refl _ _) _
  have hown : w1.ownsRow w.heap.size 22 1 (.slice (some ⟨w.heap.size, 0, none⟩) 1 1) 1 [.slice aw lw kw] := by
    refine ⟨rfl, .inr ⟨w.heap.size, 1, #[.slice aw lw kw], rfl, Nat.le_refl _, ?_, by omega, by unfold maxLen; omega, rfl, rfl⟩⟩
    rw [hw1]; exact heap_alloc_new w _
  by_cases hm0 : m = 0
  · subst hm0
    obtain ⟨rfl, rfl⟩ := h0 rfl
    have hrun := run_append_owned_none (P := Try.prog) w1 w.heap.size 39 o.type 22 i0 1 Try.underlying39 hi _ 1 _ hown
    unfold Oper.wp
    simp [execOp, ho, resolve, invoke, builtin, hs, hx, hrun, Result.andThen]
    exact h _ _ hown hB
  · obtain ⟨b, off, rfl, hc0, _⟩ := hr 0 (by omega)
    have hnew : ∀ j u, (cellsL S m)[j]? = some u → w1.cell? (Addr.add ⟨b, off, none⟩ j) = some u := fun j u hj => by
      have hlt : j < m := by have := (List.getElem?_eq_some_iff.1 hj).1; rwa [cellsL_len] at this
      obtain ⟨b', off', e, hc, _⟩ := hr j hlt
      simp at e
      obtain ⟨rfl, rfl⟩ := e
      rw [cellsL_at hlt] at hj
      rw [add_flat, cell_step hB hc]
      exact hj
    have hold : ∀ j u, [Value.slice aw lw kw][j]? = some u → w1.cell? (Addr.add ⟨w.heap.size, 0, none⟩ j) = some u := fun j u hj => by
      have hlt : j < 1 := by have := (List.getElem?_eq_some_iff.1 hj).1; simpa using this
      obtain rfl : j = 0 := by omega
      rw [add_flat, hw1]
      simp at hj
      rw [← hj]
      exact new1 _ _
    obtain ⟨v', w', hrun, r1, r2⟩ := run_append_arg_grows (P := Try.prog) w1 39 o.type 22 i0 (.slice none 0 0) 1 24 Try.underlying39 hi hz0 hz1 hz2 rfl (by decide) ⟨w.heap.size, 0, none⟩ 1 1 [.slice aw lw kw] rfl hold ⟨b, off, none⟩ m cap (cellsL S m) (by rw [cellsL_len]; omega) hnew (by omega) (by unfold maxLen; omega) (by omega)
    unfold Oper.wp
    simp [execOp, ho, resolve, invoke, builtin, hs, hx, hrun, Result.andThen]
    have hsz : w.heap.size ≤ w1.heap.size := hB.size
    refine h v' w' ?_ (hB.grown r2 hB.size (by simp))
    obtain ⟨h1, h2 | ⟨g, c2, cur, h3, h4, h5⟩⟩ := r1
    · exact ⟨h1, .inl h2⟩
    · exact ⟨h1, .inr ⟨g, c2, cur, h3, Nat.le_trans hsz h4, h5⟩⟩
theorem rr_owns {w w' : World} {aw : Option Addr} {lw kw : Nat} {fw : Nat → Int} {al : Option Addr} {m : Nat} {S : Nat → Option Addr × Nat × Nat} {F : Nat → Nat → Int} {v : Value} (h : w'.ownsRow w.heap.size 22 1 v (1 + m) (.slice aw lw kw :: cellsL S m)) (hb : Below w.heap.size w w') (hl : lw ≤ maxLen) (hw : Row w aw lw fw) (hr : RR w al m S F) :
    ∃ g cap, v = .slice (some ⟨g, 0, none⟩) (1 + m) cap ∧ RR w' (some ⟨g, 0, none⟩) (1 + m) (cns (aw, lw, kw) S) (cns fw F) := by
  obtain ⟨g, cap, rfl⟩ := owns_form h (by omega)
  refine ⟨g, cap, rfl, fun k hk => ?_⟩
  have hc := h.cellAt k (by omega)
  cases k with
  | zero => exact ⟨g, 0, rfl, hc, hl, hw.below hb⟩
  | succ k =>
    obtain ⟨b, off, e, _, hl2, hr2⟩ := hr k (by omega)
    refine ⟨g, 0, rfl, ?_, hl2, hr2.below hb⟩
    rw [Nat.zero_add, hc, List.getElem?_cons_succ]
    exact cellsL_at (by omega)
/-- What Sum must answer. -/
def SumIs (N : Int) (m : Nat) (aw : Option Addr × Nat × Nat) (f : Nat → Int) (S : Nat → Option Addr × Nat × Nat) (F : Nat → Nat → Int) (s c : Int) : Prop :=
  (2 < m ∧ c = 2 ∧ s = 0) ∨ (m ≤ 2 ∧ WChk N (1 + m) (cns aw S) (cns f F) c ∧ ((c ≠ 0 ∧ s = 0) ∨ (c = 0 ∧ s = ((wsum N.toNat m f F : Nat) : Int))))
def SumPost (N : Int) (m : Nat) (aw : Option Addr × Nat × Nat) (f : Nat → Int) (S : Nat → Option Addr × Nat × Nat) (F : Nat → Nat → Int) (e : Ending) : Prop := ∃ s c, e = .returned (.tuple #[.int .i64 s, .int .i64 c]) ∧ SumIs N m aw f S F s c
theorem mul_wrap3 {A B : Nat} (hA : A ≤ 1000000) (hB : B ≤ 1000) : wrap64 ((A : Int) * (B : Int)) = ((A * B : Nat) : Int) := by
  have h := Nat.mul_le_mul hA hB
  rw [← Int.natCast_mul]
  generalize A * B = m at *
  exact IntWalk.wrap64_in _ ⟨by omega, by omega⟩

set_option maxHeartbeats 4000000 in
theorem sum_any (N : Int) (aw : Option Addr) (lw kw : Nat) (f : Nat → Int) (al : Option Addr) (m cap : Nat) (S : Nat → Option Addr × Nat × Nat) (F : Nat → Nat → Int) (w : World) (hlw : lw ≤ maxLen) (hm : m ≤ maxLen) (hw : Row w aw lw f) (hr : RR w al m S F) (h0 : m = 0 → al = none ∧ cap = 0) :
    Calls Try.prog 17 #[.int .i64 N, .slice aw lw kw, .slice al m cap] w fun e w' => SumPost N m (aw, lw, kw) f S F e ∧ Below w.heap.size w w' := by
  unfold maxLen at hm
  have HW : Hid (Row w aw lw f) := hw
  have HR : Hid (RR w al m S F) := hr
  have H0 : Hid (m = 0 → al = none ∧ cap = 0) := h0
  clear hw hr h0
  by_cases hm2 : m ≤ 2
  · have g2 : ¬ 2 < (m : Int) := by omega
    go_enter Try.func17, Try.ntmps17
    go_wp2_with (at_builtin; refine wpList_plain rfl (fun K hK' => ?_); refine wp_lists w _ _ _ rfl aw lw kw rfl rfl al m cap S F rfl HR.out H0.out hm2 ?_; intro v' w1 hown hb1; refine hK' _ _ ?_; clear hK')
    obtain ⟨g, cp, rfl, hrr⟩ := rr_owns hown hb1 hlw HW.out HR.out
    have HB1 : Hid (Below w.heap.size w w1) := hb1
    have HRR : Hid (RR w1 (some ⟨g, 0, none⟩) (1 + m) (cns (aw, lw, kw) S) (cns f F)) := hrr
    have HW1 : Hid (Row w1 aw lw f) := HW.out.below hb1
    have HR1 : Hid (RR w1 al m S F) := HR.out.below hb1
    clear hown hb1 hrr HW HR
    go_wp2_with fail
    refine (wCheck_any N _ (1 + m) cp _ _ _ (by unfold maxLen; omega) HRR.out).mono ?_
    rintro e w' ⟨⟨c, rfl, hc⟩, rfl⟩
    clear HRR
    have HC : Hid (WChk N (1 + m) (cns (aw, lw, kw) S) (cns f F) c) := hc
    by_cases hz : c = 0
    · subst hz
      obtain ⟨n, rfl, hn6, hfr, hin⟩ := hc.good
      have q0 : lw = pw n := hfr 0 (by omega)
      have HQ : Hid (∀ j, j < m → (S j).2.1 = pw n) := fun j hj => hfr (j + 1) (by omega)
      have i0 : ∀ y, y < lw → 0 ≤ f y ∧ f y ≤ 1000 := hin 0 (by omega)
      have HI : Hid (∀ j, j < m → ∀ y, y < (S j).2.1 → 0 ≤ F j y ∧ F j y ≤ 1000) := fun j hj => hin (j + 1) (by omega)
      have hpos := pw_pos n
      have hps := pw6 hn6
      clear hfr hin hc
      subst q0
      obtain ⟨b0, o0, rfl, w0⟩ := wr_of HW1.out i0 hpos
      have HWR : Hid (WR w1 b0 o0 (pw n) (nt f)) := w0
      have HGB : Hid (∀ x, x < pw n → ∀ j, j < m → nt (F j) x ≤ 1000) := fun x hx j hj => by
        have := HI.out j hj x (by rw [HQ.out j hj]; exact hx)
        unfold nt; omega
      have HPB : Hid (∀ x, x < pw n → ∀ j, j ≤ m → prd (nt f) (fun j => nt (F j)) x j ≤ 1000 ^ (j + 1)) := fun x hx j hj => prd_le (HWR.out x hx).2 j (fun i hi => HGB.out x hx i (by omega))
      have HPS : Hid (∀ x, x < pw n → prd (nt f) (fun j => nt (F j)) x m ≤ 1000000000) := fun x hx => by
        have h1 := HPB.out x hx m (Nat.le_refl _)
        have h2 : 1000 ^ (m + 1) ≤ 1000 ^ 3 := Nat.pow_le_pow_right (by decide) (by omega)
        exact Nat.le_trans h1 (Nat.le_trans h2 (by decide))
      have HP2 : Hid (∀ x, x < pw n → ∀ j, j < m → prd (nt f) (fun j => nt (F j)) x j ≤ 1000000) := fun x hx j hj => by
        have h1 := HPB.out x hx j (by omega)
        have h2 : 1000 ^ (j + 1) ≤ 1000 ^ 2 := Nat.pow_le_pow_right (by decide) (by omega)
        exact Nat.le_trans h1 (Nat.le_trans h2 (by decide))
      clear HW1 w0 i0 HPB
      obtain ⟨φ, Hφ⟩ : ∃ φ, Hid ((fun x => prd (nt f) (fun j => nt (F j)) x m) = φ) := ⟨_, rfl⟩
      have HSB : Hid (∀ k, k ≤ pw n → sumTo φ k ≤ k * 1000000000) := fun k hk => by
        rw [← Hφ.out]
        exact sumTo_le k (fun x hx => HPS.out x (by omega))
      generalize hM : pw n = M at *
      go_wp2_with fail
      go_loop [9, 28] (fun s i => ∃ k : Nat, k ≤ M ∧ s = .int .i64 (sumTo φ k : Nat) ∧ i = .int .i64 k) (fun _ i => M - (intOf i).toNat)
      case atStart => exact ⟨0, Nat.zero_le _, rfl, rfl⟩
      case round =>
        obtain ⟨k, hk, rfl, rfl⟩ := hrel
        by_cases hlt : k < M
        · have d0 := (HWR.out k hlt).1
          have hlt' : (k : Int) < (M : Int) := by omega
          have hs1 := HSB.out k hk
          have hs2 := HPS.out k hlt
          have HE : Hid (sumTo φ (k + 1) = sumTo φ k + prd (nt f) (fun j => nt (F j)) k m) := by rw [← Hφ.out]; rfl
          go_wp2_with fail
          go_loop [11, 35] (fun s i => ∃ j : Nat, j ≤ m ∧ s = .int .i64 (prd (nt f) (fun j => nt (F j)) k j : Nat) ∧ i = .int .i64 j) (fun _ i => m - (intOf i).toNat)
          case atStart => exact ⟨0, Nat.zero_le _, rfl, rfl⟩
          case round =>
            obtain ⟨j, hj, rfl, rfl⟩ := hrel
            by_cases hjl : j < m
            · obtain ⟨b, off, rfl, hc, _, hrow⟩ := HR1.out j hjl
              have hq := HQ.out j hjl
              rw [hq] at hc hrow
              obtain ⟨b', o', e', hwr⟩ := wr_of hrow (fun y hy => HI.out j hjl y (by rw [hq]; exact hy)) (by omega)
              rw [e'] at hc
              have d1 := (hwr k hlt).1
              have hjl' : (j : Int) < (m : Int) := by omega
              have hmw := mul_wrap3 (HP2.out k hlt j hjl) (HGB.out k hlt j hjl)
              have HE2 : Hid (prd (nt f) (fun j => nt (F j)) k (j + 1) = prd (nt f) (fun j => nt (F j)) k j * nt (F j) k) := rfl
              clear hrow hwr hq e'
              generalize (S j).2.2 = r3 at *
              generalize prd (nt f) (fun j => nt (F j)) k j = A at *
              generalize nt (F j) k = B at *
              generalize A * B = AB at *
              go_wp2_with fail
              go_round
              case rel => exact ⟨j + 1, by omega, by rw [HE2.out]; go_num, by go_num⟩
              case measure => simp [intOf]; omega
            · obtain rfl : j = m := by omega
              go_wp2_with fail
              go_round
              case rel => exact ⟨k + 1, by omega, by rw [HE.out]; go_num, by go_num⟩
              case measure => simp [intOf]; omega
        · obtain rfl : k = M := by omega
          have HS : Hid (((wsum (n : Int).toNat m f F : Nat) : Int) = ((sumTo φ k : Nat) : Int)) := by
            rw [Hid, ← Hφ.out]; unfold wsum; rw [Int.toNat_natCast, hM]
          clear HSB
          go_wp2_with fail
          go_ret2
          exact ⟨⟨_, _, rfl, .inr ⟨hm2, HC.out, .inr ⟨rfl, HS.out.symm⟩⟩⟩, HB1.out⟩
    · have hne : (c != 0) = true := by simpa using hz
      have HZ : Hid (c ≠ 0) := hz
      clear hc hz
      go_wp2_with fail
      go_ret2
      exact ⟨⟨_, _, rfl, .inr ⟨hm2, HC.out, .inl ⟨HZ.out, rfl⟩⟩⟩, HB1.out⟩
  · have g2 : 2 < (m : Int) := by omega
    have HG : Hid (2 < m) := Nat.lt_of_not_le hm2
    go_enter Try.func17, Try.ntmps17
    go_wp2_with fail
    go_ret2
    exact ⟨⟨_, _, rfl, .inl ⟨HG.out, rfl, rfl⟩⟩, Below.refl _ _⟩
end Go.Proofs.Ytoagfjikjdacoaa
