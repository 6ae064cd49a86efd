/-
  What the reference's LatticeMu answers. Conditions: a lattice of at most forty elements, two of them.
-/
import Derived.Test.YtgdbldfbhiaepabOfP
import Derived.Test.YtgdbldfbhiaepabSumQ
namespace Go.Proofs.Ytgdbldfbhiaepab
open Go.RowKit Go.Maps

def leB (m : Nat → Nat → Nat) (x y : Nat) : Bool := m x y == x
set_option maxHeartbeats 1000000 in
theorem under_any (n b1 o1 ca : Nat) (b2 : Option Addr) (lb cb : Nat) (R1 : Nat → Nat × Nat × Nat) (m : Nat → Nat → Nat) (x y : Nat) (w : World) (v : Bool) (hv : leB m x y = v) (ht1 : Tb w b1 o1 n R1 m) (hx : x < n) (hy : y < n) :
    Calls Try.prog 18 #[.agg #[.int .i64 (n : Int), .slice (some ⟨b1, o1, none⟩) n ca, .slice b2 lb cb], .int .i64 (x : Nat), .int .i64 (y : Nat)] w fun e w' => e = .returned (.bool v) ∧ Below w.heap.size w w' := by
  have B1 : Below w.heap.size w (w.alloc (.cells #[.int .i64 (n : Int), .slice (some ⟨b1, o1, none⟩) n ca, .slice b2 lb cb] 24)) := (Below.refl _ _).alloc (Nat.le_refl _) _
  have ht := ht1.step B1
  have HB : Hid (Below w.heap.size w (w.alloc (.cells #[.int .i64 (n : Int), .slice (some ⟨b1, o1, none⟩) n ca, .slice b2 lb cb] 24))) := B1
  have r1 := (ht x hx).1
  have r2 := (ht x hx).2 y hy
  have i1 : (x : Int) < (n : Int) := by omega
  have i2 : (y : Int) < (n : Int) := by omega
  have hq : (((m x y : Nat) : Int) == ((x : Nat) : Int)) = v := by rw [int_beq]; exact hv
  clear ht ht1 B1 hv
  go_enter Try.func18, Try.ntmps18
  go_wp2_with fail
  go_ret
  exact ⟨rfl, HB.out⟩

theorem Try.info4 : (Try.prog.info? 4).map (fun i => (i.zero, i.size, i.bytes)) = some (some (.bool false), 1, 1) := by kernel_rfl
/-- A slice of truths of the call's own. -/
def OwnB (w : World) (b n : Nat) (s : Nat → Bool) : Prop := ∀ k, k < n → w.cell? ⟨b, k, none⟩ = some (.bool (s k)) ∧ w.frozen? ⟨b, k, none⟩ = false
theorem ownB_made {w : World} {base b m : Nat} (h : w.ownsRow base 4 1 (.slice (some ⟨b, 0, none⟩) m m) m (madeCells (Value.bool false).cells (m * 1)).toList) : OwnB w b m (fun _ => false) := by
  intro k hk
  refine ⟨?_, h.frozenAt k⟩
  rw [h.cellAt k (by omega)]
  have e : (Value.bool false).cells = #[Value.bool false] := rfl
  rw [e, toList_madeCells_one]
  simp [hk]
theorem OwnB.below {w w' : World} {b n : Nat} {s : Nat → Bool} (h : OwnB w b n s) (hB : Below w.heap.size w w') : OwnB w' b n s := fun k hk =>
  ⟨(hB.cell (World.block_lt_of_cell? _ _ (h k hk).1)).trans (h k hk).1, (hB.frozen (World.block_lt_of_cell? _ _ (h k hk).1)).trans (h k hk).2⟩
def updB (d : Nat → Bool) (u : Nat) (v : Bool) (k : Nat) : Bool := if k = u then v else d k
theorem OwnB.set {w : World} {b n : Nat} {d : Nat → Bool} (h : OwnB w b n d) (u : Nat) (v : Bool) : OwnB (w.setCell ⟨b, u, none⟩ (.bool v)) b n (updB d u v) := by
  intro k hk
  refine ⟨?_, by rw [World.frozen?_setCell]; exact (h k hk).2⟩
  by_cases e : k = u
  · subst e; rw [World.cell?_setCell_same _ _ _ (h k hk).1]; simp [updB]
  · rw [World.cell?_setCell_other _ _ _ _ (fun e2 => e (by injection e2 with _ h2; exact h2.symm)), (h k hk).1]; simp [updB, e]
theorem OwnB.far {w : World} {b c n u : Nat} {d : Nat → Bool} (h : OwnB w b n d) (hne : b ≠ c) (v : Value) : OwnB (w.setCell ⟨c, u, none⟩ v) b n d := fun k hk =>
  ⟨(World.cell?_setCell_other _ _ _ _ (fun e2 => hne (by injection e2 with h1 _; exact h1.symm))).trans (h k hk).1, by rw [World.frozen?_setCell]; exact (h k hk).2⟩
theorem OwnI.far {w : World} {b c n u : Nat} {F : Nat → Int} (h : OwnI w b n F) (hne : b ≠ c) (v : Value) : OwnI (w.setCell ⟨c, u, none⟩ v) b n F := fun k hk =>
  ⟨(World.cell?_setCell_other _ _ _ _ (fun e2 => hne (by injection e2 with h1 _; exact h1.symm))).trans (h k hk).1, by rw [World.frozen?_setCell]; exact (h k hk).2⟩

/-- What is added up for z. -/
def cnd (m : Nat → Nat → Nat) (x z u : Nat) : Bool := (u != z) && leB m x u && leB m u z
def rdy (m : Nat → Nat → Nat) (d : Nat → Bool) (x z : Nat) : Nat → Bool
  | 0 => !d z && leB m x z
  | k + 1 => if cnd m x z k = true then rdy m d x z k && d k else rdy m d x z k
def smL (m : Nat → Nat → Nat) (M : Nat → Int) (x z k : Nat) : Int := sumI (fun u => if cnd m x z u = true then M u else 0) k
theorem rdy_iff {m : Nat → Nat → Nat} {d : Nat → Bool} {x z : Nat} : ∀ k, rdy m d x z k = true ↔ (d z = false ∧ leB m x z = true) ∧ ∀ u, u < k → cnd m x z u = true → d u = true
  | 0 => by simp [rdy]
  | k + 1 => by
    rw [rdy]
    cases hc : cnd m x z k
    · simp only [Bool.false_eq_true, if_false, rdy_iff k]
      constructor
      · rintro ⟨h1, h2⟩
        refine ⟨h1, fun u hu hcu => ?_⟩
        by_cases e : u = k
        · subst e; rw [hc] at hcu; cases hcu
        · exact h2 u (by omega) hcu
      · rintro ⟨h1, h2⟩; exact ⟨h1, fun u hu => h2 u (by omega)⟩
    · simp only [if_true, Bool.and_eq_true, rdy_iff k]
      constructor
      · rintro ⟨⟨h1, h2⟩, h3⟩
        refine ⟨h1, fun u hu hcu => ?_⟩
        by_cases e : u = k
        · subst e; exact h3
        · exact h2 u (by omega) hcu
      · rintro ⟨h1, h2⟩; exact ⟨⟨h1, fun u hu => h2 u (by omega)⟩, h2 k (by omega) hc⟩
/-- What is done is right. -/
def OkL (m : Nat → Nat → Nat) (q x : Nat) (d : Nat → Bool) (M : Nat → Int) : Prop := ∀ z, z < q → d z = true → leB m x z = true ∧ M z = muL m q x z
/-- What must be done by now. -/
def Prg (m : Nat → Nat → Nat) (q x t : Nat) (d : Nat → Bool) : Prop := ∀ z, z < q → leB m x z = true → rkC (sB m) q z < t → d z = true
def Prz (m : Nat → Nat → Nat) (q x t k : Nat) (d : Nat → Bool) : Prop := ∀ z, z < k → z < q → leB m x z = true → rkC (sB m) q z < t + 1 → d z = true
section
variable {m j : Nat → Nat → Nat} {q x : Nat} {d : Nat → Bool} {M : Nat → Int}
theorem muL_sum (hl : Lat q m j) (hx : x < q) {z : Nat} (hz : z < q) (hne : z ≠ x) (hle : leB m x z = true) (hM : ∀ u, u < q → cnd m x z u = true → M u = muL m q x u) : muL m q x z = -smL m M x z q := by
  have h1 : muL m q x z = oneA x z - sumI (fun l => if sB m l z = true then muL m q x l else 0) q := mu1_eq hl.rk hz
  rw [h1]
  have e : sumI (fun l => if sB m l z = true then muL m q x l else 0) q = smL m M x z q := by
    unfold smL
    refine sumI_congr q fun u hu => ?_
    unfold cnd
    by_cases euz : u = z
    · subst euz; rw [sB_irr]; simp
    · cases hz2 : leB m u z
      · have : sB m u z = false := by unfold leB at hz2; simp [sB, hz2]
        rw [this]; simp
      · have hs : sB m u z = true := by unfold leB at hz2; simp [sB, hz2, euz]
        rw [hs]
        cases hxu : leB m x u
        · have h0 : muL m q x u = 0 := by
            refine mu1_zero hl.rk hl.tr hx (rkC (sB m) q u + 1) u hu (by omega) (fun e => ?_) ?_
            · subst e
              have : m x x = x := (hl.lm.at hx hx hx).1
              simp [leB, this] at hxu
            · unfold leB at hxu; simp [sB, hxu]
          simp [h0]
        · have := hM u hu (by unfold cnd; simp [euz, hxu, hz2])
          simp [euz, this]
  rw [e]
  have : oneA x z = 0 := by simp [oneA, hne]
  omega
theorem OkL.upd (hok : OkL m q x d M) {z : Nat} (hle : leB m x z = true) : OkL m q x (updB d z true) (updI M z (muL m q x z)) := fun u hu hd => by
  by_cases e : u = z
  · subst e; exact ⟨hle, updI_same _ _ _⟩
  · unfold updB at hd
    rw [if_neg e] at hd
    rw [updI_other _ _ _ _ e]
    exact hok u hu hd
theorem Prg.upd {t z : Nat} (h : Prg m q x t d) : Prg m q x t (updB d z true) := fun u hu hle hr => by
  unfold updB; split
  · rfl
  · exact h u hu hle hr
theorem Prz.upd {t k : Nat} (h : Prz m q x t k d) : Prz m q x t (k + 1) (updB d k true) := fun u hk hu hle hr => by
  unfold updB; split
  · rfl
  · exact h u (by omega) hu hle hr
theorem Prz.skip (hl : Lat q m j) {t k : Nat} (hk : k < q) (h : Prz m q x t k d) (hp : Prg m q x t d) (hnr : rdy m d x k q = false) : Prz m q x t (k + 1) d := fun u hu huq hle hr => by
  by_cases e : u = k
  · subst e
    cases hd : d u
    · exfalso
      have hyes : rdy m d x u q = true := (rdy_iff q).2 ⟨⟨hd, hle⟩, fun v hv hc => by
        have hc' := hc
        unfold cnd at hc'
        simp only [Bool.and_eq_true, bne_iff_ne] at hc'
        have hs : sB m v u = true := by
          have h2 := hc'.2
          unfold leB at h2
          simp only [beq_iff_eq] at h2
          rw [sB_iff]; exact ⟨hc'.1.1, h2⟩
        exact hp v hv hc'.1.2 (by have := hl.rk v u hv huq hs; omega)⟩
      rw [hyes] at hnr; cases hnr
    · rfl
  · exact h u (by omega) huq hle hr
theorem Prz.done {t : Nat} (h : Prz m q x t q d) : Prg m q x (t + 1) d := fun u hu hle hr => h u hu hu hle hr
end
end Go.Proofs.Ytgdbldfbhiaepab
