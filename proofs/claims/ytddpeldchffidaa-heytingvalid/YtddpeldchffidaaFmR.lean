/-
  Plain facts on formulas: how many are in one another, and what is wrong with one. No condition.
  Plain facts on what formulas come to in a lattice. No condition.
  Formulas in the memory: how a value reads as a formula. No condition.
-/
import Derived.Test.YtddpeldchffidaaRows
import Derived.Test.YtddpeldchffidaaHeyM
import Derived.Test.YtddpeldchffidaaTabs
namespace Go.Proofs.Ytddpeldchffidaa

/-- A formula: its kind, its variable, and what is in it (the leaf is none: it fills the places behind). -/
structure FT where
  node ::
  d : Option (Int × Int × Nat)
  kids : Nat → d.isSome = true → FT
abbrev FT.leaf : FT := .node none (fun _ h => absurd h (by decide))
abbrev FT.mk (k x : Int) (n : Nat) (kid : Nat → FT) : FT := .node (some (k, x, n)) (fun i _ => kid i)
theorem FT.ind {P : FT → Prop} (leaf : P .leaf) (mk : ∀ (k x : Int) (n : Nat) (kid : Nat → FT), (∀ i, P (kid i)) → P (.mk k x n kid)) : ∀ T, P T
  | .node none kids => by
    have e : kids = fun _ h => absurd h (by decide) := by funext _ h; exact absurd h (by decide)
    rw [e]; exact leaf
  | .node (some (k, x, n)) kids => mk k x n (fun i => kids i rfl) (fun i => FT.ind leaf mk (kids i rfl))
def foldI (f : Nat → Int → Int) (s : Int) : Nat → Int
  | 0 => s
  | i + 1 => f i (foldI f s i)
def foldN (f : Nat → Nat → Nat) (s : Nat) : Nat → Nat
  | 0 => s
  | i + 1 => f i (foldN f s i)
/-- How many formulas are left of m. -/
def lf : FT → Int → Int
  | .node none _, m => m - 1
  | .node (some (_, _, n)) kid, m => foldI (fun i a => if a < 0 then a else lf (kid i rfl) a) (m - 1) n
/-- How many there are. -/
def sz : FT → Nat
  | .node none _ => 1
  | .node (some (_, _, n)) kid => foldN (fun i a => a + sz (kid i rfl)) 1 n
/-- The reference's count. -/
def fc : FT → Int → Int
  | .node none _, m => if m < 1 then m + 1 else 1
  | .node (some (_, _, n)) kid, m => if m < foldI (fun i a => if a ≤ m then a + fc (kid i rfl) (m - a) else a) 1 n then m + 1 else foldI (fun i a => if a ≤ m then a + fc (kid i rfl) (m - a) else a) 1 n
/-- What is wrong. -/
def cf : FT → Int
  | .node none _ => 0
  | .node (some (k, x, n)) kid => if k < 1 ∨ 5 < k then 7 else if (k < 3 ∧ n ≠ 0) ∨ (3 ≤ k ∧ n ≠ 2) then 1 else if x < 0 ∨ 2 < x ∨ (k ≠ 2 ∧ x ≠ 0) then 3 else foldI (fun i e => if e ≠ 0 then e else cf (kid i rfl)) 0 n
def lfK (kid : Nat → FT) (m : Int) (i : Nat) : Int := foldI (fun i a => if a < 0 then a else lf (kid i) a) (m - 1) i
def szK (kid : Nat → FT) (i : Nat) : Nat := foldN (fun i a => a + sz (kid i)) 1 i
def fcK (kid : Nat → FT) (m : Int) (i : Nat) : Int := foldI (fun i a => if a ≤ m then a + fc (kid i) (m - a) else a) 1 i
def cfK (kid : Nat → FT) (i : Nat) : Int := foldI (fun i e => if e ≠ 0 then e else cf (kid i)) 0 i
theorem lf_eq (k x : Int) (n : Nat) (kid : Nat → FT) (m : Int) : lf (.mk k x n kid) m = lfK kid m n := rfl
theorem sz_eq (k x : Int) (n : Nat) (kid : Nat → FT) : sz (.mk k x n kid) = szK kid n := rfl
theorem fc_eq (k x : Int) (n : Nat) (kid : Nat → FT) (m : Int) : fc (.mk k x n kid) m = if m < fcK kid m n then m + 1 else fcK kid m n := rfl
theorem cf_eq (k x : Int) (n : Nat) (kid : Nat → FT) : cf (.mk k x n kid) = if k < 1 ∨ 5 < k then 7 else if (k < 3 ∧ n ≠ 0) ∨ (3 ≤ k ∧ n ≠ 2) then 1 else if x < 0 ∨ 2 < x ∨ (k ≠ 2 ∧ x ≠ 0) then 3 else cfK kid n := rfl
theorem lfK_succ (kid : Nat → FT) (m : Int) (i : Nat) : lfK kid m (i + 1) = if lfK kid m i < 0 then lfK kid m i else lf (kid i) (lfK kid m i) := rfl
theorem szK_succ (kid : Nat → FT) (i : Nat) : szK kid (i + 1) = szK kid i + sz (kid i) := rfl
theorem fcK_succ (kid : Nat → FT) (m : Int) (i : Nat) : fcK kid m (i + 1) = if fcK kid m i ≤ m then fcK kid m i + fc (kid i) (m - fcK kid m i) else fcK kid m i := rfl
theorem cfK_succ (kid : Nat → FT) (i : Nat) : cfK kid (i + 1) = if cfK kid i ≠ 0 then cfK kid i else cf (kid i) := rfl
theorem szK_mono (kid : Nat → FT) : ∀ i, 1 ≤ szK kid i
  | 0 => Nat.le_refl _
  | i + 1 => by rw [szK_succ]; have := szK_mono kid i; omega
theorem lfK_spec {kid : Nat → FT} (ih : ∀ i m, 0 ≤ m → ((sz (kid i) : Int) ≤ m → lf (kid i) m = m - sz (kid i)) ∧ (m < sz (kid i) → lf (kid i) m < 0) ∧ -1 ≤ lf (kid i) m ∧ lf (kid i) m ≤ m) {m : Int} (hm : 0 ≤ m) :
    ∀ i, ((szK kid i : Int) ≤ m → lfK kid m i = m - szK kid i) ∧ (m < szK kid i → lfK kid m i < 0) ∧ -1 ≤ lfK kid m i ∧ lfK kid m i ≤ m
  | 0 => by
    have e1 : szK kid 0 = 1 := rfl
    have e2 : lfK kid m 0 = m - 1 := rfl
    rw [e1, e2]
    exact ⟨fun _ => rfl, fun h => by omega, by omega, by omega⟩
  | i + 1 => by
    obtain ⟨h1, h2, h3, h4⟩ := lfK_spec ih hm i
    rw [lfK_succ, szK_succ]
    by_cases h : lfK kid m i < 0
    · rw [if_pos h]
      refine ⟨fun q => ?_, fun _ => h, h3, h4⟩
      have := h1 (by omega)
      omega
    · rw [if_neg h]
      have hs : (szK kid i : Int) ≤ m := by
        rcases Int.lt_or_le m (szK kid i : Int) with q | q
        · exact absurd (h2 q) h
        · exact q
      have e := h1 hs
      obtain ⟨k1, k2, k3, k4⟩ := ih i (lfK kid m i) (by omega)
      refine ⟨fun q => ?_, fun q => k2 (by omega), k3, by omega⟩
      rw [k1 (by omega)]; omega
theorem lf_spec : ∀ (T : FT) (m : Int), 0 ≤ m → ((sz T : Int) ≤ m → lf T m = m - sz T) ∧ (m < sz T → lf T m < 0) ∧ -1 ≤ lf T m ∧ lf T m ≤ m := by
  intro T
  induction T using FT.ind with
  | leaf =>
    intro m hm
    show (((1 : Nat) : Int) ≤ m → m - 1 = m - ((1 : Nat) : Int)) ∧ (m < ((1 : Nat) : Int) → m - 1 < 0) ∧ -1 ≤ m - 1 ∧ m - 1 ≤ m
    exact ⟨fun _ => rfl, fun h => by omega, by omega, by omega⟩
  | mk k x n kid IHK =>
    intro m hm
    rw [lf_eq, sz_eq]
    exact lfK_spec (fun i m h => IHK i m h) hm n
theorem lfK_bound {kid : Nat → FT} {m : Int} (hm : 0 ≤ m) (i : Nat) : -1 ≤ lfK kid m i ∧ lfK kid m i ≤ m := (lfK_spec (fun i m h => lf_spec (kid i) m h) hm i).2.2
theorem fcK_spec {kid : Nat → FT} (ih : ∀ i m, 0 ≤ m → ((sz (kid i) : Int) ≤ m → fc (kid i) m = sz (kid i)) ∧ (m < sz (kid i) → fc (kid i) m = m + 1)) {m : Int} (hm : 0 ≤ m) :
    ∀ i, ((szK kid i : Int) ≤ m → fcK kid m i = szK kid i) ∧ (m < szK kid i → fcK kid m i = m + 1)
  | 0 => by
    have e1 : szK kid 0 = 1 := rfl
    have e2 : fcK kid m 0 = 1 := rfl
    rw [e1, e2]
    exact ⟨fun _ => rfl, fun h => by omega⟩
  | i + 1 => by
    obtain ⟨h1, h2⟩ := fcK_spec ih hm i
    rw [fcK_succ, szK_succ]
    by_cases h : fcK kid m i ≤ m
    · rw [if_pos h]
      have hs : (szK kid i : Int) ≤ m := by
        rcases Int.lt_or_le m (szK kid i : Int) with q | q
        · have := h2 q; omega
        · exact q
      have e := h1 hs
      obtain ⟨k1, k2⟩ := ih i (m - fcK kid m i) (by omega)
      refine ⟨fun q => ?_, fun q => ?_⟩
      · rw [k1 (by omega)]; omega
      · rw [k2 (by omega)]; omega
    · rw [if_neg h]
      have hs : m < (szK kid i : Int) := by
        rcases Int.lt_or_le m (szK kid i : Int) with q | q
        · exact q
        · have := h1 q; omega
      refine ⟨fun q => by omega, fun _ => h2 hs⟩
theorem fc_spec : ∀ (T : FT) (m : Int), 0 ≤ m → ((sz T : Int) ≤ m → fc T m = sz T) ∧ (m < sz T → fc T m = m + 1) := by
  intro T
  induction T using FT.ind with
  | leaf =>
    intro m hm
    show (((1 : Nat) : Int) ≤ m → (if m < 1 then m + 1 else 1) = ((1 : Nat) : Int)) ∧ (m < ((1 : Nat) : Int) → (if m < 1 then m + 1 else 1) = m + 1)
    exact ⟨fun h => by rw [if_neg (by omega)]; rfl, fun h => by rw [if_pos (by omega)]⟩
  | mk k x n kid IHK =>
    intro m hm
    obtain ⟨h1, h2⟩ := fcK_spec (fun i m h => IHK i m h) hm n
    rw [fc_eq, sz_eq]
    refine ⟨fun q => ?_, fun q => ?_⟩
    · rw [h1 q, if_neg (by omega)]
    · rw [h2 q, if_pos (by omega)]
theorem fcK_bound {kid : Nat → FT} {m : Int} (hm : 0 ≤ m) (i : Nat) : 1 ≤ fcK kid m i ∧ fcK kid m i ≤ m + 1 := by
  obtain ⟨h1, h2⟩ := fcK_spec (fun i m h => fc_spec (kid i) m h) hm i
  have := szK_mono kid i
  rcases Int.lt_or_le m (szK kid i : Int) with q | q
  · have := h2 q; omega
  · have := h1 q; omega
/-- The two counts tell the same. -/
theorem many_iff (T : FT) : lf T 30 < 0 ↔ 30 < fc T 30 := by
  obtain ⟨h1, h2, _, _⟩ := lf_spec T 30 (by decide)
  obtain ⟨k1, k2⟩ := fc_spec T 30 (by decide)
  rcases Int.lt_or_le 30 (sz T : Int) with q | q
  · have := h2 q; have := k2 q; omega
  · have := h1 q; have := k1 q; omega
end Go.Proofs.Ytddpeldchffidaa
namespace Go.Proofs.Ytddpeldchffidaa

/-- What a formula comes to. -/
def val (q : Nat) (m j : Nat → Nat → Nat) (f : Nat → Nat) : FT → Nat
  | .node none _ => 0
  | .node (some (k, x, _)) kid => if k = 1 then en m q else if k = 2 then f x.toNat else if k = 3 then m (val q m j f (kid 0 rfl)) (val q m j f (kid 1 rfl)) else if k = 4 then j (val q m j f (kid 0 rfl)) (val q m j f (kid 1 rfl)) else imp q m j (val q m j f (kid 0 rfl)) (val q m j f (kid 1 rfl))
/-- A formula that is well made. -/
theorem cf_zero {k x : Int} {n : Nat} {kid : Nat → FT} (h : cf (.mk k x n kid) = 0) :
    (k = 1 ∧ n = 0) ∨ (k = 2 ∧ n = 0 ∧ 0 ≤ x ∧ x ≤ 2) ∨ ((k = 3 ∨ k = 4 ∨ k = 5) ∧ n = 2 ∧ cf (kid 0) = 0 ∧ cf (kid 1) = 0) := by
  rw [cf_eq] at h
  by_cases h1 : k < 1 ∨ 5 < k
  · rw [if_pos h1] at h; omega
  rw [if_neg h1] at h
  by_cases h2 : (k < 3 ∧ n ≠ 0) ∨ (3 ≤ k ∧ n ≠ 2)
  · rw [if_pos h2] at h; omega
  rw [if_neg h2] at h
  by_cases h3 : x < 0 ∨ 2 < x ∨ (k ≠ 2 ∧ x ≠ 0)
  · rw [if_pos h3] at h; omega
  rw [if_neg h3] at h
  by_cases hk : k < 3
  · rcases (by omega : k = 1 ∨ k = 2) with e | e
    · exact .inl ⟨e, by omega⟩
    · exact .inr (.inl ⟨e, by omega, by omega, by omega⟩)
  · have hn : n = 2 := by omega
    subst hn
    rw [show (2 : Nat) = 1 + 1 from rfl, cfK_succ] at h
    have h0 : cfK kid 1 = 0 := by
      by_cases q : cfK kid 1 = 0
      · exact q
      · rw [if_pos q] at h; exact h
    rw [if_neg (by simp [h0])] at h
    have h00 : cfK kid 0 = 0 := rfl
    rw [show (1 : Nat) = 0 + 1 from rfl, cfK_succ, if_neg (by simp [h00])] at h0
    exact .inr (.inr ⟨by omega, rfl, h0, h⟩)
theorem val_lt {q : Nat} {m j : Nat → Nat → Nat} {f : Nat → Nat} (hl : Lat q m j) (h1 : 1 ≤ q) (hf : ∀ i, i < 3 → f i < q) (T : FT) : cf T = 0 → val q m j f T < q := by
  induction T using FT.ind with
  | leaf => exact fun _ => h1
  | mk k x n kid ih =>
    intro h
    rcases cf_zero h with ⟨rfl, _⟩ | ⟨rfl, _, hx1, hx2⟩ | ⟨hk, _, a0, a1⟩
    · exact en_lt h1 hl.im q (Nat.le_refl _)
    · exact hf _ (by omega)
    · have v0 := ih 0 a0
      have v1 := ih 1 a1
      rcases hk with rfl | rfl | rfl
      · exact hl.im _ _ v0 v1
      · exact hl.ij _ _ v0 v1
      · exact imp_lt hl h1 _ _
end Go.Proofs.Ytddpeldchffidaa
namespace Go.Proofs.Ytddpeldchffidaa
set_option maxRecDepth 100000
open Go.RowKit

/-- A value reads as a formula. -/
def FRep (w : World) : FT → Value → Prop
  | .node none _, _ => False
  | .node (some (k, x, n)) kid, v => ∃ (a : Option Addr) (cap : Nat), v = .agg #[.int .i64 k, .int .i64 x, .slice a n cap] ∧ n ≤ maxLen ∧ ∀ i, i < n → ∃ b off, a = some ⟨b, off, none⟩ ∧ ∃ (k' x' : Int) (a' : Option Addr) (n' c' : Nat),
      (w.cell? ⟨b, off + i * 3, none⟩ = some (.int .i64 k') ∧ w.cell? ⟨b, off + i * 3 + 1, none⟩ = some (.int .i64 x') ∧ w.cell? ⟨b, off + i * 3 + 2, none⟩ = some (.slice a' n' c')) ∧ FRep w (kid i rfl) (.agg #[.int .i64 k', .int .i64 x', .slice a' n' c'])
theorem FRep.step {w w' : World} (hb : Below w.heap.size w w') (T : FT) : ∀ v, FRep w T v → FRep w' T v := by
  induction T using FT.ind with
  | leaf => exact fun _ h => h.elim
  | mk k x n kid ih =>
    intro v h
    obtain ⟨a, cap, rfl, hn, hk⟩ := h
    refine ⟨a, cap, rfl, hn, fun i hi => ?_⟩
    obtain ⟨b, off, e, k', x', a', n', c', ⟨h1, h2, h3⟩, h4⟩ := hk i hi
    exact ⟨b, off, e, k', x', a', n', c', ⟨cell_step hb h1, cell_step hb h2, cell_step hb h3⟩, ih i _ h4⟩
theorem lfK_stay {kid : Nat → FT} {m : Int} {i : Nat} (h : lfK kid m i < 0) : ∀ d, lfK kid m (i + d) = lfK kid m i
  | 0 => rfl
  | d + 1 => by
    have e := lfK_stay h d
    rw [show i + (d + 1) = (i + d) + 1 by omega, lfK_succ, e, if_pos h]
theorem fcK_stay {kid : Nat → FT} {m : Int} {i : Nat} (h : m < fcK kid m i) : ∀ d, fcK kid m (i + d) = fcK kid m i
  | 0 => rfl
  | d + 1 => by
    have e := fcK_stay h d
    rw [show i + (d + 1) = (i + d) + 1 by omega, fcK_succ, e, if_neg (by omega)]
theorem cfK_stay {kid : Nat → FT} {i : Nat} (h : cfK kid i ≠ 0) : ∀ d, cfK kid (i + d) = cfK kid i
  | 0 => rfl
  | d + 1 => by
    have e := cfK_stay h d
    rw [show i + (d + 1) = (i + d) + 1 by omega, cfK_succ, e, if_pos h]
set_option maxHeartbeats 2000000 in
theorem leftOf_any (T : FT) : ∀ (m : Int) (v : Value) (w : World), 0 ≤ m → m ≤ 30 → FRep w T v → Calls Try.prog 28 #[.int .i64 m, v] w fun e w' => e = .returned (.int .i64 (lf T m)) ∧ Below w.heap.size w w' := by
  induction T using FT.ind with
  | leaf => exact fun _ _ _ _ _ h => h.elim
  | mk k x n kid ih =>
    intro m v w h0 h30 hf
    obtain ⟨a, cap, rfl, hn, hk⟩ := hf
    have B1 : Below w.heap.size w (w.alloc (.cells #[.int .i64 k, .int .i64 x, .slice a n cap] 27)) := (Below.refl _ _).alloc (Nat.le_refl _) _
    have HB1 : Hid _ := B1
    have HIH : Hid (∀ i (m : Int) (v : Value) (w : World), 0 ≤ m → m ≤ 30 → FRep w (kid i) v → Calls Try.prog 28 #[.int .i64 m, v] w fun e w' => e = .returned (.int .i64 (lf (kid i) m)) ∧ Below w.heap.size w w') := ih
    have HK : Hid (∀ i, i < n → ∃ b off, a = some ⟨b, off, none⟩ ∧ ∃ (k' x' : Int) (a' : Option Addr) (n' c' : Nat), ∀ w', Below w.heap.size w w' →
        (w'.cell? ⟨b, off + i * 3, none⟩ = some (.int .i64 k') ∧ w'.cell? ⟨b, off + i * 3 + 1, none⟩ = some (.int .i64 x') ∧ w'.cell? ⟨b, off + i * 3 + 2, none⟩ = some (.slice a' n' c')) ∧ FRep w' (kid i) (.agg #[.int .i64 k', .int .i64 x', .slice a' n' c'])) := fun i hi => by
      obtain ⟨b, off, e, k', x', a', n', c', ⟨h1, h2, h3⟩, h4⟩ := hk i hi
      exact ⟨b, off, e, k', x', a', n', c', fun w' hb => ⟨⟨cell_step hb h1, cell_step hb h2, cell_step hb h3⟩, FRep.step hb _ _ h4⟩⟩
    have HLE : Hid (lf (.mk k x n kid) m = lfK kid m n) := rfl
    have HBD : Hid (∀ i, -1 ≤ lfK kid m i ∧ lfK kid m i ≤ m) := fun i => lfK_bound h0 i
    have HE0 : Hid (m - 1 = lfK kid m 0) := rfl
    rw [HLE.out]
    have hn' : n ≤ 9223372036854775807 := by unfold maxLen at hn; omega
    clear hk ih B1 HLE hn
    go_enter Try.func28, Try.ntmps28
    go_wp2_with fail
    rw [HE0.out]
    go_loopw [0, 12] (fun z i wx => ∃ t : Nat, t ≤ n ∧ i = .int .i64 (t : Nat) ∧ z = .int .i64 (lfK kid m t) ∧ Hid (Below w.heap.size w wx)) (fun _ i _ => n - (intOf i).toNat)
    case atStart => exact ⟨0, Nat.zero_le _, rfl, rfl, HB1.out⟩
    case round =>
      obtain ⟨t, ht, rfl, rfl, HW⟩ := hrel
      have hbd := HBD.out t
      by_cases htn : t < n
      · have htI : (t : Int) < (n : Int) := by omega
        obtain ⟨b, off, HA, k', x', a', n', c', HC⟩ := HK.out t htn
        obtain ⟨⟨q1, q2, q3⟩, _⟩ := HC _ HW.out
        subst HA
        by_cases hneg : lfK kid m t < 0
        · have HS : Hid (lfK kid m t = lfK kid m n) := by
            have := lfK_stay hneg (n - t)
            rw [show t + (n - t) = n by omega] at this
            exact this.symm
          have HW9 : Hid (∀ o, Below w.heap.size w (wr.alloc o)) := fun o => HW.out.alloc HW.out.size o
          clear HC
          go_wp2_with fail
          go_ret
          exact ⟨by rw [← HS.out]; rfl, HW9.out _⟩
        · have hnn : 0 ≤ lfK kid m t := by omega
          have HSU : Hid (lf (kid t) (lfK kid m t) = lfK kid m (t + 1)) := by rw [Hid, lfK_succ, if_neg hneg]
          have HR : Hid (∀ w', Below w.heap.size w w' → FRep w' (kid t) (.agg #[.int .i64 k', .int .i64 x', .slice a' n' c'])) := fun w' h => (HC w' h).2
          have HW9 : Hid (∀ o, Below w.heap.size w (wr.alloc o)) := fun o => HW.out.alloc HW.out.size o
          clear HC hneg
          go_wp2_with fail
          refine (HIH.out t _ _ _ hnn (by omega) (HR.out _ (HW9.out _))).mono ?_
          rintro e w7 ⟨rfl, hb7⟩
          rw [HSU.out]
          have HW7 : Hid (Below w.heap.size w w7) := Below.then (HW9.out _) hb7
          clear hb7 HW HR HW9 q1 q2 q3
          go_wp2_with fail
          go_roundw
          case rel => exact ⟨t + 1, by omega, by go_num, rfl, HW7.out⟩
          case measure => simp [intOf]; omega
      · obtain rfl : t = n := by omega
        go_wp2_with fail
        go_ret
        exact ⟨rfl, HW.out⟩
end Go.Proofs.Ytddpeldchffidaa
