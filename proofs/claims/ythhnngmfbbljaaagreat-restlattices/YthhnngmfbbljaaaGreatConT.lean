/-
  The search of the reference's LatticeOf, and what lies where while its rows are laid. Conditions: as each theorem says.
  What the reference's search finds among sets that rise: what two have in common, and the least that has both. Conditions: as each theorem says.
  The sets of things of concepts: they rise; what two have in common is one, and what they close to together. Conditions: as each theorem says.
-/
import Derived.Test.YthhnngmfbbljaaaGreatTwoM
import Derived.Test.YthhnngmfbbljaaaGreatTabs
import Derived.Test.YthhnngmfbbljaaaGreatFilM
import Derived.Test.YthhnngmfbbljaaaGreatNxtM
import Derived.Test.YthhnngmfbbljaaaGreatConK
namespace Go.Proofs.YthhnngmfbbljaaaGreat
set_option maxRecDepth 100000
open Go.RowKit

/-- Is z below x and y, and are all such up to z, as far as k? -/
def loB (P : Nat → Nat → Bool) (x y z : Nat) : Nat → Bool
  | 0 => P z x && P z y
  | k + 1 => loB P x y z k && (!P k x || (!P k y || P k z))
def hgB (P : Nat → Nat → Bool) (x y z : Nat) : Nat → Bool
  | 0 => P x z && P y z
  | k + 1 => hgB P x y z k && (!P x k || (!P y k || P z k))
theorem loB_iff {P : Nat → Nat → Bool} {x y z : Nat} : ∀ k, loB P x y z k = true ↔ (P z x = true ∧ P z y = true) ∧ ∀ w, w < k → P w x = true → P w y = true → P w z = true
  | 0 => by
    unfold loB
    rw [Bool.and_eq_true]
    exact ⟨fun h => ⟨h, fun w hw => absurd hw (Nat.not_lt_zero _)⟩, fun h => h.1⟩
  | k + 1 => by
    unfold loB
    rw [Bool.and_eq_true, loB_iff k]
    constructor
    · rintro ⟨⟨h1, h2⟩, h3⟩
      refine ⟨h1, fun w hw a b => ?_⟩
      by_cases e : w = k
      · subst e; simpa [a, b] using h3
      · exact h2 w (by omega) a b
    · rintro ⟨h1, h2⟩
      refine ⟨⟨h1, fun w hw => h2 w (by omega)⟩, ?_⟩
      cases a : P k x
      · rfl
      · cases b : P k y
        · rfl
        · simp [h2 k (by omega) a b]
theorem hgB_is (P : Nat → Nat → Bool) (x y z : Nat) : ∀ k, hgB P x y z k = loB (fun a b => P b a) x y z k
  | 0 => rfl
  | k + 1 => by unfold hgB loB; rw [hgB_is P x y z k]
/-- The last of the first k that is so; or -1. -/
def lst (I : Nat → Bool) : Nat → Int
  | 0 => -1
  | k + 1 => if I k = true then (k : Int) else lst I k
theorem lst_yes {I : Nat → Bool} {k : Nat} (h : I k = true) : lst I (k + 1) = (k : Int) := by simp [lst, h]
theorem lst_no {I : Nat → Bool} {k : Nat} (h : I k = false) : lst I (k + 1) = lst I k := by simp [lst, h]
theorem lst_lt (I : Nat → Bool) : ∀ k, -1 ≤ lst I k ∧ lst I k < k
  | 0 => by simp [lst]
  | k + 1 => by
    have ih := lst_lt I k
    cases h : I k
    · rw [lst_no h]; omega
    · rw [lst_yes h]; omega
theorem lst_is {I : Nat → Bool} : ∀ k z, z < k → I z = true → (∀ z', z' < k → I z' = true → z' = z) → lst I k = z
  | 0, z, hz, _, _ => absurd hz (Nat.not_lt_zero _)
  | k + 1, z, hz, hI, hu => by
    by_cases e : z = k
    · subst e; exact lst_yes hI
    · have : I k = false := by
        cases h : I k
        · rfl
        · exact absurd (hu k (by omega) h) (fun q => e q.symm)
      rw [lst_no this]
      exact lst_is k z (by omega) hI (fun z' hz' h => hu z' (by omega) h)
theorem lst_neg {I : Nat → Bool} : ∀ k, (∀ z, z < k → I z = false) → lst I k = -1
  | 0, _ => rfl
  | k + 1, h => by rw [lst_no (h k (by omega))]; exact lst_neg k (fun z hz => h z (by omega))
def mZ (P : Nat → Nat → Bool) (n x y : Nat) : Int := lst (fun z => loB P x y z n) n
def jZ (P : Nat → Nat → Bool) (n x y : Nat) : Int := lst (fun z => hgB P x y z n) n

/-- The rows, as values. -/
def sv (n : Nat) (R : Nat → Nat × Nat) (x : Nat) : List Value := (List.range x).map fun k => .slice (some ⟨(R k).1, 0, none⟩) n (R k).2
theorem sv_succ (n : Nat) (R : Nat → Nat × Nat) (x b c : Nat) : sv n (fun k => if k = x then (b, c) else R k) (x + 1) = sv n R x ++ [.slice (some ⟨b, 0, none⟩) n c] := by
  unfold sv
  rw [List.range_succ, List.map_append]
  congr 1
  · apply List.map_congr_left
    intro k hk
    have : k ≠ x := by have := List.mem_range.1 hk; omega
    simp [this]
  · simp
theorem sv_len (n : Nat) (R : Nat → Nat × Nat) (x : Nat) : (sv n R x).length = x := by simp [sv]
theorem sv_at (n : Nat) (R : Nat → Nat × Nat) (x k : Nat) (h : k < x) : (sv n R x)[k]? = some (.slice (some ⟨(R k).1, 0, none⟩) n (R k).2) := by simp [sv, h]
theorem owns_keep {w w' : World} {base size n H : Nat} {e : TypeId} {v : Value} {xs : List Value} (h : w.ownsRow base e size v n xs) (hv : ∀ k, v.ownBlock = some k → k < H) (hb : Below H w w') : w'.ownsRow base e size v n xs := by
  refine ⟨h.1, ?_⟩
  rcases h.2 with h2 | ⟨g, cap, cur, hv2, hg, hh, r⟩
  · exact Or.inl h2
  · exact Or.inr ⟨g, cap, cur, hv2, hg, by rw [hb.block g (hv g (by rw [hv2]; rfl))]; exact hh, r⟩
/-- The box: the number, the two tables as far as they are. -/
structure Bo (w : World) (B n : Nat) (vM vJ : Value) : Prop where
  c0 : w.cell? ⟨B, 0, none⟩ = some (.int .i64 (n : Int))
  c1 : w.cell? ⟨B, 1, none⟩ = some vM
  c2 : w.cell? ⟨B, 2, none⟩ = some vJ
  f1 : w.frozen? ⟨B, 1, none⟩ = false
  f2 : w.frozen? ⟨B, 2, none⟩ = false
theorem Bo.keep {w w' : World} {B n H : Nat} {vM vJ : Value} (h : Bo w B n vM vJ) (hb : Below H w w') (hB : B < H) : Bo w' B n vM vJ :=
  ⟨(hb.cell (p := ⟨B, 0, none⟩) hB).trans h.c0, (hb.cell (p := ⟨B, 1, none⟩) hB).trans h.c1, (hb.cell (p := ⟨B, 2, none⟩) hB).trans h.c2, (hb.frozen (p := ⟨B, 1, none⟩) hB).trans h.f1, (hb.frozen (p := ⟨B, 2, none⟩) hB).trans h.f2⟩
theorem Bo.grown {w w' : World} {B n : Nat} {vM vJ : Value} {row : Option Nat} (h : Bo w B n vM vJ) (hg : w.grownBy w' row) (hB : some B ≠ row) : Bo w' B n vM vJ := by
  have hlt : B < w.heap.size := World.block_lt_of_cell? _ _ h.c0
  have hf : ∀ i, w'.frozen? ⟨B, i, none⟩ = w.frozen? ⟨B, i, none⟩ := fun i => by
    unfold World.frozen?
    simp only [hg.block B hlt hB]
  exact ⟨hg.cell h.c0 hB, hg.cell h.c1 hB, hg.cell h.c2 hB, (hf 1).trans h.f1, (hf 2).trans h.f2⟩
/-- x rows of either table are laid, all below block H. -/
structure Lof (w0 : World) (B0 B H n x : Nat) (R1 R2 : Nat → Nat × Nat) (m j : Nat → Nat → Nat) (vM vJ : Value) (w : World) : Prop where
  bel : Below B0 w0 w
  b0 : B0 ≤ B
  bH : B < H
  hs : H ≤ w.heap.size
  bo : Bo w B n vM vJ
  M : w.ownsRow (B + 1) 22 1 vM x (sv n R1 x)
  J : w.ownsRow (B + 1) 22 1 vJ x (sv n R2 x)
  ap : vM.ownBlock = none ∨ vM.ownBlock ≠ vJ.ownBlock
  hM : ∀ k, vM.ownBlock = some k → k < H
  hJ : ∀ k, vJ.ownBlock = some k → k < H
  d1 : Done B H n x R1 m w
  d2 : Done B H n x R2 j w
  a1 : ∀ k, k < x → some (R1 k).1 ≠ vM.ownBlock ∧ some (R1 k).1 ≠ vJ.ownBlock
  a2 : ∀ k, k < x → some (R2 k).1 ≠ vM.ownBlock ∧ some (R2 k).1 ≠ vJ.ownBlock
section
variable {w0 : World} {B0 B H n x : Nat} {R1 R2 : Nat → Nat × Nat} {m j : Nat → Nat → Nat} {vM vJ v1 v2 : Value} {y1 y2 : Nat} {w w' : World}
theorem Lof.keep (h : Lof w0 B0 B H n x R1 R2 m j vM vJ w) (hb : Below H w w') : Lof w0 B0 B H n x R1 R2 m j vM vJ w' :=
  ⟨h.bel.trans (hb.mono (by have := h.b0; have := h.bH; omega)), h.b0, h.bH, Nat.le_trans h.hs hb.size, h.bo.keep hb h.bH, owns_keep h.M h.hM hb, owns_keep h.J h.hJ hb, h.ap, h.hM, h.hJ, h.d1.keep hb (Nat.le_refl _), h.d2.keep hb (Nat.le_refl _), h.a1, h.a2⟩
theorem Lof.step (h : Lof w0 B0 B H n x R1 R2 m j vM vJ w) (hb : Below w.heap.size w w') : Lof w0 B0 B H n x R1 R2 m j vM vJ w' := h.keep (hb.mono h.hs)
/-- Begin a row: what lies there is below the heap's end. -/
theorem Lof.up (h : Lof w0 B0 B H n x R1 R2 m j vM vJ w) : Lof w0 B0 B w.heap.size n x R1 R2 m j vM vJ w :=
  ⟨h.bel, h.b0, Nat.lt_of_lt_of_le h.bH h.hs, Nat.le_refl _, h.bo, h.M, h.J, h.ap, fun k hk => Nat.lt_of_lt_of_le (h.hM k hk) h.hs, fun k hk => Nat.lt_of_lt_of_le (h.hJ k hk) h.hs,
    fun k hk => ⟨⟨(h.d1 k hk).1.1, Nat.lt_of_lt_of_le (h.d1 k hk).1.2 h.hs⟩, (h.d1 k hk).2⟩, fun k hk => ⟨⟨(h.d2 k hk).1.1, Nat.lt_of_lt_of_le (h.d2 k hk).1.2 h.hs⟩, (h.d2 k hk).2⟩, h.a1, h.a2⟩
/-- Two rows of the call's own, side by side, above H. -/
structure Rw (H : Nat) (v1 v2 : Value) (y1 y2 : Nat) (f g : Nat → Nat) (w : World) : Prop where
  r1 : w.ownsRow H 3 1 v1 y1 (rowVals f y1)
  r2 : w.ownsRow H 3 1 v2 y2 (rowVals g y2)
  ap : v1.ownBlock = none ∨ v1.ownBlock ≠ v2.ownBlock
theorem Rw.step {H : Nat} {f g : Nat → Nat} (h : Rw H v1 v2 y1 y2 f g w) (hb : Below w.heap.size w w') : Rw H v1 v2 y1 y2 f g w' := ⟨owns_below h.r1 hb, owns_below h.r2 hb, h.ap⟩
theorem Rw.grow1 {H : Nat} {f g : Nat → Nat} {v : Value} (h : Rw H v1 v2 y1 y2 f g w) (ho : w'.ownsRow H 3 1 v (y1 + 1) (rowVals f y1 ++ [.int .i64 (f y1 : Nat)])) (hg : w.grownBy w' v1.ownBlock) (hk : v.ownBlock = v1.ownBlock ∨ v.ownBlock = some w.heap.size) : Rw H v v2 (y1 + 1) y2 f g w' := by
  refine ⟨by rw [rowVals_succ]; exact ho, h.r2.kept hg ?_, ?_⟩
  · rcases h.ap with e | e
    · by_cases q : v2.ownBlock = none
      · exact .inl q
      · right; rw [e]; exact q
    · exact .inr (fun q => e q.symm)
  · rcases hk with e | e
    · rw [e]; exact h.ap
    · right; rw [e]; intro q
      have := own_lt h.r2 q.symm
      omega
theorem Rw.grow2 {H : Nat} {f g : Nat → Nat} {v : Value} (h : Rw H v1 v2 y1 y2 f g w) (ho : w'.ownsRow H 3 1 v (y2 + 1) (rowVals g y2 ++ [.int .i64 (g y2 : Nat)])) (hg : w.grownBy w' v2.ownBlock) (hk : v.ownBlock = v2.ownBlock ∨ v.ownBlock = some w.heap.size) : Rw H v1 v y1 (y2 + 1) f g w' := by
  refine ⟨h.r1.kept hg ?_, by rw [rowVals_succ]; exact ho, ?_⟩
  · rcases h.ap with e | e
    · exact .inl e
    · exact .inr e
  · rcases hk with e | e
    · rw [e]; exact h.ap
    · by_cases q : v1.ownBlock = none
      · exact .inl q
      · right; rw [e]; intro q2
        have := own_lt h.r1 q2
        omega
/-- What changes while a row is hung into a table: only blocks from B on, and of those laid before just the table's own. -/
structure Hung (B n x : Nat) (R1 R2 : Nat → Nat × Nat) (m j : Nat → Nat → Nat) (b1 c1 b2 c2 : Nat) (vM vJ : Value) (yM yJ : Nat) (R1' R2' : Nat → Nat × Nat) (w : World) : Prop where
  bo : ∀ k, vM.ownBlock = some k ∨ vJ.ownBlock = some k → B < k ∧ k < w.heap.size ∧ k ≠ b1 ∧ k ≠ b2
  M : w.ownsRow (B + 1) 22 1 vM yM (sv n R1' yM)
  J : w.ownsRow (B + 1) 22 1 vJ yJ (sv n R2' yJ)
  ap : vM.ownBlock = none ∨ vM.ownBlock ≠ vJ.ownBlock
  d1 : ∀ k, k < x → (B < (R1 k).1 ∧ (R1 k).1 < w.heap.size ∧ some (R1 k).1 ≠ vM.ownBlock ∧ some (R1 k).1 ≠ vJ.ownBlock) ∧ ∀ i, i < n → w.cell? ⟨(R1 k).1, i, none⟩ = some (.int .i64 (m k i : Nat))
  d2 : ∀ k, k < x → (B < (R2 k).1 ∧ (R2 k).1 < w.heap.size ∧ some (R2 k).1 ≠ vM.ownBlock ∧ some (R2 k).1 ≠ vJ.ownBlock) ∧ ∀ i, i < n → w.cell? ⟨(R2 k).1, i, none⟩ = some (.int .i64 (j k i : Nat))
  e1 : (B < b1 ∧ b1 < w.heap.size) ∧ ∀ i, i < n → w.cell? ⟨b1, i, none⟩ = some (.int .i64 (m x i : Nat))
  e2 : (B < b2 ∧ b2 < w.heap.size) ∧ ∀ i, i < n → w.cell? ⟨b2, i, none⟩ = some (.int .i64 (j x i : Nat))
end
end Go.Proofs.YthhnngmfbbljaaaGreat
namespace Go.Proofs.YthhnngmfbbljaaaGreat
set_option maxRecDepth 100000

/-- Is the a-th set inside the b-th? -/
def insB (l : List Nat) (a b : Nat) : Bool := lack (nth l a) (nth l b) == 0
theorem ins_iff {l : List Nat} {a b : Nat} (ha : nth l a < 1024) (hb : nth l b < 1024) : insB l a b = true ↔ ∀ i, (nth l a).testBit i = true → (nth l b).testBit i = true := by
  unfold insB
  rw [beq_iff_eq]
  exact lack_zero _ _ (by omega) (by omega)
theorem mZ_is {l : List Nat} {m : Nat → Nat → Nat} {x y : Nat} (hr : Rises l) (hs : ∀ k, k < l.length → nth l k < 1024) (hx : x < l.length) (hy : y < l.length) (hm : m x y < l.length ∧ nth l (m x y) = nth l x &&& nth l y) : mZ (insB l) l.length x y = (m x y : Nat) := by
  have sx := hs x hx
  have sy := hs y hy
  have sm := hs _ hm.1
  refine lst_is _ _ hm.1 ?_ ?_
  · show loB (insB l) x y (m x y) l.length = true
    rw [loB_iff]
    refine ⟨⟨(ins_iff sm sx).2 fun i hi => ?_, (ins_iff sm sy).2 fun i hi => ?_⟩, fun k hk h1 h2 => (ins_iff (hs k hk) sm).2 fun i hi => ?_⟩
    · rw [hm.2, Nat.testBit_and, Bool.and_eq_true] at hi; exact hi.1
    · rw [hm.2, Nat.testBit_and, Bool.and_eq_true] at hi; exact hi.2
    · rw [hm.2, Nat.testBit_and, Bool.and_eq_true]
      exact ⟨(ins_iff (hs k hk) sx).1 h1 i hi, (ins_iff (hs k hk) sy).1 h2 i hi⟩
  · intro z hz h
    have h' : loB (insB l) x y z l.length = true := h
    rw [loB_iff] at h'
    obtain ⟨⟨h1, h2⟩, h3⟩ := h'
    refine hr.one hz hm.1 ?_
    apply Nat.eq_of_testBit_eq
    intro i
    have f1 := (ins_iff (hs z hz) sx).1 h1 i
    have f2 := (ins_iff (hs z hz) sy).1 h2 i
    have f3 := (ins_iff sm (hs z hz)).1 (h3 (m x y) hm.1 ((ins_iff sm sx).2 fun i hi => by rw [hm.2, Nat.testBit_and, Bool.and_eq_true] at hi; exact hi.1) ((ins_iff sm sy).2 fun i hi => by rw [hm.2, Nat.testBit_and, Bool.and_eq_true] at hi; exact hi.2)) i
    rw [hm.2, Nat.testBit_and] at f3 ⊢
    rw [Bool.eq_iff_iff]
    constructor
    · intro hi; rw [f1 hi, f2 hi]; rfl
    · exact f3
theorem jZ_is {l : List Nat} {j : Nat → Nat → Nat} {x y : Nat} (hr : Rises l) (hs : ∀ k, k < l.length → nth l k < 1024) (hx : x < l.length) (hy : y < l.length) (hj : j x y < l.length)
    (hu : ∀ i, (nth l x).testBit i = true ∨ (nth l y).testBit i = true → (nth l (j x y)).testBit i = true) (hl : ∀ k, k < l.length → (∀ i, (nth l x).testBit i = true ∨ (nth l y).testBit i = true → (nth l k).testBit i = true) → ∀ i, (nth l (j x y)).testBit i = true → (nth l k).testBit i = true) :
    jZ (insB l) l.length x y = (j x y : Nat) := by
  have sx := hs x hx
  have sy := hs y hy
  have sm := hs _ hj
  have up1 : insB l x (j x y) = true := (ins_iff sx sm).2 fun i hi => hu i (.inl hi)
  have up2 : insB l y (j x y) = true := (ins_iff sy sm).2 fun i hi => hu i (.inr hi)
  refine lst_is _ _ hj ?_ ?_
  · show hgB (insB l) x y (j x y) l.length = true
    rw [hgB_is, loB_iff]
    refine ⟨⟨up1, up2⟩, fun k hk h1 h2 => (ins_iff sm (hs k hk)).2 (hl k hk fun i hi => ?_)⟩
    rcases hi with hi | hi
    · exact (ins_iff sx (hs k hk)).1 h1 i hi
    · exact (ins_iff sy (hs k hk)).1 h2 i hi
  · intro z hz h
    have h' : hgB (insB l) x y z l.length = true := h
    rw [hgB_is, loB_iff] at h'
    obtain ⟨⟨h1, h2⟩, h3⟩ := h'
    refine hr.one hz hj ?_
    apply Nat.eq_of_testBit_eq
    intro i
    have f1 := hl z hz (fun i hi => by
      rcases hi with hi | hi
      · exact (ins_iff sx (hs z hz)).1 h1 i hi
      · exact (ins_iff sy (hs z hz)).1 h2 i hi) i
    have f2 := (ins_iff (hs z hz) sm).1 (h3 (j x y) hj up1 up2) i
    rw [Bool.eq_iff_iff]
    exact ⟨f2, f1⟩
end Go.Proofs.YthhnngmfbbljaaaGreat
namespace Go.Proofs.YthhnngmfbbljaaaGreat
set_option maxRecDepth 100000

variable {h : Nat → Nat} {n m : Nat}
theorem clt_closing (h10 : n ≤ 10) (m10 : m ≤ 10) (hh : ∀ k, k < n → h k < 1024) : Closing n (clt h n m) := by
  refine ⟨fun A hA => ⟨clt_lt _ _ _ _, (lack_iff (set_1024 h10 hA) (ths_1024 h h10 _)).1 (wil_in h10 m10 hh hA), ?_⟩, fun A x hA hx hcl hs i hi => ?_⟩
  · show ths h n (mks h n m (ths h n (mks h n m A))) = _
    rw [wil_same h10 m10 hh hA]; rfl
  · rw [← hcl]
    exact ths_anti hh (mks_1024 h n m10 x) (mks_1024 h n m10 A) (mks_anti hs) i hi
theorem tsets_mem {s : Nat} : s ∈ tsets h n m ↔ s < pw n ∧ clt h n m s = s := by
  unfold tsets
  rw [fil_mem]
  simp [isT]
theorem tsets_pos (h10 : n ≤ 10) (m10 : m ≤ 10) (hh : ∀ k, k < n → h k < 1024) : 1 ≤ (tsets h n m).length := by
  have hc := (clt_closing h10 m10 hh).1 0 (pw_pos n)
  exact List.length_pos_of_mem (tsets_mem.2 ⟨hc.1, hc.2.2⟩)
theorem tsets_len (h : Nat → Nat) (n m : Nat) (h10 : n ≤ 10) : (tsets h n m).length ≤ 1024 := Nat.le_trans (fil_len _ _) (pw_le n h10)
theorem tsets_rises (h : Nat → Nat) (n m : Nat) : Rises (tsets h n m) := fil_rises _ _
theorem tsets_1024 (h10 : n ≤ 10) {k : Nat} (hk : k < (tsets h n m).length) : nth (tsets h n m) k < 1024 := set_1024 h10 (tsets_at hk).1
/-- The places of what two have in common, and of what they close to together. -/
def cnm (h : Nat → Nat) (n m x y : Nat) : Nat := plc (tsets h n m) (nth (tsets h n m) x &&& nth (tsets h n m) y)
def cnj (h : Nat → Nat) (n m x y : Nat) : Nat := plc (tsets h n m) (clt h n m (nth (tsets h n m) x ||| nth (tsets h n m) y))
theorem cnm_is (h10 : n ≤ 10) (m10 : m ≤ 10) (hh : ∀ k, k < n → h k < 1024) {x y : Nat} (hx : x < (tsets h n m).length) (hy : y < (tsets h n m).length) : cnm h n m x y < (tsets h n m).length ∧ nth (tsets h n m) (cnm h n m x y) = nth (tsets h n m) x &&& nth (tsets h n m) y := by
  obtain ⟨a1, a2⟩ := tsets_at hx
  obtain ⟨b1, b2⟩ := tsets_at hy
  have hlt : nth (tsets h n m) x &&& nth (tsets h n m) y < pw n := Nat.lt_of_le_of_lt Nat.and_le_left a1
  obtain ⟨hC1, hC2⟩ := clt_closing (m := m) h10 m10 hh
  refine plc_is (tsets_mem.2 ⟨hlt, ?_⟩)
  obtain ⟨c1, c2, _⟩ := hC1 _ hlt
  apply Nat.eq_of_testBit_eq
  intro i
  rw [Bool.eq_iff_iff]
  constructor
  · intro hi
    rw [Nat.testBit_and, Bool.and_eq_true]
    exact ⟨hC2 _ _ hlt a1 a2 (fun j hj => by rw [Nat.testBit_and, Bool.and_eq_true] at hj; exact hj.1) i hi, hC2 _ _ hlt b1 b2 (fun j hj => by rw [Nat.testBit_and, Bool.and_eq_true] at hj; exact hj.2) i hi⟩
  · exact c2 i
theorem tor_lt {x y : Nat} (hx : x < (tsets h n m).length) (hy : y < (tsets h n m).length) : nth (tsets h n m) x ||| nth (tsets h n m) y < pw n := Nat.or_lt_two_pow (tsets_at hx).1 (tsets_at hy).1
theorem cnj_is (h10 : n ≤ 10) (m10 : m ≤ 10) (hh : ∀ k, k < n → h k < 1024) {x y : Nat} (hx : x < (tsets h n m).length) (hy : y < (tsets h n m).length) : cnj h n m x y < (tsets h n m).length ∧ nth (tsets h n m) (cnj h n m x y) = clt h n m (nth (tsets h n m) x ||| nth (tsets h n m) y) := by
  obtain ⟨c1, _, c3⟩ := (clt_closing (m := m) h10 m10 hh).1 _ (tor_lt hx hy)
  exact plc_is (tsets_mem.2 ⟨c1, c3⟩)
theorem cnm_great (h10 : n ≤ 10) (m10 : m ≤ 10) (hh : ∀ k, k < n → h k < 1024) {x y : Nat} (hx : x < (tsets h n m).length) (hy : y < (tsets h n m).length) : mZ (insB (tsets h n m)) (tsets h n m).length x y = (cnm h n m x y : Nat) :=
  mZ_is (m := cnm h n m) (tsets_rises _ _ _) (fun _ hk => tsets_1024 h10 hk) hx hy (cnm_is h10 m10 hh hx hy)
theorem cnj_least (h10 : n ≤ 10) (m10 : m ≤ 10) (hh : ∀ k, k < n → h k < 1024) {x y : Nat} (hx : x < (tsets h n m).length) (hy : y < (tsets h n m).length) : jZ (insB (tsets h n m)) (tsets h n m).length x y = (cnj h n m x y : Nat) := by
  obtain ⟨h1, h2⟩ := cnj_is h10 m10 hh hx hy
  obtain ⟨hC1, hC2⟩ := clt_closing (m := m) h10 m10 hh
  refine jZ_is (tsets_rises _ _ _) (fun _ hk => tsets_1024 h10 hk) hx hy h1 (fun i hi => ?_) (fun k hk hs i hi => ?_)
  · rw [h2]
    refine (hC1 _ (tor_lt hx hy)).2.1 i ?_
    rw [Nat.testBit_or, Bool.or_eq_true]; exact hi
  · rw [h2] at hi
    obtain ⟨k1, k2⟩ := tsets_at hk
    exact hC2 _ _ (tor_lt hx hy) k1 k2 (fun j hj => by rw [Nat.testBit_or, Bool.or_eq_true] at hj; exact hs j hj) i hi
theorem cons_length (h : Nat → Nat) (n m : Nat) : (cons h n m).length = (tsets h n m).length := by unfold cons; rw [List.length_map]
theorem cons_at {k : Nat} (hk : k < (tsets h n m).length) : (pairAt (cons h n m) k).1 = ((nth (tsets h n m) k : Nat) : Int) := by
  unfold pairAt cons nth
  rw [List.getD_eq_getElem?_getD, List.getD_eq_getElem?_getD, List.getElem?_map, List.getElem?_eq_getElem hk]; rfl
end Go.Proofs.YthhnngmfbbljaaaGreat
