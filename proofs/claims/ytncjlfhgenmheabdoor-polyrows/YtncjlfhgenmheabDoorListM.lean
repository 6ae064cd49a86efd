/-
  Slices of the call's own that hold numbers; a map whose elements are told as they are; lists of sets, counted place by place. Conditions: as each theorem says.
-/
import Derived.Test.YtncjlfhgenmheabDoorPolB
import Derived.Test.YtncjlfhgenmheabDoorIdealsL
import Derived.Test.YtncjlfhgenmheabDoorMemN
import Derived.Maps.OwnSet
import Derived.Laws.EntriesVeiled
namespace Go.Proofs.YtncjlfhgenmheabDoor
open Go.RowKit Go.Maps

theorem Row.congr {w : World} {a : Option Addr} {n : Nat} {F G : Nat → Int} (h : Row w a n F) (e : ∀ k, k < n → F k = G k) : Row w a n G := fun k hk => by
  obtain ⟨b, off, h1, h2⟩ := h k hk
  exact ⟨b, off, h1, by rw [← e k hk]; exact h2⟩

/-- A slice of the call's own at the head of block b. -/
def OwnI (w : World) (b n : Nat) (F : Nat → Int) : Prop := ∀ k, k < n → w.cell? ⟨b, k, none⟩ = some (.int .i64 (F k)) ∧ w.frozen? ⟨b, k, none⟩ = false
def updI (F : Nat → Int) (u : Nat) (v : Int) (k : Nat) : Int := if k = u then v else F k
theorem updI_same (F : Nat → Int) (u : Nat) (v : Int) : updI F u v u = v := by simp [updI]
theorem updI_other (F : Nat → Int) (u : Nat) (v : Int) (k : Nat) (h : k ≠ u) : updI F u v k = F k := by simp [updI, h]
theorem updI_updI (F : Nat → Int) (u : Nat) (x y : Int) : updI (updI F u x) u y = updI F u y := by
  funext i
  by_cases e : i = u
  · subst e; rw [updI_same, updI_same]
  · rw [updI_other _ _ _ _ e, updI_other _ _ _ _ e, updI_other _ _ _ _ e]
/-- The first u of F, noughts behind. -/
def upToI (F : Nat → Int) (u i : Nat) : Int := if i < u then F i else 0
theorem upToI_zero (F : Nat → Int) : upToI F 0 = fun _ => 0 := by funext i; simp [upToI]
theorem upToI_succ (F : Nat → Int) (u : Nat) : upToI F (u + 1) = updI (upToI F u) u (F u) := by
  funext i
  by_cases e : i = u
  · subst e; rw [updI_same]; simp [upToI]
  · rw [updI_other _ _ _ _ e]
    have : (i < u + 1) = (i < u) := by simp; omega
    simp only [upToI, this]
theorem upToI_same (F : Nat → Int) (u : Nat) : updI (upToI F u) u 0 = upToI F u := by
  funext i
  by_cases e : i = u
  · subst e; rw [updI_same]; simp [upToI]
  · rw [updI_other _ _ _ _ e]
theorem OwnI.row {w : World} {b n : Nat} {F : Nat → Int} (h : OwnI w b n F) : Row w (some ⟨b, 0, none⟩) n F := fun k hk => ⟨b, 0, rfl, by rw [Nat.zero_add]; exact (h k hk).1⟩
theorem OwnI.set {w : World} {b n : Nat} {F : Nat → Int} (h : OwnI w b n F) (u : Nat) (v : Int) : OwnI (w.setCell ⟨b, u, none⟩ (.int .i64 v)) b n (updI F u v) := by
  intro k hk
  refine ⟨?_, by rw [World.frozen?_setCell]; exact (h k hk).2⟩
  by_cases e : k = u
  · subst e; rw [updI_same]; exact World.cell?_setCell_same _ _ _ (h k hk).1
  · rw [updI_other _ _ _ _ e, World.cell?_setCell_other _ _ _ _ (fun e2 => e (by injection e2 with _ h2; exact h2.symm))]; exact (h k hk).1
theorem OwnI.below {w w' : World} {b n : Nat} {F : Nat → Int} (h : OwnI w b n F) (hB : Below w.heap.size w w') : OwnI w' b n F := fun k hk =>
  ⟨(hB.cell (World.block_lt_of_cell? _ _ (h k hk).1)).trans (h k hk).1, (hB.frozen (World.block_lt_of_cell? _ _ (h k hk).1)).trans (h k hk).2⟩
theorem OwnI.congr {w : World} {b n : Nat} {F G : Nat → Int} (ho : OwnI w b n F) (e : ∀ k, k < n → F k = G k) : OwnI w b n G := fun k hk => by rw [← e k hk]; exact ho k hk
theorem ownI_made {w : World} {base b m : Nat} (h : w.ownsRow base 3 1 (.slice (some ⟨b, 0, none⟩) m m) m (madeCells (Value.int .i64 0).cells (m * 1)).toList) : OwnI w b m (fun _ => 0) := own_made h
/-- In a store's world, what lies elsewhere lies as it lay. -/
theorem OwnI.ext {w : World} {b n : Nat} {F G : Nat → Int} (ho : OwnI w b n F) (e : F = G) : OwnI w b n G := e ▸ ho

theorem keyedIZ : Keyed Tryd.prog 3 := int_keyed Tryd.underlying3
/-- The key of a number. -/
def kIZ (x : Nat) : Lit := .int .i64 (x : Int)
theorem kI_neZ {x y : Nat} (h : x ≠ y) : kIZ x ≠ kIZ y := by
  unfold kIZ; intro e
  simp only [Lit.int.injEq, true_and] at e
  omega
theorem kI_keyZ (x : Nat) : WideAt.IsKeyLit (kIZ x) := trivial
theorem grown_of_belowZ {W W' : World} (h : Below W.heap.size W W') (row : Option Nat) : W.grownBy W' row := ⟨h.os, h.tape, h.output, h.size, fun k hk _ => h.block k hk⟩
theorem grown_drewZ (W : World) (row : Option Nat) : W.grownBy W.drew row := ⟨rfl, rfl, rfl, Nat.le_refl _, fun _ _ _ => rfl⟩


theorem below_butZ {w w1 W : World} {c : Nat} (hb : Below w.heap.size w w1) (hc : w.heap.size ≤ c) (hg : w1.grownBy W (some c)) : Below w.heap.size w W :=
  hb.grown hg hb.size (fun k e => by cases e; exact hc)
/-- An element as it is. -/
def Rh (v : Value) : Option (DataW Value × List MemPlace) := some (.held v, [])
theorem zeroS (w : World) : (zeroValue 22).run Tryd.prog w = .ok (.slice none 0 0) w := by kernel_rfl
theorem ne_mapZ {w : World} {b : Nat} {a : Addr} {v : Value} {k : Nat} {D : DataW Value} (h : w.ownsMap Tryd.prog 3 Rh b k D) (hc : w.cell? a = some v) : a.block ≠ b := by
  rintro rfl
  obtain ⟨es, clock, hb, _⟩ := h
  simp [World.cell?, hb] at hc
theorem owns_lowerZ {w w' : World} {Bm k hi : Nat} {D : DataW Value} (h : w.ownsMap Tryd.prog 3 Rh Bm k D) (hb : Below hi w w') (hB : Bm < hi) : w'.ownsMap Tryd.prog 3 Rh Bm k D := by
  obtain ⟨es, clock, h1, h2⟩ := h
  exact ⟨es, clock, (hb.block Bm hB).trans h1, h2⟩

/-- Does a set have all of another one, and may what it has more be a layer? -/
def Qs (M : Nat → Bool) (l s : Nat) : Bool := decide (lack l s = 0) && M (lack s l)
/-- How many lists of k steps end at each place. -/
def atI (L : List Nat) (M : Nat → Bool) : Nat → Nat → Int
  | 0, i => if i = 0 then 1 else 0
  | k + 1, i => sumI (fun j => if Qs M (nth L j) (nth L i) = true then atI L M k j else 0) i
/-- .. at place i, the first p places looked at. -/
def cRow (L : List Nat) (M : Nat → Bool) (i p : Nat) : Nat → Int
  | 0 => if i = 0 then 1 else 0
  | k + 1 => sumI (fun j => if Qs M (nth L j) (nth L i) = true then atI L M k j else 0) p
theorem cRow_full (L : List Nat) (M : Nat → Bool) (i : Nat) : ∀ k, cRow L M i i k = atI L M k i
  | 0 => rfl
  | _ + 1 => rfl
theorem cRow_no {L : List Nat} {M : Nat → Bool} {i p : Nat} (h : Qs M (nth L p) (nth L i) = false) : ∀ k, cRow L M i (p + 1) k = cRow L M i p k
  | 0 => rfl
  | k + 1 => by rw [cRow, cRow, sumI]; simp [h]
theorem cRow_yes {L : List Nat} {M : Nat → Bool} {i p : Nat} (h : Qs M (nth L p) (nth L i) = true) (k : Nat) : cRow L M i (p + 1) (k + 1) = cRow L M i p (k + 1) + atI L M k p := by
  rw [cRow, cRow, sumI]; simp [h]
/-- The first q + 1 of the round's numbers, the others as they were. -/
def cMid (L : List Nat) (M : Nat → Bool) (i p q t : Nat) : Int := if t ≤ q then cRow L M i (p + 1) t else cRow L M i p t
theorem cMid_zero (L : List Nat) (M : Nat → Bool) (i p t : Nat) : cMid L M i p 0 t = cRow L M i p t := by
  unfold cMid
  by_cases h : t ≤ 0
  · obtain rfl : t = 0 := by omega
    rw [if_pos h]; rfl
  · rw [if_neg h]
theorem cMid_step (L : List Nat) (M : Nat → Bool) (i p q : Nat) : (fun t => wz (cMid L M i p (q + 1) t)) = updI (fun t => wz (cMid L M i p q t)) (q + 1) (wz (cRow L M i (p + 1) (q + 1))) := by
  funext t
  by_cases e : t = q + 1
  · subst e; rw [updI_same, cMid, if_pos (Nat.le_refl _)]
  · rw [updI_other _ _ _ _ e]
    have : (t ≤ q + 1) = (t ≤ q) := by simp; omega
    simp only [cMid, this]
theorem cMid_full {L : List Nat} {M : Nat → Bool} {i p n t : Nat} (h : t < n + 1) : cMid L M i p n t = cRow L M i (p + 1) t := by
  unfold cMid; rw [if_pos (by omega)]
theorem cMid_next (L : List Nat) (M : Nat → Bool) (i p q : Nat) : cMid L M i p q (q + 1) = cRow L M i p (q + 1) := by
  unfold cMid; rw [if_neg (by omega)]

/-- What lies of the first i places: the map and the rows that it tells, all below hi. -/
structure Lst (L : List Nat) (M : Nat → Bool) (n i Bm hi : Nat) (W : World) (D : DataW Value) : Prop where
  own : W.ownsMap Tryd.prog 3 Rh Bm i D
  bm : Bm < hi
  rows : ∀ j, j < i → ∃ b, b < hi ∧ D.atKey (kIZ (nth L j)) (.held (.slice none 0 0)) = .held (.slice (some ⟨b, 0, none⟩) (n + 1 : Nat) (n + 1 : Nat)) ∧ Row W (some ⟨b, 0, none⟩) (n + 1) (fun t => wz (atI L M t j))
theorem Lst.below {L : List Nat} {M : Nat → Bool} {n i Bm hi : Nat} {W W' : World} {D : DataW Value} (h : Lst L M n i Bm hi W D) (hb : Below hi W W') : Lst L M n i Bm hi W' D :=
  ⟨owns_lowerZ h.own hb h.bm, h.bm, fun j hj => by
    obtain ⟨b, h1, h2, h3⟩ := h.rows j hj
    refine ⟨b, h1, h2, fun k hk => ?_⟩
    obtain ⟨b', off, e, hc⟩ := h3 k hk
    simp only [Option.some.injEq, Addr.mk.injEq] at e
    obtain ⟨rfl, rfl, _⟩ := e
    exact ⟨b, 0, rfl, (hb.cell h1).trans hc⟩⟩
theorem Lst.put {L : List Nat} {M : Nat → Bool} {n i Bm hi c : Nat} {W W' : World} {D : DataW Value} (h : Lst L M n i Bm hi W D) (hL : ∀ j, j < i → nth L j ≠ nth L i)
    (ho : W'.ownsMap Tryd.prog 3 Rh Bm (i + 1) (D.put (kIZ (nth L i)) (.held (.slice (some ⟨c, 0, none⟩) (n + 1 : Nat) (n + 1 : Nat))))) (hg : W.grownBy W' (some Bm)) (hc : OwnI W c (n + 1) (fun t => wz (atI L M t i))) (hhi : hi ≤ W'.heap.size) : Lst L M n (i + 1) Bm W'.heap.size W' (D.put (kIZ (nth L i)) (.held (.slice (some ⟨c, 0, none⟩) (n + 1 : Nat) (n + 1 : Nat)))) := by
  refine ⟨ho, Nat.lt_of_lt_of_le h.bm hhi, fun j hj => ?_⟩
  by_cases e : j = i
  · subst e
    have h0 := (hc 0 (by omega)).1
    refine ⟨c, ?_, atKey_put_same h.own.isMap (kI_keyZ _) _ _, fun k hk => ⟨c, 0, rfl, ?_⟩⟩
    · exact Nat.lt_of_lt_of_le (World.block_lt_of_cell? _ _ h0) hg.size
    · rw [Nat.zero_add]
      exact hg.cell (hc k hk).1 (fun e => ne_mapZ h.own (hc k hk).1 (Option.some.inj e))
  · obtain ⟨b, h1, h2, h3⟩ := h.rows j (by omega)
    refine ⟨b, by omega, ?_, fun k hk => ?_⟩
    · rw [atKey_put_other (kI_neZ (hL j (by omega)))]; exact h2
    · obtain ⟨b', off, e, hc'⟩ := h3 k hk
      simp only [Option.some.injEq, Addr.mk.injEq] at e
      obtain ⟨rfl, rfl, _⟩ := e
      exact ⟨b, 0, rfl, hg.cell hc' (fun e => ne_mapZ h.own hc' (Option.some.inj e))⟩
theorem Lst.made (L : List Nat) (M : Nat → Bool) (n : Nat) (w : World) : Lst L M n 0 w.heap.size (w.heap.size + 1) (w.alloc (.map #[] 0)) (.map []) :=
  ⟨World.ownsMap_made _ _ _ _, Nat.lt_succ_self _, fun _ hj => absurd hj (Nat.not_lt_zero _)⟩
/-- What a look into the map tells of a place that has been come to. -/
theorem Lst.look {L : List Nat} {M : Nat → Bool} {n i Bm hi : Nat} {W : World} {D : DataW Value} (h : Lst L M n i Bm hi W D) {j : Nat} (hj : j < i) (hs : nth L j < 1024) :
    ∃ b, b < hi ∧ (Instr.lookup 51 (.map (some Bm)) (.int .i64 (nth L j : Nat)) false).run Tryd.prog W = .ok (.slice (some ⟨b, 0, none⟩) (n + 1 : Nat) (n + 1 : Nat)) W ∧ Row W (some ⟨b, 0, none⟩) (n + 1) (fun t => wz (atI L M t j)) := by
  obtain ⟨b, h1, h2, h3⟩ := h.rows j hj
  have hwx : (Lit.int .i64 ((nth L j : Nat) : Int)).wf = true := WalkArith.wf_i64 (by omega)
  have hkey : keyOf Tryd.prog 3 (.int .i64 ((nth L j : Nat) : Int)) = some (kIZ (nth L j)) := keyOf_int_mk Tryd.underlying3 hwx
  obtain ⟨v, ps, hrun, hv⟩ := h.own.lookup (t := 51) (e := 22) keyedIZ Tryd.underlying51 (zeroS W) (zd := .held (.slice none 0 0)) (zp := []) rfl hkey
  rw [h2] at hv
  simp only [Rh, Option.some.injEq, Prod.mk.injEq, DataW.held.injEq] at hv
  rw [hv.1] at hrun
  exact ⟨b, h1, hrun, h3⟩

/-- A closure that answers M of a set, wherever what lay at first still lies. -/
def EntZ (F : Nat) : Prop := ∀ (args : Array Value) (w : World), Sem.run Tryd.prog (callFunc F args) w = .ok (.enter F args) w
def CloM (n F : Nat) (caps : Array Value) (M : Nat → Bool) (w : World) : Prop :=
  ∀ s : Nat, s < pw n → ∀ W : World, Below w.heap.size w W → Calls Tryd.prog F (#[.int .i64 (s : Nat)] ++ caps) W fun e w' => e = .returned (.bool (M s)) ∧ Below W.heap.size W w'
theorem hasAll_as (s p : Nat) (v : Bool) (w : World) (hv : decide (lack p s = 0) = v) (hs : s < 9223372036854775808) (hp : p < 9223372036854775808) :
    Calls Tryd.prog 33 #[.int .i64 s, .int .i64 p] w fun e w' => e = .returned (.bool v) ∧ w = w' := by
  have hl : (((lack p s : Nat) : Int) == 0) = v := by rw [← hv, Bool.eq_iff_iff]; simp
  have h := i64_andNot p s hp hs
  go_enter Tryd.func33, Tryd.ntmps33
  go_wp2
  go_ret
  exact ⟨rfl, rfl⟩
end Go.Proofs.YtncjlfhgenmheabDoor
