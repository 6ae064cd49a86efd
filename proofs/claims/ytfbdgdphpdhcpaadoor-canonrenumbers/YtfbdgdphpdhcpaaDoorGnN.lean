/-
  What slices.SortFunc does to forms of one length. Conditions: as in GnI.
  What grown's second closure answers: whether two forms have one list. Conditions: lists of one length, at most forty.
  A row of forms, taken apart and put together; what clear does to it; which forms slices.CompactFunc keeps. Conditions: as in GnI.
  Worlds that slices.CompactFunc passes through. Conditions: as in GnI.
-/
import Derived.Test.YtfbdgdphpdhcpaaDoorGnI
import Derived.Shelf.Lays
import Derived.Ground.NamesProg
import Derived.Shelf.Slices.Equal
namespace Go.Proofs.YtfbdgdphpdhcpaaDoor
open Go Go.Conc Go.RowKit Sm
set_option maxRecDepth 100000

def encP (r : Nat → Nat) (n N : Nat) (x : Nat) : List Value := [.int .i64 (N : Nat), .slice (some ⟨r (cl n x), 0, none⟩) N N]
theorem swk_grown (enc : Nat → List Value) (w : World) (blk off m : Nat) (dk : Array Nat) (os : Array Obj) : w.grownBy (sortWorldK enc 2 w blk off m dk os) (some blk) := by
  refine ⟨rfl, rfl, rfl, ?_, fun k hk hne => ?_⟩
  · simp [sortWorldK, Go.Sort.putRowK, Go.Sort.grow, Go.Sort.putRow, Go.Sort.mapBlock, Go.Sort.ahead]
  · have hkb : ¬ blk = k := fun e => hne (by rw [e])
    simp [sortWorldK, Go.Sort.putRowK, Go.Sort.grow, Go.Sort.putRow, Go.Sort.mapBlock, Go.Sort.ahead, Array.getElem?_append, hk, Array.getElem_modify, hkb]
theorem swk_block (enc : Nat → List Value) (w : World) (blk off m : Nat) (dk : Array Nat) (os : Array Obj) {cur : Array Value} {t : TypeId} {fr : Nat × Nat} (h : w.heap[blk]? = some (.cells cur t fr)) : (sortWorldK enc 2 w blk off m dk os).heap[blk]? = some (.cells (Go.Sort.putCells id off (Go.Sort.flatK enc 2 dk) cur) t fr) := by
  have hb : blk < w.heap.size := (Array.getElem?_eq_some_iff.1 h).1
  have h' := (Array.getElem?_eq_some_iff.1 h).2
  simp [sortWorldK, Go.Sort.putRowK, Go.Sort.grow, Go.Sort.putRow, Go.Sort.mapBlock, Go.Sort.ahead, Array.getElem?_append, hb, Array.getElem_modify, h', Go.Sort.onCells]
theorem flat_at (r : Nat → Nat) (n N : Nat) (d : Array Nat) (k : Nat) (hk : k < d.size) : (Go.Sort.flatK (encP r n N) 2 d)[2 * k]? = some (.int .i64 (N : Nat)) ∧ (Go.Sort.flatK (encP r n N) 2 d)[2 * k + 1]? = some (.slice (some ⟨r (cl n d[k]!), 0, none⟩) N N) := by
  have h0 : 2 * k < d.size * 2 := by omega
  have h1 : 2 * k + 1 < d.size * 2 := by omega
  have e0 := Go.Sort.get_flatK (encP r n N) 2 d (2 * k) h0
  have e1 := Go.Sort.get_flatK (encP r n N) 2 d (2 * k + 1) h1
  rw [show 2 * k / 2 = k by omega, show 2 * k % 2 = 0 by omega, getElem!_pos _ _ (by simpa using h0)] at e0
  rw [show (2 * k + 1) / 2 = k by omega, show (2 * k + 1) % 2 = 1 by omega, getElem!_pos _ _ (by simpa using h1)] at e1
  refine ⟨?_, ?_⟩
  · rw [Array.getElem?_eq_getElem (by simpa using h0), e0]; rfl
  · rw [Array.getElem?_eq_getElem (by simpa using h1), e1]; rfl
theorem rowC_row {w : World} {bl f : Nat} {y : List Nat} (h : w.heap[bl]? = some (.cells (rowC y) 3 (0, f))) : Row w (some ⟨bl, 0, none⟩) y.length (fun k => (nth y k : Nat)) := fun k hk => ⟨bl, 0, rfl, by
  unfold World.cell?
  rw [h]
  simp [rowC, natVals, nth, hk]⟩
/-- Sorted by their lists. -/
def Srt (N : Nat) (ys : List (List Nat)) : Prop := ∀ (j k : Nat) a b, j < k → ys[j]? = some a → ys[k]? = some b → ¬ cmpF (nth b) (nth a) N 0 < 0
set_option maxHeartbeats 1000000 in
theorem sortF_any {B N gv cv : Nat} {ys : List (List Nat)} (w : World) (hN : N ≤ 40) (hl : ∀ y ∈ ys, y.length = N) (h0 : 0 < ys.length) (hn : ys.length ≤ 1000) (h : GRow w B (.slice (some ⟨gv, 0, none⟩) ys.length cv) ys) :
    Calls Tryd.prog 50 #[.slice (some ⟨gv, 0, none⟩) ys.length cv, .func (.func 51) #[] #[]] w fun e w' => e = .returned (.tuple #[]) ∧ ∃ ys', ys'.Perm ys ∧ Srt N ys' ∧ GRow w' B (.slice (some ⟨gv, 0, none⟩) ys'.length cv) ys' ∧ w.grownBy w' (some gv) := by
  obtain ⟨xs, hown, hrow⟩ := h
  generalize hnn : ys.length = n at *
  have hch : ∀ k, ∃ b, k < n → ∃ f, N ≤ f ∧ w.heap[b]? = some (.cells (rowC (ys.getD k [])) 3 (0, f)) ∧ xs[2 * k]? = some (.int .i64 (N : Nat)) ∧ xs[2 * k + 1]? = some (.slice (some ⟨b, 0, none⟩) N N) := fun k => by
    rcases Nat.lt_or_ge k n with hk | hk
    · obtain ⟨b, f, a1, a2, a3, a4⟩ := hrow k (ys.getD k []) (by rw [List.getD_eq_getElem?_getD, List.getElem?_eq_getElem (by omega)]; rfl)
      have hlk : (ys.getD k []).length = N := hl _ (by rw [List.getD_eq_getElem?_getD, List.getElem?_eq_getElem (by omega)]; exact List.getElem_mem _)
      rw [hlk] at a1 a3 a4
      exact ⟨b, fun _ => ⟨f, a1, a2, a3, a4⟩⟩
    · exact ⟨0, fun h => absurd h (by omega)⟩
  obtain ⟨r, hr⟩ := Classical.axiomOfChoice hch
  have hlk : ∀ k, k < n → (ys.getD k []).length = N := fun k hk => hl _ (by rw [List.getD_eq_getElem?_getD, List.getElem?_eq_getElem (by omega)]; exact List.getElem_mem _)
  have hform : ∃ cur, w.heap[gv]? = some (.cells cur 24 (0, 0)) ∧ B ≤ gv ∧ n ≤ cv ∧ cv ≤ maxLen ∧ cur.size = cv * 2 ∧ cur.toList.take (n * 2) = xs := by
    rcases hown.2 with ⟨e, _⟩ | ⟨g, cap, cur, e, a1, a2, a3, a4, a5, a6⟩
    · cases e
    · simp only [Value.slice.injEq, Option.some.injEq, Addr.mk.injEq] at e
      obtain ⟨⟨rfl, _, _⟩, _, rfl⟩ := e
      exact ⟨cur, a2, a1, a3, a4, a5, a6⟩
  obtain ⟨cur, b1, b2, b3, b4, b5, b6⟩ := hform
  have hne : ∀ k, k < n → r k ≠ gv := fun k hk e => by
    obtain ⟨f, _, a2, _⟩ := hr k hk
    rw [e, b1] at a2
    cases a2
  have hrowW : ∀ {w' : World}, w.grownBy w' (some gv) → ∀ x, Row w' (some ⟨r (cl n x), 0, none⟩) N (fun k => (nth (ys.getD (cl n x) []) k : Nat)) := fun {w'} hg x => by
    obtain ⟨f, a1, a2, _⟩ := hr (cl n x) (cl_lt h0)
    have a3 : w'.heap[r (cl n x)]? = _ := (hg.block _ (Array.getElem?_eq_some_iff.1 a2).1 (fun e => hne _ (cl_lt h0) (Option.some.inj e))).trans a2
    have := rowC_row a3
    rw [hlk _ (cl_lt h0)] at this
    exact this
  have eg : ∀ args w, (callFunc 51 args).run Tryd.prog w = .ok (.enter 51 args) w := enters_of Tryd.func51 (by kernel_rfl) rfl
  have hcmp : CmpLays Tryd.prog 51 #[] (encP r n N) 2 (cfG (fun j => nth (ys.getD j [])) n N) gv 0 ((List.range n).toArray).size w := fun m os dk _ x y => by
    have hgr := swk_grown (encP r n N) w gv 0 m dk os
    refine (gn_less _ hN (hrowW hgr x) (hrowW hgr y)).mono ?_
    rintro e w' ⟨rfl, os', rfl⟩
    exact ⟨rfl, 0, os', rfl⟩
  have hH : Go.Sort.HoldsK (encP r n N) 2 w gv 0 (List.range n).toArray := fun j hj => by
    have hj' : j < n * 2 := by simpa using hj
    have hk : j / 2 < n := by omega
    obtain ⟨f, _, _, a3, a4⟩ := hr (j / 2) hk
    have hfl := flat_at r n N (List.range n).toArray (j / 2) (by simpa using hk)
    have hd : ((List.range n).toArray)[j / 2]! = j / 2 := by rw [getElem!_pos (List.range n).toArray (j / 2) (by simpa using hk)]; simp
    rw [hd, cl_in hk] at hfl
    refine ⟨?_, ?_⟩
    · rw [Nat.zero_add, hown.cellAt j hj']
      have hsz : j < (Go.Sort.flatK (encP r n N) 2 (List.range n).toArray).size := by simpa using hj'
      rw [getElem!_pos (Go.Sort.flatK (encP r n N) 2 (List.range n).toArray) j hsz]
      rcases Nat.mod_two_eq_zero_or_one j with hm | hm
      · have e : j = 2 * (j / 2) := by omega
        have h1 := hfl.1
        rw [← e] at h1 a3
        rw [a3, ← h1, Array.getElem?_eq_getElem hsz]; rfl
      · have e : j = 2 * (j / 2) + 1 := by omega
        have h1 := hfl.2
        rw [← e] at h1 a4
        rw [a4, ← h1, Array.getElem?_eq_getElem hsz]; rfl
    · simp [World.frozen?, b1]
  have hcon := AnyQ.slices_SortFunc Tryd.sortL 2 Tryd.isAgg24 Tryd.sizeOf24 (encP r n N) (fun _ => rfl) (fun x v hv => by simp [encP] at hv; rcases hv with rfl | rfl <;> rfl) (cfG (fun j => nth (ys.getD j [])) n N) (swoG (fun j => nth (ys.getD j [])) n N) 51 #[] gv 0 cv (List.range n).toArray w eg hcmp hH ((Array.getElem?_eq_some_iff.1 b1).1) (by simp; omega)
  change Calls Tryd.prog 50 _ _ _ at hcon
  rw [show ((List.range n).toArray).size = n by simp] at hcon
  refine hcon.mono ?_
  rintro e w' ⟨rfl, d', m, os, hp, hs, rfl⟩
  obtain ⟨hsz, hprm⟩ := prm_of hp
  have hgr := swk_grown (encP r n N) w gv 0 m d' os
  have hperm : d'.toList.Perm (List.range n) := by
    have h3 := hp.2.2
    rw [show (d'.extract 0 n).toList = d'.toList by rw [← hsz]; simp, show ((List.range n).toArray.extract 0 n).toList = List.range n by simp] at h3
    exact h3
  have hys : ys = (List.range n).map (fun a => ys.getD a []) := by
    refine List.ext_getElem (by simp [hnn]) fun i h1 h2 => ?_
    simp [List.getElem?_eq_getElem h1]
  have hget : ∀ (j : Nat) a, (d'.toList.map (fun a => ys.getD a []))[j]? = some a → j < n ∧ a = ys.getD d'[j]! [] := fun j a ha => by
    simp only [List.getElem?_map, Option.map_eq_some_iff] at ha
    obtain ⟨q, h1, rfl⟩ := ha
    have hj : j < n := by
      have := (List.getElem?_eq_some_iff.1 h1).1
      simpa [hsz] using this
    refine ⟨hj, ?_⟩
    have e : d'[j]! = q := by
      have h1' : d'[j]? = some q := by simpa using h1
      rw [getElem!_def, h1']
    rw [e]
  refine ⟨rfl, d'.toList.map (fun a => ys.getD a []), ?_, fun j k a b hjk ha hb => ?_, ⟨(Go.Sort.flatK (encP r n N) 2 d').toList, ⟨?_, .inr ⟨gv, cv, _, by simp, b2, swk_block (encP r n N) w gv 0 m d' os b1, by simpa [hsz] using b3, b4, by simp [Go.Sort.putCells, b5], ?_⟩⟩, fun k y hy => ?_⟩, hgr⟩
  · conv => rhs; rw [hys]
    exact hperm.map _
  · obtain ⟨hj, rfl⟩ := hget j a ha
    obtain ⟨hk, rfl⟩ := hget k b hb
    have := of_decide_eq_false (hs j k (Nat.zero_le _) hjk hk)
    simp only [cfG] at this
    rw [cl_in (hprm.lt k hk), cl_in (hprm.lt j hj)] at this
    exact this
  · simp [hsz]
  · apply List.ext_getElem?
    intro j
    by_cases hj : j < n * 2
    · have hjc : j < cur.size := by omega
      simp [Go.Sort.putCells, hj, hjc, hsz]
    · rw [List.getElem?_eq_none (by simp [hsz]; omega), List.getElem?_eq_none (by simp [hsz]; omega)]
  · obtain ⟨hk, rfl⟩ := hget k y hy
    have hq := hprm.lt k hk
    obtain ⟨f, a1, a2, _⟩ := hr d'[k]! hq
    have hfl := flat_at r n N d' k (by omega)
    rw [cl_in hq] at hfl
    rw [hlk _ hq]
    exact ⟨r d'[k]!, f, a1, (hgr.block _ (Array.getElem?_eq_some_iff.1 a2).1 (fun e => hne _ hq (Option.some.inj e))).trans a2, by simpa using hfl.1, by simpa using hfl.2⟩
end Go.Proofs.YtfbdgdphpdhcpaaDoor
namespace Go.Proofs.YtfbdgdphpdhcpaaDoor
open Go Go.Conc Go.Shelf Go.RowKit
set_option maxRecDepth 100000

def Tryd.equalL_ren : Go.Shelf.Ren := ⟨fun | 111 => 32 | n => n, fun | 28 => 22 | 3 => 3 | 4 => 4 | 0 => 0 | n => n, fun | n => n⟩
theorem Tryd.equalL : Go.Proofs.Lays.n111 Tryd.prog Tryd.equalL_ren := {
  mixed := by kernel_rfl
  f111 := Tryd.func32.trans (congrArg some (by kernel_rfl))
  t0 := Tryd.underlying0
  a0 := Tryd.isAgg0
  z0 := Tryd.sizeOf0
  v0 := Tryd.zeroValue0
  t3 := Tryd.underlying3
  a3 := Tryd.isAgg3
  z3 := Tryd.sizeOf3
  v3 := Tryd.zeroValue3
  t4 := Tryd.underlying4
  a4 := Tryd.isAgg4
  z4 := Tryd.sizeOf4
  v4 := Tryd.zeroValue4
  t28 := Tryd.underlying22
  a28 := Tryd.isAgg22
  z28 := Tryd.sizeOf22
  v28 := Tryd.zeroValue22 }
theorem lits_nth (y : List Nat) (j : Nat) : (y.map Int.ofNat).getD j 0 = (nth y j : Nat) := by
  unfold nth
  rw [List.getD_eq_getElem?_getD, List.getD_eq_getElem?_getD, List.getElem?_map]
  cases y[j]? <;> rfl
/-- grown's second closure. -/
theorem gn_same {N ra rb : Nat} {y z : List Nat} (W : World) (hN : N ≤ 40) (hy : y.length = N) (hz : z.length = N) (ha : Row W (some ⟨ra, 0, none⟩) N (fun k => (nth y k : Nat))) (hb : Row W (some ⟨rb, 0, none⟩) N (fun k => (nth z k : Nat))) :
    Calls Tryd.prog 53 #[.agg #[.int .i64 (N : Nat), .slice (some ⟨ra, 0, none⟩) N N], .agg #[.int .i64 (N : Nat), .slice (some ⟨rb, 0, none⟩) N N]] W fun e w' => e = .returned (.bool (y == z)) ∧ ∃ q os', w' = Go.Sort.grow (W.drewN q) os' := by
  have key : ∀ W' : World, Row W' (some ⟨ra, 0, none⟩) N (fun k => (nth y k : Nat)) → Row W' (some ⟨rb, 0, none⟩) N (fun k => (nth z k : Nat)) →
      Calls Tryd.prog 32 #[.slice (some ⟨ra, 0, none⟩) N N, .slice (some ⟨rb, 0, none⟩) N N] W' fun e w' => e = .returned (.bool (y == z)) ∧ ∃ q, w' = W'.drewN q := fun W' h1 h2 => by
    have h := Any.slices_Equal_int Tryd.equalL ra 0 N N rb 0 N N (y.map Int.ofNat) (z.map Int.ofNat) W' (by simp [hy]) (by simp [hz]) (by omega) (by omega) (fun j hj => by
      obtain ⟨b, o, e, hc⟩ := h1 j (by simpa [hy] using hj)
      simp only [Option.some.injEq, Addr.mk.injEq] at e
      obtain ⟨rfl, rfl, _⟩ := e
      rw [hc, lits_nth]) (fun j hj => by
      obtain ⟨b, o, e, hc⟩ := h2 j (by simpa [hz] using hj)
      simp only [Option.some.injEq, Addr.mk.injEq] at e
      obtain ⟨rfl, rfl, _⟩ := e
      rw [hc, lits_nth])
    change Calls Tryd.prog 32 _ _ _ at h
    refine h.mono ?_
    rintro e w' ⟨rfl, hw⟩
    refine ⟨?_, hw⟩
    rw [List.take_of_length_le (by simp [hy]), List.take_of_length_le (by simp [hz])]
    have e : ((y.map Int.ofNat) == (z.map Int.ofNat)) = (y == z) := by
      rw [Bool.eq_iff_iff]
      simp only [beq_iff_eq]
      exact ⟨fun h => (List.map_inj_right (fun a b hab => by exact Int.ofNat.inj hab)).1 h, fun h => by rw [h]⟩
    rw [e]
  have HA : Hid (Row W (some ⟨ra, 0, none⟩) N (fun k => (nth y k : Nat))) := ha
  have HB : Hid (Row W (some ⟨rb, 0, none⟩) N (fun k => (nth z k : Nat))) := hb
  have HK := (show Hid _ from key)
  clear ha hb key hy hz
  generalize (y == z) = bb at HK
  go_enter Tryd.func53, Tryd.ntmps53
  go_wp2_with (go_at_call 32; refine (HK.out _ ((HA.out.al _).al _) ((HB.out.al _).al _)).mono ?_; rintro e w' ⟨rfl, q, rfl⟩)
  go_ret
  refine ⟨rfl, q, ?_, ?_⟩
  rotate_left
  · rw [Go.Sort.alloc_eq_grow, Go.Sort.alloc_eq_grow, Go.Sort.grow_grow]
    rfl
end Go.Proofs.YtfbdgdphpdhcpaaDoor
namespace Go.Proofs.YtfbdgdphpdhcpaaDoor
open Go Go.Conc Go.RowKit Sm
set_option maxRecDepth 100000

/-- A row of forms of one length, taken apart. -/
structure GApart (w : World) (B N gv cv : Nat) (ys : List (List Nat)) (r : Nat → Nat) (cur : Array Value) : Prop where
  blk : w.heap[gv]? = some (.cells cur 24 (0, 0))
  lo : B ≤ gv
  le : ys.length ≤ cv
  cap : cv ≤ maxLen
  size : cur.size = cv * 2
  len : ∀ k, k < ys.length → (ys.getD k []).length = N
  ne : ∀ k, k < ys.length → r k ≠ gv
  rows : ∀ k, k < ys.length → ∃ f, N ≤ f ∧ w.heap[r k]? = some (.cells (rowC (ys.getD k [])) 3 (0, f))
  holds : Go.Sort.HoldsK (encP r ys.length N) 2 w gv 0 (List.range ys.length).toArray
theorem GRow.apart {B N gv cv : Nat} {ys : List (List Nat)} {w : World} (hl : ∀ y ∈ ys, y.length = N) (h : GRow w B (.slice (some ⟨gv, 0, none⟩) ys.length cv) ys) : ∃ r cur, GApart w B N gv cv ys r cur := by
  obtain ⟨xs, hown, hrow⟩ := h
  have hlk : ∀ k, k < ys.length → (ys.getD k []).length = N := fun k hk => hl _ (by rw [List.getD_eq_getElem?_getD, List.getElem?_eq_getElem hk]; exact List.getElem_mem _)
  have hch : ∀ k, ∃ b, k < ys.length → ∃ f, N ≤ f ∧ w.heap[b]? = some (.cells (rowC (ys.getD k [])) 3 (0, f)) ∧ xs[2 * k]? = some (.int .i64 (N : Nat)) ∧ xs[2 * k + 1]? = some (.slice (some ⟨b, 0, none⟩) N N) := fun k => by
    rcases Nat.lt_or_ge k ys.length with hk | hk
    · obtain ⟨b, f, a1, a2, a3, a4⟩ := hrow k (ys.getD k []) (by rw [List.getD_eq_getElem?_getD, List.getElem?_eq_getElem (by omega)]; rfl)
      rw [hlk k hk] at a1 a3 a4
      exact ⟨b, fun _ => ⟨f, a1, a2, a3, a4⟩⟩
    · exact ⟨0, fun h => absurd h (by omega)⟩
  obtain ⟨r, hr⟩ := Classical.axiomOfChoice hch
  have hform : ∃ cur, w.heap[gv]? = some (.cells cur 24 (0, 0)) ∧ B ≤ gv ∧ ys.length ≤ cv ∧ cv ≤ maxLen ∧ cur.size = cv * 2 ∧ cur.toList.take (ys.length * 2) = xs := by
    rcases hown.2 with ⟨e, _⟩ | ⟨g, cap, cur, e, a1, a2, a3, a4, a5, a6⟩
    · cases e
    · simp only [Value.slice.injEq, Option.some.injEq, Addr.mk.injEq] at e
      obtain ⟨⟨rfl, _, _⟩, _, rfl⟩ := e
      exact ⟨cur, a2, a1, a3, a4, a5, a6⟩
  obtain ⟨cur, b1, b2, b3, b4, b5, b6⟩ := hform
  refine ⟨r, cur, b1, b2, b3, b4, b5, hlk, fun k hk e => ?_, fun k hk => ?_, fun j hj => ?_⟩
  · obtain ⟨f, _, a2, _⟩ := hr k hk
    rw [e, b1] at a2
    cases a2
  · obtain ⟨f, a1, a2, _⟩ := hr k hk
    exact ⟨f, a1, a2⟩
  · have hj' : j < ys.length * 2 := by simpa using hj
    have hk : j / 2 < ys.length := by omega
    obtain ⟨f, _, _, a3, a4⟩ := hr (j / 2) hk
    have hfl := flat_at r ys.length N (List.range ys.length).toArray (j / 2) (by simpa using hk)
    have hd : ((List.range ys.length).toArray)[j / 2]! = j / 2 := by rw [getElem!_pos (List.range ys.length).toArray (j / 2) (by simpa using hk)]; simp
    rw [hd, cl_in hk] at hfl
    refine ⟨?_, ?_⟩
    · rw [Nat.zero_add, hown.cellAt j hj']
      have hsz : j < (Go.Sort.flatK (encP r ys.length N) 2 (List.range ys.length).toArray).size := by simpa using hj'
      rw [getElem!_pos (Go.Sort.flatK (encP r ys.length N) 2 (List.range ys.length).toArray) j hsz]
      rcases Nat.mod_two_eq_zero_or_one j with hm | hm
      · have e : j = 2 * (j / 2) := by omega
        have h1 := hfl.1
        rw [← e] at h1 a3
        rw [a3, ← h1, Array.getElem?_eq_getElem hsz]; rfl
      · have e : j = 2 * (j / 2) + 1 := by omega
        have h1 := hfl.2
        rw [← e] at h1 a4
        rw [a4, ← h1, Array.getElem?_eq_getElem hsz]; rfl
    · simp [World.frozen?, b1]
theorem GApart.row {w w' : World} {B N gv cv : Nat} {ys : List (List Nat)} {r : Nat → Nat} {cur : Array Value} (h : GApart w B N gv cv ys r cur) (hg : w.grownBy w' (some gv)) (h0 : 0 < ys.length) (x : Nat) : Row w' (some ⟨r (cl ys.length x), 0, none⟩) N (fun k => (nth (ys.getD (cl ys.length x) []) k : Nat)) := by
  obtain ⟨f, a1, a2⟩ := h.rows _ (cl_lt h0)
  have a3 := (hg.block _ (Array.getElem?_eq_some_iff.1 a2).1 (fun e => h.ne _ (cl_lt h0) (Option.some.inj e))).trans a2
  have := rowC_row a3
  rw [h.len _ (cl_lt h0)] at this
  exact this
/-- Put together again. -/
theorem GApart.made {w w' : World} {B N gv cv : Nat} {ys : List (List Nat)} {r : Nat → Nat} {cur C : Array Value} (h : GApart w B N gv cv ys r cur) (hg : w.grownBy w' (some gv)) {zs : List (List Nat)} {p : Nat → Nat} (hb : w'.heap[gv]? = some (.cells C 24 (0, 0))) (hs : C.size = cv * 2) (hm : zs.length ≤ cv)
    (hz : ∀ j y, zs[j]? = some y → p j < ys.length ∧ y = ys.getD (p j) [] ∧ C[2 * j]? = some (.int .i64 (N : Nat)) ∧ C[2 * j + 1]? = some (.slice (some ⟨r (p j), 0, none⟩) N N)) : GRow w' B (.slice (some ⟨gv, 0, none⟩) zs.length cv) zs := by
  refine ⟨C.toList.take (zs.length * 2), ⟨by simp [hs]; omega, .inr ⟨gv, cv, C, rfl, h.lo, hb, hm, h.cap, hs, rfl⟩⟩, fun k y hk => ?_⟩
  obtain ⟨h1, rfl, h3, h4⟩ := hz k y hk
  have hlt := (List.getElem?_eq_some_iff.1 hk).1
  obtain ⟨f, a1, a2⟩ := h.rows _ h1
  rw [h.len _ h1]
  refine ⟨r (p k), f, a1, (hg.block _ (Array.getElem?_eq_some_iff.1 a2).1 (fun e => h.ne _ h1 (Option.some.inj e))).trans a2, ?_, ?_⟩
  · rw [List.getElem?_take_of_lt (by omega)]; simpa using h3
  · rw [List.getElem?_take_of_lt (by omega)]; simpa using h4
/-- Kept: another than the one before. -/
def kp (G : Nat → List Nat) (j : Nat) : Bool := decide (j = 0 ∨ G j ≠ G (j - 1))
def kept (G : Nat → List Nat) (m : Nat) : List Nat := (List.range m).filter (kp G)
/-- A list without what equals the one before. -/
def compL (ys : List (List Nat)) : List (List Nat) := (kept (fun j => ys.getD j []) ys.length).map fun j => ys.getD j []
section
variable {G : Nat → List Nat}
theorem kp_one : ∀ j, j < 1 → kp G j = true := fun j hj => by
  have : j = 0 := by omega
  subst this
  simp [kp]
theorem kp_pos {m : Nat} (h : G m ≠ G (m - 1)) : kp G m = true := by simp [kp, h]
theorem kp_neg {m : Nat} (hm : 0 < m) (h : G m = G (m - 1)) : kp G m = false := by
  have : m ≠ 0 := by omega
  simp [kp, h, this]
theorem kept_succ (m : Nat) : kept G (m + 1) = kept G m ++ (if kp G m then [m] else []) := by
  unfold kept
  rw [List.range_succ, List.filter_append]
  congr 1
  by_cases h : kp G m <;> simp [h]
theorem kept_all (m : Nat) (h : ∀ j, j < m → kp G j = true) : kept G m = List.range m := by
  unfold kept
  rw [List.filter_eq_self.2 (fun j hj => h j (List.mem_range.1 hj))]
theorem kept_lt {m j : Nat} (h : j ∈ kept G m) : j < m := by
  unfold kept at h
  exact List.mem_range.1 (List.mem_filter.1 h).1
/-- The second loop: m places looked at, k kept. -/
structure CI (G : Nat → List Nat) (n m k : Nat) (dk : Array Nat) : Prop where
  size : dk.size = n
  len : (kept G m).length = k
  lt : k < m
  low : ∀ j, j < k → (kept G m)[j]? = some dk[j]!
  high : ∀ j, k ≤ j → j < n → dk[j]! = j
theorem range_at {n j : Nat} (h : j < n) : ((List.range n).toArray)[j]! = j := by rw [getElem!_pos (List.range n).toArray j (by simpa using h)]; simp
theorem CI.start {n k0 : Nat} (hk : k0 < n) (hall : ∀ j, j < k0 → kp G j = true) (hdup : kp G k0 = false) : CI G n (k0 + 1) k0 (List.range n).toArray where
  size := by simp
  len := by rw [kept_succ, hdup, kept_all k0 hall]; simp
  lt := Nat.lt_succ_self _
  low := fun j hj => by rw [kept_succ, hdup, kept_all k0 hall, range_at (by omega)]; simp [hj]
  high := fun j _ hj => range_at hj
theorem CI.keep {n m k : Nat} {dk : Array Nat} (h : CI G n m k dk) (hm : m < n) (hk : kp G m = true) : CI G n (m + 1) (k + 1) (dk.setIfInBounds k m) where
  size := by simp [h.size]
  len := by rw [kept_succ, hk]; simp [h.len]
  lt := by have := h.lt; omega
  low := fun j hj => by
    rw [kept_succ, hk, if_pos rfl]
    by_cases e : j = k
    · subst e
      rw [List.getElem?_append_right (by rw [h.len]; exact Nat.le_refl _), h.len, Nat.sub_self, Go.Sort.getElem!_set_same dk j _ (by have := h.lt; have := h.size; omega)]
      rfl
    · rw [List.getElem?_append_left (by rw [h.len]; omega), h.low j (by omega), Go.Sort.getElem!_set_other dk k j _ e]
  high := fun j hj hjn => by rw [Go.Sort.getElem!_set_other dk k j _ (by omega), h.high j (by omega) hjn]
theorem CI.skip {n m k : Nat} {dk : Array Nat} (h : CI G n m k dk) (hk : kp G m = false) : CI G n (m + 1) k dk where
  size := h.size
  len := by rw [kept_succ, hk]; simpa using h.len
  lt := by have := h.lt; omega
  low := fun j hj => by rw [kept_succ, hk]; simpa using h.low j hj
  high := h.high
end
/-- clear, at elements of two cells. -/
theorem run_clear_two {P : Program} (w : World) (t e ty : TypeId) (z z0 z1 : Value) (ht : P.underlying t = some (.slice e)) (hv : ∀ w, (zeroValue e).run P w = .ok z w) (hz : z.cells = #[z0, z1]) (h0 : z0.oneCell' = true) (h1 : z1.oneCell' = true) (b o n c : Nat) (hn : 0 < n)
    (hc : ∀ j, j < n * 2 → (w.cell? ⟨b, o + j, none⟩).isSome = true) (hf : ∀ j, j < n * 2 → w.frozen? ⟨b, o + j, none⟩ = false) :
    (Builtin.clear_ #[t] ty #[.slice (some ⟨b, o, none⟩) n c]).run P w = .ok (.tuple #[]) (w.setCells b o (Builtin.zeroCells #[z0, z1] n).toList) := by
  have hl : (Builtin.zeroCells #[z0, z1] n).toList.length = n * 2 := by simp [Builtin.zeroCells]
  have hst := run_storeCells_cells (P := P) b o (Builtin.zeroCells #[z0, z1] n).toList 0 w (fun j hj => by simpa using hc j (by omega)) (fun j hj => by rw [Nat.add_zero]; exact hf j (by omega)) (by
    intro v hv'
    simp only [Builtin.zeroCells, Array.toList_map, List.mem_map] at hv'
    obtain ⟨i, _, rfl⟩ := hv'
    show (#[z0, z1][i % 2]!).oneCell' = true
    rcases Nat.mod_two_eq_zero_or_one i with e | e <;> rw [e]
    · exact h0
    · exact h1)
  simp only [Nat.add_zero] at hst
  obtain ⟨m, rfl⟩ : ∃ m, n = m + 1 := ⟨n - 1, by omega⟩
  simp [Builtin.clear_, run_underlying ht, hv, hz, hst]
end Go.Proofs.YtfbdgdphpdhcpaaDoor
namespace Go.Proofs.YtfbdgdphpdhcpaaDoor
open Go Go.Conc Go.RowKit Sm
set_option maxRecDepth 100000

/-- The worlds that it passes through. -/
abbrev cW (r : Nat → Nat) (n N : Nat) (w : World) (gv q : Nat) (dk : Array Nat) (os : Array Obj) : World := sortWorldK (encP r n N) 2 w gv 0 q dk os
theorem cW_cells {w : World} {B N gv cv : Nat} {ys : List (List Nat)} {r : Nat → Nat} {cur : Array Value} (h : GApart w B N gv cv ys r cur) {q : Nat} {dk : Array Nat} {os : Array Obj} (hs : dk.size = ys.length) {i : Nat} (hi : i < ys.length) :
    ((cW r ys.length N w gv q dk os).cell? ⟨gv, i * 2, none⟩ = some (.int .i64 (N : Nat)) ∧ (cW r ys.length N w gv q dk os).cell? ⟨gv, i * 2 + 1, none⟩ = some (.slice (some ⟨r (cl ys.length dk[i]!), 0, none⟩) N N)) ∧
      (cW r ys.length N w gv q dk os).frozen? ⟨gv, i * 2, none⟩ = false ∧ (cW r ys.length N w gv q dk os).frozen? ⟨gv, i * 2 + 1, none⟩ = false := by
  have hH : Go.Sort.HoldsK (encP r ys.length N) 2 (cW r ys.length N w gv q dk os) gv 0 dk := holdsK_sortWorldK_c (encP r ys.length N) 2 w gv 0 (List.range ys.length).toArray dk q os h.holds (Array.getElem?_eq_some_iff.1 h.blk).1 (by simpa using hs)
  have h0 := hH.cell (i := i) (c := 0) (by omega) (by decide)
  have h1 := hH.cell (i := i) (c := 1) (by omega) (by decide)
  simp only [Nat.zero_add, Nat.add_zero] at h0 h1
  exact ⟨⟨h0.1, h1.1⟩, h0.2, h1.2⟩
theorem cW_grow (r : Nat → Nat) (n N : Nat) (w : World) (gv q : Nat) (dk : Array Nat) (os : Array Obj) (q' : Nat) (os' : Array Obj) : Go.Sort.grow ((cW r n N w gv q dk os).drewN q') os' = cW r n N w gv (q + q') dk (os ++ os') := sortWorldK_grown_c (encP r n N) 2 w gv 0 q q' dk os os'
theorem cW_same {w : World} {B N gv cv : Nat} {ys : List (List Nat)} {r : Nat → Nat} {cur : Array Value} (h : GApart w B N gv cv ys r cur) (hN : N ≤ 40) (h0 : 0 < ys.length) (q : Nat) (dk : Array Nat) (os : Array Obj) (x y : Nat) :
    Calls Tryd.prog 53 #[.agg #[.int .i64 (N : Nat), .slice (some ⟨r (cl ys.length x), 0, none⟩) N N], .agg #[.int .i64 (N : Nat), .slice (some ⟨r (cl ys.length y), 0, none⟩) N N]] (cW r ys.length N w gv q dk os) fun e w' =>
      e = .returned (.bool (ys.getD (cl ys.length x) [] == ys.getD (cl ys.length y) [])) ∧ ∃ q' os', w' = Go.Sort.grow ((cW r ys.length N w gv q dk os).drewN q') os' :=
  gn_same _ hN (h.len _ (cl_lt h0)) (h.len _ (cl_lt h0)) (h.row (swk_grown _ w gv 0 q dk os) h0 x) (h.row (swk_grown _ w gv 0 q dk os) h0 y)
theorem pr_grown (F : Array Value) (w : World) (blk q : Nat) (os : Array Obj) : w.grownBy (Go.Sort.grow (Go.Sort.putRow id (Go.Sort.ahead w q) blk 0 F) os) (some blk) := by
  refine ⟨rfl, rfl, rfl, ?_, fun k hk hne => ?_⟩
  · simp [Go.Sort.grow, Go.Sort.putRow, Go.Sort.mapBlock, Go.Sort.ahead]
  · have hkb : ¬ blk = k := fun e => hne (by rw [e])
    simp [Go.Sort.grow, Go.Sort.putRow, Go.Sort.mapBlock, Go.Sort.ahead, Array.getElem?_append, hk, Array.getElem_modify, hkb]
theorem pr_block (F : Array Value) (w : World) (blk q : Nat) (os : Array Obj) {cur : Array Value} {t : TypeId} {fr : Nat × Nat} (h : w.heap[blk]? = some (.cells cur t fr)) : (Go.Sort.grow (Go.Sort.putRow id (Go.Sort.ahead w q) blk 0 F) os).heap[blk]? = some (.cells (Go.Sort.putCells id 0 F cur) t fr) := by
  have hb : blk < w.heap.size := (Array.getElem?_eq_some_iff.1 h).1
  have h' := (Array.getElem?_eq_some_iff.1 h).2
  simp [Go.Sort.grow, Go.Sort.putRow, Go.Sort.mapBlock, Go.Sort.ahead, Array.getElem?_append, hb, Array.getElem_modify, h', Go.Sort.onCells]
theorem cW_set (r : Nat → Nat) (n N : Nat) (w : World) (gv q : Nat) (dk : Array Nat) (os : Array Obj) (s : Nat) (vs : List Value) (hgv : gv < w.heap.size) (hs : s + vs.length ≤ dk.size * 2) :
    (cW r n N w gv q dk os).setCells gv s vs = Go.Sort.grow (Go.Sort.putRow id (Go.Sort.ahead w q) gv 0 (Go.Sort.setMany (Go.Sort.flatK (encP r n N) 2 dk) s vs)) os := by
  show (Go.Sort.grow (Go.Sort.putRow id (Go.Sort.ahead w q) gv 0 (Go.Sort.flatK (encP r n N) 2 dk)) os).setCells gv s vs = _
  rw [Go.Sort.setCells_grow os gv vs s _ (by simp [Go.Sort.putRow, Go.Sort.mapBlock, Go.Sort.ahead]; exact hgv)]
  congr 1
  have := Go.Sort.setCells_putRow (Go.Sort.ahead w q) gv 0 vs s (Go.Sort.flatK (encP r n N) 2 dk) (by simpa using hs)
  rw [Nat.zero_add] at this
  exact this
theorem flat_set (r : Nat → Nat) (n N : Nat) (dk : Array Nat) (k x : Nat) (hk : k < dk.size) : Go.Sort.setMany (Go.Sort.flatK (encP r n N) 2 dk) (k * 2) (encP r n N x) = Go.Sort.flatK (encP r n N) 2 (dk.setIfInBounds k x) := by
  refine Go.Sort.ext_get! (by simp) fun t ht => ?_
  have ht' : t < dk.size * 2 := by simpa using ht
  rw [Go.Sort.get_setMany _ _ _ t (by simpa using ht'), Go.Sort.get_flatK _ _ _ t ht', Go.Sort.get_flatK _ _ _ t (by simpa using ht')]
  by_cases e : t / 2 = k
  · rw [if_pos ⟨by omega, by show t < k * 2 + 2; omega⟩, e, Go.Sort.getElem!_set_same dk k x hk, show t - k * 2 = t % 2 by omega]
  · rw [if_neg (fun h => e (by have h2 : t < k * 2 + 2 := h.2; omega)), Go.Sort.getElem!_set_other dk k (t / 2) x e]
theorem cW_store (r : Nat → Nat) (n N : Nat) (w : World) (gv q : Nat) (dk : Array Nat) (os : Array Obj) (k x : Nat) (hgv : gv < w.heap.size) (hk : k < dk.size) :
    ((cW r n N w gv q dk os).setCell ⟨gv, k * 2, none⟩ (.int .i64 (N : Nat))).setCell ⟨gv, k * 2 + 1, none⟩ (.slice (some ⟨r (cl n x), 0, none⟩) N N) = cW r n N w gv q (dk.setIfInBounds k x) os := by
  have h := cW_set r n N w gv q dk os (k * 2) (encP r n N x) hgv (by simp [encP]; omega)
  rw [flat_set r n N dk k x hk] at h
  exact h
end Go.Proofs.YtfbdgdphpdhcpaaDoor
