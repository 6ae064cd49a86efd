/-
  What series.splitAll answers, if series.split answers as it should of each part. Conditions: as each theorem says.
-/
import Derived.Deep.DeepAppendRoom
import Derived.Test.YtjhpegjcknaioaaDoorSplA
namespace Go.Proofs.YtjhpegjcknaioaaDoor
set_option maxRecDepth 100000
open Go.RowKit

def kd : TT → Int
  | .node none _ => 0
  | .node (some (k, _, _)) _ => k
/-- No term is of the kind that it is next in; those side by side rise by their least points. -/
def Can : TT → Prop
  | .node none _ => False
  | .node (some (k, _, n)) kid => ∀ i, i < n → Can (kid i rfl) ∧ kd (kid i rfl) ≠ k ∧ (k = 2 → ∀ j, j < i → lo (st (kid j rfl)) < lo (st (kid i rfl)))
/-- The term of a set. -/
structure Trm (g : Nat → Nat) (n S : Nat) (T : TT) : Prop where
  ok : Ok (lss g) T
  st : st T = S
  can : Can T
  k2 : kd T = 2 → ¬ Cnn (lkF g n 1) S
  k3 : kd T = 3 → ¬ Cnn (lkF g n 2) S
def zeroT : Value := .agg #[.int .i64 0, .int .i64 0, .slice none 0 0]
def SpRes (K : Nat) (g : Nat → Nat) (n S : Nat) (e : Ending) (w' : World) : Prop :=
  ∃ v ok, e = .returned (.tuple #[v, .bool ok]) ∧ ((ok = true ∧ ∃ T, TRep K w' T v ∧ Trm g n S T) ∨ (ok = false ∧ v = zeroT ∧ ¬ NZ g S))
def AlRes (K : Nat) (g : Nat → Nat) (n m : Nat) (h : Nat → Nat) (kind : Int) (e : Ending) (w' : World) : Prop :=
  ∃ v ok, e = .returned (.tuple #[v, .bool ok]) ∧ ((ok = true ∧ ∃ kid, TRep K w' (.mk kind 0 m kid) v ∧ ∀ i, i < m → Trm g n (h i) (kid i)) ∨ (ok = false ∧ v = zeroT ∧ ∃ i, i < m ∧ ¬ NZ g (h i)))
/-- The cells of a row of terms. -/
def tvals (c : Nat → Int × Int × Value) : Nat → List Value
  | 0 => []
  | i + 1 => tvals c i ++ [.int .i64 (c i).1, .int .i64 (c i).2.1, (c i).2.2]
theorem tvals_len (c : Nat → Int × Int × Value) : ∀ m, (tvals c m).length = m * 3
  | 0 => rfl
  | m + 1 => by rw [tvals, List.length_append, tvals_len c m]; simp; omega
theorem tvals_congr {c c' : Nat → Int × Int × Value} : ∀ m, (∀ i, i < m → c i = c' i) → tvals c m = tvals c' m
  | 0, _ => rfl
  | m + 1, h => by rw [tvals, tvals, tvals_congr m (fun i hi => h i (by omega)), h m (by omega)]
theorem tvals_at (c : Nat → Int × Int × Value) : ∀ m i, i < m → (tvals c m)[i * 3]? = some (.int .i64 (c i).1) ∧ (tvals c m)[i * 3 + 1]? = some (.int .i64 (c i).2.1) ∧ (tvals c m)[i * 3 + 2]? = some (c i).2.2
  | 0, i, h => absurd h (Nat.not_lt_zero _)
  | m + 1, i, h => by
    have hl := tvals_len c m
    rw [tvals]
    by_cases e : i = m
    · subst e
      rw [List.getElem?_append_right (by omega), List.getElem?_append_right (by omega), List.getElem?_append_right (by omega), hl]
      simp
    · obtain ⟨h1, h2, h3⟩ := tvals_at c m i (by omega)
      rw [List.getElem?_append_left (by omega), List.getElem?_append_left (by omega), List.getElem?_append_left (by omega)]
      exact ⟨h1, h2, h3⟩
def aggT (c : Int × Int × Value) : Value := .agg #[.int .i64 c.1, .int .i64 c.2.1, c.2.2]
theorem TRep.grown {K G : Nat} {w w' : World} (hg : w.grownBy w' (some G)) (hG : G < K) (T : TT) : ∀ v, TRep K w T v → TRep K w' T v := by
  induction T using TT.ind with
  | leaf => exact fun _ h => h.elim
  | mk k x n kid ih =>
    intro v h
    obtain ⟨a, cap, rfl, hn, hk⟩ := h
    refine ⟨a, cap, rfl, hn, fun i hi => ?_⟩
    obtain ⟨b, off, e, hK, k', x', a', n', c', ⟨h1, h2, h3⟩, h4⟩ := hk i hi
    have ne : (some b : Option Nat) ≠ some G := fun k => by injection k with k; omega
    exact ⟨b, off, e, hK, k', x', a', n', c', ⟨hg.cell h1 ne, hg.cell h2 ne, hg.cell h3 ne⟩, ih i _ h4⟩
theorem TRep.agg {K : Nat} {w : World} {T : TT} {v : Value} (h : TRep K w T v) : ∃ k x a n c, v = .agg #[.int .i64 k, .int .i64 x, .slice a n c] := by
  induction T using TT.ind with
  | leaf => exact h.elim
  | mk k x n kid _ =>
    obtain ⟨a, cap, rfl, _⟩ := h
    exact ⟨k, x, a, n, cap, rfl⟩
/-- Rows of terms that grow in block G, of room m. -/
structure Kds (G m : Nat) (g : Nat → Nat) (n : Nat) (h : Nat → Nat) (W wx : World) (i : Nat) (c : Nat → Int × Int × Value) (kid : Nat → TT) : Prop where
  own : wx.ownsRow G 27 3 (.slice (some ⟨G, 0, none⟩) i m) i (tvals c i)
  rep : ∀ j, j < i → TRep (G + 1) wx (kid j) (aggT (c j)) ∧ Trm g n (h j) (kid j) ∧ ∃ a l cp, (c j).2.2 = .slice a l cp
  below : Below G W wx
theorem Kds.step {G m : Nat} {g : Nat → Nat} {n : Nat} {h : Nat → Nat} {W wx w' : World} {i : Nat} {c : Nat → Int × Int × Value} {kid : Nat → TT} (k : Kds G m g n h W wx i c kid) (hb : Below wx.heap.size wx w') : Kds G m g n h W w' i c kid := by
  have hs : G < wx.heap.size := own_ltR k.own rfl
  exact ⟨owns_below k.own hb, fun j hj => ⟨TRep.step hb _ _ (k.rep j hj).1, (k.rep j hj).2⟩, k.below.trans (hb.mono (by omega))⟩
theorem Kds.grow {G m : Nat} {g : Nat → Nat} {n : Nat} {h : Nat → Nat} {W wx w' : World} {i : Nat} {c : Nat → Int × Int × Value} {kid : Nat → TT} {T : TT} {k x : Int} {a : Option Addr} {l cp : Nat} (kk : Kds G m g n h W wx i c kid)
    (hown : w'.ownsRow G 27 3 (.slice (some ⟨G, 0, none⟩) (i + 1) m) (i + 1) (tvals c i ++ [.int .i64 k, .int .i64 x, .slice a l cp])) (hg : wx.grownBy w' (some G)) (hT : TRep (G + 1) wx T (.agg #[.int .i64 k, .int .i64 x, .slice a l cp])) (ht : Trm g n (h i) T) :
    Kds G m g n h W w' (i + 1) (fun j => if j = i then (k, x, .slice a l cp) else c j) (fun j => if j = i then T else kid j) := by
  have hs : G < wx.heap.size := own_ltR kk.own rfl
  refine ⟨?_, fun j hj => ?_, ?_⟩
  · have e : tvals (fun j => if j = i then (k, x, Value.slice a l cp) else c j) (i + 1) = tvals c i ++ [.int .i64 k, .int .i64 x, .slice a l cp] := by
      rw [tvals, tvals_congr (c' := c) i (fun j hj => if_neg (by omega))]; simp
    rw [e]; exact hown
  · by_cases e : j = i
    · subst e
      simp only [if_pos]
      exact ⟨TRep.grown hg (by omega) _ _ hT, ht, a, l, cp, rfl⟩
    · simp only [if_neg e]
      have := kk.rep j (by omega)
      exact ⟨TRep.grown hg (by omega) _ _ this.1, this.2⟩
  · exact kk.below.trans ((Below.refl _ _).grown hg (by omega) (fun q hq => by injection hq with hq; omega))
theorem Kds.term {G m : Nat} {g : Nat → Nat} {n : Nat} {h : Nat → Nat} {W wx : World} {c : Nat → Int × Int × Value} {kid : Nat → TT} {K : Nat} {kind : Int} (k : Kds G m g n h W wx m c kid) (hm : m ≤ maxLen) (hK : K ≤ G) : TRep K wx (.mk kind 0 m kid) (.agg #[.int .i64 kind, .int .i64 0, .slice (some ⟨G, 0, none⟩) m m]) := by
  refine ⟨_, m, rfl, hm, fun i hi => ⟨G, 0, rfl, hK, ?_⟩⟩
  obtain ⟨h1, h2, a, l, cp, e⟩ := k.rep i hi
  obtain ⟨t0, t1, t2⟩ := tvals_at c m i hi
  refine ⟨(c i).1, (c i).2.1, a, l, cp, ⟨?_, ?_, ?_⟩, ?_⟩
  · rw [Nat.zero_add, k.own.cellAt _ (by omega)]; exact t0
  · rw [Nat.zero_add, k.own.cellAt _ (by omega)]; exact t1
  · rw [Nat.zero_add, k.own.cellAt _ (by omega), ← e]; exact t2
  · rw [← e]; exact TRep.low (by omega) _ _ h1
theorem set3 {w : World} {b : Nat} {o0 o1 o2 : Value} (v0 v1 v2 : Value) (h0 : w.cell? ⟨b, 0, none⟩ = some o0) (h1 : w.cell? ⟨b, 1, none⟩ = some o1) (h2 : w.cell? ⟨b, 2, none⟩ = some o2) (W : World)
    (hW : ((w.setCell ⟨b, 0, none⟩ v0).setCell ⟨b, 1, none⟩ v1).setCell ⟨b, 2, none⟩ v2 = W) : W.cell? ⟨b, 0, none⟩ = some v0 ∧ W.cell? ⟨b, 1, none⟩ = some v1 ∧ W.cell? ⟨b, 2, none⟩ = some v2 := by
  subst hW
  have n01 : (⟨b, 0, none⟩ : Addr) ≠ ⟨b, 1, none⟩ := by simp
  have n02 : (⟨b, 0, none⟩ : Addr) ≠ ⟨b, 2, none⟩ := by simp
  have n12 : (⟨b, 1, none⟩ : Addr) ≠ ⟨b, 2, none⟩ := by simp
  have a0 : (w.setCell ⟨b, 0, none⟩ v0).cell? ⟨b, 0, none⟩ = some v0 := World.cell?_setCell_same _ _ _ h0
  have a1 : (w.setCell ⟨b, 0, none⟩ v0).cell? ⟨b, 1, none⟩ = some o1 := by rw [World.cell?_setCell_other _ _ _ _ n01]; exact h1
  have a2 : (w.setCell ⟨b, 0, none⟩ v0).cell? ⟨b, 2, none⟩ = some o2 := by rw [World.cell?_setCell_other _ _ _ _ n02]; exact h2
  have b0 : ((w.setCell ⟨b, 0, none⟩ v0).setCell ⟨b, 1, none⟩ v1).cell? ⟨b, 0, none⟩ = some v0 := by rw [World.cell?_setCell_other _ _ _ _ n01.symm]; exact a0
  have b1 : ((w.setCell ⟨b, 0, none⟩ v0).setCell ⟨b, 1, none⟩ v1).cell? ⟨b, 1, none⟩ = some v1 := World.cell?_setCell_same _ _ _ a1
  have b2 : ((w.setCell ⟨b, 0, none⟩ v0).setCell ⟨b, 1, none⟩ v1).cell? ⟨b, 2, none⟩ = some o2 := by rw [World.cell?_setCell_other _ _ _ _ n12]; exact a2
  exact ⟨by rw [World.cell?_setCell_other _ _ _ _ n02.symm]; exact b0, by rw [World.cell?_setCell_other _ _ _ _ n12.symm]; exact b1, World.cell?_setCell_same _ _ _ b2⟩
theorem below3 {w X : World} {B : Nat} {u v z : Value} (h : Below w.heap.size w X) (hB : w.heap.size ≤ B) : Below w.heap.size w (((X.setCell ⟨B, 0, none⟩ u).setCell ⟨B, 1, none⟩ v).setCell ⟨B, 2, none⟩ z) :=
  Below.setCell (p := ⟨B, 2, none⟩) (Below.setCell (p := ⟨B, 1, none⟩) (Below.setCell (p := ⟨B, 0, none⟩) h hB _) hB _) hB _
/-- The three rows of the links, wherever they lie. -/
structure Lks (w : World) (v : Value) (g : Nat → Nat) (n : Nat) : Prop where
  ex : ∃ a0 a1 a2 c0 c1 c2, v = .agg #[.slice a0 n c0, .slice a1 n c1, .slice a2 n c2] ∧ Row w a0 n (fun k => (lkF g n 0 k : Nat)) ∧ Row w a1 n (fun k => (lkF g n 1 k : Nat)) ∧ Row w a2 n (fun k => (lkF g n 2 k : Nat))
theorem res_split (fn : Func) (p u : Tmp) (h : fn.results = #[.cell p 27, .tmp u]) (tmps : Array Value) (W : World) (b : Nat) (k x : Int) (a : Option Addr) (l c : Nat) (ok : Bool) (hp : tmps.getD p undef = .pointer (some ⟨b, 0, none⟩)) (hu : tmps.getD u undef = .bool ok)
    (r0 : W.cell? ⟨b, 0, none⟩ = some (.int .i64 k)) (r1 : W.cell? ⟨b, 1, none⟩ = some (.int .i64 x)) (r2 : W.cell? ⟨b, 2, none⟩ = some (.slice a l c)) :
    (results fn tmps).run Tryd.prog W = .ok (.tuple #[.agg #[.int .i64 k, .int .i64 x, .slice a l c], .bool ok]) W := by
  rw [results_cell_tmp (p := p) (u := u) (ty := 27) h, hp, hu]
  simp [asAddr, loadVar, go_sem, r0, r1, r2]
theorem Tryd.infoT : (Tryd.prog.info? 27).map (fun i => (i.zero, i.size, i.bytes)) = some (some zeroT, 3, 40) := by kernel_rfl
set_option maxHeartbeats 4000000 in
theorem splitAll_of (lv : Value) (g : Nat → Nat) (n : Nat) (kind : Int) (ap : Option Addr) (m cp : Nat) (h : Nat → Nat) (w : World) (hm0 : 0 < m) (hm : m ≤ 10) (hL : Lks w lv g n) (hr : Row w ap m (fun k => (h k : Nat)))
    (hIH : ∀ i, i < m → ∀ W, Below w.heap.size w W → Calls Tryd.prog 24 #[lv, .int .i64 (h i : Nat)] W fun e w' => SpRes W.heap.size g n (h i) e w' ∧ Below W.heap.size W w') :
    Calls Tryd.prog 58 #[lv, .int .i64 kind, .slice ap m cp] w fun e w' => AlRes w.heap.size g n m h kind e w' ∧ Below w.heap.size w w' := by
  obtain ⟨a0, a1, a2, c0, c1, c2, rfl, _, _, _⟩ := hL.ex
  obtain ⟨i0, hi, hz0, hz1, hz2⟩ := info_parts Tryd.infoT
  have HR : Hid (Row w ap m (fun k => ((h k : Nat) : Int))) := hr
  have HIH : Hid (∀ i, i < m → ∀ W, Below w.heap.size w W → Calls Tryd.prog 24 #[.agg #[.slice a0 n c0, .slice a1 n c1, .slice a2 n c2], .int .i64 (h i : Nat)] W fun e w' => SpRes W.heap.size g n (h i) e w' ∧ Below W.heap.size W w') := hIH
  have HB2 : Hid (Below w.heap.size w ((w.alloc (.cells #[.slice a0 n c0, .slice a1 n c1, .slice a2 n c2] 53)).alloc (.cells #[.int .i64 0, .int .i64 0, .slice none 0 0] 27))) := ((Below.refl _ _).alloc (Nat.le_refl _) _).alloc (by simp) _
  clear hL hr hIH
  go_enter Tryd.func58, Tryd.ntmps58
  go_wp2_with (at_make; refine wpList_make_own _ rfl _ _ 25 rfl (w.heap.size + 1 + 1) 27 i0 zeroT 3 Tryd.underlying25 hi hz0 hz1 .i64 .i64 _ m rfl rfl rfl (by rw [hz2]; omega) (by unfold maxLen; omega) (by simp) ?_; intro w2 hown2 hgrow2)
  have HX : Hid (∀ w', Below (w.heap.size + 1 + 1) ((w.alloc (.cells #[.slice a0 n c0, .slice a1 n c1, .slice a2 n c2] 53)).alloc (.cells #[.int .i64 0, .int .i64 0, .slice none 0 0] 27)) w' →
      (w'.cell? ⟨w.heap.size, 0, none⟩ = some (.slice a0 n c0) ∧ w'.cell? ⟨w.heap.size, 1, none⟩ = some (.slice a1 n c1) ∧ w'.cell? ⟨w.heap.size, 2, none⟩ = some (.slice a2 n c2)) ∧
      (w'.cell? ⟨w.heap.size + 1, 0, none⟩ = some (.int .i64 0) ∧ w'.cell? ⟨w.heap.size + 1, 1, none⟩ = some (.int .i64 0) ∧ w'.cell? ⟨w.heap.size + 1, 2, none⟩ = some (.slice none 0 0)) ∧
      (w'.frozen? ⟨w.heap.size + 1, 0, none⟩ = false ∧ w'.frozen? ⟨w.heap.size + 1, 1, none⟩ = false ∧ w'.frozen? ⟨w.heap.size + 1, 2, none⟩ = false)) := fun w' hb => by
    have c : ∀ b o, b < w.heap.size + 1 + 1 → w'.cell? ⟨b, o, none⟩ = _ := fun b o k => hb.cell (p := ⟨b, o, none⟩) k
    have f : ∀ b o, b < w.heap.size + 1 + 1 → w'.frozen? ⟨b, o, none⟩ = _ := fun b o k => hb.frozen (p := ⟨b, o, none⟩) k
    rw [c _ 0 (by omega : w.heap.size < _), c _ 1 (by omega : w.heap.size < _), c _ 2 (by omega : w.heap.size < _), c (w.heap.size + 1) 0 (by omega), c (w.heap.size + 1) 1 (by omega), c (w.heap.size + 1) 2 (by omega), f (w.heap.size + 1) 0 (by omega), f (w.heap.size + 1) 1 (by omega), f (w.heap.size + 1) 2 (by omega)]
    refine ⟨⟨?_, ?_, ?_⟩, ⟨?_, ?_, ?_⟩, World.frozen?_alloc_at _ _ _ _ (by simp), World.frozen?_alloc_at _ _ _ _ (by simp), World.frozen?_alloc_at _ _ _ _ (by simp)⟩ <;> simp
  have hSZ : ((w.alloc (.cells #[.slice a0 n c0, .slice a1 n c1, .slice a2 n c2] 53)).alloc (.cells #[.int .i64 0, .int .i64 0, .slice none 0 0] 27)).heap.size = w.heap.size + 1 + 1 := by simp
  rw [hSZ] at hown2
  generalize (w.alloc (.cells #[.slice a0 n c0, .slice a1 n c1, .slice a2 n c2] 53)).alloc (.cells #[.int .i64 0, .int .i64 0, .slice none 0 0] 27) = W2 at *
  have HSZ : Hid (W2.heap.size = w.heap.size + 1 + 1) := hSZ
  have HK0 : Hid (∃ c kid, Kds (w.heap.size + 1 + 1) m g n h W2 w2 0 c kid) := ⟨fun _ => (0, 0, .nilIface), fun _ => .leaf, hown2, fun j hj => absurd hj (Nat.not_lt_zero _), (Below.refl _ _).grown hgrow2 (by omega) (by simp)⟩
  clear hown2 hgrow2 hSZ
  generalize hG : w.heap.size + 1 + 1 = G at *
  have HT2 : Hid (∀ wx, Below G W2 wx → Below w.heap.size w wx) := fun wx hb => Below.then HB2.out (by rw [HSZ.out]; exact hb)
  go_loopw [8, 18] (fun v t wx => ∃ i : Nat, i ≤ m ∧ t = .int .i64 i ∧ v = .slice (some ⟨G, 0, none⟩) i m ∧ Hid (∃ c kid, Kds G m g n h W2 wx i c kid)) (fun _ t _ => m - (intOf t).toNat)
  case atStart => exact ⟨0, Nat.zero_le _, rfl, rfl, HK0.out⟩
  case round =>
    clear HK0
    obtain ⟨i, him, rfl, rfl, HK⟩ := hrel
    obtain ⟨c, kid, hk⟩ := HK.out
    have HK : Hid (Kds G m g n h W2 wr i c kid) := hk
    have HW : Hid (Below w.heap.size w wr) := HT2.out _ hk.below
    obtain ⟨⟨x0, x1, x2⟩, _, _⟩ := HX.out _ hk.below
    clear hk
    by_cases hlt : i < m
    · have hlI : (i : Int) < (m : Int) := by omega
      obtain ⟨b, off, rfl, q⟩ := HR.out.below HW.out i hlt
      go_wp2_with fail
      refine (HIH.out i hlt _ HW.out).mono ?_
      rintro e w3 ⟨⟨v, ok, rfl, hres⟩, hb3⟩
      have HK3 : Hid (Kds G m g n h W2 w3 i c kid) := HK.out.step hb3
      have HS3 : Hid (wr.heap.size ≤ w3.heap.size) := hb3.size
      have HGW : Hid (G < wr.heap.size) := own_ltR HK.out.own rfl
      clear hb3 HW x0 x1 x2 q HK
      rcases hres with ⟨rfl, T, hT, hTr⟩ | ⟨rfl, rfl, hnz⟩
      · obtain ⟨k', x', a', n', c', rfl⟩ := hT.agg
        have HB4 : Hid (Below w3.heap.size w3 (w3.alloc (.cells #[.int .i64 k', .int .i64 x', .slice a' n' c'] 27))) := (Below.refl _ _).alloc (Nat.le_refl _) _
        have HTr : Hid (Trm g n (h i) T) := hTr
        have HT4 : Hid (TRep (G + 1) (w3.alloc (.cells #[.int .i64 k', .int .i64 x', .slice a' n' c'] 27)) T (.agg #[.int .i64 k', .int .i64 x', .slice a' n' c'])) := TRep.step HB4.out _ _ (TRep.low HGW.out _ _ hT)
        have HK4 : Hid (Kds G m g n h W2 (w3.alloc (.cells #[.int .i64 k', .int .i64 x', .slice a' n' c'] 27)) i c kid) := HK3.out.step HB4.out
        have HB5 : Hid (Below (w3.alloc (.cells #[.int .i64 k', .int .i64 x', .slice a' n' c'] 27)).heap.size (w3.alloc (.cells #[.int .i64 k', .int .i64 x', .slice a' n' c'] 27)) ((w3.alloc (.cells #[.int .i64 k', .int .i64 x', .slice a' n' c'] 27)).alloc (.cells #[.int .i64 k', .int .i64 x', .slice a' n' c'] 27))) := (Below.refl _ _).alloc (Nat.le_refl _) _
        have HK5 : Hid (Kds G m g n h W2 ((w3.alloc (.cells #[.int .i64 k', .int .i64 x', .slice a' n' c'] 27)).alloc (.cells #[.int .i64 k', .int .i64 x', .slice a' n' c'] 27)) i c kid) := HK4.out.step HB5.out
        have HT5 : Hid (TRep (G + 1) ((w3.alloc (.cells #[.int .i64 k', .int .i64 x', .slice a' n' c'] 27)).alloc (.cells #[.int .i64 k', .int .i64 x', .slice a' n' c'] 27)) T (.agg #[.int .i64 k', .int .i64 x', .slice a' n' c'])) := TRep.step HB5.out _ _ HT4.out
        have hown := HK5.out.own
        have HC1 : Hid (∀ j u, [Value.int .i64 k', .int .i64 x', .slice a' n' c'][j]? = some u → ((w3.alloc (.cells #[.int .i64 k', .int .i64 x', .slice a' n' c'] 27)).alloc (.cells #[.int .i64 k', .int .i64 x', .slice a' n' c'] 27)).cell? ((⟨w3.heap.size + 1, 0, none⟩ : Addr).add j) = some u) := fun j u hj => by
          match j, hj with
          | 0, hj => simp at hj; subst hj; simp [Addr.add]
          | 1, hj => simp at hj; subst hj; simp [Addr.add]
          | 2, hj => simp at hj; subst hj; simp [Addr.add]
        clear HT4 HK4 HB5 hT hTr HK3 HB4
        go_wp2_with (at_builtin; refine wpList_append_own_spare _ rfl _ _ 25 rfl G 27 i0 3 Tryd.underlying25 hi hz1 G i m _ rfl hown ⟨w3.heap.size + 1, 0, none⟩ 1 1 [.int .i64 k', .int .i64 x', .slice a' n' c'] rfl rfl HC1.out (by intro u hu; simp at hu; rcases hu with rfl | rfl | rfl <;> rfl) (by omega) ?_)
        intro w5 hown5 hgrow5
        have HK6 : Hid (∃ c kid, Kds G m g n h W2 w5 (i + 1) c kid) := ⟨_, _, HK5.out.grow hown5 hgrow5 HT5.out HTr.out⟩
        clear hown5 hgrow5 hown HK5 HT5 HC1
        go_wp2_with fail
        go_roundw
        case rel => exact ⟨i + 1, by omega, by go_num, rfl, HK6.out⟩
        case measure => simp [intOf]; omega
      · have HN : Hid (∃ i, i < m ∧ ¬ NZ g (h i)) := ⟨i, hlt, hnz⟩
        obtain ⟨_, ⟨r0, r1, r2⟩, f0, f1, f2⟩ := HX.out _ (HK3.out.step ((Below.refl _ _).alloc (Nat.le_refl _) (.cells #[.int .i64 0, .int .i64 0, .slice none 0 0] 27))).below
        have HB9 : Hid (Below w.heap.size w (w3.alloc (.cells #[.int .i64 0, .int .i64 0, .slice none 0 0] 27))) := HT2.out _ (HK3.out.step ((Below.refl _ _).alloc (Nat.le_refl _) _)).below
        unfold zeroT
        clear hnz HK3
        go_wp2_with fail
        have S3 := set3 (.int .i64 0) (.int .i64 0) (.slice none 0 0) r0 r1 r2 _ rfl
        exact bodyPost_ret (res_split _ 6 7 rfl _ _ _ _ _ _ _ _ _ rfl rfl S3.1 S3.2.1 S3.2.2) rfl ⟨⟨_, _, rfl, .inr ⟨rfl, rfl, HN.out⟩⟩, below3 HB9.out (by omega)⟩
    · obtain rfl : i = m := by omega
      obtain ⟨_, ⟨r0, r1, r2⟩, f0, f1, f2⟩ := HX.out _ HK.out.below
      go_wp2_with fail
      have S3 := set3 (.int .i64 kind) (.int .i64 0) (.slice (some ⟨G, 0, none⟩) i i) r0 r1 r2 _ rfl
      have hRG : w.heap.size + 1 < G := by omega
      refine bodyPost_ret (res_split _ 6 7 rfl _ _ _ _ _ _ _ _ _ rfl rfl S3.1 S3.2.1 S3.2.2) rfl ⟨⟨_, _, rfl, .inl ⟨rfl, kid, ?_, fun j hj => (HK.out.rep j hj).2.1⟩⟩, below3 HW.out (by omega)⟩
      exact TRep.low (show w.heap.size ≤ G by omega) _ _ (TRep.set hRG _ _ (TRep.set hRG _ _ (TRep.set hRG _ _ (HK.out.term (K := G) (by unfold maxLen; omega) (Nat.le_refl _)))))
end Go.Proofs.YtjhpegjcknaioaaDoor
