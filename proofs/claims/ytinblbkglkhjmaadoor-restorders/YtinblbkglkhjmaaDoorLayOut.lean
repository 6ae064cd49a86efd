/-
  What extend's layOut answers. Conditions: an order of at most ten points that lies in a slice of numbers; pairs of its points.
-/
import Derived.Test.YtinblbkglkhjmaaDoorClone
import Derived.Deep.RegionHeld3
namespace Go.Proofs.YtinblbkglkhjmaaDoor
open Go.RowKit

/-- What each point needs, by the order and the first k pairs. -/
def kn (g : Nat → Nat) (p : Nat → Nat × Nat) : Nat → Nat → Nat
  | 0 => g
  | k + 1 => upd (kn g p k) (p k).2 (kn g p k (p k).2 ||| pw (p k).1)
def KRow (w : World) (a : Option Addr) (len : Nat) (p : Nat → Nat × Nat) : Prop :=
  ∀ k, k < len → ∃ b off, a = some ⟨b, off, none⟩ ∧ w.cell? ⟨b, off + k * 2, none⟩ = some (.int .i64 (p k).1) ∧ w.cell? ⟨b, off + k * 2 + 1, none⟩ = some (.int .i64 (p k).2)
theorem KRow.below {w w' : World} {a : Option Addr} {len : Nat} {p : Nat → Nat × Nat} (h : KRow w a len p) (hb : Below w.heap.size w w') : KRow w' a len p := by
  intro k hk
  obtain ⟨b, off, rfl, hc, hd⟩ := h k hk
  exact ⟨b, off, rfl, (hb.cell (World.block_lt_of_cell? _ _ hc)).trans hc, (hb.cell (World.block_lt_of_cell? _ _ hd)).trans hd⟩
theorem kn_sm {g : Nat → Nat} {p : Nat → Nat × Nat} {n : Nat} (hg : Sm n n g) : ∀ k, (∀ j, j < k → (p j).1 < n ∧ (p j).2 < n) → Sm n n (kn g p k)
  | 0, _ => hg
  | k + 1, h => by
    have ih := kn_sm hg k (fun j hj => h j (by omega))
    exact ih.upd_or (ih _ (h k (by omega)).2) (Nat.pow_lt_pow_right (by decide) (h k (by omega)).1)

theorem all_as (n : Nat) (w : World) (hn : n ≤ 10) (M : Nat) (hM : M + 1 = pw n) :
    Calls Tryd.prog 25 #[.int .i64 n] w fun e w' => e = .returned (.int .i64 (M : Nat)) ∧ w = w' :=
  (all_any n w hn).mono fun _ _ ⟨h1, h2⟩ => ⟨by rw [h1]; exact ret_int (by omega), h2⟩
theorem ad_ne {b b' o o' : Nat} (h : b ≠ b') : (⟨b, o, none⟩ : Addr) ≠ ⟨b', o', none⟩ := fun e => h (by injection e)
theorem region_by {P : Program} {c : Code} {Q : Exit → Act → World → Prop} {a : Act} {w : World} (R : Act → Act → World → Prop)
    (h : c.wp P (fun x a' W => match x with | .normal => R a a' W | _ => False) a w) (hq : ∀ a' W, R a a' W → Q .normal a' W) : c.wp P Q a w :=
  Code.wp_mono (fun x a' W q => by cases x <;> first | exact hq _ _ q | exact q.elim) h
theorem wpop_make {P : Program} (w : World) {o : Oper} {a : Act} {K : Act → World → Prop} {Q : Exit → Act → World → Prop} {l c : Operand}
    (t : TypeId) (hop : o.op = Op.makeSlice t l c)
    (base : Nat) (e : TypeId) (i : TypeInfo) (z : Value) (size : Nat) (h1 : P.underlying t = some (.slice e)) (h2 : P.info? e = some i) (h3 : i.zero = some z) (h4 : i.size = size)
    (kl kc : IntKind) (L C : Int) (n : Nat) (hl : a.eval l = .int kl L) (hc : a.eval c = .int kc C) (hL : L = (n : Int)) (hC : C = (n : Int)) (b2 : i.bytes * n ≤ 281474976710656) (b3 : n ≤ maxLen) (b4 : base ≤ w.heap.size)
    (hK : ∀ w', w'.ownsRow base e size (.slice (some ⟨w.heap.size, 0, none⟩) n n) n (madeCells z.cells (n * size)).toList → w.grownBy w' none → K (a.put o.dst (.slice (some ⟨w.heap.size, 0, none⟩) n n)) w') :
    Oper.wp P o a w K Q := by
  obtain ⟨w', hrun, r1, r2⟩ := run_make_full (P := P) w base t e i z size h1 h2 h3 h4 kl kc n b2 b3 b4
  subst hL
  subst hC
  unfold Oper.wp
  simp [execOp, hop, hl, hc, hrun, Result.andThen]
  exact hK w' r1 r2
theorem owns_cblk {w : World} {base size n : Nat} {e : TypeId} {v : Value} {xs : List Value} (h : w.ownsRow base e size v n xs) : ∀ k, v.ownBlock = some k → base ≤ k ∧ k < w.heap.size := h.lt
/-- A clone in a block of its own. -/
def Cloned (w : World) (ac : Option Addr) (n cc : Nat) (g : Nat → Nat) (base : Nat) : Prop := w.ownsRow base 3 1 (.slice ac n cc) n (rowVals g n) ∧ ∀ k, (Value.slice ac n cc).ownBlock = some k → base ≤ k ∧ k < w.heap.size
theorem Cloned.step {w w' : World} {ac : Option Addr} {n cc : Nat} {g : Nat → Nat} {base : Nat} (h : Cloned w ac n cc g base) (hb : Below w.heap.size w w') : Cloned w' ac n cc g base :=
  ⟨owns_below h.1 hb, fun k hk => ⟨(h.2 k hk).1, Nat.lt_of_lt_of_le (h.2 k hk).2 hb.size⟩⟩
/-- A new box for rows. -/
def ZB (X : World) (B : Nat) : Prop := X.cell? ⟨B, 0, none⟩ = some (.slice none 0 0) ∧ X.cell? ⟨B, 1, none⟩ = some (.slice none 0 0) ∧ X.frozen? ⟨B, 0, none⟩ = false ∧ X.frozen? ⟨B, 1, none⟩ = false
theorem ZB.new (w : World) : ZB (w.alloc (.cells #[.slice none 0 0, .slice none 0 0] 91)) w.heap.size :=
  ⟨by simp, by simp, World.frozen?_alloc_at _ _ _ _ rfl, World.frozen?_alloc_at _ _ _ _ rfl⟩
theorem ZB.step {X X' : World} {B : Nat} (h : ZB X B) (hb : Below X.heap.size X X') : ZB X' B := by
  obtain ⟨h1, h2, h3, h4⟩ := h
  have hlt : B < X.heap.size := World.block_lt_of_cell? _ _ h1
  exact ⟨(hb.cell (p := ⟨B, 0, none⟩) hlt).trans h1, (hb.cell (p := ⟨B, 1, none⟩) hlt).trans h2, (hb.frozen (p := ⟨B, 0, none⟩) hlt).trans h3, (hb.frozen (p := ⟨B, 1, none⟩) hlt).trans h4⟩
theorem Own.apart {w : World} {b n B o : Nat} {g : Nat → Nat} {x : Value} (h : Own w b n g) (hne : b ≠ B) : Own (w.setCell ⟨B, o, none⟩ x) b n g := fun k hk => by
  obtain ⟨h1, h2⟩ := h k hk
  refine ⟨?_, by rw [World.frozen?_setCell]; exact h2⟩
  rw [World.cell?_setCell_other _ _ _ _ (ad_ne (Ne.symm hne))]; exact h1
/-- The rows' box, what they need, and how they go on, each in a block of its own. -/
structure Laid (W0 W : World) (B : Nat) (ac : Option Addr) (cc b n : Nat) (u e : Nat → Nat) : Prop where
  below : Below W0.heap.size W0 W
  c0 : W.cell? ⟨B, 0, none⟩ = some (.slice ac n cc)
  c1 : W.cell? ⟨B, 1, none⟩ = some (.slice (some ⟨b, 0, none⟩) (pw n) (pw n))
  need : ∀ k, k < n → ∃ bn, ac = some ⟨bn, 0, none⟩ ∧ (W0.heap.size ≤ bn ∧ bn ≠ b ∧ bn ≠ B) ∧ W.cell? ⟨bn, k, none⟩ = some (.int .i64 (u k : Nat)) ∧ W.frozen? ⟨bn, k, none⟩ = false
  ends : Own W b (pw n) e
  ne3 : b ≠ B
  hB : W0.heap.size ≤ B
  hb : W0.heap.size ≤ b
theorem Laid.row {W0 W : World} {B : Nat} {ac : Option Addr} {cc b n : Nat} {u e : Nat → Nat} (h : Laid W0 W B ac cc b n u e) : Row W ac n (fun k => (u k : Nat)) := fun k hk => by
  obtain ⟨bn, e, _, hc, _⟩ := h.need k hk
  exact ⟨bn, 0, e, by rw [Nat.zero_add]; exact hc⟩
theorem Laid.step {W0 W W' : World} {B : Nat} {ac : Option Addr} {cc b n : Nat} {u e : Nat → Nat} (h : Laid W0 W B ac cc b n u e) (hb : Below W.heap.size W W') : Laid W0 W' B ac cc b n u e := by
  have hl1 : B < W.heap.size := World.block_lt_of_cell? _ _ h.c0
  have hl2 : b < W.heap.size := h.ends.lt (pw_pos n)
  refine ⟨Below.then h.below hb, (hb.cell (p := ⟨B, 0, none⟩) hl1).trans h.c0, (hb.cell (p := ⟨B, 1, none⟩) hl1).trans h.c1, fun k hk => ?_, h.ends.keep hb hl2, h.ne3, h.hB, h.hb⟩
  obtain ⟨bn, e, hn, hc, hf⟩ := h.need k hk
  have hl3 : bn < W.heap.size := World.block_lt_of_cell? _ _ hc
  exact ⟨bn, e, hn, (hb.cell (p := ⟨bn, k, none⟩) hl3).trans hc, (hb.frozen (p := ⟨bn, k, none⟩) hl3).trans hf⟩
theorem Laid.setEnd {W0 W : World} {B : Nat} {ac : Option Addr} {cc b n : Nat} {u e : Nat → Nat} (h : Laid W0 W B ac cc b n u e) (s x : Nat) (hs : s < pw n) : Laid W0 (W.setCell ⟨b, s, none⟩ (.int .i64 (x : Nat))) B ac cc b n u (upd e s x) := by
  have hne := h.ne3
  refine ⟨Below.setCell (p := ⟨b, s, none⟩) h.below h.hb _, (World.cell?_setCell_other _ _ _ _ (ad_ne hne)).trans h.c0, (World.cell?_setCell_other _ _ _ _ (ad_ne hne)).trans h.c1, fun k hk => ?_, h.ends.set s x hs, h.ne3, h.hB, h.hb⟩
  obtain ⟨bn, e, hn, hc, hf⟩ := h.need k hk
  exact ⟨bn, e, hn, (World.cell?_setCell_other _ _ _ _ (ad_ne (Ne.symm hn.2.1))).trans hc, by rw [World.frozen?_setCell]; exact hf⟩
theorem Laid.setNeed {W0 W : World} {B bn : Nat} {cc b n : Nat} {u e : Nat → Nat} (h : Laid W0 W B (some ⟨bn, 0, none⟩) cc b n u e) (s x : Nat) (hs : s < n) : Laid W0 (W.setCell ⟨bn, s, none⟩ (.int .i64 (x : Nat))) B (some ⟨bn, 0, none⟩) cc b n (upd u s x) e := by
  obtain ⟨bn', e1, hn, _, _⟩ := h.need s hs
  cases e1
  refine ⟨Below.setCell (p := ⟨bn, s, none⟩) h.below hn.1 _, (World.cell?_setCell_other _ _ _ _ (ad_ne hn.2.2)).trans h.c0, (World.cell?_setCell_other _ _ _ _ (ad_ne hn.2.2)).trans h.c1, fun k hk => ?_, h.ends.apart (Ne.symm hn.2.1), h.ne3, h.hB, h.hb⟩
  obtain ⟨bk, e2, hn2, hc, hf⟩ := h.need k hk
  cases e2
  refine ⟨bn, rfl, hn2, ?_, by rw [World.frozen?_setCell]; exact hf⟩
  by_cases e3 : k = s
  · subst e3; rw [upd_same]; exact World.cell?_setCell_same _ _ _ hc
  · rw [upd_other _ _ _ _ e3, World.cell?_setCell_other _ _ _ _ (fun e2 => e3 (by injection e2 with _ h2; exact h2.symm))]; exact hc
theorem Laid.congr {W0 W : World} {B : Nat} {ac : Option Addr} {cc b n : Nat} {u e e' : Nat → Nat} (h : Laid W0 W B ac cc b n u e) (he : ∀ s, s < pw n → e s = e' s) : Laid W0 W B ac cc b n u e' :=
  ⟨h.below, h.c0, h.c1, h.need, h.ends.congr he, h.ne3, h.hB, h.hb⟩

theorem laid_out {W0 wx w : World} {B : Nat} {ac : Option Addr} {cc b n : Nat} {u : Nat → Nat} {x y : Value} (h : Laid W0 wx B ac cc b n u (ways u n)) (hs : W0.heap.size = w.heap.size + 2) (hb : Below w.heap.size w W0) :
    (Row ((wx.setCell ⟨w.heap.size + 1, 0, none⟩ x).setCell ⟨w.heap.size + 1, 1, none⟩ y) ac n (fun k => (u k : Nat)) ∧ Tabl ((wx.setCell ⟨w.heap.size + 1, 0, none⟩ x).setCell ⟨w.heap.size + 1, 1, none⟩ y) b n 0 u) ∧ Below w.heap.size w ((wx.setCell ⟨w.heap.size + 1, 0, none⟩ x).setCell ⟨w.heap.size + 1, 1, none⟩ y) := by
  refine ⟨⟨fun k hk => ?_, fun s hs2 _ => ?_⟩, set2B (Below.then hb h.below) (by omega)⟩
  · obtain ⟨bn, e, hn, hc, _⟩ := h.need k hk
    have h1 := hn.1
    refine ⟨bn, 0, e, ?_⟩
    rw [World.cell?_setCell_other _ _ _ _ (by simp <;> omega), World.cell?_setCell_other _ _ _ _ (by simp <;> omega), Nat.zero_add]; exact hc
  · have h1 := h.hb
    rw [World.cell?_setCell_other _ _ _ _ (by simp <;> omega), World.cell?_setCell_other _ _ _ _ (by simp <;> omega)]
    exact (h.ends s hs2).1
/-- The table, as far as it is laid out from the top down. -/
def tb (u : Nat → Nat) (n m s : Nat) : Nat := if m ≤ s then ways u n s else 0
theorem tb_top {u : Nat → Nat} {n M s : Nat} (hM : M + 1 = pw n) (hs : s < pw n) : upd (fun _ => 0) M 1 s = tb u n M s := by
  unfold upd tb
  by_cases e : s = M
  · subst e
    have := ways_all u n
    rw [show pw n - 1 = s by omega] at this
    simp [this]
  · have : ¬ M ≤ s := by omega
    simp [e, this]
theorem tb_low {u : Nat → Nat} {n s x : Nat} : tb u n (s + 1) x = upd (tb u n (s + 1)) s (sumTo (goes u n s) 0) x := by
  unfold upd
  by_cases e : x = s
  · subst e
    have : ¬ x + 1 ≤ x := by omega
    simp [tb, this, sumTo]
  · simp [e]
theorem tb_next {u : Nat → Nat} {n s x : Nat} (h : s + 1 < pw n) : upd (tb u n (s + 1)) s (sumTo (goes u n s) n) x = tb u n s x := by
  unfold upd
  by_cases e : x = s
  · subst e
    simp [tb, ways_eq h]
  · have : (s + 1 ≤ x) = (s ≤ x) := by simp; omega
    simp [e, tb, this]

theorem grown_set (w : World) (B o : Nat) (x : Value) : w.grownBy (w.setCell ⟨B, o, none⟩ x) (some B) :=
  ⟨rfl, rfl, rfl, by simp [World.setCell], fun k _ hk => by
    have hne : ¬ B = k := fun e => hk (by rw [e])
    simp [World.setCell, Array.getElem?_modify, hne]⟩
theorem laid_fin {W0 X : World} {B b n cc base : Nat} {ac : Option Addr} {g : Nat → Nat} (hb : Below W0.heap.size W0 X) (hcl : Cloned X ac n cc g base) (hmk : Own X b (pw n) (fun _ => 0)) (hz : ZB X B)
    (hk : ∀ k, (Value.slice ac n cc).ownBlock = some k → k ≠ b ∧ k ≠ B ∧ W0.heap.size ≤ k) (hbB : b ≠ B) (h1 : W0.heap.size ≤ B) (h2 : W0.heap.size ≤ b) (_h3 : W0.heap.size ≤ base) :
    Laid W0 ((X.setCell ⟨B, 0, none⟩ (.slice ac n cc)).setCell ⟨B, 1, none⟩ (.slice (some ⟨b, 0, none⟩) (pw n) (pw n))) B ac cc b n g (fun _ => 0) := by
  obtain ⟨z0, z1, f0, f1⟩ := hz
  refine ⟨set2B hb h1, (World.cell?_setCell_other _ _ _ _ (by simp)).trans (World.cell?_setCell_same _ _ _ z0), World.cell?_setCell_same _ _ _ ((World.cell?_setCell_other _ _ _ _ (by simp)).trans z1), fun k hkn => ?_, (hmk.apart hbB).apart hbB, hbB, h1, h2⟩
  obtain ⟨gb, cap2, e⟩ := owns_form hcl.1 (by omega)
  cases e
  have hne := hk gb rfl
  refine ⟨gb, rfl, ⟨hne.2.2, hne.1, hne.2.1⟩, ?_, ?_⟩
  · rw [World.cell?_setCell_other _ _ _ _ (ad_ne (Ne.symm hne.2.1)), World.cell?_setCell_other _ _ _ _ (ad_ne (Ne.symm hne.2.1)), hcl.1.cellAt k (by omega)]
    exact rowVals_at g n k hkn
  · rw [World.frozen?_setCell, World.frozen?_setCell]; exact hcl.1.frozenAt k

set_option maxHeartbeats 1000000 in
theorem layOut_any (n : Nat) (a : Option Addr) (cap : Nat) (g : Nat → Nat) (ka : Option Addr) (kl kc : Nat) (p : Nat → Nat × Nat) (w : World) (hn : n ≤ 10) (hg : Sm n n g) (hr : Row w a n (fun k => (g k : Nat)))
    (hk : KRow w ka kl p) (hkl : kl ≤ 2) (hp : ∀ j, j < kl → (p j).1 < n ∧ (p j).2 < n) :
    Calls Tryd.prog 68 #[.agg #[.int .i64 (n : Int), .slice a n cap], .slice ka kl kc] w fun e w' => (∃ a' cap' b, e = .returned (.agg #[.slice a' n cap', .slice (some ⟨b, 0, none⟩) (pw n) (pw n)]) ∧ Row w' a' n (fun k => (kn g p kl k : Nat)) ∧ Tabl w' b n 0 (kn g p kl)) ∧ Below w.heap.size w w' := by
  have K0 : Held ((w.alloc (.cells #[.int .i64 (n : Int), .slice a n cap] 24)).alloc (.cells #[.slice none 0 0, .slice none 0 0] 91)) w.heap.size n a n cap (fun k => (g k : Nat)) := (Held.box hr).step ((Below.refl _ _).alloc (Nat.le_refl _) _)
  obtain ⟨W0, HW0⟩ : ∃ W0, Hid (W0 = (w.alloc (.cells #[.int .i64 (n : Int), .slice a n cap] 24)).alloc (.cells #[.slice none 0 0, .slice none 0 0] 91)) := ⟨_, rfl⟩
  have HB0 : Hid (Below w.heap.size w W0) := by rw [HW0.out]; exact ((Below.refl _ _).alloc (Nat.le_refl _) _).alloc (by simp) _
  rw [← HW0.out] at K0
  have hpn := pw_le n hn
  have hpos := pw_pos n
  have hwr := iwrap_pow n (by omega)
  obtain ⟨i0, hi, hz0, hz1, hz2⟩ := info_parts Tryd.info3
  have LR : Hid (∀ w', Below W0.heap.size W0 w' → Row w' a n (fun k => (g k : Nat))) := fun w' h => (K0.step h).row
  have l0 : ∀ w', Below W0.heap.size W0 w' → w'.cell? ⟨w.heap.size, 0, none⟩ = some (.int .i64 (n : Int)) := fun w' h => (K0.step h).c0
  have l1 : ∀ w', Below W0.heap.size W0 w' → w'.cell? ⟨w.heap.size, 1, none⟩ = some (.slice a n cap) := fun w' h => (K0.step h).c1
  have hsz0 : W0.heap.size = w.heap.size + 2 := by rw [HW0.out]; simp
  have HSZ0 : Hid (W0.heap.size = w.heap.size + 2) := hsz0
  clear hsz0
  have HRB0 : Hid (∀ w', Below W0.heap.size W0 w' → ZB w' (w.heap.size + 1)) := fun w' h => by
    refine ZB.step (X := W0) ?_ h
    rw [HW0.out]
    have := ZB.new (w.alloc (.cells #[.int .i64 (n : Int), .slice a n cap] 24))
    rw [World.size_alloc] at this
    exact this
  have HN0 : Hid (∀ w', Below W0.heap.size W0 w' → w'.cell? ⟨w.heap.size, 0, none⟩ = some (.int .i64 (n : Int))) := l0
  have KK : Below W0.heap.size W0 W0.drew := (Below.refl _ _).drew
  go_enter Tryd.func68, Tryd.ntmps68
  go_wp2_with fail
  rw [← HW0.out]
  refine region_by (fun a0 a' W => ∃ B ac cc b, a' = (((((((((a0.put (some 10) (.pointer (some ⟨w.heap.size, 1, none⟩))).put (some 11) (.slice a n cap)).put (some 13) (.pointer (some ⟨w.heap.size, 0, none⟩))).put (some 14) (.int .i64 n)).put (some 15) (.int .i64 (pw n))).put (some 12) (.slice ac n cc)).put (some 16) (.slice (some ⟨b, 0, none⟩) (pw n) (pw n))).put (some 17) (.agg #[.slice ac n cc, .slice (some ⟨b, 0, none⟩) (pw n) (pw n)])).put (some 5) (.pointer (some ⟨B, 0, none⟩))) ∧ Hid (Laid W0 W B ac cc b n g (fun _ => 0))) ?_ ?_
  · refine wp_region_held_drew (S := (fun w' => Below W0.heap.size W0 w')) (by kernel_rfl) (KK) (fun hHeld => ?_)
    refine wpAnyH_take (i := 0) (oi := { dst := some 10, op := Op.fieldAddr 24 (Operand.tmp 2) 1, type := 0, pos := "rows.go:18", after := #[], guard := none }) (v := ?_) rfl (by kernel_rfl) (by kernel_rfl) (by kernel_rfl) (fun _ _ _ h => h.elim) (Or.inl ⟨by rfl, ?hy⟩) (by assumption) ?_
    case hy => (intro w9 hSw; (try dsimp only at hSw); go_simp; try with_reducible rfl)
    try simp only [Act.put, List.setIfInBounds_toArray, List.set_cons_zero, List.set_cons_succ]
    refine wpAnyH_take (i := 1) (oi := { dst := some 11, op := Op.load 22 (Operand.tmp 10), type := 22, pos := "rows.go:18", after := #[{ on := 0, ground := Ground.data }], guard := none }) (v := ?_) rfl (by kernel_rfl) (by kernel_rfl) (by kernel_rfl) (fun _ _ _ h => h.elim) (Or.inl ⟨by rfl, ?hy⟩) (by assumption) ?_
    case hy => (intro w9 hSw; (try dsimp only at hSw); go_simp; try with_reducible rfl)
    try simp only [Act.put, List.setIfInBounds_toArray, List.set_cons_zero, List.set_cons_succ]
    refine wpAnyH_take (i := 3) (oi := { dst := some 13, op := Op.fieldAddr 24 (Operand.tmp 2) 0, type := 0, pos := "rows.go:18", after := #[], guard := none }) (v := ?_) rfl (by kernel_rfl) (by kernel_rfl) (by kernel_rfl) (fun _ _ _ h => h.elim) (Or.inl ⟨by rfl, ?hy⟩) (by assumption) ?_
    case hy => (intro w9 hSw; (try dsimp only at hSw); go_simp; try with_reducible rfl)
    try simp only [Act.put, List.setIfInBounds_toArray, List.set_cons_zero, List.set_cons_succ]
    refine wpAnyH_take (i := 4) (oi := { dst := some 14, op := Op.load 3 (Operand.tmp 13), type := 3, pos := "rows.go:18", after := #[{ on := 3, ground := Ground.data }], guard := none }) (v := ?_) rfl (by kernel_rfl) (by kernel_rfl) (by kernel_rfl) (fun _ _ _ h => h.elim) (Or.inl ⟨by rfl, ?hy⟩) (by assumption) ?_
    case hy => (intro w9 hSw; (try dsimp only at hSw); go_simp; try with_reducible rfl)
    try simp only [Act.put, List.setIfInBounds_toArray, List.set_cons_zero, List.set_cons_succ]
    refine wpAnyH_take (i := 5) (oi := { dst := some 15, op := Op.binOp BinOp.shl 3 (Operand.const (Value.int IntKind.i64 1)) (Operand.tmp 14) 3, type := 3, pos := "rows.go:18", after := #[{ on := 4, ground := Ground.data }], guard := none }) (v := ?_) rfl (by kernel_rfl) (by kernel_rfl) (by kernel_rfl) (fun _ _ _ h => h.elim) (Or.inl ⟨by rfl, ?hy⟩) (by assumption) ?_
    case hy => (intro w9 hSw; (try dsimp only at hSw); go_simp; try with_reducible rfl)
    try simp only [Act.put, List.setIfInBounds_toArray, List.set_cons_zero, List.set_cons_succ]
    have HS1 : Hid (W0.drew.heap.size = W0.heap.size) := rfl
    generalize W0.drew = W1 at *
    refine wpAnyH_ready (rs := [2, 6, 8]) (by kernel_rfl) (by simp) ?_
    refine AllReadyH.cons (o := { dst := some 12, op := Op.call { callee := Callee.value (Operand.func 34), args := #[Operand.tmp 11], argTypes := #[22] }, type := 22, pos := "rows.go:18", after := #[{ on := 1, ground := Ground.data }], guard := none }) rfl (fun K hK => ?_) ?_
    · go_simp
      refine (clone_any n a cap g _ hn (LR.out _ (by assumption))).mono ?_
      rintro e wc ⟨⟨v, rfl, hcl⟩, hbc⟩
      obtain ⟨ac, cc, rfl, _⟩ := owns_row hcl
      have HCL : Hid (Cloned wc ac n cc g W1.heap.size) := ⟨hcl, owns_cblk hcl⟩
      have hsc := hbc.size
      clear hcl
      refine hK.out _ _ ?_ (fun hHeld => ?_)
      · exact Below.then (by assumption) (by assumption)
      clear hK K
      try simp only [Act.put, List.setIfInBounds_toArray, List.set_cons_zero, List.set_cons_succ]
      refine wpAnyH_ready (rs := [6, 8]) (by kernel_rfl) (by simp) ?_
      refine AllReadyH.cons (o := { dst := some 16, op := Op.makeSlice 22 (Operand.tmp 15) (Operand.tmp 15), type := 22, pos := "rows.go:18", after := #[{ on := 5, ground := Ground.data }, { on := 5, ground := Ground.data }], guard := none }) rfl (fun K hK => ?_) ?_
      · rw [if_pos (by rfl)]
        refine wpop_make _ 22 rfl _ 3 i0 (.int .i64 0) 1 Tryd.underlying22 hi hz0 hz1 .i64 .i64 _ _ (pw n) rfl rfl rfl rfl (by rw [hz2]; omega) (by unfold maxLen; omega) (Nat.le_refl _) ?_
        intro wm hown2 hgrow2
        have HMK : Hid (Own wm wc.heap.size (pw n) (fun _ => 0)) := own_made hown2
        have hbm : Below wc.heap.size wc wm := (Below.refl _ _).grown hgrow2 (Nat.le_refl _) (by simp)
        have hsm : wc.heap.size < wm.heap.size := HMK.out.lt hpos
        clear hown2 hgrow2
        refine hK.out _ _ ?_ (fun hHeld => ?_)
        · exact Below.then (by assumption) (by assumption)
        clear hK K
        try simp only [Act.put, List.setIfInBounds_toArray, List.set_cons_zero, List.set_cons_succ]
        refine wpAnyH_take (i := 7) (oi := { dst := some 17, op := Op.build 91 #[(0, Operand.tmp 12), (1, Operand.tmp 16)], type := 91, pos := "rows.go:18", after := #[{ on := 2, ground := Ground.data }, { on := 6, ground := Ground.data }], guard := none }) (v := ?_) rfl (by kernel_rfl) (by kernel_rfl) (by kernel_rfl) (fun _ _ _ h => h.elim) (Or.inl ⟨by rfl, ?hy⟩) (by assumption) ?_
        case hy => (intro w9 hSw; (try dsimp only at hSw); go_simp; try with_reducible rfl)
        try simp only [Act.put, List.setIfInBounds_toArray, List.set_cons_zero, List.set_cons_succ]
        refine wpAnyH_ready (rs := [8]) (by kernel_rfl) (by simp) ?_
        refine AllReadyH.cons (o := { dst := some 5, op := Op.alloc 91, type := 0, pos := "rows.go:18", after := #[], guard := none }) rfl (fun K hK => ?_) ?_
        · obtain ⟨wb, HWB⟩ : ∃ wb, Hid (wb = wm.alloc (.cells #[.slice none 0 0, .slice none 0 0] 91)) := ⟨_, rfl⟩
          have HZB : Hid (ZB wb wm.heap.size) := by rw [HWB.out]; exact ZB.new _
          have hbb : Below wm.heap.size wm wb := by rw [HWB.out]; exact (Below.refl _ _).alloc (Nat.le_refl _) _
          have HSB : Hid (wb.heap.size = wm.heap.size + 1) := by rw [HWB.out]; exact World.size_alloc _ _
          go_simp
          rw [← HWB.out]
          refine hK.out _ _ ?_ (fun hHeld => ?_)
          · exact Below.then (by assumption) (by assumption)
          clear hK K
          try simp only [Act.put, List.setIfInBounds_toArray, List.set_cons_zero, List.set_cons_succ]
          refine wpAnyH_ready (rs := [9]) (by kernel_rfl) (by simp) ?_
          refine AllReadyH.cons (o := { dst := none, op := Op.store 91 (Operand.tmp 5) (Operand.tmp 17), type := 0, pos := "rows.go:18", after := #[{ on := 8, ground := Ground.data }, { on := 7, ground := Ground.data }, { on := 2, ground := Ground.chain }, { on := 0, ground := Ground.phase }, { on := 1, ground := Ground.phase }, { on := 2, ground := Ground.phase }, { on := 3, ground := Ground.phase }, { on := 4, ground := Ground.phase }, { on := 5, ground := Ground.phase }, { on := 6, ground := Ground.phase }, { on := 7, ground := Ground.phase }, { on := 8, ground := Ground.phase }], guard := none }) rfl (fun K hK => ?_) ?_
          · obtain ⟨z0, z1, f0, f1⟩ := HZB.out.step (Below.refl _ _)
            have HL : Hid (Laid W0 ((wb.setCell ⟨wm.heap.size, 0, none⟩ (.slice ac n cc)).setCell ⟨wm.heap.size, 1, none⟩ (.slice (some ⟨wc.heap.size, 0, none⟩) (pw n) (pw n))) wm.heap.size ac cc wc.heap.size n g (fun _ => 0)) :=
              laid_fin (by assumption) (HCL.out.step (Below.then hbm hbb)) (HMK.out.keep hbb hsm) (HZB.out.step (Below.refl _ _))
                (fun k hk => by have h1 := HCL.out.2 k hk; have h2 := HSB.out; have h3 := HS1.out; omega) (by have h2 := HSB.out; have h3 := HS1.out; omega) (by have h2 := HSB.out; have h3 := HS1.out; omega) (by have h2 := HSB.out; have h3 := HS1.out; omega) (by have h2 := HSB.out; have h3 := HS1.out; omega)
            go_simp
            refine hK.out _ _ ?_ (fun hHeld => ?_)
            · exact HL.out.below
            clear hK K
            try simp only [Act.put, List.setIfInBounds_toArray, List.set_cons_zero, List.set_cons_succ]
            refine wpAnyH_done (by kernel_rfl) ?_ _
            refine ⟨wm.heap.size, ac, cc, wc.heap.size, ?_, HL⟩
            first
              | rfl
              | simp only [Act.put, List.setIfInBounds_toArray, List.set_cons_zero, List.set_cons_succ]
          exact AllReadyH.nil
        exact AllReadyH.nil
      refine AllReadyH.cons (o := { dst := some 5, op := Op.alloc 91, type := 0, pos := "rows.go:18", after := #[], guard := none }) rfl (fun K hK => ?_) ?_
      · obtain ⟨wb, HWB⟩ : ∃ wb, Hid (wb = wc.alloc (.cells #[.slice none 0 0, .slice none 0 0] 91)) := ⟨_, rfl⟩
        have HZB : Hid (ZB wb wc.heap.size) := by rw [HWB.out]; exact ZB.new _
        have hbb : Below wc.heap.size wc wb := by rw [HWB.out]; exact (Below.refl _ _).alloc (Nat.le_refl _) _
        have HSB : Hid (wb.heap.size = wc.heap.size + 1) := by rw [HWB.out]; exact World.size_alloc _ _
        go_simp
        rw [← HWB.out]
        refine hK.out _ _ ?_ (fun hHeld => ?_)
        · exact Below.then (by assumption) (by assumption)
        clear hK K
        try simp only [Act.put, List.setIfInBounds_toArray, List.set_cons_zero, List.set_cons_succ]
        refine wpAnyH_ready (rs := [6]) (by kernel_rfl) (by simp) ?_
        refine AllReadyH.cons (o := { dst := some 16, op := Op.makeSlice 22 (Operand.tmp 15) (Operand.tmp 15), type := 22, pos := "rows.go:18", after := #[{ on := 5, ground := Ground.data }, { on := 5, ground := Ground.data }], guard := none }) rfl (fun K hK => ?_) ?_
        · rw [if_pos (by rfl)]
          refine wpop_make _ 22 rfl _ 3 i0 (.int .i64 0) 1 Tryd.underlying22 hi hz0 hz1 .i64 .i64 _ _ (pw n) rfl rfl rfl rfl (by rw [hz2]; omega) (by unfold maxLen; omega) (Nat.le_refl _) ?_
          intro wm hown2 hgrow2
          have HMK : Hid (Own wm wb.heap.size (pw n) (fun _ => 0)) := own_made hown2
          have hbm : Below wb.heap.size wb wm := (Below.refl _ _).grown hgrow2 (Nat.le_refl _) (by simp)
          have hsm : wb.heap.size < wm.heap.size := HMK.out.lt hpos
          clear hown2 hgrow2
          refine hK.out _ _ ?_ (fun hHeld => ?_)
          · exact Below.then (by assumption) (by assumption)
          clear hK K
          try simp only [Act.put, List.setIfInBounds_toArray, List.set_cons_zero, List.set_cons_succ]
          refine wpAnyH_take (i := 7) (oi := { dst := some 17, op := Op.build 91 #[(0, Operand.tmp 12), (1, Operand.tmp 16)], type := 91, pos := "rows.go:18", after := #[{ on := 2, ground := Ground.data }, { on := 6, ground := Ground.data }], guard := none }) (v := ?_) rfl (by kernel_rfl) (by kernel_rfl) (by kernel_rfl) (fun _ _ _ h => h.elim) (Or.inl ⟨by rfl, ?hy⟩) (by assumption) ?_
          case hy => (intro w9 hSw; (try dsimp only at hSw); go_simp; try with_reducible rfl)
          try simp only [Act.put, List.setIfInBounds_toArray, List.set_cons_zero, List.set_cons_succ]
          refine wpAnyH_ready (rs := [9]) (by kernel_rfl) (by simp) ?_
          refine AllReadyH.cons (o := { dst := none, op := Op.store 91 (Operand.tmp 5) (Operand.tmp 17), type := 0, pos := "rows.go:18", after := #[{ on := 8, ground := Ground.data }, { on := 7, ground := Ground.data }, { on := 2, ground := Ground.chain }, { on := 0, ground := Ground.phase }, { on := 1, ground := Ground.phase }, { on := 2, ground := Ground.phase }, { on := 3, ground := Ground.phase }, { on := 4, ground := Ground.phase }, { on := 5, ground := Ground.phase }, { on := 6, ground := Ground.phase }, { on := 7, ground := Ground.phase }, { on := 8, ground := Ground.phase }], guard := none }) rfl (fun K hK => ?_) ?_
          · obtain ⟨z0, z1, f0, f1⟩ := HZB.out.step hbm
            have HL : Hid (Laid W0 ((wm.setCell ⟨wc.heap.size, 0, none⟩ (.slice ac n cc)).setCell ⟨wc.heap.size, 1, none⟩ (.slice (some ⟨wb.heap.size, 0, none⟩) (pw n) (pw n))) wc.heap.size ac cc wb.heap.size n g (fun _ => 0)) :=
              laid_fin (by assumption) (HCL.out.step (Below.then hbb hbm)) (HMK.out.keep (Below.refl _ _) hsm) (HZB.out.step hbm)
                (fun k hk => by have h1 := HCL.out.2 k hk; have h2 := HSB.out; have h3 := HS1.out; omega) (by have h2 := HSB.out; have h3 := HS1.out; omega) (by have h2 := HSB.out; have h3 := HS1.out; omega) (by have h2 := HSB.out; have h3 := HS1.out; omega) (by have h2 := HSB.out; have h3 := HS1.out; omega)
            go_simp
            refine hK.out _ _ ?_ (fun hHeld => ?_)
            · exact HL.out.below
            clear hK K
            try simp only [Act.put, List.setIfInBounds_toArray, List.set_cons_zero, List.set_cons_succ]
            refine wpAnyH_done (by kernel_rfl) ?_ _
            refine ⟨wc.heap.size, ac, cc, wb.heap.size, ?_, HL⟩
            first
              | rfl
              | simp only [Act.put, List.setIfInBounds_toArray, List.set_cons_zero, List.set_cons_succ]
          exact AllReadyH.nil
        exact AllReadyH.nil
      exact AllReadyH.nil
    refine AllReadyH.cons (o := { dst := some 16, op := Op.makeSlice 22 (Operand.tmp 15) (Operand.tmp 15), type := 22, pos := "rows.go:18", after := #[{ on := 5, ground := Ground.data }, { on := 5, ground := Ground.data }], guard := none }) rfl (fun K hK => ?_) ?_
    · rw [if_pos (by rfl)]
      refine wpop_make _ 22 rfl _ 3 i0 (.int .i64 0) 1 Tryd.underlying22 hi hz0 hz1 .i64 .i64 _ _ (pw n) rfl rfl rfl rfl (by rw [hz2]; omega) (by unfold maxLen; omega) (Nat.le_refl _) ?_
      intro wm hown2 hgrow2
      have HMK : Hid (Own wm W1.heap.size (pw n) (fun _ => 0)) := own_made hown2
      have hbm : Below W1.heap.size W1 wm := (Below.refl _ _).grown hgrow2 (Nat.le_refl _) (by simp)
      have hsm : W1.heap.size < wm.heap.size := HMK.out.lt hpos
      clear hown2 hgrow2
      refine hK.out _ _ ?_ (fun hHeld => ?_)
      · exact Below.then (by assumption) (by assumption)
      clear hK K
      try simp only [Act.put, List.setIfInBounds_toArray, List.set_cons_zero, List.set_cons_succ]
      refine wpAnyH_ready (rs := [2, 8]) (by kernel_rfl) (by simp) ?_
      refine AllReadyH.cons (o := { dst := some 12, op := Op.call { callee := Callee.value (Operand.func 34), args := #[Operand.tmp 11], argTypes := #[22] }, type := 22, pos := "rows.go:18", after := #[{ on := 1, ground := Ground.data }], guard := none }) rfl (fun K hK => ?_) ?_
      · go_simp
        refine (clone_any n a cap g _ hn (LR.out _ (by assumption))).mono ?_
        rintro e wc ⟨⟨v, rfl, hcl⟩, hbc⟩
        obtain ⟨ac, cc, rfl, _⟩ := owns_row hcl
        have HCL : Hid (Cloned wc ac n cc g wm.heap.size) := ⟨hcl, owns_cblk hcl⟩
        have hsc := hbc.size
        clear hcl
        refine hK.out _ _ ?_ (fun hHeld => ?_)
        · exact Below.then (by assumption) (by assumption)
        clear hK K
        try simp only [Act.put, List.setIfInBounds_toArray, List.set_cons_zero, List.set_cons_succ]
        refine wpAnyH_take (i := 7) (oi := { dst := some 17, op := Op.build 91 #[(0, Operand.tmp 12), (1, Operand.tmp 16)], type := 91, pos := "rows.go:18", after := #[{ on := 2, ground := Ground.data }, { on := 6, ground := Ground.data }], guard := none }) (v := ?_) rfl (by kernel_rfl) (by kernel_rfl) (by kernel_rfl) (fun _ _ _ h => h.elim) (Or.inl ⟨by rfl, ?hy⟩) (by assumption) ?_
        case hy => (intro w9 hSw; (try dsimp only at hSw); go_simp; try with_reducible rfl)
        try simp only [Act.put, List.setIfInBounds_toArray, List.set_cons_zero, List.set_cons_succ]
        refine wpAnyH_ready (rs := [8]) (by kernel_rfl) (by simp) ?_
        refine AllReadyH.cons (o := { dst := some 5, op := Op.alloc 91, type := 0, pos := "rows.go:18", after := #[], guard := none }) rfl (fun K hK => ?_) ?_
        · obtain ⟨wb, HWB⟩ : ∃ wb, Hid (wb = wc.alloc (.cells #[.slice none 0 0, .slice none 0 0] 91)) := ⟨_, rfl⟩
          have HZB : Hid (ZB wb wc.heap.size) := by rw [HWB.out]; exact ZB.new _
          have hbb : Below wc.heap.size wc wb := by rw [HWB.out]; exact (Below.refl _ _).alloc (Nat.le_refl _) _
          have HSB : Hid (wb.heap.size = wc.heap.size + 1) := by rw [HWB.out]; exact World.size_alloc _ _
          go_simp
          rw [← HWB.out]
          refine hK.out _ _ ?_ (fun hHeld => ?_)
          · exact Below.then (by assumption) (by assumption)
          clear hK K
          try simp only [Act.put, List.setIfInBounds_toArray, List.set_cons_zero, List.set_cons_succ]
          refine wpAnyH_ready (rs := [9]) (by kernel_rfl) (by simp) ?_
          refine AllReadyH.cons (o := { dst := none, op := Op.store 91 (Operand.tmp 5) (Operand.tmp 17), type := 0, pos := "rows.go:18", after := #[{ on := 8, ground := Ground.data }, { on := 7, ground := Ground.data }, { on := 2, ground := Ground.chain }, { on := 0, ground := Ground.phase }, { on := 1, ground := Ground.phase }, { on := 2, ground := Ground.phase }, { on := 3, ground := Ground.phase }, { on := 4, ground := Ground.phase }, { on := 5, ground := Ground.phase }, { on := 6, ground := Ground.phase }, { on := 7, ground := Ground.phase }, { on := 8, ground := Ground.phase }], guard := none }) rfl (fun K hK => ?_) ?_
          · obtain ⟨z0, z1, f0, f1⟩ := HZB.out.step (Below.refl _ _)
            have HL : Hid (Laid W0 ((wb.setCell ⟨wc.heap.size, 0, none⟩ (.slice ac n cc)).setCell ⟨wc.heap.size, 1, none⟩ (.slice (some ⟨W1.heap.size, 0, none⟩) (pw n) (pw n))) wc.heap.size ac cc W1.heap.size n g (fun _ => 0)) :=
              laid_fin (by assumption) (HCL.out.step hbb) (HMK.out.keep (Below.then hbc hbb) hsm) (HZB.out.step (Below.refl _ _))
                (fun k hk => by have h1 := HCL.out.2 k hk; have h2 := HSB.out; have h3 := HS1.out; omega) (by have h2 := HSB.out; have h3 := HS1.out; omega) (by have h2 := HSB.out; have h3 := HS1.out; omega) (by have h2 := HSB.out; have h3 := HS1.out; omega) (by have h2 := HSB.out; have h3 := HS1.out; omega)
            go_simp
            refine hK.out _ _ ?_ (fun hHeld => ?_)
            · exact HL.out.below
            clear hK K
            try simp only [Act.put, List.setIfInBounds_toArray, List.set_cons_zero, List.set_cons_succ]
            refine wpAnyH_done (by kernel_rfl) ?_ _
            refine ⟨wc.heap.size, ac, cc, W1.heap.size, ?_, HL⟩
            first
              | rfl
              | simp only [Act.put, List.setIfInBounds_toArray, List.set_cons_zero, List.set_cons_succ]
          exact AllReadyH.nil
        exact AllReadyH.nil
      refine AllReadyH.cons (o := { dst := some 5, op := Op.alloc 91, type := 0, pos := "rows.go:18", after := #[], guard := none }) rfl (fun K hK => ?_) ?_
      · obtain ⟨wb, HWB⟩ : ∃ wb, Hid (wb = wm.alloc (.cells #[.slice none 0 0, .slice none 0 0] 91)) := ⟨_, rfl⟩
        have HZB : Hid (ZB wb wm.heap.size) := by rw [HWB.out]; exact ZB.new _
        have hbb : Below wm.heap.size wm wb := by rw [HWB.out]; exact (Below.refl _ _).alloc (Nat.le_refl _) _
        have HSB : Hid (wb.heap.size = wm.heap.size + 1) := by rw [HWB.out]; exact World.size_alloc _ _
        go_simp
        rw [← HWB.out]
        refine hK.out _ _ ?_ (fun hHeld => ?_)
        · exact Below.then (by assumption) (by assumption)
        clear hK K
        try simp only [Act.put, List.setIfInBounds_toArray, List.set_cons_zero, List.set_cons_succ]
        refine wpAnyH_ready (rs := [2]) (by kernel_rfl) (by simp) ?_
        refine AllReadyH.cons (o := { dst := some 12, op := Op.call { callee := Callee.value (Operand.func 34), args := #[Operand.tmp 11], argTypes := #[22] }, type := 22, pos := "rows.go:18", after := #[{ on := 1, ground := Ground.data }], guard := none }) rfl (fun K hK => ?_) ?_
        · go_simp
          refine (clone_any n a cap g _ hn (LR.out _ (by assumption))).mono ?_
          rintro e wc ⟨⟨v, rfl, hcl⟩, hbc⟩
          obtain ⟨ac, cc, rfl, _⟩ := owns_row hcl
          have HCL : Hid (Cloned wc ac n cc g wb.heap.size) := ⟨hcl, owns_cblk hcl⟩
          have hsc := hbc.size
          clear hcl
          refine hK.out _ _ ?_ (fun hHeld => ?_)
          · exact Below.then (by assumption) (by assumption)
          clear hK K
          try simp only [Act.put, List.setIfInBounds_toArray, List.set_cons_zero, List.set_cons_succ]
          refine wpAnyH_take (i := 7) (oi := { dst := some 17, op := Op.build 91 #[(0, Operand.tmp 12), (1, Operand.tmp 16)], type := 91, pos := "rows.go:18", after := #[{ on := 2, ground := Ground.data }, { on := 6, ground := Ground.data }], guard := none }) (v := ?_) rfl (by kernel_rfl) (by kernel_rfl) (by kernel_rfl) (fun _ _ _ h => h.elim) (Or.inl ⟨by rfl, ?hy⟩) (by assumption) ?_
          case hy => (intro w9 hSw; (try dsimp only at hSw); go_simp; try with_reducible rfl)
          try simp only [Act.put, List.setIfInBounds_toArray, List.set_cons_zero, List.set_cons_succ]
          refine wpAnyH_ready (rs := [9]) (by kernel_rfl) (by simp) ?_
          refine AllReadyH.cons (o := { dst := none, op := Op.store 91 (Operand.tmp 5) (Operand.tmp 17), type := 0, pos := "rows.go:18", after := #[{ on := 8, ground := Ground.data }, { on := 7, ground := Ground.data }, { on := 2, ground := Ground.chain }, { on := 0, ground := Ground.phase }, { on := 1, ground := Ground.phase }, { on := 2, ground := Ground.phase }, { on := 3, ground := Ground.phase }, { on := 4, ground := Ground.phase }, { on := 5, ground := Ground.phase }, { on := 6, ground := Ground.phase }, { on := 7, ground := Ground.phase }, { on := 8, ground := Ground.phase }], guard := none }) rfl (fun K hK => ?_) ?_
          · obtain ⟨z0, z1, f0, f1⟩ := HZB.out.step hbc
            have HL : Hid (Laid W0 ((wc.setCell ⟨wm.heap.size, 0, none⟩ (.slice ac n cc)).setCell ⟨wm.heap.size, 1, none⟩ (.slice (some ⟨W1.heap.size, 0, none⟩) (pw n) (pw n))) wm.heap.size ac cc W1.heap.size n g (fun _ => 0)) :=
              laid_fin (by assumption) (HCL.out.step (Below.refl _ _)) (HMK.out.keep (Below.then hbb hbc) hsm) (HZB.out.step hbc)
                (fun k hk => by have h1 := HCL.out.2 k hk; have h2 := HSB.out; have h3 := HS1.out; omega) (by have h2 := HSB.out; have h3 := HS1.out; omega) (by have h2 := HSB.out; have h3 := HS1.out; omega) (by have h2 := HSB.out; have h3 := HS1.out; omega) (by have h2 := HSB.out; have h3 := HS1.out; omega)
            go_simp
            refine hK.out _ _ ?_ (fun hHeld => ?_)
            · exact HL.out.below
            clear hK K
            try simp only [Act.put, List.setIfInBounds_toArray, List.set_cons_zero, List.set_cons_succ]
            refine wpAnyH_done (by kernel_rfl) ?_ _
            refine ⟨wm.heap.size, ac, cc, W1.heap.size, ?_, HL⟩
            first
              | rfl
              | simp only [Act.put, List.setIfInBounds_toArray, List.set_cons_zero, List.set_cons_succ]
          exact AllReadyH.nil
        exact AllReadyH.nil
      exact AllReadyH.nil
    refine AllReadyH.cons (o := { dst := some 5, op := Op.alloc 91, type := 0, pos := "rows.go:18", after := #[], guard := none }) rfl (fun K hK => ?_) ?_
    · obtain ⟨wb, HWB⟩ : ∃ wb, Hid (wb = W1.alloc (.cells #[.slice none 0 0, .slice none 0 0] 91)) := ⟨_, rfl⟩
      have HZB : Hid (ZB wb W1.heap.size) := by rw [HWB.out]; exact ZB.new _
      have hbb : Below W1.heap.size W1 wb := by rw [HWB.out]; exact (Below.refl _ _).alloc (Nat.le_refl _) _
      have HSB : Hid (wb.heap.size = W1.heap.size + 1) := by rw [HWB.out]; exact World.size_alloc _ _
      go_simp
      rw [← HWB.out]
      refine hK.out _ _ ?_ (fun hHeld => ?_)
      · exact Below.then (by assumption) (by assumption)
      clear hK K
      try simp only [Act.put, List.setIfInBounds_toArray, List.set_cons_zero, List.set_cons_succ]
      refine wpAnyH_ready (rs := [2, 6]) (by kernel_rfl) (by simp) ?_
      refine AllReadyH.cons (o := { dst := some 12, op := Op.call { callee := Callee.value (Operand.func 34), args := #[Operand.tmp 11], argTypes := #[22] }, type := 22, pos := "rows.go:18", after := #[{ on := 1, ground := Ground.data }], guard := none }) rfl (fun K hK => ?_) ?_
      · go_simp
        refine (clone_any n a cap g _ hn (LR.out _ (by assumption))).mono ?_
        rintro e wc ⟨⟨v, rfl, hcl⟩, hbc⟩
        obtain ⟨ac, cc, rfl, _⟩ := owns_row hcl
        have HCL : Hid (Cloned wc ac n cc g wb.heap.size) := ⟨hcl, owns_cblk hcl⟩
        have hsc := hbc.size
        clear hcl
        refine hK.out _ _ ?_ (fun hHeld => ?_)
        · exact Below.then (by assumption) (by assumption)
        clear hK K
        try simp only [Act.put, List.setIfInBounds_toArray, List.set_cons_zero, List.set_cons_succ]
        refine wpAnyH_ready (rs := [6]) (by kernel_rfl) (by simp) ?_
        refine AllReadyH.cons (o := { dst := some 16, op := Op.makeSlice 22 (Operand.tmp 15) (Operand.tmp 15), type := 22, pos := "rows.go:18", after := #[{ on := 5, ground := Ground.data }, { on := 5, ground := Ground.data }], guard := none }) rfl (fun K hK => ?_) ?_
        · rw [if_pos (by rfl)]
          refine wpop_make _ 22 rfl _ 3 i0 (.int .i64 0) 1 Tryd.underlying22 hi hz0 hz1 .i64 .i64 _ _ (pw n) rfl rfl rfl rfl (by rw [hz2]; omega) (by unfold maxLen; omega) (Nat.le_refl _) ?_
          intro wm hown2 hgrow2
          have HMK : Hid (Own wm wc.heap.size (pw n) (fun _ => 0)) := own_made hown2
          have hbm : Below wc.heap.size wc wm := (Below.refl _ _).grown hgrow2 (Nat.le_refl _) (by simp)
          have hsm : wc.heap.size < wm.heap.size := HMK.out.lt hpos
          clear hown2 hgrow2
          refine hK.out _ _ ?_ (fun hHeld => ?_)
          · exact Below.then (by assumption) (by assumption)
          clear hK K
          try simp only [Act.put, List.setIfInBounds_toArray, List.set_cons_zero, List.set_cons_succ]
          refine wpAnyH_take (i := 7) (oi := { dst := some 17, op := Op.build 91 #[(0, Operand.tmp 12), (1, Operand.tmp 16)], type := 91, pos := "rows.go:18", after := #[{ on := 2, ground := Ground.data }, { on := 6, ground := Ground.data }], guard := none }) (v := ?_) rfl (by kernel_rfl) (by kernel_rfl) (by kernel_rfl) (fun _ _ _ h => h.elim) (Or.inl ⟨by rfl, ?hy⟩) (by assumption) ?_
          case hy => (intro w9 hSw; (try dsimp only at hSw); go_simp; try with_reducible rfl)
          try simp only [Act.put, List.setIfInBounds_toArray, List.set_cons_zero, List.set_cons_succ]
          refine wpAnyH_ready (rs := [9]) (by kernel_rfl) (by simp) ?_
          refine AllReadyH.cons (o := { dst := none, op := Op.store 91 (Operand.tmp 5) (Operand.tmp 17), type := 0, pos := "rows.go:18", after := #[{ on := 8, ground := Ground.data }, { on := 7, ground := Ground.data }, { on := 2, ground := Ground.chain }, { on := 0, ground := Ground.phase }, { on := 1, ground := Ground.phase }, { on := 2, ground := Ground.phase }, { on := 3, ground := Ground.phase }, { on := 4, ground := Ground.phase }, { on := 5, ground := Ground.phase }, { on := 6, ground := Ground.phase }, { on := 7, ground := Ground.phase }, { on := 8, ground := Ground.phase }], guard := none }) rfl (fun K hK => ?_) ?_
          · obtain ⟨z0, z1, f0, f1⟩ := HZB.out.step (Below.then hbc hbm)
            have HL : Hid (Laid W0 ((wm.setCell ⟨W1.heap.size, 0, none⟩ (.slice ac n cc)).setCell ⟨W1.heap.size, 1, none⟩ (.slice (some ⟨wc.heap.size, 0, none⟩) (pw n) (pw n))) W1.heap.size ac cc wc.heap.size n g (fun _ => 0)) :=
              laid_fin (by assumption) (HCL.out.step hbm) (HMK.out.keep (Below.refl _ _) hsm) (HZB.out.step (Below.then hbc hbm))
                (fun k hk => by have h1 := HCL.out.2 k hk; have h2 := HSB.out; have h3 := HS1.out; omega) (by have h2 := HSB.out; have h3 := HS1.out; omega) (by have h2 := HSB.out; have h3 := HS1.out; omega) (by have h2 := HSB.out; have h3 := HS1.out; omega) (by have h2 := HSB.out; have h3 := HS1.out; omega)
            go_simp
            refine hK.out _ _ ?_ (fun hHeld => ?_)
            · exact HL.out.below
            clear hK K
            try simp only [Act.put, List.setIfInBounds_toArray, List.set_cons_zero, List.set_cons_succ]
            refine wpAnyH_done (by kernel_rfl) ?_ _
            refine ⟨W1.heap.size, ac, cc, wc.heap.size, ?_, HL⟩
            first
              | rfl
              | simp only [Act.put, List.setIfInBounds_toArray, List.set_cons_zero, List.set_cons_succ]
          exact AllReadyH.nil
        exact AllReadyH.nil
      refine AllReadyH.cons (o := { dst := some 16, op := Op.makeSlice 22 (Operand.tmp 15) (Operand.tmp 15), type := 22, pos := "rows.go:18", after := #[{ on := 5, ground := Ground.data }, { on := 5, ground := Ground.data }], guard := none }) rfl (fun K hK => ?_) ?_
      · rw [if_pos (by rfl)]
        refine wpop_make _ 22 rfl _ 3 i0 (.int .i64 0) 1 Tryd.underlying22 hi hz0 hz1 .i64 .i64 _ _ (pw n) rfl rfl rfl rfl (by rw [hz2]; omega) (by unfold maxLen; omega) (Nat.le_refl _) ?_
        intro wm hown2 hgrow2
        have HMK : Hid (Own wm wb.heap.size (pw n) (fun _ => 0)) := own_made hown2
        have hbm : Below wb.heap.size wb wm := (Below.refl _ _).grown hgrow2 (Nat.le_refl _) (by simp)
        have hsm : wb.heap.size < wm.heap.size := HMK.out.lt hpos
        clear hown2 hgrow2
        refine hK.out _ _ ?_ (fun hHeld => ?_)
        · exact Below.then (by assumption) (by assumption)
        clear hK K
        try simp only [Act.put, List.setIfInBounds_toArray, List.set_cons_zero, List.set_cons_succ]
        refine wpAnyH_ready (rs := [2]) (by kernel_rfl) (by simp) ?_
        refine AllReadyH.cons (o := { dst := some 12, op := Op.call { callee := Callee.value (Operand.func 34), args := #[Operand.tmp 11], argTypes := #[22] }, type := 22, pos := "rows.go:18", after := #[{ on := 1, ground := Ground.data }], guard := none }) rfl (fun K hK => ?_) ?_
        · go_simp
          refine (clone_any n a cap g _ hn (LR.out _ (by assumption))).mono ?_
          rintro e wc ⟨⟨v, rfl, hcl⟩, hbc⟩
          obtain ⟨ac, cc, rfl, _⟩ := owns_row hcl
          have HCL : Hid (Cloned wc ac n cc g wm.heap.size) := ⟨hcl, owns_cblk hcl⟩
          have hsc := hbc.size
          clear hcl
          refine hK.out _ _ ?_ (fun hHeld => ?_)
          · exact Below.then (by assumption) (by assumption)
          clear hK K
          try simp only [Act.put, List.setIfInBounds_toArray, List.set_cons_zero, List.set_cons_succ]
          refine wpAnyH_take (i := 7) (oi := { dst := some 17, op := Op.build 91 #[(0, Operand.tmp 12), (1, Operand.tmp 16)], type := 91, pos := "rows.go:18", after := #[{ on := 2, ground := Ground.data }, { on := 6, ground := Ground.data }], guard := none }) (v := ?_) rfl (by kernel_rfl) (by kernel_rfl) (by kernel_rfl) (fun _ _ _ h => h.elim) (Or.inl ⟨by rfl, ?hy⟩) (by assumption) ?_
          case hy => (intro w9 hSw; (try dsimp only at hSw); go_simp; try with_reducible rfl)
          try simp only [Act.put, List.setIfInBounds_toArray, List.set_cons_zero, List.set_cons_succ]
          refine wpAnyH_ready (rs := [9]) (by kernel_rfl) (by simp) ?_
          refine AllReadyH.cons (o := { dst := none, op := Op.store 91 (Operand.tmp 5) (Operand.tmp 17), type := 0, pos := "rows.go:18", after := #[{ on := 8, ground := Ground.data }, { on := 7, ground := Ground.data }, { on := 2, ground := Ground.chain }, { on := 0, ground := Ground.phase }, { on := 1, ground := Ground.phase }, { on := 2, ground := Ground.phase }, { on := 3, ground := Ground.phase }, { on := 4, ground := Ground.phase }, { on := 5, ground := Ground.phase }, { on := 6, ground := Ground.phase }, { on := 7, ground := Ground.phase }, { on := 8, ground := Ground.phase }], guard := none }) rfl (fun K hK => ?_) ?_
          · obtain ⟨z0, z1, f0, f1⟩ := HZB.out.step (Below.then hbm hbc)
            have HL : Hid (Laid W0 ((wc.setCell ⟨W1.heap.size, 0, none⟩ (.slice ac n cc)).setCell ⟨W1.heap.size, 1, none⟩ (.slice (some ⟨wb.heap.size, 0, none⟩) (pw n) (pw n))) W1.heap.size ac cc wb.heap.size n g (fun _ => 0)) :=
              laid_fin (by assumption) (HCL.out.step (Below.refl _ _)) (HMK.out.keep hbc hsm) (HZB.out.step (Below.then hbm hbc))
                (fun k hk => by have h1 := HCL.out.2 k hk; have h2 := HSB.out; have h3 := HS1.out; omega) (by have h2 := HSB.out; have h3 := HS1.out; omega) (by have h2 := HSB.out; have h3 := HS1.out; omega) (by have h2 := HSB.out; have h3 := HS1.out; omega) (by have h2 := HSB.out; have h3 := HS1.out; omega)
            go_simp
            refine hK.out _ _ ?_ (fun hHeld => ?_)
            · exact HL.out.below
            clear hK K
            try simp only [Act.put, List.setIfInBounds_toArray, List.set_cons_zero, List.set_cons_succ]
            refine wpAnyH_done (by kernel_rfl) ?_ _
            refine ⟨W1.heap.size, ac, cc, wb.heap.size, ?_, HL⟩
            first
              | rfl
              | simp only [Act.put, List.setIfInBounds_toArray, List.set_cons_zero, List.set_cons_succ]
          exact AllReadyH.nil
        exact AllReadyH.nil
      exact AllReadyH.nil
    exact AllReadyH.nil

  clear KK l0 l1 LR hi hz0 hz1 hz2 i0 hwr
  have HK : Hid (∀ w', Below W0.heap.size W0 w' → KRow w' ka kl p) := fun w' h => hk.below (Below.then HB0.out h)
  have HP : Hid (∀ j, j < kl → (p j).1 < n ∧ (p j).2 < n) := hp
  have HU : Hid (∀ k, k ≤ kl → Sm n n (kn g p k)) := fun k hk => kn_sm hg k (fun j hj => hp j (by omega))
  clear hk hp hg hr K0
  rintro a' W ⟨B, ac, cc, b, rfl, HL⟩
  simp only [Act.put, List.setIfInBounds_toArray, List.set_cons_zero, List.set_cons_succ]
  go_wp2_with fail
  go_loopw [20] (fun x wx => ∃ k : Nat, k ≤ kl ∧ x = .int .i64 k ∧ Hid (Laid W0 wx B ac cc b n (kn g p k) (fun _ => 0))) (fun x _ => kl - (intOf x).toNat)
  case atStart => exact ⟨0, Nat.zero_le _, rfl, HL⟩
  case round =>
    clear HL
    obtain ⟨k, hkk, rfl, hL⟩ := hrel
    by_cases hlt : k < kl
    · obtain ⟨h1, h2⟩ := HP.out k hlt
      have HN : Hid (kn g p (k + 1) = upd (kn g p k) (p k).2 (kn g p k (p k).2 ||| pw (p k).1)) := rfl
      have hsm1 := HU.out k hkk _ h2
      have hpx : pw (p k).1 < pw n := Nat.pow_lt_pow_right (by decide) h1
      have hlk : (k : Int) < (kl : Int) := by omega
      obtain ⟨bk, ok, rfl, hc1, hc2⟩ := HK.out wr hL.out.below k hlt
      obtain ⟨bn, rfl, hn3, hcn, hfn⟩ := hL.out.need _ h2
      have hb0 := hL.out.c0
      have hor := i64_or (kn g p k (p k).2) (pw (p k).1) (by omega) (by omega)
      have hsh := iwrap_pow (p k).1 (by omega)
      generalize (p k).1 = x1 at *
      generalize (p k).2 = x2 at *
      have HX : Hid (kn g p k x2 < pw n) := hsm1
      generalize kn g p k x2 = N2 at *
      have hl1 : bk < wr.heap.size := World.block_lt_of_cell? _ _ hc1
      have hl2 : bn < wr.heap.size := World.block_lt_of_cell? _ _ hcn
      have hl3 : B < wr.heap.size := World.block_lt_of_cell? _ _ hb0
      have hx2 : (x2 : Int) < (n : Int) := by omega
      obtain ⟨X, HX0⟩ : ∃ X, Hid (X = wr.alloc (.cells #[.int .i64 (x1 : Nat), .int .i64 (x2 : Nat)] 42)) := ⟨_, rfl⟩
      have hLX : Hid (Laid W0 X B (some ⟨bn, 0, none⟩) cc b n (kn g p k) (fun _ => 0)) := hL.out.step (by rw [HX0.out]; exact (Below.refl _ _).alloc (Nat.le_refl _) _)
      have HPX : Hid (X.cell? ⟨wr.heap.size, 0, none⟩ = some (.int .i64 (x1 : Nat)) ∧ X.cell? ⟨wr.heap.size, 1, none⟩ = some (.int .i64 (x2 : Nat)) ∧ X.cell? ⟨bn, x2, none⟩ = some (.int .i64 (N2 : Nat)) ∧ X.frozen? ⟨bn, x2, none⟩ = false) := by
        rw [HX0.out]
        refine ⟨by simp, by simp, ?_, ?_⟩
        · rw [World.cell?_alloc_old _ _ _ (Nat.ne_of_lt hl2)]; exact hcn
        · exact (((Below.refl wr.heap.size wr).alloc (Nat.le_refl _) _).frozen (p := ⟨bn, x2, none⟩) hl2).trans hfn
      clear hsm1 hpx
      go_wp2_with fail
      rw [← HX0.out]
      obtain ⟨e1, e2, e3, e4⟩ := HPX.out
      have e5 := hLX.out.c0
      clear hc1 hc2 hcn hfn hb0 hL HX0 HPX hl1 hl2 hl3
      go_region
      go_wp2_with fail
      go_roundw
      case rel => exact ⟨k + 1, by omega, by go_num, by rw [HN.out]; exact (hLX.out.step (Below.refl _ _).drew).setNeed x2 _ (by omega)⟩
      case measure => simp [intOf]; omega
    · have hkn : k = kl := by omega
      have HL : Hid (Laid W0 wr B ac cc b n (kn g p kl) (fun _ => 0)) := by rw [← hkn]; exact hL.out
      have hge : (kl : Int) ≤ (k : Int) := by omega
      have hun := HU.out kl (Nat.le_refl _)
      have HUS : Hid (Sm n n (kn g p kl)) := hun
      have HFIN : Hid (∀ wx, Laid W0 wx B ac cc b n (kn g p kl) (ways (kn g p kl) n) → (Row ((wx.setCell ⟨w.heap.size + 1, 0, none⟩ (.slice ac n cc)).setCell ⟨w.heap.size + 1, 1, none⟩ (.slice (some ⟨b, 0, none⟩) (pw n) (pw n))) ac n (fun k => (kn g p kl k : Nat)) ∧ Tabl ((wx.setCell ⟨w.heap.size + 1, 0, none⟩ (.slice ac n cc)).setCell ⟨w.heap.size + 1, 1, none⟩ (.slice (some ⟨b, 0, none⟩) (pw n) (pw n))) b n 0 (kn g p kl)) ∧ Below w.heap.size w ((wx.setCell ⟨w.heap.size + 1, 0, none⟩ (.slice ac n cc)).setCell ⟨w.heap.size + 1, 1, none⟩ (.slice (some ⟨b, 0, none⟩) (pw n) (pw n)))) := fun wx h => laid_out h HSZ0.out HB0.out
      have HRB : Hid (∀ w', Below W0.heap.size W0 w' → ZB w' (w.heap.size + 1)) := HRB0.out
      have HC0 : Hid (∀ w', Below W0.heap.size W0 w' → w'.cell? ⟨w.heap.size, 0, none⟩ = some (.int .i64 (n : Int))) := HN0.out
      have HUB : Hid (∀ k, k < n → kn g p kl k < 1024) := fun k hk => Nat.lt_of_lt_of_le (HUS.out k hk) hpn
      clear hL hkn hun HU HP HK
      obtain ⟨u, HUE⟩ : ∃ u, Hid (u = kn g p kl) := ⟨_, rfl⟩
      rw [← HUE.out] at HL HUS HFIN HUB
      have d0 := HC0.out wr HL.out.below
      have d1 := HL.out.c1
      have d2 := HL.out.ends (pw n - 1) (by omega)
      obtain ⟨d3, d4⟩ := d2
      have e7 : ((pw n : Nat) : Int) - 1 = ((pw n - 1 : Nat) : Int) := by omega
      have HLN : Hid (Laid W0 (wr.drew.setCell ⟨b, pw n - 1, none⟩ (.int .i64 1)) B ac cc b n u (upd (fun _ => 0) (pw n - 1) 1)) := (HL.out.step (Below.refl _ _).drew).setEnd (pw n - 1) 1 (by omega)
      generalize hM : pw n - 1 = M at *
      have hMi : (M : Int) < ((pw n : Nat) : Int) := by omega
      go_wp2_with fail
      refine region_by (fun a0 a' W => a' = (((((a0.put (some 36) (.pointer (some ⟨B, 1, none⟩))).put (some 37) (.slice (some ⟨b, 0, none⟩) (pw n) (pw n))).put (some 38) (.pointer (some ⟨w.heap.size, 0, none⟩))).put (some 39) (.int .i64 n)).put (some 40) (.int .i64 (M : Nat))).put (some 41) (.pointer (some ⟨b, M, none⟩)) ∧ W = wr.drew.setCell ⟨b, M, none⟩ (.int .i64 1)) ?_ ?_
      · go_region_with (go_at_call 25; refine (all_as n _ hn M (by omega)).mono ?_; rintro e w' ⟨rfl, rfl⟩)
        all_goals first
          | exact ⟨rfl, rfl⟩
          | trace_state
      rintro a' W ⟨rfl, rfl⟩
      simp only [Act.put, List.setIfInBounds_toArray, List.set_cons_zero, List.set_cons_succ]
      obtain ⟨X, HX0⟩ : ∃ X, Hid (X = wr.drew.setCell ⟨b, M, none⟩ (.int .i64 1)) := ⟨_, rfl⟩
      rw [← HX0.out] at HLN ⊢
      have HLM : Hid (Laid W0 X B ac cc b n u (tb u n M)) := HLN.out.congr (fun s hs => tb_top (by omega) hs)
      clear d0 d1 d3 d4 HL HX0 HLN
      have d0 := HC0.out X HLM.out.below
      have hMs : M < 1024 := by omega
      go_wp2_with (go_at_call 25; refine (all_as n _ hn M (by omega)).mono ?_; rintro e w' ⟨rfl, rfl⟩)
      clear d0
      go_loopw [8] (fun x wx => ∃ m : Nat, m ≤ M ∧ x = .int .i64 ((m : Int) - 1) ∧ Hid (Laid W0 wx B ac cc b n u (tb u n m))) (fun x _ => (intOf x + 1).toNat)
      case atStart => exact ⟨M, Nat.le_refl _, rfl, HLM⟩
      case round =>
        clear HLM
        obtain ⟨m, hm, rfl, hL⟩ := hrel
        rcases Nat.eq_zero_or_pos m with hm0 | hmp
        · subst hm0
          obtain ⟨⟨q1, q2⟩, q3⟩ := HFIN.out wr (hL.out.congr (fun s hs => by simp [tb]))
          have HQ : Hid ((Row ((wr.setCell ⟨w.heap.size + 1, 0, none⟩ (.slice ac n cc)).setCell ⟨w.heap.size + 1, 1, none⟩ (.slice (some ⟨b, 0, none⟩) (pw n) (pw n))) ac n (fun k => (u k : Nat)) ∧ Tabl ((wr.setCell ⟨w.heap.size + 1, 0, none⟩ (.slice ac n cc)).setCell ⟨w.heap.size + 1, 1, none⟩ (.slice (some ⟨b, 0, none⟩) (pw n) (pw n))) b n 0 u) ∧ Below w.heap.size w ((wr.setCell ⟨w.heap.size + 1, 0, none⟩ (.slice ac n cc)).setCell ⟨w.heap.size + 1, 1, none⟩ (.slice (some ⟨b, 0, none⟩) (pw n) (pw n)))) := ⟨⟨q1, q2⟩, q3⟩
          obtain ⟨z0, z1, f0, f1⟩ := HRB.out wr hL.out.below
          have c0 := hL.out.c0
          have c1 := hL.out.c1
          clear q1 q2 q3 hL
          go_wp2_with fail
          have r0 : ((wr.setCell ⟨w.heap.size + 1, 0, none⟩ (.slice ac n cc)).setCell ⟨w.heap.size + 1, 1, none⟩ (.slice (some ⟨b, 0, none⟩) (pw n) (pw n))).cell? ⟨w.heap.size + 1, 0, none⟩ = some (.slice ac n cc) := (World.cell?_setCell_other _ _ _ _ (by simp)).trans (World.cell?_setCell_same _ _ _ z0)
          have r1 : ((wr.setCell ⟨w.heap.size + 1, 0, none⟩ (.slice ac n cc)).setCell ⟨w.heap.size + 1, 1, none⟩ (.slice (some ⟨b, 0, none⟩) (pw n) (pw n))).cell? ⟨w.heap.size + 1, 1, none⟩ = some (.slice (some ⟨b, 0, none⟩) (pw n) (pw n)) := World.cell?_setCell_same _ _ _ ((World.cell?_setCell_other _ _ _ _ (by simp)).trans z1)
          exact bodyPost_ret (v := .agg #[.slice ac n cc, .slice (some ⟨b, 0, none⟩) (pw n) (pw n)]) (by simp [results, Tryd.results68, go_sem, r0, r1]) rfl ⟨⟨ac, cc, b, rfl, by rw [← HUE.out]; exact HQ.out.1.1, by rw [← HUE.out]; exact HQ.out.1.2⟩, HQ.out.2⟩
        · obtain ⟨s, rfl⟩ : ∃ s, m = s + 1 := ⟨m - 1, by omega⟩
          have HLS : Hid (Laid W0 wr B ac cc b n u (upd (tb u n (s + 1)) s (sumTo (goes u n s) 0))) := hL.out.congr (fun x hx => tb_low)
          have d0 := HC0.out wr hL.out.below
          have hsp : s < pw n := by omega
          rw [show (((s + 1 : Nat) : Int) - 1) = (s : Int) by omega]
          clear hL
          go_wp2_with fail
          clear d0
          go_loopw [52] (fun x wx => ∃ k : Nat, k ≤ n ∧ x = .int .i64 k ∧ Hid (Laid W0 wx B ac cc b n u (upd (tb u n (s + 1)) s (sumTo (goes u n s) k)))) (fun x _ => n - (intOf x).toNat)
          case atStart => exact ⟨0, Nat.zero_le _, rfl, HLS⟩
          case round =>
            clear HLS
            obtain ⟨k, hkk, rfl, hL⟩ := hrel
            by_cases hkn : k < n
            · have hki : (k : Int) < (n : Int) := by omega
              have hsi : (s : Int) < ((pw n : Nat) : Int) := by omega
              have HSB : Hid (sumTo (goes u n s) k + goes u n s k ≤ 100000000000) := sum_small (u := u) hn hsp hkn
              have HST : Hid (sumTo (goes u n s) (k + 1) = sumTo (goes u n s) k + goes u n s k) := rfl
              generalize hEE : sumTo (goes u n s) k = E at *
              generalize hGG : goes u n s k = G at *
              generalize hTT : sumTo (goes u n s) (k + 1) = T at *
              have HG : Hid (goes u n s k = G) := hGG
              have HT : Hid (sumTo (goes u n s) (k + 1) = T) := hTT
              have hsum : IntKind.i64.wrap ((E : Int) + (G : Int)) = ((T : Nat) : Int) := by
                have h1 := HSB.out
                rw [HST.out, Int.natCast_add]
                exact wrap_i64_small _ (by omega) (by omega)
              have HE : Hid (upd (tb u n (s + 1)) s E s = E) := upd_same _ _ _
              have HLW0 : Hid (Laid W0 wr.drew B ac cc b n u (upd (tb u n (s + 1)) s E)) := hL.out.step (Below.refl _ _).drew
              have HTB : Hid (Tabl wr.drew b n (s + 1) u) := fun x hx hsx => by
                have := (HLW0.out.ends x hx).1
                rw [upd_other _ _ _ _ (by omega)] at this
                simp only [tb, hsx, if_true] at this
                exact this
              clear hEE hGG hTT hL HSB
              go_wp2_with fail
              refine region_by (fun a0 a' W => a' = ((((((((((a0.put (some 55) (.pointer (some ⟨B, 1, none⟩))).put (some 56) (.slice (some ⟨b, 0, none⟩) (pw n) (pw n))).put (some 57) (.int .i64 (s : Nat))).put (some 58) (.pointer (some ⟨b, s, none⟩))).put (some 59) (.int .i64 (E : Nat))).put (some 60) (.agg #[.slice ac n cc, .slice (some ⟨b, 0, none⟩) (pw n) (pw n)])).put (some 61) (.int .i64 (s : Nat))).put (some 62) (.int .i64 (k : Nat))).put (some 63) (.int .i64 (G : Nat))).put (some 64) (.int .i64 (T : Nat))).put (some 65) (.pointer (some ⟨b, s, none⟩)) ∧ Hid (Laid W0 W B ac cc b n u (upd (upd (tb u n (s + 1)) s E) s T))) ?_ ?_
              · refine wp_region_held_drew (S := (fun w' => w'.cell? ⟨B, 0, none⟩ = some (.slice ac n cc) ∧ w'.cell? ⟨B, 1, none⟩ = some (.slice (some ⟨b, 0, none⟩) (pw n) (pw n)))) (by kernel_rfl) (⟨HLW0.out.c0, HLW0.out.c1⟩) (fun hHeld => ?_)
                refine wpAnyH_take (i := 0) (oi := { dst := some 55, op := Op.fieldAddr 91 (Operand.tmp 5) 1, type := 0, pos := "rows.go:26", after := #[], guard := none }) (v := ?_) rfl (by kernel_rfl) (by kernel_rfl) (by kernel_rfl) (fun _ _ _ h => h.elim) (Or.inl ⟨by rfl, ?hy⟩) (by assumption) ?_
                case hy => (intro w9 hSw; (try dsimp only at hSw); go_simp; try with_reducible rfl)
                try simp only [Act.put, List.setIfInBounds_toArray, List.set_cons_zero, List.set_cons_succ]
                refine wpAnyH_take (i := 1) (oi := { dst := some 56, op := Op.load 22 (Operand.tmp 55), type := 22, pos := "rows.go:26", after := #[{ on := 0, ground := Ground.data }], guard := none }) (v := ?_) rfl (by kernel_rfl) (by kernel_rfl) (by kernel_rfl) (fun _ _ _ h => h.elim) (Or.inl ⟨by rfl, ?hy⟩) (by assumption) ?_
                case hy => (intro w9 hSw; (try dsimp only at hSw); go_simp; try with_reducible rfl)
                try simp only [Act.put, List.setIfInBounds_toArray, List.set_cons_zero, List.set_cons_succ]
                refine wpAnyH_take (i := 2) (oi := { dst := some 57, op := Op.move (Operand.tmp 8), type := 3, pos := "rows.go:26", after := #[], guard := none }) (v := ?_) rfl (by kernel_rfl) (by kernel_rfl) (by kernel_rfl) (fun _ _ _ h => h.elim) (Or.inl ⟨by rfl, ?hy⟩) (by assumption) ?_
                case hy => (intro w9 hSw; (try dsimp only at hSw); go_simp; try with_reducible rfl)
                try simp only [Act.put, List.setIfInBounds_toArray, List.set_cons_zero, List.set_cons_succ]
                refine wpAnyH_take (i := 3) (oi := { dst := some 58, op := Op.indexAddr 22 (Operand.tmp 56) (Operand.tmp 57), type := 0, pos := "rows.go:26", after := #[{ on := 1, ground := Ground.data }, { on := 2, ground := Ground.data }], guard := none }) (v := ?_) rfl (by kernel_rfl) (by kernel_rfl) (by kernel_rfl) (fun _ _ _ h => h.elim) (Or.inl ⟨by rfl, ?hy⟩) (by assumption) ?_
                case hy => (intro w9 hSw; (try dsimp only at hSw); go_simp; try with_reducible rfl)
                try simp only [Act.put, List.setIfInBounds_toArray, List.set_cons_zero, List.set_cons_succ]
                refine wpAnyH_take (i := 5) (oi := { dst := some 60, op := Op.load 91 (Operand.tmp 5), type := 91, pos := "rows.go:26", after := #[], guard := none }) (v := ?_) rfl (by kernel_rfl) (by kernel_rfl) (by kernel_rfl) (fun _ _ _ h => h.elim) (Or.inl ⟨by rfl, ?hy⟩) (by assumption) ?_
                case hy => (intro w9 hSw; (try dsimp only at hSw); go_simp; try with_reducible rfl)
                try simp only [Act.put, List.setIfInBounds_toArray, List.set_cons_zero, List.set_cons_succ]
                refine wpAnyH_take (i := 6) (oi := { dst := some 61, op := Op.move (Operand.tmp 8), type := 3, pos := "rows.go:26", after := #[], guard := none }) (v := ?_) rfl (by kernel_rfl) (by kernel_rfl) (by kernel_rfl) (fun _ _ _ h => h.elim) (Or.inl ⟨by rfl, ?hy⟩) (by assumption) ?_
                case hy => (intro w9 hSw; (try dsimp only at hSw); go_simp; try with_reducible rfl)
                try simp only [Act.put, List.setIfInBounds_toArray, List.set_cons_zero, List.set_cons_succ]
                refine wpAnyH_take (i := 7) (oi := { dst := some 62, op := Op.move (Operand.tmp 9), type := 3, pos := "rows.go:26", after := #[], guard := none }) (v := ?_) rfl (by kernel_rfl) (by kernel_rfl) (by kernel_rfl) (fun _ _ _ h => h.elim) (Or.inl ⟨by rfl, ?hy⟩) (by assumption) ?_
                case hy => (intro w9 hSw; (try dsimp only at hSw); go_simp; try with_reducible rfl)
                try simp only [Act.put, List.setIfInBounds_toArray, List.set_cons_zero, List.set_cons_succ]
                have HLW : Hid (Laid W0 wr.drew B ac cc b n u (upd (tb u n (s + 1)) s E)) := HLW0
                generalize wr.drew = W1 at *
                refine wpAnyH_ready (rs := [4, 8]) (by kernel_rfl) (by simp) ?_
                refine AllReadyH.cons (o := { dst := some 59, op := Op.load 3 (Operand.tmp 58), type := 3, pos := "rows.go:26", after := #[{ on := 3, ground := Ground.data }], guard := none }) rfl (fun K hK => ?_) ?_
                · have hold := (HLW.out.ends s hsp).1
                  rw [HE.out] at hold
                  go_simp
                  refine hK.out _ _ ?_ (fun hHeld => ?_)
                  · assumption
                  clear hK K hold
                  try simp only [Act.put, List.setIfInBounds_toArray, List.set_cons_zero, List.set_cons_succ]
                  refine wpAnyH_ready (rs := [8]) (by kernel_rfl) (by simp) ?_
                  refine AllReadyH.cons (o := { dst := some 63, op := Op.call { callee := Callee.value (Operand.func 70), args := #[Operand.tmp 60, Operand.tmp 61, Operand.tmp 62], argTypes := #[91, 3, 3] }, type := 3, pos := "rows.go:26", after := #[{ on := 5, ground := Ground.data }, { on := 6, ground := Ground.data }, { on := 7, ground := Ground.data }], guard := none }) rfl (fun K hK => ?_) ?_
                  · go_simp
                    refine (going_any n ac cc b (pw n) u s k _ hn HUB.out hsp HLW.out.row HTB.out hkn).mono ?_
                    rintro e wg ⟨rfl, hbg⟩
                    rw [HG.out]
                    have HLG : Hid (Laid W0 wg B ac cc b n u (upd (tb u n (s + 1)) s E)) := HLW.out.step hbg
                    refine hK.out _ _ ?_ (fun hHeld => ?_)
                    · exact ⟨HLG.out.c0, HLG.out.c1⟩
                    clear hK K
                    try simp only [Act.put, List.setIfInBounds_toArray, List.set_cons_zero, List.set_cons_succ]
                    refine wpAnyH_take (i := 9) (oi := { dst := some 64, op := Op.binOp BinOp.add 3 (Operand.tmp 59) (Operand.tmp 63) 3, type := 3, pos := "rows.go:26", after := #[{ on := 4, ground := Ground.data }, { on := 8, ground := Ground.data }], guard := none }) (v := ?_) rfl (by kernel_rfl) (by kernel_rfl) (by kernel_rfl) (fun _ _ _ h => h.elim) (Or.inl ⟨by rfl, ?hy⟩) (by assumption) ?_
                    case hy => (intro w9 hSw; (try dsimp only at hSw); go_simp; try with_reducible rfl)
                    try simp only [Act.put, List.setIfInBounds_toArray, List.set_cons_zero, List.set_cons_succ]
                    refine wpAnyH_take (i := 10) (oi := { dst := some 65, op := Op.indexAddr 22 (Operand.tmp 56) (Operand.tmp 57), type := 0, pos := "rows.go:26", after := #[{ on := 1, ground := Ground.data }, { on := 2, ground := Ground.data }, { on := 0, ground := Ground.phase }, { on := 1, ground := Ground.phase }, { on := 2, ground := Ground.phase }, { on := 3, ground := Ground.phase }, { on := 4, ground := Ground.phase }, { on := 5, ground := Ground.phase }, { on := 6, ground := Ground.phase }, { on := 7, ground := Ground.phase }, { on := 8, ground := Ground.phase }, { on := 9, ground := Ground.phase }], guard := none }) (v := ?_) rfl (by kernel_rfl) (by kernel_rfl) (by kernel_rfl) (fun _ _ _ h => h.elim) (Or.inl ⟨by rfl, ?hy⟩) (by assumption) ?_
                    case hy => (intro w9 hSw; (try dsimp only at hSw); go_simp; try with_reducible rfl)
                    try simp only [Act.put, List.setIfInBounds_toArray, List.set_cons_zero, List.set_cons_succ]
                    refine wpAnyH_ready (rs := [11]) (by kernel_rfl) (by simp) ?_
                    refine AllReadyH.cons (o := { dst := none, op := Op.store 3 (Operand.tmp 65) (Operand.tmp 64), type := 0, pos := "rows.go:26", after := #[{ on := 10, ground := Ground.data }, { on := 9, ground := Ground.data }, { on := 8, ground := Ground.chain }, { on := 0, ground := Ground.phase }, { on := 1, ground := Ground.phase }, { on := 2, ground := Ground.phase }, { on := 3, ground := Ground.phase }, { on := 4, ground := Ground.phase }, { on := 5, ground := Ground.phase }, { on := 6, ground := Ground.phase }, { on := 7, ground := Ground.phase }, { on := 8, ground := Ground.phase }, { on := 9, ground := Ground.phase }], guard := none }) rfl (fun K hK => ?_) ?_
                    · have hold := (HLG.out.ends s hsp).1
                      rw [HE.out] at hold
                      have hfro := (HLG.out.ends s hsp).2
                      have HLT : Hid (Laid W0 (wg.setCell ⟨b, s, none⟩ (.int .i64 (T : Nat))) B ac cc b n u (upd (upd (tb u n (s + 1)) s E) s T)) := HLG.out.setEnd s T hsp
                      go_simp
                      refine hK.out _ _ ?_ (fun hHeld => ?_)
                      · exact ⟨HLT.out.c0, HLT.out.c1⟩
                      clear hK K
                      try simp only [Act.put, List.setIfInBounds_toArray, List.set_cons_zero, List.set_cons_succ]
                      refine wpAnyH_done (by kernel_rfl) ?_ _
                      refine ⟨?_, HLT⟩
                      first
                        | rfl
                        | simp only [Act.put, List.setIfInBounds_toArray, List.set_cons_zero, List.set_cons_succ]
                    exact AllReadyH.nil
                  exact AllReadyH.nil
                refine AllReadyH.cons (o := { dst := some 63, op := Op.call { callee := Callee.value (Operand.func 70), args := #[Operand.tmp 60, Operand.tmp 61, Operand.tmp 62], argTypes := #[91, 3, 3] }, type := 3, pos := "rows.go:26", after := #[{ on := 5, ground := Ground.data }, { on := 6, ground := Ground.data }, { on := 7, ground := Ground.data }], guard := none }) rfl (fun K hK => ?_) ?_
                · go_simp
                  refine (going_any n ac cc b (pw n) u s k _ hn HUB.out hsp HLW.out.row HTB.out hkn).mono ?_
                  rintro e wg ⟨rfl, hbg⟩
                  rw [HG.out]
                  have HLG : Hid (Laid W0 wg B ac cc b n u (upd (tb u n (s + 1)) s E)) := HLW.out.step hbg
                  refine hK.out _ _ ?_ (fun hHeld => ?_)
                  · exact ⟨HLG.out.c0, HLG.out.c1⟩
                  clear hK K
                  try simp only [Act.put, List.setIfInBounds_toArray, List.set_cons_zero, List.set_cons_succ]
                  refine wpAnyH_ready (rs := [4]) (by kernel_rfl) (by simp) ?_
                  refine AllReadyH.cons (o := { dst := some 59, op := Op.load 3 (Operand.tmp 58), type := 3, pos := "rows.go:26", after := #[{ on := 3, ground := Ground.data }], guard := none }) rfl (fun K hK => ?_) ?_
                  · have hold := (HLG.out.ends s hsp).1
                    rw [HE.out] at hold
                    go_simp
                    refine hK.out _ _ ?_ (fun hHeld => ?_)
                    · assumption
                    clear hK K hold
                    try simp only [Act.put, List.setIfInBounds_toArray, List.set_cons_zero, List.set_cons_succ]
                    refine wpAnyH_take (i := 9) (oi := { dst := some 64, op := Op.binOp BinOp.add 3 (Operand.tmp 59) (Operand.tmp 63) 3, type := 3, pos := "rows.go:26", after := #[{ on := 4, ground := Ground.data }, { on := 8, ground := Ground.data }], guard := none }) (v := ?_) rfl (by kernel_rfl) (by kernel_rfl) (by kernel_rfl) (fun _ _ _ h => h.elim) (Or.inl ⟨by rfl, ?hy⟩) (by assumption) ?_
                    case hy => (intro w9 hSw; (try dsimp only at hSw); go_simp; try with_reducible rfl)
                    try simp only [Act.put, List.setIfInBounds_toArray, List.set_cons_zero, List.set_cons_succ]
                    refine wpAnyH_take (i := 10) (oi := { dst := some 65, op := Op.indexAddr 22 (Operand.tmp 56) (Operand.tmp 57), type := 0, pos := "rows.go:26", after := #[{ on := 1, ground := Ground.data }, { on := 2, ground := Ground.data }, { on := 0, ground := Ground.phase }, { on := 1, ground := Ground.phase }, { on := 2, ground := Ground.phase }, { on := 3, ground := Ground.phase }, { on := 4, ground := Ground.phase }, { on := 5, ground := Ground.phase }, { on := 6, ground := Ground.phase }, { on := 7, ground := Ground.phase }, { on := 8, ground := Ground.phase }, { on := 9, ground := Ground.phase }], guard := none }) (v := ?_) rfl (by kernel_rfl) (by kernel_rfl) (by kernel_rfl) (fun _ _ _ h => h.elim) (Or.inl ⟨by rfl, ?hy⟩) (by assumption) ?_
                    case hy => (intro w9 hSw; (try dsimp only at hSw); go_simp; try with_reducible rfl)
                    try simp only [Act.put, List.setIfInBounds_toArray, List.set_cons_zero, List.set_cons_succ]
                    refine wpAnyH_ready (rs := [11]) (by kernel_rfl) (by simp) ?_
                    refine AllReadyH.cons (o := { dst := none, op := Op.store 3 (Operand.tmp 65) (Operand.tmp 64), type := 0, pos := "rows.go:26", after := #[{ on := 10, ground := Ground.data }, { on := 9, ground := Ground.data }, { on := 8, ground := Ground.chain }, { on := 0, ground := Ground.phase }, { on := 1, ground := Ground.phase }, { on := 2, ground := Ground.phase }, { on := 3, ground := Ground.phase }, { on := 4, ground := Ground.phase }, { on := 5, ground := Ground.phase }, { on := 6, ground := Ground.phase }, { on := 7, ground := Ground.phase }, { on := 8, ground := Ground.phase }, { on := 9, ground := Ground.phase }], guard := none }) rfl (fun K hK => ?_) ?_
                    · have hold := (HLG.out.ends s hsp).1
                      rw [HE.out] at hold
                      have hfro := (HLG.out.ends s hsp).2
                      have HLT : Hid (Laid W0 (wg.setCell ⟨b, s, none⟩ (.int .i64 (T : Nat))) B ac cc b n u (upd (upd (tb u n (s + 1)) s E) s T)) := HLG.out.setEnd s T hsp
                      go_simp
                      refine hK.out _ _ ?_ (fun hHeld => ?_)
                      · exact ⟨HLT.out.c0, HLT.out.c1⟩
                      clear hK K
                      try simp only [Act.put, List.setIfInBounds_toArray, List.set_cons_zero, List.set_cons_succ]
                      refine wpAnyH_done (by kernel_rfl) ?_ _
                      refine ⟨?_, HLT⟩
                      first
                        | rfl
                        | simp only [Act.put, List.setIfInBounds_toArray, List.set_cons_zero, List.set_cons_succ]
                    exact AllReadyH.nil
                  exact AllReadyH.nil
                exact AllReadyH.nil

              rintro a' W ⟨rfl, hL⟩
              simp only [Act.put, List.setIfInBounds_toArray, List.set_cons_zero, List.set_cons_succ]
              have HLN : Hid (Laid W0 W B ac cc b n u (upd (tb u n (s + 1)) s (sumTo (goes u n s) (k + 1)))) := hL.out.congr (fun x hx => by
                rw [HT.out]
                by_cases e : x = s
                · subst e; rw [upd_same, upd_same]
                · rw [upd_other _ _ _ _ e, upd_other _ _ _ _ e, upd_other _ _ _ _ e])
              clear hL
              go_wp2_with fail
              go_roundw
              case rel => exact ⟨k + 1, by omega, by go_num, HLN⟩
              case measure => simp [intOf]; omega
            · have hkn2 : k = n := by omega
              have hki : (n : Int) ≤ (k : Int) := by omega
              have HLN : Hid (Laid W0 wr B ac cc b n u (tb u n s)) := hL.out.congr (fun x hx => by rw [hkn2]; exact tb_next (by omega))
              clear hL hkn2
              go_wp2_with fail
              go_roundw
              case rel => exact ⟨s, by omega, by go_num, HLN⟩
              case measure => simp [intOf] <;> omega
end Go.Proofs.YtinblbkglkhjmaaDoor
