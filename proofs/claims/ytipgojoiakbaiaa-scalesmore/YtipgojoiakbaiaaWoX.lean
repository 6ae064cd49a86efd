/-
  What next answers: what is weighed next. Conditions: at most five points; a map that holds what is weighed next, and nothing else.
-/
import Derived.Test.YtipgojoiakbaiaaWoW
namespace Go.Proofs.Ytipgojoiakbaiaa
open Go.RowKit Go.Maps Go.WideMaps
set_option maxRecDepth 100000

theorem lookup_rh {w : World} {ops : Array Oper} {rest : List Oper} {o : Oper} {a : Act} {Q : Exit → Act → World → Prop} (hg : o.guard = none) (m x : Operand) (hop : o.op = Op.lookup 56 m x true)
    (b n : Nat) (D : DataW Value) (hm : a.eval m = .map (some b)) (hown : w.ownsMap Try.prog 62 Rh b n D) (key : Value) (kl : Lit) (hx : a.eval x = key) (hkey : keyOf Try.prog 62 key = some kl) (X : Value) (B : Bool) (hX : D.atKey kl (.held wg0) = .held X) (hB : Maps.has D kl = B)
    (hK : wpList Try.prog ops Q rest (a.put o.dst (.tuple #[X, .bool B])) w) : wpList Try.prog ops Q (o :: rest) a w :=
  wpList_lookup_own_ok w hg m x 56 hop 62 55 keyedK Try.underlying56 Rh (zeroW w) (.held wg0) [] rfl b n D hm hown key kl hx hkey (fun v ps hv => by
    rw [hX] at hv
    simp only [Rh, Option.some.injEq, Prod.mk.injEq, DataW.held.injEq] at hv
    rw [hv.1, hB]; exact hK)
theorem grow_setC {w wx : World} {row : Option Nat} (h : w.grownBy wx row) {p : Addr} (hp : w.heap.size ≤ p.block) (v : Value) : w.grownBy (wx.setCell p v) row := by
  have hb := Below.setCell (B := w.heap.size) (Below.refl w.heap.size wx) hp v
  exact ⟨hb.os.trans h.os, hb.tape.trans h.tape, hb.output.trans h.output, Nat.le_trans h.size hb.size, fun k hk hne => (hb.block k hk).trans (h.block k hk hne)⟩
/-- How many pairs have been looked at ahead of the pairs that begin with a. -/
def pcs (n a : Nat) : Nat := sumTo (fun x => n - 1 - x) a
theorem pcs_ten {n : Nat} (h : n ≤ 5) : pcs n n ≤ 10 := by
  have h2 : ∀ m, m < 6 → pcs m m ≤ 10 := by decide
  exact h2 n (by omega)
theorem pcs_le {n a : Nat} (h : n ≤ 5) (ha : a ≤ n) : pcs n a ≤ 10 := Nat.le_trans (sumTo_mono n ha) (pcs_ten h)
/-- What lies while the pairs are looked at: q pairs were looked at, x is the best of them. -/
structure NS (n Bm d k : Nat) (g : Nat → Nat) (w wx : World) (q : Nat) (x : Wg) : Prop where
  map : ∃ D, MOk n Bm (k + 2 * q * 21 ^ d) wx D
  gr : w.grownBy wx (some Bm)
  bm : Bm < w.heap.size
  t0 : wx.cell? ⟨w.heap.size, 0, none⟩ = some (.int .i64 (n : Nat))
  t1 : wx.cell? ⟨w.heap.size, 1, none⟩ = some (.map (some Bm))
  kb : KB wx (w.heap.size + 1) g
  rs : WB wx (w.heap.size + 1 + 1) 0 0 0
  ls : WB wx (w.heap.size + 1 + 1 + 1 + 1) (x.a : Nat) (x.b : Nat) (x.c : Nat)
theorem NS.but {n Bm d k : Nat} {g : Nat → Nat} {w wx wy : World} {q q' : Nat} {x : Wg} (h : NS n Bm d k g w wx q x) (hg : wx.grownBy wy (some Bm)) (hm : ∃ D, MOk n Bm (k + 2 * q' * 21 ^ d) wy D) : NS n Bm d k g w wy q' x :=
  ⟨hm, h.gr.trans hg, h.bm, hg.cell h.t0 (fun e => by have e2 := Option.some.inj e; have := h.bm; dsimp only at e2; omega), hg.cell h.t1 (fun e => by have e2 := Option.some.inj e; have := h.bm; dsimp only at e2; omega),
    h.kb.but hg (by have := h.bm; omega), h.rs.but hg (by have := h.bm; omega), h.ls.but hg (by have := h.bm; omega)⟩
theorem NS.below {n Bm d k : Nat} {g : Nat → Nat} {w wx wy : World} {q : Nat} {x : Wg} (h : NS n Bm d k g w wx q x) (hb : Below wx.heap.size wx wy) : NS n Bm d k g w wy q x :=
  h.but (grown_of_below hb _) (by obtain ⟨D, hD⟩ := h.map; exact ⟨D, hD.kept (grown_of_below hb _)⟩)
theorem NS.more {n Bm d k : Nat} {g : Nat → Nat} {w wx : World} {q q' : Nat} {x : Wg} (h : NS n Bm d k g w wx q x) (hq : q ≤ q') : NS n Bm d k g w wx q' x :=
  ⟨by obtain ⟨D, hD⟩ := h.map; exact ⟨D, hD.mono (Nat.add_le_add_left (Nat.mul_le_mul_right _ (by omega)) _)⟩, h.gr, h.bm, h.t0, h.t1, h.kb, h.rs, h.ls⟩
theorem NS.set {n Bm d k : Nat} {g : Nat → Nat} {w wx : World} {q : Nat} {x : Wg} (h : NS n Bm d k g w wx q x) (y : Wg) :
    NS n Bm d k g w (((wx.setCell ⟨w.heap.size + 1 + 1 + 1 + 1, 0, none⟩ (.int .i64 (y.a : Nat))).setCell ⟨w.heap.size + 1 + 1 + 1 + 1, 1, none⟩ (.int .i64 (y.b : Nat))).setCell ⟨w.heap.size + 1 + 1 + 1 + 1, 2, none⟩ (.int .i64 (y.c : Nat))) q y := by
  obtain ⟨W, hW⟩ : ∃ W, (((wx.setCell ⟨w.heap.size + 1 + 1 + 1 + 1, 0, none⟩ (.int .i64 (y.a : Nat))).setCell ⟨w.heap.size + 1 + 1 + 1 + 1, 1, none⟩ (.int .i64 (y.b : Nat))).setCell ⟨w.heap.size + 1 + 1 + 1 + 1, 2, none⟩ (.int .i64 (y.c : Nat))) = W := ⟨_, rfl⟩
  have hb : Below (w.heap.size + 1 + 1 + 1 + 1) wx W := by
    rw [← hW]
    exact Below.setCell (p := ⟨w.heap.size + 1 + 1 + 1 + 1, 2, none⟩) (Below.setCell (p := ⟨w.heap.size + 1 + 1 + 1 + 1, 1, none⟩) (Below.setCell (p := ⟨w.heap.size + 1 + 1 + 1 + 1, 0, none⟩) (Below.refl _ _) (Nat.le_refl _) _) (Nat.le_refl _) _) (Nat.le_refl _) _
  have hl : WB W (w.heap.size + 1 + 1 + 1 + 1) (y.a : Nat) (y.b : Nat) (y.c : Nat) := by rw [← hW]; exact h.ls.set3 _ _ _
  rw [hW]
  obtain ⟨D, hD⟩ := h.map
  have hbm := h.bm
  refine ⟨⟨D, ?_, hD.val⟩, ?_, h.bm, (hb.cell (p := ⟨w.heap.size, 0, none⟩) (by show w.heap.size < _; omega)).trans h.t0, (hb.cell (p := ⟨w.heap.size, 1, none⟩) (by show w.heap.size < _; omega)).trans h.t1, h.kb.keep hb (by omega), ?_, hl⟩
  · obtain ⟨es, clock, h1, h2⟩ := hD.own
    exact ⟨es, clock, (hb.block Bm (by omega)).trans h1, h2⟩
  · exact ⟨hb.os.trans h.gr.os, hb.tape.trans h.gr.tape, hb.output.trans h.gr.output, Nat.le_trans h.gr.size hb.size, fun i hi hne => (hb.block i (by omega)).trans (h.gr.block i hi hne)⟩
  · have hB : ∀ i, W.cell? ⟨w.heap.size + 1 + 1, i, none⟩ = wx.cell? ⟨w.heap.size + 1 + 1, i, none⟩ := fun i => hb.cell (p := ⟨w.heap.size + 1 + 1, i, none⟩) (by show w.heap.size + 1 + 1 < _; omega)
    have hF : ∀ i, W.frozen? ⟨w.heap.size + 1 + 1, i, none⟩ = wx.frozen? ⟨w.heap.size + 1 + 1, i, none⟩ := fun i => hb.frozen (p := ⟨w.heap.size + 1 + 1, i, none⟩) (by show w.heap.size + 1 + 1 < _; omega)
    exact ⟨⟨(hB 0).trans h.rs.1.1, (hF 0).trans h.rs.1.2⟩, ⟨(hB 1).trans h.rs.2.1.1, (hF 1).trans h.rs.2.1.2⟩, ⟨(hB 2).trans h.rs.2.2.1, (hF 2).trans h.rs.2.2.2⟩⟩
/-- The boxes that next lays first. -/
def nxW (w : World) (n Bm : Nat) (g : Nat → Nat) : World := ((w.alloc (.cells #[.int .i64 (n : Nat), .map (some Bm)] 58)).alloc (.cells (kva g) 62)).alloc (.cells #[.int .i64 0, .int .i64 0, .int .i64 0] 55)
theorem WB.new (w : World) (x y z : Int) : WB (w.alloc (.cells #[.int .i64 x, .int .i64 y, .int .i64 z] 55)) w.heap.size x y z := by simp [WB]
theorem WB.keep {w w' : World} {b B : Nat} {x y z : Int} (h : WB w b x y z) (hb : Below B w w') (hB : b < B) : WB w' b x y z :=
  ⟨⟨(hb.cell (p := ⟨b, 0, none⟩) hB).trans h.1.1, (hb.frozen (p := ⟨b, 0, none⟩) hB).trans h.1.2⟩, ⟨(hb.cell (p := ⟨b, 1, none⟩) hB).trans h.2.1.1, (hb.frozen (p := ⟨b, 1, none⟩) hB).trans h.2.1.2⟩, ⟨(hb.cell (p := ⟨b, 2, none⟩) hB).trans h.2.2.1, (hb.frozen (p := ⟨b, 2, none⟩) hB).trans h.2.2.2⟩⟩
structure NB (n Bm : Nat) (g : Nat → Nat) (w W : World) : Prop where
  sz : W.heap.size = w.heap.size + 1 + 1 + 1
  bel : Below w.heap.size w W
  t0 : W.cell? ⟨w.heap.size, 0, none⟩ = some (.int .i64 (n : Nat))
  t1 : W.cell? ⟨w.heap.size, 1, none⟩ = some (.map (some Bm))
  kb : KB W (w.heap.size + 1) g
  rs : WB W (w.heap.size + 1 + 1) 0 0 0
theorem nxW_ok (w : World) (n Bm : Nat) (g : Nat → Nat) : NB n Bm g w (nxW w n Bm g) := by
  unfold nxW
  have k0 := TB.box w n Bm
  refine ⟨by simp, (((Below.refl _ _).alloc (Nat.le_refl _) _).alloc (by simp) _).alloc (by simp; omega) _, ?_, ?_, ?_, ?_⟩
  · rw [World.cell?_alloc_lt _ _ _ (by simp; omega), World.cell?_alloc_lt _ _ _ (by simp)]; exact k0.1
  · rw [World.cell?_alloc_lt _ _ _ (by simp; omega), World.cell?_alloc_lt _ _ _ (by simp)]; exact k0.2
  · have := KB.box (w.alloc (.cells #[.int .i64 (n : Nat), .map (some Bm)] 58)) g
    simp only [World.size_alloc] at this
    exact this.keep (B := w.heap.size + 1 + 1) ((Below.refl _ _).alloc (by simp) _) (by omega)
  · have := WB.new ((w.alloc (.cells #[.int .i64 (n : Nat), .map (some Bm)] 58)).alloc (.cells (kva g) 62)) 0 0 0
    simp only [World.size_alloc] at this
    exact this
theorem NB.start {n Bm d k : Nat} {g : Nat → Nat} {w W W2 : World} {D : DataW Value} (h : NB n Bm g w W) (hm : MOk n Bm k W D) (hbm : Bm < w.heap.size)
    (hW : (W.alloc (.cells #[.int .i64 0, .int .i64 0, .int .i64 0] 55)).alloc (.cells #[.int .i64 0, .int .i64 0, .int .i64 0] 55) = W2) : NS n Bm d k g w W2 0 ⟨0, 0, 0⟩ := by
  have hs := h.sz
  have hb : Below W.heap.size W W2 := by rw [← hW]; exact ((Below.refl _ _).alloc (Nat.le_refl _) _).alloc (by simp) _
  have hl : WB W2 (w.heap.size + 1 + 1 + 1 + 1) 0 0 0 := by
    have := WB.new (W.alloc (.cells #[.int .i64 0, .int .i64 0, .int .i64 0] 55)) 0 0 0
    simp only [World.size_alloc, hs] at this
    rw [← hW]; exact this
  exact ⟨⟨D, by simpa using hm.kept (grown_of_below hb _)⟩, (grown_of_below h.bel _).trans (grown_of_below hb _), hbm, (hb.cell (p := ⟨w.heap.size, 0, none⟩) (by show w.heap.size < _; omega)).trans h.t0, (hb.cell (p := ⟨w.heap.size, 1, none⟩) (by show w.heap.size < _; omega)).trans h.t1, h.kb.keep hb (by omega), h.rs.keep hb (by omega), hl⟩

theorem NS.far {n Bm d k : Nat} {g : Nat → Nat} {w wx : World} {q : Nat} {x : Wg} (h : NS n Bm d k g w wx q x) {b i : Nat} {v : Value} (hb : w.heap.size ≤ b) (hc : wx.cell? ⟨b, i, none⟩ = some v) (wy : World) (hg : wx.grownBy wy (some Bm)) : wy.cell? ⟨b, i, none⟩ = some v :=
  hg.cell hc (fun e => by have e2 := Option.some.inj e; have := h.bm; dsimp only at e2; omega)
theorem step_no {a b c : Nat} {x : Wg} : stepW false a b c x = x := by simp [stepW]
theorem step_yes {a b c : Nat} {x : Wg} (h : x.c = 0 ∨ c < x.c) : stepW true a b c x = ⟨a, b, c⟩ := by simp [stepW, h]
theorem step_stay {a b c : Nat} {x : Wg} (h : ¬ (x.c = 0 ∨ c < x.c)) : stepW true a b c x = x := by simp [stepW, h]
theorem beg_small {n : Nat} {g : Nat → Nat} (h : WOk n g) {a b : Nat} (ha : a < n) (hb : b < n) (hab : a ≠ b) (ho : opn g a b = true) : beg n g a b ≤ 11 := by
  have h1 := cst_ten (h.wth ha hb hab ho)
  have h2 := cst_ten (h.wth hb ha (Ne.symm hab) (by rw [opn_comm]; exact ho))
  unfold beg; omega
theorem room_in {k q E M : Nat} (hq : q + 1 ≤ 10) (h : k + 21 * E < M) : k + 2 * q * E + 2 * E < M := by
  have : 2 * q * E + 2 * E ≤ 20 * E := by
    have : 2 * q * E + 2 * E = (2 * q + 2) * E := by rw [Nat.add_mul]
    rw [this]; exact Nat.mul_le_mul_right _ (by omega)
  omega
theorem room_more (k q E : Nat) : k + 2 * q * E + 2 * E = k + 2 * (q + 1) * E := by
  rw [Nat.mul_add, Nat.add_mul]; omega
theorem wgV_eq (x : Wg) (a b c : Int) (h : wgV x = .agg #[.int .i64 a, .int .i64 b, .int .i64 c]) : (x.a : Int) = a ∧ (x.b : Int) = b ∧ (x.c : Int) = c := by
  unfold wgV at h; simpa using h

set_option maxHeartbeats 8000000 in
theorem next_step {n Bm d : Nat} (h : NxC n Bm d) (g : Nat → Nat) (w : World) (D : DataW Value) (k : Nat) (hg : WOk n g) (ho : ops n g ≤ d) (hm : MOk n Bm k w D) (hk : k + 21 ^ (d + 1) < maxLen) :
    Calls Try.prog 30 #[tbl n Bm, .agg (kva g)] w fun e w' => e = .returned (wgV (nx n g)) ∧ w.grownBy w' (some Bm) ∧ ∃ D', MOk n Bm (k + 21 ^ (d + 1)) w' D' := by
  obtain ⟨W, HW⟩ : ∃ W, Hid (nxW w n Bm g = W) := ⟨_, rfl⟩
  have hn := nxW_ok w n Bm g
  rw [HW.out] at hn
  have HNB : Hid (NB n Bm g w W) := hn
  have HMW : Hid (MOk n Bm k W D) := hm.kept (grown_of_below hn.bel _)
  have hbm : Bm < w.heap.size := hm.own.lt
  have t0 := hn.t0
  have t1 := hn.t1
  have p0 := (hn.kb 0 (by decide)).1
  have p1 := (hn.kb 1 (by decide)).1
  have p2 := (hn.kb 2 (by decide)).1
  have p3 := (hn.kb 3 (by decide)).1
  have p4 := (hn.kb 4 (by decide)).1
  have hown := HMW.out.own
  have hkey : keyOf Try.prog 62 (.agg #[.int .i64 (g 0 : Nat), .int .i64 (g 1 : Nat), .int .i64 (g 2 : Nat), .int .i64 (g 3 : Nat), .int .i64 (g 4 : Nat)]) = some (kK g) := key_of hg.small
  have HV : Hid (Maps.has D (kK g) = true → D.atKey (kK g) (.held wg0) = .held (wgV (nx n g))) := hm.val g hg
  have HG : Hid (WOk n g) := hg
  have HO : Hid (ops n g ≤ d) := ho
  have HN : Hid (NxC n Bm d) := h
  have HK : Hid (k + 21 ^ (d + 1) < maxLen) := hk
  clear hm hn hg ho h hk
  unfold tbl
  cases hh : Maps.has D (kK g)
  · have hX : D.atKey (kK g) (.held wg0) = .held (.agg #[.int .i64 0, .int .i64 0, .int .i64 0]) := atKey_of_not_has hh _
    go_enter Try.func30, Try.ntmps30
    generalize hC : Code.region 1 _ false = C
    generalize hC5 : Code.region 5 _ false = C5
    go_wp2_with fail
    rw [show ((w.alloc (.cells #[.int .i64 (n : Nat), .map (some Bm)] 58)).alloc (.cells (kva g) 62)).alloc (.cells #[.int .i64 0, .int .i64 0, .int .i64 0] 55) = nxW w n Bm g from rfl, HW.out]
    rw [← hC]
    clear hC C
    go_wp2_with (at_lookup; refine lookup_rh rfl _ _ rfl Bm k D rfl hown _ _ rfl hkey _ _ hX hh ?_)
    have hs : W.heap.size = w.heap.size + 1 + 1 + 1 := HNB.out.sz
    rw [hs]
    obtain ⟨W2, HW2⟩ : ∃ W2, Hid ((W.alloc (.cells #[.int .i64 0, .int .i64 0, .int .i64 0] 55)).alloc (.cells #[.int .i64 0, .int .i64 0, .int .i64 0] 55) = W2) := ⟨_, rfl⟩
    have HS : Hid (NS n Bm d k g w W2 0 ⟨0, 0, 0⟩) := NB.start HNB.out HMW.out hbm HW2.out
    rw [HW2.out]
    clear HW2 HW HNB HMW t0 t1 p0 p1 p2 p3 p4 hown HV hX hh hs
    rw [← hC5]
    clear hC5 C5
    have t0 := HS.out.t0
    have h21 : (21 : Nat) ^ (d + 1) = 21 * 21 ^ d := by rw [Nat.pow_succ, Nat.mul_comm]
    rw [h21] at HK
    have HG32 : Hid (∀ i, g i < 32) := HG.out.small
    have hn5 := HG.out.n5
    clear h21
    obtain ⟨E, HEE⟩ : ∃ E, Hid ((21 : Nat) ^ d = E) := ⟨_, rfl⟩
    go_wp2_with fail
    clear t0
    go_loopw [22] (fun x wx => ∃ a : Nat, a ≤ n ∧ x = .int .i64 a ∧ Hid (NS n Bm d k g w wx (pcs n a) (accA (opn g) (beg n g) n a))) (fun x _ => n - (intOf x).toNat)
    case atStart => exact ⟨0, Nat.zero_le _, rfl, HS⟩
    case round =>
      clear HS
      obtain ⟨a, hav, rfl, HSA⟩ := hrel
      by_cases han : a < n
      · have hani : (a : Int) < (n : Int) := by omega
        have ha5 : a < 5 := by omega
        go_wp2_with fail
        go_loopw [9] (fun y wx => ∃ b : Nat, a + 1 ≤ b ∧ b ≤ n ∧ y = .int .i64 b ∧ Hid (NS n Bm d k g w wx (pcs n a + (b - a - 1)) (accB (opn g) (beg n g) a (accA (opn g) (beg n g) n a) b))) (fun y _ => n - (intOf y).toNat)
        case atStart => exact ⟨a + 1, Nat.le_refl _, by omega, by go_num, by rw [accB_low _ (Nat.le_refl _), show a + 1 - a - 1 = 0 by omega]; exact HSA⟩
        case round =>
          clear HSA
          obtain ⟨b, hab, hbn, rfl, HSB⟩ := hrel
          have t0 := HSB.out.t0
          by_cases hbl : b < n
          · have hbni : (b : Int) < (n : Int) := by omega
            have hb5 : b < 5 := by omega
            have p0 := (HSB.out.kb 0 (by decide)).1
            have p1 := (HSB.out.kb 1 (by decide)).1
            have p2 := (HSB.out.kb 2 (by decide)).1
            have p3 := (HSB.out.kb 3 (by decide)).1
            have p4 := (HSB.out.kb 4 (by decide)).1
            obtain ⟨X, HX⟩ : ∃ X, Hid (accB (opn g) (beg n g) a (accA (opn g) (beg n g) n a) b = X) := ⟨_, rfl⟩
            have HXS : Hid (accB (opn g) (beg n g) a (accA (opn g) (beg n g) n a) (b + 1) = stepW (opn g a b) a b (beg n g a b) X) := by rw [← HX.out]; exact accB_more (by omega)
            rw [HX.out] at HSB
            obtain ⟨q, HQ⟩ : ∃ q, Hid (pcs n a + (b - a - 1) = q) := ⟨_, rfl⟩
            have HQ1 : Hid (pcs n a + (b + 1 - a - 1) = q + 1) := by rw [← HQ.out]; show _ = _; omega
            have HQ10 : Hid (q + 1 ≤ 10) := by
              show _ ≤ _
              have h1 : pcs n (a + 1) = pcs n a + (n - 1 - a) := rfl
              have h2 := pcs_le (n := n) (a := a + 1) hn5 (by omega)
              have h3 := HQ1.out
              omega
            rw [HQ.out] at HSB
            clear HX HQ
            cases hop : opn g a b
            · rw [hop, step_no] at HXS
              have HOP : Hid (opn g a b = false) := hop
              clear hop
              go_wp2_with fail
              refine (isOpen_any g a b false _ HOP.out ha5 hb5 (fun i => Nat.lt_trans (HG32.out i) (by decide))).mono ?_
              rintro e w7 ⟨rfl, hb7⟩
              have HS7 : Hid (NS n Bm d k g w w7 (q + 1) X) := (HSB.out.below hb7).more (by omega)
              clear HSB hb7 t0 p0 p1 p2 p3 p4
              go_wp2_with fail
              go_roundw
              case rel => exact ⟨b + 1, by omega, by omega, by go_num, by rw [HQ1.out, HXS.out]; exact HS7⟩
              case measure => simp [intOf]; omega
            · rw [hop] at HXS
              have HOP : Hid (opn g a b = true) := hop
              clear hop
              have HC11 : Hid (beg n g a b ≤ 11) := beg_small HG.out han hbl (by omega) HOP.out
              obtain ⟨Y, HY⟩ : ∃ Y, Hid (max (cst n (wth g a b)) (cst n (wth g b a)) = Y) := ⟨_, rfl⟩
              obtain ⟨C, HC⟩ : ∃ C, Hid (beg n g a b = C) := ⟨_, rfl⟩
              have hCY : C = 1 + Y := by rw [← HC.out, ← HY.out]; rfl
              rw [HC.out] at HXS HC11
              have hC11 : C ≤ 11 := HC11.out
              have hYi : (1 : Int) + (Y : Int) = (C : Int) := by omega
              have hwC : IntKind.i64.wrap ((1 : Int) + (Y : Int)) = (C : Int) := by rw [hYi]; exact wrap_i64_small _ (by omega) (by omega)
              have HWO : Hid (∀ (wx : World) (D : DataW Value) (K : Nat), MOk n Bm K wx D → K + 2 * E < maxLen → Calls Try.prog 54 #[.agg #[.int .i64 (n : Nat), .map (some Bm)], .agg (kva (wth g a b)), .agg (kva (wth g b a))] wx fun e w' => e = .returned (.int .i64 (Y : Nat)) ∧ wx.grownBy w' (some Bm) ∧ ∃ D', MOk n Bm (K + 2 * E) w' D') := by
                intro wx D K h1 h2
                rw [← HEE.out] at h2 ⊢
                have o2 : opn g b a = true := by rw [opn_comm]; exact HOP.out
                have l1 := ops_less (n := n) han hbl (by omega) HOP.out
                have l2 := ops_less (n := n) hbl han (by omega) o2
                have := HO.out
                rw [← HY.out]
                exact worse_any HN.out (wth g a b) (wth g b a) wx D K (HG.out.wth han hbl (by omega) HOP.out) (HG.out.wth hbl han (by omega) o2) (by omega) (by omega) h1 h2
              clear hCY HY HC HC11 hYi
              go_wp2_with fail
              refine (isOpen_any g a b true _ HOP.out ha5 hb5 (fun i => Nat.lt_trans (HG32.out i) (by decide))).mono ?_
              rintro e w7 ⟨rfl, hb7⟩
              have HS7 : Hid (NS n Bm d k g w w7 q X) := HSB.out.below hb7
              clear HSB hb7 t0 p0 p1 p2 p3 p4
              obtain ⟨D7, hm7⟩ := HS7.out.map
              have HMD : Hid (MOk n Bm (k + 2 * q * E) w7 D7) := by rw [← HEE.out]; exact hm7
              have HKQ : Hid (k + 2 * q * E + 2 * E < maxLen) := room_in HQ10.out (by rw [← HEE.out]; exact HK.out)
              have c0 := HS7.out.far (Nat.le_refl _) HS7.out.t0
              have c1 := HS7.out.far (Nat.le_refl _) HS7.out.t1
              have p0 := HS7.out.far (by omega) (HS7.out.kb 0 (by decide)).1
              have p1 := HS7.out.far (by omega) (HS7.out.kb 1 (by decide)).1
              have p2 := HS7.out.far (by omega) (HS7.out.kb 2 (by decide)).1
              have p3 := HS7.out.far (by omega) (HS7.out.kb 3 (by decide)).1
              have p4 := HS7.out.far (by omega) (HS7.out.kb 4 (by decide)).1
              clear hm7
              go_wp2_with fail
              refine wp_region_held_drew (S := (fun w' => w7.grownBy w' (some Bm))) (by kernel_rfl) (⟨rfl, rfl, rfl, Nat.le_refl _, fun _ _ _ => rfl⟩) (fun hHeld => ?_)
              refine wpAnyH_take (i := 0) (oi := { dst := some 38, op := Go.Op.load 58 (Go.Operand.tmp 2), type := 58, pos := "table.go:63", after := #[], guard := none }) (v := ?_) rfl (by kernel_rfl) (by kernel_rfl) (by kernel_rfl) (fun _ _ _ h => h) (Or.inl ⟨by rfl, ?hy⟩) (by assumption) ?_
              case hy => (intro w9 hSw; (try dsimp only at hSw); go_simp; try with_reducible rfl)
              try simp only [Act.put, List.setIfInBounds_toArray, List.set_cons_zero, List.set_cons_succ]
              refine wpAnyH_take (i := 1) (oi := { dst := some 39, op := Go.Op.load 62 (Go.Operand.tmp 3), type := 62, pos := "table.go:63", after := #[], guard := none }) (v := ?_) rfl (by kernel_rfl) (by kernel_rfl) (by kernel_rfl) (fun _ _ _ h => h) (Or.inl ⟨by rfl, ?hy⟩) (by assumption) ?_
              case hy => (intro w9 hSw; (try dsimp only at hSw); go_simp; try with_reducible rfl)
              try simp only [Act.put, List.setIfInBounds_toArray, List.set_cons_zero, List.set_cons_succ]
              refine wpAnyH_take (i := 2) (oi := { dst := some 40, op := Go.Op.move (Go.Operand.tmp 8), type := 3, pos := "table.go:63", after := #[], guard := none }) (v := ?_) rfl (by kernel_rfl) (by kernel_rfl) (by kernel_rfl) (fun _ _ _ h => h) (Or.inl ⟨by rfl, ?hy⟩) (by assumption) ?_
              case hy => (intro w9 hSw; (try dsimp only at hSw); go_simp; try with_reducible rfl)
              try simp only [Act.put, List.setIfInBounds_toArray, List.set_cons_zero, List.set_cons_succ]
              refine wpAnyH_take (i := 3) (oi := { dst := some 41, op := Go.Op.move (Go.Operand.tmp 9), type := 3, pos := "table.go:63", after := #[], guard := none }) (v := ?_) rfl (by kernel_rfl) (by kernel_rfl) (by kernel_rfl) (fun _ _ _ h => h) (Or.inl ⟨by rfl, ?hy⟩) (by assumption) ?_
              case hy => (intro w9 hSw; (try dsimp only at hSw); go_simp; try with_reducible rfl)
              try simp only [Act.put, List.setIfInBounds_toArray, List.set_cons_zero, List.set_cons_succ]
              refine wpAnyH_take (i := 5) (oi := { dst := some 43, op := Go.Op.load 62 (Go.Operand.tmp 3), type := 62, pos := "table.go:63", after := #[], guard := none }) (v := ?_) rfl (by kernel_rfl) (by kernel_rfl) (by kernel_rfl) (fun _ _ _ h => h) (Or.inl ⟨by rfl, ?hy⟩) (by assumption) ?_
              case hy => (intro w9 hSw; (try dsimp only at hSw); go_simp; try with_reducible rfl)
              try simp only [Act.put, List.setIfInBounds_toArray, List.set_cons_zero, List.set_cons_succ]
              refine wpAnyH_take (i := 6) (oi := { dst := some 44, op := Go.Op.move (Go.Operand.tmp 9), type := 3, pos := "table.go:63", after := #[], guard := none }) (v := ?_) rfl (by kernel_rfl) (by kernel_rfl) (by kernel_rfl) (fun _ _ _ h => h) (Or.inl ⟨by rfl, ?hy⟩) (by assumption) ?_
              case hy => (intro w9 hSw; (try dsimp only at hSw); go_simp; try with_reducible rfl)
              try simp only [Act.put, List.setIfInBounds_toArray, List.set_cons_zero, List.set_cons_succ]
              refine wpAnyH_take (i := 7) (oi := { dst := some 45, op := Go.Op.move (Go.Operand.tmp 8), type := 3, pos := "table.go:63", after := #[], guard := none }) (v := ?_) rfl (by kernel_rfl) (by kernel_rfl) (by kernel_rfl) (fun _ _ _ h => h) (Or.inl ⟨by rfl, ?hy⟩) (by assumption) ?_
              case hy => (intro w9 hSw; (try dsimp only at hSw); go_simp; try with_reducible rfl)
              try simp only [Act.put, List.setIfInBounds_toArray, List.set_cons_zero, List.set_cons_succ]
              refine wpAnyH_ready (rs := [4]) (by kernel_rfl) (by simp) ?_
              refine AllReadyH.cons (o := { dst := some 42, op := Go.Op.call { callee := Go.Callee.value (Go.Operand.func 37), args := #[Go.Operand.tmp 39, Go.Operand.tmp 40, Go.Operand.tmp 41], argTypes := #[62, 3, 3] }, type := 62, pos := "table.go:63", after := #[{ on := 1, ground := Go.Ground.data }, { on := 2, ground := Go.Ground.data }, { on := 3, ground := Go.Ground.data }], guard := none }) rfl (fun K hK => ?_) AllReadyH.nil
              go_simp
              refine (with_any g a b _ ha5 hb5 HG32.out).mono ?_
              rintro e w8 ⟨rfl, hb8⟩
              refine hK.out _ _ ?_ (fun hHeld => ?_)
              · first | exact World.grownBy.trans hHeld hg10 | exact World.grownBy.trans hHeld (grown_of_below hb9 _) | exact World.grownBy.trans hHeld (grown_of_below hb8 _)
              clear hK K
              try simp only [Act.put, List.setIfInBounds_toArray, List.set_cons_zero, List.set_cons_succ]
              refine wpAnyH_ready (rs := [8]) (by kernel_rfl) (by simp) ?_
              refine AllReadyH.cons (o := { dst := some 46, op := Go.Op.call { callee := Go.Callee.value (Go.Operand.func 37), args := #[Go.Operand.tmp 43, Go.Operand.tmp 44, Go.Operand.tmp 45], argTypes := #[62, 3, 3] }, type := 62, pos := "table.go:63", after := #[{ on := 5, ground := Go.Ground.data }, { on := 6, ground := Go.Ground.data }, { on := 7, ground := Go.Ground.data }, { on := 4, ground := Go.Ground.chain }], guard := none }) rfl (fun K hK => ?_) AllReadyH.nil
              go_simp
              refine (with_any g b a _ hb5 ha5 HG32.out).mono ?_
              rintro e w9 ⟨rfl, hb9⟩
              refine hK.out _ _ ?_ (fun hHeld => ?_)
              · first | exact World.grownBy.trans hHeld hg10 | exact World.grownBy.trans hHeld (grown_of_below hb9 _) | exact World.grownBy.trans hHeld (grown_of_below hb8 _)
              clear hK K
              try simp only [Act.put, List.setIfInBounds_toArray, List.set_cons_zero, List.set_cons_succ]
              refine wpAnyH_ready (rs := [9]) (by kernel_rfl) (by simp) ?_
              refine AllReadyH.cons (o := { dst := some 47, op := Go.Op.call { callee := Go.Callee.value (Go.Operand.func 54), args := #[Go.Operand.tmp 38, Go.Operand.tmp 42, Go.Operand.tmp 46], argTypes := #[58, 62, 62] }, type := 3, pos := "table.go:63", after := #[{ on := 0, ground := Go.Ground.data }, { on := 4, ground := Go.Ground.data }, { on := 8, ground := Go.Ground.data }, { on := 8, ground := Go.Ground.chain }], guard := none }) rfl (fun K hK => ?_) AllReadyH.nil
              go_simp
              refine (HWO.out _ _ _ (((HMD.out.kept (grown_drew _ _)).kept (grown_of_below hb8 _)).kept (grown_of_below hb9 _)) HKQ.out).mono ?_
              rintro e w10 ⟨rfl, hg10, D10, hm10⟩
              refine hK.out _ _ ?_ (fun hHeld => ?_)
              · first | exact World.grownBy.trans hHeld hg10 | exact World.grownBy.trans hHeld (grown_of_below hb9 _) | exact World.grownBy.trans hHeld (grown_of_below hb8 _)
              clear hK K
              try simp only [Act.put, List.setIfInBounds_toArray, List.set_cons_zero, List.set_cons_succ]
              refine wpAnyH_take (i := 10) (oi := { dst := some 48, op := Go.Op.binOp Go.BinOp.add 3 (Go.Operand.const (Go.Value.int Go.IntKind.i64 1)) (Go.Operand.tmp 47) 3, type := 3, pos := "table.go:63", after := #[{ on := 9, ground := Go.Ground.data }], guard := none }) (v := .int .i64 (C : Nat)) rfl (by kernel_rfl) (by kernel_rfl) (by kernel_rfl) (fun _ _ _ h => h) (Or.inl ⟨by rfl, ?hy⟩) (by assumption) ?_
              case hy => (intro w9 hSw; (try dsimp only at hSw); go_simp <;> (first | with_reducible rfl | (simp; omega) | omega))
              try simp only [Act.put, List.setIfInBounds_toArray, List.set_cons_zero, List.set_cons_succ]
              refine wpAnyH_take (i := 11) (oi := { dst := some 10, op := Go.Op.assign (Go.Operand.tmp 48), type := 3, pos := "table.go:63", after := #[{ on := 10, ground := Go.Ground.data }, { on := 9, ground := Go.Ground.chain }, { on := 0, ground := Go.Ground.phase }, { on := 1, ground := Go.Ground.phase }, { on := 2, ground := Go.Ground.phase }, { on := 3, ground := Go.Ground.phase }, { on := 4, ground := Go.Ground.phase }, { on := 5, ground := Go.Ground.phase }, { on := 6, ground := Go.Ground.phase }, { on := 7, ground := Go.Ground.phase }, { on := 8, ground := Go.Ground.phase }, { on := 9, ground := Go.Ground.phase }, { on := 10, ground := Go.Ground.phase }], guard := none }) (v := ?_) rfl (by kernel_rfl) (by kernel_rfl) (by kernel_rfl) (fun _ _ _ h => h) (Or.inl ⟨by rfl, ?hy⟩) (by assumption) ?_
              case hy => (intro w9 hSw; (try dsimp only at hSw); go_simp; try with_reducible rfl)
              try simp only [Act.put, List.setIfInBounds_toArray, List.set_cons_zero, List.set_cons_succ]
              refine wpAnyH_done (by kernel_rfl) ?_ _
              try simp only [Act.put, List.setIfInBounds_toArray, List.set_cons_zero, List.set_cons_succ]
              have HS10 : Hid (NS n Bm d k g w w10 (q + 1) X) := HS7.out.but hHeld ⟨D10, by rw [← room_more, HEE.out]; exact hm10⟩
              clear HS7 hHeld hm10 hg10 hb9 hb8 c0 c1 p0 p1 p2 p3 p4 HMD HKQ HWO
              obtain ⟨xa, xb, xc⟩ := X
              have l2 := HS10.out.ls.2.2.1
              dsimp only at l2
              by_cases hx0 : xc = 0
              · subst hx0
                have HE : Hid (accB (opn g) (beg n g) a (accA (opn g) (beg n g) n a) (b + 1) = ⟨a, b, C⟩) := by rw [HXS.out, step_yes (.inl rfl)]; exact rfl
                have l0 := HS10.out.ls.1.1
                have l1 := HS10.out.ls.2.1.1
                have f0 := HS10.out.ls.1.2
                have f1 := HS10.out.ls.2.1.2
                have f2 := HS10.out.ls.2.2.2
                have HS11 := HS10.out.set ⟨a, b, C⟩
                dsimp only at HS11
                have HS12 : Hid (NS n Bm d k g w _ (q + 1) ⟨a, b, C⟩) := HS11
                clear HS11 HS10 HXS hwC
                go_wp2_with fail
                go_roundw
                case rel => exact ⟨b + 1, by omega, by omega, by go_num, by rw [HQ1.out, HE.out]; exact HS12⟩
                case measure => simp [intOf]; omega
              · have hx0' : ((xc : Int) == 0) = false := by simp; omega
                by_cases hlt : C < xc
                · have hlti : (C : Int) < (xc : Int) := by omega
                  have HE : Hid (accB (opn g) (beg n g) a (accA (opn g) (beg n g) n a) (b + 1) = ⟨a, b, C⟩) := by rw [HXS.out, step_yes (.inr hlt)]; exact rfl
                  have l0 := HS10.out.ls.1.1
                  have l1 := HS10.out.ls.2.1.1
                  have f0 := HS10.out.ls.1.2
                  have f1 := HS10.out.ls.2.1.2
                  have f2 := HS10.out.ls.2.2.2
                  have HS11 := HS10.out.set ⟨a, b, C⟩
                  dsimp only at HS11
                  have HS12 : Hid (NS n Bm d k g w _ (q + 1) ⟨a, b, C⟩) := HS11
                  clear HS11 HS10 HXS hwC
                  go_wp2_with fail
                  go_roundw
                  case rel => exact ⟨b + 1, by omega, by omega, by go_num, by rw [HQ1.out, HE.out]; exact HS12⟩
                  case measure => simp [intOf]; omega
                · have hlti : (xc : Int) ≤ (C : Int) := by omega
                  have HE : Hid (accB (opn g) (beg n g) a (accA (opn g) (beg n g) n a) (b + 1) = ⟨xa, xb, xc⟩) := by rw [HXS.out, step_stay (fun k => by rcases k with k | k; exact hx0 k; exact hlt k)]; exact rfl
                  clear HXS hwC
                  go_wp2_with fail
                  go_roundw
                  case rel => exact ⟨b + 1, by omega, by omega, by go_num, by rw [HQ1.out, HE.out]; exact HS10⟩
                  case measure => simp [intOf]; omega
          · obtain rfl : b = n := by omega
            have hbi : (b : Int) ≤ (b : Int) := Int.le_refl _
            have HSN : Hid (NS b Bm d k g w wr (pcs b (a + 1)) (accA (opn g) (beg b g) b (a + 1))) := by
              have e1 : pcs b (a + 1) = pcs b a + (b - a - 1) := by show pcs b a + (b - 1 - a) = _; omega
              rw [e1]; exact HSB
            clear HSB
            go_wp2_with fail
            go_roundw
            case rel => exact ⟨a + 1, by omega, by go_num, HSN⟩
            case measure => simp [intOf]; omega
      · obtain rfl : a = n := by omega
        have HNX : Hid (accA (opn g) (beg a g) a a = nx a g) := (nx_eq HG.out).symm
        rw [HNX.out] at HSA
        obtain ⟨D9, hm9⟩ := HSA.out.map
        have HM9 : Hid (MOk a Bm (k + 2 * pcs a a * 21 ^ d) wr D9) := hm9
        have hown := hm9.own
        have hp10 := pcs_ten hn5
        have HE9 : Hid (k + 2 * pcs a a * 21 ^ d < k + 21 * 21 ^ d) := by
          show _ < _
          have h1 : 2 * pcs a a * 21 ^ d ≤ 20 * 21 ^ d := Nat.mul_le_mul_right _ (by omega)
          have h2 : 0 < 21 ^ d := Nat.pow_pos (by decide)
          omega
        have hsm : k + 2 * pcs a a * 21 ^ d < maxLen := Nat.lt_trans HE9.out HK.out
        have t1 := HSA.out.t1
        have p0 := (HSA.out.kb 0 (by decide)).1
        have p1 := (HSA.out.kb 1 (by decide)).1
        have p2 := (HSA.out.kb 2 (by decide)).1
        have p3 := (HSA.out.kb 3 (by decide)).1
        have p4 := (HSA.out.kb 4 (by decide)).1
        have l0 := HSA.out.ls.1.1
        have l1 := HSA.out.ls.2.1.1
        have l2 := HSA.out.ls.2.2.1
        clear hm9
        go_wp2_with (at_mapUpdate; refine wpList_mapUpdate_own _ rfl _ _ _ 56 rfl 62 55 keyedK Try.underlying56 Rh Bm _ _ rfl hown hsm _ _ _ rfl rfl hkey (.held (wgV (nx a g))) [] rfl ?_; intro w11 hown11 hgrow11; have HLS := HSA.out.ls.but hgrow11 (by omega); have HRS := HSA.out.rs.but hgrow11 (by omega); have m0 := HLS.1.1; have m1 := HLS.2.1.1; have m2 := HLS.2.2.1; have r0 := HRS.1.1; have r1 := HRS.2.1.1; have r2 := HRS.2.2.1; have s0 := HRS.1.2; have s1 := HRS.2.1.2; have s2 := HRS.2.2.2; have HRS2 : Hid (WB w11 (w.heap.size + 1 + 1) 0 0 0) := HRS; have HGR : Hid (w.grownBy w11 (some Bm)) := HSA.out.gr.trans hgrow11; have HMX : Hid (MOk a Bm (k + 2 * pcs a a * 21 ^ d + 1) w11 _) := HM9.out.put HG.out hown11; clear HLS HRS hown11 hgrow11)
        exact bodyPost_ret (res_wg (p := 4) rfl _ _ (w.heap.size + 1 + 1) _ _ _ rfl (HRS2.out.set3 _ _ _)) rfl ⟨rfl, grow_setC (p := ⟨w.heap.size + 1 + 1, 2, none⟩) (grow_setC (p := ⟨w.heap.size + 1 + 1, 1, none⟩) (grow_setC (p := ⟨w.heap.size + 1 + 1, 0, none⟩) HGR.out (by show w.heap.size ≤ w.heap.size + 1 + 1; omega) _) (by show w.heap.size ≤ w.heap.size + 1 + 1; omega) _) (by show w.heap.size ≤ w.heap.size + 1 + 1; omega) _, _, ⟨by
          have h1 := HMX.out.own.mono (show k + 2 * pcs a a * 21 ^ d + 1 ≤ k + 21 ^ (d + 1) by rw [Nat.pow_succ, Nat.mul_comm (21 ^ d)]; exact HE9.out)
          exact ((h1.setCell (a := ⟨w.heap.size + 1 + 1, 0, none⟩) (by show Bm ≠ w.heap.size + 1 + 1; omega) _).setCell (a := ⟨w.heap.size + 1 + 1, 1, none⟩) (by show Bm ≠ w.heap.size + 1 + 1; omega) _).setCell (a := ⟨w.heap.size + 1 + 1, 2, none⟩) (by show Bm ≠ w.heap.size + 1 + 1; omega) _, HMX.out.val⟩⟩
  · have hX := HV.out hh
    unfold wgV at hX
    have HWV : Hid (wgV (nx n g) = .agg #[.int .i64 ((nx n g).a : Nat), .int .i64 ((nx n g).b : Nat), .int .i64 ((nx n g).c : Nat)]) := rfl
    rw [HWV.out]
    generalize (nx n g).a = xa at *
    generalize (nx n g).b = xb at *
    generalize (nx n g).c = xc at *
    go_enter Try.func30, Try.ntmps30
    generalize hC : Code.region 1 _ false = C
    generalize hC3 : Code.region 3 _ false = C3
    go_wp2_with fail
    rw [show ((w.alloc (.cells #[.int .i64 (n : Nat), .map (some Bm)] 58)).alloc (.cells (kva g) 62)).alloc (.cells #[.int .i64 0, .int .i64 0, .int .i64 0] 55) = nxW w n Bm g from rfl, HW.out]
    rw [← hC]
    clear hC C
    go_wp2_with (at_lookup; refine lookup_rh rfl _ _ rfl Bm k D rfl hown _ _ rfl hkey _ _ hX hh ?_)
    have hs : W.heap.size = w.heap.size + 1 + 1 + 1 := HNB.out.sz
    rw [hs]
    obtain ⟨W3, HW3⟩ : ∃ W3, Hid (W.alloc (.cells #[.int .i64 (xa : Nat), .int .i64 (xb : Nat), .int .i64 (xc : Nat)] 55) = W3) := ⟨_, rfl⟩
    have hb3 : Below W.heap.size W W3 := by rw [← HW3.out]; exact (Below.refl _ _).alloc (Nat.le_refl _) _
    have HL3 : WB W3 (w.heap.size + 1 + 1 + 1) (xa : Nat) (xb : Nat) (xc : Nat) := by
      have := WB.new W (xa : Nat) (xb : Nat) (xc : Nat)
      rw [hs] at this
      rw [← HW3.out]; exact this
    have HR3 : WB W3 (w.heap.size + 1 + 1) 0 0 0 := HNB.out.rs.keep hb3 (by omega)
    have HM3 : Hid (MOk n Bm k W3 D) := HMW.out.kept (grown_of_below hb3 _)
    have HG3 : Hid (w.grownBy W3 (some Bm)) := (grown_of_below HNB.out.bel _).trans (grown_of_below hb3 _)
    have m0 := HL3.1.1
    have m1 := HL3.2.1.1
    have m2 := HL3.2.2.1
    have r0 := HR3.1.1
    have r1 := HR3.2.1.1
    have r2 := HR3.2.2.1
    have s0 := HR3.1.2
    have s1 := HR3.2.1.2
    have s2 := HR3.2.2.2
    have HRS2 : Hid (WB W3 (w.heap.size + 1 + 1) 0 0 0) := HR3
    rw [HW3.out, ← hC3]
    clear hC3 C3 HW3 HW HNB HMW t0 t1 p0 p1 p2 p3 p4 hown HV hX hh hs hb3 HL3 HR3 hkey
    go_wp2_with fail
    exact bodyPost_ret (res_wg (p := 4) rfl _ _ (w.heap.size + 1 + 1) _ _ _ rfl (HRS2.out.set3 _ _ _)) rfl ⟨rfl, grow_setC (p := ⟨w.heap.size + 1 + 1, 2, none⟩) (grow_setC (p := ⟨w.heap.size + 1 + 1, 1, none⟩) (grow_setC (p := ⟨w.heap.size + 1 + 1, 0, none⟩) HG3.out (by show w.heap.size ≤ w.heap.size + 1 + 1; omega) _) (by show w.heap.size ≤ w.heap.size + 1 + 1; omega) _) (by show w.heap.size ≤ w.heap.size + 1 + 1; omega) _, _, ⟨by
      have h1 := HM3.out.own.mono (Nat.le_add_right k (21 ^ (d + 1)))
      exact ((h1.setCell (a := ⟨w.heap.size + 1 + 1, 0, none⟩) (by show Bm ≠ w.heap.size + 1 + 1; omega) _).setCell (a := ⟨w.heap.size + 1 + 1, 1, none⟩) (by show Bm ≠ w.heap.size + 1 + 1; omega) _).setCell (a := ⟨w.heap.size + 1 + 1, 2, none⟩) (by show Bm ≠ w.heap.size + 1 + 1; omega) _, HM3.out.val⟩⟩

theorem next_less {n Bm : Nat} : ∀ d, NxC n Bm d
  | 0 => fun g w D k _ ho _ _ => absurd ho (Nat.not_lt_zero _)
  | d + 1 => fun g w D k hg ho hm hk => next_step (next_less d) g w D k hg (by omega) hm hk
/-- What is weighed next. -/
theorem next_any {n Bm : Nat} (g : Nat → Nat) (w : World) (D : DataW Value) (k : Nat) (hg : WOk n g) (hm : MOk n Bm k w D) (hk : k + 21 ^ 11 < maxLen) :
    Calls Try.prog 30 #[tbl n Bm, .agg (kva g)] w fun e w' => e = .returned (wgV (nx n g)) ∧ w.grownBy w' (some Bm) ∧ ∃ D', MOk n Bm (k + 21 ^ 11) w' D' :=
  next_less 11 g w D k hg (by have := ops_le hg.n5 g; omega) hm hk
end Go.Proofs.Ytipgojoiakbaiaa
