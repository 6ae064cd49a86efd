/-
  What the reference's Make answers, whatever it is handed. No condition but that a slice reads as a slice of pairs.
-/
import Derived.Test.YtomoodpgmkjacaaDoorRefMake1
import Derived.Test.YtomoodpgmkjacaaDoorOfMake
import Derived.Test.YtomoodpgmkjacaaDoorGiven
import Derived.Deep.RegionHeld3
import Derived.Deep.LoopGhost
namespace Go.Proofs.YtomoodpgmkjacaaDoor
open Go.RowKit

theorem Tryd.info61 : (Tryd.prog.info? 61).map (fun i => (i.zero, i.size, i.bytes)) = some (some (.slice none 0 0), 1, 24) := by kernel_rfl
theorem Tryd.info4 : (Tryd.prog.info? 4).map (fun i => (i.zero, i.size, i.bytes)) = some (some (.bool false), 1, 1) := by kernel_rfl
theorem wpop_make {P : Program} (w : World) {o : Oper} {a : Act} {K : Act → World → Prop} {Q : Exit → Act → World → Prop} {l c : Operand}
    (t : TypeId) (hop : o.op = Op.makeSlice t l c)
    (base : Nat) (e : TypeId) (i : TypeInfo) (z : Value) (size : Nat) (h1 : P.underlying t = some (.slice e)) (h2 : P.info? e = some i) (h3 : i.zero = some z) (h4 : i.size = size)
    (kl kc : IntKind) (L C : Int) (n : Nat) (hl : a.eval l = .int kl L) (hc : a.eval c = .int kc C) (hL : L = (n : Int)) (hC : C = (n : Int)) (b2 : i.bytes * n ≤ 281474976710656) (b3 : n ≤ maxLen) (b4 : base ≤ w.heap.size)
    (hK : ∀ w', w'.ownsRow base e size (.slice (some ⟨w.heap.size, 0, none⟩) n n) n (madeCells z.cells (n * size)).toList → w.grownBy w' none → K (a.put o.dst (.slice (some ⟨w.heap.size, 0, none⟩) n n)) w') :
    Oper.wp P o a w K Q := by
  obtain ⟨w', hrun, r1, r2⟩ := run_make_full (P := P) w base t e i z size h1 h2 h3 h4 kl kc n b2 b3 b4
  subst hL
  subst hC
  unfold Oper.wp
  simp [execOp, hop, hl, hc, hrun, Result.andThen]
  exact hK w' r1 r2
theorem bools_made {w : World} {base b m : Nat} (h : w.ownsRow base 4 1 (.slice (some ⟨b, 0, none⟩) m m) m (madeCells (Value.bool false).cells (m * 1)).toList) : ∀ j, j < m → w.cell? ⟨b, j, none⟩ = some (.bool false) ∧ w.frozen? ⟨b, j, none⟩ = false := fun k hk => by
  refine ⟨?_, h.frozenAt k⟩
  rw [h.cellAt k (by omega)]
  have e : (Value.bool false).cells = #[Value.bool false] := rfl
  rw [e, toList_madeCells_one]
  simp [hk]
theorem rows_made {w : World} {base b m : Nat} (h : w.ownsRow base 61 1 (.slice (some ⟨b, 0, none⟩) m m) m (madeCells (Value.slice none 0 0).cells (m * 1)).toList) : ∀ j, j < m → w.cell? ⟨b, j, none⟩ = some (.slice none 0 0) ∧ w.frozen? ⟨b, j, none⟩ = false := fun k hk => by
  refine ⟨?_, h.frozenAt k⟩
  rw [h.cellAt k (by omega)]
  have e : (Value.slice none 0 0).cells = #[Value.slice none 0 0] := rfl
  rw [e, toList_madeCells_one]
  simp [hk]
theorem owns_lt {w : World} {base b m n : Nat} {e : TypeId} {xs : List Value} (h : w.ownsRow base e 1 (.slice (some ⟨b, 0, none⟩) m n) m xs) : b < w.heap.size := (h.lt b rfl).2
/-- One row more. -/
theorem Mat.row {w wm : World} {X B R : Nat} {r : Nat → Nat} {n k : Nat} (h : Mat w X B r n k (fun _ _ => false)) (hb : Below w.heap.size w wm) (hR : R = w.heap.size) (hX : X < R) (hB : B < R) (hXB : X ≠ B) (hlt : ∀ j, j < k → r j < w.heap.size)
    (hnew : ∀ j, j < n → wm.cell? ⟨R, j, none⟩ = some (.bool false) ∧ wm.frozen? ⟨R, j, none⟩ = false) (hc : wm.cell? ⟨B, k, none⟩ = some (.slice none 0 0)) :
    Mat (wm.setCell ⟨B, k, none⟩ (.slice (some ⟨R, 0, none⟩) n n)) X B (fun j => if j = k then R else r j) n (k + 1) (fun _ _ => false) where
  box := by rw [World.cell?_setCell_other _ _ _ _ (fun e => by injection e with e1; exact hXB e1.symm)]; exact (h.step hb).box
  rows := fun i hi => by
    by_cases e : i = k
    · subst e; rw [if_pos rfl]; exact World.cell?_setCell_same _ _ _ hc
    · rw [if_neg e, World.cell?_setCell_other _ _ _ _ (fun x => by injection x with _ x2; exact e x2.symm)]
      exact (h.step hb).rows i (by omega)
  cells := fun i j hi hj => by
    rw [World.frozen?_setCell]
    by_cases e : i = k
    · subst e; rw [if_pos rfl, World.cell?_setCell_other _ _ _ _ (fun x => by injection x with x1; omega)]; exact hnew j hj
    · rw [if_neg e, World.cell?_setCell_other _ _ _ _ (fun x => by injection x with x1; exact (h.up i (by omega)).2 x1)]
      exact (h.step hb).cells i j (by omega) hj
  up := fun i hi => by
    by_cases e : i = k
    · rw [if_pos e]; omega
    · rw [if_neg e]; exact h.up i (by omega)
  inj := fun i j hi hj => by
    by_cases e : i = k <;> by_cases e' : j = k
    · intro _; omega
    · rw [if_pos e, if_neg e']; intro x; have := hlt j (by omega); omega
    · rw [if_neg e, if_pos e']; intro x; have := hlt i (by omega); omega
    · rw [if_neg e, if_neg e']; exact h.inj i j (by omega) (by omega)

theorem mk_upd2 {p : Nat → Int × Int} {k x y : Nat} (h1 : (p k).1 = (x : Int)) (h2 : (p k).2 = (y : Int)) : (fun a b => (mk p (k + 1) b).testBit a) = upd2 (fun a b => (mk p k b).testBit a) x y := by
  funext a b
  show (upd (mk p k) (p k).2.toNat (mk p k (p k).2.toNat ||| pw (p k).1.toNat) b).testBit a = _
  rw [h1, h2, Int.toNat_natCast, Int.toNat_natCast]
  by_cases e : b = y
  · subst e
    rw [upd_same, Nat.testBit_or, pw_bit]
    by_cases e2 : a = x
    · subst e2; rw [upd2_same]; simp
    · rw [upd2_other (fun h => e2 h.1)]; simp; intro h; exact absurd h.symm e2
  · rw [upd_other _ _ _ _ e, upd2_other (fun h => e h.2)]
/-- The triples ahead of (a, b, c) are closed. -/
def Part (m : Nat) (T : Nat → Nat → Bool) (a b c : Nat) : Prop := ∀ x y z, x < m → y < m → z < m → (x < a ∨ (x = a ∧ (y < b ∨ (y = b ∧ z < c)))) → T x y = true → T y z = true → T x z = true
/-- Where the rounds stand. -/
def RI (w : World) (X B : Nat) (r : Nat → Nat) (m : Nat) (R : Nat → Nat → Prop) (D a b c : Nat) (ag : Bool) (T : Nat → Nat → Bool) (wx : World) : Prop :=
  offAll T m m + (if ag = true then 1 else 0) ≤ D ∧ Mid m R T ∧ (ag = false → Part m T a b c) ∧ Mat wx X B r m m T ∧ ZBox wx w.heap.size ∧ Below w.heap.size w wx
theorem Part.c {m : Nat} {T : Nat → Nat → Bool} {a b c : Nat} (h : Part m T a b c) (hs : T a b = true → T b c = true → T a c = true) : Part m T a b (c + 1) := fun x y z hx hy hz h1 h2 h3 => by
  by_cases e : x = a ∧ y = b ∧ z = c
  · obtain ⟨rfl, rfl, rfl⟩ := e; exact hs h2 h3
  · exact h x y z hx hy hz (by omega) h2 h3
theorem Part.b {m : Nat} {T : Nat → Nat → Bool} {a b : Nat} (h : Part m T a b m) : Part m T a (b + 1) 0 := fun x y z hx hy hz h1 h2 h3 => h x y z hx hy hz (by omega) h2 h3
theorem Part.a {m : Nat} {T : Nat → Nat → Bool} {a : Nat} (h : Part m T a m 0) : Part m T (a + 1) 0 0 := fun x y z hx hy hz h1 h2 h3 => h x y z hx hy hz (by omega) h2 h3
theorem Part.tr {m : Nat} {T : Nat → Nat → Bool} (h : Part m T m 0 0) : Tr m T := fun x y z hx hy hz h2 h3 => h x y z hx hy hz (by omega) h2 h3
theorem RI.c {w : World} {X B : Nat} {r : Nat → Nat} {m : Nat} {R : Nat → Nat → Prop} {D a b c : Nat} {ag : Bool} {T : Nat → Nat → Bool} {wx : World} (h : RI w X B r m R D a b c ag T wx) (hs : T a b = true → T b c = true → T a c = true) : RI w X B r m R D a b (c + 1) ag T wx :=
  ⟨h.1, h.2.1, fun e => (h.2.2.1 e).c hs, h.2.2.2⟩
theorem RI.b {w : World} {X B : Nat} {r : Nat → Nat} {m : Nat} {R : Nat → Nat → Prop} {D a b : Nat} {ag : Bool} {T : Nat → Nat → Bool} {wx : World} (h : RI w X B r m R D a b m ag T wx) : RI w X B r m R D a (b + 1) 0 ag T wx :=
  ⟨h.1, h.2.1, fun e => (h.2.2.1 e).b, h.2.2.2⟩
theorem RI.a {w : World} {X B : Nat} {r : Nat → Nat} {m : Nat} {R : Nat → Nat → Prop} {D a : Nat} {ag : Bool} {T : Nat → Nat → Bool} {wx : World} (h : RI w X B r m R D a m 0 ag T wx) : RI w X B r m R D (a + 1) 0 0 ag T wx :=
  ⟨h.1, h.2.1, fun e => (h.2.2.1 e).a, h.2.2.2⟩
theorem RI.set {w : World} {X B : Nat} {r : Nat → Nat} {m : Nat} {R : Nat → Nat → Prop} {D a b c : Nat} {ag : Bool} {T : Nat → Nat → Bool} {wx : World} (h : RI w X B r m R D a b c ag T wx) (ha : a < m) (hb : b < m) (hc : c < m) (h1 : T a b = true) (h2 : T b c = true) (h3 : T a c = false) (hr : w.heap.size < r a) :
    RI w X B r m R D a b (c + 1) true (upd2 T a c) (wx.setCell ⟨r a, c, none⟩ (.bool true)) := by
  obtain ⟨k1, k2, k3, k4, k5, k6⟩ := h
  refine ⟨?_, k2.step ha hb hc h1 h2, (fun e => by cases e), k4.set ha hc, ?_, k6.setCell (p := ⟨r a, c, none⟩) (by show w.heap.size ≤ r a; omega) _⟩
  · have := offAll_step hc h3 m
    rw [if_pos ha] at this
    simp only [if_true]
    cases ag <;> simp at k1 <;> omega
  · obtain ⟨z1, z2, z3, z4⟩ := k5
    refine ⟨?_, ?_, ?_, ?_⟩
    · rw [World.cell?_setCell_other _ _ _ _ (fun x => by injection x with x1; omega)]; exact z1
    · rw [World.cell?_setCell_other _ _ _ _ (fun x => by injection x with x1; omega)]; exact z2
    · rw [World.frozen?_setCell]; exact z3
    · rw [World.frozen?_setCell]; exact z4
theorem RI.box {w : World} {X B : Nat} {r : Nat → Nat} {m : Nat} {R : Nat → Nat → Prop} {D a b c : Nat} {ag : Bool} {T : Nat → Nat → Bool} {wx : World} (h : RI w X B r m R D a b c ag T wx) : Mat wx X B r m m T := h.2.2.2.1
def RMade (K : Nat) (n : Int) (len : Nat) (p : Nat → Int × Int) (e : Ending) (w' : World) : Prop :=
  ∃ (c : Int) (x : Value), Mk n len p c ∧ e = .returned (.tuple #[x, .int .i64 c]) ∧ ((c ≠ 0 ∧ x = noOrder) ∨ (c = 0 ∧ ∃ a cap, x = .agg #[.int .i64 n, .slice a n.toNat cap] ∧ Row w' a n.toNat (fun k => (reachOut (mk p len) n.toNat n.toNat k : Nat)) ∧ Fresh K a n.toNat))

set_option maxRecDepth 100000 in
set_option maxHeartbeats 4000000 in
theorem refMake_any (n : Int) (a : Option Addr) (len cap : Nat) (p : Nat → Int × Int) (w : World) (hl : len ≤ maxLen) (hr : PRow w a len p) :
    Calls Tryd.prog 22 #[.int .i64 n, .slice a len cap] w fun e w' => RMade w.heap.size n len p e w' ∧ Below w.heap.size w w' := by
  unfold maxLen at hl
  have HR : Hid (PRow w a len p) := hr
  clear hr
  have HB0 : Hid (Below w.heap.size w (w.alloc (.cells #[.int .i64 0, .slice none 0 0] 34))) := (Below.refl _ _).alloc (Nat.le_refl _) _
  have HZ0 : Hid (ZBox (w.alloc (.cells #[.int .i64 0, .slice none 0 0] 34)) w.heap.size) := ZBox.new w
  by_cases hn : 0 ≤ n ∧ n ≤ 10
  · obtain ⟨m, rfl⟩ := Int.eq_ofNat_of_zero_le hn.1
    have hm : m ≤ 10 := by omega
    obtain ⟨i5, hi, hz0, hz1, hz2⟩ := info_parts Tryd.info61
    obtain ⟨i4, hj, hy0, hy1, hy2⟩ := info_parts Tryd.info4
    have hn1 : ¬ (m : Int) < 0 := by omega
    have hn2 : ¬ (10 : Int) < (m : Int) := by omega
    clear hn
    obtain ⟨B, HBE⟩ : ∃ B, Hid (B = w.heap.size + 1) := ⟨_, rfl⟩
    go_enter Tryd.func22, Tryd.ntmps22
    go_wp2_with (at_make; refine wpList_make_full _ rfl _ _ 60 rfl (w.heap.size + 1) 61 i5 (.slice none 0 0) 1 Tryd.underlying60 hi hz0 hz1 .i64 .i64 _ _ m rfl rfl rfl rfl (by rw [hz2]; omega) (by unfold maxLen; omega) (by simp) ?_; intro w1 hown1 hgrow1)
    have hb1 : Below w.heap.size w w1 := (HB0.out).grown hgrow1 (by simp) (by simp)
    simp only [World.size_alloc] at hown1
    have hB1 : w.heap.size + 1 < w1.heap.size := owns_lt hown1
    have HRW1 := rows_made hown1
    have HZ1 := HZ0.out.step ((Below.refl _ _).grown hgrow1 (Nat.le_refl _) (by simp))
    obtain ⟨X, HXE⟩ : ∃ X, Hid (X = w1.heap.size) := ⟨_, rfl⟩
    have bX := (Below.refl w1.heap.size w1).alloc (Nat.le_refl _) (.cells #[.slice (some ⟨w.heap.size + 1, 0, none⟩) m m] 60)
    have HINV : Hid (∃ r : Nat → Nat, Mat (w1.alloc (.cells #[.slice (some ⟨w.heap.size + 1, 0, none⟩) m m] 60)) X B r m 0 (fun _ _ => false) ∧ (∀ j, 0 ≤ j → j < m → (w1.alloc (.cells #[.slice (some ⟨w.heap.size + 1, 0, none⟩) m m] 60)).cell? ⟨B, j, none⟩ = some (.slice none 0 0) ∧ (w1.alloc (.cells #[.slice (some ⟨w.heap.size + 1, 0, none⟩) m m] 60)).frozen? ⟨B, j, none⟩ = false) ∧ (∀ j, j < 0 → r j < (w1.alloc (.cells #[.slice (some ⟨w.heap.size + 1, 0, none⟩) m m] 60)).heap.size ∧ X < r j) ∧ X < (w1.alloc (.cells #[.slice (some ⟨w.heap.size + 1, 0, none⟩) m m] 60)).heap.size ∧ ZBox (w1.alloc (.cells #[.slice (some ⟨w.heap.size + 1, 0, none⟩) m m] 60)) w.heap.size ∧ Below w.heap.size w (w1.alloc (.cells #[.slice (some ⟨w.heap.size + 1, 0, none⟩) m m] 60))) := by
      rw [HXE.out, HBE.out]
      refine ⟨fun _ => 0, ⟨by simp, fun i h => absurd h (Nat.not_lt_zero _), fun i j h => absurd h (Nat.not_lt_zero _), fun i h => absurd h (Nat.not_lt_zero _), fun i j h => absurd h (Nat.not_lt_zero _)⟩, fun j _ hj => ⟨(bX.cell (p := ⟨w.heap.size + 1, j, none⟩) hB1).trans (HRW1 j hj).1, (bX.frozen (p := ⟨w.heap.size + 1, j, none⟩) hB1).trans (HRW1 j hj).2⟩, fun j h => absurd h (Nat.not_lt_zero _), by simp, HZ1.step bX, hb1.alloc hb1.size _⟩
    have hBle : w.heap.size ≤ B := by rw [HBE.out]; omega
    have hBX : B < X := by rw [HBE.out, HXE.out]; omega
    have hZB : w.heap.size < B := by rw [HBE.out]; omega
    have HXW : Hid (w1.heap.size = X) := HXE.out.symm
    have HBW1 : Hid (w.heap.size + 1 = B) := HBE.out.symm
    clear hb1 hB1 HRW1 HZ1 bX hown1 hgrow1 HB0 HZ0
    rw [HBW1.out] at HINV
    rw [HXW.out, HBW1.out]
    go_loopw [7] (fun t wx => ∃ (i : Nat) (r : Nat → Nat), i ≤ m ∧ t = .int .i64 i ∧ Hid (Mat wx X B r m i (fun _ _ => false)) ∧ Hid (∀ j, i ≤ j → j < m → wx.cell? ⟨B, j, none⟩ = some (.slice none 0 0) ∧ wx.frozen? ⟨B, j, none⟩ = false) ∧ Hid (∀ j, j < i → r j < wx.heap.size ∧ X < r j) ∧ Hid (X < wx.heap.size) ∧ Hid (ZBox wx w.heap.size) ∧ Hid (Below w.heap.size w wx)) (fun t _ => m - (intOf t).toNat)
    case atStart =>
      obtain ⟨r, h1, h2, h3, h4, h5, h6⟩ := HINV.out
      exact ⟨0, r, Nat.zero_le _, rfl, h1, h2, h3, h4, h5, h6⟩
    case round =>
      obtain ⟨i, r, hi', rfl, HM, HRE, HRL, HXL, HZ, HBW⟩ := hrel
      clear HINV
      have hXlt := HXL.out
      have hMX := HM.out.box
      by_cases hlt : i < m
      · have hlt' : (i : Int) < (m : Int) := by omega
        have hBlt : B < wr.heap.size := by omega
        have KK : Below w.heap.size w wr.drew ∧ wr.drew.cell? ⟨X, 0, none⟩ = some (.slice (some ⟨B, 0, none⟩) m m) := ⟨HBW.out.drew, hMX⟩
        have l1 : ∀ w' : World, (Below w.heap.size w w' ∧ w'.cell? ⟨X, 0, none⟩ = some (.slice (some ⟨B, 0, none⟩) m m)) → w'.cell? ⟨X, 0, none⟩ = some (.slice (some ⟨B, 0, none⟩) m m) := fun _ h => h.2
        go_wp2_with fail
        refine wp_region_held_drew (S := (fun w' => Below w.heap.size w w' ∧ w'.cell? ⟨X, 0, none⟩ = some (.slice (some ⟨B, 0, none⟩) m m))) (by kernel_rfl) (KK) (fun hHeld => ?_)
        refine wpAnyH_take (i := 0) (oi := { dst := some 30, op := Go.Op.load 60 (Go.Operand.tmp 6), type := 60, pos := "order.go:141", after := #[], guard := none }) (v := ?_) rfl (by kernel_rfl) (by kernel_rfl) (by kernel_rfl) (fun _ _ _ h => h) (Or.inl ⟨by rfl, ?hy⟩) (by assumption) ?_
        case hy => (intro w9 hSw; (try dsimp only at hSw); go_simp; try with_reducible rfl)
        try simp only [Act.put, List.setIfInBounds_toArray, List.set_cons_zero, List.set_cons_succ]
        refine wpAnyH_take (i := 1) (oi := { dst := some 31, op := Go.Op.move (Go.Operand.tmp 7), type := 3, pos := "order.go:141", after := #[], guard := none }) (v := ?_) rfl (by kernel_rfl) (by kernel_rfl) (by kernel_rfl) (fun _ _ _ h => h) (Or.inl ⟨by rfl, ?hy⟩) (by assumption) ?_
        case hy => (intro w9 hSw; (try dsimp only at hSw); go_simp; try with_reducible rfl)
        try simp only [Act.put, List.setIfInBounds_toArray, List.set_cons_zero, List.set_cons_succ]
        refine wpAnyH_take (i := 2) (oi := { dst := some 32, op := Go.Op.move (Go.Operand.tmp 0), type := 3, pos := "order.go:141", after := #[], guard := none }) (v := ?_) rfl (by kernel_rfl) (by kernel_rfl) (by kernel_rfl) (fun _ _ _ h => h) (Or.inl ⟨by rfl, ?hy⟩) (by assumption) ?_
        case hy => (intro w9 hSw; (try dsimp only at hSw); go_simp; try with_reducible rfl)
        try simp only [Act.put, List.setIfInBounds_toArray, List.set_cons_zero, List.set_cons_succ]
        refine wpAnyH_ready (rs := [3]) (by kernel_rfl) (by simp) ?_
        refine AllReadyH.cons (o := { dst := some 33, op := Go.Op.makeSlice 61 (Go.Operand.tmp 32) (Go.Operand.tmp 32), type := 61, pos := "order.go:141", after := #[{ on := 2, ground := Go.Ground.data }, { on := 2, ground := Go.Ground.data }], guard := none }) rfl (fun K hK => ?_) AllReadyH.nil
        rw [if_pos (by rfl)]
        refine wpop_make _ 61 rfl wr.heap.size 4 i4 (.bool false) 1 Tryd.underlying61 hj hy0 hy1 .i64 .i64 _ _ m rfl rfl rfl rfl (by rw [hy2]; omega) (by unfold maxLen; omega) (Nat.le_refl _) ?_
        intro wm hownm hgrowm
        have hbm : Below wr.heap.size wr wm := ((Below.refl wr.heap.size wr).drew).grown hgrowm (Nat.le_refl _) (by simp)
        have HBM : Hid (Below wr.heap.size wr wm) := hbm
        have HNW : Hid (∀ j, j < m → wm.cell? ⟨wr.heap.size, j, none⟩ = some (.bool false) ∧ wm.frozen? ⟨wr.heap.size, j, none⟩ = false) := bools_made hownm
        have HLT : Hid (wr.heap.size < wm.heap.size) := owns_lt hownm
        have s0 := (hbm.cell (p := ⟨B, i, none⟩) hBlt).trans (HRE.out i (Nat.le_refl _) hlt).1
        have s1 := (hbm.frozen (p := ⟨B, i, none⟩) hBlt).trans (HRE.out i (Nat.le_refl _) hlt).2
        clear hownm hgrowm hbm
        refine hK.out _ _ ?_ (fun hHeld => ?_)
        · exact ⟨Below.then HBW.out HBM.out, (HBM.out.cell (p := ⟨X, 0, none⟩) hXlt).trans hMX⟩
        clear hK K
        try simp only [Act.put, List.setIfInBounds_toArray, List.set_cons_zero, List.set_cons_succ]
        refine wpAnyH_take (i := 4) (oi := { dst := some 34, op := Go.Op.indexAddr 60 (Go.Operand.tmp 30) (Go.Operand.tmp 31), type := 0, pos := "order.go:141", after := #[{ on := 0, ground := Go.Ground.data }, { on := 1, ground := Go.Ground.data }, { on := 0, ground := Go.Ground.phase }, { on := 1, ground := Go.Ground.phase }, { on := 2, ground := Go.Ground.phase }, { on := 3, ground := Go.Ground.phase }], guard := none }) (v := ?_) rfl (by kernel_rfl) (by kernel_rfl) (by kernel_rfl) (fun _ _ _ h => h) (Or.inl ⟨by rfl, ?hy⟩) (by assumption) ?_
        case hy => (intro w9 hSw; (try dsimp only at hSw); go_simp; try with_reducible rfl)
        try simp only [Act.put, List.setIfInBounds_toArray, List.set_cons_zero, List.set_cons_succ]
        refine wpAnyH_ready (rs := [5]) (by kernel_rfl) (by simp) ?_
        refine AllReadyH.cons (o := { dst := none, op := Go.Op.store 61 (Go.Operand.tmp 34) (Go.Operand.tmp 33), type := 0, pos := "order.go:141", after := #[{ on := 4, ground := Go.Ground.data }, { on := 3, ground := Go.Ground.data }, { on := 0, ground := Go.Ground.phase }, { on := 1, ground := Go.Ground.phase }, { on := 2, ground := Go.Ground.phase }, { on := 3, ground := Go.Ground.phase }], guard := none }) rfl (fun K hK => ?_) AllReadyH.nil
        go_simp
        skip
        refine hK.out _ _ ?_ (fun hHeld => ?_)
        · exact ⟨(Below.then HBW.out HBM.out).setCell (p := ⟨B, i, none⟩) hBle _, (World.cell?_setCell_other _ _ _ _ (fun e => by injection e with e1; omega)).trans ((HBM.out.cell (p := ⟨X, 0, none⟩) hXlt).trans hMX)⟩
        clear hK K
        try simp only [Act.put, List.setIfInBounds_toArray, List.set_cons_zero, List.set_cons_succ]
        refine wpAnyH_done (by kernel_rfl) ?_ _
        try simp only [Act.put, List.setIfInBounds_toArray, List.set_cons_zero, List.set_cons_succ]
        have HMN : Hid (Mat (wm.setCell ⟨B, i, none⟩ (.slice (some ⟨wr.heap.size, 0, none⟩) m m)) X B (fun j => if j = i then wr.heap.size else r j) m (i + 1) (fun _ _ => false)) := HM.out.row HBM.out rfl hXlt hBlt (by omega) (fun j hj => (HRL.out j hj).1) HNW.out s0
        have HREN : Hid (∀ j, i + 1 ≤ j → j < m → (wm.setCell ⟨B, i, none⟩ (.slice (some ⟨wr.heap.size, 0, none⟩) m m)).cell? ⟨B, j, none⟩ = some (.slice none 0 0) ∧ (wm.setCell ⟨B, i, none⟩ (.slice (some ⟨wr.heap.size, 0, none⟩) m m)).frozen? ⟨B, j, none⟩ = false) := fun j h1 h2 => by
          rw [World.frozen?_setCell, World.cell?_setCell_other _ _ _ _ (fun x => by injection x with _ x2; omega)]
          exact ⟨(HBM.out.cell (p := ⟨B, j, none⟩) hBlt).trans (HRE.out j (by omega) h2).1, (HBM.out.frozen (p := ⟨B, j, none⟩) hBlt).trans (HRE.out j (by omega) h2).2⟩
        have HRLN : Hid (∀ j, j < i + 1 → (fun j => if j = i then wr.heap.size else r j) j < (wm.setCell ⟨B, i, none⟩ (.slice (some ⟨wr.heap.size, 0, none⟩) m m)).heap.size ∧ X < (fun j => if j = i then wr.heap.size else r j) j) := fun j hj => by
          simp only [World.size_setCell]
          have h1 := HLT.out
          by_cases e : j = i
          · rw [if_pos e]; exact ⟨h1, hXlt⟩
          · rw [if_neg e]; have := HRL.out j (by omega); omega
        have HXLN : Hid (X < (wm.setCell ⟨B, i, none⟩ (.slice (some ⟨wr.heap.size, 0, none⟩) m m)).heap.size) := by have := HLT.out; show _ < _; simp only [World.size_setCell]; omega
        have HZN : Hid (ZBox (wm.setCell ⟨B, i, none⟩ (.slice (some ⟨wr.heap.size, 0, none⟩) m m)) w.heap.size) := by
          obtain ⟨z1, z2, z3, z4⟩ := HZ.out.step HBM.out
          refine ⟨?_, ?_, ?_, ?_⟩
          · rw [World.cell?_setCell_other _ _ _ _ (fun x => by injection x with x1; omega)]; exact z1
          · rw [World.cell?_setCell_other _ _ _ _ (fun x => by injection x with x1; omega)]; exact z2
          · rw [World.frozen?_setCell]; exact z3
          · rw [World.frozen?_setCell]; exact z4
        have HBN : Hid (Below w.heap.size w (wm.setCell ⟨B, i, none⟩ (.slice (some ⟨wr.heap.size, 0, none⟩) m m))) := (Below.then HBW.out HBM.out).setCell (p := ⟨B, i, none⟩) hBle _
        clear s0 s1 l1 KK hMX HM HRE HRL HXL HZ HBW HNW HLT HBM
        go_wp2_with fail
        go_roundw
        case rel => exact ⟨i + 1, _, by omega, by go_num, HMN.out, HREN.out, HRLN.out, HXLN.out, HZN.out, HBN.out⟩
        case measure => simp [intOf]; omega
      · obtain rfl : m = i := by omega
        have HRR : Hid (∀ j, j < m → X < r j) := fun j hj => (HRL.out j hj).2
        clear HRE hXlt hMX hi'
        go_wp2_with fail
        have HM0 : Hid (Mat wr X B r m m (fun a b => (mk p 0 b).testBit a)) := by
          have e : (fun a b => (mk p 0 b).testBit a) = (fun _ _ : Nat => false) := by funext a b; simp [mk]
          rw [e]; exact HM.out
        have HZ0 := HZ
        have HBW0 := HBW
        clear HM HRL HXL HZ HBW
        go_loopw [8] (fun t wx => ∃ k : Nat, k ≤ len ∧ t = .int .i64 k ∧ (∀ j, j < k → PIn (m : Int) p j) ∧ Hid (Mat wx X B r m m (fun a b => (mk p k b).testBit a)) ∧ Hid (ZBox wx w.heap.size) ∧ Hid (Below w.heap.size w wx)) (fun t _ => len - (intOf t).toNat)
        case atStart => exact ⟨0, Nat.zero_le _, rfl, fun j hj => absurd hj (Nat.not_lt_zero _), HM0.out, HZ0.out, HBW0.out⟩
        case round =>
          obtain ⟨k, hkl, rfl, hpin, HM, HZ, HBW⟩ := hrel
          have HPI : Hid (∀ j, j < k → PIn (m : Int) p j) := hpin
          clear HM0 HZ0 HBW0 hpin
          by_cases hk : k < len
          · obtain ⟨bp, op, rfl, d1, d2⟩ := (HR.out.below HBW.out) k hk
            have hk' : (k : Int) < (len : Int) := by omega
            obtain ⟨q1, hq1⟩ : ∃ q1, (p k).1 = q1 := ⟨_, rfl⟩
            obtain ⟨q2, hq2⟩ : ∃ q2, (p k).2 = q2 := ⟨_, rfl⟩
            rw [hq1] at d1
            rw [hq2] at d2
            go_wp2_with fail
            go_quiet (fail)
            by_cases c1 : q1 < 0
            · have c1' : decide (q1 < 0) = true := by simpa using c1
              obtain ⟨z1, z2, z3, z4⟩ := HZ.out
              have HMK : Hid (Mk (m : Int) len p 3) := .inr ⟨m, rfl, hm, .inl ⟨rfl, fun h => by have := h k hk; unfold PIn at this; omega⟩⟩
              go_wp2_with fail
              exact bodyPost_ret (v := .tuple #[noOrder, .int .i64 3]) (by simp [results, Tryd.results22, go_sem, noOrder, z1, z2]) rfl ⟨⟨3, _, HMK.out, rfl, .inl ⟨by decide, rfl⟩⟩, set2B (below_drewN HBW.out _) (Nat.le_refl _)⟩
            by_cases c2 : (m : Int) ≤ q1
            · have c2' : decide ((m : Int) ≤ q1) = true := by simpa using c2
              obtain ⟨z1, z2, z3, z4⟩ := HZ.out
              have HMK : Hid (Mk (m : Int) len p 3) := .inr ⟨m, rfl, hm, .inl ⟨rfl, fun h => by have := h k hk; unfold PIn at this; omega⟩⟩
              go_wp2_with fail
              exact bodyPost_ret (v := .tuple #[noOrder, .int .i64 3]) (by simp [results, Tryd.results22, go_sem, noOrder, z1, z2]) rfl ⟨⟨3, _, HMK.out, rfl, .inl ⟨by decide, rfl⟩⟩, set2B (below_drewN HBW.out _) (Nat.le_refl _)⟩
            by_cases c3 : q2 < 0
            · have c3' : decide (q2 < 0) = true := by simpa using c3
              obtain ⟨z1, z2, z3, z4⟩ := HZ.out
              have HMK : Hid (Mk (m : Int) len p 3) := .inr ⟨m, rfl, hm, .inl ⟨rfl, fun h => by have := h k hk; unfold PIn at this; omega⟩⟩
              go_wp2_with fail
              exact bodyPost_ret (v := .tuple #[noOrder, .int .i64 3]) (by simp [results, Tryd.results22, go_sem, noOrder, z1, z2]) rfl ⟨⟨3, _, HMK.out, rfl, .inl ⟨by decide, rfl⟩⟩, set2B (below_drewN HBW.out _) (Nat.le_refl _)⟩
            by_cases c4 : (m : Int) ≤ q2
            · have c4' : decide ((m : Int) ≤ q2) = true := by simpa using c4
              obtain ⟨z1, z2, z3, z4⟩ := HZ.out
              have HMK : Hid (Mk (m : Int) len p 3) := .inr ⟨m, rfl, hm, .inl ⟨rfl, fun h => by have := h k hk; unfold PIn at this; omega⟩⟩
              go_wp2_with fail
              exact bodyPost_ret (v := .tuple #[noOrder, .int .i64 3]) (by simp [results, Tryd.results22, go_sem, noOrder, z1, z2]) rfl ⟨⟨3, _, HMK.out, rfl, .inl ⟨by decide, rfl⟩⟩, set2B (below_drewN HBW.out _) (Nat.le_refl _)⟩
            obtain ⟨x, rfl⟩ := Int.eq_ofNat_of_zero_le (show 0 ≤ q1 by omega)
            obtain ⟨y, rfl⟩ := Int.eq_ofNat_of_zero_le (show 0 ≤ q2 by omega)
            have hx : x < m := by omega
            have hy : y < m := by omega
            have hx' : (x : Int) < (m : Int) := by omega
            have hy' : (y : Int) < (m : Int) := by omega
            have m0 := HM.out.box
            have m1 := HM.out.rows x hx
            obtain ⟨m2, m3⟩ := HM.out.cells x y hx hy
            have HPN : Hid (∀ j, j < k + 1 → PIn (m : Int) p j) := fun j hj => by
              by_cases e : j = k
              · subst e; unfold PIn; omega
              · exact HPI.out j (by omega)
            have HMN : Hid (Mat ((wr.drewN nq).setCell ⟨r x, y, none⟩ (.bool true)) X B r m m (fun a b => (mk p (k + 1) b).testBit a)) := by
              rw [mk_upd2 hq1 hq2]
              exact Mat.set (w := wr.drewN nq) ⟨HM.out.box, HM.out.rows, HM.out.cells, HM.out.up, HM.out.inj⟩ hx hy
            have hrx := HRR.out x hx
            have HZN : Hid (ZBox ((wr.drewN nq).setCell ⟨r x, y, none⟩ (.bool true)) w.heap.size) := by
              obtain ⟨z1, z2, z3, z4⟩ := HZ.out
              refine ⟨?_, ?_, ?_, ?_⟩
              · rw [World.cell?_setCell_other _ _ _ _ (fun x => by injection x with x1; omega)]; exact z1
              · rw [World.cell?_setCell_other _ _ _ _ (fun x => by injection x with x1; omega)]; exact z2
              · rw [World.frozen?_setCell]; exact z3
              · rw [World.frozen?_setCell]; exact z4
            have HBN : Hid (Below w.heap.size w ((wr.drewN nq).setCell ⟨r x, y, none⟩ (.bool true))) := (below_drewN HBW.out _).setCell (p := ⟨r x, y, none⟩) (by show w.heap.size ≤ r x; omega) _
            generalize r x = rx at *
            go_wp2_with fail
            go_roundw
            case rel => exact ⟨k + 1, by omega, by go_num, HPN.out, HMN.out, HZN.out, HBN.out⟩
            case measure => simp [intOf]; omega
          · obtain rfl : k = len := by omega
            go_wp2_with fail
            obtain ⟨R, HRD⟩ : ∃ R : Nat → Nat → Prop, Hid (R = fun a b => (mk p k b).testBit a = true) := ⟨_, rfl⟩
            have HMID : Hid (Mid m R (fun a b => (mk p k b).testBit a)) := by rw [HRD.out]; exact fun a b _ _ => ⟨fun h => h, fun h => Way.lift h m⟩
            have HRX : Hid (∀ j, j < m → w.heap.size < r j) := fun j hj => by have := HRR.out j hj; omega
            obtain ⟨T0, HT0⟩ : ∃ T0, Hid (T0 = fun a b => (mk p k b).testBit a) := ⟨_, rfl⟩
            rw [← HT0.out] at HMID HM
            go_loopg [11] (offAll T0 m m + 1) (fun gk v wx => ∃ (ag : Bool) (T : Nat → Nat → Bool), v = .bool ag ∧ Hid (RI w X B r m R gk m 0 0 ag T wx))
            case atStart => exact ⟨true, T0, rfl, by simp, HMID.out, (fun e => by cases e), HM.out, HZ.out, HBW.out⟩
            case round =>
              obtain ⟨ag, T, rfl, HI0⟩ := hrel
              clear HMID HM HZ HBW
              cases ag
              · have HTR : Hid (Tr m T) := (HI0.out.2.2.1 rfl).tr
                have HPN : Hid (∀ j, j < k → PIn (m : Int) p j) := HPI
                have HSM : Hid (Sm m m (mk p k)) := mk_sm k HPI.out
                have HWAY : Hid (∀ x y, x < m → y < m → (T x y = true ↔ Way (fun a b => (mk p k b).testBit a = true) m x y)) := fun x y hx hy => by
                  have h := HI0.out.2.1
                  rw [HRD.out] at h
                  refine h.way (fun a b hr => ?_) HTR.out hx hy
                  obtain ⟨j, hj, h1, h2⟩ := (mk_bit (n := m) k HPI.out a b).1 hr
                  have := HPI.out j hj
                  unfold PIn at this
                  omega
                have HEQ : Hid (∀ y, y < m → setBy (fun x => T x y) m = reachOut (mk p k) m m y) := fun y hy => by
                  refine eq_of_bits (setBy_lt _ _) (reachOut_sm HSM.out m (Nat.le_refl _) y hy) fun x hx => ?_
                  rw [setBy_bit, Bool.eq_iff_iff, reach_way _ m m (Nat.le_refl _) x y hy, ← HWAY.out x y hx hy]
                  simp [hx]
                have HIT : Hid (RI w X B r m R gk m 0 0 false T wr) := HI0
                clear HI0
                go_wp2_with fail
                go_loopw [15] (fun t wx => ∃ i : Nat, i ≤ m ∧ t = .int .i64 i ∧ (∀ j, j < i → T j j = false) ∧ Hid (RI w X B r m R gk m 0 0 false T wx)) (fun t _ => m - (intOf t).toNat)
                case atStart => exact ⟨0, Nat.zero_le _, rfl, fun j hj => absurd hj (Nat.not_lt_zero _), HIT.out⟩
                case round =>
                  obtain ⟨i, hi', rfl, hno, HI⟩ := hrel
                  have HNO : Hid (∀ j, j < i → T j j = false) := hno
                  clear HIT hno
                  by_cases hlt : i < m
                  · have hlt' : (i : Int) < (m : Int) := by omega
                    have m0 := HI.out.box.box
                    have m1 := HI.out.box.rows i hlt
                    obtain ⟨n1, n2⟩ := HI.out.box.cells i i hlt hlt
                    rcases (Bool.eq_false_or_eq_true (T i i)).symm with t1 | t1
                    · have HN2 : Hid (∀ j, j < i + 1 → T j j = false) := fun j hj => by
                        by_cases e : j = i
                        · rw [e]; exact t1
                        · exact HNO.out j (by omega)
                      rw [t1] at n1
                      go_wp2_with fail
                      go_roundw
                      case rel => exact ⟨i + 1, by omega, by go_num, HN2.out, HI.out⟩
                      case measure => simp [intOf]; omega
                    · have HMK : Hid (Mk (m : Int) k p 4) := .inr ⟨m, rfl, hm, .inr ⟨HPN.out, .inl ⟨rfl, fun h => (reach_ord hm HSM.out).1 h i hlt ((HWAY.out i i hlt hlt).1 t1)⟩⟩⟩
                      obtain ⟨z1, z2, z3, z4⟩ := HI.out.2.2.2.2.1
                      have HBE2 : Hid (Below w.heap.size w wr) := HI.out.2.2.2.2.2
                      rw [t1] at n1
                      go_wp2_with fail
                      exact bodyPost_ret (v := .tuple #[noOrder, .int .i64 4]) (by simp [results, Tryd.results22, go_sem, noOrder, z1, z2]) rfl ⟨⟨4, _, HMK.out, rfl, .inl ⟨by decide, rfl⟩⟩, set2B HBE2.out (Nat.le_refl _)⟩
                  · obtain rfl : m = i := by omega
                    have HMK : Hid (Mk (m : Int) k p 0) := .inr ⟨m, rfl, hm, .inr ⟨HPN.out, .inr ⟨rfl, (reach_ord hm HSM.out).2 fun u hu hw => by
                      have := (HWAY.out u u hu hu).2 hw
                      rw [HNO.out u hu] at this; cases this⟩⟩⟩
                    have HMX : Hid (Mat wr X B r m m T) := HI.out.box
                    have HZX : Hid (ZBox wr w.heap.size) := HI.out.2.2.2.2.1
                    have HBX : Hid (Below w.heap.size w wr) := HI.out.2.2.2.2.2
                    clear HI
                    go_wp2_with fail
                    refine (orderOf_make m X T _ hm (fun x y wx hx hy hb => make1_any x y X B r m T wx hx hy (HMX.out.step hb))).mono ?_
                    rintro e w4 ⟨⟨a4, cap4, rfl, hrow, hfr⟩, hb⟩
                    obtain ⟨z1, z2, z3, z4⟩ := HZX.out.step hb
                    have hzl : w.heap.size < wr.heap.size := World.block_lt_of_cell? _ _ HZX.out.1
                    have HB4 : Hid (Below w.heap.size w w4) := Below.then HBX.out hb
                    have HR4 : Hid (Row w4 a4 m (fun q => (reachOut (mk p k) m m q : Nat))) := fun q hq => by
                      obtain ⟨b, off, e, hc⟩ := hrow q hq
                      refine ⟨b, off, e, ?_⟩
                      rw [hc]
                      simp only [HEQ.out q hq]
                    have HF4 : Hid (Fresh (w.heap.size + 1) a4 m) := hfr.mono (by omega)
                    clear hb hrow hfr HZX HBX HMX HEQ
                    go_wp2_with fail
                    exact bodyPost_ret (v := .tuple #[.agg #[.int .i64 (m : Int), .slice a4 m cap4], .int .i64 0]) (by simp [results, Tryd.results22, go_sem, z1, z2]) rfl ⟨⟨0, _, HMK.out, rfl, .inr ⟨rfl, a4, cap4, rfl, row_set2 HR4.out HF4.out, HF4.out.mono (Nat.le_succ _)⟩⟩, set2B HB4.out (Nat.le_refl _)⟩
              · have hgk : offAll T m m + 1 ≤ gk := by have := HI0.out.1; simpa using this
                have HIS : Hid (RI w X B r m R (gk - 1) 0 0 0 false T wr) := ⟨by simp; omega, HI0.out.2.1, (fun _ x y z _ _ _ h => by omega), HI0.out.2.2.2⟩
                clear HI0
                go_wp2_with fail
                go_loopw [11, 12] (fun v t wx => ∃ (a' : Nat) (ag : Bool) (T : Nat → Nat → Bool), a' ≤ m ∧ t = .int .i64 a' ∧ v = .bool ag ∧ Hid (RI w X B r m R (gk - 1) a' 0 0 ag T wx)) (fun _ t _ => m - (intOf t).toNat)
                case atStart => exact ⟨0, false, T, Nat.zero_le _, rfl, rfl, HIS.out⟩
                case round =>
                  obtain ⟨a', ag, T1, ha', rfl, rfl, HI1⟩ := hrel
                  clear HIS
                  by_cases ha : a' < m
                  · have hax : (a' : Int) < (m : Int) := by omega
                    go_wp2_with fail
                    go_loopw [11, 13] (fun v t wx => ∃ (b' : Nat) (ag : Bool) (T : Nat → Nat → Bool), b' ≤ m ∧ t = .int .i64 b' ∧ v = .bool ag ∧ Hid (RI w X B r m R (gk - 1) a' b' 0 ag T wx)) (fun _ t _ => m - (intOf t).toNat)
                    case atStart => exact ⟨0, ag, T1, Nat.zero_le _, rfl, rfl, HI1.out⟩
                    case round =>
                      obtain ⟨b', ag, T2, hb', rfl, rfl, HI2⟩ := hrel
                      clear HI1
                      by_cases hb : b' < m
                      · have hbx : (b' : Int) < (m : Int) := by omega
                        go_wp2_with fail
                        go_loopw [11, 14] (fun v t wx => ∃ (c' : Nat) (ag : Bool) (T : Nat → Nat → Bool), c' ≤ m ∧ t = .int .i64 c' ∧ v = .bool ag ∧ Hid (RI w X B r m R (gk - 1) a' b' c' ag T wx)) (fun _ t _ => m - (intOf t).toNat)
                        case atStart => exact ⟨0, ag, T2, Nat.zero_le _, rfl, rfl, HI2.out⟩
                        case round =>
                          obtain ⟨c', ag, T3, hc', rfl, rfl, HI⟩ := hrel
                          clear HI2
                          by_cases hc : c' < m
                          · have hcx : (c' : Int) < (m : Int) := by omega
                            have m0 := HI.out.box.box
                            have m1 := HI.out.box.rows a' ha
                            have m2 := HI.out.box.rows b' hb
                            obtain ⟨n1, n2⟩ := HI.out.box.cells a' b' ha hb
                            obtain ⟨n3, n4⟩ := HI.out.box.cells b' c' hb hc
                            obtain ⟨n5, n6⟩ := HI.out.box.cells a' c' ha hc
                            rcases (Bool.eq_false_or_eq_true (T3 a' b')).symm with t1 | t1
                            · have HIN : Hid (RI w X B r m R (gk - 1) a' b' (c' + 1) ag T3 wr) := HI.out.c (fun h => by rw [t1] at h; cases h)
                              rw [t1] at n1
                              clear HI
                              go_wp2_with fail
                              go_roundw
                              case rel => exact ⟨c' + 1, ag, T3, by omega, by go_num, rfl, HIN.out⟩
                              case measure => simp [intOf]; omega
                            rcases (Bool.eq_false_or_eq_true (T3 b' c')).symm with t2 | t2
                            · have HIN : Hid (RI w X B r m R (gk - 1) a' b' (c' + 1) ag T3 wr) := HI.out.c (fun _ h => by rw [t2] at h; cases h)
                              rw [t1] at n1
                              rw [t2] at n3
                              clear HI
                              go_wp2_with fail
                              go_roundw
                              case rel => exact ⟨c' + 1, ag, T3, by omega, by go_num, rfl, HIN.out⟩
                              case measure => simp [intOf]; omega
                            rcases (Bool.eq_false_or_eq_true (T3 a' c')).symm with t3 | t3
                            · have HIN : Hid (RI w X B r m R (gk - 1) a' b' (c' + 1) true (upd2 T3 a' c') (wr.setCell ⟨r a', c', none⟩ (.bool true))) := HI.out.set ha hb hc t1 t2 t3 (HRX.out a' ha)
                              rw [t1] at n1
                              rw [t2] at n3
                              rw [t3] at n5
                              clear HI
                              go_wp2_with fail
                              go_roundw
                              case rel => exact ⟨c' + 1, true, _, by omega, by go_num, rfl, HIN.out⟩
                              case measure => simp [intOf]; omega
                            · have HIN : Hid (RI w X B r m R (gk - 1) a' b' (c' + 1) ag T3 wr) := HI.out.c (fun _ _ => t3)
                              rw [t1] at n1
                              rw [t2] at n3
                              rw [t3] at n5
                              clear HI
                              go_wp2_with fail
                              go_roundw
                              case rel => exact ⟨c' + 1, ag, T3, by omega, by go_num, rfl, HIN.out⟩
                              case measure => simp [intOf]; omega
                          · obtain rfl : m = c' := by omega
                            have HIN : Hid (RI w X B r m R (gk - 1) a' (b' + 1) 0 ag T3 wr) := HI.out.b
                            clear HI
                            go_wp2_with fail
                            go_roundw
                            case rel => exact ⟨b' + 1, ag, T3, by omega, by go_num, rfl, HIN.out⟩
                            case measure => simp [intOf]; omega
                      · obtain rfl : m = b' := by omega
                        have HIN : Hid (RI w X B r m R (gk - 1) (a' + 1) 0 0 ag T2 wr) := HI2.out.a
                        clear HI2
                        go_wp2_with fail
                        go_roundw
                        case rel => exact ⟨a' + 1, ag, T2, by omega, by go_num, rfl, HIN.out⟩
                        case measure => simp [intOf]; omega
                  · obtain rfl : m = a' := by omega
                    have HIN : Hid (RI w X B r m R (gk - 1) m 0 0 ag T1 wr) := HI1.out
                    clear HI1
                    go_wp2_with fail
                    go_roundg (gk - 1)
                    case rel => exact ⟨ag, T1, rfl, HIN.out⟩
                    case measure => omega
  · have HMK : Hid (Mk n len p 2) := .inl ⟨rfl, hn⟩
    obtain ⟨z1, z2, z3, z4⟩ := HZ0.out
    by_cases c1 : n < 0
    · have c1' : decide (n < 0) = true := by simpa using c1
      go_enter Tryd.func22, Tryd.ntmps22
      go_wp2_with fail
      exact bodyPost_ret (v := .tuple #[noOrder, .int .i64 2]) (by simp [results, Tryd.results22, go_sem, noOrder, z1, z2]) rfl ⟨⟨2, _, HMK.out, rfl, .inl ⟨by decide, rfl⟩⟩, HB0.out⟩
    · have c2 : (10 : Int) < n := by omega
      go_enter Tryd.func22, Tryd.ntmps22
      go_wp2_with fail
      exact bodyPost_ret (v := .tuple #[noOrder, .int .i64 2]) (by simp [results, Tryd.results22, go_sem, noOrder, z1, z2]) rfl ⟨⟨2, _, HMK.out, rfl, .inl ⟨by decide, rfl⟩⟩, HB0.out⟩
end Go.Proofs.YtomoodpgmkjacaaDoor
