/-
  What moebius.pointsBelow and moebius.Mu answer. Condition: a slice reads as a slice of numbers.
-/
import Derived.Test.YtncjlfhgenmheabDoorUndP
import Derived.Test.YtncjlfhgenmheabDoorLevelM
import Derived.Test.YtncjlfhgenmheabDoorCoversP
namespace Go.Proofs.YtncjlfhgenmheabDoor
open Go.RowKit Go.Maps

/-- Is l below x? -/
def blw (g : Nat → Nat) (l x : Nat) : Bool := (g x).testBit l
theorem rk_ord {g : Nat → Nat} {n : Nat} (hn : n ≤ 10) (hg : ∀ k, k < n → g k < pw n) (ho : Ord n g) : Rk (blw g) n (ht g n) := fun l _ hl hx h =>
  (ht_ge hn hg ho hx (ht g n l)).2 ⟨l, hl, h, Nat.le_refl _⟩
/-- The captured variable of a closure that asks an order. -/
def PB (g : Nat → Nat) (n : Nat) (caps : Array Value) (w : World) : Prop := ∃ b a cap, caps = #[.pointer (some ⟨b, 0, none⟩)] ∧ Held w b n a n cap (fun k => (g k : Nat))
theorem PB.step {g : Nat → Nat} {n : Nat} {caps : Array Value} {w w' : World} (h : PB g n caps w) (hb : Below w.heap.size w w') : PB g n caps w' := by
  obtain ⟨b, a, cap, rfl, h⟩ := h
  exact ⟨b, a, cap, rfl, h.step hb⟩
theorem ent_pb : Ent 47 := fun _ _ => rfl
set_option maxHeartbeats 1000000 in
theorem pb1_any {g : Nat → Nat} {n : Nat} {caps : Array Value} {w : World} (h10 : n ≤ 10) (hg : ∀ k, k < n → g k < pw n) (h : PB g n caps w) {x y : Nat} (hx : x < n) (hy : y < n) :
    Calls Tryd.prog 47 (#[.int .i64 (x : Nat), .int .i64 (y : Nat)] ++ caps) w fun e w' => e = .returned (.bool (blw g x y)) ∧ Below w.heap.size w w' := by
  obtain ⟨b, a, cap, rfl, hH⟩ := h
  have c1 := hH.c1
  obtain ⟨b2, off, rfl, hc⟩ := hH.row.at hy
  have hcy := hc y hy
  have hgy : g y < 1024 := Nat.lt_of_lt_of_le (hg y hy) (pw_le n h10)
  have HH : Hid ((g y).testBit x = blw g x y) := rfl
  clear hH hc hg
  generalize hG : g y = G at *
  go_enter Tryd.func47, Tryd.ntmps47
  go_wp2_with (go_at_call 32; refine (has_as _ _ _ _ HH.out (by omega) (by omega)).mono ?_; rintro e w' ⟨rfl, rfl⟩)
  go_ret
  exact ⟨rfl, Below.refl _ _⟩
theorem clo_pb {g : Nat → Nat} {n : Nat} {caps : Array Value} {w : World} (h10 : n ≤ 10) (hg : ∀ k, k < n → g k < pw n) (h : PB g n caps w) : CloL n 47 caps (blw g) w :=
  fun _ _ hx hy _ hW => pb1_any h10 hg (h.step hW) hx hy
theorem pointsBelow_any (n : Nat) (a : Option Addr) (len cap : Nat) (g : Nat → Nat) (w : World) (hr : Row w a len (fun k => (g k : Nat))) :
    Calls Tryd.prog 29 #[.agg #[.int .i64 (n : Nat), .slice a len cap]] w fun e w' => (∃ caps, e = .returned (.func (.func 47) #[] caps) ∧ (n = len → PB g len caps w')) ∧ Below w.heap.size w w' := by
  have H0 : Hid (n = len → PB g len #[.pointer (some ⟨w.heap.size, 0, none⟩)] (w.alloc (.cells #[.int .i64 (n : Nat), .slice a len cap] 24))) := fun e => ⟨_, a, cap, rfl, by rw [e]; exact Held.box hr⟩
  clear hr
  go_enter Tryd.func29, Tryd.ntmps29
  go_wp2
  go_ret
  exact ⟨⟨_, rfl, H0.out⟩, (Below.refl _ _).alloc (Nat.le_refl _) _⟩
theorem isPoint_any (p n : Int) (w : World) :
    Calls Tryd.prog 27 #[.int .i64 p, .int .i64 n] w fun e w' => e = .returned (.bool (pnt p n)) ∧ w = w' := by
  by_cases h0 : 0 ≤ p
  · by_cases h1 : p < n
    · go_enter Tryd.func27, Tryd.ntmps27
      go_wp2
      go_ret
      exact ⟨ret_bool (by simp [pnt, h0, h1]), rfl⟩
    · go_enter Tryd.func27, Tryd.ntmps27
      go_wp2
      go_ret
      exact ⟨ret_bool (by simp [pnt, h1]), rfl⟩
  · have h0' : decide (0 ≤ p) = false := by simp; omega
    go_enter Tryd.func27, Tryd.ntmps27
    go_wp2
    go_ret
    exact ⟨ret_bool (by simp [pnt]; omega), rfl⟩
theorem isPoint_is (p n : Int) (b : Bool) (w : World) (h : pnt p n = b) : Calls Tryd.prog 27 #[.int .i64 p, .int .i64 n] w fun e w' => e = .returned (.bool b) ∧ w = w' := by
  rw [← h]; exact isPoint_any p n w

/-- What must be said of an order and two points. -/
def MuCk (n : Int) (len : Nat) (f : Nat → Int) (p q : Int) (c : Int) : Prop := (c ≠ 0 ∧ Chk n len f c) ∨ (Chk n len f 0 ∧ ((c = 3 ∧ (pnt p n = false ∨ pnt q n = false)) ∨ (c = 0 ∧ pnt p n = true ∧ pnt q n = true)))
theorem MuCk.unique {n : Int} {len : Nat} {f : Nat → Int} {p q c c' : Int} (h : MuCk n len f p q c) (h' : MuCk n len f p q c') : c = c' := by
  rcases h with ⟨h0, h⟩ | ⟨h, k⟩ <;> rcases h' with ⟨h0', h'⟩ | ⟨h', k'⟩
  · exact h.unique h'
  · exact absurd (h.unique h') h0
  · exact absurd (h'.unique h) h0'
  · rcases k with ⟨rfl, k⟩ | ⟨rfl, k1, k2⟩ <;> rcases k' with ⟨rfl, k'⟩ | ⟨rfl, k1', k2'⟩
    · rfl
    · rcases k with k | k
      · rw [k] at k1'; cases k1'
      · rw [k] at k2'; cases k2'
    · rcases k' with k' | k'
      · rw [k'] at k1; cases k1
      · rw [k'] at k2; cases k2
    · rfl
/-- Mu of two points. -/
def muO (g : Nat → Nat) (n a b : Nat) : Int := Uo (blw g) (oneA a) n (ht g n) b
def MuPost (n : Int) (len : Nat) (f : Nat → Int) (p q : Int) (e : Ending) : Prop := ∃ (c : Int) (v : Value), MuCk n len f p q c ∧ e = .returned (.tuple #[v, .int .i64 c]) ∧
  ((c ≠ 0 ∧ v = .int .i64 0) ∨ (c = 0 ∧ ∃ x y : Nat, p = x ∧ q = y ∧ x < len ∧ y < len ∧ v = .int .i64 (wz (muO (nat f) len x y))))

set_option maxHeartbeats 2000000 in
theorem muX_any (n : Int) (a : Option Addr) (len cap : Nat) (f : Nat → Int) (p q : Int) (w : World) (hl : len ≤ maxLen) (hr : Row w a len f) :
    Calls Tryd.prog 12 #[.agg #[.int .i64 n, .slice a len cap], .int .i64 p, .int .i64 q] w fun e w' => MuPost n len f p q e ∧ Below w.heap.size w w' := by
  have K0 : Held (w.alloc (.cells #[.int .i64 n, .slice a len cap] 24)) w.heap.size n a len cap f := Held.box hr
  have HB0 : Hid (Below w.heap.size w (w.alloc (.cells #[.int .i64 n, .slice a len cap] 24))) := (Below.refl _ _).alloc (Nat.le_refl _) _
  clear hr
  go_enter Tryd.func12, Tryd.ntmps12
  go_wp2_with fail
  refine (check_any n a len cap f _ hl K0.row).mono ?_
  rintro e W2 ⟨⟨c, rfl, hc⟩, hb⟩
  have K1 := K0.step hb
  have k0 := K1.c0
  have k1 := K1.c1
  have HB1 : Hid (Below w.heap.size w W2) := Below.then HB0.out hb
  have HC : Hid (Chk n len f c) := hc
  clear hb K0 HB0 hc
  by_cases h0 : c = 0
  · subst h0
    cases hp : pnt p n
    · have HK : Hid (MuCk n len f p q 3) := .inr ⟨HC.out, .inl ⟨rfl, .inl hp⟩⟩
      go_wp2_with fail
      refine (isPoint_is p n _ _ hp).mono ?_
      rintro e w3 ⟨rfl, rfl⟩
      clear hp K1
      go_wp2_with fail
      go_ret2
      exact ⟨⟨3, _, HK.out, rfl, .inl ⟨by decide, rfl⟩⟩, HB1.out⟩
    · go_wp2_with fail
      refine (isPoint_is p n _ _ hp).mono ?_
      rintro e w3 ⟨rfl, rfl⟩
      cases hq : pnt q n
      · have HK : Hid (MuCk n len f p q 3) := .inr ⟨HC.out, .inl ⟨rfl, .inr hq⟩⟩
        go_wp2_with fail
        refine (isPoint_is q n _ _ hq).mono ?_
        rintro e w3 ⟨rfl, rfl⟩
        clear hp hq K1
        go_wp2_with fail
        go_ret2
        exact ⟨⟨3, _, HK.out, rfl, .inl ⟨by decide, rfl⟩⟩, HB1.out⟩
      · have HK : Hid (MuCk n len f p q 0) := .inr ⟨HC.out, .inr ⟨rfl, hp, hq⟩⟩
        go_wp2_with fail
        refine (isPoint_is q n _ _ hq).mono ?_
        rintro e w3 ⟨rfl, rfl⟩
        obtain ⟨rfl, h10, hrng, hord⟩ := HC.out.good
        have hp' := of_decide_eq_true hp
        have hq' := of_decide_eq_true hq
        clear hp hq
        obtain ⟨x, rfl⟩ : ∃ x : Nat, p = x := ⟨p.toNat, by omega⟩
        obtain ⟨y, rfl⟩ : ∃ y : Nat, q = y := ⟨q.toNat, by omega⟩
        have hx : x < len := by omega
        have hy : y < len := by omega
        have HR : Hid (∀ wx, Below W2.heap.size W2 wx → Row wx a len (fun k => (nat f k : Nat))) := fun wx h => hrng.row (K1.step h).row
        have HG : Hid (∀ k, k < len → nat f k < pw len) := hrng.small
        have HO : Hid (Ord len (nat f)) := hord
        have hc0 : ∀ wx, Below W2.heap.size W2 wx → wx.cell? ⟨w.heap.size, 0, none⟩ = some (.int .i64 (len : Nat)) := fun wx h => (K1.step h).c0
        have hc1 : ∀ wx, Below W2.heap.size W2 wx → wx.cell? ⟨w.heap.size, 1, none⟩ = some (.slice a len cap) := fun wx h => (K1.step h).c1
        have HB2 : Hid (Below W2.heap.size W2 W2) := Below.refl _ _
        clear hp' hq' hrng hord K1 k0 k1
        go_wp2_with fail
        refine wp_region_held_drew (S := (fun w' => Below W2.heap.size W2 w')) (by kernel_rfl) (HB2.out.drew) (fun hHeld => ?_)
        refine wpAnyH_take (i := 0) (oi := { dst := some 26, op := Go.Op.fieldAddr 24 (Go.Operand.tmp 3) 0, type := 0, pos := "moebius.go:21", after := #[], guard := none }) (v := ?_) rfl (by kernel_rfl) (by kernel_rfl) (by kernel_rfl) (fun _ _ _ h => h) (Or.inl ⟨by rfl, ?hy⟩) (by assumption) ?_
        case hy => (intro w9 hSw; (try dsimp only at hSw); go_simp; try with_reducible rfl)
        try simp only [Act.put, List.setIfInBounds_toArray, List.set_cons_zero, List.set_cons_succ]
        refine wpAnyH_take (i := 1) (oi := { dst := some 27, op := Go.Op.load 3 (Go.Operand.tmp 26), type := 3, pos := "moebius.go:21", after := #[{ on := 0, ground := Go.Ground.data }], guard := none }) (v := ?_) rfl (by kernel_rfl) (by kernel_rfl) (by kernel_rfl) (fun _ _ _ h => h) (Or.inl ⟨by rfl, ?hy⟩) (by assumption) ?_
        case hy => (intro w9 hSw; (try dsimp only at hSw); go_simp; try with_reducible rfl)
        try simp only [Act.put, List.setIfInBounds_toArray, List.set_cons_zero, List.set_cons_succ]
        refine wpAnyH_take (i := 2) (oi := { dst := some 28, op := Go.Op.load 24 (Go.Operand.tmp 3), type := 24, pos := "moebius.go:21", after := #[], guard := none }) (v := ?_) rfl (by kernel_rfl) (by kernel_rfl) (by kernel_rfl) (fun _ _ _ h => h) (Or.inl ⟨by rfl, ?hy⟩) (by assumption) ?_
        case hy => (intro w9 hSw; (try dsimp only at hSw); go_simp; try with_reducible rfl)
        try simp only [Act.put, List.setIfInBounds_toArray, List.set_cons_zero, List.set_cons_succ]
        refine wpAnyH_take (i := 4) (oi := { dst := some 30, op := Go.Op.move (Go.Operand.tmp 1), type := 3, pos := "moebius.go:21", after := #[], guard := none }) (v := ?_) rfl (by kernel_rfl) (by kernel_rfl) (by kernel_rfl) (fun _ _ _ h => h) (Or.inl ⟨by rfl, ?hy⟩) (by assumption) ?_
        case hy => (intro w9 hSw; (try dsimp only at hSw); go_simp; try with_reducible rfl)
        try simp only [Act.put, List.setIfInBounds_toArray, List.set_cons_zero, List.set_cons_succ]
        refine wpAnyH_take (i := 5) (oi := { dst := some 31, op := Go.Op.move (Go.Operand.tmp 2), type := 3, pos := "moebius.go:21", after := #[], guard := none }) (v := ?_) rfl (by kernel_rfl) (by kernel_rfl) (by kernel_rfl) (fun _ _ _ h => h) (Or.inl ⟨by rfl, ?hy⟩) (by assumption) ?_
        case hy => (intro w9 hSw; (try dsimp only at hSw); go_simp; try with_reducible rfl)
        try simp only [Act.put, List.setIfInBounds_toArray, List.set_cons_zero, List.set_cons_succ]
        refine wpAnyH_ready (rs := [3]) (by kernel_rfl) (by simp) ?_
        refine AllReadyH.cons (o := { dst := some 29, op := Go.Op.call { callee := Go.Callee.value (Go.Operand.func 29), args := #[Go.Operand.tmp 28], argTypes := #[24] }, type := 48, pos := "moebius.go:21", after := #[{ on := 2, ground := Go.Ground.data }], guard := none }) rfl (fun K hK => ?_) AllReadyH.nil
        go_simp
        refine (pointsBelow_any len a len cap (nat f) _ (HR.out _ (by assumption))).mono ?_
        rintro e w8 ⟨⟨caps, rfl, hc8⟩, hb8⟩
        refine hK.out _ _ ?_ (fun hHeld => ?_)
        · first | assumption | exact Below.then (by assumption) (by assumption)
        clear hK K
        try simp only [Act.put, List.setIfInBounds_toArray, List.set_cons_zero, List.set_cons_succ]
        refine wpAnyH_ready (rs := [6]) (by kernel_rfl) (by simp) ?_
        refine AllReadyH.cons (o := { dst := some 32, op := Go.Op.call { callee := Go.Callee.value (Go.Operand.func 28), args := #[Go.Operand.tmp 27, Go.Operand.tmp 29, Go.Operand.tmp 30, Go.Operand.tmp 31], argTypes := #[3, 48, 3, 3] }, type := 3, pos := "moebius.go:21", after := #[{ on := 1, ground := Go.Ground.data }, { on := 3, ground := Go.Ground.data }, { on := 4, ground := Go.Ground.data }, { on := 5, ground := Go.Ground.data }, { on := 3, ground := Go.Ground.chain }], guard := none }) rfl (fun K hK => ?_) AllReadyH.nil
        go_simp
        refine (mu_any x y (by omega) hx hy (rk_ord h10 HG.out HO.out) ent_pb (clo_pb h10 HG.out (hc8 rfl))).mono ?_
        rintro e w9 ⟨rfl, hb9⟩
        refine hK.out _ _ ?_ (fun hHeld => ?_)
        · first | assumption | exact Below.then (by assumption) (by assumption)
        clear hK K
        try simp only [Act.put, List.setIfInBounds_toArray, List.set_cons_zero, List.set_cons_succ]
        refine wpAnyH_take (i := 7) (oi := { dst := some 6, op := Go.Op.assign (Go.Operand.tmp 32), type := 3, pos := "moebius.go:21", after := #[{ on := 6, ground := Go.Ground.data }, { on := 6, ground := Go.Ground.chain }, { on := 0, ground := Go.Ground.phase }, { on := 1, ground := Go.Ground.phase }, { on := 2, ground := Go.Ground.phase }, { on := 3, ground := Go.Ground.phase }, { on := 4, ground := Go.Ground.phase }, { on := 5, ground := Go.Ground.phase }, { on := 6, ground := Go.Ground.phase }], guard := none }) (v := ?_) rfl (by kernel_rfl) (by kernel_rfl) (by kernel_rfl) (fun _ _ _ h => h) (Or.inl ⟨by rfl, ?hy⟩) (by assumption) ?_
        case hy => (intro w9 hSw; (try dsimp only at hSw); go_simp; try with_reducible rfl)
        try simp only [Act.put, List.setIfInBounds_toArray, List.set_cons_zero, List.set_cons_succ]
        refine wpAnyH_take (i := 8) (oi := { dst := some 7, op := Go.Op.assign (Go.Operand.const (Go.Value.int Go.IntKind.i64 0)), type := 26, pos := "moebius.go:21", after := #[{ on := 7, ground := Go.Ground.chain }, { on := 0, ground := Go.Ground.phase }, { on := 1, ground := Go.Ground.phase }, { on := 2, ground := Go.Ground.phase }, { on := 3, ground := Go.Ground.phase }, { on := 4, ground := Go.Ground.phase }, { on := 5, ground := Go.Ground.phase }, { on := 6, ground := Go.Ground.phase }, { on := 7, ground := Go.Ground.phase }], guard := none }) (v := ?_) rfl (by kernel_rfl) (by kernel_rfl) (by kernel_rfl) (fun _ _ _ h => h) (Or.inl ⟨by rfl, ?hy⟩) (by assumption) ?_
        case hy => (intro w9 hSw; (try dsimp only at hSw); go_simp; try with_reducible rfl)
        try simp only [Act.put, List.setIfInBounds_toArray, List.set_cons_zero, List.set_cons_succ]
        refine wpAnyH_done (by kernel_rfl) ?_ _
        try simp only [Act.put, List.setIfInBounds_toArray, List.set_cons_zero, List.set_cons_succ]
        have HB9 : Hid (Below w.heap.size w _) := Below.then HB1.out hHeld
        clear hHeld
        go_wp2_with fail
        go_ret2
        exact ⟨⟨0, _, HK.out, rfl, .inr ⟨rfl, x, y, rfl, rfl, hx, hy, rfl⟩⟩, HB9.out⟩
  · have hne : (c != 0) = true := by simpa using h0
    go_wp2_with fail
    go_ret2
    exact ⟨⟨c, _, .inl ⟨h0, HC.out⟩, rfl, .inl ⟨h0, rfl⟩⟩, HB1.out⟩
end Go.Proofs.YtncjlfhgenmheabDoor
