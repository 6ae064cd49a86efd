/-
  What slices.SortFunc does to a slice of the caller's own: it rises by what the closure compares, and holds the same numbers. Conditions: at most ten numbers, in a slice that begins at its block's head; the closure compares by κ.
-/
import Derived.Deep.RegionHeld3
import Derived.Test.YtglkjeidkjkdaaaDoorFFour
import Derived.Test.YtglkjeidkjkdaaaDoorMemN
namespace Go.Proofs.YtglkjeidkjkdaaaDoor
set_option maxRecDepth 100000
open Go.RowKit

/-- It rises up to n. -/
def Ris (κ h : Nat → Nat) (n : Nat) : Prop := ∀ p q, p < q → q < n → κ (h p) ≤ κ (h q)
/-- A number is among the first n. -/
def Mem (h : Nat → Nat) (n v : Nat) : Prop := ∃ k, k < n ∧ h k = v
/-- It rises up to k, but for what stands at m. -/
def RisBut (κ h : Nat → Nat) (k m : Nat) : Prop := ∀ p q, p < q → q ≤ k → q ≠ m → κ (h p) ≤ κ (h q)
/-- Two neighbours, turned. -/
def swp (h : Nat → Nat) (q : Nat) : Nat → Nat := upd (upd h (q + 1) (h q)) q (h (q + 1))
theorem swp_l (h : Nat → Nat) (q : Nat) : swp h q q = h (q + 1) := by simp [swp, upd]
theorem swp_r (h : Nat → Nat) (q : Nat) : swp h q (q + 1) = h q := by simp [swp, upd]
theorem swp_o (h : Nat → Nat) (q j : Nat) (h1 : j ≠ q) (h2 : j ≠ q + 1) : swp h q j = h j := by simp [swp, upd, h1, h2]
theorem risBut_start {κ h : Nat → Nat} {k : Nat} (hr : Ris κ h k) : RisBut κ h k k := fun p q hp hq hn => hr p q hp (by omega)
theorem risBut_swp {κ h : Nat → Nat} {k q : Nat} (hr : RisBut κ h k (q + 1)) (hlt : κ (h (q + 1)) < κ (h q)) (hq : q + 1 ≤ k) : RisBut κ (swp h q) k q := by
  intro p r hp hrk hn
  by_cases e1 : r = q + 1
  · subst e1
    rw [swp_r]
    by_cases e2 : p = q
    · subst e2; rw [swp_l]; omega
    · rw [swp_o h q p e2 (by omega)]; exact hr p q (by omega) (by omega) (by omega)
  · rw [swp_o h q r hn e1]
    by_cases e2 : p = q
    · subst e2; rw [swp_l]; exact hr (p + 1) r (by omega) hrk e1
    · by_cases e3 : p = q + 1
      · subst e3; rw [swp_r]; exact hr q r (by omega) hrk e1
      · rw [swp_o h q p e2 e3]; exact hr p r hp hrk e1
theorem risBut_end {κ h : Nat → Nat} {k m : Nat} (hr : RisBut κ h k m) (he : m = 0 ∨ κ (h (m - 1)) ≤ κ (h m)) : Ris κ h (k + 1) := by
  intro p q hp hq
  by_cases e : q = m
  · subst e
    rcases he with he | he
    · omega
    · by_cases e2 : p = q - 1
      · subst e2; exact he
      · exact Nat.le_trans (hr p (q - 1) (by omega) (by omega) (by omega)) he
  · exact hr p q hp (by omega) e
theorem mem_swp {h : Nat → Nat} {n q : Nat} (hq : q + 1 < n) (v : Nat) : Mem (swp h q) n v ↔ Mem h n v := by
  constructor
  · rintro ⟨k, hk, rfl⟩
    by_cases e1 : k = q
    · subst e1; exact ⟨k + 1, hq, (swp_l h k).symm⟩
    · by_cases e2 : k = q + 1
      · subst e2; exact ⟨q, by omega, (swp_r h q).symm⟩
      · exact ⟨k, hk, (swp_o h q k e1 e2).symm⟩
  · rintro ⟨k, hk, rfl⟩
    by_cases e1 : k = q
    · subst e1; exact ⟨k + 1, hq, swp_r h k⟩
    · by_cases e2 : k = q + 1
      · subst e2; exact ⟨q, by omega, swp_l h q⟩
      · exact ⟨k, hk, swp_o h q k e1 e2⟩

/-- Each once. -/
def InjT (h : Nat → Nat) (n : Nat) : Prop := ∀ p q, p < n → q < n → h p = h q → p = q
theorem inj_swp {h : Nat → Nat} {n q : Nat} (hq : q + 1 < n) (hi : InjT h n) : InjT (swp h q) n := by
  have e : ∀ p, ∃ p', swp h q p = h p' ∧ (p < n → p' < n) ∧ (p = q → p' = q + 1) ∧ (p = q + 1 → p' = q) ∧ (p ≠ q → p ≠ q + 1 → p' = p) := fun p => by
    by_cases e1 : p = q
    · subst e1; exact ⟨p + 1, swp_l h p, fun _ => hq, fun _ => rfl, fun k => by omega, fun k => absurd rfl k⟩
    · by_cases e2 : p = q + 1
      · subst e2; exact ⟨q, swp_r h q, fun _ => by omega, fun k => absurd k e1, fun _ => rfl, fun _ k => absurd rfl k⟩
      · exact ⟨p, swp_o h q p e1 e2, fun k => k, fun k => absurd k e1, fun k => absurd k e2, fun _ _ => rfl⟩
  intro p r hp hr hh
  obtain ⟨p', a1, a2, a3, a4, a5⟩ := e p
  obtain ⟨r', b1, b2, b3, b4, b5⟩ := e r
  rw [a1, b1] at hh
  have := hi p' r' (a2 hp) (b2 hr) hh
  by_cases c1 : p = q
  · have := a3 c1
    by_cases c2 : r = q
    · omega
    · by_cases c3 : r = q + 1
      · have := b4 c3; omega
      · have := b5 c2 c3; omega
  · by_cases c1' : p = q + 1
    · have := a4 c1'
      by_cases c2 : r = q
      · have := b3 c2; omega
      · by_cases c3 : r = q + 1
        · omega
        · have := b5 c2 c3; omega
    · have := a5 c1 c1'
      by_cases c2 : r = q
      · have := b3 c2; omega
      · by_cases c3 : r = q + 1
        · have := b4 c3; omega
        · have := b5 c2 c3; omega
/-- A closure that compares numbers by κ. -/
def CloC (F : Nat) (caps : Array Value) (κ : Nat → Nat) (Q : Nat → Prop) (w0 : World) : Prop :=
  ∀ x y : Nat, Q x → Q y → ∀ W : World, Below w0.heap.size w0 W → Calls Tryd.prog F (#[.int .i64 (x : Nat), .int .i64 (y : Nat)] ++ caps) W fun e w' => (∃ c : Int, e = .returned (.int .i64 c) ∧ (c < 0 ↔ κ x < κ y)) ∧ Below W.heap.size W w'

set_option maxHeartbeats 2000000 in
theorem insertion_any (a : Option Addr) (b n cap : Nat) (g : Nat → Nat) (κ : Nat → Nat) (F : Nat) (caps : Array Value) (w0 w : World) (hn : n ≤ 10) (hF : Ent F) (hcl : CloC F caps κ (Mem g n) w0) (hI : InjT g n) (ha : 0 < n → a = some ⟨b, 0, none⟩) (hO : Own w b n g) (hB : Below w0.heap.size w0 w) (hb : w0.heap.size ≤ b) :
    Calls Tryd.prog 87 #[.slice a n cap, .int .i64 0, .int .i64 n, .func (.func F) #[] caps] w fun e w' => (∃ v, e = .returned v) ∧ ∃ h, Own w' b n h ∧ InjT h n ∧ Ris κ h n ∧ (∀ v, Mem h n v ↔ Mem g n v) ∧ Below w0.heap.size w0 w' := by
  go_enter Tryd.func87, Tryd.ntmps87
  go_wp2_with fail
  have HS0 : Hid (∃ h, Own w b n h ∧ InjT h n ∧ Ris κ h 1 ∧ (∀ v, Mem h n v ↔ Mem g n v) ∧ Below w0.heap.size w0 w) := ⟨g, hO, hI, fun p q hp hq => by omega, fun _ => Iff.rfl, hB⟩
  have HCL : Hid (CloC F caps κ (Mem g n) w0) := hcl
  clear hO hB hcl hI
  go_loopw [8] (fun i wx => ∃ k : Nat, 1 ≤ k ∧ k ≤ n + 1 ∧ i = .int .i64 k ∧ Hid (∃ h, Own wx b n h ∧ InjT h n ∧ Ris κ h k ∧ (∀ v, Mem h n v ↔ Mem g n v) ∧ Below w0.heap.size w0 wx)) (fun i _ => n + 1 - (intOf i).toNat)
  case atStart => exact ⟨1, Nat.le_refl _, by omega, by go_num, HS0.out⟩
  case round =>
    clear HS0
    obtain ⟨k, hk1, hk, rfl, HS⟩ := hrel
    by_cases hlt : k < n
    · have hlt' : (k : Int) < (n : Int) := by omega
      go_wp2_with fail
      have HI0 : Hid (∃ h, Own wr b n h ∧ InjT h n ∧ RisBut κ h k k ∧ (∀ v, Mem h n v ↔ Mem g n v) ∧ Below w0.heap.size w0 wr) := by
        obtain ⟨h, h1, hi, h2, h3, h4⟩ := HS.out
        exact ⟨h, h1, hi, risBut_start h2, h3, h4⟩
      clear HS
      obtain rfl := ha (by omega)
      go_loopw [9] (fun j wx => ∃ m : Nat, m ≤ k ∧ j = .int .i64 m ∧ Hid (∃ h, Own wx b n h ∧ InjT h n ∧ RisBut κ h k m ∧ (∀ v, Mem h n v ↔ Mem g n v) ∧ Below w0.heap.size w0 wx)) (fun j _ => (intOf j).toNat)
      case atStart => exact ⟨k, Nat.le_refl _, rfl, HI0.out⟩
      case round =>
        clear HI0
        obtain ⟨m, hm, rfl, HI⟩ := hrel
        obtain ⟨h, hO, hii, hr, hM, hB⟩ := HI.out
        clear HI
        have HO : Hid (Own wr b n h) := hO
        have HBd : Hid (Below w0.heap.size w0 wr.drew) := hB.drew
        have HR : Hid (RisBut κ h k m) := hr
        have HII : Hid (InjT h n) := hii
        have HM : Hid (∀ v, Mem h n v ↔ Mem g n v) := hM
        clear hO hB hr hM hii
        rcases m with _ | q
        · have HE : Hid (Ris κ h (k + 1)) := risBut_end HR.out (.inl rfl)
          clear HR
          go_wp2_with fail
          refine wp_region_held_drew (S := (fun w' => Hid (Own w' b n h) ∧ Hid (Below w0.heap.size w0 w'))) (by kernel_rfl) (⟨HO, HBd⟩) (fun hHeld => ?_)
          refine wpAnyH_take (i := 0) (oi := { dst := some 18, op := Go.Op.move (Go.Operand.tmp 9), type := 3, pos := "zsortanyfunc.go:12", after := #[], guard := none }) (v := ?_) rfl (by kernel_rfl) (by kernel_rfl) (by kernel_rfl) (fun _ _ _ h => h) (Or.inl ⟨by rfl, ?hy⟩) (by assumption) ?_
          case hy => (intro w9 hSw; (try dsimp only at hSw); go_simp; try with_reducible rfl)
          try simp only [Act.put, List.setIfInBounds_toArray, List.set_cons_zero, List.set_cons_succ]
          refine wpAnyH_take (i := 1) (oi := { dst := some 19, op := Go.Op.move (Go.Operand.tmp 1), type := 3, pos := "zsortanyfunc.go:12", after := #[], guard := none }) (v := ?_) rfl (by kernel_rfl) (by kernel_rfl) (by kernel_rfl) (fun _ _ _ h => h) (Or.inl ⟨by rfl, ?hy⟩) (by assumption) ?_
          case hy => (intro w9 hSw; (try dsimp only at hSw); go_simp; try with_reducible rfl)
          try simp only [Act.put, List.setIfInBounds_toArray, List.set_cons_zero, List.set_cons_succ]
          refine wpAnyH_take (i := 2) (oi := { dst := some 20, op := Go.Op.binOp Go.BinOp.gtr 3 (Go.Operand.tmp 18) (Go.Operand.tmp 19) 3, type := 4, pos := "zsortanyfunc.go:12", after := #[{ on := 0, ground := Go.Ground.data }, { on := 1, ground := Go.Ground.data }], guard := none }) (v := .bool false) rfl (by kernel_rfl) (by kernel_rfl) (by kernel_rfl) (fun _ _ _ h => h) (Or.inl ⟨by rfl, ?hy⟩) (by assumption) ?_
          case hy => (intro w9 hSw; (try dsimp only at hSw); go_simp <;> (first | with_reducible rfl | (simp; omega) | omega))
          try simp only [Act.put, List.setIfInBounds_toArray, List.set_cons_zero, List.set_cons_succ]
          refine wpAnyH_take (i := 3) (oi := { dst := some 21, op := Go.Op.move (Go.Operand.tmp 20), type := 4, pos := "zsortanyfunc.go:12", after := #[{ on := 2, ground := Go.Ground.data }], guard := none }) (v := ?_) rfl (by kernel_rfl) (by kernel_rfl) (by kernel_rfl) (fun _ _ _ h => h) (Or.inl ⟨by rfl, ?hy⟩) (by assumption) ?_
          case hy => (intro w9 hSw; (try dsimp only at hSw); go_simp; try with_reducible rfl)
          try simp only [Act.put, List.setIfInBounds_toArray, List.set_cons_zero, List.set_cons_succ]
          refine wpAnyH_take (i := 4) (oi := { dst := some 22, op := Go.Op.move (Go.Operand.tmp 3), type := 58, pos := "zsortanyfunc.go:12", after := #[{ on := 3, ground := Go.Ground.guard }], guard := some (3, true) }) (v := undef) rfl (by kernel_rfl) (by kernel_rfl) (by kernel_rfl) (fun _ _ _ h => h) (Or.inr ⟨by rfl, rfl⟩) (by assumption) ?_
          try simp only [Act.put, List.setIfInBounds_toArray, List.set_cons_zero, List.set_cons_succ]
          refine wpAnyH_take (i := 5) (oi := { dst := some 23, op := Go.Op.move (Go.Operand.tmp 0), type := 22, pos := "zsortanyfunc.go:12", after := #[{ on := 3, ground := Go.Ground.guard }], guard := some (3, true) }) (v := undef) rfl (by kernel_rfl) (by kernel_rfl) (by kernel_rfl) (fun _ _ _ h => h) (Or.inr ⟨by rfl, rfl⟩) (by assumption) ?_
          try simp only [Act.put, List.setIfInBounds_toArray, List.set_cons_zero, List.set_cons_succ]
          refine wpAnyH_take (i := 6) (oi := { dst := some 24, op := Go.Op.move (Go.Operand.tmp 9), type := 3, pos := "zsortanyfunc.go:12", after := #[{ on := 3, ground := Go.Ground.guard }], guard := some (3, true) }) (v := undef) rfl (by kernel_rfl) (by kernel_rfl) (by kernel_rfl) (fun _ _ _ h => h) (Or.inr ⟨by rfl, rfl⟩) (by assumption) ?_
          try simp only [Act.put, List.setIfInBounds_toArray, List.set_cons_zero, List.set_cons_succ]
          refine wpAnyH_take (i := 7) (oi := { dst := some 25, op := Go.Op.indexAddr 22 (Go.Operand.tmp 23) (Go.Operand.tmp 24), type := 0, pos := "zsortanyfunc.go:12", after := #[{ on := 5, ground := Go.Ground.data }, { on := 6, ground := Go.Ground.data }, { on := 3, ground := Go.Ground.guard }], guard := some (3, true) }) (v := undef) rfl (by kernel_rfl) (by kernel_rfl) (by kernel_rfl) (fun _ _ _ h => h) (Or.inr ⟨by rfl, rfl⟩) (by assumption) ?_
          try simp only [Act.put, List.setIfInBounds_toArray, List.set_cons_zero, List.set_cons_succ]
          refine wpAnyH_take (i := 8) (oi := { dst := some 26, op := Go.Op.load 3 (Go.Operand.tmp 25), type := 3, pos := "zsortanyfunc.go:12", after := #[{ on := 7, ground := Go.Ground.data }, { on := 3, ground := Go.Ground.guard }], guard := some (3, true) }) (v := undef) rfl (by kernel_rfl) (by kernel_rfl) (by kernel_rfl) (fun _ _ _ h => h) (Or.inr ⟨by rfl, rfl⟩) (by assumption) ?_
          try simp only [Act.put, List.setIfInBounds_toArray, List.set_cons_zero, List.set_cons_succ]
          refine wpAnyH_take (i := 9) (oi := { dst := some 27, op := Go.Op.move (Go.Operand.tmp 0), type := 22, pos := "zsortanyfunc.go:12", after := #[{ on := 3, ground := Go.Ground.guard }], guard := some (3, true) }) (v := undef) rfl (by kernel_rfl) (by kernel_rfl) (by kernel_rfl) (fun _ _ _ h => h) (Or.inr ⟨by rfl, rfl⟩) (by assumption) ?_
          try simp only [Act.put, List.setIfInBounds_toArray, List.set_cons_zero, List.set_cons_succ]
          refine wpAnyH_take (i := 10) (oi := { dst := some 28, op := Go.Op.move (Go.Operand.tmp 9), type := 3, pos := "zsortanyfunc.go:12", after := #[{ on := 3, ground := Go.Ground.guard }], guard := some (3, true) }) (v := undef) rfl (by kernel_rfl) (by kernel_rfl) (by kernel_rfl) (fun _ _ _ h => h) (Or.inr ⟨by rfl, rfl⟩) (by assumption) ?_
          try simp only [Act.put, List.setIfInBounds_toArray, List.set_cons_zero, List.set_cons_succ]
          refine wpAnyH_take (i := 11) (oi := { dst := some 29, op := Go.Op.binOp Go.BinOp.sub 3 (Go.Operand.tmp 28) (Go.Operand.const (Go.Value.int Go.IntKind.i64 1)) 3, type := 3, pos := "zsortanyfunc.go:12", after := #[{ on := 10, ground := Go.Ground.data }, { on := 3, ground := Go.Ground.guard }], guard := some (3, true) }) (v := undef) rfl (by kernel_rfl) (by kernel_rfl) (by kernel_rfl) (fun _ _ _ h => h) (Or.inr ⟨by rfl, rfl⟩) (by assumption) ?_
          try simp only [Act.put, List.setIfInBounds_toArray, List.set_cons_zero, List.set_cons_succ]
          refine wpAnyH_take (i := 12) (oi := { dst := some 30, op := Go.Op.indexAddr 22 (Go.Operand.tmp 27) (Go.Operand.tmp 29), type := 0, pos := "zsortanyfunc.go:12", after := #[{ on := 9, ground := Go.Ground.data }, { on := 11, ground := Go.Ground.data }, { on := 3, ground := Go.Ground.guard }], guard := some (3, true) }) (v := undef) rfl (by kernel_rfl) (by kernel_rfl) (by kernel_rfl) (fun _ _ _ h => h) (Or.inr ⟨by rfl, rfl⟩) (by assumption) ?_
          try simp only [Act.put, List.setIfInBounds_toArray, List.set_cons_zero, List.set_cons_succ]
          refine wpAnyH_take (i := 13) (oi := { dst := some 31, op := Go.Op.load 3 (Go.Operand.tmp 30), type := 3, pos := "zsortanyfunc.go:12", after := #[{ on := 12, ground := Go.Ground.data }, { on := 3, ground := Go.Ground.guard }], guard := some (3, true) }) (v := undef) rfl (by kernel_rfl) (by kernel_rfl) (by kernel_rfl) (fun _ _ _ h => h) (Or.inr ⟨by rfl, rfl⟩) (by assumption) ?_
          try simp only [Act.put, List.setIfInBounds_toArray, List.set_cons_zero, List.set_cons_succ]
          refine wpAnyH_take (i := 14) (oi := { dst := some 32, op := Go.Op.call { callee := Go.Callee.value (Go.Operand.tmp 22), args := #[Go.Operand.tmp 26, Go.Operand.tmp 31], argTypes := #[3, 3] }, type := 3, pos := "zsortanyfunc.go:12", after := #[{ on := 4, ground := Go.Ground.data }, { on := 8, ground := Go.Ground.data }, { on := 13, ground := Go.Ground.data }, { on := 3, ground := Go.Ground.chain }, { on := 3, ground := Go.Ground.guard }], guard := some (3, true) }) (v := undef) rfl (by kernel_rfl) (by kernel_rfl) (by kernel_rfl) (fun _ _ _ h => h) (Or.inr ⟨by rfl, rfl⟩) (by assumption) ?_
          try simp only [Act.put, List.setIfInBounds_toArray, List.set_cons_zero, List.set_cons_succ]
          refine wpAnyH_take (i := 15) (oi := { dst := some 33, op := Go.Op.binOp Go.BinOp.lss 3 (Go.Operand.tmp 32) (Go.Operand.const (Go.Value.int Go.IntKind.i64 0)) 3, type := 4, pos := "zsortanyfunc.go:12", after := #[{ on := 14, ground := Go.Ground.data }, { on := 3, ground := Go.Ground.guard }], guard := some (3, true) }) (v := undef) rfl (by kernel_rfl) (by kernel_rfl) (by kernel_rfl) (fun _ _ _ h => h) (Or.inr ⟨by rfl, rfl⟩) (by assumption) ?_
          try simp only [Act.put, List.setIfInBounds_toArray, List.set_cons_zero, List.set_cons_succ]
          refine wpAnyH_take (i := 16) (oi := { dst := some 34, op := Go.Op.pick (Go.Operand.tmp 21) (Go.Operand.tmp 33) (Go.Operand.const (Go.Value.bool false)), type := 4, pos := "zsortanyfunc.go:12", after := #[{ on := 3, ground := Go.Ground.data }, { on := 15, ground := Go.Ground.data }], guard := none }) (v := ?_) rfl (by kernel_rfl) (by kernel_rfl) (by kernel_rfl) (fun _ _ _ h => h) (Or.inl ⟨by rfl, ?hy⟩) (by assumption) ?_
          case hy => (intro w9 hSw; (try dsimp only at hSw); go_simp; try with_reducible rfl)
          try simp only [Act.put, List.setIfInBounds_toArray, List.set_cons_zero, List.set_cons_succ]
          refine wpAnyH_done (by kernel_rfl) ?_ _
          try simp only [Act.put, List.setIfInBounds_toArray, List.set_cons_zero, List.set_cons_succ]
          obtain ⟨HO', HB'⟩ := hHeld
          clear HO HBd
          go_wp2_with fail
          go_roundw
          case rel => exact ⟨k + 1, by omega, by omega, by go_num, h, HO'.out, HII.out, HE.out, HM.out, HB'.out⟩
          case measure => simp [intOf]; omega
        · obtain ⟨X, HX⟩ : ∃ X, Hid (h (q + 1) = X) := ⟨_, rfl⟩
          obtain ⟨Y, HY⟩ : ∃ Y, Hid (h q = Y) := ⟨_, rfl⟩
          have c1 : wr.cell? ⟨b, q + 1, none⟩ = some (.int .i64 (X : Nat)) := by rw [← HX.out]; exact (HO.out (q + 1) (by omega)).1
          have c2 : wr.cell? ⟨b, q, none⟩ = some (.int .i64 (Y : Nat)) := by rw [← HY.out]; exact (HO.out q (by omega)).1
          have hq1 : q + 1 < n := by omega
          have hq0 : q < n := by omega
          have hwq : IntKind.i64.wrap (q : Int) = (q : Int) := wrap_i64_small _ (by omega) (by omega)
          have hi1 : (0 : Int) ≤ (q : Int) + 1 := by omega
          have hi2 : (q : Int) + 1 < (n : Int) := by omega
          have hi3 : (q : Int) < (n : Int) := by omega
          have HCC := HCL.out X Y ((HM.out X).1 ⟨q + 1, hq1, HX.out⟩) ((HM.out Y).1 ⟨q, hq0, HY.out⟩)
          have HQC : Hid _ := HCC
          clear HCC
          rcases Nat.lt_or_ge (κ X) (κ Y) with hXY | hXY
          · have hv : κ X < κ Y := hXY
            have HIE : Hid (InjT (swp h q) n) := inj_swp hq1 HII.out
            have HE : Hid (RisBut κ (swp h q) k q) := risBut_swp HR.out (by rw [HX.out, HY.out]; exact hXY) hm
            have HME : Hid (∀ v, Mem (swp h q) n v ↔ Mem g n v) := fun v => (mem_swp hq1 v).trans (HM.out v)
            clear HR HM
            go_wp2_with fail
            refine wp_region_held_drew (S := (fun w' => w'.cell? ⟨b, q + 1, none⟩ = some (.int .i64 (X : Nat)) ∧ w'.cell? ⟨b, q, none⟩ = some (.int .i64 (Y : Nat)) ∧ Hid (Own w' b n h) ∧ Hid (Below w0.heap.size w0 w'))) (by kernel_rfl) (⟨c1, c2, HO, HBd⟩) (fun hHeld => ?_)
            refine wpAnyH_take (i := 0) (oi := { dst := some 18, op := Go.Op.move (Go.Operand.tmp 9), type := 3, pos := "zsortanyfunc.go:12", after := #[], guard := none }) (v := ?_) rfl (by kernel_rfl) (by kernel_rfl) (by kernel_rfl) (fun _ _ _ h => h) (Or.inl ⟨by rfl, ?hy⟩) (by assumption) ?_
            case hy => (intro w9 hSw; (try dsimp only at hSw); go_simp; try with_reducible rfl)
            try simp only [Act.put, List.setIfInBounds_toArray, List.set_cons_zero, List.set_cons_succ]
            refine wpAnyH_take (i := 1) (oi := { dst := some 19, op := Go.Op.move (Go.Operand.tmp 1), type := 3, pos := "zsortanyfunc.go:12", after := #[], guard := none }) (v := ?_) rfl (by kernel_rfl) (by kernel_rfl) (by kernel_rfl) (fun _ _ _ h => h) (Or.inl ⟨by rfl, ?hy⟩) (by assumption) ?_
            case hy => (intro w9 hSw; (try dsimp only at hSw); go_simp; try with_reducible rfl)
            try simp only [Act.put, List.setIfInBounds_toArray, List.set_cons_zero, List.set_cons_succ]
            refine wpAnyH_take (i := 2) (oi := { dst := some 20, op := Go.Op.binOp Go.BinOp.gtr 3 (Go.Operand.tmp 18) (Go.Operand.tmp 19) 3, type := 4, pos := "zsortanyfunc.go:12", after := #[{ on := 0, ground := Go.Ground.data }, { on := 1, ground := Go.Ground.data }], guard := none }) (v := .bool true) rfl (by kernel_rfl) (by kernel_rfl) (by kernel_rfl) (fun _ _ _ h => h) (Or.inl ⟨by rfl, ?hy⟩) (by assumption) ?_
            case hy => (intro w9 hSw; (try dsimp only at hSw); go_simp <;> (first | with_reducible rfl | (simp; omega) | omega))
            try simp only [Act.put, List.setIfInBounds_toArray, List.set_cons_zero, List.set_cons_succ]
            refine wpAnyH_take (i := 3) (oi := { dst := some 21, op := Go.Op.move (Go.Operand.tmp 20), type := 4, pos := "zsortanyfunc.go:12", after := #[{ on := 2, ground := Go.Ground.data }], guard := none }) (v := ?_) rfl (by kernel_rfl) (by kernel_rfl) (by kernel_rfl) (fun _ _ _ h => h) (Or.inl ⟨by rfl, ?hy⟩) (by assumption) ?_
            case hy => (intro w9 hSw; (try dsimp only at hSw); go_simp; try with_reducible rfl)
            try simp only [Act.put, List.setIfInBounds_toArray, List.set_cons_zero, List.set_cons_succ]
            refine wpAnyH_take (i := 4) (oi := { dst := some 22, op := Go.Op.move (Go.Operand.tmp 3), type := 58, pos := "zsortanyfunc.go:12", after := #[{ on := 3, ground := Go.Ground.guard }], guard := some (3, true) }) (v := ?_) rfl (by kernel_rfl) (by kernel_rfl) (by kernel_rfl) (fun _ _ _ h => h) (Or.inl ⟨by rfl, ?hy⟩) (by assumption) ?_
            case hy => (intro w9 hSw; (try dsimp only at hSw); go_simp; try with_reducible rfl)
            try simp only [Act.put, List.setIfInBounds_toArray, List.set_cons_zero, List.set_cons_succ]
            refine wpAnyH_take (i := 5) (oi := { dst := some 23, op := Go.Op.move (Go.Operand.tmp 0), type := 22, pos := "zsortanyfunc.go:12", after := #[{ on := 3, ground := Go.Ground.guard }], guard := some (3, true) }) (v := ?_) rfl (by kernel_rfl) (by kernel_rfl) (by kernel_rfl) (fun _ _ _ h => h) (Or.inl ⟨by rfl, ?hy⟩) (by assumption) ?_
            case hy => (intro w9 hSw; (try dsimp only at hSw); go_simp; try with_reducible rfl)
            try simp only [Act.put, List.setIfInBounds_toArray, List.set_cons_zero, List.set_cons_succ]
            refine wpAnyH_take (i := 6) (oi := { dst := some 24, op := Go.Op.move (Go.Operand.tmp 9), type := 3, pos := "zsortanyfunc.go:12", after := #[{ on := 3, ground := Go.Ground.guard }], guard := some (3, true) }) (v := ?_) rfl (by kernel_rfl) (by kernel_rfl) (by kernel_rfl) (fun _ _ _ h => h) (Or.inl ⟨by rfl, ?hy⟩) (by assumption) ?_
            case hy => (intro w9 hSw; (try dsimp only at hSw); go_simp; try with_reducible rfl)
            try simp only [Act.put, List.setIfInBounds_toArray, List.set_cons_zero, List.set_cons_succ]
            refine wpAnyH_take (i := 7) (oi := { dst := some 25, op := Go.Op.indexAddr 22 (Go.Operand.tmp 23) (Go.Operand.tmp 24), type := 0, pos := "zsortanyfunc.go:12", after := #[{ on := 5, ground := Go.Ground.data }, { on := 6, ground := Go.Ground.data }, { on := 3, ground := Go.Ground.guard }], guard := some (3, true) }) (v := ?_) rfl (by kernel_rfl) (by kernel_rfl) (by kernel_rfl) (fun _ _ _ h => h) (Or.inl ⟨by rfl, ?hy⟩) (by assumption) ?_
            case hy => (intro w9 hSw; (try dsimp only at hSw); go_simp; try with_reducible rfl)
            try simp only [Act.put, List.setIfInBounds_toArray, List.set_cons_zero, List.set_cons_succ]
            refine wpAnyH_take (i := 8) (oi := { dst := some 26, op := Go.Op.load 3 (Go.Operand.tmp 25), type := 3, pos := "zsortanyfunc.go:12", after := #[{ on := 7, ground := Go.Ground.data }, { on := 3, ground := Go.Ground.guard }], guard := some (3, true) }) (v := ?_) rfl (by kernel_rfl) (by kernel_rfl) (by kernel_rfl) (fun _ _ _ h => h) (Or.inl ⟨by rfl, ?hy⟩) (by assumption) ?_
            case hy => (intro w9 hSw; (try dsimp only at hSw); go_simp; try with_reducible rfl)
            try simp only [Act.put, List.setIfInBounds_toArray, List.set_cons_zero, List.set_cons_succ]
            refine wpAnyH_take (i := 9) (oi := { dst := some 27, op := Go.Op.move (Go.Operand.tmp 0), type := 22, pos := "zsortanyfunc.go:12", after := #[{ on := 3, ground := Go.Ground.guard }], guard := some (3, true) }) (v := ?_) rfl (by kernel_rfl) (by kernel_rfl) (by kernel_rfl) (fun _ _ _ h => h) (Or.inl ⟨by rfl, ?hy⟩) (by assumption) ?_
            case hy => (intro w9 hSw; (try dsimp only at hSw); go_simp; try with_reducible rfl)
            try simp only [Act.put, List.setIfInBounds_toArray, List.set_cons_zero, List.set_cons_succ]
            refine wpAnyH_take (i := 10) (oi := { dst := some 28, op := Go.Op.move (Go.Operand.tmp 9), type := 3, pos := "zsortanyfunc.go:12", after := #[{ on := 3, ground := Go.Ground.guard }], guard := some (3, true) }) (v := ?_) rfl (by kernel_rfl) (by kernel_rfl) (by kernel_rfl) (fun _ _ _ h => h) (Or.inl ⟨by rfl, ?hy⟩) (by assumption) ?_
            case hy => (intro w9 hSw; (try dsimp only at hSw); go_simp; try with_reducible rfl)
            try simp only [Act.put, List.setIfInBounds_toArray, List.set_cons_zero, List.set_cons_succ]
            refine wpAnyH_take (i := 11) (oi := { dst := some 29, op := Go.Op.binOp Go.BinOp.sub 3 (Go.Operand.tmp 28) (Go.Operand.const (Go.Value.int Go.IntKind.i64 1)) 3, type := 3, pos := "zsortanyfunc.go:12", after := #[{ on := 10, ground := Go.Ground.data }, { on := 3, ground := Go.Ground.guard }], guard := some (3, true) }) (v := .int .i64 (q : Nat)) rfl (by kernel_rfl) (by kernel_rfl) (by kernel_rfl) (fun _ _ _ h => h) (Or.inl ⟨by rfl, ?hy⟩) (by assumption) ?_
            case hy => (intro w9 hSw; (try dsimp only at hSw); go_simp <;> (first | with_reducible rfl | (simp; omega) | omega))
            try simp only [Act.put, List.setIfInBounds_toArray, List.set_cons_zero, List.set_cons_succ]
            refine wpAnyH_take (i := 12) (oi := { dst := some 30, op := Go.Op.indexAddr 22 (Go.Operand.tmp 27) (Go.Operand.tmp 29), type := 0, pos := "zsortanyfunc.go:12", after := #[{ on := 9, ground := Go.Ground.data }, { on := 11, ground := Go.Ground.data }, { on := 3, ground := Go.Ground.guard }], guard := some (3, true) }) (v := ?_) rfl (by kernel_rfl) (by kernel_rfl) (by kernel_rfl) (fun _ _ _ h => h) (Or.inl ⟨by rfl, ?hy⟩) (by assumption) ?_
            case hy => (intro w9 hSw; (try dsimp only at hSw); go_simp; try with_reducible rfl)
            try simp only [Act.put, List.setIfInBounds_toArray, List.set_cons_zero, List.set_cons_succ]
            refine wpAnyH_take (i := 13) (oi := { dst := some 31, op := Go.Op.load 3 (Go.Operand.tmp 30), type := 3, pos := "zsortanyfunc.go:12", after := #[{ on := 12, ground := Go.Ground.data }, { on := 3, ground := Go.Ground.guard }], guard := some (3, true) }) (v := ?_) rfl (by kernel_rfl) (by kernel_rfl) (by kernel_rfl) (fun _ _ _ h => h) (Or.inl ⟨by rfl, ?hy⟩) (by assumption) ?_
            case hy => (intro w9 hSw; (try dsimp only at hSw); go_simp; try with_reducible rfl)
            try simp only [Act.put, List.setIfInBounds_toArray, List.set_cons_zero, List.set_cons_succ]
            refine wpAnyH_ready (rs := [14]) (by kernel_rfl) (by simp) ?_
            refine AllReadyH.cons (o := { dst := some 32, op := Go.Op.call { callee := Go.Callee.value (Go.Operand.tmp 22), args := #[Go.Operand.tmp 26, Go.Operand.tmp 31], argTypes := #[3, 3] }, type := 3, pos := "zsortanyfunc.go:12", after := #[{ on := 4, ground := Go.Ground.data }, { on := 8, ground := Go.Ground.data }, { on := 13, ground := Go.Ground.data }, { on := 3, ground := Go.Ground.chain }, { on := 3, ground := Go.Ground.guard }], guard := some (3, true) }) rfl (fun K hK => ?_) AllReadyH.nil
            go_simp
            rw [hF, Oper.upon_enter]
            refine (HQC.out _ hHeld.2.2.2.out).mono ?_
            rintro e w1 ⟨⟨c, rfl, hcv⟩, hb1⟩
            have hcx : c < 0 := hcv.2 hv
            clear hcv
            refine hK.out _ _ ?_ (fun hHeld => ?_)
            · exact ⟨cellS hb1 hHeld.1, cellS hb1 hHeld.2.1, hHeld.2.2.1.out.step hb1, Below.then hHeld.2.2.2.out hb1⟩
            clear hK K
            try simp only [Act.put, List.setIfInBounds_toArray, List.set_cons_zero, List.set_cons_succ]
            refine wpAnyH_take (i := 15) (oi := { dst := some 33, op := Go.Op.binOp Go.BinOp.lss 3 (Go.Operand.tmp 32) (Go.Operand.const (Go.Value.int Go.IntKind.i64 0)) 3, type := 4, pos := "zsortanyfunc.go:12", after := #[{ on := 14, ground := Go.Ground.data }, { on := 3, ground := Go.Ground.guard }], guard := some (3, true) }) (v := .bool true) rfl (by kernel_rfl) (by kernel_rfl) (by kernel_rfl) (fun _ _ _ h => h) (Or.inl ⟨by rfl, ?hy⟩) (by assumption) ?_
            case hy => (intro w9 hSw; (try dsimp only at hSw); go_simp <;> (first | with_reducible rfl | (simp; omega) | omega))
            try simp only [Act.put, List.setIfInBounds_toArray, List.set_cons_zero, List.set_cons_succ]
            refine wpAnyH_take (i := 16) (oi := { dst := some 34, op := Go.Op.pick (Go.Operand.tmp 21) (Go.Operand.tmp 33) (Go.Operand.const (Go.Value.bool false)), type := 4, pos := "zsortanyfunc.go:12", after := #[{ on := 3, ground := Go.Ground.data }, { on := 15, ground := Go.Ground.data }], guard := none }) (v := ?_) rfl (by kernel_rfl) (by kernel_rfl) (by kernel_rfl) (fun _ _ _ h => h) (Or.inl ⟨by rfl, ?hy⟩) (by assumption) ?_
            case hy => (intro w9 hSw; (try dsimp only at hSw); go_simp; try with_reducible rfl)
            try simp only [Act.put, List.setIfInBounds_toArray, List.set_cons_zero, List.set_cons_succ]
            refine wpAnyH_done (by kernel_rfl) ?_ _
            try simp only [Act.put, List.setIfInBounds_toArray, List.set_cons_zero, List.set_cons_succ]
            obtain ⟨d1, d2, HO', HB'⟩ := hHeld
            have f1 := (HO'.out (q + 1) hq1).2
            have f2 := (HO'.out q hq0).2
            clear HO HBd c1 c2 hb1 HQC hcx
            go_wp2_with fail
            have hqq : ¬ q = q + 1 := by omega
            have HSs : Hid (Own (((w1.drew).setCell ⟨b, q + 1, none⟩ (.int .i64 (Y : Nat))).setCell ⟨b, q, none⟩ (.int .i64 (X : Nat))) b n (swp h q)) := by
              have := (((HO'.out.drewN 1).set (q + 1) Y hq1).set q X hq0)
              rw [← HX.out, ← HY.out] at this ⊢
              exact this
            have HBS : Hid (Below w0.heap.size w0 (((w1.drew).setCell ⟨b, q + 1, none⟩ (.int .i64 (Y : Nat))).setCell ⟨b, q, none⟩ (.int .i64 (X : Nat)))) :=
              Below.setCell (p := ⟨b, q, none⟩) (Below.setCell (p := ⟨b, q + 1, none⟩) (HB'.out.drew) hb _) hb _
            clear HO' HB' HX HY hv hHeld
            go_region
            go_wp2
            go_roundw
            case rel => exact ⟨q, by omega, by go_num, swp h q, HSs.out, HIE.out, HE.out, HME.out, HBS.out⟩
            case measure => simp [intOf]
          · have hv : ¬ κ X < κ Y := by omega
            have HE : Hid (Ris κ h (k + 1)) := risBut_end HR.out (.inr (by rw [HX.out]; simp only [Nat.add_sub_cancel]; rw [HY.out]; exact hXY))
            clear HR
            go_wp2_with fail
            refine wp_region_held_drew (S := (fun w' => w'.cell? ⟨b, q + 1, none⟩ = some (.int .i64 (X : Nat)) ∧ w'.cell? ⟨b, q, none⟩ = some (.int .i64 (Y : Nat)) ∧ Hid (Own w' b n h) ∧ Hid (Below w0.heap.size w0 w'))) (by kernel_rfl) (⟨c1, c2, HO, HBd⟩) (fun hHeld => ?_)
            refine wpAnyH_take (i := 0) (oi := { dst := some 18, op := Go.Op.move (Go.Operand.tmp 9), type := 3, pos := "zsortanyfunc.go:12", after := #[], guard := none }) (v := ?_) rfl (by kernel_rfl) (by kernel_rfl) (by kernel_rfl) (fun _ _ _ h => h) (Or.inl ⟨by rfl, ?hy⟩) (by assumption) ?_
            case hy => (intro w9 hSw; (try dsimp only at hSw); go_simp; try with_reducible rfl)
            try simp only [Act.put, List.setIfInBounds_toArray, List.set_cons_zero, List.set_cons_succ]
            refine wpAnyH_take (i := 1) (oi := { dst := some 19, op := Go.Op.move (Go.Operand.tmp 1), type := 3, pos := "zsortanyfunc.go:12", after := #[], guard := none }) (v := ?_) rfl (by kernel_rfl) (by kernel_rfl) (by kernel_rfl) (fun _ _ _ h => h) (Or.inl ⟨by rfl, ?hy⟩) (by assumption) ?_
            case hy => (intro w9 hSw; (try dsimp only at hSw); go_simp; try with_reducible rfl)
            try simp only [Act.put, List.setIfInBounds_toArray, List.set_cons_zero, List.set_cons_succ]
            refine wpAnyH_take (i := 2) (oi := { dst := some 20, op := Go.Op.binOp Go.BinOp.gtr 3 (Go.Operand.tmp 18) (Go.Operand.tmp 19) 3, type := 4, pos := "zsortanyfunc.go:12", after := #[{ on := 0, ground := Go.Ground.data }, { on := 1, ground := Go.Ground.data }], guard := none }) (v := .bool true) rfl (by kernel_rfl) (by kernel_rfl) (by kernel_rfl) (fun _ _ _ h => h) (Or.inl ⟨by rfl, ?hy⟩) (by assumption) ?_
            case hy => (intro w9 hSw; (try dsimp only at hSw); go_simp <;> (first | with_reducible rfl | (simp; omega) | omega))
            try simp only [Act.put, List.setIfInBounds_toArray, List.set_cons_zero, List.set_cons_succ]
            refine wpAnyH_take (i := 3) (oi := { dst := some 21, op := Go.Op.move (Go.Operand.tmp 20), type := 4, pos := "zsortanyfunc.go:12", after := #[{ on := 2, ground := Go.Ground.data }], guard := none }) (v := ?_) rfl (by kernel_rfl) (by kernel_rfl) (by kernel_rfl) (fun _ _ _ h => h) (Or.inl ⟨by rfl, ?hy⟩) (by assumption) ?_
            case hy => (intro w9 hSw; (try dsimp only at hSw); go_simp; try with_reducible rfl)
            try simp only [Act.put, List.setIfInBounds_toArray, List.set_cons_zero, List.set_cons_succ]
            refine wpAnyH_take (i := 4) (oi := { dst := some 22, op := Go.Op.move (Go.Operand.tmp 3), type := 58, pos := "zsortanyfunc.go:12", after := #[{ on := 3, ground := Go.Ground.guard }], guard := some (3, true) }) (v := ?_) rfl (by kernel_rfl) (by kernel_rfl) (by kernel_rfl) (fun _ _ _ h => h) (Or.inl ⟨by rfl, ?hy⟩) (by assumption) ?_
            case hy => (intro w9 hSw; (try dsimp only at hSw); go_simp; try with_reducible rfl)
            try simp only [Act.put, List.setIfInBounds_toArray, List.set_cons_zero, List.set_cons_succ]
            refine wpAnyH_take (i := 5) (oi := { dst := some 23, op := Go.Op.move (Go.Operand.tmp 0), type := 22, pos := "zsortanyfunc.go:12", after := #[{ on := 3, ground := Go.Ground.guard }], guard := some (3, true) }) (v := ?_) rfl (by kernel_rfl) (by kernel_rfl) (by kernel_rfl) (fun _ _ _ h => h) (Or.inl ⟨by rfl, ?hy⟩) (by assumption) ?_
            case hy => (intro w9 hSw; (try dsimp only at hSw); go_simp; try with_reducible rfl)
            try simp only [Act.put, List.setIfInBounds_toArray, List.set_cons_zero, List.set_cons_succ]
            refine wpAnyH_take (i := 6) (oi := { dst := some 24, op := Go.Op.move (Go.Operand.tmp 9), type := 3, pos := "zsortanyfunc.go:12", after := #[{ on := 3, ground := Go.Ground.guard }], guard := some (3, true) }) (v := ?_) rfl (by kernel_rfl) (by kernel_rfl) (by kernel_rfl) (fun _ _ _ h => h) (Or.inl ⟨by rfl, ?hy⟩) (by assumption) ?_
            case hy => (intro w9 hSw; (try dsimp only at hSw); go_simp; try with_reducible rfl)
            try simp only [Act.put, List.setIfInBounds_toArray, List.set_cons_zero, List.set_cons_succ]
            refine wpAnyH_take (i := 7) (oi := { dst := some 25, op := Go.Op.indexAddr 22 (Go.Operand.tmp 23) (Go.Operand.tmp 24), type := 0, pos := "zsortanyfunc.go:12", after := #[{ on := 5, ground := Go.Ground.data }, { on := 6, ground := Go.Ground.data }, { on := 3, ground := Go.Ground.guard }], guard := some (3, true) }) (v := ?_) rfl (by kernel_rfl) (by kernel_rfl) (by kernel_rfl) (fun _ _ _ h => h) (Or.inl ⟨by rfl, ?hy⟩) (by assumption) ?_
            case hy => (intro w9 hSw; (try dsimp only at hSw); go_simp; try with_reducible rfl)
            try simp only [Act.put, List.setIfInBounds_toArray, List.set_cons_zero, List.set_cons_succ]
            refine wpAnyH_take (i := 8) (oi := { dst := some 26, op := Go.Op.load 3 (Go.Operand.tmp 25), type := 3, pos := "zsortanyfunc.go:12", after := #[{ on := 7, ground := Go.Ground.data }, { on := 3, ground := Go.Ground.guard }], guard := some (3, true) }) (v := ?_) rfl (by kernel_rfl) (by kernel_rfl) (by kernel_rfl) (fun _ _ _ h => h) (Or.inl ⟨by rfl, ?hy⟩) (by assumption) ?_
            case hy => (intro w9 hSw; (try dsimp only at hSw); go_simp; try with_reducible rfl)
            try simp only [Act.put, List.setIfInBounds_toArray, List.set_cons_zero, List.set_cons_succ]
            refine wpAnyH_take (i := 9) (oi := { dst := some 27, op := Go.Op.move (Go.Operand.tmp 0), type := 22, pos := "zsortanyfunc.go:12", after := #[{ on := 3, ground := Go.Ground.guard }], guard := some (3, true) }) (v := ?_) rfl (by kernel_rfl) (by kernel_rfl) (by kernel_rfl) (fun _ _ _ h => h) (Or.inl ⟨by rfl, ?hy⟩) (by assumption) ?_
            case hy => (intro w9 hSw; (try dsimp only at hSw); go_simp; try with_reducible rfl)
            try simp only [Act.put, List.setIfInBounds_toArray, List.set_cons_zero, List.set_cons_succ]
            refine wpAnyH_take (i := 10) (oi := { dst := some 28, op := Go.Op.move (Go.Operand.tmp 9), type := 3, pos := "zsortanyfunc.go:12", after := #[{ on := 3, ground := Go.Ground.guard }], guard := some (3, true) }) (v := ?_) rfl (by kernel_rfl) (by kernel_rfl) (by kernel_rfl) (fun _ _ _ h => h) (Or.inl ⟨by rfl, ?hy⟩) (by assumption) ?_
            case hy => (intro w9 hSw; (try dsimp only at hSw); go_simp; try with_reducible rfl)
            try simp only [Act.put, List.setIfInBounds_toArray, List.set_cons_zero, List.set_cons_succ]
            refine wpAnyH_take (i := 11) (oi := { dst := some 29, op := Go.Op.binOp Go.BinOp.sub 3 (Go.Operand.tmp 28) (Go.Operand.const (Go.Value.int Go.IntKind.i64 1)) 3, type := 3, pos := "zsortanyfunc.go:12", after := #[{ on := 10, ground := Go.Ground.data }, { on := 3, ground := Go.Ground.guard }], guard := some (3, true) }) (v := .int .i64 (q : Nat)) rfl (by kernel_rfl) (by kernel_rfl) (by kernel_rfl) (fun _ _ _ h => h) (Or.inl ⟨by rfl, ?hy⟩) (by assumption) ?_
            case hy => (intro w9 hSw; (try dsimp only at hSw); go_simp <;> (first | with_reducible rfl | (simp; omega) | omega))
            try simp only [Act.put, List.setIfInBounds_toArray, List.set_cons_zero, List.set_cons_succ]
            refine wpAnyH_take (i := 12) (oi := { dst := some 30, op := Go.Op.indexAddr 22 (Go.Operand.tmp 27) (Go.Operand.tmp 29), type := 0, pos := "zsortanyfunc.go:12", after := #[{ on := 9, ground := Go.Ground.data }, { on := 11, ground := Go.Ground.data }, { on := 3, ground := Go.Ground.guard }], guard := some (3, true) }) (v := ?_) rfl (by kernel_rfl) (by kernel_rfl) (by kernel_rfl) (fun _ _ _ h => h) (Or.inl ⟨by rfl, ?hy⟩) (by assumption) ?_
            case hy => (intro w9 hSw; (try dsimp only at hSw); go_simp; try with_reducible rfl)
            try simp only [Act.put, List.setIfInBounds_toArray, List.set_cons_zero, List.set_cons_succ]
            refine wpAnyH_take (i := 13) (oi := { dst := some 31, op := Go.Op.load 3 (Go.Operand.tmp 30), type := 3, pos := "zsortanyfunc.go:12", after := #[{ on := 12, ground := Go.Ground.data }, { on := 3, ground := Go.Ground.guard }], guard := some (3, true) }) (v := ?_) rfl (by kernel_rfl) (by kernel_rfl) (by kernel_rfl) (fun _ _ _ h => h) (Or.inl ⟨by rfl, ?hy⟩) (by assumption) ?_
            case hy => (intro w9 hSw; (try dsimp only at hSw); go_simp; try with_reducible rfl)
            try simp only [Act.put, List.setIfInBounds_toArray, List.set_cons_zero, List.set_cons_succ]
            refine wpAnyH_ready (rs := [14]) (by kernel_rfl) (by simp) ?_
            refine AllReadyH.cons (o := { dst := some 32, op := Go.Op.call { callee := Go.Callee.value (Go.Operand.tmp 22), args := #[Go.Operand.tmp 26, Go.Operand.tmp 31], argTypes := #[3, 3] }, type := 3, pos := "zsortanyfunc.go:12", after := #[{ on := 4, ground := Go.Ground.data }, { on := 8, ground := Go.Ground.data }, { on := 13, ground := Go.Ground.data }, { on := 3, ground := Go.Ground.chain }, { on := 3, ground := Go.Ground.guard }], guard := some (3, true) }) rfl (fun K hK => ?_) AllReadyH.nil
            go_simp
            rw [hF, Oper.upon_enter]
            refine (HQC.out _ hHeld.2.2.2.out).mono ?_
            rintro e w1 ⟨⟨c, rfl, hcv⟩, hb1⟩
            have hcx : ¬ c < 0 := fun k => hv (hcv.1 k)
            clear hcv
            refine hK.out _ _ ?_ (fun hHeld => ?_)
            · exact ⟨cellS hb1 hHeld.1, cellS hb1 hHeld.2.1, hHeld.2.2.1.out.step hb1, Below.then hHeld.2.2.2.out hb1⟩
            clear hK K
            try simp only [Act.put, List.setIfInBounds_toArray, List.set_cons_zero, List.set_cons_succ]
            refine wpAnyH_take (i := 15) (oi := { dst := some 33, op := Go.Op.binOp Go.BinOp.lss 3 (Go.Operand.tmp 32) (Go.Operand.const (Go.Value.int Go.IntKind.i64 0)) 3, type := 4, pos := "zsortanyfunc.go:12", after := #[{ on := 14, ground := Go.Ground.data }, { on := 3, ground := Go.Ground.guard }], guard := some (3, true) }) (v := .bool false) rfl (by kernel_rfl) (by kernel_rfl) (by kernel_rfl) (fun _ _ _ h => h) (Or.inl ⟨by rfl, ?hy⟩) (by assumption) ?_
            case hy => (intro w9 hSw; (try dsimp only at hSw); go_simp <;> (first | with_reducible rfl | (simp; omega) | omega))
            try simp only [Act.put, List.setIfInBounds_toArray, List.set_cons_zero, List.set_cons_succ]
            refine wpAnyH_take (i := 16) (oi := { dst := some 34, op := Go.Op.pick (Go.Operand.tmp 21) (Go.Operand.tmp 33) (Go.Operand.const (Go.Value.bool false)), type := 4, pos := "zsortanyfunc.go:12", after := #[{ on := 3, ground := Go.Ground.data }, { on := 15, ground := Go.Ground.data }], guard := none }) (v := ?_) rfl (by kernel_rfl) (by kernel_rfl) (by kernel_rfl) (fun _ _ _ h => h) (Or.inl ⟨by rfl, ?hy⟩) (by assumption) ?_
            case hy => (intro w9 hSw; (try dsimp only at hSw); go_simp; try with_reducible rfl)
            try simp only [Act.put, List.setIfInBounds_toArray, List.set_cons_zero, List.set_cons_succ]
            refine wpAnyH_done (by kernel_rfl) ?_ _
            try simp only [Act.put, List.setIfInBounds_toArray, List.set_cons_zero, List.set_cons_succ]
            obtain ⟨d1, d2, HO', HB'⟩ := hHeld
            clear HO HBd c1 c2 d1 d2
            go_wp2_with fail
            go_roundw
            case rel => exact ⟨k + 1, by omega, by omega, by go_num, h, HO'.out, HII.out, HE.out, HM.out, HB'.out⟩
            case measure => simp [intOf]; omega
    · have hge : (n : Int) ≤ (k : Int) := by omega
      have HE : Hid (∃ h, Own wr b n h ∧ InjT h n ∧ Ris κ h n ∧ (∀ v, Mem h n v ↔ Mem g n v) ∧ Below w0.heap.size w0 wr) := by
        obtain ⟨h, h1, hi, h2, h3, h4⟩ := HS.out
        exact ⟨h, h1, hi, fun p q hp hq => h2 p q hp (by omega), h3, h4⟩
      clear HS
      go_wp2_with fail
      go_end0
      exact ⟨⟨_, rfl⟩, HE.out⟩

theorem pdq_any (a : Option Addr) (b n cap : Nat) (l : Int) (g : Nat → Nat) (κ : Nat → Nat) (F : Nat) (caps : Array Value) (w0 w : World) (hn : n ≤ 10) (hF : Ent F) (hcl : CloC F caps κ (Mem g n) w0) (hI : InjT g n) (ha : 0 < n → a = some ⟨b, 0, none⟩) (hO : Own w b n g) (hB : Below w0.heap.size w0 w) (hb : w0.heap.size ≤ b) :
    Calls Tryd.prog 76 #[.slice a n cap, .int .i64 0, .int .i64 n, .int .i64 l, .func (.func F) #[] caps] w fun e w' => (∃ v, e = .returned v) ∧ ∃ h, Own w' b n h ∧ InjT h n ∧ Ris κ h n ∧ (∀ v, Mem h n v ↔ Mem g n v) ∧ Below w0.heap.size w0 w' := by
  have HC := insertion_any a b n cap g κ F caps w0 w hn hF hcl hI ha hO hB hb
  clear hO hB hcl hI
  have h12 : (n : Int) ≤ 12 := by omega
  go_enter Tryd.func76, Tryd.ntmps76
  go_wp2_with fail
  go_loopw [1, 2] (fun x y wx => x = .int .i64 0 ∧ y = .int .i64 (n : Nat) ∧ wx = w) (fun _ _ _ => 0)
  case atStart => exact ⟨rfl, rfl, rfl⟩
  case round =>
    obtain ⟨rfl, rfl, rfl⟩ := hrel
    go_wp2_with (go_at_call 87; refine HC.mono ?_; rintro e w' ⟨⟨v, rfl⟩, HE⟩)
    refine bodyPost_ret (results_none rfl _ _ _) rfl ?_
    exact ⟨⟨_, rfl⟩, HE⟩
set_option maxRecDepth 100000 in
theorem len_any (n : Nat) (w : World) (hn : n ≤ 10) : Calls Tryd.prog 77 #[.int .u64 n] w fun e w' => (∃ l : Int, e = .returned (.int .i64 l)) ∧ w = w' := by
  have h64 : Calls Tryd.prog 96 #[.int .u64 n] w fun e w' => (∃ l : Int, e = .returned (.int .i64 l)) ∧ w = w' := by
    rcases (by omega : n = 0 ∨ n = 1 ∨ n = 2 ∨ n = 3 ∨ n = 4 ∨ n = 5 ∨ n = 6 ∨ n = 7 ∨ n = 8 ∨ n = 9 ∨ n = 10) with rfl | rfl | rfl | rfl | rfl | rfl | rfl | rfl | rfl | rfl | rfl
    all_goals
      go_enter Tryd.func96, Tryd.ntmps96
      go_wp2
      go_ret
      exact ⟨⟨_, rfl⟩, rfl⟩
  go_enter Tryd.func77, Tryd.ntmps77
  go_wp2_with (go_at_call 96; refine h64.mono ?_; rintro e w' ⟨⟨l, rfl⟩, rfl⟩)
  go_ret
  exact ⟨⟨_, rfl⟩, rfl⟩
theorem sortF_any (a : Option Addr) (b n cap : Nat) (g : Nat → Nat) (κ : Nat → Nat) (F : Nat) (caps : Array Value) (w0 w : World) (hn : n ≤ 10) (hF : Ent F) (hcl : CloC F caps κ (Mem g n) w0) (hI : InjT g n) (ha : 0 < n → a = some ⟨b, 0, none⟩) (hO : Own w b n g) (hB : Below w0.heap.size w0 w) (hb : w0.heap.size ≤ b) :
    Calls Tryd.prog 57 #[.slice a n cap, .func (.func F) #[] caps] w fun e w' => (∃ v, e = .returned v) ∧ ∃ h, Own w' b n h ∧ InjT h n ∧ Ris κ h n ∧ (∀ v, Mem h n v ↔ Mem g n v) ∧ Below w0.heap.size w0 w' := by
  have HC := fun l => pdq_any a b n cap l g κ F caps w0 w hn hF hcl hI ha hO hB hb
  clear hO hB hcl hI
  have hu : IntKind.u64.wrap (n : Int) = (n : Int) := by
    unfold IntKind.wrap
    simp [IntKind.bits, IntKind.signed]
    omega
  go_enter Tryd.func57, Tryd.ntmps57
  go_wp2_with (first
    | (go_at_call 77; refine (len_any n _ hn).mono ?_; rintro e w' ⟨⟨l, rfl⟩, rfl⟩)
    | (go_at_call 76; refine (HC _).mono ?_; rintro e w' ⟨⟨v, rfl⟩, HE⟩))
  go_end0
  exact ⟨⟨_, rfl⟩, HE⟩
end Go.Proofs.YtglkjeidkjkdaaaDoor
