/-
  Plain facts on the first three elements of which something is so, and on lattices told by tables. No condition.
  What seek.Three answers, handed a closure: the first three numbers of which it is so. Conditions: at most forty numbers; the closure answers P in each world that leaves the first one as it was, and writes nothing there.
  What lattice.always answers, handed a closure: whether it holds of each three. Conditions: at most forty elements; the closure answers P in each world that leaves the first one as it was.
-/
import Derived.Test.YtappekjkcgmheaaLatM
namespace Go.Proofs.Ytappekjkcgmheaa

/-- Not so of any three that come ahead of x, y, z. -/
def No3 (n : Nat) (P : Nat → Nat → Nat → Bool) (x y z : Nat) : Prop :=
  ∀ a b c, a < n → b < n → c < n → (a < x ∨ (a = x ∧ (b < y ∨ (b = y ∧ c < z)))) → P a b c = false
theorem No3.zero (n : Nat) (P : Nat → Nat → Nat → Bool) : No3 n P 0 0 0 := fun a b c _ _ _ h => by omega
theorem No3.next {n : Nat} {P : Nat → Nat → Nat → Bool} {x y z : Nat} (h : No3 n P x y z) (h1 : P x y z = false) : No3 n P x y (z + 1) := fun a b c ha hb hc k => by
  by_cases e : a = x ∧ b = y ∧ c = z
  · obtain ⟨rfl, rfl, rfl⟩ := e; exact h1
  · exact h a b c ha hb hc (by omega)
theorem No3.y {n : Nat} {P : Nat → Nat → Nat → Bool} {x y : Nat} (h : No3 n P x y n) : No3 n P x (y + 1) 0 := fun a b c ha hb hc k => h a b c ha hb hc (by omega)
theorem No3.x {n : Nat} {P : Nat → Nat → Nat → Bool} {x : Nat} (h : No3 n P x n 0) : No3 n P (x + 1) 0 0 := fun a b c ha hb hc k => h a b c ha hb hc (by omega)
/-- The first three of which it is so; or there are none. -/
def First3 (n : Nat) (P : Nat → Nat → Nat → Bool) (l : List Nat) (ok : Bool) : Prop :=
  (ok = true ∧ ∃ x y z, (x < n ∧ y < n ∧ z < n) ∧ P x y z = true ∧ No3 n P x y z ∧ l = [x, y, z]) ∨ (ok = false ∧ l = [] ∧ ∀ x y z, x < n → y < n → z < n → P x y z = false)
theorem First3.one {n : Nat} {P : Nat → Nat → Nat → Bool} {l l' : List Nat} {ok ok' : Bool} (h : First3 n P l ok) (h' : First3 n P l' ok') : l = l' ∧ ok = ok' := by
  rcases h with ⟨rfl, x, y, z, ⟨hx, hy, hz⟩, hp, hu, rfl⟩ | ⟨rfl, rfl, hu⟩ <;> rcases h' with ⟨rfl, x', y', z', ⟨hx', hy', hz'⟩, hp', hu', rfl⟩ | ⟨rfl, rfl, hu'⟩
  · by_cases h1 : x < x' ∨ (x = x' ∧ (y < y' ∨ (y = y' ∧ z < z')))
    · have := hu' x y z hx hy hz h1; rw [hp] at this; cases this
    · by_cases h2 : x' < x ∨ (x' = x ∧ (y' < y ∨ (y' = y ∧ z' < z)))
      · have := hu x' y' z' hx' hy' hz' h2; rw [hp'] at this; cases this
      · obtain ⟨rfl, rfl, rfl⟩ : x = x' ∧ y = y' ∧ z = z' := by omega
        exact ⟨rfl, rfl⟩
  · have := hu' x y z hx hy hz; rw [hp] at this; cases this
  · have := hu x' y' z' hx' hy' hz'; rw [hp'] at this; cases this
  · exact ⟨rfl, rfl⟩
theorem First3.ok {n : Nat} {P : Nat → Nat → Nat → Bool} {l : List Nat} {ok : Bool} (h : First3 n P l ok) : ok = true ↔ ∃ x y z, x < n ∧ y < n ∧ z < n ∧ P x y z = true := by
  rcases h with ⟨rfl, x, y, z, ⟨hx, hy, hz⟩, hp, _, rfl⟩ | ⟨rfl, rfl, hu⟩
  · exact ⟨fun _ => ⟨x, y, z, hx, hy, hz, hp⟩, fun _ => rfl⟩
  · refine ⟨fun h => (by cases h), ?_⟩
    rintro ⟨x, y, z, hx, hy, hz, hp⟩
    have := hu x y z hx hy hz; rw [hp] at this; cases this
theorem First3.congr {n : Nat} {P Q : Nat → Nat → Nat → Bool} (h : ∀ x y z, x < n → y < n → z < n → P x y z = Q x y z) {l : List Nat} {ok : Bool} (hf : First3 n P l ok) : First3 n Q l ok := by
  rcases hf with ⟨rfl, x, y, z, ⟨hx, hy, hz⟩, hp, hu, rfl⟩ | ⟨rfl, rfl, hu⟩
  · exact .inl ⟨rfl, x, y, z, ⟨hx, hy, hz⟩, (h x y z hx hy hz) ▸ hp, fun a b c ha hb hc k => (h a b c ha hb hc) ▸ hu a b c ha hb hc k, rfl⟩
  · exact .inr ⟨rfl, rfl, fun x y z hx hy hz => (h x y z hx hy hz) ▸ hu x y z hx hy hz⟩
theorem First3.len {n : Nat} {P : Nat → Nat → Nat → Bool} {l : List Nat} {ok : Bool} (h : First3 n P l ok) : l.length ≤ 3 ∧ ((ok == (l.length == 3)) = true) := by
  rcases h with ⟨rfl, x, y, z, _, _, _, rfl⟩ | ⟨rfl, rfl, _⟩ <;> simp

/-- What must be of a table beside the other one. -/
def lawB (m j : Nat → Nat → Nat) (x y z : Nat) : Bool := m x x == x && (m x y == m y x && (m x (m y z) == m (m x y) z && m x (j x y) == x))
def Lws (n : Nat) (m j : Nat → Nat → Nat) : Prop := ∀ x y z, x < n → y < n → z < n → lawB m j x y z = true
theorem Lws.at {n : Nat} {m j : Nat → Nat → Nat} (h : Lws n m j) {x y z : Nat} (hx : x < n) (hy : y < n) (hz : z < n) : m x x = x ∧ m x y = m y x ∧ m x (m y z) = m (m x y) z ∧ m x (j x y) = x := by
  have := h x y z hx hy hz
  simpa [lawB] using this
theorem lws_iff {n : Nat} {m j : Nat → Nat → Nat} : Lws n m j ↔ ∀ x y z, x < n → y < n → z < n → m x x = x ∧ m x y = m y x ∧ m x (m y z) = m (m x y) z ∧ m x (j x y) = x :=
  ⟨fun h _ _ _ hx hy hz => h.at hx hy hz, fun h x y z hx hy hz => by simpa [lawB] using h x y z hx hy hz⟩
/-- All of a table are elements. -/
def Inn (n : Nat) (m : Nat → Nat → Nat) : Prop := ∀ x y, x < n → y < n → m x y < n
/-- A lattice told by its tables. -/
structure Lat (n : Nat) (m j : Nat → Nat → Nat) : Prop where
  im : Inn n m
  ij : Inn n j
  lm : Lws n m j
  lj : Lws n j m
theorem Lat.turn {n : Nat} {m j : Nat → Nat → Nat} (h : Lat n m j) : Lat n j m := ⟨h.ij, h.im, h.lj, h.lm⟩
/-- The same, over the elements alone. -/
def Lat.al {n : Nat} {m j : Nat → Nat → Nat} (h : Lat n m j) : AL (Fin n) where
  m := fun x y => ⟨m x.1 y.1, h.im _ _ x.2 y.2⟩
  j := fun x y => ⟨j x.1 y.1, h.ij _ _ x.2 y.2⟩
  mi := fun x => Fin.ext (h.lm.at x.2 x.2 x.2).1
  ji := fun x => Fin.ext (h.lj.at x.2 x.2 x.2).1
  mc := fun x y => Fin.ext (h.lm.at x.2 y.2 x.2).2.1
  jc := fun x y => Fin.ext (h.lj.at x.2 y.2 x.2).2.1
  ma := fun x y z => Fin.ext (h.lm.at x.2 y.2 z.2).2.2.1
  ja := fun x y z => Fin.ext (h.lj.at x.2 y.2 z.2).2.2.1
  mj := fun x y => Fin.ext (h.lm.at x.2 y.2 x.2).2.2.2
  jm := fun x y => Fin.ext (h.lj.at x.2 y.2 x.2).2.2.2

def modB (m j : Nat → Nat → Nat) (x y z : Nat) : Bool := !(m x z == x) || j x (m y z) == m (j x y) z
def disB (m j : Nat → Nat → Nat) (x y z : Nat) : Bool := m x (j y z) == j (m x y) (m x z)
def penB (m j : Nat → Nat → Nat) (x y z : Nat) : Bool := (!(x == y) && m x y == x) && (m x z == m y z && j x z == j y z)
def diaB (m j : Nat → Nat → Nat) (x y z : Nat) : Bool := !(x == y) && (!(x == z) && (!(y == z) && ((m x y == m x z && m x y == m y z) && (j x y == j x z && j x y == j y z))))
def All3 (n : Nat) (P : Nat → Nat → Nat → Bool) : Prop := ∀ x y z, x < n → y < n → z < n → P x y z = true
def Some3 (n : Nat) (P : Nat → Nat → Nat → Bool) : Prop := ∃ x y z, x < n ∧ y < n ∧ z < n ∧ P x y z = true
theorem Lat.mod {n : Nat} {m j : Nat → Nat → Nat} (h : Lat n m j) : h.al.Mod ↔ All3 n (modB m j) := by
  constructor
  · intro k x y z hx hy hz
    rcases k ⟨x, hx⟩ ⟨y, hy⟩ ⟨z, hz⟩ with k | k
    · have : m x z ≠ x := fun e => k (Fin.ext e)
      simp [modB, this]
    · have := congrArg Fin.val k
      have : j x (m y z) = m (j x y) z := this
      simp [modB, this]
  · intro k x y z
    have := k x.1 y.1 z.1 x.2 y.2 z.2
    simp only [modB, Bool.or_eq_true, Bool.not_eq_true', beq_eq_false_iff_ne, beq_iff_eq] at this
    rcases this with q | q
    · exact .inl fun e => q (congrArg Fin.val e)
    · exact .inr (Fin.ext q)
theorem Lat.dis {n : Nat} {m j : Nat → Nat → Nat} (h : Lat n m j) : h.al.Dis ↔ All3 n (disB m j) := by
  constructor
  · intro k x y z hx hy hz
    have := congrArg Fin.val (k ⟨x, hx⟩ ⟨y, hy⟩ ⟨z, hz⟩)
    exact beq_iff_eq.mpr this
  · intro k x y z
    exact Fin.ext (beq_iff_eq.mp (k x.1 y.1 z.1 x.2 y.2 z.2))
theorem Lat.pen {n : Nat} {m j : Nat → Nat → Nat} (h : Lat n m j) : (∃ x y z, h.al.Pen x y z) ↔ Some3 n (penB m j) := by
  constructor
  · rintro ⟨x, y, z, ⟨h1, h2⟩, h3, h4⟩
    refine ⟨x.1, y.1, z.1, x.2, y.2, z.2, ?_⟩
    have e1 : x.1 ≠ y.1 := fun e => h1 (Fin.ext e)
    have e2 : m x.1 y.1 = x.1 := congrArg Fin.val h2
    have e3 : m x.1 z.1 = m y.1 z.1 := congrArg Fin.val h3
    have e4 : j x.1 z.1 = j y.1 z.1 := congrArg Fin.val h4
    simp [penB, e1, e2, e3, e4]
  · rintro ⟨x, y, z, hx, hy, hz, k⟩
    simp only [penB, Bool.and_eq_true, Bool.not_eq_true', beq_eq_false_iff_ne, beq_iff_eq] at k
    obtain ⟨⟨h1, h2⟩, h3, h4⟩ := k
    exact ⟨⟨x, hx⟩, ⟨y, hy⟩, ⟨z, hz⟩, ⟨fun e => h1 (congrArg Fin.val e), Fin.ext h2⟩, Fin.ext h3, Fin.ext h4⟩
theorem Lat.dia {n : Nat} {m j : Nat → Nat → Nat} (h : Lat n m j) : (∃ x y z, h.al.Dia x y z) ↔ Some3 n (diaB m j) := by
  constructor
  · rintro ⟨x, y, z, h1, h2, h3, ⟨h4, h5⟩, h6, h7⟩
    refine ⟨x.1, y.1, z.1, x.2, y.2, z.2, ?_⟩
    have e1 : x.1 ≠ y.1 := fun e => h1 (Fin.ext e)
    have e2 : x.1 ≠ z.1 := fun e => h2 (Fin.ext e)
    have e3 : y.1 ≠ z.1 := fun e => h3 (Fin.ext e)
    have e4 : m x.1 y.1 = m x.1 z.1 := congrArg Fin.val h4
    have e5 : m x.1 y.1 = m y.1 z.1 := congrArg Fin.val h5
    have e6 : j x.1 y.1 = j x.1 z.1 := congrArg Fin.val h6
    have e7 : j x.1 y.1 = j y.1 z.1 := congrArg Fin.val h7
    simp only [diaB, Bool.and_eq_true, Bool.not_eq_true', beq_eq_false_iff_ne, beq_iff_eq]
    exact ⟨e1, e2, e3, ⟨e4, e5⟩, e6, e7⟩
  · rintro ⟨x, y, z, hx, hy, hz, k⟩
    simp only [diaB, Bool.and_eq_true, Bool.not_eq_true', beq_eq_false_iff_ne, beq_iff_eq] at k
    obtain ⟨h1, h2, h3, ⟨h4, h5⟩, h6, h7⟩ := k
    exact ⟨⟨x, hx⟩, ⟨y, hy⟩, ⟨z, hz⟩, fun e => h1 (congrArg Fin.val e), fun e => h2 (congrArg Fin.val e), fun e => h3 (congrArg Fin.val e), ⟨Fin.ext h4, Fin.ext h5⟩, Fin.ext h6, Fin.ext h7⟩
theorem Lat.dedekind {n : Nat} {m j : Nat → Nat → Nat} (h : Lat n m j) : All3 n (modB m j) ↔ ¬ Some3 n (penB m j) := by
  rw [← h.mod, ← h.pen]; exact h.al.dedekind
theorem Lat.mod_turn {n : Nat} {m j : Nat → Nat → Nat} (h : Lat n m j) : All3 n (modB m j) ↔ All3 n (modB j m) := by
  rw [← h.mod, ← h.turn.mod]; exact h.al.mod_dual
theorem Lat.birkhoff {n : Nat} {m j : Nat → Nat → Nat} (h : Lat n m j) : All3 n (disB m j) ↔ ¬ Some3 n (penB m j) ∧ ¬ Some3 n (diaB m j) := by
  rw [← h.dis, ← h.pen, ← h.dia]; exact h.al.birkhoff
theorem Lat.dis_turn {n : Nat} {m j : Nat → Nat → Nat} (h : Lat n m j) : All3 n (disB m j) ↔ All3 n (disB j m) := by
  rw [← h.dis, ← h.turn.dis]; exact h.al.dis_dual
theorem Lat.dis_mod {n : Nat} {m j : Nat → Nat → Nat} (h : Lat n m j) (k : All3 n (disB m j)) : All3 n (modB m j) :=
  h.mod.mp (h.dis.mpr k).mod
theorem Lat.one {n : Nat} {m j : Nat → Nat → Nat} (h : Lat n m j) (k : All3 n (disB m j)) {x y z : Nat} (hx : x < n) (hy : y < n) (hz : z < n) (e1 : m x y = m x z) (e2 : j x y = j x z) : y = z := by
  have := (h.dis.mpr k).one (x := ⟨x, hx⟩) (y := ⟨y, hy⟩) (z := ⟨z, hz⟩) (Fin.ext e1) (Fin.ext e2)
  exact congrArg Fin.val this
end Go.Proofs.Ytappekjkcgmheaa
namespace Go.Proofs.Ytappekjkcgmheaa
open Go.RowKit

/-- A closure that answers P of three numbers below n, wherever what lay at first still lies. -/
def Clo (n F : Nat) (caps : Array Value) (P : Nat → Nat → Nat → Bool) (w : World) : Prop :=
  ∀ x y z : Nat, x < n → y < n → z < n → ∀ W : World, Below w.heap.size w W → Calls Try.prog F (#[.int .i64 (x : Nat), .int .i64 (y : Nat), .int .i64 (z : Nat)] ++ caps) W fun e w' => e = .returned (.bool (P x y z)) ∧ Below W.heap.size W w'

/-- The number is that of a function with a body. -/
def Ent (F : Nat) : Prop := ∀ (args : Array Value) (w : World), Sem.run Try.prog (callFunc F args) w = .ok (.enter F args) w

theorem row3 (w : World) (a b c : Nat) : NSl (w.alloc (.cells #[.int .i64 (a : Nat), .int .i64 (b : Nat), .int .i64 (c : Nat)] 3)) (.slice (some ⟨w.heap.size, 0, none⟩) 3 3) [a, b, c] := by
  refine ⟨_, 3, rfl, fun k hk => ⟨_, _, rfl, ?_⟩⟩
  simp only [List.length_cons, List.length_nil] at hk
  rcases (by omega : k = 0 ∨ k = 1 ∨ k = 2) with rfl | rfl | rfl <;> simp [nth]

set_option maxHeartbeats 2000000 in
theorem three_any (n F : Nat) (caps : Array Value) (P : Nat → Nat → Nat → Bool) (w : World) (h40 : n ≤ 40) (hF : Ent F) (hcl : Clo n F caps P w) :
    Calls Try.prog 29 #[.int .i64 n, .func (.func F) #[] caps] w fun e w' => (∃ v l ok, e = .returned (.tuple #[v, .bool ok]) ∧ First3 n P l ok ∧ NSl w' v l) ∧ Below w.heap.size w w' := by
  have HCL : Hid (Clo n F caps P w) := hcl
  clear hcl
  go_enter Try.func29, Try.ntmps29
  go_wp2_with fail
  go_loopw [10] (fun i wx => ∃ a : Nat, a ≤ n ∧ i = .int .i64 a ∧ Hid (No3 n P a 0 0) ∧ Hid (Below w.heap.size w wx)) (fun i _ => n - (intOf i).toNat)
  case atStart => exact ⟨0, Nat.zero_le _, rfl, No3.zero n P, Below.refl _ _⟩
  case round =>
    obtain ⟨a, ha, rfl, HU, HW⟩ := hrel
    by_cases hal : a < n
    · go_wp2_with fail
      go_loopw [14] (fun i wx => ∃ b : Nat, b ≤ n ∧ i = .int .i64 b ∧ Hid (No3 n P a b 0) ∧ Hid (Below w.heap.size w wx)) (fun i _ => n - (intOf i).toNat)
      case atStart => exact ⟨0, Nat.zero_le _, rfl, HU.out, HW.out⟩
      case round =>
        clear HU HW
        obtain ⟨b, hb, rfl, HU, HW⟩ := hrel
        by_cases hbl : b < n
        · go_wp2_with fail
          go_loopw [18] (fun i wx => ∃ c : Nat, c ≤ n ∧ i = .int .i64 c ∧ Hid (No3 n P a b c) ∧ Hid (Below w.heap.size w wx)) (fun i _ => n - (intOf i).toNat)
          case atStart => exact ⟨0, Nat.zero_le _, rfl, HU.out, HW.out⟩
          case round =>
            clear HU HW
            obtain ⟨c, hc, rfl, HU, HW⟩ := hrel
            by_cases hcl : c < n
            · have HC := HCL.out a b c hal hbl hcl _ HW.out
              rcases (Bool.eq_false_or_eq_true (P a b c)).symm with hp | hp
              · have HN : Hid (No3 n P a b (c + 1)) := HU.out.next hp
                rw [hp] at HC
                clear HU hp
                go_wp2_with fail
                rw [hF, Oper.upon_enter]
                refine HC.mono ?_
                rintro e w' ⟨rfl, hbw⟩
                have HW2 : Hid (Below w.heap.size w w') := Below.then HW.out hbw
                clear HC hbw HW
                go_wp2_with fail
                go_roundw
                case rel => exact ⟨c + 1, by omega, by go_num, HN.out, HW2.out⟩
                case measure => simp [intOf]; omega
              · have HF : Hid (First3 n P [a, b, c] true) := .inl ⟨rfl, a, b, c, ⟨hal, hbl, hcl⟩, hp, HU.out, rfl⟩
                rw [hp] at HC
                clear HU hp
                go_wp2_with fail
                rw [hF, Oper.upon_enter]
                refine HC.mono ?_
                rintro e w' ⟨rfl, hbw⟩
                have HW2 : Hid (Below w.heap.size w w') := Below.then HW.out hbw
                have hsz := HW2.out.size
                clear HC hbw HW
                have HN3 := (show Hid _ from row3 w' a b c)
                have HB3 : Hid (Below w.heap.size w (w'.alloc (.cells #[.int .i64 (a : Nat), .int .i64 (b : Nat), .int .i64 (c : Nat)] 3))) := HW2.out.alloc hsz _
                clear hsz
                go_wp2_with fail
                go_ret2
                exact ⟨⟨_, _, _, rfl, HF.out, HN3.out⟩, HB3.out⟩
            · obtain rfl : c = n := by omega
              have HN : Hid (No3 c P a (b + 1) 0) := HU.out.y
              clear HU
              go_wp2_with fail
              go_roundw
              case rel => exact ⟨b + 1, by omega, by go_num, HN.out, HW.out⟩
              case measure => simp [intOf]; omega
        · obtain rfl : b = n := by omega
          have HN : Hid (No3 b P (a + 1) 0 0) := HU.out.x
          clear HU
          go_wp2_with fail
          go_roundw
          case rel => exact ⟨a + 1, by omega, by go_num, HN.out, HW.out⟩
          case measure => simp [intOf]; omega
    · obtain rfl : a = n := by omega
      have HF : Hid (First3 a P [] false) := .inr ⟨rfl, rfl, fun x y z hx hy hz => HU.out x y z hx hy hz (.inl hx)⟩
      clear HU
      go_wp2_with fail
      go_ret2
      exact ⟨⟨_, _, _, rfl, HF.out, none, 0, rfl, fun k hk => absurd hk (Nat.not_lt_zero _)⟩, HW.out⟩
end Go.Proofs.Ytappekjkcgmheaa
namespace Go.Proofs.Ytappekjkcgmheaa
open Go.RowKit

theorem Clo.step {n F : Nat} {caps : Array Value} {P : Nat → Nat → Nat → Bool} {w W : World} (h : Clo n F caps P w) (hb : Below w.heap.size w W) : Clo n F caps P W :=
  fun x y z hx hy hz W' hW => h x y z hx hy hz W' (Below.then hb hW)

theorem ent_always1 : Ent 74 := fun _ _ => rfl

theorem always1_any (n F c : Nat) (caps : Array Value) (P : Nat → Nat → Nat → Bool) (w : World) (hF : Ent F) (hcl : Clo n F caps P w) (hc : w.cell? ⟨c, 0, none⟩ = some (.func (.func F) #[] caps)) :
    Clo n 74 #[.pointer (some ⟨c, 0, none⟩)] (fun x y z => !P x y z) w := fun x y z hx hy hz W hW => by
  have hcW : W.cell? ⟨c, 0, none⟩ = some (.func (.func F) #[] caps) := (hW.cell (World.block_lt_of_cell? _ _ hc)).trans hc
  have HC := hcl x y z hx hy hz W hW
  have HB : Hid (Below w.heap.size w W) := hW
  show Calls Try.prog 74 #[.int .i64 (x : Nat), .int .i64 (y : Nat), .int .i64 (z : Nat), .pointer (some ⟨c, 0, none⟩)] W _
  clear hcl hc hW
  go_enter Try.func74, Try.ntmps74
  go_wp2_with fail
  rw [hF, Oper.upon_enter]
  refine HC.mono ?_
  rintro e w' ⟨rfl, hbw⟩
  have HW2 : Hid (Below W.heap.size W w') := hbw
  clear HC hbw
  go_wp2_with fail
  go_ret
  exact ⟨rfl, HW2.out⟩

set_option maxHeartbeats 1000000 in
theorem always_any (n F : Nat) (caps : Array Value) (P : Nat → Nat → Nat → Bool) (w : World) (h40 : n ≤ 40) (hF : Ent F) (hcl : Clo n F caps P w) :
    Calls Try.prog 61 #[.int .i64 n, .func (.func F) #[] caps] w fun e w' => (∃ b, e = .returned (.bool b) ∧ (b = true ↔ All3 n P)) ∧ Below w.heap.size w w' := by
  have HB0 : Hid (Below w.heap.size w (w.alloc (.cells #[.func (.func F) #[] caps] 55))) := (Below.refl _ _).alloc (Nat.le_refl _) _
  have hc : (w.alloc (.cells #[.func (.func F) #[] caps] 55)).cell? ⟨w.heap.size, 0, none⟩ = some (.func (.func F) #[] caps) := by simp
  have HQ := (show Hid _ from always1_any n F w.heap.size caps P _ hF (hcl.step HB0.out) hc)
  clear hcl hc
  go_enter Try.func61, Try.ntmps61
  go_wp2_with fail
  refine (three_any n 74 _ _ _ h40 ent_always1 HQ.out).mono ?_
  rintro e w' ⟨⟨v, l, ok, rfl, hf, hn⟩, hbw⟩
  have HW2 : Hid (Below w.heap.size w w') := Below.then HB0.out hbw
  have HE : Hid ((!ok) = true ↔ All3 n P) := by
    rcases ok with _ | _
    · refine ⟨fun _ x y z hx hy hz => ?_, fun _ => rfl⟩
      rcases hf with ⟨h, _⟩ | ⟨_, _, h⟩
      · cases h
      · have := h x y z hx hy hz; simpa using this
    · refine ⟨fun h => (by cases h), fun h => ?_⟩
      obtain ⟨x, y, z, hx, hy, hz, hp⟩ := hf.ok.mp rfl
      have := h x y z hx hy hz
      rw [this] at hp; cases hp
  clear hf hn hbw HQ HB0
  go_wp2_with fail
  go_ret
  exact ⟨⟨_, rfl, HE.out⟩, HW2.out⟩
end Go.Proofs.Ytappekjkcgmheaa
