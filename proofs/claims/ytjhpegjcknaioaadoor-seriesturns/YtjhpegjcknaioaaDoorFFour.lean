/-
  What seek.Three and seek.Four answer, handed a closure: the first numbers of which it is so. Conditions: at most ten numbers; the closure answers P in each world that leaves the first one as it was, and writes nothing there.
-/
import Derived.Test.YtjhpegjcknaioaaDoorFourM
import Derived.Test.YtjhpegjcknaioaaDoorSpA
namespace Go.Proofs.YtjhpegjcknaioaaDoor
set_option maxRecDepth 100000
open Go.RowKit

theorem row_made {w : World} {base b m : Nat} {xs : List Value} (hm : m ≤ 1000) (hb : base ≤ b) (hx : xs.length = m) (h : w.heap[b]? = some (.cells xs.toArray 3 (0, 0))) : w.ownsRow base 3 1 (.slice (some ⟨b, 0, none⟩) m m) m xs :=
  ⟨by omega, .inr ⟨b, m, xs.toArray, rfl, hb, h, Nat.le_refl _, by unfold maxLen; omega, by simp; omega, by simp [← hx]⟩⟩
/-- Not so of any three that come ahead of x, y, z. -/
def No3 (n : Nat) (P : Nat → Nat → Nat → Bool) (x y z : Nat) : Prop :=
  ∀ a b c, a < n → b < n → c < n → (a < x ∨ (a = x ∧ (b < y ∨ (b = y ∧ c < z)))) → P a b c = false
theorem No3.zero (n : Nat) (P : Nat → Nat → Nat → Bool) : No3 n P 0 0 0 := fun a b c _ _ _ h => by omega
theorem No3.next {n : Nat} {P : Nat → Nat → Nat → Bool} {x y z : Nat} (h : No3 n P x y z) (h1 : P x y z = false) : No3 n P x y (z + 1) := fun a b c ha hb hc k => by
  by_cases e : a = x ∧ b = y ∧ c = z
  · obtain ⟨rfl, rfl, rfl⟩ := e; exact h1
  · exact h a b c ha hb hc (by omega)
theorem No3.y {n : Nat} {P : Nat → Nat → Nat → Bool} {x y : Nat} (h : No3 n P x y n) : No3 n P x (y + 1) 0 := fun a b c ha hb hc k => h a b c ha hb hc (by omega)
theorem No3.x {n : Nat} {P : Nat → Nat → Nat → Bool} {x : Nat} (h : No3 n P x n 0) : No3 n P (x + 1) 0 0 := fun a b c ha hb hc k => h a b c ha hb hc (by omega)
/-- The first three of which it is so; or there are none. -/
def First3 (n : Nat) (P : Nat → Nat → Nat → Bool) (l : List Nat) (ok : Bool) : Prop :=
  (ok = true ∧ ∃ x y z, (x < n ∧ y < n ∧ z < n) ∧ P x y z = true ∧ No3 n P x y z ∧ l = [x, y, z]) ∨ (ok = false ∧ l = [] ∧ ∀ x y z, x < n → y < n → z < n → P x y z = false)
theorem First3.ok {n : Nat} {P : Nat → Nat → Nat → Bool} {l : List Nat} {ok : Bool} (h : First3 n P l ok) : ok = true ↔ ∃ x y z, x < n ∧ y < n ∧ z < n ∧ P x y z = true := by
  rcases h with ⟨rfl, x, y, z, ⟨hx, hy, hz⟩, hp, _, rfl⟩ | ⟨rfl, rfl, hu⟩
  · exact ⟨fun _ => ⟨x, y, z, hx, hy, hz, hp⟩, fun _ => rfl⟩
  · refine ⟨fun h => (by cases h), ?_⟩
    rintro ⟨x, y, z, hx, hy, hz, hp⟩
    have := hu x y z hx hy hz; rw [hp] at this; cases this
/-- A closure that answers P of three numbers below n, wherever what lay at first still lies. -/
def Clo (n F : Nat) (caps : Array Value) (P : Nat → Nat → Nat → Bool) (w : World) : Prop :=
  ∀ x y z : Nat, x < n → y < n → z < n → ∀ W : World, Below w.heap.size w W → Calls Tryd.prog F (#[.int .i64 (x : Nat), .int .i64 (y : Nat), .int .i64 (z : Nat)] ++ caps) W fun e w' => e = .returned (.bool (P x y z)) ∧ Below W.heap.size W w'


theorem row3 (w : World) (a b c : Nat) : NSl (w.alloc (.cells #[.int .i64 (a : Nat), .int .i64 (b : Nat), .int .i64 (c : Nat)] 3)) (.slice (some ⟨w.heap.size, 0, none⟩) 3 3) [a, b, c] := by
  refine ⟨_, 3, rfl, fun k hk => ⟨_, _, rfl, ?_⟩⟩
  simp only [List.length_cons, List.length_nil] at hk
  rcases (by omega : k = 0 ∨ k = 1 ∨ k = 2) with rfl | rfl | rfl <;> simp [nth]

set_option maxHeartbeats 2000000 in
theorem three_any (n F : Nat) (caps : Array Value) (P : Nat → Nat → Nat → Bool) (w : World) (h40 : n ≤ 40) (hF : Ent F) (hcl : Clo n F caps P w) :
    Calls Tryd.prog 61 #[.int .i64 n, .func (.func F) #[] caps] w fun e w' => (∃ v l ok, e = .returned (.tuple #[v, .bool ok]) ∧ First3 n P l ok ∧ NSl w' v l) ∧ Below w.heap.size w w' := by
  have HCL : Hid (Clo n F caps P w) := hcl
  clear hcl
  go_enter Tryd.func61, Tryd.ntmps61
  go_wp2_with fail
  go_loopw [10] (fun i wx => ∃ a : Nat, a ≤ n ∧ i = .int .i64 a ∧ Hid (No3 n P a 0 0) ∧ Hid (Below w.heap.size w wx)) (fun i _ => n - (intOf i).toNat)
  case atStart => exact ⟨0, Nat.zero_le _, rfl, No3.zero n P, Below.refl _ _⟩
  case round =>
    obtain ⟨a, ha, rfl, HU, HW⟩ := hrel
    by_cases hal : a < n
    · go_wp2_with fail
      go_loopw [14] (fun i wx => ∃ b : Nat, b ≤ n ∧ i = .int .i64 b ∧ Hid (No3 n P a b 0) ∧ Hid (Below w.heap.size w wx)) (fun i _ => n - (intOf i).toNat)
      case atStart => exact ⟨0, Nat.zero_le _, rfl, HU.out, HW.out⟩
      case round =>
        clear HU HW
        obtain ⟨b, hb, rfl, HU, HW⟩ := hrel
        by_cases hbl : b < n
        · go_wp2_with fail
          go_loopw [18] (fun i wx => ∃ c : Nat, c ≤ n ∧ i = .int .i64 c ∧ Hid (No3 n P a b c) ∧ Hid (Below w.heap.size w wx)) (fun i _ => n - (intOf i).toNat)
          case atStart => exact ⟨0, Nat.zero_le _, rfl, HU.out, HW.out⟩
          case round =>
            clear HU HW
            obtain ⟨c, hc, rfl, HU, HW⟩ := hrel
            by_cases hcl : c < n
            · have HC := HCL.out a b c hal hbl hcl _ HW.out
              rcases (Bool.eq_false_or_eq_true (P a b c)).symm with hp | hp
              · have HN : Hid (No3 n P a b (c + 1)) := HU.out.next hp
                rw [hp] at HC
                clear HU hp
                go_wp2_with fail
                rw [hF, Oper.upon_enter]
                refine HC.mono ?_
                rintro e w' ⟨rfl, hbw⟩
                have HW2 : Hid (Below w.heap.size w w') := Below.then HW.out hbw
                clear HC hbw HW
                go_wp2_with fail
                go_roundw
                case rel => exact ⟨c + 1, by omega, by go_num, HN.out, HW2.out⟩
                case measure => simp [intOf]; omega
              · have HF : Hid (First3 n P [a, b, c] true) := .inl ⟨rfl, a, b, c, ⟨hal, hbl, hcl⟩, hp, HU.out, rfl⟩
                rw [hp] at HC
                clear HU hp
                go_wp2_with fail
                rw [hF, Oper.upon_enter]
                refine HC.mono ?_
                rintro e w' ⟨rfl, hbw⟩
                have HW2 : Hid (Below w.heap.size w w') := Below.then HW.out hbw
                have hsz := HW2.out.size
                clear HC hbw HW
                have HN3 := (show Hid _ from row3 w' a b c)
                have HB3 : Hid (Below w.heap.size w (w'.alloc (.cells #[.int .i64 (a : Nat), .int .i64 (b : Nat), .int .i64 (c : Nat)] 3))) := HW2.out.alloc hsz _
                clear hsz
                go_wp2_with fail
                go_ret2
                exact ⟨⟨_, _, _, rfl, HF.out, HN3.out⟩, HB3.out⟩
            · obtain rfl : c = n := by omega
              have HN : Hid (No3 c P a (b + 1) 0) := HU.out.y
              clear HU
              go_wp2_with fail
              go_roundw
              case rel => exact ⟨b + 1, by omega, by go_num, HN.out, HW.out⟩
              case measure => simp [intOf]; omega
        · obtain rfl : b = n := by omega
          have HN : Hid (No3 b P (a + 1) 0 0) := HU.out.x
          clear HU
          go_wp2_with fail
          go_roundw
          case rel => exact ⟨a + 1, by omega, by go_num, HN.out, HW.out⟩
          case measure => simp [intOf]; omega
    · obtain rfl : a = n := by omega
      have HF : Hid (First3 a P [] false) := .inr ⟨rfl, rfl, fun x y z hx hy hz => HU.out x y z hx hy hz (.inl hx)⟩
      clear HU
      go_wp2_with fail
      go_ret2
      exact ⟨⟨_, _, _, rfl, HF.out, none, 0, rfl, fun k hk => absurd hk (Nat.not_lt_zero _)⟩, HW.out⟩
theorem heap_one (w : World) (x : Value) : (w.alloc (.cells #[x] 3)).heap[w.heap.size]? = some (.cells [x].toArray 3 (0, 0)) := by
  have e1 : (w.alloc (.cells #[x] 3)).heap = w.heap.push (.cells #[x] 3) := rfl
  rw [e1, Array.getElem?_push, if_pos rfl]
theorem below_step {k X n d : Nat} (hd : d < n) (h : k < X * n + d) : k / n < X ∨ (k / n = X ∧ k % n < d) := by
  have h1 : k / n ≤ X := by
    have := Nat.div_le_div_right (c := n) (Nat.le_of_lt h)
    rwa [div_of hd] at this
  rcases Nat.lt_or_eq_of_le h1 with h2 | h2
  · exact .inl h2
  · refine .inr ⟨h2, ?_⟩
    have h3 := Nat.div_add_mod k n
    rw [h2, Nat.mul_comm] at h3
    omega
/-- Not so of any four that come ahead of a, b, c, d. -/
theorem upto_of {n : Nat} {P : Nat → Nat → Nat → Nat → Bool} {a b c d : Nat} (hn : 0 < n) (hb : b < n) (hc : c < n) (hd : d < n) (h1 : ∀ x, x < a → ∀ y z t, y < n → z < n → t < n → P x y z t = false) (h2 : No3 n (P a) b c d) : Upto n P (idx n a b c d) := fun k hk => by
  have m1 := Nat.mod_lt (k / n / n) hn
  have m2 := Nat.mod_lt (k / n) hn
  have m3 := Nat.mod_lt k hn
  unfold P4
  unfold idx at hk
  rcases below_step hd hk with k1 | ⟨e1, k1⟩
  · rcases below_step hc k1 with k2 | ⟨e2, k2⟩
    · rcases below_step hb k2 with k3 | ⟨e3, k3⟩
      · exact h1 _ k3 _ _ _ m1 m2 m3
      · rw [e3]; exact h2 _ _ _ m1 m2 m3 (.inl k3)
    · have e3 : k / n / n / n = a := by rw [e2]; exact div_of hb
      have e4 : k / n / n % n = b := by rw [e2]; exact mod_of hb
      rw [e3]; exact h2 _ _ _ m1 m2 m3 (.inr ⟨e4, .inl k2⟩)
  · have e2 : k / n / n = a * n + b := by rw [e1]; exact div_of hc
    have e3 : k / n % n = c := by rw [e1]; exact mod_of hc
    have e4 : k / n / n / n = a := by rw [e2]; exact div_of hb
    have e5 : k / n / n % n = b := by rw [e2]; exact mod_of hb
    rw [e4]; exact h2 _ _ _ m1 m2 m3 (.inr ⟨e5, .inr ⟨e3, k1⟩⟩)

/-- A closure that answers P of four numbers below n, wherever what lay at first still lies. -/
def Clo4 (n F : Nat) (caps : Array Value) (P : Nat → Nat → Nat → Nat → Bool) (w : World) : Prop :=
  ∀ a b c d : Nat, a < n → b < n → c < n → d < n → ∀ W : World, Below w.heap.size w W → Calls Tryd.prog F (#[.int .i64 (a : Nat), .int .i64 (b : Nat), .int .i64 (c : Nat), .int .i64 (d : Nat)] ++ caps) W fun e w' => e = .returned (.bool (P a b c d)) ∧ Below W.heap.size W w'
theorem ent_four1 : Ent 62 := fun _ _ => rfl
theorem cellS {w w' : World} {p : Addr} {v : Value} (hb : Below w.heap.size w w') (h : w.cell? p = some v) : w'.cell? p = some v := (hb.cell (World.block_lt_of_cell? _ _ h)).trans h
theorem four1_any (n F s t a : Nat) (caps : Array Value) (P : Nat → Nat → Nat → Nat → Bool) (w : World) (ha : a < n) (hF : Ent F) (hcl : Clo4 n F caps P w) (hs : w.cell? ⟨s, 0, none⟩ = some (.func (.func F) #[] caps)) (ht : w.cell? ⟨t, 0, none⟩ = some (.int .i64 (a : Nat))) :
    Clo n 62 #[.pointer (some ⟨s, 0, none⟩), .pointer (some ⟨t, 0, none⟩)] (P a) w := fun x y z hx hy hz W hW => by
  have hcW := cellS hW hs
  have htW := cellS hW ht
  have HC := hcl a x y z ha hx hy hz W hW
  show Calls Tryd.prog 62 #[.int .i64 (x : Nat), .int .i64 (y : Nat), .int .i64 (z : Nat), .pointer (some ⟨s, 0, none⟩), .pointer (some ⟨t, 0, none⟩)] W _
  clear hcl hs ht hW
  go_enter Tryd.func62, Tryd.ntmps62
  go_wp2_with fail
  rw [hF, Oper.upon_enter]
  refine HC.mono ?_
  rintro e w' ⟨rfl, hbw⟩
  have HW2 : Hid (Below W.heap.size W w') := hbw
  clear HC hbw
  go_wp2_with fail
  go_ret
  exact ⟨rfl, HW2.out⟩

set_option maxHeartbeats 2000000 in
theorem four_any (n F : Nat) (caps : Array Value) (P : Nat → Nat → Nat → Nat → Bool) (w : World) (h10 : n ≤ 10) (hF : Ent F) (hcl : Clo4 n F caps P w) :
    Calls Tryd.prog 39 #[.int .i64 n, .func (.func F) #[] caps] w fun e w' => (∃ v l ok, e = .returned (.tuple #[v, .bool ok]) ∧ First n P l ok ∧ NSl w' v l) ∧ Below w.heap.size w w' := by
  obtain ⟨i0, hi, hz0, hz1, hz2⟩ := info_parts Tryd.info3
  have HCL : Hid (Clo4 n F caps P w) := hcl
  have HB0 : Hid (Below w.heap.size w (w.alloc (.cells #[.func (.func F) #[] caps] 68))) := (Below.refl _ _).alloc (Nat.le_refl _) _
  have HS0 : Hid ((w.alloc (.cells #[.func (.func F) #[] caps] 68)).cell? ⟨w.heap.size, 0, none⟩ = some (.func (.func F) #[] caps)) := by simp [Hid]
  clear hcl
  go_enter Tryd.func39, Tryd.ntmps39
  go_wp2_with fail
  generalize w.alloc (.cells #[.func (.func F) #[] caps] 68) = w0 at *
  go_loopw [10] (fun i wx => ∃ a : Nat, a ≤ n ∧ i = .int .i64 a ∧ Hid (∀ x, x < a → ∀ y z t, y < n → z < n → t < n → P x y z t = false) ∧ Hid (Below w0.heap.size w0 wx)) (fun i _ => n - (intOf i).toNat)
  case atStart => exact ⟨0, Nat.zero_le _, rfl, fun x hx => absurd hx (Nat.not_lt_zero _), Below.refl _ _⟩
  case round =>
    obtain ⟨a, ha, rfl, HU, HW⟩ := hrel
    by_cases hal : a < n
    · have BA : Below wr.heap.size wr (wr.alloc (.cells #[.int .i64 (a : Nat)] 3)) := (Below.refl _ _).alloc (Nat.le_refl _) _
      have hW1 := Below.then HW.out BA
      have hW2 := Below.then HB0.out hW1
      have hs := cellS hW1 HS0.out
      have ht : (wr.alloc (.cells #[.int .i64 (a : Nat)] 3)).cell? ⟨wr.heap.size, 0, none⟩ = some (.int .i64 (a : Nat)) := by simp
      have HQ : Hid (Clo n 62 #[.pointer (some ⟨w.heap.size, 0, none⟩), .pointer (some ⟨wr.heap.size, 0, none⟩)] (P a) (wr.alloc (.cells #[.int .i64 (a : Nat)] 3))) := four1_any n F w.heap.size wr.heap.size a caps P _ hal hF (fun a b c d h1 h2 h3 h4 W hW => HCL.out a b c d h1 h2 h3 h4 W (Below.then hW2 hW)) hs ht
      have HWA : Hid (Below w0.heap.size w0 (wr.alloc (.cells #[.int .i64 (a : Nat)] 3))) := hW1
      have HTA : Hid ((wr.alloc (.cells #[.int .i64 (a : Nat)] 3)).cell? ⟨wr.heap.size, 0, none⟩ = some (.int .i64 (a : Nat))) := ht
      clear BA hW1 hW2 hs ht HW
      go_wp2_with fail
      refine (three_any n 62 _ _ _ (by omega) ent_four1 HQ.out).mono ?_
      rintro e w2 ⟨⟨v, l, ok, rfl, hf, hn⟩, hb2⟩
      have HW2 : Hid (Below w0.heap.size w0 w2) := Below.then HWA.out hb2
      have t2 := cellS hb2 HTA.out
      clear hb2 HQ HWA HTA
      rcases hf with ⟨rfl, b, c, d, ⟨hbn, hcn, hdn⟩, hp, hno, rfl⟩ | ⟨rfl, rfl, hall⟩
      · obtain ⟨va, vc, rfl, hrv⟩ := hn
        obtain ⟨vb, vo, rfl, hv0⟩ := hrv 0 (by simp)
        have hv1 := hrv 1 (by simp)
        have hv2 := hrv 2 (by simp)
        have HFI : Hid (First n P [a, b, c, d] true) := by
          obtain ⟨e1, e2, e3, e4⟩ := idx_dig (a := a) hbn hcn hdn
          exact .inl ⟨rfl, idx n a b c d, idx_lt hal hbn hcn hdn, (P4_idx P hbn hcn hdn).trans hp, upto_of (by omega) hbn hcn hdn HU.out hno, by rw [e1, e2, e3, e4]⟩
        have hsz := HW2.out.size
        have g0 : w2.cell? ⟨vb, vo, none⟩ = some (.int .i64 (b : Nat)) := by simpa [nth] using hv0
        have g1 : w2.cell? ⟨vb, vo + 1, none⟩ = some (.int .i64 (c : Nat)) := by
          obtain ⟨b1, o1, e, h⟩ := hv1
          simp only [Option.some.injEq, Addr.mk.injEq] at e
          obtain ⟨rfl, rfl, _⟩ := e
          simpa [nth] using h
        have g2 : w2.cell? ⟨vb, vo + 2, none⟩ = some (.int .i64 (d : Nat)) := by
          obtain ⟨b1, o1, e, h⟩ := hv2
          simp only [Option.some.injEq, Addr.mk.injEq] at e
          obtain ⟨rfl, rfl, _⟩ := e
          simpa [nth] using h
        have BL : Below w2.heap.size w2 (w2.alloc (.cells #[.int .i64 (a : Nat)] 3)) := (Below.refl _ _).alloc (Nat.le_refl _) _
        have q0 := cellS BL g0
        have q1 := cellS BL g1
        have q2 := cellS BL g2
        have hown : (w2.alloc (.cells #[.int .i64 (a : Nat)] 3)).ownsRow w2.heap.size 3 1 (.slice (some ⟨w2.heap.size, 0, none⟩) 1 1) 1 [.int .i64 (a : Nat)] := row_made (by omega) (Nat.le_refl _) rfl (heap_one _ _)
        have HBL : Hid (Below w0.heap.size w0 (w2.alloc (.cells #[.int .i64 (a : Nat)] 3))) := Below.then HW2.out BL
        clear hrv hv0 hv1 hv2 hp hno HU g0 g1 g2 BL
        go_wp2_with (at_builtin; refine wpList_append_own _ rfl _ _ 22 rfl w2.heap.size 3 i0 (.int .i64 0) 1 8 Tryd.underlying22 hi hz0 hz1 hz2 rfl (by decide) _ _ _ rfl hown ⟨vb, vo, none⟩ 3 vc [.int .i64 (b : Nat), .int .i64 (c : Nat), .int .i64 (d : Nat)] rfl rfl ?c1 ?c2 ?c3 ?c4 ?c5 ?_)
        case c1 =>
          intro j u hj
          match j, hj with
          | 0, hj => simp at hj; subst hj; simpa [Addr.add] using q0
          | 1, hj => simp at hj; subst hj; simpa [Addr.add] using q1
          | 2, hj => simp at hj; subst hj; simpa [Addr.add] using q2
        case c2 => intro u hu; simp at hu; rcases hu with rfl | rfl | rfl <;> rfl
        case c3 => unfold maxLen; omega
        case c4 => omega
        case c5 => simp
        intro v' w6 hown' hgrow _
        have HB6 : Hid (Below w0.heap.size w0 w6) := HBL.out.trans ((Below.refl _ _).grown hgrow (by simp; omega) (by intro k hk; simp [Value.ownBlock] at hk; omega))
        have HN6 : Hid (NSl w6 v' [a, b, c, d]) := owns_nats (base := w2.heap.size) (l := [a, b, c, d]) hown'
        clear hown' hgrow hown q0 q1 q2 HBL
        go_wp2_with fail
        go_ret2
        exact ⟨⟨_, _, _, rfl, HFI.out, HN6.out⟩, Below.then HB0.out HB6.out⟩
      · have HN : Hid (∀ x, x < a + 1 → ∀ y z t, y < n → z < n → t < n → P x y z t = false) := fun x hx => by
          by_cases e : x = a
          · subst e; exact fun y z t => hall y z t
          · exact HU.out x (by omega)
        clear hall HU hn
        go_wp2_with fail
        go_roundw
        case rel => exact ⟨a + 1, by omega, by go_num, HN.out, HW2.out⟩
        case measure => simp [intOf]; omega
    · obtain rfl : a = n := by omega
      have HFI : Hid (First a P [] false) := .inr ⟨rfl, rfl, fun k hk => by
        have hn : 0 < a := by
          rcases Nat.eq_zero_or_pos a with h0 | h0
          · subst h0; simp at hk
          · exact h0
        obtain ⟨h1, h2, h3, h4⟩ := dig_lt hn hk
        exact HU.out _ h1 _ _ _ h2 h3 h4⟩
      clear HU
      go_wp2_with fail
      go_ret2
      exact ⟨⟨_, _, _, rfl, HFI.out, none, 0, rfl, fun k hk => absurd hk (Nat.not_lt_zero _)⟩, Below.then HB0.out HW.out⟩
end Go.Proofs.YtjhpegjcknaioaaDoor
