/-
  What canon.check answers of one order, and canon.Form. Conditions: a slice reads as a slice of numbers; the library's table.
  What order.Ideals and the reference's Inside, Ideal and Ideals answer. No condition but that a slice reads as a slice of numbers.
  A slice of the call's own that may be written. No condition.
  What order.Ideals and the reference's Ideals answer; hasselaw.OrderIdeals returns true for every order. No condition but that a slice reads as a slice of numbers.
  growOne's code, part by part. No condition.
-/
import Derived.Test.YtfbdgdphpdhcpaaDoorCaF
import Derived.Test.YtfbdgdphpdhcpaaDoorCaR
import Derived.Test.YtfbdgdphpdhcpaaDoorExtM
import Derived.Test.YtfbdgdphpdhcpaaDoorCaS
import Derived.Deep.LoopGhost
import Derived.WalkMore
import Derived.Test.YtfbdgdphpdhcpaaDoorZsP
import Derived.KernelRfl
namespace Go.Proofs.YtfbdgdphpdhcpaaDoor
open Go.RowKit
set_option maxRecDepth 100000

/-- What check must answer. -/
def FCk (n : Int) (len : Nat) (f : Nat → Int) (c : Int) : Prop := ∃ c0, Chk n len f c0 ∧ c = if c0 = 0 then (if 6 < n then 2 else 0) else c0
theorem FCk.one {n : Int} {len : Nat} {f : Nat → Int} {c c' : Int} (h : FCk n len f c) (h' : FCk n len f c') : c = c' := by
  obtain ⟨d, h1, rfl⟩ := h
  obtain ⟨d', h2, rfl⟩ := h'
  rw [Chk.unique h1 h2]
theorem FCk.good {n : Int} {len : Nat} {f : Nat → Int} (h : FCk n len f 0) : n = (len : Nat) ∧ len ≤ 6 ∧ Chk (len : Nat) len f 0 := by
  obtain ⟨d, h1, h2⟩ := h
  by_cases e : d = 0
  · subst e
    rw [if_pos rfl] at h2
    have hn := h1.good.1
    by_cases e2 : 6 < n
    · rw [if_pos e2] at h2; cases h2
    · subst hn
      exact ⟨rfl, by omega, h1⟩
  · rw [if_neg e] at h2; exact absurd h2.symm e
set_option maxHeartbeats 2000000 in
theorem check1_any (n : Int) (a : Option Addr) (len cap : Nat) (f : Nat → Int) (b : Nat) (w : World) (hl : len ≤ maxLen) (hr : Row w a len f) (h0 : w.cell? ⟨b, 0, none⟩ = some (.int .i64 n)) (h1 : w.cell? ⟨b, 1, none⟩ = some (.slice a len cap)) :
    Calls Tryd.prog 29 #[.slice (some ⟨b, 0, none⟩) 1 1] w fun e w' => (∃ c : Int, e = .returned (.int .i64 c) ∧ FCk n len f c) ∧ Below w.heap.size w w' := by
  have HR : Hid (Row w a len f) := hr
  have HC0 : Hid (∀ w', Below w.heap.size w w' → w'.cell? ⟨b, 0, none⟩ = some (.int .i64 n) ∧ w'.cell? ⟨b, 1, none⟩ = some (.slice a len cap)) := fun w' hb => ⟨cellS hb h0, cellS hb h1⟩
  clear hr h0 h1
  go_enter Tryd.func29, Tryd.ntmps29
  go_wp2_with fail
  go_loopw [10] (fun t wx => ∃ k : Nat, k ≤ 1 ∧ t = .int .i64 k ∧ Hid (k = 1 → Chk n len f 0) ∧ Hid (Below w.heap.size w wx)) (fun t _ => 1 - (intOf t).toNat)
  case atStart => exact ⟨0, by omega, rfl, fun h => by omega, Below.refl _ _⟩
  case round =>
    obtain ⟨k, hk, rfl, HK, HB⟩ := hrel
    obtain ⟨c0, c1⟩ := HC0.out _ HB.out
    by_cases hk0 : k = 0
    · subst hk0
      obtain ⟨w1, HW1⟩ : ∃ w1, Hid (w1 = wr.alloc (.cells #[.int .i64 n, .slice a len cap] 24)) := ⟨_, rfl⟩
      have hb1 : Below wr.heap.size wr w1 := by rw [HW1.out]; exact (Below.refl _ _).alloc (Nat.le_refl _) _
      have d0 : w1.cell? ⟨wr.heap.size, 0, none⟩ = some (.int .i64 n) := by rw [HW1.out]; simp
      have d1 : w1.cell? ⟨wr.heap.size, 1, none⟩ = some (.slice a len cap) := by rw [HW1.out]; simp
      have HB1 : Hid (Below w.heap.size w w1) := Below.then HB.out hb1
      rw [HW1.out] at d0 d1
      clear hb1
      go_wp2_with fail
      rw [← HW1.out]
      refine (check_any n a len cap f _ hl (HR.out.below HB1.out)).mono ?_
      rintro e w2 ⟨⟨c, rfl, hc⟩, hb2⟩
      have HB2 : Hid (Below w.heap.size w w2) := Below.then HB1.out hb2
      have HC : Hid (Chk n len f c) := hc
      clear hb2 hc d0 d1 c0 c1 HW1
      by_cases e0 : c = 0
      · subst e0
        go_wp2_with fail
        go_roundw
        case rel => exact ⟨1, by omega, by go_num, fun _ => HC.out, HB2.out⟩
        case measure => simp [intOf]
      · have hne : (c != 0) = true := by simpa using e0
        have HF : Hid (FCk n len f c) := ⟨c, HC.out, by rw [if_neg e0]⟩
        go_wp2_with fail
        go_ret
        exact ⟨⟨c, rfl, HF.out⟩, HB2.out⟩
    · obtain rfl : k = 1 := by omega
      have HCK : Hid (Chk n len f 0) := HK.out rfl
      clear c0 c1 HK hk hk0
      go_wp2_with fail
      go_loopw [22] (fun t wx => ∃ k : Nat, k ≤ 1 ∧ t = .int .i64 k ∧ Hid (k = 1 → ¬ 6 < n) ∧ Hid (Below w.heap.size w wx)) (fun t _ => 1 - (intOf t).toNat)
      case atStart => exact ⟨0, by omega, rfl, fun h => by omega, HB.out⟩
      case round =>
        obtain ⟨k, hk, rfl, HK, HBx⟩ := hrel
        obtain ⟨c0, c1⟩ := HC0.out _ HBx.out
        by_cases hk0 : k = 0
        · subst hk0
          have HB1 : Hid (∀ o, Below w.heap.size w (wr.alloc o)) := fun o => HBx.out.alloc HBx.out.size _
          by_cases h6 : 6 < n
          · have HF : Hid (FCk n len f 2) := ⟨0, HCK.out, by rw [if_pos rfl, if_pos h6]⟩
            go_wp2_with fail
            go_ret
            exact ⟨⟨2, rfl, HF.out⟩, HB1.out _⟩
          · go_wp2_with fail
            go_roundw
            case rel => exact ⟨1, by omega, by go_num, fun _ => h6, HB1.out _⟩
            case measure => simp [intOf]
        · obtain rfl : k = 1 := by omega
          have HF : Hid (FCk n len f 0) := ⟨0, HCK.out, by rw [if_pos rfl, if_neg (HK.out rfl)]⟩
          clear c0 c1
          go_wp2_with fail
          go_ret
          exact ⟨⟨0, rfl, HF.out⟩, HBx.out⟩
/-- What Form answers; the order's row is new and may be written. -/
def FormPost (K : Nat) (n : Int) (len : Nat) (f : Nat → Int) (e : Ending) (w' : World) : Prop :=
  ∃ c, FCk n len f c ∧ ((c ≠ 0 ∧ e = .returned (.tuple #[noOrder, .slice none 0 0, .int .i64 c])) ∨
    (c = 0 ∧ ∃ x bl bv, bst (nat f) len (per len [] (pw len - 1)) = some x ∧ e = .returned (.tuple #[.agg #[.int .i64 (len : Nat), .slice (some ⟨bl, 0, none⟩) len len], bv, .int .i64 0]) ∧ Own w' bl len (prt (nat f) x) ∧ K ≤ bl ∧ bl < w'.heap.size))
set_option maxHeartbeats 2000000 in
theorem form_any (n : Int) (a : Option Addr) (len cap : Nat) (f : Nat → Int) (w : World) (hl : len ≤ maxLen) (hr : Row w a len f) (hT : Tab w) :
    Calls Tryd.prog 9 #[.agg #[.int .i64 n, .slice a len cap]] w fun e w' => FormPost w.heap.size n len f e w' ∧ Below w.heap.size w w' := by
  have HR : Hid (Row w a len f) := hr
  have HT : Hid (Tab w) := hT
  obtain ⟨X1, hX1⟩ : ∃ X1, X1 = w.alloc (.cells #[.int .i64 n, .slice a len cap] 24) := ⟨_, rfl⟩
  obtain ⟨X2, hX2⟩ : ∃ X2, X2 = X1.alloc (.cells #[.int .i64 0, .slice none 0 0] 24) := ⟨_, rfl⟩
  obtain ⟨X3, HX3⟩ : ∃ X3, Hid (X3 = X2.alloc (.cells #[.int .i64 n, .slice a len cap] 24)) := ⟨_, rfl⟩
  have s1 : X1.heap.size = w.heap.size + 1 := by rw [hX1]; simp
  have s2 : X2.heap.size = w.heap.size + 2 := by rw [hX2]; simp [s1]
  have b1 : Below w.heap.size w X1 := by rw [hX1]; exact (Below.refl _ _).alloc (Nat.le_refl _) _
  have b2 : Below X1.heap.size X1 X2 := by rw [hX2]; exact (Below.refl _ _).alloc (Nat.le_refl _) _
  have b3 : Below X2.heap.size X2 X3 := by rw [HX3.out]; exact (Below.refl _ _).alloc (Nat.le_refl _) _
  have hH : Held X3 w.heap.size n a len cap f := by
    have h : Held X1 w.heap.size n a len cap f := by rw [hX1]; exact Held.box hr
    exact (h.step b2).step b3
  have hZ : ZBox X3 (w.heap.size + 1) := by
    have h : ZBox X2 (w.heap.size + 1) := by rw [hX2, ← s1]; exact ZBox.new X1
    exact h.step b3
  have e0 : X3.cell? ⟨w.heap.size + 2, 0, none⟩ = some (.int .i64 n) := by rw [HX3.out, ← s2]; simp
  have e1 : X3.cell? ⟨w.heap.size + 2, 1, none⟩ = some (.slice a len cap) := by rw [HX3.out, ← s2]; simp
  have HB3 : Hid (Below w.heap.size w X3) := Below.then b1 (Below.then b2 b3)
  have HX2 : Hid (X2 = (w.alloc (.cells #[.int .i64 n, .slice a len cap] 24)).alloc (.cells #[.int .i64 0, .slice none 0 0] 24)) := by show _ = _; rw [hX2, hX1]
  have x0 : X2.cell? ⟨w.heap.size, 0, none⟩ = some (.int .i64 n) := by rw [hX2]; exact cellS ((Below.refl _ _).alloc (Nat.le_refl _) _) (by rw [hX1]; exact (Held.box hr).c0)
  have x1 : X2.cell? ⟨w.heap.size, 1, none⟩ = some (.slice a len cap) := by rw [hX2]; exact cellS ((Below.refl _ _).alloc (Nat.le_refl _) _) (by rw [hX1]; exact (Held.box hr).c1)
  have HS2 : Hid (X2.heap.size = w.heap.size + 2) := s2
  clear hX1 hX2 s1 s2 b1 b2 b3 hr hT
  go_enter Tryd.func9, Tryd.ntmps9
  go_wp2_with fail
  rw [← HX2.out]
  go_wp2_with fail
  rw [← HX3.out]
  have HH3 : Hid (∀ w', Below X3.heap.size X3 w' → Held w' w.heap.size n a len cap f ∧ ZBox w' (w.heap.size + 1)) := fun w' hb => ⟨hH.step hb, hZ.step hb⟩
  have HE : Hid (X3.cell? ⟨w.heap.size + 2, 0, none⟩ = some (.int .i64 n) ∧ X3.cell? ⟨w.heap.size + 2, 1, none⟩ = some (.slice a len cap)) := ⟨e0, e1⟩
  clear hH hZ e0 e1 x0 x1 HX2
  try rw [HS2.out]
  refine (check1_any n a len cap f (w.heap.size + 2) _ hl (HR.out.below HB3.out) HE.out.1 HE.out.2).mono ?_
  rintro e w1 ⟨⟨c, rfl, hc⟩, hb1⟩
  have HB1 : Hid (Below w.heap.size w w1) := Below.then HB3.out hb1
  have HC : Hid (FCk n len f c) := hc
  obtain ⟨hH1, hZ1⟩ := HH3.out _ hb1
  have HHZ : Hid (∀ w', Below w1.heap.size w1 w' → Held w' w.heap.size n a len cap f ∧ ZBox w' (w.heap.size + 1)) := fun w' hb => ⟨hH1.step hb, hZ1.step hb⟩
  clear hb1 hc HE HH3
  have c0 := hH1.c0
  have c1 := hH1.c1
  by_cases e0 : c = 0
  · subst e0
    obtain ⟨rfl, h6, hck⟩ := HC.out.good
    obtain ⟨_, h10, hrng, hord⟩ := hck.good
    have HG : Hid (∀ k, k < len → nat f k < 1024) := hrng.small2 h10
    have HRW : Hid (Row w1 a len (fun k => (nat f k : Nat))) := hrng.row hH1.row
    clear hck hrng hord hH1 hZ1
    go_wp2_with fail
    refine (formOf_any len a cap (nat f) _ h10 HG.out HRW.out (HT.out.step HB1.out)).mono ?_
    rintro e w2 ⟨⟨x, bl, bv, hx, rfl, hO, hbl1, ⟨hbl2, _⟩, hbv⟩, hb2⟩
    obtain ⟨va, vn, vc, rfl⟩ : ∃ va vn vc, bv = .slice va vn vc := by
      rcases hbv.2 with ⟨q0, _⟩ | ⟨q, cap', cur, q1, _⟩
      · exact ⟨_, _, _, q0⟩
      · exact ⟨_, _, _, q1⟩
    obtain ⟨w3, HW3⟩ : ∃ w3, Hid (w3 = w2.alloc (.cells #[.int .i64 (len : Nat), .slice (some ⟨bl, 0, none⟩) len len] 24)) := ⟨_, rfl⟩
    have hb3 : Below w2.heap.size w2 w3 := by rw [HW3.out]; exact (Below.refl _ _).alloc (Nat.le_refl _) _
    have g0 : w3.cell? ⟨w2.heap.size, 0, none⟩ = some (.int .i64 (len : Nat)) := by rw [HW3.out]; simp
    have g1 : w3.cell? ⟨w2.heap.size, 1, none⟩ = some (.slice (some ⟨bl, 0, none⟩) len len) := by rw [HW3.out]; simp
    obtain ⟨_, hZ3⟩ := HHZ.out _ (Below.then hb2 hb3)
    have HZ3 : Hid (ZBox w3 (w.heap.size + 1)) := hZ3
    obtain ⟨z0, z1, z2, z3⟩ := hZ3
    have HO3 : Hid (Own w3 bl len (prt (nat f) x)) := hO.oth (OthS.below (fun _ => False) hb3) id
    have HX : Hid (bst (nat f) len (per len [] (pw len - 1)) = some x) := hx
    have HB4 : Hid (Below w.heap.size w w3) := Below.then HB1.out (Below.then hb2 hb3)
    have HBL : Hid (w1.heap.size ≤ bl ∧ bl < w3.heap.size) := ⟨by omega, Nat.lt_of_lt_of_le hbl2 hb3.size⟩
    have hw1 := HB1.out.size
    have hz1 : w.heap.size + 1 < w1.heap.size := by
      obtain ⟨_, hq⟩ := HHZ.out _ (Below.refl _ _)
      exact World.block_lt_of_cell? _ _ hq.1
    have HL1 : Hid (w.heap.size + 1 < w1.heap.size) := hz1
    clear hx hO hbl1 hbl2 hbv hb2 hb3 c0 c1 HHZ hw1 hz1
    rw [HW3.out] at g0 g1 z0 z1 z2 z3
    go_wp2_with fail
    rw [← HW3.out]
    rw [← HW3.out] at z0 z1 z2 z3
    refine bodyPost_ret (v := .tuple #[.agg #[.int .i64 (len : Nat), .slice (some ⟨bl, 0, none⟩) len len], .slice va vn vc, .int .i64 0]) (by simp [results, Tryd.results9, go_sem, z0, z1]) rfl ⟨⟨0, HC.out, .inr ⟨rfl, x, bl, _, HX.out, rfl, fun k hk => ?_, ?_, ?_⟩⟩, set2B HB4.out (by omega)⟩
    · obtain ⟨q1, q2⟩ := HO3.out k hk
      have h1 := HBL.out
      have h2 := HL1.out
      rw [World.frozen?_setCell, World.frozen?_setCell, World.cell?_setCell_other _ _ _ _ (fun e => by injection e with e1; omega), World.cell?_setCell_other _ _ _ _ (fun e => by injection e with e1; omega)]
      exact ⟨q1, q2⟩
    · have h1 := HBL.out
      have h2 := HL1.out
      omega
    · have h1 := HBL.out
      simpa using h1.2
  · have hne : (c != 0) = true := by simpa using e0
    obtain ⟨z0, z1, z2, z3⟩ := hZ1
    clear hH1
    go_wp2_with fail
    exact bodyPost_ret (v := .tuple #[noOrder, .slice none 0 0, .int .i64 c]) (by simp [results, Tryd.results9, go_sem, noOrder, z0, z1]) rfl ⟨⟨c, HC.out, .inl ⟨e0, rfl⟩⟩, set2B HB1.out (by omega)⟩
end Go.Proofs.YtfbdgdphpdhcpaaDoor
namespace Go.Proofs.YtfbdgdphpdhcpaaDoor
set_option maxRecDepth 100000
open Go.RowKit

def fil (I : Nat → Bool) : Nat → List Nat
  | 0 => []
  | k + 1 => if I k = true then fil I k ++ [k] else fil I k
theorem fil_yes {I : Nat → Bool} {k : Nat} (h : I k = true) : fil I (k + 1) = fil I k ++ [k] := by simp [fil, h]
theorem fil_no {I : Nat → Bool} {k : Nat} (h : I k = false) : fil I (k + 1) = fil I k := by simp [fil, h]
theorem fil_len (I : Nat → Bool) : ∀ k, (fil I k).length ≤ k
  | 0 => by simp [fil]
  | k + 1 => by
    have ih := fil_len I k
    cases h : I k
    · rw [fil_no h]; omega
    · rw [fil_yes h, List.length_append]; simp; exact ih
def idlTo (g : Nat → Nat) (s : Nat) : Nat → Bool
  | 0 => true
  | k + 1 => idlTo g s k && !(s.testBit k && lack (g k) s != 0)
theorem idlTo_iff (g : Nat → Nat) (s : Nat) : ∀ n, idlTo g s n = true ↔ ∀ p, p < n → s.testBit p = true → lack (g p) s = 0
  | 0 => by simp [idlTo]
  | n + 1 => by
    simp only [idlTo, Bool.and_eq_true, idlTo_iff g s n]
    constructor
    · rintro ⟨h1, h2⟩
      refine upto_succ h1 fun hb => ?_
      simpa [hb] using h2
    · intro h
      refine ⟨fun p hp => h p (by omega), ?_⟩
      cases hb : s.testBit n
      · simp
      · simp [h n (by omega) hb]
theorem idlTo_false {g : Nat → Nat} {s n k : Nat} (hk : k < n) (hb : s.testBit k = true) (hl : lack (g k) s ≠ 0) : idlTo g s n = false := by
  cases e : idlTo g s n
  · rfl
  · exact absurd ((idlTo_iff g s n).1 e k hk hb) hl
def idls (g : Nat → Nat) (n : Nat) : List Nat := fil (fun s => idlTo g s n) (pw n)

theorem hv_bits {a k : Nat} (h : hv a k = 0) (i : Nat) (hi : k ≤ i) : a.testBit i = false := by
  have h2 : hv a i = 0 := by
    obtain ⟨d, rfl⟩ : ∃ d, i = k + d := ⟨i - k, by omega⟩
    unfold hv at h ⊢
    rw [Nat.pow_add, ← Nat.div_div_eq_div_mul, h, Nat.zero_div]
  rw [hv_bit, h2]; rfl

end Go.Proofs.YtfbdgdphpdhcpaaDoor
namespace Go.Proofs.YtfbdgdphpdhcpaaDoor
open Go.RowKit

def NewV (K : Nat) (v : Value) : Prop := ∀ k, v.ownBlock = some k → K ≤ k
/-- A row whose block lies from K on and below K', and which may be written. -/
def FRow (w : World) (K K' : Nat) (a : Option Addr) (n : Nat) (f : Nat → Int) : Prop :=
  ∀ k, k < n → ∃ b, a = some ⟨b, 0, none⟩ ∧ (K ≤ b ∧ b < K') ∧ w.cell? ⟨b, k, none⟩ = some (.int .i64 (f k)) ∧ w.frozen? ⟨b, k, none⟩ = false
/-- A slice of the call's own that may be written. -/
def Wrt (K : Nat) (w : World) (v : Value) : Prop := ∃ (a : Option Addr) (n cap : Nat) (f : Nat → Int), v = .slice a n cap ∧ FRow w K w.heap.size a n f
theorem FRow.wide {w : World} {K K' L L' : Nat} {a : Option Addr} {n : Nat} {f : Nat → Int} (h : FRow w K K' a n f) (hl : L ≤ K) (hu : K' ≤ L') : FRow w L L' a n f := fun k hk => by
  obtain ⟨b, e, ⟨h1, h2⟩, r⟩ := h k hk
  exact ⟨b, e, ⟨by omega, by omega⟩, r⟩
theorem frow_owns {w : World} {K n : Nat} {v : Value} {xs : List Value} {f : Nat → Int} (h : w.ownsRow K 3 1 v n xs) (hx : ∀ k, k < n → xs[k]? = some (.int .i64 (f k))) : ∃ a cap, v = .slice a n cap ∧ FRow w K w.heap.size a n f := by
  have h' := h
  rcases h.2 with ⟨rfl, rfl⟩ | ⟨g, cap, cur, rfl, hb, _⟩
  · exact ⟨none, 0, rfl, fun k hk => absurd hk (Nat.not_lt_zero _)⟩
  · refine ⟨_, cap, rfl, fun k hk => ⟨g, rfl, ?_, ?_, h'.frozenAt k⟩⟩
    · have hc := h'.cellAt k (by omega)
      rw [hx k hk] at hc
      exact ⟨hb, World.block_lt_of_cell? _ _ hc⟩
    · rw [h'.cellAt k (by omega)]; exact hx k hk
theorem wrt_nats {w : World} {K L : Nat} {v : Value} {l : List Nat} (hL : L ≤ K) (h : w.ownsRow K 3 1 v l.length (natVals l)) : Wrt L w v := by
  obtain ⟨a, cap, e, hf⟩ := frow_owns h (f := fun k => (nth l k : Nat)) (fun k hk => natVals_at l k hk)
  exact ⟨a, _, cap, _, e, hf.wide hL (Nat.le_refl _)⟩
theorem sub_le {a b : Nat} (h : Sub a b) : a ≤ b := by
  have e : a &&& b = a := by
    apply Nat.eq_of_testBit_eq
    intro i
    rw [Nat.testBit_and]
    cases hi : a.testBit i
    · rfl
    · rw [h i hi]; rfl
  rw [← e]; exact Nat.and_le_right
end Go.Proofs.YtfbdgdphpdhcpaaDoor
namespace Go.Proofs.YtfbdgdphpdhcpaaDoor
set_option maxRecDepth 100000
open Go.RowKit

/-- A slice that lies in a block from K on, if anywhere. -/
def IdealsPost (K : Nat) (n : Int) (len : Nat) (f : Nat → Int) (e : Ending) (w' : World) : Prop :=
  ∃ (c : Int) (v : Value), Chk n len f c ∧ e = .returned (.tuple #[v, .int .i64 c]) ∧ ((c ≠ 0 ∧ v = .slice none 0 0) ∨ (c = 0 ∧ NSl w' v (idls (nat f) len) ∧ NewV K v ∧ Wrt K w' v))

set_option maxHeartbeats 2000000 in
theorem ideals_any (n : Int) (a : Option Addr) (len cap : Nat) (f : Nat → Int) (w : World) (hl : len ≤ maxLen) (hr : Row w a len f) :
    Calls Tryd.prog 61 #[.agg #[.int .i64 n, .slice a len cap]] w fun e w' => IdealsPost w.heap.size n len f e w' ∧ Below w.heap.size w w' := by
  have K0 : Held (w.alloc (.cells #[.int .i64 n, .slice a len cap] 24)) w.heap.size n a len cap f := Held.box hr
  have HB0 : Hid (Below w.heap.size w (w.alloc (.cells #[.int .i64 n, .slice a len cap] 24))) := (Below.refl _ _).alloc (Nat.le_refl _) _
  clear hr
  go_enter Tryd.func61, Tryd.ntmps61
  go_wp2
  go_step3
  go_wp2_with fail
  refine (check_any n a len cap f _ hl K0.row).mono ?_
  rintro e w1 ⟨⟨c, rfl, hc⟩, hb⟩
  have K1 := K0.step hb
  have HB1 : Hid (Below w.heap.size w w1) := Below.then HB0.out hb
  clear hb K0 HB0
  by_cases h0 : c = 0
  · subst h0
    obtain ⟨rfl, h10, hrng, _⟩ := hc.good
    have HCH : Hid (Chk (len : Int) len f 0) := hc
    have HG2 : Hid (∀ k, k < len → nat f k < 1024) := hrng.small2 h10
    have H1 : Hid (Held w1 w.heap.size len a len cap (fun k => (nat f k : Nat))) := ⟨K1.c0, K1.c1, hrng.row K1.row⟩
    have k0 := K1.c0
    have k1 := K1.c1
    clear hc hrng K1
    obtain ⟨g, HGF⟩ : ∃ g, Hid (g = nat f) := ⟨_, rfl⟩
    rw [← HGF.out] at HG2 H1
    obtain ⟨I, HI⟩ : ∃ I, Hid (I = fun s => idlTo g s len) := ⟨_, rfl⟩
    have HIA : Hid (∀ s, I s = idlTo g s len) := fun s => by rw [HI.out]
    have HEQ : Hid (∀ (wx : World) (v : Value), NSl wx v (fil I (pw len)) → NSl wx v (idls (nat f) len)) := fun wx v h => by
      have e1 : idls (nat f) len = fil I (pw len) := by rw [← HGF.out, HI.out]; rfl
      rw [e1]; exact h
    have hsh := wrap_pow len (by omega)
    have hpw := pw_le len h10
    obtain ⟨i0, hi, hz0, hz1, hz2⟩ := info_parts Tryd.info3
    go_wp2_with fail
    go_step3
    go_wp2_with fail
    rw [hsh]
    clear k0 k1 hsh
    generalize pw len = P at *
    go_loopw [5, 17] (fun v i wx => ∃ s : Nat, s ≤ P ∧ i = .int .i64 s ∧ wx.ownsRow w1.heap.size 3 1 v (fil I s).length (natVals (fil I s)) ∧ Hid (Below w1.heap.size w1 wx)) (fun _ i _ => P - (intOf i).toNat)
    case atStart => exact ⟨0, Nat.zero_le _, rfl, World.ownsRow_nil _ _ _ _, Below.refl _ _⟩
    case round =>
      obtain ⟨s, hs, rfl, hown, hB⟩ := hrel
      have hH := H1.out.step hB.out
      have c0 := hH.c0
      have c1 := hH.c1
      by_cases hlt : s < P
      · go_wp2
        go_loopg [23] len (fun m t wy => ∃ p : Nat, p ≤ len ∧ t = .int .i64 p ∧ len - p ≤ m ∧ Hid (∀ q, q < p → s.testBit q = true → lack (g q) s = 0) ∧ Hid (Below w1.heap.size w1 wy) ∧ wy.ownsRow w1.heap.size 3 1 u5 (fil I s).length (natVals (fil I s))) 
        case atStart => exact ⟨0, Nat.zero_le _, rfl, Nat.sub_le _ _, upto_zero, hB.out, hown⟩
        case round =>
          clear hB hown hH c0 c1
          obtain ⟨p, hp, rfl, hmp, hok, hB, hown⟩ := hrel
          have hH := H1.out.step hB.out
          have c0 := hH.c0
          have c1 := hH.c1
          by_cases hpl : p < len
          · obtain ⟨b, off, rfl, hcc⟩ := hH.row.at hpl
            have hcp := hcc p hpl
            clear hcc
            have hgp := HG2.out p hpl
            have hand := i64_andNot (g p) s (by omega) (by omega)
            cases hb : s.testBit p
            · go_wp2_with (go_at_call 48; refine (has_any _ _ _ (by omega) (by omega)).mono ?_; rintro e w' ⟨rfl, rfl⟩)
              go_roundg (gk - 1)
              case rel => exact ⟨p + 1, by omega, by go_num, by omega, upto_succ hok.out (fun h => by rw [hb] at h; cases h), hB.out, hown⟩
              case measure => omega
            · by_cases hz : lack (g p) s = 0
              · have hz' : (((lack (g p) s : Nat) : Int) != 0) = false := by simp [hz]
                have HZ : Hid (lack (g p) s = 0) := hz
                clear hz
                go_wp2_with (go_at_call 48; refine (has_any _ _ _ (by omega) (by omega)).mono ?_; rintro e w' ⟨rfl, rfl⟩)
                go_roundg (gk - 1)
                case rel => exact ⟨p + 1, by omega, by go_num, by omega, upto_succ hok.out (fun _ => HZ.out), hB.out, hown⟩
                case measure => omega
              · have hz' : (((lack (g p) s : Nat) : Int) != 0) = true := by simp; exact hz
                have HE : Hid (fil I (s + 1) = fil I s) := fil_no ((HIA.out s).trans (idlTo_false hpl hb hz))
                clear hz
                go_wp2_with (go_at_call 48; refine (has_any _ _ _ (by omega) (by omega)).mono ?_; rintro e w' ⟨rfl, rfl⟩)
                go_roundw
                case rel => exact ⟨s + 1, by omega, by go_num, by rw [HE.out]; exact hown, hB⟩
                case measure => simp [intOf]; omega
          · have hpn : p = len := by omega
            have HE : Hid (fil I (s + 1) = fil I s ++ [s]) := fil_yes ((HIA.out s).trans ((idlTo_iff g s len).2 (by rw [← hpn]; exact hok.out)))
            have hlen := fil_len I s
            have hsz := hB.out.size
            obtain ⟨L, HL⟩ : ∃ L, Hid (L = fil I s) := ⟨_, rfl⟩
            rw [← HL.out] at hown hlen
            subst hpn
            clear hH c0 c1
            go_wp2_with (at_builtin; refine wpList_append_own _ rfl _ _ 22 rfl w1.heap.size 3 i0 (.int .i64 0) 1 8 Tryd.underlying22 hi hz0 hz1 hz2 rfl (by decide) _ _ _ rfl (hown.alloc _) ⟨wr.heap.size, 0, none⟩ 1 1 [.int .i64 (s : Nat)] rfl rfl ?c1 ?c2 ?c3 ?c4 ?c5 ?_)
            case c1 =>
              intro j u hj
              match j, hj with
              | 0, hj => simp at hj; subst hj; simp [Addr.add]
            case c2 => intro u hu; simp at hu; subst hu; rfl
            case c3 => unfold maxLen; omega
            case c4 => omega
            case c5 => simp; omega
            intro v' w2 hown' hgrow _
            have HB5 : Hid (Below w1.heap.size w1 w2) := below_append3 hB.out hown hgrow
            have HO5 : Hid (w2.ownsRow w1.heap.size 3 1 v' (fil I (s + 1)).length (natVals (fil I (s + 1)))) := by
              rw [HE.out, ← HL.out, natVals_append, List.length_append]; exact hown'
            clear hown' hgrow hown hB hlen hsz HL
            go_wp2_with fail
            go_roundw
            case rel => exact ⟨s + 1, by omega, by go_num, HO5.out, HB5.out⟩
            case measure => simp [intOf]; omega
      · have hsn : s = P := by omega
        subst hsn
        have HF : Hid (NSl wr u5 (idls (nat f) len) ∧ NewV w.heap.size u5 ∧ Wrt w.heap.size wr u5) := ⟨HEQ.out _ _ (owns_nats hown), fun k hk => Nat.le_trans HB1.out.size (owns_block hown k hk), wrt_nats HB1.out.size hown⟩
        clear hown hH c0 c1
        go_wp2
        rw [Exit.noGoto_ret]
        go_ret2
        exact ⟨⟨0, _, HCH.out, rfl, .inr ⟨rfl, HF.out⟩⟩, Below.then HB1.out hB.out⟩
  · have hne : (c != 0) = true := by simpa using h0
    have HCH : Hid (Chk n len f c) := hc
    clear hc
    go_wp2_with fail
    rw [Exit.noGoto_ret]
    go_ret2
    exact ⟨⟨c, _, HCH.out, rfl, .inl ⟨h0, rfl⟩⟩, HB1.out⟩
end Go.Proofs.YtfbdgdphpdhcpaaDoor
namespace Go.Proofs.YtfbdgdphpdhcpaaDoor
open Go Go.Conc Go.RowKit Sm
set_option maxRecDepth 100000

/-- The part of a code at a place: 0 the first of two, 1 the second, 2 what lies within. -/
def atc : List Nat → Code → Code
  | [], c => c
  | 0 :: l, .seq a _ => atc l a
  | 1 :: l, .seq _ b => atc l b
  | 2 :: l, .block _ c => atc l c
  | 2 :: l, .loop c => atc l c
  | _, c => c
theorem tryd_zs : Zs Tryd.prog := info_zero _ (by kernel_rfl)
/-- The functions that canon's lone calls may enter. -/
abbrev cfs : List Nat := [30, 33, 34, 35, 42, 43, 44, 45, 46, 47, 48, 55, 56, 57, 58, 59, 60, 61, 64, 65, 66, 77, 78, 79, 80]
abbrev cgs : List Nat := [0, 1]
theorem cfs_ok : cfs.all (funcB Tryd.prog cfs cgs) = true := by kernel_rfl
theorem grow_shape : (Tryd.f49.body.getD .skip) = .seq (atc [0] (Tryd.f49.body.getD .skip)) (.seq (atc [1, 0] (Tryd.f49.body.getD .skip)) (.seq (atc [1, 1, 0] (Tryd.f49.body.getD .skip)) (.seq (atc [1, 1, 1, 0] (Tryd.f49.body.getD .skip)) (.block 0 (.loop (.seq (atc [1, 1, 1, 1, 2, 2, 0] (Tryd.f49.body.getD .skip)) (.seq (.cond (.tmp 20) .skip (.exit 0)) (.seq (.block 1 (atc [1, 1, 1, 1, 2, 2, 1, 1, 0, 2] (Tryd.f49.body.getD .skip))) (atc [1, 1, 1, 1, 2, 2, 1, 1, 1] (Tryd.f49.body.getD .skip)))))))))) := by kernel_rfl
theorem grow_inner : atc [1, 1, 1, 1, 2, 2, 1, 1, 0, 2] (Tryd.f49.body.getD .skip) = .seq (atc [1, 1, 1, 1, 2, 2, 1, 1, 0, 2, 0] (Tryd.f49.body.getD .skip)) (.seq (atc [1, 1, 1, 1, 2, 2, 1, 1, 0, 2, 1, 0] (Tryd.f49.body.getD .skip)) (.seq (atc [1, 1, 1, 1, 2, 2, 1, 1, 0, 2, 1, 1, 0] (Tryd.f49.body.getD .skip)) (atc [1, 1, 1, 1, 2, 2, 1, 1, 0, 2, 1, 1, 1] (Tryd.f49.body.getD .skip)))) := by kernel_rfl
end Go.Proofs.YtfbdgdphpdhcpaaDoor
