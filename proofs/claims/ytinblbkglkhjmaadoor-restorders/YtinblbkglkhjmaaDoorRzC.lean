/-
  What canon.check answers of one order, and canon.Form. Conditions: a slice reads as a slice of numbers; the library's table.
  What realize's check and Dimension answer, whatever they are handed: the fewest rows that say an order. No condition but that a slice reads as a slice of numbers.
-/
import Derived.Test.YtinblbkglkhjmaaDoorCaF
import Derived.Test.YtinblbkglkhjmaaDoorBuild
import Derived.Deep.RegionHeld3
import Derived.Test.YtinblbkglkhjmaaDoorRzD
import Derived.Test.YtinblbkglkhjmaaDoorPermM
namespace Go.Proofs.YtinblbkglkhjmaaDoor
open Go.RowKit
set_option maxRecDepth 100000

/-- What check must answer. -/
def FCk (n : Int) (len : Nat) (f : Nat → Int) (c : Int) : Prop := ∃ c0, Chk n len f c0 ∧ c = if c0 = 0 then (if 6 < n then 2 else 0) else c0
theorem FCk.one {n : Int} {len : Nat} {f : Nat → Int} {c c' : Int} (h : FCk n len f c) (h' : FCk n len f c') : c = c' := by
  obtain ⟨d, h1, rfl⟩ := h
  obtain ⟨d', h2, rfl⟩ := h'
  rw [Chk.unique h1 h2]
theorem FCk.good {n : Int} {len : Nat} {f : Nat → Int} (h : FCk n len f 0) : n = (len : Nat) ∧ len ≤ 6 ∧ Chk (len : Nat) len f 0 := by
  obtain ⟨d, h1, h2⟩ := h
  by_cases e : d = 0
  · subst e
    rw [if_pos rfl] at h2
    have hn := h1.good.1
    by_cases e2 : 6 < n
    · rw [if_pos e2] at h2; cases h2
    · subst hn
      exact ⟨rfl, by omega, h1⟩
  · rw [if_neg e] at h2; exact absurd h2.symm e
set_option maxHeartbeats 2000000 in
theorem check1_any (n : Int) (a : Option Addr) (len cap : Nat) (f : Nat → Int) (b : Nat) (w : World) (hl : len ≤ maxLen) (hr : Row w a len f) (h0 : w.cell? ⟨b, 0, none⟩ = some (.int .i64 n)) (h1 : w.cell? ⟨b, 1, none⟩ = some (.slice a len cap)) :
    Calls Tryd.prog 28 #[.slice (some ⟨b, 0, none⟩) 1 1] w fun e w' => (∃ c : Int, e = .returned (.int .i64 c) ∧ FCk n len f c) ∧ Below w.heap.size w w' := by
  have HR : Hid (Row w a len f) := hr
  have HC0 : Hid (∀ w', Below w.heap.size w w' → w'.cell? ⟨b, 0, none⟩ = some (.int .i64 n) ∧ w'.cell? ⟨b, 1, none⟩ = some (.slice a len cap)) := fun w' hb => ⟨cellS hb h0, cellS hb h1⟩
  clear hr h0 h1
  go_enter Tryd.func28, Tryd.ntmps28
  go_wp2_with fail
  go_loopw [10] (fun t wx => ∃ k : Nat, k ≤ 1 ∧ t = .int .i64 k ∧ Hid (k = 1 → Chk n len f 0) ∧ Hid (Below w.heap.size w wx)) (fun t _ => 1 - (intOf t).toNat)
  case atStart => exact ⟨0, by omega, rfl, fun h => by omega, Below.refl _ _⟩
  case round =>
    obtain ⟨k, hk, rfl, HK, HB⟩ := hrel
    obtain ⟨c0, c1⟩ := HC0.out _ HB.out
    by_cases hk0 : k = 0
    · subst hk0
      obtain ⟨w1, HW1⟩ : ∃ w1, Hid (w1 = wr.alloc (.cells #[.int .i64 n, .slice a len cap] 24)) := ⟨_, rfl⟩
      have hb1 : Below wr.heap.size wr w1 := by rw [HW1.out]; exact (Below.refl _ _).alloc (Nat.le_refl _) _
      have d0 : w1.cell? ⟨wr.heap.size, 0, none⟩ = some (.int .i64 n) := by rw [HW1.out]; simp
      have d1 : w1.cell? ⟨wr.heap.size, 1, none⟩ = some (.slice a len cap) := by rw [HW1.out]; simp
      have HB1 : Hid (Below w.heap.size w w1) := Below.then HB.out hb1
      rw [HW1.out] at d0 d1
      clear hb1
      go_wp2_with fail
      rw [← HW1.out]
      refine (check_any n a len cap f _ hl (HR.out.below HB1.out)).mono ?_
      rintro e w2 ⟨⟨c, rfl, hc⟩, hb2⟩
      have HB2 : Hid (Below w.heap.size w w2) := Below.then HB1.out hb2
      have HC : Hid (Chk n len f c) := hc
      clear hb2 hc d0 d1 c0 c1 HW1
      by_cases e0 : c = 0
      · subst e0
        go_wp2_with fail
        go_roundw
        case rel => exact ⟨1, by omega, by go_num, fun _ => HC.out, HB2.out⟩
        case measure => simp [intOf]
      · have hne : (c != 0) = true := by simpa using e0
        have HF : Hid (FCk n len f c) := ⟨c, HC.out, by rw [if_neg e0]⟩
        go_wp2_with fail
        go_ret
        exact ⟨⟨c, rfl, HF.out⟩, HB2.out⟩
    · obtain rfl : k = 1 := by omega
      have HCK : Hid (Chk n len f 0) := HK.out rfl
      clear c0 c1 HK hk hk0
      go_wp2_with fail
      go_loopw [22] (fun t wx => ∃ k : Nat, k ≤ 1 ∧ t = .int .i64 k ∧ Hid (k = 1 → ¬ 6 < n) ∧ Hid (Below w.heap.size w wx)) (fun t _ => 1 - (intOf t).toNat)
      case atStart => exact ⟨0, by omega, rfl, fun h => by omega, HB.out⟩
      case round =>
        obtain ⟨k, hk, rfl, HK, HBx⟩ := hrel
        obtain ⟨c0, c1⟩ := HC0.out _ HBx.out
        by_cases hk0 : k = 0
        · subst hk0
          have HB1 : Hid (∀ o, Below w.heap.size w (wr.alloc o)) := fun o => HBx.out.alloc HBx.out.size _
          by_cases h6 : 6 < n
          · have HF : Hid (FCk n len f 2) := ⟨0, HCK.out, by rw [if_pos rfl, if_pos h6]⟩
            go_wp2_with fail
            go_ret
            exact ⟨⟨2, rfl, HF.out⟩, HB1.out _⟩
          · go_wp2_with fail
            go_roundw
            case rel => exact ⟨1, by omega, by go_num, fun _ => h6, HB1.out _⟩
            case measure => simp [intOf]
        · obtain rfl : k = 1 := by omega
          have HF : Hid (FCk n len f 0) := ⟨0, HCK.out, by rw [if_pos rfl, if_neg (HK.out rfl)]⟩
          clear c0 c1
          go_wp2_with fail
          go_ret
          exact ⟨⟨0, rfl, HF.out⟩, HBx.out⟩
/-- What Form answers; the order's row is new and may be written. -/
def FormPost (K : Nat) (n : Int) (len : Nat) (f : Nat → Int) (e : Ending) (w' : World) : Prop :=
  ∃ c, FCk n len f c ∧ ((c ≠ 0 ∧ e = .returned (.tuple #[noOrder, .slice none 0 0, .int .i64 c])) ∨
    (c = 0 ∧ ∃ x bl bv, bst (nat f) len (per len [] (pw len - 1)) = some x ∧ e = .returned (.tuple #[.agg #[.int .i64 (len : Nat), .slice (some ⟨bl, 0, none⟩) len len], bv, .int .i64 0]) ∧ Own w' bl len (prt (nat f) x) ∧ K ≤ bl ∧ bl < w'.heap.size))
set_option maxHeartbeats 2000000 in
theorem form_any (n : Int) (a : Option Addr) (len cap : Nat) (f : Nat → Int) (w : World) (hl : len ≤ maxLen) (hr : Row w a len f) (hT : Tab w) :
    Calls Tryd.prog 11 #[.agg #[.int .i64 n, .slice a len cap]] w fun e w' => FormPost w.heap.size n len f e w' ∧ Below w.heap.size w w' := by
  have HR : Hid (Row w a len f) := hr
  have HT : Hid (Tab w) := hT
  obtain ⟨X1, hX1⟩ : ∃ X1, X1 = w.alloc (.cells #[.int .i64 n, .slice a len cap] 24) := ⟨_, rfl⟩
  obtain ⟨X2, hX2⟩ : ∃ X2, X2 = X1.alloc (.cells #[.int .i64 0, .slice none 0 0] 24) := ⟨_, rfl⟩
  obtain ⟨X3, HX3⟩ : ∃ X3, Hid (X3 = X2.alloc (.cells #[.int .i64 n, .slice a len cap] 24)) := ⟨_, rfl⟩
  have s1 : X1.heap.size = w.heap.size + 1 := by rw [hX1]; simp
  have s2 : X2.heap.size = w.heap.size + 2 := by rw [hX2]; simp [s1]
  have b1 : Below w.heap.size w X1 := by rw [hX1]; exact (Below.refl _ _).alloc (Nat.le_refl _) _
  have b2 : Below X1.heap.size X1 X2 := by rw [hX2]; exact (Below.refl _ _).alloc (Nat.le_refl _) _
  have b3 : Below X2.heap.size X2 X3 := by rw [HX3.out]; exact (Below.refl _ _).alloc (Nat.le_refl _) _
  have hH : Held X3 w.heap.size n a len cap f := by
    have h : Held X1 w.heap.size n a len cap f := by rw [hX1]; exact Held.box hr
    exact (h.step b2).step b3
  have hZ : ZBox X3 (w.heap.size + 1) := by
    have h : ZBox X2 (w.heap.size + 1) := by rw [hX2, ← s1]; exact ZBox.new X1
    exact h.step b3
  have e0 : X3.cell? ⟨w.heap.size + 2, 0, none⟩ = some (.int .i64 n) := by rw [HX3.out, ← s2]; simp
  have e1 : X3.cell? ⟨w.heap.size + 2, 1, none⟩ = some (.slice a len cap) := by rw [HX3.out, ← s2]; simp
  have HB3 : Hid (Below w.heap.size w X3) := Below.then b1 (Below.then b2 b3)
  have HX2 : Hid (X2 = (w.alloc (.cells #[.int .i64 n, .slice a len cap] 24)).alloc (.cells #[.int .i64 0, .slice none 0 0] 24)) := by show _ = _; rw [hX2, hX1]
  have x0 : X2.cell? ⟨w.heap.size, 0, none⟩ = some (.int .i64 n) := by rw [hX2]; exact cellS ((Below.refl _ _).alloc (Nat.le_refl _) _) (by rw [hX1]; exact (Held.box hr).c0)
  have x1 : X2.cell? ⟨w.heap.size, 1, none⟩ = some (.slice a len cap) := by rw [hX2]; exact cellS ((Below.refl _ _).alloc (Nat.le_refl _) _) (by rw [hX1]; exact (Held.box hr).c1)
  have HS2 : Hid (X2.heap.size = w.heap.size + 2) := s2
  clear hX1 hX2 s1 s2 b1 b2 b3 hr hT
  go_enter Tryd.func11, Tryd.ntmps11
  go_wp2_with fail
  rw [← HX2.out]
  go_wp2_with fail
  rw [← HX3.out]
  have HH3 : Hid (∀ w', Below X3.heap.size X3 w' → Held w' w.heap.size n a len cap f ∧ ZBox w' (w.heap.size + 1)) := fun w' hb => ⟨hH.step hb, hZ.step hb⟩
  have HE : Hid (X3.cell? ⟨w.heap.size + 2, 0, none⟩ = some (.int .i64 n) ∧ X3.cell? ⟨w.heap.size + 2, 1, none⟩ = some (.slice a len cap)) := ⟨e0, e1⟩
  clear hH hZ e0 e1 x0 x1 HX2
  try rw [HS2.out]
  refine (check1_any n a len cap f (w.heap.size + 2) _ hl (HR.out.below HB3.out) HE.out.1 HE.out.2).mono ?_
  rintro e w1 ⟨⟨c, rfl, hc⟩, hb1⟩
  have HB1 : Hid (Below w.heap.size w w1) := Below.then HB3.out hb1
  have HC : Hid (FCk n len f c) := hc
  obtain ⟨hH1, hZ1⟩ := HH3.out _ hb1
  have HHZ : Hid (∀ w', Below w1.heap.size w1 w' → Held w' w.heap.size n a len cap f ∧ ZBox w' (w.heap.size + 1)) := fun w' hb => ⟨hH1.step hb, hZ1.step hb⟩
  clear hb1 hc HE HH3
  have c0 := hH1.c0
  have c1 := hH1.c1
  by_cases e0 : c = 0
  · subst e0
    obtain ⟨rfl, h6, hck⟩ := HC.out.good
    obtain ⟨_, h10, hrng, hord⟩ := hck.good
    have HG : Hid (∀ k, k < len → nat f k < 1024) := hrng.small2 h10
    have HRW : Hid (Row w1 a len (fun k => (nat f k : Nat))) := hrng.row hH1.row
    clear hck hrng hord hH1 hZ1
    go_wp2_with fail
    refine (formOf_any len a cap (nat f) _ h10 HG.out HRW.out (HT.out.step HB1.out)).mono ?_
    rintro e w2 ⟨⟨x, bl, bv, hx, rfl, hO, hbl1, hbl2, hbv⟩, hb2⟩
    obtain ⟨va, vn, vc, rfl⟩ : ∃ va vn vc, bv = .slice va vn vc := by
      rcases hbv.2 with ⟨q0, _⟩ | ⟨q, cap', cur, q1, _⟩
      · exact ⟨_, _, _, q0⟩
      · exact ⟨_, _, _, q1⟩
    obtain ⟨w3, HW3⟩ : ∃ w3, Hid (w3 = w2.alloc (.cells #[.int .i64 (len : Nat), .slice (some ⟨bl, 0, none⟩) len len] 24)) := ⟨_, rfl⟩
    have hb3 : Below w2.heap.size w2 w3 := by rw [HW3.out]; exact (Below.refl _ _).alloc (Nat.le_refl _) _
    have g0 : w3.cell? ⟨w2.heap.size, 0, none⟩ = some (.int .i64 (len : Nat)) := by rw [HW3.out]; simp
    have g1 : w3.cell? ⟨w2.heap.size, 1, none⟩ = some (.slice (some ⟨bl, 0, none⟩) len len) := by rw [HW3.out]; simp
    obtain ⟨_, hZ3⟩ := HHZ.out _ (Below.then hb2 hb3)
    have HZ3 : Hid (ZBox w3 (w.heap.size + 1)) := hZ3
    obtain ⟨z0, z1, z2, z3⟩ := hZ3
    have HO3 : Hid (Own w3 bl len (prt (nat f) x)) := hO.oth (OthS.below (fun _ => False) hb3) id
    have HX : Hid (bst (nat f) len (per len [] (pw len - 1)) = some x) := hx
    have HB4 : Hid (Below w.heap.size w w3) := Below.then HB1.out (Below.then hb2 hb3)
    have HBL : Hid (w1.heap.size ≤ bl ∧ bl < w3.heap.size) := ⟨by omega, Nat.lt_of_lt_of_le hbl2 hb3.size⟩
    have hw1 := HB1.out.size
    have hz1 : w.heap.size + 1 < w1.heap.size := by
      obtain ⟨_, hq⟩ := HHZ.out _ (Below.refl _ _)
      exact World.block_lt_of_cell? _ _ hq.1
    have HL1 : Hid (w.heap.size + 1 < w1.heap.size) := hz1
    clear hx hO hbl1 hbl2 hbv hb2 hb3 c0 c1 HHZ hw1 hz1
    rw [HW3.out] at g0 g1 z0 z1 z2 z3
    go_wp2_with fail
    rw [← HW3.out]
    rw [← HW3.out] at z0 z1 z2 z3
    refine bodyPost_ret (v := .tuple #[.agg #[.int .i64 (len : Nat), .slice (some ⟨bl, 0, none⟩) len len], .slice va vn vc, .int .i64 0]) (by simp [results, Tryd.results11, go_sem, z0, z1]) rfl ⟨⟨0, HC.out, .inr ⟨rfl, x, bl, _, HX.out, rfl, fun k hk => ?_, ?_, ?_⟩⟩, set2B HB4.out (by omega)⟩
    · obtain ⟨q1, q2⟩ := HO3.out k hk
      have h1 := HBL.out
      have h2 := HL1.out
      rw [World.frozen?_setCell, World.frozen?_setCell, World.cell?_setCell_other _ _ _ _ (fun e => by injection e with e1; omega), World.cell?_setCell_other _ _ _ _ (fun e => by injection e with e1; omega)]
      exact ⟨q1, q2⟩
    · have h1 := HBL.out
      have h2 := HL1.out
      omega
    · have h1 := HBL.out
      simpa using h1.2
  · have hne : (c != 0) = true := by simpa using e0
    obtain ⟨z0, z1, z2, z3⟩ := hZ1
    clear hH1
    go_wp2_with fail
    exact bodyPost_ret (v := .tuple #[noOrder, .slice none 0 0, .int .i64 c]) (by simp [results, Tryd.results11, go_sem, noOrder, z0, z1]) rfl ⟨⟨c, HC.out, .inl ⟨e0, rfl⟩⟩, set2B HB1.out (by omega)⟩
end Go.Proofs.YtinblbkglkhjmaaDoor
namespace Go.Proofs.YtinblbkglkhjmaaDoor
open Go.RowKit

theorem lnVals_at (g : Nat → Nat) (n : Nat) : ∀ (xs : List (Option Addr × Nat × Nat)) (i : Nat) (x : Option Addr × Nat × Nat), xs[i]? = some x → (lnVals g n xs)[i * 2]? = some (encR n x) ∧ (lnVals g n xs)[i * 2 + 1]? = some (.int .u64 (hasK g n x.2.2 : Nat))
  | y :: xs, 0, x, h => by
    simp at h; subst h
    exact ⟨rfl, rfl⟩
  | y :: xs, i + 1, x, h => by
    have := lnVals_at g n xs i x (by simpa using h)
    have e : lnVals g n (y :: xs) = encR n y :: .int .u64 (hasK g n y.2.2 : Nat) :: lnVals g n xs := rfl
    rw [e, show (i + 1) * 2 = i * 2 + 1 + 1 by omega, show i * 2 + 1 + 1 + 1 = (i * 2 + 1) + 1 + 1 by omega]
    simp only [List.getElem?_cons_succ]
    exact this
theorem Lin.lnr {W : World} {Z : Nat} {v : Value} {g : Nat → Nat} {n N : Nat} {xs : List (Option Addr × Nat × Nat)} (h : Lin W Z v g n xs) (hx : xs.map (fun x => x.2.2) = List.range N) (hN : 0 < N) :
    ∃ b cap T, v = .slice (some ⟨b, 0, none⟩) N cap ∧ LnR W b N n T (hasK g n) ∧ ∀ i, i < N → Row W (T i).1 n (fun j => (nP g n i j : Nat)) := by
  have hl : xs.length = N := by have := congrArg List.length hx; simpa using this
  subst hl
  have hown := h.own
  obtain ⟨b, cap, rfl⟩ := owns_form hown hN
  have at' : ∀ i, i < xs.length → ∃ x, xs[i]? = some x ∧ x.2.2 = i := fun i hi => by
    refine ⟨xs[i], List.getElem?_eq_getElem hi, ?_⟩
    have := congrArg (fun l => l[i]?) hx
    simp [List.getElem?_eq_getElem hi, List.getElem?_range hi] at this
    exact this
  refine ⟨b, cap, fun i => ((xs.getD i (none, 0, 0)).1, (xs.getD i (none, 0, 0)).2.1), rfl, ⟨fun i hi => ?_, fun i hi => ?_⟩, fun i hi => ?_⟩
  · obtain ⟨x, e, _⟩ := at' i hi
    rw [hown.cellAt (i * 2) (by omega), (lnVals_at g n xs i x e).1]
    have e4 : xs.getD i (none, 0, 0) = x := by rw [List.getD_eq_getElem?_getD, e]; rfl
    simp only [e4]; rfl
  · obtain ⟨x, e, e2⟩ := at' i hi
    rw [hown.cellAt (i * 2 + 1) (by omega), (lnVals_at g n xs i x e).2, e2]
  · obtain ⟨x, e, e2⟩ := at' i hi
    have h2 := (h.row x (List.mem_of_getElem? e)).2
    obtain ⟨a', c', e3, hr⟩ := owns_row h2
    cases e3
    have e4 : xs.getD i (none, 0, 0) = x := by rw [List.getD_eq_getElem?_getD, e]; rfl
    simp only [e4]
    rw [← e2]
    exact hr
theorem map_ix {l : List Nat} {G : Nat → Value} {i : Nat} (hi : i < l.length) : (l.map G)[i]? = some (G (ix l i)) := by
  unfold ix
  rw [List.getElem?_map, List.getD_eq_getElem?_getD, List.getElem?_eq_getElem hi]; rfl
/-- What check must answer. -/
def SCk (n : Int) (len : Nat) (f : Nat → Int) (c : Int) : Prop := ∃ c0, Chk n len f c0 ∧ c = if c0 = 0 then (if 7 < n then 2 else 0) else c0
theorem SCk.one {n : Int} {len : Nat} {f : Nat → Int} {c c' : Int} (h : SCk n len f c) (h' : SCk n len f c') : c = c' := by
  obtain ⟨d, h1, rfl⟩ := h
  obtain ⟨d', h2, rfl⟩ := h'
  rw [Chk.unique h1 h2]
theorem SCk.good {n : Int} {len : Nat} {f : Nat → Int} (h : SCk n len f 0) : n = (len : Nat) ∧ len ≤ 7 ∧ Chk (len : Nat) len f 0 := by
  obtain ⟨d, h1, h2⟩ := h
  by_cases e : d = 0
  · subst e
    rw [if_pos rfl] at h2
    have hn := h1.good.1
    by_cases e2 : 7 < n
    · rw [if_pos e2] at h2; cases h2
    · subst hn
      exact ⟨rfl, by omega, h1⟩
  · rw [if_neg e] at h2; exact absurd h2.symm e
theorem rcheck_any (n : Int) (a : Option Addr) (len cap : Nat) (f : Nat → Int) (w : World) (hl : len ≤ maxLen) (hr : Row w a len f) :
    Calls Tryd.prog 30 #[.agg #[.int .i64 n, .slice a len cap]] w fun e w' => (∃ c : Int, e = .returned (.int .i64 c) ∧ SCk n len f c) ∧ Below w.heap.size w w' := by
  have HR := (show Hid (Row w a len f) from hr)
  obtain ⟨w1, HW1⟩ : ∃ w1, Hid (w1 = w.alloc (.cells #[.int .i64 n, .slice a len cap] 24)) := ⟨_, rfl⟩
  have hb1 : Below w.heap.size w w1 := by rw [HW1.out]; exact (Below.refl _ _).alloc (Nat.le_refl _) _
  have c0 : w1.cell? ⟨w.heap.size, 0, none⟩ = some (.int .i64 n) := by rw [HW1.out]; simp
  have c1 : w1.cell? ⟨w.heap.size, 1, none⟩ = some (.slice a len cap) := by rw [HW1.out]; simp
  have HB1 : Hid (Below w.heap.size w w1) := hb1
  clear hr hb1
  go_enter Tryd.func30, Tryd.ntmps30
  go_wp2_with fail
  rw [← HW1.out]
  go_wp2_with fail
  refine (check_any n a len cap f _ hl (HR.out.below HB1.out)).mono ?_
  rintro e w2 ⟨⟨c, rfl, hc⟩, hb2⟩
  have HB2 : Hid (Below w.heap.size w w2) := Below.then HB1.out hb2
  have d0 : w2.cell? ⟨w.heap.size, 0, none⟩ = some (.int .i64 n) := (hb2.cell (World.block_lt_of_cell? _ _ c0)).trans c0
  clear hb2
  by_cases e0 : c = 0
  · subst e0
    have h0 : ((0 : Int) != 0) = false := rfl
    by_cases h7 : 7 < n
    · have HF : Hid (SCk n len f 2) := ⟨0, hc, by rw [if_pos rfl, if_pos h7]⟩
      clear hc
      go_wp2_with fail
      go_ret
      exact ⟨⟨2, rfl, HF.out⟩, HB2.out⟩
    · have HF : Hid (SCk n len f 0) := ⟨0, hc, by rw [if_pos rfl, if_neg h7]⟩
      clear hc
      go_wp2_with fail
      go_ret
      exact ⟨⟨0, rfl, HF.out⟩, HB2.out⟩
  · have h0 : (c != 0) = true := by simpa using e0
    have HF : Hid (SCk n len f c) := ⟨c, hc, by rw [if_neg e0]⟩
    clear hc
    go_wp2_with fail
    go_ret
    exact ⟨⟨c, rfl, HF.out⟩, HB2.out⟩
end Go.Proofs.YtinblbkglkhjmaaDoor
