/-
  What quotient.Least answers, whatever it is handed. No condition but that slices read as slices of rows.
  What ofPairs answers: the least congruences of two elements each, the same one once. Conditions: at most forty elements.
-/
import Derived.Test.YthhnngmfbbljaaaGreatTogP
import Derived.Test.YthhnngmfbbljaaaGreatShfP
namespace Go.Proofs.YthhnngmfbbljaaaGreat
open Go.RowKit
set_option maxRecDepth 100000

theorem prow_oneP {w : World} {t : TypeId} {x y : Nat} : PRow (w.alloc (.cells #[.int .i64 (x : Nat), .int .i64 (y : Nat)] t)) (some ⟨w.heap.size, 0, none⟩) [(x, y)].length (pairAt [(x, y)]) := fun k hk => by
  refine ⟨w.heap.size, 0, rfl, ?_, ?_⟩
  all_goals
    obtain rfl : k = 0 := by simp at hk; omega
    simp [pairAt]
/-- What Least must answer: the error and the list. -/
def LsIs (n : Int) (la : Nat) (SA : Nat → Option Addr × Nat × Nat) (FA : Nat → Nat → Int) (lb : Nat) (SB : Nat → Option Addr × Nat × Nat) (FB : Nat → Nat → Int) (x y : Int) (B0 : Nat) (w' : World) (c : Int) (v : Value) : Prop :=
  (c ≠ 0 ∧ LCk n la SA FA lb SB FB c ∧ v = .slice none 0 0) ∨ (LCk n la SA FA lb SB FB 0 ∧
    ((c = 3 ∧ ¬ (pnt x n = true ∧ pnt y n = true) ∧ v = .slice none 0 0) ∨
     (c = 0 ∧ (pnt x n = true ∧ pnt y n = true) ∧ ∃ B d, v = .slice (some ⟨B, 0, none⟩) n.toNat n.toNat ∧ LeastC n.toNat (nat2 FA) (nat2 FB) [(x.toNat, y.toNat)] d ∧ Own w' B n.toNat (nbr d) ∧ B0 ≤ B)))

end Go.Proofs.YthhnngmfbbljaaaGreat
namespace Go.Proofs.YthhnngmfbbljaaaGreat
open Go.RowKit Go.Maps Go.WideMaps
set_option maxRecDepth 100000

theorem put_new {w0 w : World} {base S : Nat} {m : Option Nat} {D : DataW Unit} {v : Value} {r : Nat → Nat} {n q : Nat} {G : Nat → Nat → Nat} (R : Nat) (g : Nat → Nat) (h40 : q ≤ 40) (h0 : 0 < q) (hn : n ≤ 999) (hg : ∀ i, i < q → g i ≤ 1000)
    (h : SB w0 base S m D v r n q G) (hb : Below w0.heap.size w0 w) (hR : w0.heap.size ≤ R) (hO : Own w R q g) :
    Calls Tryz.prog 59 #[.pointer (some ⟨S, 0, none⟩), .slice (some ⟨R, 0, none⟩) q q] w fun e w' => e = .returned (.tuple #[]) ∧ (∃ m' D' v' r' n' G', SB w' base S m' D' v' r' n' q G' ∧ ((n' = n ∧ G' = G ∧ ∃ j, j < n ∧ ∀ i, i < q → G j i = g i) ∨ (n' = n + 1 ∧ G' = (fun j => if j = n then g else G j) ∧ ∀ j, j < n → ¬ ∀ i, i < q → G j i = g i))) ∧ Below base w w' := by
  have hS := h.lt
  have hB := h.base_le
  refine put_any R g w h40 hn hg (h.step hb) ⟨by omega, hO.lt h0⟩ (by omega) (fun e => ?_) (fun Bm e => ?_) hO
  · have := (h.rows.own.lt _ e.symm).2; omega
  · have := (h.map Bm e).1.lt; omega
/-- A list is that of the least congruence of pairs. -/
def Kn (q : Nat) (m j : Nat → Nat → Nat) (L : List (Nat × Nat)) (g : Nat → Nat) : Prop := ∃ c, LeastC q m j L c ∧ ∀ i, i < q → g i = nbr c i
theorem Kn.one {q : Nat} {m j : Nat → Nat → Nat} {L : List (Nat × Nat)} {g h : Nat → Nat} (hg : Kn q m j L g) (hh : Kn q m j L h) : ∀ i, i < q → g i = h i := by
  obtain ⟨c, hc, ec⟩ := hg
  obtain ⟨d, hd, ed⟩ := hh
  obtain ⟨k1, k2⟩ := hc.one hd
  exact fun i hi => by rw [ec i hi, ed i hi]; exact nbr_same k1 k2 i hi
theorem Kn.congr {q : Nat} {m j : Nat → Nat → Nat} {L : List (Nat × Nat)} {g h : Nat → Nat} (hg : Kn q m j L g) (e : ∀ i, i < q → h i = g i) : Kn q m j L h := by
  obtain ⟨c, hc, ec⟩ := hg
  exact ⟨c, hc, fun i hi => by rw [e i hi, ec i hi]⟩
theorem CR.base {w : World} {base base' : Nat} {v : Value} {r : Nat → Nat} {n Wn : Nat} {G : Nat → Nat → Nat} (h : CR w base v r n Wn G) (hb : base' ≤ base) : CR w base' v r n Wn G :=
  ⟨owns_base h.own hb, h.rows, fun j hj => ⟨Nat.le_trans hb (h.lt j hj).1, (h.lt j hj).2⟩⟩
theorem clsN_le' (c : Nat → Nat) (x : Nat) : clsN c x ≤ x := cntB_le _ _
theorem nbr_le' (c : Nat → Nat) (x : Nat) : nbr c x ≤ x := Nat.le_trans (nbr_rise c x) (clsN_le' c x)
/-- How many pairs there are. -/
def tri : Nat → Nat
  | 0 => 0
  | x + 1 => tri x + x
theorem tri_mono {x y : Nat} (h : x ≤ y) : tri x ≤ tri y := by
  induction h with
  | refl => exact Nat.le_refl _
  | step _ ih => exact Nat.le_trans ih (Nat.le_add_right _ _)
theorem tri_le {x : Nat} (h : x ≤ 40) : tri x ≤ 780 := Nat.le_trans (tri_mono h) (by decide)
/-- What is on the shelf of the least congruences of two elements each, ahead of x and y. -/
structure OP (q : Nat) (m j : Nat → Nat → Nat) (x y n : Nat) (G : Nat → Nat → Nat) : Prop where
  come : ∀ a, a < n → ∃ x' y', y' < x' ∧ x' < q ∧ Kn q m j [(x', y')] (G a)
  all : ∀ x' y', y' < x' → x' < q → (x' < x ∨ x' = x ∧ y' < y) → ∃ a, a < n ∧ Kn q m j [(x', y')] (G a)
  diff : ∀ a b, a < b → b < n → ¬ ∀ i, i < q → G a i = G b i
  le : n ≤ tri x + y
theorem OP.start (q : Nat) (m j : Nat → Nat → Nat) (G : Nat → Nat → Nat) : OP q m j 0 0 0 G :=
  ⟨fun a h => absurd h (Nat.not_lt_zero _), fun x' y' _ _ h => by omega, fun a b _ h => absurd h (Nat.not_lt_zero _), Nat.zero_le _⟩
theorem OP.next {q : Nat} {m j : Nat → Nat → Nat} {x n : Nat} {G : Nat → Nat → Nat} (h : OP q m j x x n G) : OP q m j (x + 1) 0 n G :=
  ⟨h.come, fun x' y' h1 h2 h3 => h.all x' y' h1 h2 (by omega), h.diff, by have := h.le; show n ≤ tri x + x + 0; omega⟩
theorem OP.put {q : Nat} {m j : Nat → Nat → Nat} {x y n n' : Nat} {G G' : Nat → Nat → Nat} {g : Nat → Nat} (h : OP q m j x y n G) (hx : x < q) (hy : y < x) (hg : Kn q m j [(x, y)] g)
    (hp : (n' = n ∧ G' = G ∧ ∃ j, j < n ∧ ∀ i, i < q → G j i = g i) ∨ (n' = n + 1 ∧ G' = (fun j => if j = n then g else G j) ∧ ∀ j, j < n → ¬ ∀ i, i < q → G j i = g i)) : OP q m j x (y + 1) n' G' := by
  rcases hp with ⟨rfl, rfl, a, ha, e⟩ | ⟨rfl, rfl, hne⟩
  · refine ⟨h.come, fun x' y' h1 h2 h3 => ?_, h.diff, by have := h.le; omega⟩
    by_cases hxy : x' = x ∧ y' = y
    · obtain ⟨rfl, rfl⟩ := hxy; exact ⟨a, ha, hg.congr e⟩
    · exact h.all x' y' h1 h2 (by omega)
  · refine ⟨fun a ha => ?_, fun x' y' h1 h2 h3 => ?_, fun a b hab hb => ?_, by have := h.le; omega⟩
    · by_cases e : a = n
      · simp only [e, if_true]; exact ⟨x, y, hy, hx, hg⟩
      · simp only [e, if_false]; exact h.come a (by omega)
    · by_cases hxy : x' = x ∧ y' = y
      · obtain ⟨rfl, rfl⟩ := hxy; exact ⟨n, by omega, by simp only [if_true]; exact hg⟩
      · obtain ⟨a, ha, hk⟩ := h.all x' y' h1 h2 (by omega)
        exact ⟨a, by omega, by simp only [show ¬ a = n by omega, if_false]; exact hk⟩
    · by_cases e : b = n
      · simp only [e, if_true, show ¬ a = n by omega, if_false]; exact hne a (by omega)
      · simp only [e, if_false, show ¬ a = n by omega]; exact h.diff a b hab (by omega)
set_option maxHeartbeats 4000000 in
theorem ofPairs_any (q b off ca b' off' cb : Nat) (R R' : Nat → Nat × Nat × Nat) (m j : Nat → Nat → Nat) (w : World) (h1 : 1 ≤ q) (h40 : q ≤ 40) (hm : Inn q m) (hj : Inn q j) (ht : Tb w b off q R m) (ho : Tb w b' off' q R' j) :
    Calls Tryz.prog 58 #[.agg #[.int .i64 q, .slice (some ⟨b, off, none⟩) q ca, .slice (some ⟨b', off', none⟩) q cb]] w fun e w' => (∃ v r n G, e = .returned v ∧ CR w' w.heap.size v r n q G ∧ OP q m j q 0 n G) ∧ Below w.heap.size w w' := by
  obtain ⟨W, HW⟩ : ∃ W, Hid ((w.alloc (.cells #[.int .i64 q, .slice (some ⟨b, off, none⟩) q ca, .slice (some ⟨b', off', none⟩) q cb] 27)).alloc (.cells #[.map none, .slice none 0 0] 90) = W) := ⟨_, rfl⟩
  have HBW : Hid (Below w.heap.size w W) := by rw [← HW.out]; exact ((Below.refl _ _).alloc (Nat.le_refl _) _).alloc (by simp) _
  have hWs : W.heap.size = w.heap.size + 2 := by rw [← HW.out]; simp
  have HLW : Hid (LB W w.heap.size (q : Int) (some ⟨b, off, none⟩) q ca (some ⟨b', off', none⟩) q cb) := by
    rw [← HW.out]
    exact (LB.new w (q : Int) (some ⟨b, off, none⟩) q ca (some ⟨b', off', none⟩) q cb).keep (N := w.heap.size + 1) ((Below.refl _ _).alloc (by simp) _) (by omega)
  have HTW : Hid (Tb w b off q R m) := ht
  have HTV : Hid (Tb w b' off' q R' j) := ho
  have HM : Hid (Inn q m) := hm
  have HJ : Hid (Inn q j) := hj
  have HS0 : Hid (SB W (w.heap.size + 1) (w.heap.size + 1) none (.map []) (.slice none 0 0) (fun _ => 0) 0 q (fun _ _ => 0)) := by
    rw [← HW.out]
    exact SB.new q (Nat.le_refl _) (by simp) (by simp) (by simp) (by simp) _
  clear ht ho hm hj
  go_enter Tryz.func58, Tryz.ntmps58
  go_upto_region 2 with fail
  rw [HW.out]
  clear HW
  have k0 := HLW.out.1
  go_wp2_with fail
  clear k0
  go_loopw [8] (fun t wx => ∃ (x : Nat) (mm : Option Nat) (D : DataW Unit) (v : Value) (r : Nat → Nat) (n : Nat) (G : Nat → Nat → Nat), x ≤ q ∧ t = .int .i64 x ∧ Hid (SB wx (w.heap.size + 1) (w.heap.size + 1) mm D v r n q G) ∧ Hid (OP q m j x 0 n G) ∧ Hid (Below (w.heap.size + 1) W wx)) (fun t _ => q - (intOf t).toNat)
  case atStart => exact ⟨0, _, _, _, _, _, _, Nat.zero_le _, rfl, HS0.out, OP.start _ _ _ _, Below.refl _ _⟩
  case round =>
    obtain ⟨x, mm, D, v, r, n, G, hx, rfl, HS, HP, HB⟩ := hrel
    clear HS0
    by_cases hlt : x < q
    · have hlt' : (x : Int) < (q : Int) := by omega
      go_wp2_with fail
      go_loopw [12] (fun t wx => ∃ (y : Nat) (mm : Option Nat) (D : DataW Unit) (v : Value) (r : Nat → Nat) (n : Nat) (G : Nat → Nat → Nat), y ≤ x ∧ t = .int .i64 y ∧ Hid (SB wx (w.heap.size + 1) (w.heap.size + 1) mm D v r n q G) ∧ Hid (OP q m j x y n G) ∧ Hid (Below (w.heap.size + 1) W wx)) (fun t _ => x - (intOf t).toNat)
      case atStart => exact ⟨0, _, _, _, _, _, _, Nat.zero_le _, rfl, HS.out, HP.out, HB.out⟩
      case round =>
        clear HS HP HB
        obtain ⟨y, mm, D, v, r, n, G, hy, rfl, HS, HP, HB⟩ := hrel
        by_cases hyl : y < x
        · have hyl' : (y : Int) < (x : Int) := by omega
          have HLX : LB wr w.heap.size (q : Int) (some ⟨b, off, none⟩) q ca (some ⟨b', off', none⟩) q cb := HLW.out.keep HB.out (by omega)
          have k0 := HLX.1
          have k1 := HLX.2.1
          have k2 := HLX.2.2
          clear HLX
          go_wp2_with fail
          have HBX : Hid (Below w.heap.size w wr) := HBW.out.trans (HB.out.mono (Nat.le_succ _))
          have hb3 : Below wr.heap.size wr (wr.alloc (.cells #[.int .i64 (x : Nat), .int .i64 (y : Nat)] 94)) := (Below.refl _ _).alloc (Nat.le_refl _) _
          have hb4 : Below w.heap.size w (wr.alloc (.cells #[.int .i64 (x : Nat), .int .i64 (y : Nat)] 94)) := HBX.out.trans (hb3.mono HBX.out.size)
          refine (together_any q b off ca b' off' cb R R' m j _ [(x, y)] _ h1 h40 HM.out HJ.out (HTW.out.step hb4) (HTV.out.step hb4) (.inr ⟨_, _, _, rfl, prow_oneP⟩) (by simp) (fun p hp => by
            obtain rfl := List.mem_singleton.1 hp
            exact ⟨hlt, by show y < q; omega⟩)).mono ?_
          rintro e w4 ⟨⟨B, d, rfl, hd, ho4, hB⟩, hb5⟩
          have HB5 : Hid (Below wr.heap.size wr w4) := Below.then hb3 hb5
          have HBB : Hid (wr.heap.size ≤ B) := Nat.le_trans hb3.size hB
          have HKN : Hid (Kn q m j [(x, y)] (nbr d)) := ⟨d, hd, fun _ _ => rfl⟩
          have HO4 : Hid (Own w4 B q (nbr d)) := ho4
          have hn999 : n ≤ 999 := by
            have := HP.out.le
            have := tri_le (x := x + 1) (by omega)
            have e : tri (x + 1) = tri x + x := rfl
            omega
          clear hd ho4 hB hb5 hb3 hb4 k0 k1 k2
          go_wp2_with fail
          refine (put_new B (nbr d) h40 h1 hn999 (fun i hi => Nat.le_trans (nbr_le' d i) (by omega)) HS.out HB5.out HBB.out HO4.out).mono ?_
          rintro e w6 ⟨rfl, ⟨m6, D6, v6, r6, n6, G6, hs6, hp6⟩, hb6⟩
          have HS6 : Hid (SB w6 (w.heap.size + 1) (w.heap.size + 1) m6 D6 v6 r6 n6 q G6) := hs6
          have HP6 : Hid (OP q m j x (y + 1) n6 G6) := HP.out.put hlt hyl HKN.out hp6
          have HB6 : Hid (Below (w.heap.size + 1) W w6) := HB.out.trans ((HB5.out.mono (Nat.le_of_lt HS.out.lt)).trans hb6)
          clear hs6 hp6 hb6 HS HP HB HB5 HBB HKN HO4 HBX
          go_wp2_with fail
          go_roundw
          case rel => exact ⟨y + 1, m6, D6, v6, r6, n6, G6, by omega, by go_num, HS6.out, HP6.out, HB6.out⟩
          case measure => simp [intOf]; omega
        · obtain rfl : y = x := by omega
          have hno : ¬ ((y : Int) < (y : Int)) := by omega
          go_wp2_with fail
          go_roundw
          case rel => exact ⟨y + 1, _, _, _, _, _, _, by omega, by go_num, HS.out, HP.out.next, HB.out⟩
          case measure => simp [intOf]; omega
    · obtain rfl : x = q := by omega
      have hno : ¬ ((x : Int) < (x : Int)) := by omega
      have l1 := HS.out.c1
      have HF : Hid (CR wr w.heap.size v r n x G) := HS.out.rows.base (Nat.le_succ _)
      have HBF : Hid (Below w.heap.size w wr) := HBW.out.trans (HB.out.mono (Nat.le_succ _))
      go_wp2_with fail
      go_ret
      exact ⟨⟨v, rfl, r, n, G, HF.out, HP.out⟩, HBF.out⟩
end Go.Proofs.YthhnngmfbbljaaaGreat
