/-
  Zeta counts lists of points that rise or stay; at -1 it is what is undone at the greatest point (HALL). Plain facts: no Go text here. Conditions: an order of at most ten points.
-/
import Derived.Test.YtncjlfhgenmheabDoorPBeg
import Derived.Test.YtncjlfhgenmheabDoorMuP
namespace Go.Proofs.YtncjlfhgenmheabDoor
open Go.RowKit

def ones (_ : Nat) : Int := 1
theorem sumTo_castI (F : Nat → Nat) : ∀ n, ((sumTo F n : Nat) : Int) = sumI (fun k => (F k : Int)) n
  | 0 => rfl
  | n + 1 => by rw [sumTo, sumI, ← sumTo_castI F n]; omega
theorem en_stV {g : Nat → Nat} {n : Nat} : ∀ s u, ((en g n s u : Nat) : Int) = stV (blw g) ones n s u
  | 0, _ => rfl
  | s + 1, u => by
    rw [en, stV, sumTo_castI, up1]
    refine sumI_congr n fun l _ => ?_
    rw [← en_stV s l]
    show _ = if (g u).testBit l = true then _ else _
    cases (g u).testBit l <;> simp
theorem rk_n {g : Nat → Nat} {n : Nat} (hn : n ≤ 10) (hg : ∀ k, k < n → g k < pw n) (ho : Ord n g) : ∀ i, i < n → ht g n i ≤ n := fun i hi => by
  have := ht_lt_tops (g := g) hi; have := tops_upto hn hg ho; omega
theorem zet_byB {g : Nat → Nat} {n : Nat} (hn : n ≤ 10) (hg : ∀ k, k < n → g k < pw n) (ho : Ord n g) (z : Int) : zetV g n z = sumI (fun u => byB (z - 2) (stV (blw g) ones n) n u) n := by
  have ht := tops_upto hn hg ho
  unfold zetV adB byB
  rw [chs_len, Nat.add_sub_cancel, sumI_swap (fun u k => bn (z - 2) k * stV (blw g) ones n k u)]
  have e1 : sumI (fun j => ((nth (chs g n) (j + 1) : Nat) : Int) * bn (z - 2) j) (tops g n) = sumI (fun k => bn (z - 2) k * ((tot g n k : Nat) : Int)) (tops g n) :=
    sumI_congr _ fun k hk => by rw [chs_next hk, Int.mul_comm]
  rw [e1, ← sumI_cut (F := fun k => bn (z - 2) k * ((tot g n k : Nat) : Int)) (n + 1) (by omega) fun k h1 _ => by
    have : tot g n k = 0 := by
      rcases Nat.eq_zero_or_pos (tot g n k) with h | h
      · exact h
      · have := (tot_pos hn hg ho k).1 h; omega
    rw [this]; simp]
  refine sumI_congr _ fun k _ => ?_
  rw [sumI_mul, tot, sumTo_castI]
  congr 1
  exact sumI_congr _ fun u _ => en_stV k u
/-- Lists of points that rise or stay. -/
theorem zet_lists {g : Nat → Nat} {n : Nat} (hn : n ≤ 10) (hg : ∀ k, k < n → g k < pw n) (ho : Ord n g) {m : Nat} (hm : m ≤ 20) : zetV g n ((m : Int) + 2) = sumI (fun u => mmV (blw g) ones n m u) n := by
  rw [zet_byB hn hg ho]
  refine sumI_congr n fun u hu => ?_
  rw [mmV_byB (rk_ord hn hg ho) hn (rk_n hn hg ho) m (by omega) u hu]
  rw [show (m : Int) + 2 - 2 = (m : Int) by omega]
theorem und_is {g : Nat → Nat} {n : Nat} (hn : n ≤ 10) (hg : ∀ k, k < n → g k < pw n) (ho : Ord n g) {s V : Nat → Int} (h : ∀ i, i < n → s i = V i + up1 (blw g) n V i) {x : Nat} (hx : x < n) : V x = Uo (blw g) s n (ht g n) x :=
  Uo_one (rk_ord hn hg ho) (fun i hi => by have := h i hi; unfold up1 at this; omega) (ht g n x + 1) x hx (by omega)
/-- HALL. -/
theorem zet_hall {g : Nat → Nat} {n a b : Nat} (hn : n ≤ 10) (hg : ∀ k, k < n → g k < pw n) (ho : Ord n g) (ha : a < n) (hb : b < n) (hla : ∀ c, c < n → c ≠ a → (g c).testBit a = true) (hgb : ∀ c, c < n → c ≠ b → (g b).testBit c = true) : zetV g n (-1) = muO g n a b := by
  have hr := rk_ord hn hg ho
  have nx : ∀ z : Int, -25 ≤ z → z < 25 → ∀ i, i < n → byB (z + 1) (stV (blw g) ones n) n i = byB z (stV (blw g) ones n) n i + up1 (blw g) n (fun j => byB z (stV (blw g) ones n) n j) i := fun z h1 h2 i hi => byB_next hr hn (rk_n hn hg ho) h1 h2 hi
  have selfNo : ∀ c, c < n → (g c).testBit c = false := fun c hc => (ho c hc).1
  have u1 : ∀ i, i < n → byB (-1) (stV (blw g) ones n) n i = oneA a i := fun i hi => by
    have e1 := und_is hn hg ho (s := ones) (V := byB (-1) (stV (blw g) ones n) n) (fun i hi => by have := nx (-1) (by omega) (by omega) i hi; rw [show (-1 : Int) + 1 = 0 from rfl, byB_zero] at this; exact this) hi
    have e2 := und_is hn hg ho (s := ones) (V := oneA a) (fun i hi => by
      show (1 : Int) = oneA a i + sumI (fun j => if blw g j i = true then oneA a j else 0) n
      by_cases e : i = a
      · subst e
        have : sumI (fun j => if blw g j i = true then oneA i j else 0) n = 0 := (sumI_congr n fun j _ => by
          by_cases e2 : j = i
          · rw [e2]; simp [blw, selfNo i hi]
          · simp [oneA, e2]).trans (sumI_zero n)
        rw [this]; simp [oneA]
      · have h1 : sumI (fun j => if blw g j i = true then oneA a j else 0) n = sumI (fun j => if j = a then 1 else 0) n := sumI_congr n fun j _ => by
          by_cases e2 : j = a
          · rw [e2]; simp [blw, hla i hi e, oneA]
          · simp [oneA, e2]
        have h2 : ∀ m, a < m → sumI (fun j => if j = a then (1 : Int) else 0) m = 1 := by
          intro m
          induction m with
          | zero => intro h; exact absurd h (Nat.not_lt_zero _)
          | succ m ih =>
            intro h
            rw [sumI]
            by_cases e3 : m = a
            · rw [if_pos e3, (sumI_congr (G := fun _ => 0) m fun j hj => if_neg (by omega)), sumI_zero]; rfl
            · rw [if_neg e3, ih (by omega)]; rfl
        rw [h1, h2 n ha]; simp [oneA, e]) hi
    rw [e1, e2]
  have u2 : byB (-2) (stV (blw g) ones n) n b = muO g n a b := by
    refine und_is hn hg ho (s := oneA a) (V := byB (-2) (stV (blw g) ones n) n) (fun i hi => ?_) hb
    have := nx (-2) (by omega) (by omega) i hi
    rw [show (-2 : Int) + 1 = -1 from rfl, u1 i hi] at this
    exact this
  rw [zet_byB hn hg ho, show (-1 : Int) - 2 = -3 from rfl, ← u2, show (-2 : Int) = -3 + 1 from rfl, nx (-3) (by omega) (by omega) b hb]
  unfold up1
  have split : ∀ (F : Nat → Int) m, b < m → (∀ c, c < m → c ≠ b → (g b).testBit c = true) → sumI F m = F b + sumI (fun j => if blw g j b = true then F j else 0) m := by
    intro F m
    induction m with
    | zero => intro h; exact absurd h (Nat.not_lt_zero _)
    | succ m ih =>
      intro h hc
      rw [sumI, sumI]
      by_cases e : m = b
      · subst e
        have : sumI (fun j => if blw g j m = true then F j else 0) m = sumI F m := sumI_congr m fun j hj => by
          exact if_pos (hc j (by omega) (by omega))
        rw [this, show blw g m m = false from selfNo m hb]
        simp; omega
      · rw [ih (by omega) fun c h1 h2 => hc c (by omega) h2, show blw g m b = true from hc m (by omega) e, if_pos rfl]; omega
  exact split (fun j => byB (-3) (stV (blw g) ones n) n j) n hb hgb
end Go.Proofs.YtncjlfhgenmheabDoor
