/-
  HALL: Mu of two points is Euler of what is between them. No condition. No Go text here.
-/
import Derived.Test.YtgdbldfbhiaepabDoorPart
import Derived.Test.YtgdbldfbhiaepabDoorEulM
import Derived.Test.YtgdbldfbhiaepabDoorMuM
import Derived.Test.YtgdbldfbhiaepabDoorMuP
namespace Go.Proofs.YtgdbldfbhiaepabDoor
open Go.RowKit

theorem nth_snoc_old' {p : List Nat} {x i : Nat} (h : i < p.length) : nth (p ++ [x]) i = nth p i := by
  simp [nth, List.getElem?_append_left h]
theorem nth_snoc_new' (p : List Nat) (x : Nat) : nth (p ++ [x]) p.length = x := by simp [nth]
theorem tr_ordM {g : Nat → Nat} {n : Nat} (hn : n ≤ 10) (hg : ∀ k, k < n → g k < pw n) (ho : Ord n g) : Tr (blw g) n := fun a b c _ hb hc h1 h2 => by
  have hp := pw_le n hn
  have b1 : g b < 18446744073709551616 := by have := hg b hb; omega
  have b2 : g c < 18446744073709551616 := by have := hg c hc; omega
  exact (lack_zero _ _ b1 b2).1 ((ho c hc).2 b hb h2) a h1
/-- A sum over a set's points, in whatever way it is gone through. -/
theorem sumI_pts (S : Nat) (F : Nat → Int) : ∀ n, sumI (fun k => F (nth (pts S n) k)) (pts S n).length = sumI (fun l => if S.testBit l = true then F l else 0) n
  | 0 => rfl
  | n + 1 => by
    rw [sumI, ← sumI_pts S F n]
    cases h : S.testBit n
    · rw [pts_no h]; simp
    · rw [pts_yes h, List.length_append, List.length_singleton, sumI, nth_snoc_new']
      simp only [if_true]
      rw [sumI_congr _ fun k hk => by rw [nth_snoc_old' hk]]
theorem pts_bit {S n k : Nat} (h : k < (pts S n).length) : S.testBit (nth (pts S n) k) = true := by
  induction n generalizing k with
  | zero => simp [pts] at h
  | succ n ih =>
    cases hb : S.testBit n
    · rw [pts_no hb] at h ⊢; exact ih h
    · rw [pts_yes hb] at h ⊢
      rw [List.length_append, List.length_singleton] at h
      by_cases e : k < (pts S n).length
      · rw [nth_snoc_old' e]; exact ih e
      · obtain rfl : k = (pts S n).length := by omega
        rw [nth_snoc_new']; exact hb
/-- Those at even places less the others. -/
def sgn (s : Nat) : Int := sg (s + 1)
theorem sgn_succ (s : Nat) : sgn (s + 1) = -sgn s := by
  unfold sgn sg
  by_cases h : (s + 1) % 2 = 1
  · rw [if_pos h, if_neg (by omega)]
  · rw [if_neg h, if_pos (by omega)]; rfl
section
variable {h : Nat → Nat} {p : Nat}
/-- Chains that end at u, with signs. -/
def sE (h : Nat → Nat) (p T u : Nat) : Int := sumI (fun s => sgn s * (en h p s u : Int)) T
theorem sE_succ (T u : Nat) : sE h p (T + 1) u = 1 - sumI (fun l => if blw h l u = true then sE h p T l else 0) p := by
  have key : ∀ T, sE h p (T + 1) u = 1 - sumI (fun l => if blw h l u = true then sE h p T l else 0) p := fun T => by
    induction T with
    | zero =>
      have : sumI (fun l => if blw h l u = true then sE h p 0 l else 0) p = 0 := by
        rw [sumI_congr (G := fun _ => 0) p fun l _ => by simp [sE, sumI], sumI_zero]
      rw [this]
      simp [sE, sumI, sgn, sg, en]
    | succ T ih =>
      have e1 : sE h p (T + 1 + 1) u = sE h p (T + 1) u + sgn (T + 1) * (en h p (T + 1) u : Int) := rfl
      rw [e1, ih, sgn_succ]
      have e2 : ((en h p (T + 1) u : Nat) : Int) = sumI (fun l => if blw h l u = true then (en h p T l : Int) else 0) p := by
        rw [en, sumTo_cast]
        refine sumI_congr p fun l _ => ?_
        unfold blw
        split <;> rfl
      rw [e2]
      have e3 : sumI (fun l => if blw h l u = true then sE h p (T + 1) l else 0) p = sumI (fun l => if blw h l u = true then sE h p T l else 0) p + sgn T * sumI (fun l => if blw h l u = true then (en h p T l : Int) else 0) p := by
        rw [← sumI_mul, ← sumI_add]
        refine sumI_congr p fun l _ => ?_
        split
        · rfl
        · simp
      rw [e3, Int.neg_mul]
      omega
  exact key T
theorem sE_is (hp : p ≤ 10) (hg : ∀ k, k < p → h k < pw p) (ho : Ord p h) {u : Nat} (hu : u < p) : sE h p (tops h p) u = Uo (blw h) (fun _ => 1) p (ht h p) u := by
  have hr := rk_ord hp hg ho
  refine Uo_one hr (V := fun u => sE h p (tops h p) u) ?_ (ht h p u + 1) u hu (by omega)
  intro x hx
  show sE h p (tops h p) x = 1 - sumI (fun l => if blw h l x = true then sE h p (tops h p) l else 0) p
  rw [← sE_succ]
  have e1 : sE h p (tops h p + 1) x = sE h p (tops h p) x + sgn (tops h p) * (en h p (tops h p) x : Int) := rfl
  have e2 : en h p (tops h p) x = 0 := by
    have := (en_pos hp hg ho (tops h p) x hx).1
    have := ht_lt_tops (g := h) hx
    rcases Nat.eq_zero_or_pos (en h p (tops h p) x) with h0 | h0
    · exact h0
    · have := (en_pos hp hg ho (tops h p) x hx).1 h0
      omega
  rw [e1, e2]; simp
theorem eulL_chs : eulL (chs h p) (chs h p).length = sumI (fun u => sE h p (tops h p) u) p - 1 := by
  unfold eulL
  rw [show (chs h p).length = tops h p + 1 by rw [chs, chTo_len]]
  have e1 : ∀ k, k ≤ tops h p → sumI (fun i => sg i * (nth (chs h p) i : Int)) (k + 1) = sumI (fun s => sgn s * (tot h p s : Int)) k - 1 := fun k => by
    induction k with
    | zero => intro _; simp [sumI, nth, chs, chTo, sg]
    | succ k ih =>
      intro hk
      rw [sumI, ih (by omega), sumI]
      have : nth (chs h p) (k + 1) = tot h p k := by
        have hk' : k < tops h p := by omega
        simp [nth, chs, chTo, mapTo, hk']
      rw [this]
      show _ = sumI (fun s => sgn s * (tot h p s : Int)) k + sg (k + 1) * (tot h p k : Int) - 1
      omega
  rw [e1 _ (Nat.le_refl _)]
  congr 1
  have e2 : sumI (fun s => sgn s * (tot h p s : Int)) (tops h p) = sumI (fun s => sumI (fun u => sgn s * (en h p s u : Int)) p) (tops h p) := sumI_congr _ fun s _ => by
    rw [tot, sumTo_cast, sumI_mul]
  rw [e2, sumI_swap]
  rfl
end
section
variable {g : Nat → Nat} {n a b : Nat}
/-- The points between. -/
def btw (g : Nat → Nat) (n a b : Nat) : Nat := setBy (fun c => blw g a c && blw g c b) n
theorem btw_bit {l : Nat} (hl : l < n) : (btw g n a b).testBit l = (blw g a l && blw g l b) := by
  unfold btw; rw [setBy_bit]; simp [hl]
theorem prt_bit {L : List Nat} {i k : Nat} (hk : k < L.length) : blw (prt g L) k i = blw g (nth L k) (nth L i) := by
  unfold blw prt; rw [setBy_bit]; simp [hk]
theorem prt_lt (L : List Nat) (i : Nat) : prt g L i < pw L.length := setBy_lt _ _
theorem prt_ord (hn : n ≤ 10) (hg : ∀ k, k < n → g k < pw n) (ho : Ord n g) {S : Nat} : Ord (pts S n).length (prt g (pts S n)) := fun i hi => by
  have hlen := pts_len S n
  have hLi := nth_lt hi
  refine ⟨?_, fun j hj hb => ?_⟩
  · have := prt_bit (g := g) (i := i) hi
    unfold blw at this
    rw [this]; exact (ho _ hLi).1
  · have hp := pw_le (pts S n).length (by omega)
    have b1 := prt_lt (g := g) (pts S n) i
    have b2 := prt_lt (g := g) (pts S n) j
    refine (lack_zero _ _ (by omega) (by omega)).2 fun k hk => ?_
    have hkL : k < (pts S n).length := bit_of_lt b2 hk
    have t := (tr_ordM hn hg ho) (nth (pts S n) k) (nth (pts S n) j) (nth (pts S n) i) (nth_lt hkL) (nth_lt hj) hLi (by rw [← prt_bit hkL]; exact hk) (by rw [← prt_bit hj]; exact hb)
    have := prt_bit (g := g) (i := i) hkL
    unfold blw at this t
    rw [this]; exact t
theorem mu_between (hn : n ≤ 10) (hg : ∀ k, k < n → g k < pw n) (ho : Ord n g) (ha : a < n) {u : Nat} (hu : u < n) (hau : blw g a u = true) :
    muO g n a u = -(1 + sumI (fun l => if (blw g a l && blw g l u) = true then muO g n a l else 0) n) := by
  have hr := rk_ord hn hg ho
  have ht := tr_ordM hn hg ho
  have h1 : muO g n a u = oneA a u - sumI (fun l => if blw g l u = true then muO g n a l else 0) n := mu1_eq hr hu
  have hne : u ≠ a := fun e => by rw [e, irr hr ha] at hau; cases hau
  have e1 : sumI (fun l => if blw g l u = true then muO g n a l else 0) n = 1 + sumI (fun l => if (blw g a l && blw g l u) = true then muO g n a l else 0) n := by
    have e2 : sumI (fun l => if l = a then muO g n a l else 0) n = 1 := by
      rw [sumI_at n ha]; exact mu1_self hr ht ha
    rw [← e2, ← sumI_add]
    refine sumI_congr n fun l hl => ?_
    by_cases e : l = a
    · subst e; rw [irr hr ha, hau]; simp
    · cases hlu : blw g l u
      · simp [e]
      · cases hal : blw g a l
        · have h0 : muO g n a l = 0 := mu1_zero hr ht ha (Go.Proofs.YtgdbldfbhiaepabDoor.ht g n l + 1) l hl (by omega) (fun h => e h.symm) hal
          simp [e, h0]
        · simp [e]
  rw [h1, e1]
  have : oneA a u = 0 := by simp [oneA, hne]
  omega
theorem hall (hn : n ≤ 10) (hg : ∀ k, k < n → g k < pw n) (ho : Ord n g) (ha : a < n) (hb : b < n) (hab : blw g a b = true) :
    eulS (prt g (pts (btw g n a b) n)) (pts (btw g n a b) n).length (pw (pts (btw g n a b) n).length) = muO g n a b := by
  have hlen := pts_len (btw g n a b) n
  have hr := rk_ord hn hg ho
  have ht := tr_ordM hn hg ho
  generalize hL : pts (btw g n a b) n = L at *
  have hPo : Ord L.length (prt g L) := by rw [← hL]; exact prt_ord hn hg ho
  have hPl : ∀ k, k < L.length → prt g L k < pw L.length := fun k _ => prt_lt L k
  rw [← eul_eq (by omega) hPl hPo, eulL_chs]
  have hpr := rk_ord (show L.length ≤ 10 by omega) hPl hPo
  have key : ∀ u, u < L.length → sE (prt g L) L.length (tops (prt g L) L.length) u = -muO g n a (nth L u) := fun u hu => by
    rw [sE_is (by omega) hPl hPo hu]
    refine (Uo_one hpr (V := fun u => -muO g n a (nth L u)) (s := fun _ => 1) ?_ (Go.Proofs.YtgdbldfbhiaepabDoor.ht (prt g L) L.length u + 1) u hu (by omega)).symm
    intro x hx
    have hxn : nth L x < n := by rw [← hL] at hx ⊢; exact nth_lt hx
    have hxb : (btw g n a b).testBit (nth L x) = true := by rw [← hL] at hx ⊢; exact pts_bit hx
    rw [btw_bit hxn, Bool.and_eq_true] at hxb
    show -muO g n a (nth L x) = 1 - sumI (fun l => if blw (prt g L) l x = true then -muO g n a (nth L l) else 0) L.length
    rw [mu_between hn hg ho ha hxn hxb.1]
    have e1 : sumI (fun l => if blw (prt g L) l x = true then -muO g n a (nth L l) else 0) L.length = sumI (fun l => (fun y => if blw g y (nth L x) = true then -muO g n a y else 0) (nth L l)) L.length := sumI_congr _ fun l hl => by rw [prt_bit hl]
    have e0 := sumI_pts (btw g n a b) (fun y => if blw g y (nth L x) = true then -muO g n a y else 0) n
    rw [hL] at e0
    rw [e1, e0]
    have e2 : sumI (fun l => if (btw g n a b).testBit l = true then (fun y => if blw g y (nth L x) = true then -muO g n a y else 0) l else 0) n = -sumI (fun l => if (blw g a l && blw g l (nth L x)) = true then muO g n a l else 0) n := by
      rw [← sumI_neg]
      refine sumI_congr n fun l hl => ?_
      rw [btw_bit hl]
      cases h1 : blw g a l
      · simp
      · cases h2 : blw g l (nth L x)
        · simp [h2]
        · rw [ht l (nth L x) b hl hxn hb h2 hxb.2]; simp [h2]
    rw [e2]; omega
  rw [sumI_congr _ key, sumI_neg]
  have e3 : sumI (fun k => muO g n a (nth L k)) L.length = sumI (fun l => if (blw g a l && blw g l b) = true then muO g n a l else 0) n := by
    rw [← hL, sumI_pts]
    exact sumI_congr n fun l hl => by rw [btw_bit hl]
  rw [e3, mu_between hn hg ho ha hb hab]
  omega
end
end Go.Proofs.YtgdbldfbhiaepabDoor
