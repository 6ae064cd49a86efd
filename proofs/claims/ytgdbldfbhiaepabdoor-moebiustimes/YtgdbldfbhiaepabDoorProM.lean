/-
  Mu of pairs is the product. No condition. No Go text here.
-/
import Derived.Test.YtgdbldfbhiaepabDoorTimesM
import Derived.Test.YtgdbldfbhiaepabDoorMuM
import Derived.Test.YtgdbldfbhiaepabDoorMuP
namespace Go.Proofs.YtgdbldfbhiaepabDoor
open Go.RowKit

theorem sumI_split (F : Nat → Int) (a : Nat) : ∀ b, sumI F (a + b) = sumI F a + sumI (fun k => F (a + k)) b
  | 0 => by simp [sumI]
  | b + 1 => by rw [← Nat.add_assoc, sumI, sumI, sumI_split F a b]; omega
theorem sumI_prod (F G : Nat → Int) (m : Nat) (hm : 0 < m) : ∀ n, sumI (fun l => F (l / m) * G (l % m)) (n * m) = sumI F n * sumI G m
  | 0 => by simp [sumI]
  | n + 1 => by
    rw [Nat.succ_mul, sumI_split, sumI_prod F G m hm n, sumI, Int.add_mul]
    congr 1
    rw [← sumI_mul]
    refine sumI_congr m fun k hk => ?_
    have e1 : (n * m + k) / m = n := by
      rw [Nat.mul_comm, Nat.mul_add_div hm, Nat.div_eq_of_lt hk]; rfl
    have e2 : (n * m + k) % m = k := by
      rw [Nat.mul_comm, Nat.mul_add_mod, Nat.mod_eq_of_lt hk]
    rw [e1, e2]
section
variable {g1 g2 : Nat → Nat} {n1 n2 : Nat}
theorem upB_iff (g : Nat → Nat) (a b : Nat) : upB g a b = true ↔ a = b ∨ blw g a b = true := by
  unfold upB blw; simp
theorem div_lt {n1 n2 t : Nat} (ht : t < n1 * n2) : t / n2 < n1 := Nat.div_lt_of_lt_mul (by rw [Nat.mul_comm]; exact ht)
theorem pos_of {n1 n2 t : Nat} (ht : t < n1 * n2) : 0 < n2 := by
  rcases Nat.eq_zero_or_pos n2 with h | h
  · rw [h, Nat.mul_zero] at ht; omega
  · exact h
theorem same_of {n2 z t : Nat} (h1 : z / n2 = t / n2) (h2 : z % n2 = t % n2) : z = t := by
  rw [← Nat.div_add_mod z n2, ← Nat.div_add_mod t n2, h1, h2]
theorem blw_tm (hN : n1 * n2 ≤ 10) (h1 : ∀ k, k < n1 → g1 k < pw n1) (h2 : ∀ k, k < n2 → g2 k < pw n2) (hn1 : n1 ≤ 10) {z t : Nat} (hz : z < n1 * n2) (ht : t < n1 * n2) :
    blw (tmq g1 g2 n2) z t = true ↔ z ≠ t ∧ upB g1 (z / n2) (t / n2) = true ∧ upB g2 (z % n2) (t % n2) = true := by
  unfold blw
  rw [tm_eq hN h1 h2 hn1 ht, tms, setBy_bit]
  simp [hz, tmP, and_assoc]
theorem up_trans {g : Nat → Nat} {n a b c : Nat} (hn : n ≤ 10) (hg : ∀ k, k < n → g k < pw n) (ho : Ord n g) (_ha : a < n) (hb : b < n) (hc : c < n) (h1 : upB g a b = true) (h2 : upB g b c = true) : upB g a c = true := by
  rw [upB_iff] at *
  rcases h1 with rfl | h1
  · exact h2
  · rcases h2 with rfl | h2
    · exact .inr h1
    · right
      have hp := pw_le n hn
      have b1 : g b < 18446744073709551616 := by have := hg b hb; omega
      have b2 : g c < 18446744073709551616 := by have := hg c hc; omega
      exact (lack_zero _ _ b1 b2).1 ((ho c hc).2 b hb h2) a h1
theorem up_anti {g : Nat → Nat} {n a b : Nat} (hn : n ≤ 10) (hg : ∀ k, k < n → g k < pw n) (ho : Ord n g) (ha : a < n) (hb : b < n) (h1 : upB g a b = true) (h2 : upB g b a = true) : a = b := by
  rw [upB_iff] at *
  rcases h1 with rfl | h1
  · rfl
  · rcases h2 with rfl | h2
    · rfl
    · exfalso
      have r1 := rk_ord hn hg ho a b ha hb h1
      have r2 := rk_ord hn hg ho b a hb ha h2
      omega
theorem tm_lt (hN : n1 * n2 ≤ 10) (h1 : ∀ k, k < n1 → g1 k < pw n1) (h2 : ∀ k, k < n2 → g2 k < pw n2) (hn1 : n1 ≤ 10) {t : Nat} (ht : t < n1 * n2) : tmq g1 g2 n2 t < pw (n1 * n2) := by
  rw [tm_eq hN h1 h2 hn1 ht]; exact setBy_lt _ _
theorem tm_ord (hN : n1 * n2 ≤ 10) (h1 : ∀ k, k < n1 → g1 k < pw n1) (h2 : ∀ k, k < n2 → g2 k < pw n2) (hn1 : n1 ≤ 10) (hn2 : n2 ≤ 10) (o1 : Ord n1 g1) (o2 : Ord n2 g2) : Ord (n1 * n2) (tmq g1 g2 n2) := fun t ht => by
  have hp := pos_of ht
  refine ⟨?_, fun s hs hb => ?_⟩
  · cases hc : (tmq g1 g2 n2 t).testBit t
    · rfl
    · exact absurd rfl ((blw_tm hN h1 h2 hn1 ht ht).1 hc).1
  · have hpN := pw_le (n1 * n2) hN
    have hsm := tm_lt hN h1 h2 hn1 hs
    have htm := tm_lt hN h1 h2 hn1 ht
    refine (lack_zero _ _ (by omega) (by omega)).2 fun z hz => ?_
    have hzN : z < n1 * n2 := bit_of_lt hsm hz
    have k1 := (blw_tm hN h1 h2 hn1 hzN hs).1 hz
    have k2 := (blw_tm hN h1 h2 hn1 hs ht).1 hb
    refine (blw_tm hN h1 h2 hn1 hzN ht).2 ⟨fun e => ?_, up_trans hn1 h1 o1 (div_lt hzN) (div_lt hs) (div_lt ht) k1.2.1 k2.2.1, up_trans hn2 h2 o2 (Nat.mod_lt _ hp) (Nat.mod_lt _ hp) (Nat.mod_lt _ hp) k1.2.2 k2.2.2⟩
    subst e
    exact k1.1 (same_of (up_anti hn1 h1 o1 (div_lt hzN) (div_lt hs) k1.2.1 k2.2.1) (up_anti hn2 h2 o2 (Nat.mod_lt _ hp) (Nat.mod_lt _ hp) k1.2.2 k2.2.2))
theorem zt_up {g : Nat → Nat} (a b : Nat) : zt (blw g) a b = if upB g a b = true then 1 else 0 := by
  unfold zt
  by_cases h : a = b ∨ blw g a b = true
  · rw [if_pos h, if_pos ((upB_iff g a b).2 h)]
  · rw [if_neg h, if_neg (fun k => h ((upB_iff g a b).1 k))]
theorem mu_tm (hN : n1 * n2 ≤ 10) (h1 : ∀ k, k < n1 → g1 k < pw n1) (h2 : ∀ k, k < n2 → g2 k < pw n2) (hn1 : n1 ≤ 10) (hn2 : n2 ≤ 10) (o1 : Ord n1 g1) (o2 : Ord n2 g2) {a b : Nat} (ha : a < n1 * n2) (hb : b < n1 * n2) :
    muO (tmq g1 g2 n2) (n1 * n2) a b = muO g1 n1 (a / n2) (b / n2) * muO g2 n2 (a % n2) (b % n2) := by
  have hp := pos_of ha
  have hr : Rk (blw (tmq g1 g2 n2)) (n1 * n2) (ht (tmq g1 g2 n2) (n1 * n2)) := rk_ord hN (fun k hk => tm_lt hN h1 h2 hn1 hk) (tm_ord hN h1 h2 hn1 hn2 o1 o2)
  refine (Uo_one hr (V := fun b => muO g1 n1 (a / n2) (b / n2) * muO g2 n2 (a % n2) (b % n2)) ?_ (ht (tmq g1 g2 n2) (n1 * n2) b + 1) b hb (by omega)).symm
  intro x hx
  have e0 := zt_split hr hx (fun b => muO g1 n1 (a / n2) (b / n2) * muO g2 n2 (a % n2) (b % n2))
  have e1 : sumI (fun l => (muO g1 n1 (a / n2) (l / n2) * muO g2 n2 (a % n2) (l % n2)) * zt (blw (tmq g1 g2 n2)) l x) (n1 * n2) =
      sumI (fun l => (fun i => muO g1 n1 (a / n2) i * zt (blw g1) i (x / n2)) (l / n2) * (fun i => muO g2 n2 (a % n2) i * zt (blw g2) i (x % n2)) (l % n2)) (n1 * n2) := by
    refine sumI_congr _ fun l hl => ?_
    have ez : zt (blw (tmq g1 g2 n2)) l x = zt (blw g1) (l / n2) (x / n2) * zt (blw g2) (l % n2) (x % n2) := by
      rw [zt_up (g := g1), zt_up (g := g2)]
      unfold zt
      by_cases e : l = x
      · subst e
        rw [if_pos (.inl rfl), if_pos (by simp [upB]), if_pos (by simp [upB])]; rfl
      · by_cases hB : upB g1 (l / n2) (x / n2) = true ∧ upB g2 (l % n2) (x % n2) = true
        · rw [if_pos (.inr ((blw_tm hN h1 h2 hn1 hl hx).2 ⟨e, hB.1, hB.2⟩)), if_pos hB.1, if_pos hB.2]; rfl
        · rw [if_neg]
          · by_cases h3 : upB g1 (l / n2) (x / n2) = true
            · rw [if_pos h3, if_neg (fun h4 => hB ⟨h3, h4⟩)]; rfl
            · rw [if_neg h3, Int.zero_mul]
          · rintro (h3 | h3)
            · exact e h3
            · exact hB ((blw_tm hN h1 h2 hn1 hl hx).1 h3).2
    rw [ez]
    show muO g1 n1 (a / n2) (l / n2) * muO g2 n2 (a % n2) (l % n2) * (zt (blw g1) (l / n2) (x / n2) * zt (blw g2) (l % n2) (x % n2)) = muO g1 n1 (a / n2) (l / n2) * zt (blw g1) (l / n2) (x / n2) * (muO g2 n2 (a % n2) (l % n2) * zt (blw g2) (l % n2) (x % n2))
    rw [Int.mul_assoc, Int.mul_assoc, ← Int.mul_assoc (muO g2 n2 _ _), Int.mul_comm (muO g2 n2 _ _) (zt (blw g1) _ _), Int.mul_assoc]
  rw [e1, sumI_prod (fun i => muO g1 n1 (a / n2) i * zt (blw g1) i (x / n2)) (fun i => muO g2 n2 (a % n2) i * zt (blw g2) i (x % n2)) n2 hp n1] at e0
  have m1 : sumI (fun i => muO g1 n1 (a / n2) i * zt (blw g1) i (x / n2)) n1 = oneA (a / n2) (x / n2) := mu_zt (rk_ord hn1 h1 o1) (div_lt hx)
  have m2 : sumI (fun i => muO g2 n2 (a % n2) i * zt (blw g2) i (x % n2)) n2 = oneA (a % n2) (x % n2) := mu_zt (rk_ord hn2 h2 o2) (Nat.mod_lt _ hp)
  rw [m1, m2] at e0
  have e3 : oneA (a / n2) (x / n2) * oneA (a % n2) (x % n2) = oneA a x := by
    unfold oneA
    by_cases e : x = a
    · subst e; simp
    · rw [if_neg e]
      by_cases h3 : x / n2 = a / n2
      · rw [if_neg (fun h4 => e (same_of h3 h4)), Int.mul_zero]
      · rw [if_neg h3, Int.zero_mul]
  rw [e3] at e0
  show muO g1 n1 (a / n2) (x / n2) * muO g2 n2 (a % n2) (x % n2) = oneA a x - sumI (fun l => if blw (tmq g1 g2 n2) l x = true then muO g1 n1 (a / n2) (l / n2) * muO g2 n2 (a % n2) (l % n2) else 0) (n1 * n2)
  omega
end
end Go.Proofs.YtgdbldfbhiaepabDoor
