/-
  What five points and less of which nothing is known cost. Plain facts: no Go text here. No condition.
-/
import Derived.Test.YtipgojoiakbaiaaWoM
namespace Go.Proofs.Ytipgojoiakbaiaa
open Go.RowKit
set_option maxRecDepth 100000

/-- How 4 points are told with 5 weighings: node i goes on with nodes 2i + 1 and 2i + 2. -/
def dem4 : List (Nat × Nat × Nat) := [(0, 0, 1), (32, 0, 2), (2, 0, 2), (1056, 1, 2), (164, 0, 3), (3074, 0, 3), (6, 1, 2), (3104, 1, 3), (1184, 2, 3), (164004, 1, 3), (428, 2, 3), (101378, 2, 3), (11274, 1, 3), (2054, 2, 3), (134, 1, 3), (101408, 2, 3), (11552, 0, 3), (165024, 1, 3), (9632, 0, 3), (229540, 0, 0), (164260, 0, 0), (131500, 0, 0), (8620, 0, 0), (232450, 0, 0), (109570, 0, 0), (76810, 0, 0), (11530, 0, 0), (198662, 0, 3), (10254, 1, 3), (196742, 0, 3), (398, 2, 3), (232480, 0, 0), (109600, 0, 0), (44320, 0, 0), (11560, 0, 0), (230560, 0, 0), (165280, 0, 0), (42400, 0, 0), (9640, 0, 0), (229540, 0, 0), (229540, 0, 0), (164260, 0, 0), (164260, 0, 0), (131500, 0, 0), (131500, 0, 0), (8620, 0, 0), (8620, 0, 0), (232450, 0, 0), (232450, 0, 0), (109570, 0, 0), (109570, 0, 0), (76810, 0, 0), (76810, 0, 0), (11530, 0, 0), (11530, 0, 0), (231430, 0, 0), (198670, 0, 0), (75790, 0, 0), (10510, 0, 0), (229510, 0, 0), (196750, 0, 0), (131470, 0, 0), (8590, 0, 0)]
/-- How 5 points are told with 7 weighings: node i goes on with nodes 2i + 1 and 2i + 2. -/
def dem5 : List (Nat × Nat × Nat) := [(0, 0, 1), (32, 2, 3), (2, 2, 3), (131104, 0, 2), (8224, 0, 3), (131074, 0, 3), (8194, 0, 2), (164896, 2, 4), (131236, 0, 4), (42016, 3, 4), (8488, 0, 4), (229378, 0, 4), (131086, 3, 4), (11266, 0, 4), (8206, 2, 4), (5407776, 3, 4), (705568, 0, 4), (5374116, 1, 4), (131764, 0, 3), (9479200, 2, 4), (582688, 0, 4), (9445672, 1, 4), (9016, 0, 2), (3375106, 0, 2), (753682, 1, 4), (12713998, 0, 4), (655390, 2, 4), (3156994, 0, 3), (27666, 1, 4), (12591118, 0, 4), (24606, 3, 4), (13796384, 1, 3), (5932064, 1, 4), (1754144, 1, 2), (706096, 1, 2), (7471268, 1, 3), (5374628, 3, 4), (688820, 1, 3), (132028, 2, 4), (13673504, 1, 2), (9495584, 1, 4), (1631264, 1, 3), (583216, 1, 2), (11542824, 1, 2), (9446184, 2, 4), (26424, 1, 2), (9148, 2, 4), (3378178, 2, 4), (7569414, 1, 2), (2850834, 2, 4), (754194, 1, 2), (15859726, 1, 2), (12714014, 1, 3), (4849694, 1, 4), (671774, 1, 2), (3255298, 2, 4), (11545610, 1, 3), (2124818, 3, 4), (28178, 1, 3), (15736846, 1, 2), (12591134, 1, 2), (8413214, 1, 4), (548894, 1, 3), (15959072, 1, 2), (13796768, 1, 4), (8094752, 1, 2), (5932704, 1, 3), (1821728, 1, 4), (1754784, 1, 3), (773680, 0, 0), (706224, 1, 3), (7569572, 3, 4), (15860132, 0, 3), (13763492, 0, 3), (5931684, 1, 3), (754356, 2, 4), (689076, 2, 4), (4326332, 3, 4), (672700, 0, 0), (15772704, 1, 3), (13673888, 1, 4), (11594784, 1, 3), (9496352, 1, 2), (1698848, 1, 4), (1632032, 1, 2), (585264, 1, 3), (583600, 0, 0), (11545896, 2, 4), (15737256, 0, 2), (13640616, 0, 2), (9463592, 1, 2), (28472, 3, 4), (26552, 3, 4), (12592060, 0, 0), (25532, 3, 4), (7572482, 3, 4), (3918850, 0, 0), (7571462, 3, 4), (7569542, 3, 4), (7045142, 1, 2), (2869266, 0, 2), (772626, 0, 2), (754326, 2, 4), (15927310, 0, 0), (15859854, 1, 3), (14876702, 1, 2), (12714398, 1, 4), (7012382, 1, 2), (4850334, 1, 3), (739358, 1, 4), (672414, 1, 3), (15838210, 0, 0), (3271682, 3, 4), (11611146, 2, 4), (11545866, 2, 4), (10513434, 1, 3), (2714642, 0, 3), (618002, 0, 3), (28442, 3, 4), (15738894, 1, 3), (15737230, 0, 0), (14690334, 1, 3), (12591518, 1, 4), (10512414, 1, 3), (8413982, 1, 2), (616478, 1, 4), (549662, 1, 2), (15961120, 0, 0), (15959200, 0, 0), (15893920, 0, 0), (13797280, 0, 0), (8096800, 0, 0), (8094880, 0, 0), (5998240, 0, 0), (5932960, 0, 0), (3918880, 0, 0), (1822240, 0, 0), (1820320, 0, 0), (1755040, 0, 0), (773680, 0, 0), (773680, 0, 0), (771760, 0, 0), (706480, 0, 0), (15958180, 0, 0), (8093860, 0, 0), (15892900, 0, 0), (15860140, 0, 0), (13796260, 0, 0), (13763500, 0, 0), (5997220, 0, 0), (5931940, 0, 0), (4948660, 0, 0), (770740, 0, 0), (4883380, 0, 0), (705460, 0, 0), (12714940, 0, 0), (4850620, 0, 0), (672700, 0, 0), (672700, 0, 0), (15838240, 0, 0), (15772960, 0, 0), (15771040, 0, 0), (13674400, 0, 0), (11660320, 0, 0), (11595040, 0, 0), (9498400, 0, 0), (9496480, 0, 0), (3796000, 0, 0), (1699360, 0, 0), (1634080, 0, 0), (1632160, 0, 0), (650800, 0, 0), (585520, 0, 0), (583600, 0, 0), (583600, 0, 0), (15740200, 0, 0), (11562280, 0, 0), (15738280, 0, 0), (15737260, 0, 0), (13641640, 0, 0), (13640620, 0, 0), (9465640, 0, 0), (9463720, 0, 0), (8417080, 0, 0), (552760, 0, 0), (8415160, 0, 0), (550840, 0, 0), (12592060, 0, 0), (12592060, 0, 0), (8414140, 0, 0), (549820, 0, 0), (15961090, 0, 0), (8096770, 0, 0), (3918850, 0, 0), (3918850, 0, 0), (15960070, 0, 0), (8095750, 0, 0), (15958150, 0, 0), (8093830, 0, 0), (7047190, 0, 0), (7045270, 0, 0), (2870290, 0, 0), (2869270, 0, 0), (773650, 0, 0), (772630, 0, 0), (4948630, 0, 0), (770710, 0, 0), (15927310, 0, 0), (15927310, 0, 0), (15925390, 0, 0), (15860110, 0, 0), (14878750, 0, 0), (14876830, 0, 0), (14811550, 0, 0), (12714910, 0, 0), (7014430, 0, 0), (7012510, 0, 0), (4915870, 0, 0), (4850590, 0, 0), (2836510, 0, 0), (739870, 0, 0), (737950, 0, 0), (672670, 0, 0), (15838210, 0, 0), (15838210, 0, 0), (11660290, 0, 0), (3795970, 0, 0), (15805450, 0, 0), (11627530, 0, 0), (15740170, 0, 0), (11562250, 0, 0), (10578970, 0, 0), (10513690, 0, 0), (2747410, 0, 0), (2714650, 0, 0), (650770, 0, 0), (618010, 0, 0), (8417050, 0, 0), (552730, 0, 0), (15804430, 0, 0), (15739150, 0, 0), (15737230, 0, 0), (15737230, 0, 0), (14755870, 0, 0), (14690590, 0, 0), (14688670, 0, 0), (12592030, 0, 0), (10577950, 0, 0), (10512670, 0, 0), (8416030, 0, 0), (8414110, 0, 0), (2713630, 0, 0), (616990, 0, 0), (551710, 0, 0), (549790, 0, 0)]
def nodeC (L : List (Nat × Nat × Nat)) (i : Nat) : Nat × Nat × Nat := L.getD i (0, 0, 0)
/-- What is known by a number: five bits a point. -/
def stC (c p : Nat) : Nat := if p < 5 then c / 32 ^ p % 32 else 0
def linC (n c : Nat) : Bool := (List.range n).all fun b => (List.range b).all fun a => !opn (stC c) a b
def sameC (c : Nat) (g : Nat → Nat) : Bool := (List.range 5).all fun p => stC c p == g p
/-- A node: told already, and so are those that it goes on with; or a pair that is open, and what comes of it. -/
def okC (n : Nat) (L : List (Nat × Nat × Nat)) (i : Nat) : Bool :=
  (linC n (nodeC L i).1 && decide ((nodeC L (2 * i + 1)).1 = (nodeC L i).1) && decide ((nodeC L (2 * i + 2)).1 = (nodeC L i).1)) ||
  (decide ((nodeC L i).2.1 < (nodeC L i).2.2) && decide ((nodeC L i).2.2 < n) && opn (stC (nodeC L i).1) (nodeC L i).2.1 (nodeC L i).2.2 &&
    sameC (nodeC L (2 * i + 1)).1 (wth (stC (nodeC L i).1) (nodeC L i).2.1 (nodeC L i).2.2) && sameC (nodeC L (2 * i + 2)).1 (wth (stC (nodeC L i).1) (nodeC L i).2.2 (nodeC L i).2.1))
theorem linC_lin {n c : Nat} (h : linC n c = true) : Lin n (stC c) := fun a b hab hb => by
  have h1 := List.all_eq_true.1 h b (List.mem_range.2 hb)
  have h2 := List.all_eq_true.1 h1 a (List.mem_range.2 hab)
  simpa using h2
theorem wth_far {g : Nat → Nat} {a b p : Nat} (hp : g p = 0) (hne : p ≠ b) : wth g a b p = 0 := by
  unfold wth; rw [hp, if_neg]
  rintro (h | h)
  · exact hne h
  · simp at h
theorem sameC_eq {c : Nat} {g : Nat → Nat} (h : sameC c g = true) (hg : ∀ p, 5 ≤ p → g p = 0) : stC c = g := by
  funext p
  rcases Nat.lt_or_ge p 5 with hp | hp
  · have := List.all_eq_true.1 h p (List.mem_range.2 hp)
    simpa using this
  · rw [hg p hp]; unfold stC; rw [if_neg (by omega)]
theorem cost_tree {n : Nat} {L : List (Nat × Nat × Nat)} {m : Nat} (hL : ∀ i, i < m → okC n L i = true) (hE : ∀ i, m ≤ i → i < 2 * m + 1 → linC n (nodeC L i).1 = true) :
    ∀ (d i : Nat), i < 2 * m + 1 → (∀ j, j < 2 ^ d → 2 ^ d * (i + 1) - 1 + j < 2 * m + 1 → m ≤ 2 ^ d * (i + 1) - 1 + j) → WOk n (stC (nodeC L i).1) → cst n (stC (nodeC L i).1) ≤ d
  | 0, i, hi, hj, hw => by
    have h1 := hj 0 (by decide) (by simpa using hi)
    have h2 := hE i (by simpa using h1) hi
    rw [(cst_zero hw).2 (linC_lin h2)]; exact Nat.le_refl _
  | d + 1, i, hi, hj, hw => by
    by_cases hm : m ≤ i
    · rw [(cst_zero hw).2 (linC_lin (hE i hm hi))]; exact Nat.zero_le _
    · have h1 := hL i (by omega)
      unfold okC at h1
      rcases (Bool.or_eq_true _ _).mp h1 with h2 | h2
      · simp only [Bool.and_eq_true, decide_eq_true_eq] at h2
        rw [(cst_zero hw).2 (linC_lin h2.1.1)]; exact Nat.zero_le _
      · simp only [Bool.and_eq_true, decide_eq_true_eq] at h2
        obtain ⟨⟨⟨⟨ha, hb⟩, ho⟩, hs1⟩, hs2⟩ := h2
        have ho2 : opn (stC (nodeC L i).1) (nodeC L i).2.2 (nodeC L i).2.1 = true := by rw [opn_comm]; exact ho
        have w1 := hw.wth (by omega) hb (by omega) ho
        have w2 := hw.wth hb (by omega) (by omega) ho2
        have e1 := sameC_eq hs1 (fun p hp => w1.out p (by have := hw.n5; omega))
        have e2 := sameC_eq hs2 (fun p hp => w2.out p (by have := hw.n5; omega))
        have p2 : (2 : Nat) ^ (d + 1) = 2 * 2 ^ d := by rw [Nat.pow_succ, Nat.mul_comm]
        have hp : 0 < 2 ^ d := Nat.two_pow_pos d
        have q1 : 2 ^ d * (2 * i + 1 + 1) = 2 ^ (d + 1) * (i + 1) := by rw [show 2 * i + 1 + 1 = 2 * (i + 1) by omega, p2, ← Nat.mul_assoc, Nat.mul_comm (2 ^ d) 2]
        have q2 : 2 ^ d * (2 * i + 2 + 1) = 2 ^ (d + 1) * (i + 1) + 2 ^ d := by rw [← q1]; exact Nat.mul_succ _ _
        have r1 := cost_tree hL hE d (2 * i + 1) (by omega) (fun j h3 h4 => by rw [q1] at h4 ⊢; exact hj j (by omega) h4) (by rw [e1]; exact w1)
        have r2 := cost_tree hL hE d (2 * i + 2) (by omega) (fun j h3 h4 => by
          rw [q2] at h4 ⊢
          have h5 : 0 < 2 ^ (d + 1) * (i + 1) := Nat.mul_pos (Nat.two_pow_pos _) (by omega)
          have e3 : 2 ^ (d + 1) * (i + 1) + 2 ^ d - 1 + j = 2 ^ (d + 1) * (i + 1) - 1 + (2 ^ d + j) := by omega
          rw [e3] at h4 ⊢
          exact hj (2 ^ d + j) (by omega) h4) (by rw [e2]; exact w2)
        rw [e1] at r1
        rw [e2] at r2
        have := cst_le hw ha hb ho
        unfold beg at this
        omega
theorem zero_ok {n : Nat} (h : n ≤ 5) : WOk n (fun _ => 0) := ⟨h, fun _ _ => pw_pos n, fun _ _ => rfl, fun _ => by simp, fun p x y h1 => by simp at h1⟩
theorem stC_zero : stC 0 = fun _ => 0 := by funext p; unfold stC; split <;> simp
theorem dem4_ok : ∀ i, i < 31 → okC 4 dem4 i = true := by decide +kernel
theorem dem4_end : ∀ i, i < 63 → 31 ≤ i → linC 4 (nodeC dem4 i).1 = true := by decide +kernel
theorem dem5_ok : ∀ i, i < 127 → okC 5 dem5 i = true := by decide +kernel
theorem dem5_end : ∀ i, i < 255 → 127 ≤ i → linC 5 (nodeC dem5 i).1 = true := by decide +kernel
theorem dem4_le : cst 4 (fun _ => 0) ≤ 5 := by
  have e : (nodeC dem4 0).1 = 0 := by decide +kernel
  have := cost_tree dem4_ok (fun i h1 h2 => dem4_end i h2 h1) 5 0 (by omega) (fun j _ _ => by omega) (by rw [e, stC_zero]; exact zero_ok (by omega))
  rw [e, stC_zero] at this; exact this
theorem dem5_le : cst 5 (fun _ => 0) ≤ 7 := by
  have e : (nodeC dem5 0).1 = 0 := by decide +kernel
  have := cost_tree dem5_ok (fun i h1 h2 => dem5_end i h2 h1) 7 0 (by omega) (fun j _ _ => by omega) (by rw [e, stC_zero]; exact zero_ok (by omega))
  rw [e, stC_zero] at this; exact this
theorem dem4_rows : ways (fun _ => 0) 4 0 = 24 := by decide +kernel
theorem dem5_rows : ways (fun _ => 0) 5 0 = 120 := by decide +kernel
/-- Demuth's numbers. -/
def demN (n : Nat) : Nat := [0, 0, 1, 3, 5, 7].getD n 0
theorem dem_small : ∀ n, n < 4 → cst n (fun _ => 0) = demN n := by decide +kernel
theorem pow_le_of {a b : Nat} (h : a ≤ b) : pw a ≤ pw b := Nat.pow_le_pow_right (by decide) h
theorem demuth {n : Nat} (h : n < 6) : cst n (fun _ => 0) = demN n := by
  rcases Nat.lt_or_ge n 4 with h4 | h4
  · exact dem_small n h4
  · by_cases e : n = 4
    · subst e
      have h1 := rows_cst (zero_ok (n := 4) (by omega))
      rw [dem4_rows] at h1
      have h2 := dem4_le
      have h3 : ¬ cst 4 (fun _ => 0) ≤ 4 := fun k => by have := pow_le_of k; have e4 : pw 4 = 16 := rfl; omega
      show _ = 5; omega
    · obtain rfl : n = 5 := by omega
      have h1 := rows_cst (zero_ok (n := 5) (by omega))
      rw [dem5_rows] at h1
      have h2 := dem5_le
      have h3 : ¬ cst 5 (fun _ => 0) ≤ 6 := fun k => by have := pow_le_of k; have e4 : pw 6 = 64 := rfl; omega
      show _ = 7; omega
end Go.Proofs.Ytipgojoiakbaiaa
