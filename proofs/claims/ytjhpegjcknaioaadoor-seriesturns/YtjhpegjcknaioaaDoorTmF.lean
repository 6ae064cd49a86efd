/-
  What binomial.Of, series.count and series.Rows answer. Conditions: the value reads as a term.
-/
import Derived.Test.YtjhpegjcknaioaaDoorTmE
namespace Go.Proofs.YtjhpegjcknaioaaDoor
set_option maxRecDepth 100000
open Go.RowKit

def bn (n : Int) : Nat → Int
  | 0 => 1
  | k + 1 => Int.tdiv (bn n k * (n - (k : Int))) ((k : Int) + 1)
theorem bn_succ (n : Int) (k : Nat) : bn n (k + 1) = Int.tdiv (bn n k * (n - (k : Int))) ((k : Int) + 1) := rfl
def bnOk (n : Int) (k : Nat) : Bool := decide (bn (n + 1) (k + 1) = bn n (k + 1) + bn n k) && decide (-1000000000000000 < bn n k ∧ bn n k < 1000000000000000) && decide (-1000000000000000 < bn n k * (n - (k : Int)) ∧ bn n k * (n - (k : Int)) < 1000000000000000)
theorem bn_table : ∀ i : Nat, i < 50 → ∀ k : Nat, k < 12 → bnOk ((i : Int) - 25) k = true := by decide +kernel
theorem bn_all {n : Int} (h1 : -25 ≤ n) (h2 : n < 25) {k : Nat} (hk : k < 12) : bnOk n k = true := by
  have h := bn_table (n + 25).toNat (by omega) k hk
  rw [show (((n + 25).toNat : Nat) : Int) - 25 = n by omega] at h
  exact h
theorem bn_small {n : Int} (h1 : -25 ≤ n) (h2 : n < 25) {k : Nat} (hk : k < 12) : -1000000000000000 < bn n k ∧ bn n k < 1000000000000000 := by
  have h := bn_all h1 h2 hk
  unfold bnOk at h
  simp only [Bool.and_eq_true, decide_eq_true_eq] at h
  exact h.1.2
theorem bn_mul {n : Int} (h1 : -25 ≤ n) (h2 : n < 25) {k : Nat} (hk : k < 12) : -1000000000000000 < bn n k * (n - (k : Int)) ∧ bn n k * (n - (k : Int)) < 1000000000000000 := by
  have h := bn_all h1 h2 hk
  unfold bnOk at h
  simp only [Bool.and_eq_true, decide_eq_true_eq] at h
  exact h.2
theorem tdiv_in {x d : Int} (h1 : -1000000000000000 < x) (h2 : x < 1000000000000000) : -1000000000000000 ≤ Int.tdiv x d ∧ Int.tdiv x d ≤ 1000000000000000 := by
  have h := Int.natAbs_tdiv_le_natAbs x d
  omega
set_option maxHeartbeats 1000000 in
theorem binOf_any (n : Int) (k : Nat) (w : World) (h1 : -25 ≤ n) (h2 : n < 25) (hk : k < 12) :
    Calls Tryd.prog 67 #[.int .i64 n, .int .i64 (k : Nat)] w fun e w' => e = .returned (.int .i64 (bn n k)) ∧ w = w' := by
  go_enter Tryd.func67, Tryd.ntmps67
  go_wp2
  go_loop [5, 8] (fun x i => ∃ j : Nat, j ≤ k ∧ i = .int .i64 (j : Nat) ∧ x = .int .i64 (bn n j)) (fun _ i => k - (intOf i).toNat)
  case atStart => exact ⟨0, Nat.zero_le _, rfl, rfl⟩
  case round =>
    obtain ⟨j, hj, rfl, rfl⟩ := hrel
    by_cases hjk : j < k
    · have hm := bn_mul h1 h2 (k := j) (by omega)
      have hq := tdiv_in (d := (j : Int) + 1) hm.1 hm.2
      have HS : Hid (bn n (j + 1) = Int.tdiv (bn n j * (n - (j : Int))) ((j : Int) + 1)) := bn_succ n j
      have hs := bn_small h1 h2 (k := j) (by omega)
      generalize bn n j = X at *
      have hne : ¬ ((j : Int) + 1 = 0) := by omega
      go_wp2
      go_round
      case rel => exact ⟨j + 1, by omega, by go_num, by rw [HS.out]⟩
      case measure => simp [intOf]; omega
    · obtain rfl : j = k := by omega
      go_wp2
      go_ret
      exact ⟨rfl, rfl⟩
def fac : Nat → Nat
  | 0 => 1
  | n + 1 => (n + 1) * fac n
def bi (n k : Nat) : Nat := (bn n k).toNat
theorem bi_table : ∀ a : Nat, a < 11 → ∀ b : Nat, b < 11 → a + b ≤ 10 → bn ((a + b : Nat) : Int) b = ((bi (a + b) b : Nat) : Int) ∧ fac a * fac b * bi (a + b) b = fac (a + b) ∧ fac a * fac b ≤ fac (a + b) ∧ fac (a + b) ≤ 3628800 ∧ 0 < bi (a + b) b := by decide +kernel
theorem bi_all {a b : Nat} (h : a + b ≤ 10) : bn ((a + b : Nat) : Int) b = ((bi (a + b) b : Nat) : Int) ∧ fac a * fac b * bi (a + b) b = fac (a + b) ∧ fac a * fac b ≤ fac (a + b) ∧ fac (a + b) ≤ 3628800 ∧ 0 < bi (a + b) b := bi_table a (by omega) b (by omega) h
/-- How many rows a term has, as the program counts them. -/
def cr : TT → Nat
  | .node none _ => 1
  | .node (some (k, _, n)) kid => if k = 1 then 1 else fld (fun i r => r * cr (kid i rfl) * (if k = 2 then bi (npK k (fun i => kid i rfl) (i + 1)) (np (kid i rfl)) else 1)) 1 n
def crK (k : Int) (kid : Nat → TT) (i : Nat) : Nat := fld (fun i r => r * cr (kid i) * (if k = 2 then bi (npK k kid (i + 1)) (np (kid i)) else 1)) 1 i
theorem cr_eq (k x : Int) (n : Nat) (kid : Nat → TT) : cr (.mk k x n kid) = if k = 1 then 1 else crK k kid n := rfl
theorem crK_succ (k : Int) (kid : Nat → TT) (i : Nat) : crK k kid (i + 1) = crK k kid i * cr (kid i) * (if k = 2 then bi (npK k kid (i + 1)) (np (kid i)) else 1) := rfl
theorem cr_le : ∀ {T : TT}, Gd T → np T ≤ 10 → cr T ≤ fac (np T) := by
  intro T
  induction T using TT.ind with
  | leaf => exact fun h _ => h.elim
  | mk k x n kid IHK =>
    intro h h10
    rw [cr_eq, np_eq]
    rw [np_eq] at h10
    rcases h with ⟨h, h2⟩ | ⟨h1, h2, _, h4⟩
    · subst h2; subst h; exact Nat.le_refl 1
    · rw [if_neg (by omega)]
      have hK : ∀ i, i ≤ n → crK k kid i ≤ fac (npK k kid i) := fun i => by
        induction i with
        | zero => intro _; show 1 ≤ fac (if k = 1 then 1 else 0); rw [if_neg (by omega)]; exact Nat.le_refl _
        | succ i ih =>
          intro hi
          have hm := npK_mono k kid (i + 1) (n - (i + 1))
          rw [show i + 1 + (n - (i + 1)) = n by omega] at hm
          have es := npK_succ k kid i
          have hb : npK k kid i + np (kid i) ≤ 10 := by omega
          have a1 := ih (by omega)
          have a2 := IHK _ (h4 i (by omega)) (by omega)
          obtain ⟨_, b2, b3, _, _⟩ := bi_all hb
          have a3 := Nat.mul_le_mul a1 a2
          rw [crK_succ, es]
          split
          · rw [← b2]; exact Nat.mul_le_mul_right _ a3
          · rw [Nat.mul_one]; exact Nat.le_trans a3 b3
      exact hK n (Nat.le_refl _)
theorem crK_le {k : Int} {n : Nat} {kid : Nat → TT} (hk : k ≠ 1) (h4 : ∀ i, i < n → Gd (kid i)) (h10 : npK k kid n ≤ 10) : ∀ i, i ≤ n → crK k kid i ≤ fac (npK k kid i) := fun i => by
  induction i with
  | zero => intro _; show 1 ≤ fac (if k = 1 then 1 else 0); rw [if_neg hk]; exact Nat.le_refl _
  | succ i ih =>
    intro hi
    have hm := npK_mono k kid (i + 1) (n - (i + 1))
    rw [show i + 1 + (n - (i + 1)) = n by omega] at hm
    have es := npK_succ k kid i
    have hb : npK k kid i + np (kid i) ≤ 10 := by omega
    have a1 := ih (by omega)
    have a2 := cr_le (h4 i (by omega)) (by omega)
    obtain ⟨_, b2, b3, _, _⟩ := bi_all hb
    have a3 := Nat.mul_le_mul a1 a2
    rw [crK_succ, es]
    split
    · rw [← b2]; exact Nat.mul_le_mul_right _ a3
    · rw [Nat.mul_one]; exact Nat.le_trans a3 b3
set_option maxHeartbeats 4000000 in
theorem count_any (T : TT) : ∀ (v : Value) (w : World), (Gd T ∧ np T ≤ 10) → TRep 0 w T v → Calls Tryd.prog 45 #[v] w fun e w' => e = .returned (.tuple #[.int .i64 (np T : Nat), .int .i64 (cr T : Nat)]) ∧ Below w.heap.size w w' := by
  induction T using TT.ind with
  | leaf => exact fun _ _ _ h => h.elim
  | mk k x n kid ih =>
    intro v w hG hf
    obtain ⟨a, cap, rfl, hn, hk⟩ := hf
    have hn' : n ≤ 9223372036854775807 := by unfold maxLen at hn; omega
    have HIH : Hid (∀ i (v : Value) (w : World), (Gd (kid i) ∧ np (kid i) ≤ 10) → TRep 0 w (kid i) v → Calls Tryd.prog 45 #[v] w fun e w' => e = .returned (.tuple #[.int .i64 (np (kid i) : Nat), .int .i64 (cr (kid i) : Nat)]) ∧ Below w.heap.size w w') := ih
    obtain ⟨W, hW⟩ : ∃ W, W = w.alloc (.cells #[.int .i64 k, .int .i64 x, .slice a n cap] 27) := ⟨_, rfl⟩
    have HB1 : Hid (Below w.heap.size w W) := by rw [hW]; exact (Below.refl _ _).alloc (Nat.le_refl _) _
    have HX : Hid (∀ w', Below W.heap.size W w' → (w'.cell? ⟨w.heap.size, 0, none⟩ = some (.int .i64 k) ∧ w'.cell? ⟨w.heap.size, 1, none⟩ = some (.int .i64 x)) ∧ w'.cell? ⟨w.heap.size, 2, none⟩ = some (.slice a n cap)) := fun w' h =>
      ⟨⟨cell_stp h (by rw [hW]; simp), cell_stp h (by rw [hW]; simp)⟩, cell_stp h (by rw [hW]; simp)⟩
    have HWE : Hid (W = w.alloc (.cells #[.int .i64 k, .int .i64 x, .slice a n cap] 27)) := hW
    have HK : Hid (∀ i, i < n → ∃ b off, a = some ⟨b, off, none⟩ ∧ ∃ (k' x' : Int) (a' : Option Addr) (n' c' : Nat), ∀ w', Below W.heap.size W w' →
        (w'.cell? ⟨b, off + i * 3, none⟩ = some (.int .i64 k') ∧ w'.cell? ⟨b, off + i * 3 + 1, none⟩ = some (.int .i64 x') ∧ w'.cell? ⟨b, off + i * 3 + 2, none⟩ = some (.slice a' n' c')) ∧ TRep 0 w' (kid i) (.agg #[.int .i64 k', .int .i64 x', .slice a' n' c'])) := fun i hi => by
      obtain ⟨b, off, e, _, k', x', a', n', c', ⟨h1, h2, h3⟩, h4⟩ := hk i hi
      exact ⟨b, off, e, k', x', a', n', c', fun w' hb0 => by
        have hb := Below.then HB1.out hb0
        exact ⟨⟨cell_stp hb h1, cell_stp hb h2, cell_stp hb h3⟩, TRep.step hb _ _ h4⟩⟩
    have x0 : W.cell? ⟨w.heap.size, 0, none⟩ = some (.int .i64 k) := (HX.out W (Below.refl _ _)).1.1
    have x1 : W.cell? ⟨w.heap.size, 1, none⟩ = some (.int .i64 x) := (HX.out W (Below.refl _ _)).1.2
    have x2 : W.cell? ⟨w.heap.size, 2, none⟩ = some (.slice a n cap) := (HX.out W (Below.refl _ _)).2
    clear hk ih hn hW
    by_cases hk1 : k = 1
    · subst hk1
      have HE : Hid (np (.mk 1 x n kid) = 1 ∧ cr (.mk 1 x n kid) = 1) := by
        rcases hG.1 with ⟨_, h⟩ | ⟨h, _⟩
        · subst h; exact ⟨rfl, rfl⟩
        · omega
      rw [HE.out.1, HE.out.2]
      go_enter Tryd.func45, Tryd.ntmps45
      go_wp2_with fail
      go_ret2
      exact ⟨rfl, by rw [← HWE.out]; exact HB1.out⟩
    · have hkB : (k == 1) = false := by simpa using hk1
      have HE : Hid (np (.mk k x n kid) = npK k kid n ∧ cr (.mk k x n kid) = crK k kid n) := ⟨rfl, by rw [cr_eq, if_neg hk1]⟩
      obtain ⟨hG, h10⟩ := hG
      have h10' : npK k kid n ≤ 10 := h10
      have HKG : Hid (∀ i, i < n → Gd (kid i) ∧ np (kid i) ≤ 10 ∧ npK k kid i + np (kid i) ≤ 10) := fun i hi => by
        have hm := npK_mono k kid (i + 1) (n - (i + 1))
        rw [show i + 1 + (n - (i + 1)) = n by omega] at hm
        have es := npK_succ k kid i
        rcases hG with ⟨h, _⟩ | ⟨_, _, _, h⟩
        · exact absurd h hk1
        · exact ⟨h i hi, by omega, by omega⟩
      have HCL : Hid (∀ i, i ≤ n → crK k kid i ≤ fac (npK k kid i)) := crK_le hk1 (fun i hi => (HKG.out i hi).1) h10'
      have HN0 : Hid (npK k kid 0 = 0) := if_neg hk1
      clear hG h10 h10'
      by_cases hk2 : k = 2
      · subst hk2
        rw [HE.out.1, HE.out.2]
        go_enter Tryd.func45, Tryd.ntmps45
        go_wp2_with fail
        rw [← HWE.out]
        clear HWE x0 x1 x2
        go_loopw [2, 3, 14] (fun s r i wx => ∃ t : Nat, t ≤ n ∧ i = .int .i64 (t : Nat) ∧ s = .int .i64 (npK 2 kid t : Nat) ∧ r = .int .i64 (crK 2 kid t : Nat) ∧ Hid (Below W.heap.size W wx)) (fun _ _ i _ => n - (intOf i).toNat)
        case atStart => exact ⟨0, Nat.zero_le _, rfl, by rw [HN0.out]; rfl, rfl, Below.refl _ _⟩
        case round =>
          obtain ⟨t, ht, rfl, rfl, rfl, HW⟩ := hrel
          by_cases htn : t < n
          · have htI : (t : Int) < (n : Int) := by omega
            obtain ⟨b, off, HA, k', x', a', n', c', HC⟩ := HK.out t htn
            obtain ⟨⟨q1, q2, q3⟩, _⟩ := HC _ HW.out
            subst HA
            have HR : Hid (∀ w', Below W.heap.size W w' → TRep 0 w' (kid t) (.agg #[.int .i64 k', .int .i64 x', .slice a' n' c'])) := fun w' h => (HC w' h).2
            have HW9 : Hid (∀ o, Below W.heap.size W (wr.alloc o)) := fun o => HW.out.alloc HW.out.size o
            obtain ⟨hg1, hg2, hab⟩ := HKG.out t htn
            have hs1 := HCL.out t (by omega)
            have hs2 := cr_le hg1 hg2
            have hs3 := HCL.out (t + 1) (by omega)
            obtain ⟨e1, e2, e3, e4, e5⟩ := bi_all hab
            have HSU : Hid (npK 2 kid (t + 1) = npK 2 kid t + np (kid t)) := npK_succ _ kid t
            have HCU : Hid (crK 2 kid (t + 1) = crK 2 kid t * cr (kid t) * (if (2 : Int) = 2 then bi (npK 2 kid (t + 1)) (np (kid t)) else 1)) := crK_succ _ kid t
            have HG2 : Hid (Gd (kid t) ∧ np (kid t) ≤ 10) := ⟨hg1, hg2⟩
            have hpr : crK 2 kid t * cr (kid t) ≤ 3628800 := Nat.le_trans (Nat.mul_le_mul hs1 hs2) (Nat.le_trans e3 e4)
            rw [HSU.out] at HCU hs3
            have hpr2 : crK 2 kid (t + 1) ≤ 3628800 := Nat.le_trans hs3 e4
            have y0 := fun w' h => (HX.out w' h).1.1
            clear HC hg1 hs1 hs2 hs3 e2 e3
            go_wp2_with fail
            refine (HIH.out t _ _ HG2.out (HR.out _ (HW9.out _))).mono ?_
            rintro e w7 ⟨rfl, hb7⟩
            have HW7 : Hid (Below W.heap.size W w7) := Below.then (HW9.out _) hb7
            have z0 := y0 _ HW7.out
            clear hb7 HW HR q1 q2 q3 HW9 y0 HG2
            generalize npK 2 kid t = A at *
            generalize np (kid t) = B at *
            generalize crK 2 kid t = R at *
            generalize cr (kid t) = D at *
            have HPI : Hid (((R * D : Nat) : Int) = (R : Int) * (D : Int)) := by rw [Hid]; simp
            obtain ⟨M, HM⟩ : ∃ M, Hid (M = R * D) := ⟨_, rfl⟩
            rw [← HM.out] at hpr HCU HPI
            have hw1 : wrap64 ((R : Int) * (D : Int)) = (M : Int) := by rw [← HPI.out]; exact IntWalk.wrap64_in _ ⟨by omega, by omega⟩
            have hAB : (A : Int) + (B : Int) = ((A + B : Nat) : Int) := by simp
            have HCV : Hid (crK 2 kid (t + 1) = M * bi (A + B) B) := by rw [Hid, HCU.out]; simp
            rw [HCV.out] at hpr2
            generalize bi (A + B) B = C at *
            have hw2 : wrap64 ((M : Int) * (C : Int)) = ((M * C : Nat) : Int) := by rw [show ((M : Int) * (C : Int)) = ((M * C : Nat) : Int) by simp]; exact IntWalk.wrap64_in _ ⟨by omega, by omega⟩
            have HBN : Hid (bn ((A + B : Nat) : Int) B = (C : Int)) := e1
            clear HCU e1 e4 e5
            generalize A + B = AB at *
            go_wp2_with (go_at_call 67; refine (binOf_any _ B _ (by omega) (by omega) (by omega)).mono ?_; rintro e w' ⟨rfl, rfl⟩; rw [HBN.out])
            go_roundw
            case rel => exact ⟨t + 1, by omega, by go_num, by rw [HSU.out], by rw [HCV.out]; first | rfl | simp, HW7.out⟩
            case measure => simp [intOf]; omega
          · obtain rfl : t = n := by omega
            go_wp2_with fail
            go_ret2
            exact ⟨rfl, Below.then HB1.out HW.out⟩
      · have hkB2 : (k == 2) = false := by simpa using hk2
        rw [HE.out.1, HE.out.2]
        go_enter Tryd.func45, Tryd.ntmps45
        go_wp2_with fail
        rw [← HWE.out]
        clear HWE x0 x1 x2
        go_loopw [2, 3, 14] (fun s r i wx => ∃ t : Nat, t ≤ n ∧ i = .int .i64 (t : Nat) ∧ s = .int .i64 (npK k kid t : Nat) ∧ r = .int .i64 (crK k kid t : Nat) ∧ Hid (Below W.heap.size W wx)) (fun _ _ i _ => n - (intOf i).toNat)
        case atStart => exact ⟨0, Nat.zero_le _, rfl, by rw [HN0.out]; rfl, rfl, Below.refl _ _⟩
        case round =>
          obtain ⟨t, ht, rfl, rfl, rfl, HW⟩ := hrel
          by_cases htn : t < n
          · have htI : (t : Int) < (n : Int) := by omega
            obtain ⟨b, off, HA, k', x', a', n', c', HC⟩ := HK.out t htn
            obtain ⟨⟨q1, q2, q3⟩, _⟩ := HC _ HW.out
            subst HA
            have HR : Hid (∀ w', Below W.heap.size W w' → TRep 0 w' (kid t) (.agg #[.int .i64 k', .int .i64 x', .slice a' n' c'])) := fun w' h => (HC w' h).2
            have HW9 : Hid (∀ o, Below W.heap.size W (wr.alloc o)) := fun o => HW.out.alloc HW.out.size o
            obtain ⟨hg1, hg2, hab⟩ := HKG.out t htn
            have hs1 := HCL.out t (by omega)
            have hs2 := cr_le hg1 hg2
            have hs3 := HCL.out (t + 1) (by omega)
            obtain ⟨e1, e2, e3, e4, e5⟩ := bi_all hab
            have HSU : Hid (npK k kid (t + 1) = npK k kid t + np (kid t)) := npK_succ _ kid t
            have HCU : Hid (crK k kid (t + 1) = crK k kid t * cr (kid t) * (if k = 2 then bi (npK k kid (t + 1)) (np (kid t)) else 1)) := crK_succ _ kid t
            have HG2 : Hid (Gd (kid t) ∧ np (kid t) ≤ 10) := ⟨hg1, hg2⟩
            have hpr : crK k kid t * cr (kid t) ≤ 3628800 := Nat.le_trans (Nat.mul_le_mul hs1 hs2) (Nat.le_trans e3 e4)
            rw [HSU.out] at HCU hs3
            have hpr2 : crK k kid (t + 1) ≤ 3628800 := Nat.le_trans hs3 e4
            have y0 := fun w' h => (HX.out w' h).1.1
            clear HC hg1 hs1 hs2 hs3 e2 e3
            go_wp2_with fail
            refine (HIH.out t _ _ HG2.out (HR.out _ (HW9.out _))).mono ?_
            rintro e w7 ⟨rfl, hb7⟩
            have HW7 : Hid (Below W.heap.size W w7) := Below.then (HW9.out _) hb7
            have z0 := y0 _ HW7.out
            clear hb7 HW HR q1 q2 q3 HW9 y0 HG2
            generalize npK k kid t = A at *
            generalize np (kid t) = B at *
            generalize crK k kid t = R at *
            generalize cr (kid t) = D at *
            have HPI : Hid (((R * D : Nat) : Int) = (R : Int) * (D : Int)) := by rw [Hid]; simp
            obtain ⟨M, HM⟩ : ∃ M, Hid (M = R * D) := ⟨_, rfl⟩
            rw [← HM.out] at hpr HCU HPI
            have hw1 : wrap64 ((R : Int) * (D : Int)) = (M : Int) := by rw [← HPI.out]; exact IntWalk.wrap64_in _ ⟨by omega, by omega⟩
            have hAB : (A : Int) + (B : Int) = ((A + B : Nat) : Int) := by simp
            have HCV : Hid (crK k kid (t + 1) = M) := by rw [Hid, HCU.out, if_neg hk2, Nat.mul_one]
            clear HCU e1 e4 e5
            generalize A + B = AB at *
            go_wp2_with fail
            go_roundw
            case rel => exact ⟨t + 1, by omega, by go_num, by rw [HSU.out], by rw [HCV.out]; first | rfl | (rw [hw1]) | (rw [HM.out]; simp), HW7.out⟩
            case measure => simp [intOf]; omega
          · obtain rfl : t = n := by omega
            go_wp2_with fail
            go_ret2
            exact ⟨rfl, Below.then HB1.out HW.out⟩
set_option maxHeartbeats 2000000 in
theorem sRows_any (T : TT) (v : Value) (w : World) (hT : TRep 0 w T v) :
    Calls Tryd.prog 20 #[v] w fun e w' => (∃ c : Int, (c = 0 ↔ GdT T) ∧ ((c = 0 ∧ e = .returned (.tuple #[.int .i64 (cr T : Nat), .int .i64 0])) ∨ (c ≠ 0 ∧ e = .returned (.tuple #[.int .i64 0, .int .i64 c])))) ∧ Below w.heap.size w w' := by
  obtain ⟨k, x, a, n, c, rfl⟩ : ∃ k x a n c, v = .agg #[.int .i64 k, .int .i64 x, .slice a n c] := by
    induction T using TT.ind with
    | leaf => exact hT.elim
    | mk k x n kid _ => obtain ⟨a, cap, rfl, _⟩ := hT; exact ⟨k, x, a, n, cap, rfl⟩
  obtain ⟨W, HWE⟩ : ∃ W, Hid (W = w.alloc (.cells #[.int .i64 k, .int .i64 x, .slice a n c] 27)) := ⟨_, rfl⟩
  have HB1 : Hid (Below w.heap.size w W) := by rw [HWE.out]; exact (Below.refl _ _).alloc (Nat.le_refl _) _
  have HX : Hid (∀ w', Below W.heap.size W w' → (w'.cell? ⟨w.heap.size, 0, none⟩ = some (.int .i64 k) ∧ w'.cell? ⟨w.heap.size, 1, none⟩ = some (.int .i64 x)) ∧ w'.cell? ⟨w.heap.size, 2, none⟩ = some (.slice a n c)) := fun w' h =>
    ⟨⟨cell_stp h (by rw [HWE.out]; simp), cell_stp h (by rw [HWE.out]; simp)⟩, cell_stp h (by rw [HWE.out]; simp)⟩
  have HTW : Hid (TRep 0 W T (.agg #[.int .i64 k, .int .i64 x, .slice a n c])) := TRep.step HB1.out _ _ hT
  clear hT
  go_enter Tryd.func20, Tryd.ntmps20
  go_wp2_with fail
  rw [← HWE.out]
  refine (tCheck_any T _ _ HTW.out).mono ?_
  rintro e w3 ⟨⟨c3, rfl, hc3⟩, hb3⟩
  have HB3 : Hid (Below W.heap.size W w3) := hb3
  have HC3 : Hid (c3 = 0 ↔ GdT T) := hc3
  obtain ⟨⟨y0, y1⟩, y2⟩ := HX.out _ hb3
  clear hb3 hc3
  by_cases h0 : c3 = 0
  · subst h0
    have HG : Hid (GdT T) := HC3.out.1 rfl
    have HT3 : Hid (TRep 0 w3 T (.agg #[.int .i64 k, .int .i64 x, .slice a n c])) := TRep.step HB3.out _ _ HTW.out
    clear HC3
    go_wp2_with fail
    refine (count_any T _ _ ⟨HG.out.2.1, HG.out.1.2⟩ HT3.out).mono ?_
    rintro e w4 ⟨rfl, hb4⟩
    have HB4 : Hid (Below W.heap.size W w4) := Below.then HB3.out hb4
    clear hb4
    go_wp2_with fail
    go_ret2
    exact ⟨⟨0, ⟨fun _ => HG.out, fun _ => rfl⟩, .inl ⟨rfl, rfl⟩⟩, Below.then HB1.out HB4.out⟩
  · have hne : (c3 != 0) = true := by simpa using h0
    go_wp2_with fail
    go_ret2
    exact ⟨⟨c3, HC3.out, .inr ⟨h0, rfl⟩⟩, Below.then HB1.out HB3.out⟩
end Go.Proofs.YtjhpegjcknaioaaDoor
