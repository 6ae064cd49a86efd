/-
  Moebius' inversion: sums from below and from above are undone by the same numbers. No condition. No Go text here.
-/
import Derived.Test.YtgdbldfbhiaepabDoorUndP
namespace Go.Proofs.YtgdbldfbhiaepabDoor
open Go.RowKit

theorem sumI_neg (F : Nat → Int) : ∀ n, sumI (fun k => -F k) n = -sumI F n
  | 0 => rfl
  | n + 1 => by rw [sumI, sumI, sumI_neg F n]; omega
theorem sumI_subI (F G : Nat → Int) : ∀ n, sumI (fun k => F k - G k) n = sumI F n - sumI G n
  | 0 => rfl
  | n + 1 => by rw [sumI, sumI, sumI, sumI_subI F G n]; omega
theorem sumI_mulR (c : Int) (F : Nat → Int) (n : Nat) : sumI (fun k => F k * c) n = sumI F n * c := by
  rw [Int.mul_comm, ← sumI_mul]
  exact sumI_congr n fun k _ => Int.mul_comm _ _
theorem sumI_at {F : Nat → Int} {j : Nat} : ∀ n, j < n → sumI (fun k => if k = j then F k else 0) n = F j
  | 0, h => absurd h (Nat.not_lt_zero _)
  | n + 1, h => by
    rw [sumI]
    by_cases e : j = n
    · subst e
      rw [sumI_congr (G := fun _ => 0) j fun k hk => if_neg (by omega), sumI_zero]; simp
    · rw [sumI_at n (by omega), if_neg (fun e' => e e'.symm)]; omega
/-- What is below what is below is below. -/
def Tr (B : Nat → Nat → Bool) (n : Nat) : Prop := ∀ a b c, a < n → b < n → c < n → B a b = true → B b c = true → B a c = true

section
variable {B : Nat → Nat → Bool} {n : Nat} {r : Nat → Nat}
/-- Mu by rank. -/
def mu1 (B : Nat → Nat → Bool) (n : Nat) (r : Nat → Nat) (a b : Nat) : Int := Uo B (oneA a) n r b
theorem irr (hr : Rk B n r) {x : Nat} (hx : x < n) : B x x = false := by
  cases h : B x x
  · rfl
  · have := hr x x hx hx h; omega
theorem mu1_eq (hr : Rk B n r) {a b : Nat} (hb : b < n) : mu1 B n r a b = oneA a b - sumI (fun l => if B l b = true then mu1 B n r a l else 0) n := Uo_eq hr hb
theorem mu1_zero (hr : Rk B n r) (ht : Tr B n) {a : Nat} (ha : a < n) : ∀ d b, b < n → r b < d → a ≠ b → B a b = false → mu1 B n r a b = 0
  | 0, _, _, h, _, _ => absurd h (Nat.not_lt_zero _)
  | d + 1, b, hb, hd, hne, hab => by
    rw [mu1_eq hr hb, sumI_congr (G := fun _ => 0) n fun l hl => ?_, sumI_zero]
    · have e : ¬ b = a := fun e => hne e.symm
      simp [oneA, e]
    · cases hlb : B l b
      · simp
      · simp only [if_true]
        have h1 := hr l b hl hb hlb
        refine mu1_zero hr ht ha d l hl (by omega) (fun e => ?_) ?_
        · rw [← e, hab] at hlb; cases hlb
        · cases hal : B a l
          · rfl
          · rw [ht a l b ha hl hb hal hlb] at hab; cases hab
theorem mu1_self (hr : Rk B n r) (ht : Tr B n) {a : Nat} (ha : a < n) : mu1 B n r a a = 1 := by
  rw [mu1_eq hr ha, sumI_congr (G := fun _ => 0) n fun l hl => ?_, sumI_zero]
  · simp [oneA]
  · cases hla : B l a
    · simp
    · simp only [if_true]
      refine mu1_zero hr ht ha (r l + 1) l hl (by omega) (fun e => ?_) ?_
      · rw [← e, irr hr ha] at hla; cases hla
      · cases hal : B a l
        · rfl
        · have := ht a l a ha hl ha hal hla
          rw [irr hr ha] at this; cases this
/-- Sums undone are sums of Mu's multiples. -/
theorem undo_mu (hr : Rk B n r) (F : Nat → Int) {x : Nat} (hx : x < n) : Uo B F n r x = sumI (fun k => mu1 B n r k x * F k) n := by
  refine (Uo_one hr (V := fun x => sumI (fun k => mu1 B n r k x * F k) n) (s := F) ?_ (r x + 1) x hx (by omega)).symm
  intro x hx
  have e1 : sumI (fun k => mu1 B n r k x * F k) n = sumI (fun k => oneA k x * F k - sumI (fun l => if B l x = true then mu1 B n r k l * F k else 0) n) n := by
    refine sumI_congr n fun k _ => ?_
    rw [mu1_eq hr hx, Int.sub_mul, ← sumI_mulR]
    congr 1
    refine sumI_congr n fun l _ => ?_
    split
    · rfl
    · exact Int.zero_mul _
  have e2 : sumI (fun k => oneA k x * F k) n = F x := by
    rw [← sumI_at (F := F) n hx]
    refine sumI_congr n fun k _ => ?_
    unfold oneA
    by_cases e : x = k
    · rw [if_pos e, if_pos e.symm, Int.one_mul]
    · rw [if_neg e, if_neg (fun h => e h.symm), Int.zero_mul]
  show sumI (fun k => mu1 B n r k x * F k) n = F x - sumI (fun l => if B l x = true then sumI (fun k => mu1 B n r k l * F k) n else 0) n
  rw [e1, sumI_subI, e2, sumI_swap]
  congr 1
  refine sumI_congr n fun l _ => ?_
  split
  · rfl
  · exact sumI_zero n
/-- Is a the other one, or below it? One, else nought. -/
def zt (B : Nat → Nat → Bool) (a b : Nat) : Int := if a = b ∨ B a b = true then 1 else 0
theorem zt_split (hr : Rk B n r) {b : Nat} (hb : b < n) (V : Nat → Int) : sumI (fun l => V l * zt B l b) n = V b + sumI (fun l => if B l b = true then V l else 0) n := by
  rw [← sumI_at (F := V) n hb, ← sumI_add]
  refine sumI_congr n fun l hl => ?_
  unfold zt
  by_cases e : l = b
  · subst e; rw [irr hr hl]; simp
  · cases h : B l b <;> simp [e]
theorem mu_zt (hr : Rk B n r) {a b : Nat} (hb : b < n) : sumI (fun l => mu1 B n r a l * zt B l b) n = oneA a b := by
  rw [zt_split hr hb, mu1_eq hr hb]; omega
theorem Uo_none (hr : Rk B n r) {x : Nat} (hx : x < n) : Uo B (fun _ => 0) n r x = 0 :=
  (Uo_one hr (V := fun _ => 0) (s := fun _ => 0) (fun y _ => by
    rw [sumI_congr (G := fun _ => 0) n fun l _ => ite_self _, sumI_zero]; rfl) (r x + 1) x hx (by omega)).symm
/-- From above it is the same. -/
theorem zt_mu (hr : Rk B n r) {a b : Nat} (ha : a < n) (hb : b < n) : sumI (fun c => zt B a c * mu1 B n r c b) n = oneA a b := by
  have key : ∀ b, b < n → sumI (fun c => zt B a c * mu1 B n r c b) n - oneA a b = 0 := fun b hb => by
    rw [← Uo_none hr hb]
    refine Uo_one hr (V := fun b => sumI (fun c => zt B a c * mu1 B n r c b) n - oneA a b) ?_ (r b + 1) b hb (by omega)
    intro x hx
    have h1 := zt_split hr hx (fun b => sumI (fun c => zt B a c * mu1 B n r c b) n - oneA a b)
    have h2 : sumI (fun l => (sumI (fun c => zt B a c * mu1 B n r c l) n - oneA a l) * zt B l x) n = 0 := by
      have e1 : sumI (fun l => (sumI (fun c => zt B a c * mu1 B n r c l) n - oneA a l) * zt B l x) n = sumI (fun l => sumI (fun c => zt B a c * (mu1 B n r c l * zt B l x)) n) n - sumI (fun l => oneA a l * zt B l x) n := by
        rw [← sumI_subI]
        refine sumI_congr n fun l _ => ?_
        rw [Int.sub_mul, ← sumI_mulR]
        congr 1
        exact sumI_congr n fun c _ => Int.mul_assoc _ _ _
      have e2 : sumI (fun l => oneA a l * zt B l x) n = zt B a x := by
        rw [← sumI_at (F := fun l => zt B l x) n ha]
        refine sumI_congr n fun l _ => ?_
        unfold oneA
        by_cases e : l = a
        · rw [if_pos e, if_pos e, Int.one_mul]
        · rw [if_neg e, if_neg e, Int.zero_mul]
      have e3 : sumI (fun c => zt B a c * sumI (fun l => mu1 B n r c l * zt B l x) n) n = zt B a x := by
        rw [← sumI_at (F := fun c => zt B a c) n hx]
        refine sumI_congr n fun c _ => ?_
        rw [mu_zt hr hx]
        unfold oneA
        by_cases e : x = c
        · rw [if_pos e, if_pos e.symm, Int.mul_one]
        · rw [if_neg e, if_neg (fun h => e h.symm), Int.mul_zero]
      rw [e1, e2, sumI_swap]
      have e4 : sumI (fun j => sumI (fun k => zt B a j * (mu1 B n r j k * zt B k x)) n) n = sumI (fun c => zt B a c * sumI (fun l => mu1 B n r c l * zt B l x) n) n := sumI_congr n fun c _ => sumI_mul _ _ n
      rw [e4, e3]; omega
    rw [h2] at h1
    show sumI (fun c => zt B a c * mu1 B n r c x) n - oneA a x = 0 - sumI (fun l => if B l x = true then sumI (fun c => zt B a c * mu1 B n r c l) n - oneA a l else 0) n
    omega
  have := key b hb
  omega
/-- What the recursion from above takes off. -/
def abv (B : Nat → Nat → Bool) (a b c : Nat) : Bool := (c != a) && ((a == c) || B a c) && ((c == b) || B c b)
theorem mu1_above (hr : Rk B n r) (ht : Tr B n) {a b : Nat} (ha : a < n) (hb : b < n) (hab : B a b = true) : mu1 B n r a b = 0 - sumI (fun c => if abv B a b c = true then mu1 B n r c b else 0) n := by
  have h1 := zt_mu hr ha hb
  have hne : b ≠ a := fun e => by rw [e, irr hr ha] at hab; cases hab
  have e1 : sumI (fun c => zt B a c * mu1 B n r c b) n = mu1 B n r a b + sumI (fun c => if abv B a b c = true then mu1 B n r c b else 0) n := by
    rw [← sumI_at (F := fun c => mu1 B n r c b) n ha, ← sumI_add]
    refine sumI_congr n fun c hc => ?_
    unfold zt abv
    by_cases e : c = a
    · subst e; simp
    · rw [if_neg e]
      cases hac : B a c
      · have e' : ¬ a = c := fun h => e h.symm
        simp [e']
      · by_cases ecb : c = b
        · subst ecb; simp [e]
        · cases hcb : B c b
          · have h2 := mu1_zero hr ht hc (r b + 1) b hb (by omega) ecb hcb
            simp [ecb, h2]
          · simp [e]
  rw [e1] at h1
  have : oneA a b = 0 := by simp [oneA, hne]
  omega
end
end Go.Proofs.YtgdbldfbhiaepabDoor
