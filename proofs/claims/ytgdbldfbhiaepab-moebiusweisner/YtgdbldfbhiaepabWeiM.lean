/-
  WEISNER: the Mus of the least element and those x whose join with y is z make nothing. No condition. No Go text here.
-/
import Derived.Test.YtgdbldfbhiaepabLstP
import Derived.Test.YtgdbldfbhiaepabEulM
namespace Go.Proofs.Ytgdbldfbhiaepab
open Go.RowKit

section
variable {q : Nat} {m j : Nat → Nat → Nat}
/-- What comes together with y to z. -/
def wei (m j : Nat → Nat → Nat) (q a y z : Nat) : Int := sumI (fun x => if j x y = z then muL m q a x else 0) q
theorem zt_le (m : Nat → Nat → Nat) (hl : Lat q m j) {l b : Nat} (hb : b < q) : zt (sB m) l b = if m l b = l then 1 else 0 := by
  unfold zt
  by_cases e : l = b
  · subst e
    have : m l l = l := (hl.lm.at hb hb hb).1
    simp [this]
  · by_cases h : m l b = l <;> simp [sB, e, h]
theorem join_le (hl : Lat q m j) {x y z : Nat} (hx : x < q) (hy : y < q) (hz : z < q) (hyz : m y z = y) : m (j x y) z = j x y ↔ m x z = x := by
  have A := hl.al
  constructor
  · intro h
    have h1 : hl.al.le (⟨x, hx⟩ : Fin q) (hl.al.j ⟨x, hx⟩ ⟨y, hy⟩) := hl.al.jl _ _
    have h2 : hl.al.le (hl.al.j ⟨x, hx⟩ ⟨y, hy⟩) ⟨z, hz⟩ := Fin.ext h
    exact congrArg Fin.val (hl.al.trans h1 h2)
  · intro h
    have h1 : hl.al.le (⟨x, hx⟩ : Fin q) ⟨z, hz⟩ := Fin.ext h
    have h2 : hl.al.le (⟨y, hy⟩ : Fin q) ⟨z, hz⟩ := Fin.ext hyz
    exact congrArg Fin.val (hl.al.lub h1 h2)
theorem wei_none (hl : Lat q m j) {a y z : Nat} (hy : y < q) (hnz : m y z ≠ y) : wei m j q a y z = 0 := by
  unfold wei
  rw [sumI_congr (G := fun _ => 0) q fun x hx => ?_, sumI_zero]
  rw [if_neg]
  intro e
  apply hnz
  rw [← e]
  have := hl.al.jr (⟨x, hx⟩ : Fin q) ⟨y, hy⟩
  exact congrArg Fin.val this
theorem wei_sum (hl : Lat q m j) {a y w : Nat} (hy : y < q) (hw : w < q) (hyw : m y w = y) : sumI (fun z => wei m j q a y z * zt (sB m) z w) q = oneA a w := by
  have e0 := mu_zt hl.rk (a := a) hw
  have e1 : sumI (fun z => wei m j q a y z * zt (sB m) z w) q = sumI (fun z => sumI (fun x => (if j x y = z then muL m q a x else 0) * zt (sB m) z w) q) q := sumI_congr q fun z _ => (sumI_mulR _ _ _).symm
  rw [e1, sumI_swap, ← e0]
  refine sumI_congr q fun x hx => ?_
  have hjx : j x y < q := hl.ij x y hx hy
  rw [sumI_one (j := j x y) q hjx fun k _ hk => by rw [if_neg (fun e => hk e.symm), Int.zero_mul]]
  rw [if_pos rfl]
  show muL m q a x * zt (sB m) (j x y) w = muL m q a x * zt (sB m) x w
  rw [zt_le m hl hw, zt_le m hl hw]
  by_cases h : m x w = x
  · rw [if_pos h, if_pos ((join_le hl hx hy hw hyw).2 h)]
  · rw [if_neg h, if_neg (fun h2 => h ((join_le hl hx hy hw hyw).1 h2))]
theorem wei_zero (hl : Lat q m j) {a y : Nat} (hy : y < q) (hlow : ∀ x, x < q → m a x = a) (ha : a < q) (hne : y ≠ a) : ∀ d w, w < q → rkC (sB m) q w < d → wei m j q a y w = 0
  | 0, _, _, h => absurd h (Nat.not_lt_zero _)
  | d + 1, w, hw, hd => by
    by_cases hyw : m y w = y
    · have h1 := wei_sum (a := a) hl hy hw hyw
      rw [zt_split hl.rk hw] at h1
      have h2 : sumI (fun l => if sB m l w = true then wei m j q a y l else 0) q = 0 := by
        rw [sumI_congr (G := fun _ => 0) q fun l hlq => ?_, sumI_zero]
        split
        · rename_i hb
          exact wei_zero hl hy hlow ha hne d l hlq (by have := hl.rk l w hlq hw hb; omega)
        · rfl
      have h3 : oneA a w = 0 := by
        unfold oneA
        rw [if_neg]
        intro e
        subst e
        exact hne (hl.anti hy ha hyw (hlow y hy))
      omega
    · exact wei_none hl hy hyw
end
end Go.Proofs.Ytgdbldfbhiaepab
