/-
  Classes into which two elements, and what must go with them, are put one by one: when nothing must, they are the least congruence that has the classes and the two. Plain facts on numbers.
-/
import Derived.Test.YtappekjkcgmheaaTogM
namespace Go.Proofs.Ytappekjkcgmheaa
open Go.RowKit

theorem rel1_self (c : Nat → Nat) (a : Nat) : rel1 c a a = c := by
  funext x
  unfold rel1
  by_cases h : c x = a
  · rw [if_pos h, h]
  · rw [if_neg h]
/-- What has been put together so far. -/
structure LWm (q : Nat) (m j : Nat → Nat → Nat) (c0 : Nat → Nat) (x y : Nat) (c : Nat → Nat) : Prop where
  sound : ∀ d, Con q m j d → Ker q c0 d → d x = d y → Ker q c d
  ext : Ker q c0 c
  xy : c x = c y
theorem ker_rel {q : Nat} {c d : Nat → Nat} {u v : Nat} (hu : u < q) (hv : v < q) (h : Ker q c d) (e : d u = d v) : Ker q (rel1 c (c v) (c u)) d := fun a b ha hb hab => by
  rcases rel1_eq hab with h1 | ⟨h1, h2⟩ | ⟨h1, h2⟩
  · exact h a b ha hb h1
  · rw [h a v ha hv h1, h b u hb hu h2, e]
  · rw [h a u ha hu h1, h b v hb hv h2, e]
theorem LWm.rel {q : Nat} {m j : Nat → Nat → Nat} {c0 : Nat → Nat} {x y : Nat} {c : Nat → Nat} {u v : Nat} (h : LWm q m j c0 x y c) (hu : u < q) (hv : v < q) (he : ∀ d, Con q m j d → Ker q c d → d u = d v) : LWm q m j c0 x y (rel1 c (c v) (c u)) :=
  ⟨fun d hd hk hxy => ker_rel hu hv (h.sound d hd hk hxy) (he d hd (h.sound d hd hk hxy)), fun a b ha hb e => rel1_same (h.ext a b ha hb e), rel1_same h.xy⟩
theorem rel1_both (c : Nat → Nat) (u v : Nat) : rel1 c (c v) (c u) u = rel1 c (c v) (c u) v := by
  rw [rel1_yes (x := v) rfl]
  by_cases e : c u = c v
  · rw [rel1_yes e]
  · rw [rel1_no e]
theorem LWm.start {q : Nat} {m j : Nat → Nat → Nat} {c0 : Nat → Nat} {x y : Nat} (hx : x < q) (hy : y < q) : LWm q m j c0 x y (rel1 c0 (c0 y) (c0 x)) :=
  ⟨fun _ _ hk e => ker_rel hx hy hk e, fun _ _ _ _ e => rel1_same e, rel1_both c0 x y⟩
/-- What is ahead of a, b, z is whole. -/
def PartL (q : Nat) (m j : Nat → Nat → Nat) (c : Nat → Nat) (a b z : Nat) : Prop := ∀ x y t, x < q → y < x → t < q → (x < a ∨ (x = a ∧ (y < b ∨ (y = b ∧ t < z)))) → c x = c y → c (m x t) = c (m y t) ∧ c (j x t) = c (j y t)
theorem PartL.z {q : Nat} {m j : Nat → Nat → Nat} {c : Nat → Nat} {a b z : Nat} (h : PartL q m j c a b z) (hs : c a = c b → c (m a z) = c (m b z) ∧ c (j a z) = c (j b z)) : PartL q m j c a b (z + 1) := fun x y t hx hy ht h1 => by
  by_cases e : x = a ∧ y = b ∧ t = z
  · obtain ⟨rfl, rfl, rfl⟩ := e; exact hs
  · exact h x y t hx hy ht (by omega)
theorem PartL.b {q : Nat} {m j : Nat → Nat → Nat} {c : Nat → Nat} {a b z : Nat} (h : PartL q m j c a b z) (hs : z = q ∨ c a ≠ c b) : PartL q m j c a (b + 1) 0 := fun x y t hx hy ht h1 h2 => by
  rcases hs with rfl | hs
  · exact h x y t hx hy ht (by omega) h2
  · by_cases e : x = a ∧ y = b
    · obtain ⟨rfl, rfl⟩ := e; exact absurd h2 hs
    · exact h x y t hx hy ht (by omega) h2
theorem PartL.a {q : Nat} {m j : Nat → Nat → Nat} {c : Nat → Nat} {a : Nat} (h : PartL q m j c a a 0) : PartL q m j c (a + 1) 0 0 := fun x y t hx hy ht h1 => h x y t hx hy ht (by omega)
theorem PartL.con {q : Nat} {m j : Nat → Nat → Nat} {c : Nat → Nat} (h : PartL q m j c q 0 0) : Con q m j c := fun x y z hx hy hz e => by
  rcases Nat.lt_trichotomy x y with hl | rfl | hl
  · have := h y x z hy hl hz (by omega) e.symm
    exact ⟨this.1.symm, this.2.symm⟩
  · exact ⟨rfl, rfl⟩
  · exact h x y z hx hl hz (by omega) e
/-- The least congruence that has the classes and the pair. -/
def LeastW (q : Nat) (m j : Nat → Nat → Nat) (c0 : Nat → Nat) (x y : Nat) (c : Nat → Nat) : Prop := Con q m j c ∧ Ker q c0 c ∧ c x = c y ∧ ∀ d, Con q m j d → Ker q c0 d → d x = d y → Ker q c d
theorem LWm.done {q : Nat} {m j : Nat → Nat → Nat} {c0 : Nat → Nat} {x y : Nat} {c : Nat → Nat} (h : LWm q m j c0 x y c) (hc : Con q m j c) : LeastW q m j c0 x y c := ⟨hc, h.ext, h.xy, h.sound⟩
theorem LeastW.single {q : Nat} {m j : Nat → Nat → Nat} {x y : Nat} {c : Nat → Nat} (h : LeastW q m j (fun k => k) x y c) : LeastC q m j [(x, y)] c :=
  ⟨h.1, fun p hp => by obtain rfl := List.mem_singleton.1 hp; exact h.2.2.1, fun d hd hp => h.2.2.2 d hd (fun a b _ _ e => by rw [show a = b from e]) (hp (x, y) (by simp))⟩
/-- Where the rounds stand. -/
structure RL (w : World) (X q : Nat) (m j : Nat → Nat → Nat) (c0 : Nat → Nat) (x y : Nat) (n : Int) (A : Option Addr) (la ca : Nat) (A' : Option Addr) (lb cb : Nat) (B cap D a b z : Nat) (ag : Bool) (c : Nat → Nat) (wx : World) : Prop where
  cnt : clsN c q + (if ag = true then 1 else 0) ≤ D
  lw : LWm q m j c0 x y c
  part : ag = false → PartL q m j c a b z
  own : Own wx B q c
  bx : LB wx X n A la ca A' lb cb
  rw : wx.cell? ⟨X + 1, 0, none⟩ = some (.slice (some ⟨B, 0, none⟩) q cap)
  bel : Below w.heap.size w wx
theorem RL.next {w : World} {X q : Nat} {m j : Nat → Nat → Nat} {c0 : Nat → Nat} {x y : Nat} {n : Int} {A : Option Addr} {la ca : Nat} {A' : Option Addr} {lb cb B cap D a b z a' b' z' : Nat} {ag : Bool} {c : Nat → Nat} {wx : World} (h : RL w X q m j c0 x y n A la ca A' lb cb B cap D a b z ag c wx) (hp : PartL q m j c a b z → PartL q m j c a' b' z') : RL w X q m j c0 x y n A la ca A' lb cb B cap D a' b' z' ag c wx :=
  ⟨h.cnt, h.lw, fun e => hp (h.part e), h.own, h.bx, h.rw, h.bel⟩
theorem RL.drew {w : World} {X q : Nat} {m j : Nat → Nat → Nat} {c0 : Nat → Nat} {x y : Nat} {n : Int} {A : Option Addr} {la ca : Nat} {A' : Option Addr} {lb cb B cap D a b z : Nat} {ag : Bool} {c : Nat → Nat} {wx : World} (h : RL w X q m j c0 x y n A la ca A' lb cb B cap D a b z ag c wx) (k : Nat) : RL w X q m j c0 x y n A la ca A' lb cb B cap D a b z ag c (wx.drewN k) :=
  ⟨h.cnt, h.lw, h.part, h.own, h.bx, h.rw, below_drewN h.bel k⟩
/-- The row has been written, and nothing else. -/
theorem RL.wrote {w : World} {X q : Nat} {m j : Nat → Nat → Nat} {c0 : Nat → Nat} {x y : Nat} {n : Int} {A : Option Addr} {la ca : Nat} {A' : Option Addr} {lb cb B cap D a b z : Nat} {ag : Bool} {c : Nat → Nat} {wx wy : World} (h : RL w X q m j c0 x y n A la ca A' lb cb B cap D a b z ag c wx) (hB : X + 1 < B) (hwB : w.heap.size ≤ B) (hg : wx.grownBy wy (some B)) :
    LB wy X n A la ca A' lb cb ∧ wy.cell? ⟨X + 1, 0, none⟩ = some (.slice (some ⟨B, 0, none⟩) q cap) ∧ Below w.heap.size w wy :=
  ⟨h.bx.far hg (fun e => by injection e with e; omega), (hg.cell_far ⟨X + 1, 0, none⟩ (World.block_lt_of_cell? _ _ h.rw) (fun e => by have e' : X + 1 = B := Option.some.inj e; omega)).trans h.rw, h.bel.grown hg h.bel.size (fun k hk => by injection hk with hk; omega)⟩
/-- Two classes went together. -/
theorem RL.rel {w : World} {X q : Nat} {m j : Nat → Nat → Nat} {c0 : Nat → Nat} {x y : Nat} {n : Int} {A : Option Addr} {la ca : Nat} {A' : Option Addr} {lb cb B cap D a b z a' b' z' u v : Nat} {ag : Bool} {c : Nat → Nat} {wx wy : World} (h : RL w X q m j c0 x y n A la ca A' lb cb B cap D a b z ag c wx) (hB : X + 1 < B) (hwB : w.heap.size ≤ B) (hg : wx.grownBy wy (some B)) (ho : Own wy B q (rel1 c (c v) (c u)))
    (hu : u < q) (hv : v < q) (hne : c u ≠ c v) (he : ∀ d, Con q m j d → Ker q c d → d u = d v) : RL w X q m j c0 x y n A la ca A' lb cb B cap D a' b' z' true (rel1 c (c v) (c u)) wy := by
  obtain ⟨h1, h2, h3⟩ := h.wrote hB hwB hg
  refine ⟨?_, h.lw.rel hu hv he, (fun e => by cases e), ho, h1, h2, h3⟩
  have := clsN_less (c := c) hv hu (fun e => hne e.symm)
  have h0 := h.cnt
  simp only [if_true]
  split at h0 <;> omega
/-- They were one already. -/
theorem RL.same {w : World} {X q : Nat} {m j : Nat → Nat → Nat} {c0 : Nat → Nat} {x y : Nat} {n : Int} {A : Option Addr} {la ca : Nat} {A' : Option Addr} {lb cb B cap D a b z u v : Nat} {ag : Bool} {c : Nat → Nat} {wx wy : World} (h : RL w X q m j c0 x y n A la ca A' lb cb B cap D a b z ag c wx) (hB : X + 1 < B) (hwB : w.heap.size ≤ B) (hg : wx.grownBy wy (some B)) (ho : Own wy B q (rel1 c (c v) (c u)))
    (e : c u = c v) : RL w X q m j c0 x y n A la ca A' lb cb B cap D a b z ag c wy := by
  obtain ⟨h1, h2, h3⟩ := h.wrote hB hwB hg
  rw [e, rel1_self] at ho
  exact ⟨h.cnt, h.lw, h.part, ho, h1, h2, h3⟩
end Go.Proofs.Ytappekjkcgmheaa
