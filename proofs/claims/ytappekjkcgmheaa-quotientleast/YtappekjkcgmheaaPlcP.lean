/-
  What the closure of the reference's LeastWith does: one class goes into another one, in the row itself. Conditions: the row may be written, of at most forty numbers; the box that names it lies elsewhere.
  Classes into which two elements, and what must go with them, are put one by one: when nothing must, they are the least congruence that has the classes and the two. Plain facts on numbers.
  What the reference's Place and IsPermutation answer. Conditions: a slice reads as a slice of numbers.
-/
import Derived.Test.YtappekjkcgmheaaNumP
import Derived.Test.YtappekjkcgmheaaLRows
import Derived.Test.YtappekjkcgmheaaTogM
import Derived.Test.YtappekjkcgmheaaNats
namespace Go.Proofs.Ytappekjkcgmheaa
open Go.RowKit
set_option maxRecDepth 100000

theorem ent_leastWith1 : Ent 34 := fun _ _ => rfl
theorem int_bneN {a b : Nat} {v : Bool} (h : (!(a == b)) = v) : (((a : Nat) : Int) != ((b : Nat) : Int)) = v := by
  rw [← h, bne, int_beq]
theorem own_drew {w : World} {B q : Nat} {c : Nat → Nat} (h : Own w B q c) (n : Nat) : Own (w.drewN n) B q c := h

set_option maxHeartbeats 4000000 in
theorem leastWith1_any (X q B cap : Nat) (c : Nat → Nat) (x y : Nat) (w : World) (h40 : q ≤ 40) (hx : x < q) (hy : y < q) (hXB : X ≠ B) (hX : w.cell? ⟨X, 0, none⟩ = some (.slice (some ⟨B, 0, none⟩) q cap)) (ho : Own w B q c) :
    Calls Try.prog 34 #[.int .i64 (x : Nat), .int .i64 (y : Nat), .pointer (some ⟨X, 0, none⟩)] w fun e w' => e = .returned (.bool (!(c x == c y))) ∧ Own w' B q (rel1 c (c y) (c x)) ∧ w.grownBy w' (some B) := by
  have c1 := (ho x hx).1
  have c2 := (ho y hy).1
  have ix : (x : Int) < (q : Int) := by omega
  have iy : (y : Int) < (q : Int) := by omega
  obtain ⟨v, hv⟩ : ∃ v, (!(c x == c y)) = v := ⟨_, rfl⟩
  rw [hv]
  have hne := int_bneN hv
  clear hv
  obtain ⟨a, ha⟩ : ∃ a, c y = a := ⟨_, rfl⟩
  obtain ⟨b, hb⟩ : ∃ b, c x = b := ⟨_, rfl⟩
  rw [ha, hb]
  rw [ha, hb] at hne
  rw [hb] at c1
  rw [ha] at c2
  have HO : Hid (Own w B q (mixR c a b 0)) := by rw [mixR_zero]; exact ho
  have HXc : Hid (∀ wx, w.grownBy wx (some B) → wx.cell? ⟨X, 0, none⟩ = some (.slice (some ⟨B, 0, none⟩) q cap)) := fun wx hg =>
    (hg.cell_far ⟨X, 0, none⟩ (World.block_lt_of_cell? _ _ hX) (fun e => hXB (by injection e))).trans hX
  clear ho ha hb
  go_enter Try.func34, Try.ntmps34
  go_wp2_with fail
  go_big_quiet (fail)
  go_wp2_with fail
  clear c1 c2 hX
  go_loopw [8] (fun i wx => ∃ k : Nat, k ≤ q ∧ i = .int .i64 k ∧ Hid (Own wx B q (mixR c a b k)) ∧ Hid (w.grownBy wx (some B))) (fun i _ => q - (intOf i).toNat)
  case atStart => exact ⟨0, Nat.zero_le _, rfl, own_drew HO.out _, ⟨rfl, rfl, rfl, Nat.le_refl _, fun _ _ _ => rfl⟩⟩
  case round =>
    obtain ⟨k, hk, rfl, HK, HG⟩ := hrel
    clear HO
    have hXk := HXc.out _ HG.out
    by_cases hlt : k < q
    · have ck := (HK.out k hlt).1
      have cf := (HK.out k hlt).2
      rw [mixR_at] at ck
      have hlk : (k : Int) < (q : Int) := by omega
      by_cases e : c k = a
      · have he : (((c k : Nat) : Int) == (a : Int)) = true := by rw [e]; simp
        have HM : Hid (mixR c a b (k + 1) = upd (mixR c a b k) k b) := mixR_yes e
        clear e
        go_wp2_with fail
        go_roundw
        case rel => exact ⟨k + 1, by omega, by go_num, by rw [HM.out]; exact HK.out.set k b hlt, HG.out.trans (grown_setC _ _ _ _)⟩
        case measure => simp [intOf]; omega
      · have he : (((c k : Nat) : Int) == (a : Int)) = false := by simp; omega
        have HM : Hid (mixR c a b (k + 1) = mixR c a b k) := mixR_no e
        clear e
        go_wp2_with fail
        go_roundw
        case rel => exact ⟨k + 1, by omega, by go_num, by rw [HM.out]; exact HK.out, HG⟩
        case measure => simp [intOf]; omega
    · obtain rfl : k = q := by omega
      have HE : Hid (Own wr B k (rel1 c a b)) := HK.out.congr (fun x hx => by unfold mixR; rw [if_pos hx])
      clear HK
      go_wp2_with fail
      go_ret
      exact ⟨rfl, HE.out, HG.out⟩
end Go.Proofs.Ytappekjkcgmheaa
namespace Go.Proofs.Ytappekjkcgmheaa
open Go.RowKit

theorem rel1_self (c : Nat → Nat) (a : Nat) : rel1 c a a = c := by
  funext x
  unfold rel1
  by_cases h : c x = a
  · rw [if_pos h, h]
  · rw [if_neg h]
/-- What has been put together so far. -/
structure LWm (q : Nat) (m j : Nat → Nat → Nat) (c0 : Nat → Nat) (x y : Nat) (c : Nat → Nat) : Prop where
  sound : ∀ d, Con q m j d → Ker q c0 d → d x = d y → Ker q c d
  ext : Ker q c0 c
  xy : c x = c y
theorem ker_rel {q : Nat} {c d : Nat → Nat} {u v : Nat} (hu : u < q) (hv : v < q) (h : Ker q c d) (e : d u = d v) : Ker q (rel1 c (c v) (c u)) d := fun a b ha hb hab => by
  rcases rel1_eq hab with h1 | ⟨h1, h2⟩ | ⟨h1, h2⟩
  · exact h a b ha hb h1
  · rw [h a v ha hv h1, h b u hb hu h2, e]
  · rw [h a u ha hu h1, h b v hb hv h2, e]
theorem LWm.rel {q : Nat} {m j : Nat → Nat → Nat} {c0 : Nat → Nat} {x y : Nat} {c : Nat → Nat} {u v : Nat} (h : LWm q m j c0 x y c) (hu : u < q) (hv : v < q) (he : ∀ d, Con q m j d → Ker q c d → d u = d v) : LWm q m j c0 x y (rel1 c (c v) (c u)) :=
  ⟨fun d hd hk hxy => ker_rel hu hv (h.sound d hd hk hxy) (he d hd (h.sound d hd hk hxy)), fun a b ha hb e => rel1_same (h.ext a b ha hb e), rel1_same h.xy⟩
theorem rel1_both (c : Nat → Nat) (u v : Nat) : rel1 c (c v) (c u) u = rel1 c (c v) (c u) v := by
  rw [rel1_yes (x := v) rfl]
  by_cases e : c u = c v
  · rw [rel1_yes e]
  · rw [rel1_no e]
theorem LWm.start {q : Nat} {m j : Nat → Nat → Nat} {c0 : Nat → Nat} {x y : Nat} (hx : x < q) (hy : y < q) : LWm q m j c0 x y (rel1 c0 (c0 y) (c0 x)) :=
  ⟨fun _ _ hk e => ker_rel hx hy hk e, fun _ _ _ _ e => rel1_same e, rel1_both c0 x y⟩
/-- What is ahead of a, b, z is whole. -/
def PartL (q : Nat) (m j : Nat → Nat → Nat) (c : Nat → Nat) (a b z : Nat) : Prop := ∀ x y t, x < q → y < x → t < q → (x < a ∨ (x = a ∧ (y < b ∨ (y = b ∧ t < z)))) → c x = c y → c (m x t) = c (m y t) ∧ c (j x t) = c (j y t)
theorem PartL.z {q : Nat} {m j : Nat → Nat → Nat} {c : Nat → Nat} {a b z : Nat} (h : PartL q m j c a b z) (hs : c a = c b → c (m a z) = c (m b z) ∧ c (j a z) = c (j b z)) : PartL q m j c a b (z + 1) := fun x y t hx hy ht h1 => by
  by_cases e : x = a ∧ y = b ∧ t = z
  · obtain ⟨rfl, rfl, rfl⟩ := e; exact hs
  · exact h x y t hx hy ht (by omega)
theorem PartL.b {q : Nat} {m j : Nat → Nat → Nat} {c : Nat → Nat} {a b z : Nat} (h : PartL q m j c a b z) (hs : z = q ∨ c a ≠ c b) : PartL q m j c a (b + 1) 0 := fun x y t hx hy ht h1 h2 => by
  rcases hs with rfl | hs
  · exact h x y t hx hy ht (by omega) h2
  · by_cases e : x = a ∧ y = b
    · obtain ⟨rfl, rfl⟩ := e; exact absurd h2 hs
    · exact h x y t hx hy ht (by omega) h2
theorem PartL.a {q : Nat} {m j : Nat → Nat → Nat} {c : Nat → Nat} {a : Nat} (h : PartL q m j c a a 0) : PartL q m j c (a + 1) 0 0 := fun x y t hx hy ht h1 => h x y t hx hy ht (by omega)
theorem PartL.con {q : Nat} {m j : Nat → Nat → Nat} {c : Nat → Nat} (h : PartL q m j c q 0 0) : Con q m j c := fun x y z hx hy hz e => by
  rcases Nat.lt_trichotomy x y with hl | rfl | hl
  · have := h y x z hy hl hz (by omega) e.symm
    exact ⟨this.1.symm, this.2.symm⟩
  · exact ⟨rfl, rfl⟩
  · exact h x y z hx hl hz (by omega) e
/-- The least congruence that has the classes and the pair. -/
def LeastW (q : Nat) (m j : Nat → Nat → Nat) (c0 : Nat → Nat) (x y : Nat) (c : Nat → Nat) : Prop := Con q m j c ∧ Ker q c0 c ∧ c x = c y ∧ ∀ d, Con q m j d → Ker q c0 d → d x = d y → Ker q c d
theorem LWm.done {q : Nat} {m j : Nat → Nat → Nat} {c0 : Nat → Nat} {x y : Nat} {c : Nat → Nat} (h : LWm q m j c0 x y c) (hc : Con q m j c) : LeastW q m j c0 x y c := ⟨hc, h.ext, h.xy, h.sound⟩
theorem LeastW.single {q : Nat} {m j : Nat → Nat → Nat} {x y : Nat} {c : Nat → Nat} (h : LeastW q m j (fun k => k) x y c) : LeastC q m j [(x, y)] c :=
  ⟨h.1, fun p hp => by obtain rfl := List.mem_singleton.1 hp; exact h.2.2.1, fun d hd hp => h.2.2.2 d hd (fun a b _ _ e => by rw [show a = b from e]) (hp (x, y) (by simp))⟩
/-- Where the rounds stand. -/
structure RL (w : World) (X q : Nat) (m j : Nat → Nat → Nat) (c0 : Nat → Nat) (x y : Nat) (n : Int) (A : Option Addr) (la ca : Nat) (A' : Option Addr) (lb cb : Nat) (B cap D a b z : Nat) (ag : Bool) (c : Nat → Nat) (wx : World) : Prop where
  cnt : clsN c q + (if ag = true then 1 else 0) ≤ D
  lw : LWm q m j c0 x y c
  part : ag = false → PartL q m j c a b z
  own : Own wx B q c
  bx : LB wx X n A la ca A' lb cb
  rw : wx.cell? ⟨X + 1, 0, none⟩ = some (.slice (some ⟨B, 0, none⟩) q cap)
  bel : Below w.heap.size w wx
theorem RL.next {w : World} {X q : Nat} {m j : Nat → Nat → Nat} {c0 : Nat → Nat} {x y : Nat} {n : Int} {A : Option Addr} {la ca : Nat} {A' : Option Addr} {lb cb B cap D a b z a' b' z' : Nat} {ag : Bool} {c : Nat → Nat} {wx : World} (h : RL w X q m j c0 x y n A la ca A' lb cb B cap D a b z ag c wx) (hp : PartL q m j c a b z → PartL q m j c a' b' z') : RL w X q m j c0 x y n A la ca A' lb cb B cap D a' b' z' ag c wx :=
  ⟨h.cnt, h.lw, fun e => hp (h.part e), h.own, h.bx, h.rw, h.bel⟩
theorem RL.drew {w : World} {X q : Nat} {m j : Nat → Nat → Nat} {c0 : Nat → Nat} {x y : Nat} {n : Int} {A : Option Addr} {la ca : Nat} {A' : Option Addr} {lb cb B cap D a b z : Nat} {ag : Bool} {c : Nat → Nat} {wx : World} (h : RL w X q m j c0 x y n A la ca A' lb cb B cap D a b z ag c wx) (k : Nat) : RL w X q m j c0 x y n A la ca A' lb cb B cap D a b z ag c (wx.drewN k) :=
  ⟨h.cnt, h.lw, h.part, h.own, h.bx, h.rw, below_drewN h.bel k⟩
/-- The row has been written, and nothing else. -/
theorem RL.wrote {w : World} {X q : Nat} {m j : Nat → Nat → Nat} {c0 : Nat → Nat} {x y : Nat} {n : Int} {A : Option Addr} {la ca : Nat} {A' : Option Addr} {lb cb B cap D a b z : Nat} {ag : Bool} {c : Nat → Nat} {wx wy : World} (h : RL w X q m j c0 x y n A la ca A' lb cb B cap D a b z ag c wx) (hB : X + 1 < B) (hwB : w.heap.size ≤ B) (hg : wx.grownBy wy (some B)) :
    LB wy X n A la ca A' lb cb ∧ wy.cell? ⟨X + 1, 0, none⟩ = some (.slice (some ⟨B, 0, none⟩) q cap) ∧ Below w.heap.size w wy :=
  ⟨h.bx.far hg (fun e => by injection e with e; omega), (hg.cell_far ⟨X + 1, 0, none⟩ (World.block_lt_of_cell? _ _ h.rw) (fun e => by have e' : X + 1 = B := Option.some.inj e; omega)).trans h.rw, h.bel.grown hg h.bel.size (fun k hk => by injection hk with hk; omega)⟩
/-- Two classes went together. -/
theorem RL.rel {w : World} {X q : Nat} {m j : Nat → Nat → Nat} {c0 : Nat → Nat} {x y : Nat} {n : Int} {A : Option Addr} {la ca : Nat} {A' : Option Addr} {lb cb B cap D a b z a' b' z' u v : Nat} {ag : Bool} {c : Nat → Nat} {wx wy : World} (h : RL w X q m j c0 x y n A la ca A' lb cb B cap D a b z ag c wx) (hB : X + 1 < B) (hwB : w.heap.size ≤ B) (hg : wx.grownBy wy (some B)) (ho : Own wy B q (rel1 c (c v) (c u)))
    (hu : u < q) (hv : v < q) (hne : c u ≠ c v) (he : ∀ d, Con q m j d → Ker q c d → d u = d v) : RL w X q m j c0 x y n A la ca A' lb cb B cap D a' b' z' true (rel1 c (c v) (c u)) wy := by
  obtain ⟨h1, h2, h3⟩ := h.wrote hB hwB hg
  refine ⟨?_, h.lw.rel hu hv he, (fun e => by cases e), ho, h1, h2, h3⟩
  have := clsN_less (c := c) hv hu (fun e => hne e.symm)
  have h0 := h.cnt
  simp only [if_true]
  split at h0 <;> omega
/-- They were one already. -/
theorem RL.same {w : World} {X q : Nat} {m j : Nat → Nat → Nat} {c0 : Nat → Nat} {x y : Nat} {n : Int} {A : Option Addr} {la ca : Nat} {A' : Option Addr} {lb cb B cap D a b z u v : Nat} {ag : Bool} {c : Nat → Nat} {wx wy : World} (h : RL w X q m j c0 x y n A la ca A' lb cb B cap D a b z ag c wx) (hB : X + 1 < B) (hwB : w.heap.size ≤ B) (hg : wx.grownBy wy (some B)) (ho : Own wy B q (rel1 c (c v) (c u)))
    (e : c u = c v) : RL w X q m j c0 x y n A la ca A' lb cb B cap D a b z ag c wy := by
  obtain ⟨h1, h2, h3⟩ := h.wrote hB hwB hg
  rw [e, rel1_self] at ho
  exact ⟨h.cnt, h.lw, h.part, ho, h1, h2, h3⟩
end Go.Proofs.Ytappekjkcgmheaa
namespace Go.Proofs.Ytappekjkcgmheaa
open Go.RowKit

/-- Where x stands first; or nowhere. -/
def PlaceAt (f : Nat → Int) (m : Nat) (x : Nat) (r : Int) : Prop := (∃ j : Nat, j < m ∧ r = j ∧ f j = x ∧ ∀ i, i < j → f i ≠ x) ∨ (r = -1 ∧ ∀ j, j < m → f j ≠ x)
theorem placeR_any (a : Option Addr) (m cap : Nat) (f : Nat → Int) (x : Nat) (w : World) (hm : m ≤ maxLen) (hr : Row w a m f) :
    Calls Try.prog 47 #[.slice a m cap, .int .i64 x] w fun e w' => (∃ r : Int, e = .returned (.int .i64 r) ∧ PlaceAt f m x r) ∧ w = w' := by
  unfold maxLen at hm
  have HR : Hid (Row w a m f) := hr
  clear hr
  go_enter Try.func47, Try.ntmps47
  go_wp2_with fail
  go_loopw [5] (fun i wx => ∃ k : Nat, k ≤ m ∧ i = .int .i64 k ∧ wx = w ∧ Hid (∀ j, j < k → f j ≠ x)) (fun i _ => m - (intOf i).toNat)
  case atStart => exact ⟨0, Nat.zero_le _, rfl, rfl, fun j hj => absurd hj (Nat.not_lt_zero _)⟩
  case round =>
    obtain ⟨k, hk, rfl, rfl, HN⟩ := hrel
    by_cases hlt : k < m
    · obtain ⟨b, off, rfl, hc⟩ := HR.out k hlt
      by_cases he : f k = x
      · have he' : (f k == (x : Int)) = true := by rw [he]; simp
        have HE : Hid (PlaceAt f m x k) := .inl ⟨k, hlt, rfl, he, HN.out⟩
        generalize f k = X at *
        clear HN he
        go_wp2_with fail
        go_ret
        exact ⟨⟨_, rfl, HE.out⟩, rfl⟩
      · have he' : (f k == (x : Int)) = false := by simpa using he
        have HN2 : Hid (∀ j, j < k + 1 → f j ≠ x) := fun j hj => by
          by_cases e : j = k
          · subst e; exact he
          · exact HN.out j (by omega)
        generalize f k = X at *
        clear HN he
        go_wp2_with fail
        go_roundw
        case rel => exact ⟨k + 1, by omega, by go_num, by first | rfl | trivial, HN2.out⟩
        case measure => simp [intOf]; omega
    · obtain rfl : k = m := by omega
      have HE : Hid (PlaceAt f k x (-1)) := .inr ⟨rfl, HN.out⟩
      clear HN
      go_wp2_with fail
      go_ret
      exact ⟨⟨_, rfl, HE.out⟩, rfl⟩
end Go.Proofs.Ytappekjkcgmheaa
