/-
  What the closure of the reference's LeastWith does: one class goes into another one, in the row itself. Conditions: the row may be written, of at most forty numbers; the box that names it lies elsewhere.
  What the reference's Place and IsPermutation answer. Conditions: a slice reads as a slice of numbers.
-/
import Derived.Test.YtappekjkcgmheaaNumP
import Derived.Test.YtappekjkcgmheaaLRows
import Derived.Test.YtappekjkcgmheaaNats
namespace Go.Proofs.Ytappekjkcgmheaa
open Go.RowKit
set_option maxRecDepth 100000

theorem ent_leastWith1 : Ent 34 := fun _ _ => rfl
theorem int_bneN {a b : Nat} {v : Bool} (h : (!(a == b)) = v) : (((a : Nat) : Int) != ((b : Nat) : Int)) = v := by
  rw [← h, bne, int_beq]
theorem own_drew {w : World} {B q : Nat} {c : Nat → Nat} (h : Own w B q c) (n : Nat) : Own (w.drewN n) B q c := h

set_option maxHeartbeats 4000000 in
theorem leastWith1_any (X q B cap : Nat) (c : Nat → Nat) (x y : Nat) (w : World) (h40 : q ≤ 40) (hx : x < q) (hy : y < q) (hXB : X ≠ B) (hX : w.cell? ⟨X, 0, none⟩ = some (.slice (some ⟨B, 0, none⟩) q cap)) (ho : Own w B q c) :
    Calls Try.prog 34 #[.int .i64 (x : Nat), .int .i64 (y : Nat), .pointer (some ⟨X, 0, none⟩)] w fun e w' => e = .returned (.bool (!(c x == c y))) ∧ Own w' B q (rel1 c (c y) (c x)) ∧ w.grownBy w' (some B) := by
  have c1 := (ho x hx).1
  have c2 := (ho y hy).1
  have ix : (x : Int) < (q : Int) := by omega
  have iy : (y : Int) < (q : Int) := by omega
  obtain ⟨v, hv⟩ : ∃ v, (!(c x == c y)) = v := ⟨_, rfl⟩
  rw [hv]
  have hne := int_bneN hv
  clear hv
  obtain ⟨a, ha⟩ : ∃ a, c y = a := ⟨_, rfl⟩
  obtain ⟨b, hb⟩ : ∃ b, c x = b := ⟨_, rfl⟩
  rw [ha, hb]
  rw [ha, hb] at hne
  rw [hb] at c1
  rw [ha] at c2
  have HO : Hid (Own w B q (mixR c a b 0)) := by rw [mixR_zero]; exact ho
  have HXc : Hid (∀ wx, w.grownBy wx (some B) → wx.cell? ⟨X, 0, none⟩ = some (.slice (some ⟨B, 0, none⟩) q cap)) := fun wx hg =>
    (hg.cell_far ⟨X, 0, none⟩ (World.block_lt_of_cell? _ _ hX) (fun e => hXB (by injection e))).trans hX
  clear ho ha hb
  go_enter Try.func34, Try.ntmps34
  go_wp2_with fail
  go_big_quiet (fail)
  go_wp2_with fail
  clear c1 c2 hX
  go_loopw [8] (fun i wx => ∃ k : Nat, k ≤ q ∧ i = .int .i64 k ∧ Hid (Own wx B q (mixR c a b k)) ∧ Hid (w.grownBy wx (some B))) (fun i _ => q - (intOf i).toNat)
  case atStart => exact ⟨0, Nat.zero_le _, rfl, own_drew HO.out _, ⟨rfl, rfl, rfl, Nat.le_refl _, fun _ _ _ => rfl⟩⟩
  case round =>
    obtain ⟨k, hk, rfl, HK, HG⟩ := hrel
    clear HO
    have hXk := HXc.out _ HG.out
    by_cases hlt : k < q
    · have ck := (HK.out k hlt).1
      have cf := (HK.out k hlt).2
      rw [mixR_at] at ck
      have hlk : (k : Int) < (q : Int) := by omega
      by_cases e : c k = a
      · have he : (((c k : Nat) : Int) == (a : Int)) = true := by rw [e]; simp
        have HM : Hid (mixR c a b (k + 1) = upd (mixR c a b k) k b) := mixR_yes e
        clear e
        go_wp2_with fail
        go_roundw
        case rel => exact ⟨k + 1, by omega, by go_num, by rw [HM.out]; exact HK.out.set k b hlt, HG.out.trans (grown_setC _ _ _ _)⟩
        case measure => simp [intOf]; omega
      · have he : (((c k : Nat) : Int) == (a : Int)) = false := by simp; omega
        have HM : Hid (mixR c a b (k + 1) = mixR c a b k) := mixR_no e
        clear e
        go_wp2_with fail
        go_roundw
        case rel => exact ⟨k + 1, by omega, by go_num, by rw [HM.out]; exact HK.out, HG⟩
        case measure => simp [intOf]; omega
    · obtain rfl : k = q := by omega
      have HE : Hid (Own wr B k (rel1 c a b)) := HK.out.congr (fun x hx => by unfold mixR; rw [if_pos hx])
      clear HK
      go_wp2_with fail
      go_ret
      exact ⟨rfl, HE.out, HG.out⟩
end Go.Proofs.Ytappekjkcgmheaa
namespace Go.Proofs.Ytappekjkcgmheaa
open Go.RowKit

/-- Where x stands first; or nowhere. -/
def PlaceAt (f : Nat → Int) (m : Nat) (x : Nat) (r : Int) : Prop := (∃ j : Nat, j < m ∧ r = j ∧ f j = x ∧ ∀ i, i < j → f i ≠ x) ∨ (r = -1 ∧ ∀ j, j < m → f j ≠ x)
theorem placeR_any (a : Option Addr) (m cap : Nat) (f : Nat → Int) (x : Nat) (w : World) (hm : m ≤ maxLen) (hr : Row w a m f) :
    Calls Try.prog 47 #[.slice a m cap, .int .i64 x] w fun e w' => (∃ r : Int, e = .returned (.int .i64 r) ∧ PlaceAt f m x r) ∧ w = w' := by
  unfold maxLen at hm
  have HR : Hid (Row w a m f) := hr
  clear hr
  go_enter Try.func47, Try.ntmps47
  go_wp2_with fail
  go_loopw [5] (fun i wx => ∃ k : Nat, k ≤ m ∧ i = .int .i64 k ∧ wx = w ∧ Hid (∀ j, j < k → f j ≠ x)) (fun i _ => m - (intOf i).toNat)
  case atStart => exact ⟨0, Nat.zero_le _, rfl, rfl, fun j hj => absurd hj (Nat.not_lt_zero _)⟩
  case round =>
    obtain ⟨k, hk, rfl, rfl, HN⟩ := hrel
    by_cases hlt : k < m
    · obtain ⟨b, off, rfl, hc⟩ := HR.out k hlt
      by_cases he : f k = x
      · have he' : (f k == (x : Int)) = true := by rw [he]; simp
        have HE : Hid (PlaceAt f m x k) := .inl ⟨k, hlt, rfl, he, HN.out⟩
        generalize f k = X at *
        clear HN he
        go_wp2_with fail
        go_ret
        exact ⟨⟨_, rfl, HE.out⟩, rfl⟩
      · have he' : (f k == (x : Int)) = false := by simpa using he
        have HN2 : Hid (∀ j, j < k + 1 → f j ≠ x) := fun j hj => by
          by_cases e : j = k
          · subst e; exact he
          · exact HN.out j (by omega)
        generalize f k = X at *
        clear HN he
        go_wp2_with fail
        go_roundw
        case rel => exact ⟨k + 1, by omega, by go_num, by first | rfl | trivial, HN2.out⟩
        case measure => simp [intOf]; omega
    · obtain rfl : k = m := by omega
      have HE : Hid (PlaceAt f k x (-1)) := .inr ⟨rfl, HN.out⟩
      clear HN
      go_wp2_with fail
      go_ret
      exact ⟨⟨_, rfl, HE.out⟩, rfl⟩
end Go.Proofs.Ytappekjkcgmheaa
