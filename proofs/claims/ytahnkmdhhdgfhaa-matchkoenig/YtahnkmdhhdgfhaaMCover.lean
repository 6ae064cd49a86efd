/-
  What match.comeTo and match.Cover answer. No condition but that a slice reads as a slice of numbers.
-/
import Derived.Test.YtahnkmdhhdgfhaaMCovM
import Derived.Test.YtahnkmdhhdgfhaaMKoenM
namespace Go.Proofs.Ytahnkmdhhdgfhaa
open Go.RowKit

theorem ct_none {G : Nat → Int} {right i : Nat} (h : G i = -1) : ctB G right i = true := by simp [ctB, h]
theorem ct_some {G : Nat → Int} {right i j : Nat} (h : G i = j) : ctB G right i = right.testBit j := by
  have : ¬ ((j : Int) = -1) := by omega
  simp [ctB, h, this]

set_option maxHeartbeats 1000000 in
theorem comeTo_any (l r : Nat) (a : Option Addr) (cap : Nat) (t : Nat → Nat) (am : Option Addr) (capm : Nat) (G : Nat → Int) (w : World) (hl : l ≤ 10) (hr10 : r ≤ 10) (ht : Sm r l t) (hr : Row w a l (fun k => (t k : Nat))) (hg : Row w am l G) (hm : Mates t l r G) :
    Calls Try.prog 29 #[.agg #[.int .i64 (l : Int), .int .i64 (r : Int), .slice a l cap], .slice am l capm] w fun e w' => (∃ x y : Nat, e = .returned (.tuple #[.int .i64 (x : Nat), .int .i64 (y : Nat)]) ∧ x < pw l ∧ CoverP t l r (cntM G l) (lack (pw l - 1) x) y) ∧ Below w.heap.size w w' := by
  have hok := hm.ok
  obtain ⟨H, hI, hG⟩ := hm
  obtain ⟨C, hC, hc, hs⟩ := clo_all hI l (Nat.le_refl _)
  have HB0 : Hid (Below w.heap.size w (w.alloc (.cells #[.int .i64 (l : Int), .int .i64 (r : Int), .slice a l cap] 24))) := (Below.refl _ _).alloc (Nat.le_refl _) _
  have K0 : GHeld (w.alloc (.cells #[.int .i64 (l : Int), .int .i64 (r : Int), .slice a l cap] 24)) w.heap.size l r a l cap (fun k => (t k : Nat)) := GHeld.box hr
  have R0 : Hid (Row (w.alloc (.cells #[.int .i64 (l : Int), .int .i64 (r : Int), .slice a l cap] 24)) am l G) := hg.below HB0.out
  have HT : Hid (Sm r l t) := ht
  have HOK : Hid (MOK t l r G) := hok
  have HNEXT : Hid (∀ left right, CTI t l r H G C left right → CTI t l r H G C (mo G left right l) (orTo t (mo G left right l) l)) := fun left right h => h.next hI hG hok hc hs
  have HEND : Hid (∀ left right, CTI t l r H G C left right → mo G left right l = left → CoverP t l r (cntM G l) (lack (pw l - 1) left) right) := fun left right h he => h.cover hl hr10 ht hI hG hok hc he
  have HST : Hid (CTI t l r H G C 0 0) := CTI.start
  have hpl := pw_le l hl
  have hpr := pw_le r hr10
  have HLT : Hid (∀ left right, CTI t l r H G C left right → left < pw l ∧ right < pw r) := fun left right h => ⟨h.lt, by rw [h.eq]; exact orTo_lt ht l (Nat.le_refl _)⟩
  clear hr hg ht hok hI hG hc hs hC
  go_enter Try.func29, Try.ntmps29
  go_wp2_with fail
  go_loopg [4, 5] (pw l) (fun m x y wx => ∃ left right : Nat, pw l - left ≤ m ∧ x = .int .i64 (left : Nat) ∧ y = .int .i64 (right : Nat) ∧ Hid (CTI t l r H G C left right) ∧ GHeld wx w.heap.size l r a l cap (fun k => (t k : Nat)) ∧ Hid (Row wx am l G) ∧ Hid (Below w.heap.size w wx))
  case atStart => exact ⟨0, 0, Nat.sub_le _ _, rfl, rfl, HST.out, K0, R0.out, HB0.out⟩
  case round =>
    clear K0 R0 HB0 HST
    obtain ⟨left, right, hm, rfl, rfl, HI, hH, HR, HB⟩ := hrel
    have c0 := hH.c0
    have c1 := hH.c1
    have c2 := hH.c2
    have hlt := HLT.out left right HI.out
    have HMO0 : Hid (mo G left right 0 = left) := mo_zero _ _ _
    go_wp2_with fail
    clear c1 c2
    go_loop [6, 11] (fun x i => ∃ k : Nat, k ≤ l ∧ i = .int .i64 k ∧ x = .int .i64 (mo G left right k : Nat)) (fun _ i => l - (intOf i).toNat)
    case atStart => exact ⟨0, Nat.zero_le _, rfl, by rw [HMO0.out]⟩
    case round =>
      obtain ⟨k, hk, rfl, rfl⟩ := hrel
      have hml := mo_lt (G := G) (right := right) hlt.1 hk
      by_cases hkl : k < l
      · have hlk : (k : Int) < (l : Int) := by omega
        obtain ⟨b, off, rfl, hcc⟩ := HR.out.at hkl
        have hck := hcc k hkl
        have hpk : pw k < 1024 := Nat.lt_of_lt_of_le (Nat.pow_lt_pow_right (by decide) hkl) hpl
        have hsh := wrap_pow k (by omega)
        have hml2 : mo G left right k < 1024 := Nat.lt_of_lt_of_le hml hpl
        have hor := i64_or (mo G left right k) (pw k) (Nat.lt_trans hml2 (by decide)) (Nat.lt_trans hpk (by decide))
        have hrt2 : right < 1024 := Nat.lt_of_lt_of_le hlt.2 hpr
        have hkm : k < 63 := by omega
        clear hml
        clear hcc
        rcases HOK.out k hkl with h1 | ⟨j, hj, hGj, _, _⟩
        · have hz : (G k == -1) = true := by rw [h1]; rfl
          have HY : Hid (mo G left right (k + 1) = mo G left right k ||| pw k) := mo_yes (ct_none h1)
          clear h1
          generalize mo G left right k = S at *
          go_wp2_with fail
          go_round
          case rel => exact ⟨k + 1, by omega, by go_num, by rw [HY.out]⟩
          case measure => simp [intOf]; omega
        · have HCT : Hid (ctB G right k = right.testBit j) := ct_some hGj
          rw [hGj] at hck
          have hz : (((j : Nat) : Int) == -1) = false := by simp
          rcases (Bool.eq_false_or_eq_true (right.testBit j)).symm with hb | hb
          · have HY : Hid (mo G left right (k + 1) = mo G left right k) := mo_no (by rw [HCT.out, hb])
            generalize mo G left right k = S at *
            go_wp2_with (go_at_call 38; refine (has_as _ _ _ _ hb (Nat.lt_trans hrt2 (by decide)) (by omega)).mono ?_; rintro e w' ⟨rfl, rfl⟩)
            go_round
            case rel => exact ⟨k + 1, by omega, by go_num, by rw [HY.out]⟩
            case measure => simp [intOf]; omega
          · have HY : Hid (mo G left right (k + 1) = mo G left right k ||| pw k) := mo_yes (by rw [HCT.out, hb])
            generalize mo G left right k = S at *
            go_wp2_with (go_at_call 38; refine (has_as _ _ _ _ hb (Nat.lt_trans hrt2 (by decide)) (by omega)).mono ?_; rintro e w' ⟨rfl, rfl⟩)
            go_round
            case rel => exact ⟨k + 1, by omega, by go_num, by rw [HY.out]⟩
            case measure => simp [intOf]; omega
      · have hkn : k = l := by omega
        have HMK : Hid (mo G left right k = mo G left right l) := by rw [hkn]; exact rfl
        rw [HMK.out] at hml ⊢
        have hge := mo_ge G left right l
        have hlek : (l : Int) ≤ (k : Int) := by omega
        have hml2 : mo G left right l < 1024 := Nat.lt_of_lt_of_le hml hpl
        clear HMK hkn hkl
        by_cases he : mo G left right l = left
        · have hq : (((mo G left right l : Nat) : Int) == (left : Int)) = true := by simp [he]
          have HF : Hid (CoverP t l r (cntM G l) (lack (pw l - 1) left) right) := HEND.out left right HI.out he
          clear he
          generalize mo G left right l = S at *
          go_wp2_with fail
          go_ret2
          exact ⟨⟨left, right, rfl, hlt.1, HF.out⟩, HB.out⟩
        · have hq : (((mo G left right l : Nat) : Int) == (left : Int)) = false := by simp; omega
          have HN : Hid (CTI t l r H G C (mo G left right l) (orTo t (mo G left right l) l)) := HNEXT.out left right HI.out
          have hgt : left < mo G left right l := by omega
          have d1 := hH.c1
          have d2 := hH.c2
          clear he
          generalize mo G left right l = S at *
          go_wp2_with fail
          refine (partners_any l r a cap t S _ hl hr10 HT.out hml2 hH.row).mono ?_
          rintro e w2 ⟨rfl, hb2⟩
          have H2 : Hid (GHeld w2 w.heap.size l r a l cap (fun k => (t k : Nat))) := hH.step hb2
          have HR2 : Hid (Row w2 am l G) := HR.out.below hb2
          have HB2 : Hid (Below w.heap.size w w2) := Below.then HB.out hb2
          clear hb2 hH HR HB c0 d1 d2
          go_wp2_with fail
          go_roundg (gk - 1)
          case rel => exact ⟨S, orTo t S l, by omega, rfl, rfl, HN.out, H2.out, HR2.out, HB2.out⟩
          case measure => omega
end Go.Proofs.Ytahnkmdhhdgfhaa
