/-
  What hasselaw.LatticeDedekind and hasselaw.LatticeBirkhoff answer: true. Conditions: the library's table lies in its variable; slices read as slices of rows.
-/
import Derived.Test.YtcngjmbiinifnaaDoorLBegun
import Derived.Test.YtcngjmbiinifnaaDoorDiam
namespace Go.Proofs.YtcngjmbiinifnaaDoor
open Go.RowKit

theorem LCk.turn {n : Int} {la : Nat} {SA : Nat → Option Addr × Nat × Nat} {FA : Nat → Nat → Int} {lb : Nat} {SB : Nat → Option Addr × Nat × Nat} {FB : Nat → Nat → Int} (h : LCk n la SA FA lb SB FB 0) : LCk n lb SB FB la SA FA 0 := by
  rcases h with ⟨h, _⟩ | ⟨h1, ⟨h, _⟩ | ⟨h2, ⟨h, _⟩ | ⟨h3, ⟨h, _⟩ | ⟨_, h⟩⟩⟩⟩
  · omega
  · omega
  · omega
  · omega
  · exact .inr ⟨h1, .inr ⟨h2.symm, .inr ⟨h3.symm, .inr ⟨rfl, h.symm⟩⟩⟩⟩
theorem bool_iff {a b : Bool} {P : Prop} (h : a = true ↔ P) (h' : b = true ↔ P) : a = b := by
  rcases a with _ | _ <;> rcases b with _ | _ <;> simp_all
theorem bool_not {a b : Bool} {P : Prop} (h : a = true ↔ P) (h' : b = true ↔ ¬ P) : b = !a := by
  rcases a with _ | _ <;> rcases b with _ | _ <;> simp_all
theorem len3 {n : Nat} {P : Nat → Nat → Nat → Bool} {l : List Nat} {ok : Bool} (h : First3 n P l ok) : ((l.length : Int) == 3) = ok := by
  rcases h with ⟨rfl, x, y, z, _, _, _, rfl⟩ | ⟨rfl, rfl, _⟩ <;> simp
theorem First3.some {n : Nat} {P : Nat → Nat → Nat → Bool} {l : List Nat} {ok : Bool} (h : First3 n P l ok) : ok = true ↔ Some3 n P := h.ok

set_option maxHeartbeats 4000000 in
theorem latticeDedekind_any (n : Int) (a : Option Addr) (la ca : Nat) (SA : Nat → Option Addr × Nat × Nat) (FA : Nat → Nat → Int) (b : Option Addr) (lb cb : Nat) (SB : Nat → Option Addr × Nat × Nat) (FB : Nat → Nat → Int) (w : World) (hla : la ≤ maxLen) (hlb : lb ≤ maxLen) (hra : RR w a la SA FA) (hrb : RR w b lb SB FB) (hT : Tab w) :
    Calls Tryd.prog 6 #[.agg #[.int .i64 n, .slice a la ca, .slice b lb cb]] w fun e w' => e = .returned (.bool true) ∧ Below w.heap.size w w' := by
  have B1 : Below w.heap.size w (w.alloc (.cells #[.int .i64 n, .slice a la ca, .slice b lb cb] 24)) := (Below.refl _ _).alloc (Nat.le_refl _) _
  have L0 := LB.new w n a la ca b lb cb
  have HRA : Hid (RR w a la SA FA) := hra
  have HRB : Hid (RR w b lb SB FB) := hrb
  have HT : Hid (Tab w) := hT
  have HB0 : Hid (Below w.heap.size w (w.alloc (.cells #[.int .i64 n, .slice a la ca, .slice b lb cb] 24))) := B1
  clear hra hrb B1 hT
  go_enter Tryd.func6, Tryd.ntmps6
  go_wp2_with fail
  refine (latticeBegun_any _ (HT.out.step HB0.out)).mono ?_
  rintro e w1 ⟨rfl, hb1⟩
  have L1 := L0.step hb1
  have HB1 : Hid (Below w.heap.size w w1) := Below.then HB0.out hb1
  have l0 := L1.1
  have l1 := L1.2.1
  have l2 := L1.2.2
  clear hb1 HB0 L0
  go_wp2_with fail
  refine (modular_any n a la ca SA FA b lb cb SB FB _ hla hlb (HRA.out.below HB1.out) (HRB.out.below HB1.out)).mono ?_
  rintro e w2 ⟨⟨c, va, hc, rfl, hva⟩, hb2⟩
  have L2 := L1.step hb2
  have HB2 : Hid (Below w.heap.size w w2) := Below.then HB1.out hb2
  have m0 := L2.1
  have m1 := L2.2.1
  have m2 := L2.2.2
  clear hb2 HB1 L1 l0 l1 l2
  go_wp2_with fail
  refine (pent_any n a la ca SA FA b lb cb SB FB _ hla hlb (HRA.out.below HB2.out) (HRB.out.below HB2.out)).mono ?_
  rintro e w3 ⟨⟨c', v, l, ok, hc', rfl, hp⟩, hb3⟩
  obtain rfl := LCk.one hc' hc
  have L3 := L2.step hb3
  have HB3 : Hid (Below w.heap.size w w3) := Below.then HB2.out hb3
  have p0 := L3.1
  have p1 := L3.2.1
  have p2 := L3.2.2
  clear hb3 HB2 L2 m0 m1 m2 hc'
  have HVA := (show Hid _ from hva)
  have HP := (show Hid _ from hp)
  clear hva hp
  go_wp2_with fail
  refine (modular_any n b lb cb SB FB a la ca SA FA _ hlb hla (HRB.out.below HB3.out) (HRA.out.below HB3.out)).mono ?_
  rintro e w4 ⟨⟨c4, vb, hc4, rfl, hvb⟩, hb4⟩
  have HB4 : Hid (Below w.heap.size w w4) := Below.then HB3.out hb4
  clear hb4 HB3 L3 p0 p1 p2
  by_cases h0 : c' = 0
  · subst h0
    obtain rfl := LCk.one hc4 hc.turn
    obtain ⟨q, rfl, h1, h40, e1, e2, _, _, _, _, hlat⟩ := hc.good
    rcases HVA.out with ⟨k, _⟩ | ⟨_, hva⟩
    · exact absurd rfl k
    rcases hvb with ⟨k, _⟩ | ⟨_, hvb⟩
    · exact absurd rfl k
    rcases HP.out with ⟨k, _⟩ | ⟨_, hf, a5, cap5, rfl, _⟩
    · exact absurd rfl k
    have hq : ((q : Int).toNat) = q := by omega
    rw [hq] at hva hvb hf
    obtain rfl : vb = va := bool_iff hvb (hva.trans hlat.mod_turn)
    obtain rfl : ok = !vb := by
      refine bool_not hvb (hf.some.trans ?_)
      rw [← hlat.mod_turn, hlat.dedekind, Classical.not_not]
    have h3 := len3 hf
    have HE : Hid (((l.length : Int) == 3) = !vb) := h3
    clear hf hva hvb HVA HP hlat hc hc4 e1 e2 hq h3 h1 h40
    rcases vb with _ | _
    · have h3 := HE.out
      simp only [Bool.not_false] at h3 ⊢
      go_wp2_with fail
      go_ret
      exact ⟨rfl, HB4.out⟩
    · have h3 := HE.out
      simp only [Bool.not_true] at h3 ⊢
      go_wp2_with fail
      go_ret
      exact ⟨rfl, HB4.out⟩
  · have hne : (c' != 0) = true := by simpa using h0
    clear HVA HP hvb hc hc4
    go_wp2_with fail
    go_ret
    exact ⟨by simp, HB4.out⟩
end Go.Proofs.YtcngjmbiinifnaaDoor
