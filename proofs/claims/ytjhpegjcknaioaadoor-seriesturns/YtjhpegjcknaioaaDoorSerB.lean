/-
  That hasselaw.seriesBegun answers true. Condition: the table of the least bits.
-/
import Derived.Test.YtjhpegjcknaioaaDoorSplD
import Derived.Test.YtjhpegjcknaioaaDoorTmG
namespace Go.Proofs.YtjhpegjcknaioaaDoor
set_option maxRecDepth 100000
open Go.RowKit

def gTwo (k : Nat) : Nat := if k = 0 then 0 else 1
def fTwo (k : Nat) : Int := (gTwo k : Nat)
theorem natTwo : nat fTwo = gTwo := by funext k; simp [nat, fTwo]
theorem two_chk : Chk 2 2 fTwo 0 := by
  refine .inr ⟨2, rfl, by omega, .inr ⟨rfl, .inr ⟨?_, .inr ⟨rfl, ?_⟩⟩⟩⟩
  · unfold Rng fTwo; decide +kernel
  · rw [natTwo]; unfold Ord OrdAt; decide +kernel
theorem two_row (w : World) : Row (w.alloc (.cells #[.int .i64 0, .int .i64 1] 3)) (some ⟨w.heap.size, 0, none⟩) 2 fTwo := fun k hk => by
  refine ⟨_, _, rfl, ?_⟩
  rcases (by omega : k = 0 ∨ k = 1) with rfl | rfl <;> simp [fTwo, gTwo]
theorem two_nz : NZ (nat fTwo) (pw 2 - 1) := by
  rw [natTwo]
  have key : ∀ a, a < 2 → ∀ b, b < 2 → ∀ c, c < 2 → ∀ d, d < 2 → zigP gTwo a b c d = true → a = b := by decide +kernel
  have m : ∀ {x}, (pw 2 - 1).testBit x = true → x < 2 := fun {x} h => bit_of_lt (n := 2) (by decide) h
  exact fun a b c d ha hb hc hd => key a (m ha) b (m hb) c (m hc) d (m hd)
set_option maxHeartbeats 2000000 in
theorem seriesBegun_any (w : World) (hT : Tab w) : Calls Tryd.prog 10 #[] w fun e w' => e = .returned (.bool true) ∧ Below w.heap.size w w' := by
  have HB0 : Hid (Below w.heap.size w (w.alloc (.cells #[.int .i64 0, .int .i64 1] 3))) := (Below.refl _ _).alloc (Nat.le_refl _) _
  have HT : Hid (Tab w) := hT
  have HR : Hid (Row (w.alloc (.cells #[.int .i64 0, .int .i64 1] 3)) (some ⟨w.heap.size, 0, none⟩) 2 fTwo) := two_row w
  clear hT
  go_enter Tryd.func10, Tryd.ntmps10
  go_wp2_with fail
  refine (sSplit_any 2 (some ⟨w.heap.size, 0, none⟩) 2 2 fTwo _ (by unfold maxLen; omega) HR.out (HT.out.step HB0.out)).mono ?_
  rintro e w1 ⟨⟨c, v, ok, hc, rfl, he⟩, hb⟩
  have HB1 : Hid (Below w.heap.size w w1) := Below.then HB0.out hb
  obtain rfl := Chk.unique hc two_chk
  clear hb HB0 HR
  rcases he with ⟨h, _⟩ | ⟨_, he⟩
  · exact absurd rfl h
  rcases he with ⟨rfl, _, T, hT, hTr⟩ | ⟨_, _, h⟩
  · obtain ⟨kid, hTe, hcr⟩ := hTr.ok.two (by rw [hTr.st]; rfl) (by rw [natTwo]; rfl)
    have HGT : Hid (GdT T) := (hTr.ok.good (n := 2) (by omega) hTr.st).1
    have HTR : Hid (TRep 0 w1 T v) := TRep.low (Nat.zero_le _) _ _ hT
    have HCR : Hid (cr T = 1) := hcr
    rw [hTe] at hT
    obtain ⟨a, cap, rfl, _, _⟩ := hT
    have HTW : Hid (TRep 0 (w1.alloc (.cells #[.int .i64 3, .int .i64 0, .slice a 2 cap] 27)) T (.agg #[.int .i64 3, .int .i64 0, .slice a 2 cap])) := TRep.step ((Below.refl _ _).alloc (Nat.le_refl _) _) _ _ HTR.out
    have HBW : Hid (Below w.heap.size w (w1.alloc (.cells #[.int .i64 3, .int .i64 0, .slice a 2 cap] 27))) := HB1.out.alloc HB1.out.size _
    have HX : Hid (∀ w', Below (w1.alloc (.cells #[.int .i64 3, .int .i64 0, .slice a 2 cap] 27)).heap.size (w1.alloc (.cells #[.int .i64 3, .int .i64 0, .slice a 2 cap] 27)) w' → w'.cell? ⟨w1.heap.size, 0, none⟩ = some (.int .i64 3) ∧ w'.cell? ⟨w1.heap.size, 2, none⟩ = some (.slice a 2 cap)) := fun w' h =>
      ⟨cell_stp h (by simp), cell_stp h (by simp)⟩
    clear hTr hTe hcr hc HTR
    go_wp2_with fail
    refine (sRows_any T _ _ HTW.out).mono ?_
    rintro e w2 ⟨⟨c2, hc2, he2⟩, hb2⟩
    have HB2 : Hid (Below w.heap.size w w2) := Below.then HBW.out hb2
    obtain ⟨y0, y2⟩ := HX.out _ hb2
    obtain rfl : c2 = 0 := hc2.2 HGT.out
    clear hb2 hc2
    rcases he2 with ⟨_, rfl⟩ | ⟨h, _⟩
    · rw [HCR.out]
      go_wp2_with fail
      go_ret
      exact ⟨rfl, HB2.out⟩
    · exact absurd rfl h
  · exfalso
    rcases h with h | h
    · omega
    · exact h two_nz
end Go.Proofs.YtjhpegjcknaioaaDoor
