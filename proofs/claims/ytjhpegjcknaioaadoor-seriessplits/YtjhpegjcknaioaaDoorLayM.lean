/-
  That hasselaw.seriesBegun answers true. Condition: the table of the least bits.
  What is below what in a right term, as lay tells it. Plain facts: no Go text here. Conditions: as each theorem says.
-/
import Derived.Test.YtjhpegjcknaioaaDoorSplD
import Derived.Test.YtjhpegjcknaioaaDoorTmG
namespace Go.Proofs.YtjhpegjcknaioaaDoor
set_option maxRecDepth 100000
open Go.RowKit

def gTwo (k : Nat) : Nat := if k = 0 then 0 else 1
def fTwo (k : Nat) : Int := (gTwo k : Nat)
theorem natTwo : nat fTwo = gTwo := by funext k; simp [nat, fTwo]
theorem two_chk : Chk 2 2 fTwo 0 := by
  refine .inr ⟨2, rfl, by omega, .inr ⟨rfl, .inr ⟨?_, .inr ⟨rfl, ?_⟩⟩⟩⟩
  · unfold Rng fTwo; decide +kernel
  · rw [natTwo]; unfold Ord OrdAt; decide +kernel
theorem two_row (w : World) : Row (w.alloc (.cells #[.int .i64 0, .int .i64 1] 3)) (some ⟨w.heap.size, 0, none⟩) 2 fTwo := fun k hk => by
  refine ⟨_, _, rfl, ?_⟩
  rcases (by omega : k = 0 ∨ k = 1) with rfl | rfl <;> simp [fTwo, gTwo]
theorem two_nz : NZ (nat fTwo) (pw 2 - 1) := by
  rw [natTwo]
  have key : ∀ a, a < 2 → ∀ b, b < 2 → ∀ c, c < 2 → ∀ d, d < 2 → zigP gTwo a b c d = true → a = b := by decide +kernel
  have m : ∀ {x}, (pw 2 - 1).testBit x = true → x < 2 := fun {x} h => bit_of_lt (n := 2) (by decide) h
  exact fun a b c d ha hb hc hd => key a (m ha) b (m hb) c (m hc) d (m hd)
set_option maxHeartbeats 2000000 in
theorem seriesBegun_any (w : World) (hT : Tab w) : Calls Tryd.prog 10 #[] w fun e w' => e = .returned (.bool true) ∧ Below w.heap.size w w' := by
  have HB0 : Hid (Below w.heap.size w (w.alloc (.cells #[.int .i64 0, .int .i64 1] 3))) := (Below.refl _ _).alloc (Nat.le_refl _) _
  have HT : Hid (Tab w) := hT
  have HR : Hid (Row (w.alloc (.cells #[.int .i64 0, .int .i64 1] 3)) (some ⟨w.heap.size, 0, none⟩) 2 fTwo) := two_row w
  clear hT
  go_enter Tryd.func10, Tryd.ntmps10
  go_wp2_with fail
  refine (sSplit_any 2 (some ⟨w.heap.size, 0, none⟩) 2 2 fTwo _ (by unfold maxLen; omega) HR.out (HT.out.step HB0.out)).mono ?_
  rintro e w1 ⟨⟨c, v, ok, hc, rfl, he⟩, hb⟩
  have HB1 : Hid (Below w.heap.size w w1) := Below.then HB0.out hb
  obtain rfl := Chk.unique hc two_chk
  clear hb HB0 HR
  rcases he with ⟨h, _⟩ | ⟨_, he⟩
  · exact absurd rfl h
  rcases he with ⟨rfl, _, T, hT, hTr⟩ | ⟨_, _, h⟩
  · obtain ⟨kid, hTe, hcr⟩ := hTr.ok.two (by rw [hTr.st]; rfl) (by rw [natTwo]; rfl)
    have HGT : Hid (GdT T) := (hTr.ok.good (n := 2) (by omega) hTr.st).1
    have HTR : Hid (TRep 0 w1 T v) := TRep.low (Nat.zero_le _) _ _ hT
    have HCR : Hid (cr T = 1) := hcr
    rw [hTe] at hT
    obtain ⟨a, cap, rfl, _, _⟩ := hT
    have HTW : Hid (TRep 0 (w1.alloc (.cells #[.int .i64 3, .int .i64 0, .slice a 2 cap] 27)) T (.agg #[.int .i64 3, .int .i64 0, .slice a 2 cap])) := TRep.step ((Below.refl _ _).alloc (Nat.le_refl _) _) _ _ HTR.out
    have HBW : Hid (Below w.heap.size w (w1.alloc (.cells #[.int .i64 3, .int .i64 0, .slice a 2 cap] 27))) := HB1.out.alloc HB1.out.size _
    have HX : Hid (∀ w', Below (w1.alloc (.cells #[.int .i64 3, .int .i64 0, .slice a 2 cap] 27)).heap.size (w1.alloc (.cells #[.int .i64 3, .int .i64 0, .slice a 2 cap] 27)) w' → w'.cell? ⟨w1.heap.size, 0, none⟩ = some (.int .i64 3) ∧ w'.cell? ⟨w1.heap.size, 2, none⟩ = some (.slice a 2 cap)) := fun w' h =>
      ⟨cell_stp h (by simp), cell_stp h (by simp)⟩
    clear hTr hTe hcr hc HTR
    go_wp2_with fail
    refine (sRows_any T _ _ HTW.out).mono ?_
    rintro e w2 ⟨⟨c2, hc2, he2⟩, hb2⟩
    have HB2 : Hid (Below w.heap.size w w2) := Below.then HBW.out hb2
    obtain ⟨y0, y2⟩ := HX.out _ hb2
    obtain rfl : c2 = 0 := hc2.2 HGT.out
    clear hb2 hc2
    rcases he2 with ⟨_, rfl⟩ | ⟨h, _⟩
    · rw [HCR.out]
      go_wp2_with fail
      go_ret
      exact ⟨rfl, HB2.out⟩
    · exact absurd rfl h
  · exfalso
    rcases h with h | h
    · omega
    · exact h two_nz
end Go.Proofs.YtjhpegjcknaioaaDoor
namespace Go.Proofs.YtjhpegjcknaioaaDoor

/-- What is below p among S, if p is in S. -/
def dnP (L : Nat → Nat → Bool) (S p : Nat) : Nat := if S.testBit p = true then setBy (fun a => S.testBit a && L a p) 10 else 0
theorem dnP_bit {L : Nat → Nat → Bool} {S : Nat} (hS : S < 1024) (p a : Nat) : (dnP L S p).testBit a = true ↔ S.testBit p = true ∧ S.testBit a = true ∧ L a p = true := by
  unfold dnP
  by_cases h : S.testBit p = true
  · rw [if_pos h, setBy_bit]
    simp only [Bool.and_eq_true, decide_eq_true_eq, h, true_and]
    exact ⟨fun k => k.2, fun k => ⟨bit_of_lt (n := 10) hS k.1, k⟩⟩
  · rw [if_neg h]; simp [h]
theorem dnP_lt (L : Nat → Nat → Bool) (S p : Nat) : dnP L S p < 1024 := by
  unfold dnP
  split
  · exact setBy_lt _ 10
  · omega
def layK (L : Nat → Nat → Bool) (kid : Nat → TT) (f : Nat → Nat) (i p : Nat) : Nat := f p ||| dnP L (stK kid i) p
/-- One kid more. -/
theorem lay_step {L : Nat → Nat → Bool} {k x : Int} {n : Nat} {kid : Nat → TT} (h : Ok L (.mk k x n kid)) (hk : k ≠ 1) {i : Nat} (hi : i < n) (f : Nat → Nat) (p : Nat) :
    (layK L kid f i p ||| dnP L (st (kid i)) p) ||| (if k = 3 ∧ (st (kid i)).testBit p = true then stK kid i else 0) = layK L kid f (i + 1) p := by
  obtain ⟨hk23, _, _, h4⟩ := h.kids hk
  have lt1 := (h4 i hi).lt
  have ltK : ∀ j, j ≤ n → stK kid j < 1024 := fun j => by
    induction j with
    | zero => intro _; show 0 < 1024; omega
    | succ j ih => intro hj; rw [stK_succ]; exact Nat.or_lt_two_pow (n := 10) (ih (by omega)) (h4 j (by omega)).lt
  have cross : ∀ a b, (stK kid i).testBit a = true → (st (kid i)).testBit b = true → (k = 2 → L a b = false) ∧ (k = 3 → L a b = true) ∧ L b a = false := fun a b ha hb => by
    obtain ⟨j, hj, hja⟩ := (stK_bit kid a i).1 ha
    rcases h with ⟨e, _⟩ | ⟨_, _, _, _, h5⟩
    · exact absurd e hk
    · exact (h5 j i hj hi a b hja hb).2
  apply Nat.eq_of_testBit_eq
  intro a
  rw [Bool.eq_iff_iff]
  unfold layK
  simp only [Nat.testBit_or, Bool.or_eq_true, dnP_bit (ltK i (by omega)), dnP_bit lt1, dnP_bit (ltK (i + 1) (by omega))]
  simp only [stK_succ, Nat.testBit_or, Bool.or_eq_true]
  constructor
  · rintro (((h1 | h1) | h1) | h1)
    · exact .inl h1
    · exact .inr ⟨.inl h1.1, .inl h1.2.1, h1.2.2⟩
    · exact .inr ⟨.inr h1.1, .inr h1.2.1, h1.2.2⟩
    · by_cases hc : k = 3 ∧ (st (kid i)).testBit p = true
      · rw [if_pos hc] at h1
        exact .inr ⟨.inr hc.2, .inl h1, (cross a p h1 hc.2).2.1 hc.1⟩
      · rw [if_neg hc] at h1; simp at h1
  · rintro (h1 | ⟨h1, h2, h3⟩)
    · exact .inl (.inl (.inl h1))
    · rcases h1 with h1 | h1 <;> rcases h2 with h2 | h2
      · exact .inl (.inl (.inr ⟨h1, h2, h3⟩))
      · have := (cross p a h1 h2).2.2; rw [h3] at this; cases this
      · have c := cross a p h2 h1
        rcases hk23 with e | e
        · have := c.1 e; rw [h3] at this; cases this
        · rw [if_pos ⟨e, h1⟩]; exact .inr h2
      · exact .inl (.inr ⟨h1, h2, h3⟩)
theorem stK_lt {k x : Int} {n m : Nat} {kid : Nat → TT} (hk : k ≠ 1) (hs : st (.mk k x n kid) < pw m) : ∀ i, i < n → st (kid i) < pw m := fun i hi => by
  rw [st_eq, if_neg hk] at hs
  exact sub_lt hs fun a ha => (stK_bit kid a n).2 ⟨i, hi, ha⟩
end Go.Proofs.YtjhpegjcknaioaaDoor
