/-
  That hasselaw.levelBegun answers true. No condition.
-/
import Derived.Test.YtpagbjblibckoaaDoorHeights
namespace Go.Proofs.YtpagbjblibckoaaDoor
open Go.RowKit

def gLad (k : Nat) : Nat := if k = 0 then 0 else if k = 1 then 1 else 3
def fLad (k : Nat) : Int := (gLad k : Nat)
theorem ladder_any (w : World) : Calls Tryd.prog 23 #[] w fun e w' => (∃ a, e = .returned (.agg #[.int .i64 3, .slice a 3 3]) ∧ Row w' a 3 fLad) ∧ Below w.heap.size w w' := by
  go_enter Tryd.func23, Tryd.ntmps23
  go_wp2_with fail
  refine bodyPost_ret (v := .agg #[.int .i64 3, .slice (some ⟨w.heap.size + 1, 0, none⟩) 3 3]) (by simp [results, Tryd.results23, go_sem]) rfl ⟨⟨_, rfl, ?_⟩, ?_⟩
  · intro k hk
    refine ⟨w.heap.size + 1, 0, rfl, ?_⟩
    match k, hk with
    | 0, _ => simp [fLad, gLad]
    | 1, _ => simp [fLad, gLad]
    | 2, _ => simp [fLad, gLad]
  · exact ((Below.refl _ _).alloc (Nat.le_refl _) _).alloc (by simp) _
theorem natLad : nat fLad = gLad := by funext k; simp [nat, fLad]
theorem lad_chk : Chk 3 3 fLad 0 := by
  refine .inr ⟨3, rfl, by omega, .inr ⟨rfl, .inr ⟨?_, .inr ⟨rfl, ?_⟩⟩⟩⟩
  · unfold Rng fLad; decide +kernel
  · rw [natLad]; unfold Ord OrdAt; decide +kernel
theorem lad_hts : ∀ k, k < 3 → nth (hts gLad 3) k = k := by decide +kernel

theorem levelBegun_any (w : World) : Calls Tryd.prog 8 #[] w fun e w' => e = .returned (.bool true) ∧ Below w.heap.size w w' := by
  go_enter Tryd.func8, Tryd.ntmps8
  go_wp2_with fail
  refine (ladder_any _).mono ?_
  rintro e w1 ⟨⟨a, rfl, hrow⟩, hb1⟩
  have HB1 : Hid (Below w.heap.size w w1) := hb1
  have HR1 : Hid (Row w1 a 3 fLad) := hrow
  clear hb1 hrow
  go_wp2_with fail
  refine (heights_any 3 a 3 3 fLad _ (by unfold maxLen; omega) HR1.out).mono ?_
  rintro e w2 ⟨⟨c, v, hc, rfl, he⟩, hb2⟩
  obtain rfl := hc.unique lad_chk
  rcases he with ⟨h0, _⟩ | ⟨_, hv⟩
  · exact absurd rfl h0
  rw [natLad] at hv
  obtain ⟨a2, cap2, rfl, hrow2⟩ := hv
  have e3 : (hts gLad 3).length = 3 := mapTo_len _ _
  rw [e3] at hrow2 ⊢
  have HR2 : Hid (Row w2 a2 3 (fun k => (nth (hts gLad 3) k : Nat))) := hrow2
  have HB2 : Hid (Below w.heap.size w w2) := Below.then HB1.out hb2
  clear hrow2 hb2 HB1 HR1 hc e3
  go_wp2_with fail
  refine (same_any _ _ 3 cap2 3 3 (fun k => (nth (hts gLad 3) k : Nat)) (fun k => (k : Nat)) _ (by unfold maxLen; omega) (by unfold maxLen; omega) (HR2.out.below ((Below.refl _ _).alloc (Nat.le_refl _) _)) ?_).mono ?_
  · intro k hk
    refine ⟨w2.heap.size, 0, rfl, ?_⟩
    match k, hk with
    | 0, _ => simp
    | 1, _ => simp
    | 2, _ => simp
  rintro e w3 ⟨⟨b, rfl, hb⟩, hB3⟩
  obtain rfl : b = true := hb.2 ⟨rfl, fun k hk => by simp only [lad_hts k hk]⟩
  have HB3 : Hid (Below w.heap.size w w3) := Below.then (HB2.out.alloc HB2.out.size _) hB3
  clear hb hB3 HB2 HR2
  go_wp2_with fail
  go_ret
  exact ⟨rfl, HB3.out⟩
end Go.Proofs.YtpagbjblibckoaaDoor
