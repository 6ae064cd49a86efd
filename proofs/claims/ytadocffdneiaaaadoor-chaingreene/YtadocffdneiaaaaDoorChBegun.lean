/-
  That hasselaw.chainBegun answers true; what hasselaw.numberIs answers. Condition: the library's table lies in its variable.
-/
import Derived.Test.YtadocffdneiaaaaDoorWide
import Derived.Test.YtadocffdneiaaaaDoorParts
namespace Go.Proofs.YtadocffdneiaaaaDoor
open Go.RowKit


def gLad (k : Nat) : Nat := if k = 0 then 0 else if k = 1 then 1 else 3
def fLad (k : Nat) : Int := (gLad k : Nat)
theorem ladder_any (w : World) : Calls Tryd.prog 9 #[] w fun e w' => (∃ a, e = .returned (.agg #[.int .i64 3, .slice a 3 3]) ∧ Row w' a 3 fLad) ∧ Below w.heap.size w w' := by
  go_enter Tryd.func9, Tryd.ntmps9
  go_wp2_with fail
  refine bodyPost_ret (v := .agg #[.int .i64 3, .slice (some ⟨w.heap.size + 1, 0, none⟩) 3 3]) (by simp [results, Tryd.results9, go_sem]) rfl ⟨⟨_, rfl, ?_⟩, ?_⟩
  · intro k hk
    refine ⟨w.heap.size + 1, 0, rfl, ?_⟩
    match k, hk with
    | 0, _ => simp [fLad, gLad]
    | 1, _ => simp [fLad, gLad]
    | 2, _ => simp [fLad, gLad]
  · exact ((Below.refl _ _).alloc (Nat.le_refl _) _).alloc (by simp) _
theorem natLad : nat fLad = gLad := by funext k; simp [nat, fLad]
theorem lad_chk : Chk 3 3 fLad 0 := by
  refine .inr ⟨3, rfl, by omega, .inr ⟨rfl, .inr ⟨?_, .inr ⟨rfl, ?_⟩⟩⟩⟩
  · unfold Rng fLad; decide +kernel
  · rw [natLad]; unfold Ord OrdAt; decide +kernel

theorem two_chk : Chk 2 2 (fun _ => 0) 0 := by
  refine .inr ⟨2, rfl, by omega, .inr ⟨rfl, .inr ⟨?_, .inr ⟨rfl, ?_⟩⟩⟩⟩
  · unfold Rng; decide +kernel
  · unfold Ord OrdAt nat; decide +kernel
theorem two_wid : wid (nat fun _ => 0) 2 (pw 2) = 3 := by decide +kernel
theorem lad_wid : pc (wid gLad 3 (pw 3)) = 1 := by decide +kernel

theorem chainBegun_any (w : World) (hT : Tab w) : Calls Tryd.prog 4 #[] w fun e w' => e = .returned (.bool true) ∧ Below w.heap.size w w' := by
  have HT : Hid (Tab w) := hT
  clear hT
  go_enter Tryd.func4, Tryd.ntmps4
  go_wp2_with fail
  refine (widest_any 2 _ 2 2 (fun _ => 0) _ (by unfold maxLen; omega) ?_).mono ?_
  · intro k hk
    refine ⟨w.heap.size, 0, rfl, ?_⟩
    match k, hk with
    | 0, _ => simp
    | 1, _ => simp
  rintro e w1 ⟨⟨c, hc, he⟩, hb1⟩
  obtain rfl := hc.unique two_chk
  rcases he with ⟨h0, _⟩ | ⟨_, rfl⟩
  · exact absurd rfl h0
  rw [two_wid]
  have HB1 : Hid (Below w.heap.size w w1) := Below.then ((Below.refl _ _).alloc (Nat.le_refl _) _) hb1
  clear hb1 hc
  go_wp2_with fail
  refine (ladder_any _).mono ?_
  rintro e w2 ⟨⟨a, rfl, hrow⟩, hb2⟩
  have HB2 : Hid (Below w.heap.size w w2) := Below.then HB1.out hb2
  have HR2 : Hid (Row w2 a 3 fLad) := hrow
  clear hb2 hrow HB1
  go_wp2_with fail
  refine (parts_any 3 a 3 3 fLad _ (by unfold maxLen; omega) HR2.out (HT.out.step HB2.out)).mono ?_
  rintro e w3 ⟨⟨c, hc, he⟩, hb3⟩
  obtain rfl := hc.unique lad_chk
  rcases he with ⟨h0, _⟩ | ⟨_, v, G, rfl, _, hls, hlen⟩
  · exact absurd rfl h0
  rw [natLad, lad_wid] at hlen
  rw [hlen] at hls
  obtain ⟨a3, cap3, rfl, _⟩ := hls
  have HB3 : Hid (Below w.heap.size w w3) := Below.then HB2.out hb3
  clear hb3 hc HB2 HR2 hlen
  go_wp2_with fail
  go_ret
  exact ⟨rfl, HB3.out⟩

end Go.Proofs.YtadocffdneiaaaaDoor
