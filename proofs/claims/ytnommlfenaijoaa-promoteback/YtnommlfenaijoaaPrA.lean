/-
  Small functions that rows ask: the reference's Same, hasselaw's ladder and numbersAre. Conditions: as each theorem says.
-/
import Derived.Test.YtnommlfenaijoaaRank
import Derived.Deep.QuietTactic
import Derived.BigQuiet
namespace Go.Proofs.Ytnommlfenaijoaa
open Go.RowKit

theorem numbersAre_any (c : Int) (l : List Nat) (v v' : Value) (w : World) (hl : l.length ≤ maxLen) (h1 : (c ≠ 0 ∧ v = .slice none 0 0 ∧ v' = .slice none 0 0) ∨ (c = 0 ∧ NSl w v l ∧ NSl w v' l)) :
    Calls Try.prog 13 #[v, .int .i64 c, .int .i64 c, v'] w fun e w' => e = .returned (.bool true) ∧ Below w.heap.size w w' := by
  rcases h1 with ⟨h0, rfl, rfl⟩ | ⟨rfl, ⟨a, ca, rfl, hr⟩, ⟨b, cb, rfl, hr'⟩⟩
  · have hne : (c != 0) = true := by simpa using h0
    go_enter Try.func13, Try.ntmps13
    go_wp2_with fail
    refine (same_any none none 0 0 0 0 (fun _ => 0) (fun _ => 0) _ (by unfold maxLen; omega) (by unfold maxLen; omega) (fun k hk => absurd hk (Nat.not_lt_zero _)) (fun k hk => absurd hk (Nat.not_lt_zero _))).mono ?_
    rintro e w1 ⟨⟨q, rfl, hq⟩, hB⟩
    obtain rfl : q = true := hq.2 ⟨rfl, fun _ _ => rfl⟩
    have HB : Hid (Below w.heap.size w w1) := hB
    clear hq hB
    go_wp2_with fail
    go_ret
    exact ⟨rfl, HB.out⟩
  · generalize l.length = m at *
    have HA : Hid (Row w a m (fun k => (nth l k : Nat))) := hr
    have HB' : Hid (Row w b m (fun k => (nth l k : Nat))) := hr'
    clear hr hr'
    go_enter Try.func13, Try.ntmps13
    go_wp2_with fail
    refine (same_any a b m ca m cb (fun k => (nth l k : Nat)) (fun k => (nth l k : Nat)) _ hl hl HA.out HB'.out).mono ?_
    rintro e w1 ⟨⟨q, rfl, hq⟩, hB⟩
    obtain rfl : q = true := hq.2 ⟨rfl, fun _ _ => rfl⟩
    have HB : Hid (Below w.heap.size w w1) := hB
    clear hq hB
    go_wp2_with fail
    go_ret
    exact ⟨rfl, HB.out⟩
def gLad (k : Nat) : Nat := if k = 0 then 0 else if k = 1 then 1 else 3
def fLad (k : Nat) : Int := (gLad k : Nat)
theorem ladder_any (w : World) : Calls Try.prog 24 #[] w fun e w' => (∃ a, e = .returned (.agg #[.int .i64 3, .slice a 3 3]) ∧ Row w' a 3 fLad) ∧ Below w.heap.size w w' := by
  go_enter Try.func24, Try.ntmps24
  go_wp2_with fail
  refine bodyPost_ret (v := .agg #[.int .i64 3, .slice (some ⟨w.heap.size + 1, 0, none⟩) 3 3]) (by simp [results, Try.results24, go_sem]) rfl ⟨⟨_, rfl, ?_⟩, ?_⟩
  · intro k hk
    refine ⟨w.heap.size + 1, 0, rfl, ?_⟩
    match k, hk with
    | 0, _ => simp [fLad, gLad]
    | 1, _ => simp [fLad, gLad]
    | 2, _ => simp [fLad, gLad]
  · exact ((Below.refl _ _).alloc (Nat.le_refl _) _).alloc (by simp) _
theorem natLad : nat fLad = gLad := by funext k; simp [nat, fLad]
theorem lad_chk : Chk 3 3 fLad 0 := by
  refine .inr ⟨3, rfl, by omega, .inr ⟨rfl, .inr ⟨?_, .inr ⟨rfl, ?_⟩⟩⟩⟩
  · unfold Rng fLad; decide +kernel
  · rw [natLad]; unfold Ord OrdAt; decide +kernel
theorem cell_step {w w' : World} {p : Addr} {v : Value} (hb : Below w.heap.size w w') (h : w.cell? p = some v) : w'.cell? p = some v := (hb.cell (World.block_lt_of_cell? _ _ h)).trans h
end Go.Proofs.Ytnommlfenaijoaa
