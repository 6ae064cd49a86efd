/-
  What hasselaw.spanBegun answers: true. No condition.
-/
import Derived.Test.YtkknfnjhpamfbaaSpans
import Derived.Test.YtkknfnjhpamfbaaRefSpan
namespace Go.Proofs.Ytkknfnjhpamfbaa
open Go.RowKit

def gB (k : Nat) : Nat := if k = 0 then 0 else 1
def pB (_ : Nat) : Int × Int := (1, 0)
theorem gB_fits : ∀ k, k < 2 → sp (spn gB 2) 2 k = gB k := by decide +kernel
theorem gB_spn : spn gB 2 1 = (1, 1) := by decide +kernel
theorem gB_ord : Ord 2 gB := by
  have : ∀ u, u < 2 → (gB u).testBit u = false ∧ ∀ p, p < 2 → (gB u).testBit p = true → lack (gB p) (gB u) = 0 := by decide +kernel
  exact this
theorem gB_nat : nat (fun k => (gB k : Nat)) = gB := by funext k; simp [nat]
theorem gB_chk : Chk 2 2 (fun k => (gB k : Nat)) 0 := by
  refine .inr ⟨2, rfl, by decide, .inr ⟨rfl, .inr ⟨fun k hk => ?_, .inr ⟨rfl, by rw [gB_nat]; exact gB_ord⟩⟩⟩⟩
  constructor
  · simp
  · have : ∀ k, k < 2 → gB k < pw 2 := by decide +kernel
    have := this k hk
    simp only; omega
theorem eqIn_pair (d : Nat) (x y : Int) (w : World) : (Op.equalIn (d + 2) 49 (.agg #[.int .i64 x, .int .i64 y]) (.agg #[.int .i64 x, .int .i64 y])).run Try.prog w = .ok true w := by
  have hP2 : Try.prog.underlying 49 = some (.array 2 3) := Try.underlying49
  have h3 : Try.prog.underlying 3 = some (.int .i64) := Try.underlying3
  obtain ⟨i0, hi, _, hz1, _⟩ := info_parts Try.info3
  have hd : (d + 2) = (d + 1) + 1 := rfl
  rw [hd, Op.equalIn]
  simp only [Sem.run_bind, run_underlying hP2, Result.andThen_ok]
  simp [sizeOf, typeInfo, hi, hz1, Std.Legacy.Range.forIn_eq_forIn_range', show List.range' 0 2 = [0, 1] from rfl, part, isAgg, Op.equalIn, run_underlying h3]
theorem eql_pair (x y : Int) (w : World) : (binOp .eql 49 (.agg #[.int .i64 x, .int .i64 y]) (.agg #[.int .i64 x, .int .i64 y])).run Try.prog w = .ok (.bool true) w := by
  simp only [binOp]
  simp [Op.equal, Op.maxDepth, eqIn_pair 9998]

set_option maxHeartbeats 2000000 in
theorem spanBegun_any (w : World) : Calls Try.prog 11 #[] w fun e w' => e = .returned (.bool true) ∧ Below w.heap.size w w' := by
  have HB0 : Hid (Below w.heap.size w (w.alloc (.cells #[.int .i64 0, .int .i64 1] 3))) := (Below.refl _ _).alloc (Nat.le_refl _) _
  have HR0 : Hid (Row (w.alloc (.cells #[.int .i64 0, .int .i64 1] 3)) (some ⟨w.heap.size, 0, none⟩) 2 (fun k => (gB k : Nat))) := fun k hk => by
    refine ⟨_, _, rfl, ?_⟩
    rcases (by omega : k = 0 ∨ k = 1) with rfl | rfl <;> simp [gB]
  go_enter Try.func11, Try.ntmps11
  go_wp2_with fail
  refine (spans_any 2 (some ⟨w.heap.size, 0, none⟩) 2 2 (fun k => (gB k : Nat)) _ (by unfold maxLen; omega) HR0.out).mono ?_
  rintro e w1 ⟨⟨c, v, ok, hc, rfl, hv⟩, hb1⟩
  obtain rfl := hc.unique gB_chk
  rw [gB_nat] at hv
  rcases hv with ⟨h, _⟩ | ⟨_, ⟨_, rfl, a, cap, rfl, hp⟩ | ⟨h, _⟩⟩
  · exact absurd rfl h
  · obtain ⟨b, off, rfl, hp1, hp2⟩ := hp 1 (by decide)
    rw [gB_spn] at hp1 hp2
    have HB1 : Hid (Below w.heap.size w w1) := Below.then HB0.out hb1
    have hblt := World.block_lt_of_cell? _ _ hp1
    have HB2 : Hid (Below w1.heap.size w1 (w1.alloc (.cells #[.int .i64 1, .int .i64 0] 49))) := (Below.refl _ _).alloc (Nat.le_refl _) _
    have HR2 : Hid (PRow (w1.alloc (.cells #[.int .i64 1, .int .i64 0] 49)) (some ⟨w1.heap.size, 0, none⟩) 1 pB) := fun k hk => by
      refine ⟨_, _, rfl, ?_⟩
      obtain rfl : k = 0 := by omega
      simp [pB]
    have hq1 := (HB2.out.cell hblt).trans hp1
    have hq2 := (HB2.out.cell (World.block_lt_of_cell? _ _ hp2)).trans hp2
    clear hc hp hb1 hp1 hp2 HR0 HB0
    have heql := eql_pair 1 1
    go_wp2_with fail
    refine (spOf_any (some ⟨w1.heap.size, 0, none⟩) 1 1 pB _ (by unfold maxLen; omega) HR2.out).mono ?_
    rintro e w2 ⟨⟨c, x, rfl, hc, hx⟩, hb2⟩
    obtain rfl := hc.one (.inr (.inl ⟨rfl, by decide, 0, by decide, by decide⟩) : SCk 1 pB 3)
    rcases hx with ⟨_, rfl⟩ | ⟨h, _⟩
    · have HB3 : Hid (Below w.heap.size w w2) := Below.then HB1.out (Below.then HB2.out hb2)
      have hr1 := (hb2.cell (World.block_lt_of_cell? _ _ hq1)).trans hq1
      have hr2 := (hb2.cell (World.block_lt_of_cell? _ _ hq2)).trans hq2
      have hbl := World.block_lt_of_cell? _ _ hr1
      have HB4 : Hid (∀ o, Below w.heap.size w (w2.alloc o)) := fun o => HB3.out.alloc HB3.out.size _
      clear hc hb2 hq1 hq2 HB1 HB2 HR2
      unfold noOrder
      go_wp2_with fail
      go_ret
      exact ⟨rfl, HB4.out _⟩
    · cases h
  · exact absurd gB_fits h
end Go.Proofs.Ytkknfnjhpamfbaa
