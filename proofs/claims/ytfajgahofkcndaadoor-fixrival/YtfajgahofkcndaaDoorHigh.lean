/-
  What lattice.upTo and lattice.highest answer. Conditions: the library's table lies in its variable; an order of at most ten points.
-/
import Derived.Test.YtfajgahofkcndaaDoorPoints
import Derived.Test.YtfajgahofkcndaaDoorLChk
namespace Go.Proofs.YtfajgahofkcndaaDoor
open Go.RowKit

theorem small63 {a : Nat} (h : a < 1024) : a < 9223372036854775808 := by omega
theorem small64 {a : Nat} (h : a < 1024) : a < 18446744073709551616 := by omega
/-- A point and what is below it. -/
def up (g : Nat → Nat) (x : Nat) : Nat := g x ||| pw x
theorem up_lt {g : Nat → Nat} {x : Nat} (hg : g x < 1024) (hx : x < 10) : up g x < 1024 := by
  have : pw x < 2 ^ 10 := Nat.pow_lt_pow_right (by decide) hx
  exact Nat.or_lt_two_pow (n := 10) hg this

set_option maxHeartbeats 1000000 in
theorem upTo_any (n : Int) (a : Option Addr) (len cap : Nat) (g : Nat → Nat) (x : Nat) (w : World) (h10 : len ≤ 10) (hg : ∀ k, k < len → g k < 1024) (hr : Row w a len (fun k => (g k : Nat))) (hx : x < len) :
    Calls Tryd.prog 41 #[.agg #[.int .i64 n, .slice a len cap], .int .i64 (x : Nat)] w fun e w' => e = .returned (.int .i64 (up g x : Nat)) ∧ Below w.heap.size w w' := by
  have HB0 : Hid (Below w.heap.size w (w.alloc (.cells #[.int .i64 n, .slice a len cap] 24))) := (Below.refl _ _).alloc (Nat.le_refl _) _
  obtain ⟨b, off, rfl, hc⟩ := hr x hx
  have c1 : (w.alloc (.cells #[.int .i64 n, .slice (some ⟨b, off, none⟩) len cap] 24)).cell? ⟨b, off + x, none⟩ = some (.int .i64 (g x : Nat)) := cell_step HB0.out hc
  have hx' : (x : Int) < (len : Int) := by omega
  have HV : Hid (bits .or .i64 ((g x : Nat) : Int) (wrap64 (2 ^ x)) = ((up g x : Nat) : Int)) := by
    rw [wrap_pow x (by omega)]
    refine i64_or _ _ ?_ ?_
    · have := hg x hx; omega
    · have : pw x < 2 ^ 10 := Nat.pow_lt_pow_right (by decide) (by omega)
      omega
  clear hr hc hg
  go_enter Tryd.func41, Tryd.ntmps41
  go_wp2
  go_big_quiet (fail)
  go_wp2
  go_ret
  exact ⟨by rw [← HV.out]; rfl, below_drewN HB0.out _⟩

theorem pts_mem (s : Nat) : ∀ k i, i ∈ pts s k ↔ i < k ∧ s.testBit i = true
  | 0, i => by simp [pts]
  | k + 1, i => by
    cases hb : s.testBit k
    · rw [pts_no hb, pts_mem s k i]
      constructor
      · rintro ⟨h1, h2⟩; exact ⟨by omega, h2⟩
      · rintro ⟨h1, h2⟩
        refine ⟨?_, h2⟩
        by_cases e : i = k
        · subst e; rw [hb] at h2; cases h2
        · omega
    · rw [pts_yes hb, List.mem_append, pts_mem s k i, List.mem_singleton]
      constructor
      · rintro (⟨h1, h2⟩ | rfl)
        · exact ⟨by omega, h2⟩
        · exact ⟨by omega, hb⟩
      · rintro ⟨h1, h2⟩
        by_cases e : i = k
        · exact .inr e
        · exact .inl ⟨by omega, h2⟩
/-- The point of a set that all others of it are below. -/
def Hi (g : Nat → Nat) (s p : Nat) : Prop := s.testBit p = true ∧ ∀ k, s.testBit k = true → (up g p).testBit k = true
def HiIs (g : Nat → Nat) (s : Nat) (v : Nat) (ok : Bool) : Prop := (ok = true ∧ Hi g s v) ∨ (ok = false ∧ v = 0 ∧ ∀ p, ¬ Hi g s p)

end Go.Proofs.YtfajgahofkcndaaDoor
