/-
  A context's base: every thing's marks obey it; a rule follows from it just if every thing's marks obey the rule. Plain facts. Conditions: as each theorem says.
-/
import Derived.Test.YtgjdpgjaaaeglaaDoorGuiL
import Derived.Test.YtgjdpgjaaaeglaaDoorOfP
namespace Go.Proofs.YtgjdpgjaaaeglaaDoor

section
variable {h : Nat → Nat} {n m : Nat}
theorem clm_ext (hm : m ≤ 10) (hh : ∀ k, k < n → h k < pw m) {z : Nat} (hz : z < pw m) : Sb z (clm h n m z) := fun i hi => by
  have h10 := pw_le m hm
  refine mks_iff.2 ⟨?_, fun j hj ht => ?_⟩
  · refine Classical.byContradiction fun hc => ?_
    have h1 : z < 2 ^ i := Nat.lt_of_lt_of_le hz (by unfold pw; exact Nat.pow_le_pow_right (by decide) (by omega))
    rw [Nat.testBit_lt_two_pow h1] at hi; cases hi
  · exact ((ths_iff (by omega) (fun k hk => by have := hh k hk; omega)).1 ht).2 i hi
theorem cbas_rin : RIn m (bas (clm h n m) (pw m)) := fun r hr => by
  have := bas_mem hr
  exact ⟨this.1, by rw [this.2]; exact clm_lt _ _ _ _⟩
theorem thing_obeys (hm : m ≤ 10) (hh : ∀ k, k < n → h k < pw m) {k : Nat} (hk : k < n) : ObeA (h k) (bas (clm h n m) (pw m)) := fun r hr hs i hi => by
  have h10 := pw_le m hm
  have hb := bas_mem hr
  rw [hb.2] at hi
  have h1 := (mks_iff.1 hi).2 k hk ((ths_iff (by omega) (fun k hk => by have := hh k hk; omega)).2 ⟨hk, hs⟩)
  exact h1
theorem obeyed_closed (hm : m ≤ 10) (hh : ∀ k, k < n → h k < pw m) {z : Nat} (hz : z < pw m) (ho : ObeA z (bas (clm h n m) (pw m))) : clm h n m z = z := by
  refine Classical.byContradiction fun hne => ?_
  have hob : ∀ {r}, r ∈ bas (clm h n m) (pw m) → (obe z r = true ↔ Obe z r) := fun hr =>
    obe_iff (set_1024 hm hz) (set_1024 hm (cbas_rin _ hr).1) (set_1024 hm (cbas_rin _ hr).2)
  have hall : (bas (clm h n m) z).all (obe z) = true := List.all_eq_true.2 fun r hr => (hob (bas_sub (by omega) hr)).2 (ho r (bas_sub (by omega) hr))
  have hmm : (z, clm h n m z) ∈ bas (clm h n m) (pw m) := bas_in.2 ⟨hz, hne, hall⟩
  exact hne ((ho _ hmm (Sb.refl z)).anti (clm_ext hm hh hz))
theorem cfollows (hm : m ≤ 10) (hh : ∀ k, k < n → h k < pw m) {x y : Nat} (hx : x < pw m) (hy : y < pw m) : Obe (clo (bas (clm h n m) (pw m)) m x) (x, y) ↔ ∀ k, k < n → Obe (h k) (x, y) := by
  rw [follows_iff (r := (x, y)) hm cbas_rin hx]
  constructor
  · exact fun g k hk => g _ (hh k hk) (thing_obeys hm hh hk)
  · intro g z hz ho hs i hi
    have hcl := obeyed_closed hm hh hz ho
    rw [← hcl]
    have h10 := pw_le m hm
    refine mks_iff.2 ⟨?_, fun j hj ht => ?_⟩
    · refine Classical.byContradiction fun hc => ?_
      have h1 : y < 2 ^ i := Nat.lt_of_lt_of_le hy (by unfold pw; exact Nat.pow_le_pow_right (by decide) (by omega))
      rw [Nat.testBit_lt_two_pow h1] at hi; cases hi
    · have h2 := ((ths_iff (by omega) (fun k hk => by have := hh k hk; omega)).1 ht).2
      exact g j hj (fun q hq => h2 q (hs q hq)) i hi
/-- As the program tells it. -/
theorem cfollowsB (hm : m ≤ 10) (hh : ∀ k, k < n → h k < pw m) {x y : Nat} (hx : x < pw m) (hy : y < pw m) : obe (clo (bas (clm h n m) (pw m)) m x) (x, y) = allB (fun k => obe (h k) (x, y)) n := by
  rw [Bool.eq_iff_iff, allB_iff, obe_iff (set_1024 hm clo_lt) (set_1024 hm hx) (set_1024 hm hy), cfollows hm hh hx hy]
  exact ⟨fun g k hk => (obe_iff (set_1024 hm (hh k hk)) (set_1024 hm hx) (set_1024 hm hy)).2 (g k hk), fun g k hk => (obe_iff (set_1024 hm (hh k hk)) (set_1024 hm hx) (set_1024 hm hy)).1 (g k hk)⟩
theorem thingB (hm : m ≤ 10) (hh : ∀ k, k < n → h k < pw m) {k : Nat} (hk : k < n) : (bas (clm h n m) (pw m)).all (obe (h k)) = true :=
  (obeA_dec m _ hm cbas_rin _ (hh k hk)).2 (thing_obeys hm hh hk)
end

/-- The reference's Inside where its first number may be less than nothing. -/
def insB (X : Int) (s : Nat) : Bool := if X < 0 then true else lack X.toNat s == 0
def obW (s : Nat) (X Y : Int) : Bool := !(insB X s) || insB Y s
theorem obW_nat (s x y : Nat) : obW s x y = obe s (x, y) := by
  have h1 : ¬ ((x : Int) < 0) := by omega
  have h2 : ¬ ((y : Int) < 0) := by omega
  simp [obW, insB, obe, h1, h2]
end Go.Proofs.YtgjdpgjaaaeglaaDoor
