/-
  What hasselaw.latticeIs answers of what is the same: true. Conditions: as each theorem says.
-/
import Derived.Test.YtappekjkcgmheaaSameL
import Derived.Test.YtappekjkcgmheaaByP
namespace Go.Proofs.Ytappekjkcgmheaa
open Go.RowKit
set_option maxRecDepth 100000

set_option maxHeartbeats 2000000 in
theorem latticeIs_ok (n : Int) (a b a' b' : Option Addr) (la lb ca cb ca' cb' : Nat) (w : World) (hla : la ≤ maxLen) (hlb : lb ≤ maxLen) (h1 : EqT w a a' la) (h2 : EqT w b b' lb) :
    Calls Try.prog 26 #[.agg #[.int .i64 n, .slice a la ca, .slice b lb cb], .int .i64 0, .int .i64 0, .agg #[.int .i64 n, .slice a' la ca', .slice b' lb cb']] w fun e w' => e = .returned (.bool true) ∧ Below w.heap.size w w' := by
  obtain ⟨W, HW⟩ : ∃ W, Hid (W = (w.alloc (.cells #[.int .i64 n, .slice a la ca, .slice b lb cb] 24)).alloc (.cells #[.int .i64 n, .slice a' la ca', .slice b' lb cb'] 24)) := ⟨_, rfl⟩
  have B1 : Below w.heap.size w (w.alloc (.cells #[.int .i64 n, .slice a la ca, .slice b lb cb] 24)) := (Below.refl _ _).alloc (Nat.le_refl _) _
  have B2 : Below w.heap.size w W := by rw [HW.out]; exact B1.alloc (by simp) _
  have HE1 : Hid (EqT W a a' la) := h1.step B2
  have HE2 : Hid (EqT W b b' lb) := h2.step B2
  have HB : Hid (Below w.heap.size w W) := B2
  have L0 := (LB.new w n a la ca b lb cb).step ((Below.refl (w.alloc (.cells #[.int .i64 n, .slice a la ca, .slice b lb cb] 24)).heap.size (w.alloc (.cells #[.int .i64 n, .slice a la ca, .slice b lb cb] 24))).alloc (Nat.le_refl _) (.cells #[.int .i64 n, .slice a' la ca', .slice b' lb cb'] 24))
  have L1 := LB.new (w.alloc (.cells #[.int .i64 n, .slice a la ca, .slice b lb cb] 24)) n a' la ca' b' lb cb'
  rw [World.size_alloc] at L1
  have k0 := L0.1
  have k1 := L0.2.1
  have k2 := L0.2.2
  have m0 := L1.1
  have m1 := L1.2.1
  have m2 := L1.2.2
  clear h1 h2 B1 B2 L0 L1
  go_enter Try.func26, Try.ntmps26
  go_wp2_with fail
  rw [← HW.out]
  clear HW k0 k1 k2 m0 m1 m2
  refine (sameLattice_true n a b a' b' la lb ca cb ca' cb' _ hla hlb HE1.out HE2.out).mono ?_
  rintro e w2 ⟨rfl, hb2⟩
  have HB2 : Hid (Below w.heap.size w w2) := Below.then HB.out hb2
  clear hb2
  go_wp2_with fail
  go_ret
  exact ⟨rfl, HB2.out⟩
set_option maxHeartbeats 2000000 in
theorem latticeIs_err (c : Int) (n' : Int) (a' b' : Option Addr) (la lb ca' cb' : Nat) (w : World) (h0 : c ≠ 0) :
    Calls Try.prog 26 #[noLat, .int .i64 c, .int .i64 c, .agg #[.int .i64 n', .slice a' la ca', .slice b' lb cb']] w fun e w' => e = .returned (.bool true) ∧ Below w.heap.size w w' := by
  have hne : (c != 0) = true := by simpa using h0
  have hcc : (c == c) = true := beq_self_eq_true _
  have L0 := (LB.new w 0 none 0 0 none 0 0).step ((Below.refl (w.alloc (.cells #[.int .i64 0, .slice none 0 0, .slice none 0 0] 24)).heap.size (w.alloc (.cells #[.int .i64 0, .slice none 0 0, .slice none 0 0] 24))).alloc (Nat.le_refl _) (.cells #[.int .i64 n', .slice a' la ca', .slice b' lb cb'] 24))
  have k0 := L0.1
  have k1 := L0.2.1
  have k2 := L0.2.2
  have HB : Hid (∀ o1 o2 : Obj, Below w.heap.size w ((w.alloc o1).alloc o2)) := fun o1 o2 => ((Below.refl _ _).alloc (Nat.le_refl _) _).alloc (by simp) _
  clear L0
  unfold noLat
  go_enter Try.func26, Try.ntmps26
  go_wp2_with fail
  refine (sameLattice_true 0 none none none none 0 0 0 0 0 0 _ (by unfold maxLen; omega) (by unfold maxLen; omega) (EqT.nil _) (EqT.nil _)).mono ?_
  rintro e w2 ⟨rfl, hb2⟩
  have HB2 : Hid (Below w.heap.size w w2) := Below.then (by first | exact HB.out _ _ | exact set3B (HB.out _ _) (by simp)) hb2
  clear hb2 HB
  go_wp2_with fail
  go_ret
  exact ⟨rfl, HB2.out⟩

end Go.Proofs.Ytappekjkcgmheaa
