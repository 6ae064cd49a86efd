/-
  hasselaw.galoisBegun answers true. No condition.
-/
import Derived.Test.YtfbgcadlahiljaaGal4
namespace Go.Proofs.Ytfbgcadlahiljaa
open Go.RowKit

theorem pair_la {x : Value} {w : World} (h : PairIs x w) : ∃ A : LA, A.v = x ∧ A.In w ∧ A.Ck 0 ∧ A.q = 2 ∧ A.n = 2 ∧ A.m = (fun x y => min x y) ∧ A.j = fun x y => max x y := by
  obtain ⟨b, b', R, R', rfl, h1, h2⟩ := h
  refine ⟨⟨2, some ⟨b, 0, none⟩, 2, 2, _, _, some ⟨b', 0, none⟩, 2, 2, _, _⟩, rfl, ⟨show 2 ≤ maxLen by unfold maxLen; omega, show 2 ≤ maxLen by unfold maxLen; omega, h1.rr (by unfold maxLen; omega), h2.rr (by unfold maxLen; omega)⟩, ?_, rfl, rfl, nat2_cast _, nat2_cast _⟩
  exact LCk.of (n := 2) (by omega) (by omega) (fun _ _ => rfl) (fun _ _ => rfl) lat2
def f00 (_ : Nat) : Int := 0
def f01 (k : Nat) : Int := if k = 0 then 0 else 1
theorem keep_00 : Keep 2 (fun x y => min x y) (fun x y => max x y) 2 (fun x y => min x y) (fun x y => max x y) (nat f00) := ⟨by decide, fun x y _ _ => rfl⟩
theorem keep_01 : Keep 2 (fun x y => min x y) (fun x y => max x y) 2 (fun x y => min x y) (fun x y => max x y) (nat f01) := ⟨by decide, fun x y hx hy => by
  rcases (by omega : x = 0 ∨ x = 1) with rfl | rfl <;> rcases (by omega : y = 0 ∨ y = 1) with rfl | rfl <;> decide⟩
theorem bk_00 : (List.range 2).map (bk 2 (fun x y => min x y) (fun x y => max x y) (fun x y => min x y) (nat f00)) = [1, 1] := by decide
theorem gck2 {A B : LA} {f : MA} (hA : A.Ck 0) (hB : B.Ck 0) (ea : A.n = 2) (eb : B.n = 2) (hl : f.la = 2) (h : ∀ k, k < 2 → 0 ≤ f.F k ∧ f.F k < 2) : GCk A B f 0 :=
  .inr ⟨hA, .inr ⟨hB, .inr ⟨by rw [hl, ea]; rfl, .inr ⟨rfl, by rw [hl, eb]; exact h⟩⟩⟩⟩

set_option maxHeartbeats 2000000 in
theorem galoisBegun_any (w : World) : Calls Try.prog 11 #[] w fun e w' => e = .returned (.bool true) ∧ Below w.heap.size w w' := by
  go_enter Try.func11, Try.ntmps11
  go_wp2_with fail
  refine (pair_any _).mono ?_
  rintro e w1 ⟨⟨x, rfl, hx⟩, hb1⟩
  obtain ⟨A, rfl, hA, cA, qA, nA, mA, jA⟩ := pair_la hx
  have HB1 : Hid (Below w.heap.size w w1) := hb1
  have HA : Hid (A.In w1) := hA
  clear hx hA hb1
  go_wp2_with fail
  refine (pair_any _).mono ?_
  rintro e w2 ⟨⟨x, rfl, hx⟩, hb2⟩
  obtain ⟨B, rfl, hB, cB, qB, nB, mB, jB⟩ := pair_la hx
  have HB2 : Hid (Below w.heap.size w w2) := Below.then HB1.out hb2
  have hb3 : Below w2.heap.size w2 (w2.alloc (.cells #[.int .i64 0, .int .i64 0] 3)) := (Below.refl _ _).alloc (Nat.le_refl _) _
  have HA2 : Hid (A.In (w2.alloc (.cells #[.int .i64 0, .int .i64 0] 3))) := (HA.out.step hb2).step hb3
  have HBB : Hid (B.In (w2.alloc (.cells #[.int .i64 0, .int .i64 0] 3))) := hB.step hb3
  have HB3 : Hid (Below w.heap.size w (w2.alloc (.cells #[.int .i64 0, .int .i64 0] 3))) := Below.then HB2.out hb3
  have HF : Hid (MA.In ⟨some ⟨w2.heap.size, 0, none⟩, 2, 2, f00⟩ (w2.alloc (.cells #[.int .i64 0, .int .i64 0] 3))) := ⟨by unfold maxLen; simp only; omega, fun k hk => ⟨_, _, rfl, by
    simp only at hk
    rcases (by omega : k = 0 ∨ k = 1) with rfl | rfl <;> simp [f00]⟩⟩
  have HG : Hid (GCk A B ⟨some ⟨w2.heap.size, 0, none⟩, 2, 2, f00⟩ 0) := gck2 cA cB nA nB rfl fun k hk => ⟨Int.le_refl _, show (0 : Int) < 2 by decide⟩
  have HK : Hid (KeepL A B ⟨some ⟨w2.heap.size, 0, none⟩, 2, 2, f00⟩) := by
    show Keep A.q A.m A.j B.q B.m B.j (nat f00)
    rw [qA, mA, jA, qB, mB, jB]; exact keep_00
  have HL : Hid (bkL A B ⟨some ⟨w2.heap.size, 0, none⟩, 2, 2, f00⟩ = [1, 1]) := by
    show (List.range B.q).map (bk A.q A.m A.j B.m (nat f00)) = _
    rw [qA, mA, jA, qB, mB]; exact bk_00
  clear hx hB hb2 hb3 HA HB1 HB2 cA cB qA qB nA nB mA mB jA jB
  go_wp2_with fail
  refine (back_any A B ⟨some ⟨w2.heap.size, 0, none⟩, 2, 2, f00⟩ _ HA2.out HBB.out HF.out).mono ?_
  rintro e w3 ⟨⟨c, v, ok, hc, rfl, hv⟩, hb3⟩
  obtain rfl := hc.one HG.out
  have HB4 : Hid (Below w.heap.size w w3) := Below.then HB3.out hb3
  have hv2 : ok = true ∧ NSl w3 v [1, 1] := by
    rcases hv with ⟨h, _⟩ | ⟨_, ⟨_, _, h⟩ | ⟨h1, _, h2⟩⟩
    · exact absurd rfl h
    · exact absurd HK.out h
    · rw [HL.out] at h2; exact ⟨h1, h2⟩
  obtain ⟨rfl, va, vc, rfl, hvr⟩ := hv2
  have HV : Hid (Row w3 va 2 (fun k => (nth [1, 1] k : Nat))) := hvr
  clear hv hc hb3 HB3 HF HG HK HL HA2 HBB hvr
  simp only [List.length_cons, List.length_nil, Nat.zero_add, Nat.reduceAdd]
  go_wp2_with fail
  refine (pair_any _).mono ?_
  rintro e w4 ⟨⟨x, rfl, hx⟩, hb4⟩
  obtain ⟨A, rfl, hA, cA, qA, nA, mA, jA⟩ := pair_la hx
  have HB5 : Hid (Below w.heap.size w w4) := Below.then HB4.out hb4
  have HA : Hid (A.In w4) := hA
  have HV4 : Hid (Row w4 va 2 (fun k => (nth [1, 1] k : Nat))) := HV.out.below hb4
  clear hx hA hb4 HB4 HV
  go_wp2_with fail
  refine (pair_any _).mono ?_
  rintro e w5 ⟨⟨x, rfl, hx⟩, hb5⟩
  obtain ⟨B, rfl, hB, cB, qB, nB, mB, jB⟩ := pair_la hx
  have HB6 : Hid (Below w.heap.size w w5) := Below.then HB5.out hb5
  have hb6 : Below w5.heap.size w5 (w5.alloc (.cells #[.int .i64 0, .int .i64 1] 3)) := (Below.refl _ _).alloc (Nat.le_refl _) _
  have HA2 : Hid (A.In (w5.alloc (.cells #[.int .i64 0, .int .i64 1] 3))) := (HA.out.step hb5).step hb6
  have HBB : Hid (B.In (w5.alloc (.cells #[.int .i64 0, .int .i64 1] 3))) := hB.step hb6
  have HB7 : Hid (Below w.heap.size w (w5.alloc (.cells #[.int .i64 0, .int .i64 1] 3))) := Below.then HB6.out hb6
  have HV5 : Hid (Row (w5.alloc (.cells #[.int .i64 0, .int .i64 1] 3)) va 2 (fun k => (nth [1, 1] k : Nat))) := (HV4.out.below hb5).below hb6
  have HF : Hid (MA.In ⟨some ⟨w5.heap.size, 0, none⟩, 2, 2, f01⟩ (w5.alloc (.cells #[.int .i64 0, .int .i64 1] 3))) := ⟨by unfold maxLen; simp only; omega, fun k hk => ⟨_, _, rfl, by
    simp only at hk
    rcases (by omega : k = 0 ∨ k = 1) with rfl | rfl <;> simp [f01]⟩⟩
  have HG : Hid (GCk A B ⟨some ⟨w5.heap.size, 0, none⟩, 2, 2, f01⟩ 0) := gck2 cA cB nA nB rfl fun k hk => by
    rcases (by omega : k = 0 ∨ k = 1) with rfl | rfl <;> simp [f01]
  have HK : Hid (KeepL A B ⟨some ⟨w5.heap.size, 0, none⟩, 2, 2, f01⟩) := by
    show Keep A.q A.m A.j B.q B.m B.j (nat f01)
    rw [qA, mA, jA, qB, mB, jB]; exact keep_01
  clear hx hB hb5 hb6 HA HB5 HB6 cA cB qA qB nA nB mA mB jA jB HV4
  go_wp2_with fail
  refine (keeps_any A B ⟨some ⟨w5.heap.size, 0, none⟩, 2, 2, f01⟩ _ HA2.out HBB.out HF.out).mono ?_
  rintro e w6 ⟨⟨c, v, hc, rfl, hv⟩, hb7⟩
  obtain rfl := hc.one HG.out
  have HB8 : Hid (Below w.heap.size w w6) := Below.then HB7.out hb7
  obtain rfl : v = true := by
    rcases hv with ⟨h, _⟩ | ⟨_, h⟩
    · exact absurd rfl h
    · exact h.2 HK.out
  have hb8 : Below w6.heap.size w6 (w6.alloc (.cells #[.int .i64 1, .int .i64 1] 3)) := (Below.refl _ _).alloc (Nat.le_refl _) _
  have HV6 : Hid (Row (w6.alloc (.cells #[.int .i64 1, .int .i64 1] 3)) va 2 (fun k => (nth [1, 1] k : Nat))) := (HV5.out.below hb7).below hb8
  have HB9 : Hid (Below w.heap.size w (w6.alloc (.cells #[.int .i64 1, .int .i64 1] 3))) := Below.then HB8.out hb8
  have HW : Hid (Row (w6.alloc (.cells #[.int .i64 1, .int .i64 1] 3)) (some ⟨w6.heap.size, 0, none⟩) 2 (fun k => (nth [1, 1] k : Nat))) := fun k hk => ⟨_, _, rfl, by
    rcases (by omega : k = 0 ∨ k = 1) with rfl | rfl <;> simp [nth]⟩
  clear hv hc hb7 hb8 HB7 HB8 HF HG HK HA2 HBB HV5
  go_wp2_with fail
  refine (same_any va (some ⟨w6.heap.size, 0, none⟩) 2 _ 2 2 _ _ _ (by unfold maxLen; omega) (by unfold maxLen; omega) HV6.out HW.out).mono ?_
  rintro e w7 ⟨⟨r, rfl, hr⟩, hb9⟩
  obtain rfl : r = true := hr.2 ⟨rfl, fun _ _ => rfl⟩
  have HBF : Hid (Below w.heap.size w w7) := Below.then HB9.out hb9
  clear hr hb9 HB9 HV6 HW
  go_wp2_with fail
  go_ret
  exact ⟨rfl, HBF.out⟩
end Go.Proofs.Ytfbgcadlahiljaa
