/-
  For every number and every slice that are handed in, hasselaw.SpaceFrom returns true, and writes nothing that was there. Condition: the table of the least bits.
-/
import Derived.Test.YtggngpnenbjidaaDoorFroC
import Derived.Test.YtggngpnenbjidaaDoorDual
namespace Go.Proofs.YtggngpnenbjidaaDoor
set_option maxRecDepth 100000
open Go.RowKit

def FrX (N : Int) (len : Nat) (f : Nat → Int) (c : Int) (x : Value) (w' : World) : Prop :=
  (c ≠ 0 ∧ FChk N len f c ∧ x = noOrder) ∨ ∃ n : Nat, N = n ∧ FChk N len f 0 ∧ ((c = 4 ∧ ¬ FG n len f ∧ x = noOrder) ∨ (c = 0 ∧ FG n len f ∧ ∃ a cap, x = .agg #[.int .i64 (n : Int), .slice a n cap] ∧ Row w' a n (fun k => ((bl (nat f) len n k : Nat) : Int))))
theorem FrX.step {N : Int} {len : Nat} {f : Nat → Int} {c : Int} {x : Value} {w w' : World} (h : FrX N len f c x w) (hb : Below w.heap.size w w') : FrX N len f c x w' := by
  rcases h with h | ⟨n, h1, h2, h | ⟨h3, h4, a, cap, h5, h6⟩⟩
  · exact .inl h
  · exact .inr ⟨n, h1, h2, .inl h⟩
  · exact .inr ⟨n, h1, h2, .inr ⟨h3, h4, a, cap, h5, h6.below hb⟩⟩
theorem FrX.form {N : Int} {len : Nat} {f : Nat → Int} {c : Int} {x : Value} {w : World} (h : FrX N len f c x w) : ∃ (n : Int) (a : Option Addr) (l cap : Nat), x = .agg #[.int .i64 n, .slice a l cap] := by
  rcases h with ⟨_, _, h⟩ | ⟨n, h1, h2, ⟨_, _, h⟩ | ⟨h3, h4, a, cap, h5, h6⟩⟩
  · exact ⟨0, none, 0, 0, h⟩
  · exact ⟨0, none, 0, 0, h⟩
  · exact ⟨_, _, _, _, h5⟩
theorem no_form {m : Int} {a : Option Addr} {l cap : Nat} (h : Value.agg #[.int .i64 m, .slice a l cap] = noOrder) : m = 0 ∧ a = none ∧ l = 0 ∧ cap = 0 := by simpa [noOrder] using h

set_option maxHeartbeats 8000000 in
theorem spaceFrom_any (N : Int) (a : Option Addr) (len cap : Nat) (f : Nat → Int) (w : World) (hl : len ≤ maxLen) (hr : Row w a len f) (hT : Tab w) :
    Calls Tryd.prog 4 #[.int .i64 N, .slice a len cap] w fun e w' => e = .returned (.bool true) ∧ Below w.heap.size w w' := by
  have HR : Hid (Row w a len f) := hr
  have HT : Hid (Tab w) := hT
  clear hr hT
  go_enter Tryd.func4, Tryd.ntmps4
  go_wp2_with fail
  refine (fromOpens_any N a len cap f _ hl HR.out HT.out).mono ?_
  rintro e w1 ⟨⟨c, x, rfl, hx⟩, hb1⟩
  have hx' : FrX N len f c x w1 := hx
  clear hx
  obtain ⟨nx, ax, lx, cx, rfl⟩ := hx'.form
  have bW := bel_one w1 (.cells #[.int .i64 nx, .slice ax lx cx] 24)
  have HB1 : Hid (Below w.heap.size w (w1.alloc (.cells #[.int .i64 nx, .slice ax lx cx] 24))) := Below.then hb1 bW
  have P1 : Hid (Box (w1.alloc (.cells #[.int .i64 nx, .slice ax lx cx] 24)) w1.heap.size nx ax lx cx) := Box.new w1 nx ax lx cx
  have X1 : Hid (FrX N len f c (.agg #[.int .i64 nx, .slice ax lx cx]) (w1.alloc (.cells #[.int .i64 nx, .slice ax lx cx] 24))) := hx'.step bW
  clear hb1 bW hx'
  go_wp2_with fail
  refine (checkFamily_any N a len cap f _ hl (HR.out.below HB1.out)).mono ?_
  rintro e w2 ⟨⟨d, rfl, hd⟩, hb2⟩
  have HB2 : Hid (Below w.heap.size w w2) := Below.then HB1.out hb2
  have P2 : Hid (Box w2 w1.heap.size nx ax lx cx) := P1.out.step hb2
  have X2 : Hid (FrX N len f c (.agg #[.int .i64 nx, .slice ax lx cx]) w2) := X1.out.step hb2
  have HD : Hid (FChk N len f d) := hd
  clear hb2 HB1 P1 X1 hd
  generalize w1.heap.size = B5 at *
  have BZ : Hid (Below w2.heap.size w2 (w2.alloc (.cells #[.int .i64 0, .slice none 0 0] 24))) := bel_one w2 _
  have Z3 : Hid (ZBox (w2.alloc (.cells #[.int .i64 0, .slice none 0 0] 24)) w2.heap.size) := ZBox.new w2
  by_cases h0 : d = 0
  · subst h0
    obtain ⟨n, rfl, h10, hin, hris⟩ := HD.out.good
    have hpl := pw_le n h10
    have hlen := ris_len hin hris
    have HF : Hid (∀ k, k < len → nat f k < 1024) := fun k hk => by have := hin.small k hk; omega
    have HRW : Hid (Row (w2.alloc (.cells #[.int .i64 0, .slice none 0 0] 24)) a len f) := (HR.out.below HB2.out).below BZ.out
    have HRN : Hid (Row (w2.alloc (.cells #[.int .i64 0, .slice none 0 0] 24)) a len (fun k => ((nat f k : Nat) : Int))) := hin.row HRW.out
    have X3 : Hid ((c = 4 ∧ ¬ FG n len f ∧ Value.agg #[.int .i64 nx, .slice ax lx cx] = noOrder) ∨ (c = 0 ∧ FG n len f ∧ ∃ a cap, Value.agg #[.int .i64 nx, .slice ax lx cx] = .agg #[.int .i64 (n : Int), .slice a n cap] ∧ Row w2 a n (fun k => ((bl (nat f) len n k : Nat) : Int)))) := by
      rcases X2.out with ⟨h1, h2, _⟩ | ⟨m, h1, _, h⟩
      · exact absurd (h2.unique HD.out) h1
      · obtain rfl : n = m := by omega
        exact h
    clear X2 hin hris
    go_wp2_with fail
    refine (spaceOf_any a n len cap (nat f) f _ h10 (by omega) HF.out HRW.out HRN.out).mono ?_
    rintro e w3 ⟨⟨y, b, rfl, hy⟩, hb3⟩
    have BY : Hid (Below w2.heap.size w2 w3) := Below.then BZ.out hb3
    have Z4 : Hid (ZBox w3 w2.heap.size) := Z3.out.step hb3
    clear hb3 HRN HRW Z3 BZ HF
    rcases hy with ⟨rfl, hng, rfl⟩ | ⟨rfl, hyg, ya, yc, rfl, hrow, hfr⟩
    · obtain ⟨rfl, hxe⟩ : c = 4 ∧ Value.agg #[.int .i64 nx, .slice ax lx cx] = noOrder := by
        rcases X3.out with ⟨h, _, h2⟩ | ⟨_, h, _⟩
        · exact ⟨h, h2⟩
        · exact absurd h hng
      obtain ⟨rfl, rfl, rfl, rfl⟩ := no_form hxe
      clear hxe X3 hng
      unfold noOrder
      have bY := bel_one w3 (.cells #[.int .i64 0, .slice none 0 0] 24)
      obtain ⟨r0, r1, r2, r3⟩ := Z4.out.step bY
      have Q5 : Hid (Box (((w3.alloc (.cells #[.int .i64 0, .slice none 0 0] 24)).setCell ⟨w2.heap.size, 0, none⟩ (.int .i64 0)).setCell ⟨w2.heap.size, 1, none⟩ (.slice none 0 0)) w2.heap.size 0 none 0 0) := Box.set2 (Z4.out.step bY)
      have BB : Hid (Below w2.heap.size w2 (((w3.alloc (.cells #[.int .i64 0, .slice none 0 0] 24)).setCell ⟨w2.heap.size, 0, none⟩ (.int .i64 0)).setCell ⟨w2.heap.size, 1, none⟩ (.slice none 0 0))) := set2B (Below.then BY.out bY) (Nat.le_refl _)
      clear bY BY Z4
      go_wp2_with fail
      refine (spaceBegun_any _ (HT.out.step (Below.then HB2.out BB.out))).mono ?_
      rintro e w4 ⟨rfl, hb4⟩
      obtain ⟨q0, q1⟩ := Q5.out.step hb4
      obtain ⟨p0, p1⟩ := (P2.out.step BB.out).step hb4
      have HB4 : Hid (Below w.heap.size w w4) := Below.then (Below.then HB2.out BB.out) hb4
      clear hb4 BB Q5 P2 HB2 r0 r1 r2 r3
      go_wp2_with fail
      refine (given_any 4 0 0 (fun _ => 0) (.agg #[.int .i64 0, .slice none 0 0]) (.agg #[.int .i64 0, .slice none 0 0]) _ (by unfold maxLen; omega) (.inl ⟨by omega, rfl⟩) (.inl (.inl ⟨by omega, rfl⟩))).mono ?_
      rintro e w5 ⟨rfl, hb5⟩
      have HB5 : Hid (Below w.heap.size w w5) := Below.then HB4.out hb5
      clear hb5 HB4
      go_wp2_with fail
      go_ret
      exact ⟨rfl, HB5.out⟩
    · obtain ⟨rfl, xa, xc, hxe, hxr⟩ : c = 0 ∧ ∃ a cap, Value.agg #[.int .i64 nx, .slice ax lx cx] = .agg #[.int .i64 (n : Int), .slice a n cap] ∧ Row w2 a n (fun k => ((bl (nat f) len n k : Nat) : Int)) := by
        rcases X3.out with ⟨_, h, _⟩ | ⟨h, _, h2⟩
        · exact absurd hyg h
        · exact ⟨h, h2⟩
      obtain ⟨rfl, rfl, rfl, rfl⟩ : nx = (n : Int) ∧ ax = xa ∧ lx = n ∧ cx = xc := by simpa using hxe
      have XR : Hid (Row w2 ax lx (fun k => ((bl (nat f) len lx k : Nat) : Int))) := hxr
      have bY := bel_one w3 (.cells #[.int .i64 (lx : Int), .slice ya lx yc] 24)
      obtain ⟨r0, r1, r2, r3⟩ := Z4.out.step bY
      have Q5 : Hid (Box (((w3.alloc (.cells #[.int .i64 (lx : Int), .slice ya lx yc] 24)).setCell ⟨w2.heap.size, 0, none⟩ (.int .i64 (lx : Int))).setCell ⟨w2.heap.size, 1, none⟩ (.slice ya lx yc)) w2.heap.size lx ya lx yc) := Box.set2 (Z4.out.step bY)
      have BB : Hid (Below w2.heap.size w2 (((w3.alloc (.cells #[.int .i64 (lx : Int), .slice ya lx yc] 24)).setCell ⟨w2.heap.size, 0, none⟩ (.int .i64 (lx : Int))).setCell ⟨w2.heap.size, 1, none⟩ (.slice ya lx yc))) := set2B (Below.then BY.out bY) (Nat.le_refl _)
      have YR : Hid (Row (((w3.alloc (.cells #[.int .i64 (lx : Int), .slice ya lx yc] 24)).setCell ⟨w2.heap.size, 0, none⟩ (.int .i64 (lx : Int))).setCell ⟨w2.heap.size, 1, none⟩ (.slice ya lx yc)) ya lx (fun k => ((bl (nat f) len lx k : Nat) : Int))) := row_set2 (hrow.below bY) (by simpa using hfr)
      clear bY BY Z4 hxe X3 hyg hxr hrow hfr
      go_wp2_with fail
      refine (spaceBegun_any _ (HT.out.step (Below.then HB2.out BB.out))).mono ?_
      rintro e w4 ⟨rfl, hb4⟩
      obtain ⟨q0, q1⟩ := Q5.out.step hb4
      obtain ⟨p0, p1⟩ := (P2.out.step BB.out).step hb4
      have HB4 : Hid (Below w.heap.size w w4) := Below.then (Below.then HB2.out BB.out) hb4
      have XR4 : Hid (Row w4 ax lx (fun k => ((bl (nat f) len lx k : Nat) : Int))) := (XR.out.below BB.out).below hb4
      have YR4 : Hid (Row w4 ya lx (fun k => ((bl (nat f) len lx k : Nat) : Int))) := YR.out.below hb4
      clear hb4 BB Q5 P2 HB2 r0 r1 r2 r3 XR YR
      go_wp2_with fail
      refine (given_any 0 lx lx (fun k => ((bl (nat f) len lx k : Nat) : Int)) (.agg #[.int .i64 (lx : Int), .slice ax lx cx]) (.agg #[.int .i64 (lx : Int), .slice ya lx yc]) _ (by unfold maxLen; omega) (.inr ⟨rfl, _, _, rfl, XR4.out⟩) (.inl (.inr ⟨rfl, _, _, rfl, YR4.out⟩))).mono ?_
      rintro e w5 ⟨rfl, hb5⟩
      have HB5 : Hid (Below w.heap.size w w5) := Below.then HB4.out hb5
      clear hb5 HB4
      go_wp2_with fail
      go_ret
      exact ⟨rfl, HB5.out⟩
  · have hne : (d == 0) = false := by simpa using h0
    obtain ⟨rfl, hxe⟩ : c = d ∧ Value.agg #[.int .i64 nx, .slice ax lx cx] = noOrder := by
      rcases X2.out with ⟨h1, h2, h3⟩ | ⟨m, h1, h2, h⟩
      · exact ⟨h2.unique HD.out, h3⟩
      · exact absurd (HD.out.unique h2) h0
    obtain ⟨rfl, rfl, rfl, rfl⟩ := no_form hxe
    have H0 : Hid (c ≠ 0) := h0
    clear hxe X2 HD h0
    go_wp2_with fail
    refine (spaceBegun_any _ (HT.out.step (Below.then HB2.out BZ.out))).mono ?_
    rintro e w4 ⟨rfl, hb4⟩
    obtain ⟨q0, q1, _, _⟩ := Z3.out.step hb4
    obtain ⟨p0, p1⟩ := (P2.out.step BZ.out).step hb4
    have HB4 : Hid (Below w.heap.size w w4) := Below.then (Below.then HB2.out BZ.out) hb4
    clear hb4 BZ Z3 P2 HB2
    go_wp2_with fail
    refine (given_any c 0 0 (fun _ => 0) (.agg #[.int .i64 0, .slice none 0 0]) (.agg #[.int .i64 0, .slice none 0 0]) _ (by unfold maxLen; omega) (.inl ⟨H0.out, rfl⟩) (.inl (.inl ⟨H0.out, rfl⟩))).mono ?_
    rintro e w5 ⟨rfl, hb5⟩
    have HB5 : Hid (Below w.heap.size w w5) := Below.then HB4.out hb5
    clear hb5 HB4
    go_wp2_with fail
    go_ret
    exact ⟨rfl, HB5.out⟩
end Go.Proofs.YtggngpnenbjidaaDoor
