/-
  For every number and every slice of pairs that are handed in, hasselaw.OrderMakes returns true, and writes nothing that was there. Conditions: a slice that reads as a slice of pairs.
-/
import Derived.Test.YtnjmelbnamgjcaaRefMake
import Derived.Test.YtnjmelbnamgjcaaGiven
namespace Go.Proofs.Ytnjmelbnamgjcaa
open Go.RowKit

theorem Mk.unique {n : Int} {len : Nat} {p : Nat → Int × Int} {c c' : Int} (h : Mk n len p c) (h' : Mk n len p c') : c = c' := by
  rcases h with ⟨rfl, h⟩ | ⟨m, rfl, hm, h⟩
  · rcases h' with ⟨rfl, _⟩ | ⟨m, rfl, hm, _⟩
    · rfl
    · exact absurd ⟨by omega, by omega⟩ h
  · rcases h' with ⟨rfl, h'⟩ | ⟨m', e, _, h'⟩
    · exact absurd ⟨by omega, by omega⟩ h'
    · obtain rfl : m = m' := by omega
      rcases h with ⟨rfl, h⟩ | ⟨hp, ⟨rfl, h⟩ | ⟨rfl, h⟩⟩ <;> rcases h' with ⟨rfl, h'⟩ | ⟨hp', ⟨rfl, h'⟩ | ⟨rfl, h'⟩⟩ <;> first | rfl | (exact absurd hp' h) | (exact absurd hp h') | (exact absurd h h') | (exact absurd h' h)
theorem made_ord {n : Int} {len : Nat} {p : Nat → Int × Int} {w : World} {e : Ending} {w' : World} (h : Made n len p w e w') : ∃ (c : Int) (x : Value), Mk n len p c ∧ e = .returned (.tuple #[x, .int .i64 c]) ∧ OrdErr c n n.toNat (fun k => (reachOut (mk p len) n.toNat n.toNat k : Nat)) x w' := by
  rcases h with ⟨c, h0, hm, rfl⟩ | ⟨m, b, hm, rfl, _, _, rfl, hown⟩
  · exact ⟨c, _, hm, rfl, .inl ⟨h0, rfl⟩⟩
  · exact ⟨0, _, hm, rfl, .inr ⟨rfl, _, _, rfl, hown.row⟩⟩
theorem ordErr_form {c n : Int} {len : Nat} {F : Nat → Int} {x : Value} {w : World} (h : OrdErr c n len F x w) : ∃ n' a l cap, x = .agg #[.int .i64 n', .slice a l cap] := by
  rcases h with ⟨_, rfl⟩ | ⟨_, a, cap, rfl, _⟩
  · exact ⟨0, none, 0, 0, rfl⟩
  · exact ⟨n, a, len, cap, rfl⟩
theorem mk_len {n : Int} {len : Nat} {p : Nat → Int × Int} (h : Mk n len p 0) : n.toNat ≤ 10 := by
  rcases h with ⟨h, _⟩ | ⟨m, rfl, hm, _⟩
  · cases h
  · omega

set_option maxHeartbeats 2000000 in
theorem orderMakes_any (n : Int) (a : Option Addr) (len cap : Nat) (p : Nat → Int × Int) (w : World) (hl : len ≤ maxLen) (hr : PRow w a len p) :
    Calls Try.prog 4 #[.int .i64 n, .slice a len cap] w fun e w' => e = .returned (.bool true) ∧ Below w.heap.size w w' := by
  have HR : Hid (PRow w a len p) := hr
  have HL : Hid (len ≤ maxLen) := hl
  clear hr hl
  go_enter Try.func4, Try.ntmps4
  go_wp2_with fail
  refine (make_any n a len cap p _ HL.out HR.out).mono ?_
  rintro e w1 ⟨hmade, hb⟩
  obtain ⟨c, x, hc, rfl, hx⟩ := made_ord hmade
  obtain ⟨nx, ax, lx, cx, rfl⟩ := ordErr_form hx
  have bW := (Below.refl w1.heap.size w1).alloc (Nat.le_refl _) (.cells #[.int .i64 nx, .slice ax lx cx] 24)
  have P1 : (w1.alloc (.cells #[.int .i64 nx, .slice ax lx cx] 24)).cell? ⟨w1.heap.size, 0, none⟩ = some (.int .i64 nx) ∧ (w1.alloc (.cells #[.int .i64 nx, .slice ax lx cx] 24)).cell? ⟨w1.heap.size, 1, none⟩ = some (.slice ax lx cx) := ⟨by simp, by simp⟩
  have HOX := hx.step bW
  have HR1 : Hid (PRow (w1.alloc (.cells #[.int .i64 nx, .slice ax lx cx] 24)) a len p) := (HR.out.below hb).below bW
  have HB1 : Hid (Below w.heap.size w (w1.alloc (.cells #[.int .i64 nx, .slice ax lx cx] 24))) := hb.alloc hb.size _
  have hsz1 : w.heap.size ≤ w1.heap.size := hb.size
  clear hb hx hmade bW
  go_wp2_with fail
  refine (refMake_any n a len cap p _ HL.out HR1.out).mono ?_
  rintro e w2 ⟨⟨d, y, hd, rfl, hy⟩, hb⟩
  obtain rfl := Mk.unique hd hc
  obtain ⟨ny, ay, ly, cy, rfl⟩ := ordErr_form hy
  have bW := (Below.refl w2.heap.size w2).alloc (Nat.le_refl _) (.cells #[.int .i64 ny, .slice ay ly cy] 24)
  have hX2 : Hid (OrdErr d n n.toNat (fun k => (reachOut (mk p len) n.toNat n.toNat k : Nat)) (.agg #[.int .i64 nx, .slice ax lx cx]) (w2.alloc (.cells #[.int .i64 ny, .slice ay ly cy] 24))) := (HOX.step hb).step bW
  have hY2 : Hid (OrdErr d n n.toNat (fun k => (reachOut (mk p len) n.toNat n.toNat k : Nat)) (.agg #[.int .i64 ny, .slice ay ly cy]) (w2.alloc (.cells #[.int .i64 ny, .slice ay ly cy] 24))) := hy.step bW
  have hlt1 : w1.heap.size < w2.heap.size := Nat.lt_of_lt_of_le (by simp) hb.size
  have HP2 : Hid ((w2.alloc (.cells #[.int .i64 ny, .slice ay ly cy] 24)).cell? ⟨w1.heap.size, 0, none⟩ = some (.int .i64 nx) ∧ (w2.alloc (.cells #[.int .i64 ny, .slice ay ly cy] 24)).cell? ⟨w1.heap.size, 1, none⟩ = some (.slice ax lx cx)) := ⟨(bW.cell (p := ⟨w1.heap.size, 0, none⟩) hlt1).trans ((hb.cell (p := ⟨w1.heap.size, 0, none⟩) (by simp)).trans P1.1), (bW.cell (p := ⟨w1.heap.size, 1, none⟩) hlt1).trans ((hb.cell (p := ⟨w1.heap.size, 1, none⟩) (by simp)).trans P1.2)⟩
  have HQ2 : Hid ((w2.alloc (.cells #[.int .i64 ny, .slice ay ly cy] 24)).cell? ⟨w2.heap.size, 0, none⟩ = some (.int .i64 ny) ∧ (w2.alloc (.cells #[.int .i64 ny, .slice ay ly cy] 24)).cell? ⟨w2.heap.size, 1, none⟩ = some (.slice ay ly cy)) := ⟨by simp, by simp⟩
  have HB2 : Hid (Below w.heap.size w (w2.alloc (.cells #[.int .i64 ny, .slice ay ly cy] 24))) := by
    have h := Below.then HB1.out hb
    exact h.alloc h.size _
  have hsz2 : w2.heap.size < (w2.alloc (.cells #[.int .i64 ny, .slice ay ly cy] 24)).heap.size := by simp
  have HSZ : Hid (w1.heap.size < (w2.alloc (.cells #[.int .i64 ny, .slice ay ly cy] 24)).heap.size ∧ w2.heap.size < (w2.alloc (.cells #[.int .i64 ny, .slice ay ly cy] 24)).heap.size) := ⟨by omega, hsz2⟩
  have HLN : Hid (d = 0 → n.toNat ≤ 10) := fun e => by subst e; exact mk_len hc
  clear hb hy bW HOX P1 HR1 HB1 hd hc hsz2
  go_wp2_with fail
  refine (orderBegun_any _).mono ?_
  rintro e w3 ⟨rfl, hb⟩
  have p0 := (hb.cell (p := ⟨w1.heap.size, 0, none⟩) HSZ.out.1).trans HP2.out.1
  have p1 := (hb.cell (p := ⟨w1.heap.size, 1, none⟩) HSZ.out.1).trans HP2.out.2
  have q0 := (hb.cell (p := ⟨w2.heap.size, 0, none⟩) HSZ.out.2).trans HQ2.out.1
  have q1 := (hb.cell (p := ⟨w2.heap.size, 1, none⟩) HSZ.out.2).trans HQ2.out.2
  have HX3 := hX2.out.step hb
  have HY3 := hY2.out.step hb
  have HB3 : Hid (Below w.heap.size w w3) := Below.then HB2.out hb
  clear hb hX2 hY2 HP2 HQ2 HB2 HSZ
  go_wp2_with fail
  by_cases h0 : d = 0
  · have hln := HLN.out h0
    refine (given_any d n n.toNat _ _ _ _ (by unfold maxLen; omega) HX3 (.inl HY3)).mono ?_
    rintro e w4 ⟨rfl, hb⟩
    have HB4 : Hid (Below w.heap.size w w4) := Below.then HB3.out hb
    clear hb p0 p1 q0 q1 HX3 HY3
    go_wp2_with fail
    go_ret
    exact ⟨rfl, HB4.out⟩
  · have e1 : OrdErr d 0 0 (fun _ => 0) (.agg #[.int .i64 nx, .slice ax lx cx]) w3 := by
      rcases HX3 with ⟨_, h⟩ | ⟨h, _⟩
      · exact .inl ⟨h0, h⟩
      · exact absurd h h0
    have e2 : OrdErr d 0 0 (fun _ => 0) (.agg #[.int .i64 ny, .slice ay ly cy]) w3 := by
      rcases HY3 with ⟨_, h⟩ | ⟨h, _⟩
      · exact .inl ⟨h0, h⟩
      · exact absurd h h0
    refine (given_any d 0 0 (fun _ => 0) _ _ _ (by unfold maxLen; omega) e1 (.inl e2)).mono ?_
    rintro e w4 ⟨rfl, hb⟩
    have HB4 : Hid (Below w.heap.size w w4) := Below.then HB3.out hb
    clear hb p0 p1 q0 q1 HX3 HY3 e1 e2
    go_wp2_with fail
    go_ret
    exact ⟨rfl, HB4.out⟩
end Go.Proofs.Ytnjmelbnamgjcaa
