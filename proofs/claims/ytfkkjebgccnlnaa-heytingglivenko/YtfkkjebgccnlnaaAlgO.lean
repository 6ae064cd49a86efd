/-
  What heyting.algebraOf answers, whatever it is handed. No condition but that slices read as slices of rows.
-/
import Derived.Test.YtfkkjebgccnlnaaImpP
import Derived.Test.YtfkkjebgccnlnaaDisP
namespace Go.Proofs.Ytfkkjebgccnlnaa
set_option maxRecDepth 100000
open Go.RowKit

/-- What an algebra's error must be. -/
def HCk (L : LA) (c : Int) : Prop := (c ≠ 0 ∧ L.Ck c) ∨ (L.Ck 0 ∧ ((c = 4 ∧ ¬ All3 L.q (disB L.m L.j)) ∨ (c = 0 ∧ All3 L.q (disB L.m L.j))))
theorem HCk.one {L : LA} {c d : Int} (h : HCk L c) (h' : HCk L d) : c = d := by
  rcases h with ⟨h1, h2⟩ | ⟨h1, h2⟩ <;> rcases h' with ⟨k1, k2⟩ | ⟨k1, k2⟩
  · exact LCk.one h2 k2
  · exact absurd (LCk.one h2 k1) h1
  · exact absurd (LCk.one k2 h1) k1
  · rcases h2 with ⟨rfl, a⟩ | ⟨rfl, a⟩ <;> rcases k2 with ⟨rfl, b⟩ | ⟨rfl, b⟩
    · rfl
    · exact absurd b a
    · exact absurd a b
    · rfl
/-- A new algebra of a lattice, the world ahead of it being w0. -/
structure NewA (L : LA) (w w0 w' : World) (A b off b' off' : Nat) : Prop where
  ha : A = w0.heap.size
  base : Base w0 L.q b off b' off' (fun x => rAt (L.SA x)) (fun x => rAt (L.SB x)) L.m L.j
  alg : AlgN w0 A L.q b off L.ca b' off' L.cb w'
  bel : Below w.heap.size w w0
  dis : All3 L.q (disB L.m L.j)
  nq : L.n = (L.q : Nat)
/-- What algebraOf must answer. -/
def AlgPost (L : LA) (w : World) (e : Ending) (w' : World) : Prop := ∃ c : Int, HCk L c ∧ ((c ≠ 0 ∧ e = .returned (.tuple #[.pointer none, .int .i64 c]) ∧ Below w.heap.size w w') ∨ (c = 0 ∧ ∃ w0 A b off b' off', e = .returned (.tuple #[.pointer (some ⟨A, 0, none⟩), .int .i64 0]) ∧ NewA L w w0 w' A b off b' off'))
def algCells (n : Int) (a : Option Addr) (la ca : Nat) (b : Option Addr) (lb cb : Nat) : Array Value := #[.int .i64 n, .slice a la ca, .slice b lb cb, .int .u32 0, .int .i32 0, .int .u32 0, .slice none 0 0]
theorem newA_of {L : LA} {w w0 : World} {b off b' off' : Nat} (hb : Below w.heap.size w w0) (hI : L.In w0) (hC : L.Ck 0) (hd : All3 L.q (disB L.m L.j)) (ea : L.a = some ⟨b, off, none⟩) (eb : L.b = some ⟨b', off', none⟩) :
    NewA L w w0 (w0.alloc (.cells (algCells L.n L.a L.la L.ca L.b L.lb L.cb) 73)) w0.heap.size b off b' off' := by
  have hl := hC.lat
  obtain ⟨q, b1, o1, b2, o2, eq, e1, hla, e2, hlb, _, _, _, ht1, ht2⟩ := LCk.open hC hI.2.2.1 hI.2.2.2
  rw [ea] at e1
  rw [eb] at e2
  have f1 : b = b1 ∧ off = o1 := by injection e1 with e1; injection e1 with x y; exact ⟨x, y⟩
  have f2 : b' = b2 ∧ off' = o2 := by injection e2 with e2; injection e2 with x y; exact ⟨x, y⟩
  obtain ⟨rfl, rfl⟩ := f1
  obtain ⟨rfl, rfl⟩ := f2
  have hq : q = L.q := by unfold LA.q; omega
  subst hq
  refine ⟨rfl, ⟨hl.1, hl.2.1, hl.2.2.1, fun w' h => ht1.step h, fun w' h => ht2.step h⟩, ⟨(Below.refl _ _).alloc (Nat.le_refl _) _, ⟨?_, ?_, ?_⟩, ?_, ?_, ?_, fun k => World.frozen?_alloc_at _ _ _ _ rfl⟩, hb, hd, hl.2.2.2⟩
  · simp [algCells]; exact hl.2.2.2
  · simp [algCells]; exact ⟨ea, by omega⟩
  · simp [algCells]; exact ⟨eb, by omega⟩
  · simp [algCells]
  · simp [algCells]
  · simp [algCells]
set_option maxHeartbeats 2000000 in
theorem algebraOf_any (L : LA) (w : World) (hL : L.In w) :
    Calls Try.prog 11 #[.agg #[.int .i64 L.n, .slice L.a L.la L.ca, .slice L.b L.lb L.cb]] w fun e w' => AlgPost L w e w' := by
  have B1 : Below w.heap.size w (w.alloc (.cells #[.int .i64 L.n, .slice L.a L.la L.ca, .slice L.b L.lb L.cb] 24)) := (Below.refl _ _).alloc (Nat.le_refl _) _
  have L0 := LB.new w L.n L.a L.la L.ca L.b L.lb L.cb
  have HI : Hid (L.In (w.alloc (.cells #[.int .i64 L.n, .slice L.a L.la L.ca, .slice L.b L.lb L.cb] 24))) := hL.step B1
  have HB1 : Hid _ := B1
  clear B1 hL
  go_enter Try.func11, Try.ntmps11
  go_wp2_with fail
  refine (distr_any L.n L.a L.la L.ca L.SA L.FA L.b L.lb L.cb L.SB L.FB _ HI.out.1 HI.out.2.1 HI.out.2.2.1 HI.out.2.2.2).mono ?_
  rintro e w1 ⟨⟨c, v, hc, rfl, hv⟩, hb1⟩
  have HB2 : Hid (Below w.heap.size w w1) := Below.then HB1.out hb1
  have HI1 : Hid (L.In w1) := HI.out.step hb1
  have L1 := L0.step hb1
  have l0 := L1.1
  have l1 := L1.2.1
  have l2 := L1.2.2
  have HC : Hid (L.Ck c) := hc
  clear hb1 HB1 hc L0 L1 HI
  rcases hv with ⟨h0, rfl⟩ | ⟨rfl, hv⟩
  · have hne : (c != 0) = true := by simpa using h0
    go_wp2_with fail
    go_ret2
    exact ⟨c, .inl ⟨h0, HC.out⟩, .inl ⟨h0, rfl, HB2.out⟩⟩
  · have HV : Hid (v = true ↔ All3 L.q (disB L.m L.j)) := hv
    clear hv
    rcases v with _ | _
    · go_wp2_with fail
      go_ret2
      exact ⟨4, .inr ⟨HC.out, .inl ⟨rfl, fun h => by have := HV.out.2 h; cases this⟩⟩, .inl ⟨by decide, rfl, HB2.out⟩⟩
    · have HD : Hid (All3 L.q (disB L.m L.j)) := HV.out.1 rfl
      clear HV
      obtain ⟨b1, o1, b2, o2, HNA⟩ : ∃ b1 o1 b2 o2, Hid (NewA L w w1 (w1.alloc (.cells (algCells L.n L.a L.la L.ca L.b L.lb L.cb) 73)) w1.heap.size b1 o1 b2 o2) := by
        obtain ⟨q, b1, o1, b2, o2, _, ea, _, eb, _⟩ := LCk.open HC.out HI1.out.2.2.1 HI1.out.2.2.2
        exact ⟨b1, o1, b2, o2, newA_of HB2.out HI1.out HC.out HD.out ea eb⟩
      go_wp2_with fail
      go_ret2
      exact ⟨0, .inr ⟨HC.out, .inr ⟨rfl, HD.out⟩⟩, .inr ⟨rfl, _, _, _, _, _, _, rfl, HNA.out⟩⟩
end Go.Proofs.Ytfkkjebgccnlnaa
