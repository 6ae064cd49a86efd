/-
  RestRows: what came out of each call, as the law carries it. No condition.
-/
import Derived.Test.YtglkjeidkjkdaaaDoorRrM
import Derived.Test.YtglkjeidkjkdaaaDoorRfI
namespace Go.Proofs.YtglkjeidkjkdaaaDoor
set_option maxRecDepth 100000
open Go.RowKit

theorem pst_new {D K : Nat} {w : World} {n : Int} {len : Nat} {f : Nat → Int} {a2 : Option Addr} {c2 : Nat} (hF : FRow w K w.heap.size a2 len f) (hD : D ≤ K) : PSt D (w.alloc (.cells #[.int .i64 n, .slice a2 len c2] 24)) n len f w.heap.size a2 c2 :=
  ⟨bx2_new _ _ _ _, K, w.heap.size, hF.aft (aft_new _ _), hD, by simp⟩
theorem pst_old {D K z : Nat} {w : World} {n : Int} {len : Nat} {f : Nat → Int} {a2 : Option Addr} {c2 : Nat} (hz : ZBox w z) (hF : FRow w K w.heap.size a2 len f) (hk : z + 1 ≤ K) (hD : D ≤ K) : PSt D ((w.setCell ⟨z, 0, none⟩ (.int .i64 n)).setCell ⟨z, 1, none⟩ (.slice a2 len c2)) n len f z a2 c2 :=
  ⟨bx2_set hz, K, w.heap.size, hF.aft (aft_two hk), hD, by simp⟩
/-- What Split gave. -/
def TGot (L : Nat) (w : World) (f : Nat → Int) (len : Nat) (v : Value) (ok : Bool) (er : Int) : Prop := er = 0 → ok = true → ∃ T, TRep L w T v ∧ Trm (nat f) len (pw len - 1) T
theorem split_form {L : Nat} {n : Int} {len : Nat} {f : Nat → Int} {e : Ending} {w : World} (h : SplitPost L n len f e w) : ∃ (c : Int) (ok : Bool) (k x : Int) (a : Option Addr) (m d : Nat), e = .returned (.tuple #[.agg #[.int .i64 k, .int .i64 x, .slice a m d], .bool ok, .int .i64 c]) ∧ Chk n len f c ∧ TGot L w f len (.agg #[.int .i64 k, .int .i64 x, .slice a m d]) ok c := by
  obtain ⟨c, v, ok, hc, rfl, he⟩ := h
  obtain ⟨k, x, a, m, d, rfl⟩ : ∃ k x a n c, v = .agg #[.int .i64 k, .int .i64 x, .slice a n c] := by
    rcases he with ⟨_, rfl, _⟩ | ⟨_, ⟨_, _, T, h, _⟩ | ⟨_, rfl, _⟩⟩
    · exact ⟨0, 0, none, 0, 0, rfl⟩
    · exact h.agg
    · exact ⟨0, 0, none, 0, 0, rfl⟩
  refine ⟨c, ok, k, x, a, m, d, rfl, hc, fun e1 e2 => ?_⟩
  rcases he with ⟨h, _⟩ | ⟨_, ⟨_, _, T, h1, h2⟩ | ⟨h, _⟩⟩
  · exact absurd e1 h
  · exact ⟨T, h1, h2⟩
  · rw [e2] at h; cases h
theorem tst_new {D L : Nat} {w : World} {f : Nat → Int} {len : Nat} {k x : Int} {a : Option Addr} {m d : Nat} {ok : Bool} {er : Int} (h : TGot L w f len (.agg #[.int .i64 k, .int .i64 x, .slice a m d]) ok er) (hD : D ≤ L) (hw : D ≤ w.heap.size) : TSt D (w.alloc (.cells #[.int .i64 k, .int .i64 x, .slice a m d] 32)) f len w.heap.size k x a m d ok er :=
  ⟨bx3_new _ _ _ _ _, hw, fun e1 e2 => by
    obtain ⟨T, h1, h2⟩ := h e1 e2
    exact ⟨T, TRep.low hD _ _ (TRep.aft (aft_new _ _) _ _ h1), h2⟩⟩
theorem tst_old {D L z : Nat} {w : World} {f : Nat → Int} {len : Nat} {k x : Int} {a : Option Addr} {m d : Nat} {ok : Bool} {er : Int} (hz : ZB w z) (h : TGot L w f len (.agg #[.int .i64 k, .int .i64 x, .slice a m d]) ok er) (hk : z + 1 ≤ L) (hD : D ≤ z) : TSt D (((w.setCell ⟨z, 0, none⟩ (.int .i64 k)).setCell ⟨z, 1, none⟩ (.int .i64 x)).setCell ⟨z, 2, none⟩ (.slice a m d)) f len z k x a m d ok er :=
  ⟨bx3_set hz, hD, fun e1 e2 => by
    obtain ⟨T, h1, h2⟩ := h e1 e2
    exact ⟨T, TRep.low (by omega) _ _ (TRep.aft (aft_three hk) _ _ h1), h2⟩⟩
/-- What convex.Ideals gave. -/
def SGot (L : Nat) (w : World) (l : List Nat) (a : Option Addr) (n c : Nat) (er : Int) : Prop := er = 0 → n = l.length ∧ Row w a n (fun k => (nth l k : Nat)) ∧ NewV L (.slice a n c)
theorem fam_form {L : Nat} {n : Int} {len : Nat} {f : Nat → Int} {l : List Nat} {e : Ending} {w : World} (h : FamPost L n len f l e w) : ∃ (c i : Int) (a : Option Addr) (m d : Nat), e = .returned (.tuple #[.agg #[.int .i64 i, .slice a m d], .int .i64 c]) ∧ Chk n len f c ∧ SGot L w l a m d c := by
  obtain ⟨c, x, hc, rfl, ⟨h0, rfl⟩ | ⟨h0, a, cap, rfl, hr, hn⟩⟩ := h
  · exact ⟨c, 0, none, 0, 0, rfl, hc, fun e => absurd e h0⟩
  · exact ⟨c, _, a, _, cap, rfl, hc, fun _ => ⟨rfl, hr, hn⟩⟩
theorem sst_new {D L : Nat} {w : World} {l : List Nat} {i : Int} {a : Option Addr} {n c : Nat} {er : Int} (h : SGot L w l a n c er) (hD : D ≤ L) (hw : D ≤ w.heap.size) : SSt D (w.alloc (.cells #[.int .i64 i, .slice a n c] 36)) l w.heap.size i a n c er :=
  ⟨bx2_new _ _ _ _, hw, fun e => ⟨(h e).1, row_aft (h e).2.1 (h e).2.2 (aft_new _ _), fun k q => Nat.le_trans hD ((h e).2.2 k q)⟩⟩
theorem sst_old {D L z : Nat} {w : World} {l : List Nat} {i : Int} {a : Option Addr} {n c : Nat} {er : Int} (hz : ZBox w z) (h : SGot L w l a n c er) (hk : z + 1 ≤ L) (hD : D ≤ z) : SSt D ((w.setCell ⟨z, 0, none⟩ (.int .i64 i)).setCell ⟨z, 1, none⟩ (.slice a n c)) l z i a n c er :=
  ⟨bx2_set hz, hD, fun e => ⟨(h e).1, row_aft (h e).2.1 (h e).2.2 (aft_two hk), fun k q => Nat.le_trans (by omega) ((h e).2.2 k q)⟩⟩
theorem frow_eq {w : World} {K K' : Nat} {a : Option Addr} {n : Nat} {f r : Nat → Int} (h : FRow w K K' a n f) (hr : Row w a n r) : FRow w K K' a n r := fun k hk => by
  obtain ⟨b, e, h1, hc, hz⟩ := h k hk
  obtain ⟨b', off, e', hc'⟩ := hr k hk
  rw [e] at e'
  injection e' with e'
  injection e' with e1 e2
  subst e1 e2
  exact ⟨b, e, h1, by simpa using hc', hz⟩
/-- What Nth gave. -/
def NGot (L : Nat) (w : World) (f : Nat → Int) (len : Nat) (K : Int) (a : Option Addr) (m : Nat) (er : Int) : Prop := er = 0 → m = len ∧ ∃ j : Nat, K = (j : Nat) ∧ j < ways (nat f) len 0 ∧ FRow w L w.heap.size a len (fun i => (nP (nat f) len j i : Nat))
theorem nth_form {L : Nat} {n : Int} {len : Nat} {f : Nat → Int} {K : Int} {e : Ending} {w : World} (h : NthPost L n len f K e w) : ∃ (c er : Int) (a : Option Addr) (m d : Nat), e = .returned (.tuple #[.slice a m d, .int .i64 er]) ∧ Chk n len f c ∧ (c ≠ 0 → er ≠ 0) ∧ NGot L w f len K a m er ∧ (c = 0 → (0 ≤ K ∧ K < (ways (nat f) len 0 : Nat)) → er = 0) := by
  obtain ⟨c, hc, ⟨h0, rfl⟩ | ⟨h0, h1, rfl⟩ | ⟨h0, k, h1, h2, a, cap, rfl, h3, a', n', c', f', e', h4⟩⟩ := h
  · exact ⟨c, c, none, 0, 0, rfl, hc, fun h => h, fun e => absurd e h0, fun e => absurd e h0⟩
  · exact ⟨c, 3, none, 0, 0, rfl, hc, fun h => absurd h0 h, fun e => by omega, fun _ e => absurd e h1⟩
  · injection e' with e1 e2 e3
    subst e1 e2
    exact ⟨c, 0, a, len, cap, rfl, hc, fun h => absurd h0 h, fun _ => ⟨rfl, k, h1, h2, frow_eq h4 h3⟩, fun _ _ => rfl⟩
/-- What order.Ideals gave. -/
def IGot (L : Nat) (w : World) (l : List Nat) (a : Option Addr) (m : Nat) (er : Int) : Prop := er = 0 → m = l.length ∧ FRow w L w.heap.size a m (fun k => (nth l k : Nat))
theorem ids_form {L : Nat} {n : Int} {len : Nat} {f : Nat → Int} {e : Ending} {w : World} (h : IdealsPost L n len f e w) : ∃ (c : Int) (a : Option Addr) (m d : Nat), e = .returned (.tuple #[.slice a m d, .int .i64 c]) ∧ Chk n len f c ∧ IGot L w (idls (nat f) len) a m c := by
  obtain ⟨c, v, hc, rfl, ⟨h0, rfl⟩ | ⟨h0, ⟨a, cap, rfl, hr⟩, _, a', n', c', f', e', h4⟩⟩ := h
  · exact ⟨c, none, 0, 0, rfl, hc, fun e => absurd e h0⟩
  · injection e' with e1 e2 e3
    subst e1 e2
    exact ⟨c, a, _, cap, rfl, hc, fun _ => ⟨rfl, frow_eq h4 hr⟩⟩
end Go.Proofs.YtglkjeidkjkdaaaDoor
