/-
  What order.join answers of two orders that were looked at. Conditions: as the theorem says.
-/
import Derived.Test.YtgdbldfbhiaepabDoorJoin
namespace Go.Proofs.YtgdbldfbhiaepabDoor
open Go.RowKit

theorem add_or {x u n : Nat} (h : u < pw n) : x * pw n ||| u = x * pw n + u := by
  have e := Nat.two_pow_add_eq_or_of_lt (show u < 2 ^ n from h) x
  show x * 2 ^ n ||| u = x * 2 ^ n + u
  rw [Nat.mul_comm x, ← e]
theorem shl_small {x n m : Nat} (hx : x < pw m) (hn : n ≤ 10) (hm : m ≤ 10) : x * pw n < 2000000 := by
  have h1 := pw_le n hn
  have h2 := pw_le m hm
  have h3 : x * pw n ≤ 1024 * 1024 := Nat.mul_le_mul (by omega) h1
  omega
theorem wrap_shl {x n m : Nat} (hx : x < pw m) (hn : n ≤ 10) (hm : m ≤ 10) : wrap64 ((x : Int) * 2 ^ n) = ((x * pw n : Nat) : Int) := by
  have := shl_small hx hn hm
  rw [show ((x : Int) * 2 ^ n) = ((x * pw n : Nat) : Int) by simp [pw]]
  generalize x * pw n = y at *
  exact IntWalk.wrap64_in _ ⟨by omega, by omega⟩
theorem or_join {x u n m : Nat} (hx : x < pw m) (hn : n ≤ 10) (hm : m ≤ 10) (hu : u < pw n) : bits .or .i64 ((x * pw n : Nat) : Int) (u : Int) = ((x * pw n + u : Nat) : Int) := by
  have h1 := shl_small hx hn hm
  have h2 := pw_le n hn
  rw [← add_or hu]
  generalize x * pw n = y at *
  generalize pw n = P at *
  exact i64_or y u (by omega) (by omega)

/-- b's points behind a's, each above what is in u. -/
def jn (g1 : Nat → Nat) (n1 : Nat) (g2 : Nat → Nat) (u k : Nat) : Nat := if k < n1 then g1 k else g2 (k - n1) * pw n1 + u
theorem jn_lo {g1 : Nat → Nat} {n1 : Nat} {g2 : Nat → Nat} {u k : Nat} (h : k < n1) : jn g1 n1 g2 u k = g1 k := by simp [jn, h]
theorem jn_hi (g1 : Nat → Nat) (n1 : Nat) (g2 : Nat → Nat) (u k : Nat) : jn g1 n1 g2 u (n1 + k) = g2 k * pw n1 + u := by
  unfold jn; rw [if_neg (by omega), Nat.add_sub_cancel_left]
theorem rowVals_congr {F G : Nat → Nat} {n : Nat} (h : ∀ k, k < n → F k = G k) : rowVals F n = rowVals G n := by
  unfold rowVals
  apply List.map_congr_left
  intro k hk
  rw [h k (by simpa using hk)]
theorem rowVals_len (F : Nat → Nat) (n : Nat) : (rowVals F n).length = n * 1 := by simp [rowVals]
theorem rowVals_one (F : Nat → Nat) (n : Nat) : ∀ u ∈ rowVals F n, u.oneCell' = true := by
  intro u hu
  simp [rowVals] at hu
  obtain ⟨k, _, rfl⟩ := hu
  rfl
theorem row_news {w : World} {a : Option Addr} {n : Nat} {g : Nat → Nat} (h : Row w a n (fun k => (g k : Nat))) : ∀ ad, a = some ad → ∀ j u, (rowVals g n)[j]? = some u → w.cell? (ad.add j) = some u := by
  intro ad had j u hj
  have hjn : j < n := by
    have := (List.getElem?_eq_some_iff.1 hj).1
    simpa [rowVals] using this
  rw [rowVals_at g n j hjn] at hj
  obtain ⟨b, off, e, hc⟩ := h j hjn
  rw [had] at e
  simp at e
  subst e
  simp at hj
  subst hj
  by_cases e0 : j = 0
  · subst e0; simpa [Addr.add] using hc
  · simpa [Addr.add, e0] using hc
theorem below_grow {B : Nat} {W0 w w1 : World} (h : Below B W0 w) (hg : w.grownBy w1 (some B)) (hs : B ≤ w.heap.size) : Below B W0 w1 :=
  h.grown hg hs (fun k e => by injection e with e; omega)

/-- The slice of an order that is handed back lies in a block from B on. -/
def OrdFresh (B : Nat) (x : Value) : Prop := ∀ n a len cap, x = .agg #[.int .i64 n, .slice a len cap] → Fresh B a len
theorem OrdFresh.no (B : Nat) : OrdFresh B noOrder := by
  intro n a len cap e h
  simp [noOrder] at e
  omega
theorem OrdFresh.at {B b N n : Nat} {m : Int} {k : Nat} (h : B ≤ b) : OrdFresh B (.agg #[.int .i64 m, .slice (some ⟨b, k, none⟩) n N]) := by
  intro n' a len cap e _
  simp at e
  obtain ⟨_, rfl, _⟩ := e
  exact ⟨b, k, rfl, h⟩

end Go.Proofs.YtgdbldfbhiaepabDoor
