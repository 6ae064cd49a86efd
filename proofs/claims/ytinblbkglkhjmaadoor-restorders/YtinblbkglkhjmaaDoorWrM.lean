/-
  What order.checkAll, the reference's CheckOrders and order.join answer of two orders. Conditions: slices read as slices of numbers; join: orders that were looked at.
  An order's row that is new and may be written. No condition.
-/
import Derived.Test.YtinblbkglkhjmaaDoorNthM
import Derived.Test.YtinblbkglkhjmaaDoorBuild
namespace Go.Proofs.YtinblbkglkhjmaaDoor
open Go.RowKit

/-- What must be said of two orders. -/
def Chk2 (n1 : Int) (len1 : Nat) (f1 : Nat → Int) (n2 : Int) (len2 : Nat) (f2 : Nat → Int) (c : Int) : Prop := (c ≠ 0 ∧ Chk n1 len1 f1 c) ∨ (Chk n1 len1 f1 0 ∧ Chk n2 len2 f2 c)
theorem Chk2.unique {n1 : Int} {len1 : Nat} {f1 : Nat → Int} {n2 : Int} {len2 : Nat} {f2 : Nat → Int} {c c' : Int} (h : Chk2 n1 len1 f1 n2 len2 f2 c) (h' : Chk2 n1 len1 f1 n2 len2 f2 c') : c = c' := by
  rcases h with ⟨h0, h⟩ | ⟨h, k⟩ <;> rcases h' with ⟨h0', h'⟩ | ⟨h', k'⟩
  · exact h.unique h'
  · exact absurd (h.unique h') h0
  · exact absurd (h'.unique h) h0'
  · exact k.unique k'
/-- A slice of two orders at the head of block b. -/
def Two (w : World) (b : Nat) (n1 : Int) (a1 : Option Addr) (len1 cap1 : Nat) (n2 : Int) (a2 : Option Addr) (len2 cap2 : Nat) : Prop :=
  w.cell? ⟨b, 0, none⟩ = some (.int .i64 n1) ∧ w.cell? ⟨b, 1, none⟩ = some (.slice a1 len1 cap1) ∧ w.cell? ⟨b, 2, none⟩ = some (.int .i64 n2) ∧ w.cell? ⟨b, 3, none⟩ = some (.slice a2 len2 cap2)
theorem Two.step {w w' : World} {b : Nat} {n1 : Int} {a1 : Option Addr} {len1 cap1 : Nat} {n2 : Int} {a2 : Option Addr} {len2 cap2 : Nat} (h : Two w b n1 a1 len1 cap1 n2 a2 len2 cap2) (hb : Below w.heap.size w w') : Two w' b n1 a1 len1 cap1 n2 a2 len2 cap2 := by
  obtain ⟨h1, h2, h3, h4⟩ := h
  exact ⟨(hb.cell (World.block_lt_of_cell? _ _ h1)).trans h1, (hb.cell (World.block_lt_of_cell? _ _ h2)).trans h2, (hb.cell (World.block_lt_of_cell? _ _ h3)).trans h3, (hb.cell (World.block_lt_of_cell? _ _ h4)).trans h4⟩

set_option maxHeartbeats 1000000 in
theorem checkAll_any (n1 : Int) (a1 : Option Addr) (len1 cap1 : Nat) (f1 : Nat → Int) (n2 : Int) (a2 : Option Addr) (len2 cap2 : Nat) (f2 : Nat → Int) (b : Nat) (w : World) (hl1 : len1 ≤ maxLen) (hl2 : len2 ≤ maxLen)
    (hT : Two w b n1 a1 len1 cap1 n2 a2 len2 cap2) (hr1 : Row w a1 len1 f1) (hr2 : Row w a2 len2 f2) :
    Calls Tryd.prog 23 #[.slice (some ⟨b, 0, none⟩) 2 2] w fun e w' => (∃ c : Int, e = .returned (.int .i64 c) ∧ Chk2 n1 len1 f1 n2 len2 f2 c) ∧ Below w.heap.size w w' := by
  have HT : Hid (Two w b n1 a1 len1 cap1 n2 a2 len2 cap2) := hT
  have HR1 : Hid (Row w a1 len1 f1) := hr1
  have HR2 : Hid (Row w a2 len2 f2) := hr2
  clear hT hr1 hr2
  go_enter Tryd.func23, Tryd.ntmps23
  go_wp2
  go_loopw [8] (fun t wx => ∃ k : Nat, k ≤ 2 ∧ t = .int .i64 k ∧ Hid (1 ≤ k → Chk n1 len1 f1 0) ∧ Hid (2 ≤ k → Chk n2 len2 f2 0) ∧ Hid (Below w.heap.size w wx)) (fun t _ => 2 - (intOf t).toNat)
  case atStart => exact ⟨0, Nat.zero_le _, rfl, fun h => absurd h (by omega), fun h => absurd h (by omega), Below.refl _ _⟩
  case round =>
    obtain ⟨k, hk, rfl, h1, h2, hB⟩ := hrel
    obtain ⟨t0, t1, t2, t3⟩ := HT.out.step hB.out
    have hbw := World.block_lt_of_cell? _ _ t0
    have R1 := HR1.out.below hB.out
    have R2 := HR2.out.below hB.out
    match k, hk with
    | 0, _ =>
      have R1' := R1.below ((Below.refl _ _).alloc (Nat.le_refl _) (.cells #[.int .i64 n1, .slice a1 len1 cap1] 24))
      have HB2 : Hid (Below w.heap.size w (wr.alloc (.cells #[.int .i64 n1, .slice a1 len1 cap1] 24))) := hB.out.alloc hB.out.size _
      clear R1 R2
      go_wp2_with fail
      refine (check_any n1 a1 len1 cap1 f1 _ hl1 R1').mono ?_
      rintro e w1 ⟨⟨c, rfl, hc⟩, hb⟩
      have HB3 : Hid (Below w.heap.size w w1) := Below.then HB2.out hb
      have HC : Hid (Chk n1 len1 f1 c) := hc
      clear hb hc HB2 R1' t0 t1 t2 t3
      by_cases h0 : c = 0
      · subst h0
        go_wp2_with fail
        go_roundw
        case rel => exact ⟨1, by omega, by go_num, fun _ => HC.out, fun h => absurd h (by omega), HB3.out⟩
        case measure => simp [intOf]
      · have hne : (c != 0) = true := by simpa using h0
        go_wp2_with fail
        go_ret
        exact ⟨⟨_, rfl, .inl ⟨h0, HC.out⟩⟩, HB3.out⟩
    | 1, _ =>
      have R2' := R2.below ((Below.refl _ _).alloc (Nat.le_refl _) (.cells #[.int .i64 n2, .slice a2 len2 cap2] 24))
      have HB2 : Hid (Below w.heap.size w (wr.alloc (.cells #[.int .i64 n2, .slice a2 len2 cap2] 24))) := hB.out.alloc hB.out.size _
      have H1 : Hid (Chk n1 len1 f1 0) := h1.out (by omega)
      clear R1 R2 h1 h2
      go_wp2_with fail
      refine (check_any n2 a2 len2 cap2 f2 _ hl2 R2').mono ?_
      rintro e w1 ⟨⟨c, rfl, hc⟩, hb⟩
      have HB3 : Hid (Below w.heap.size w w1) := Below.then HB2.out hb
      have HC : Hid (Chk n2 len2 f2 c) := hc
      clear hb hc HB2 R2' t0 t1 t2 t3
      by_cases h0 : c = 0
      · subst h0
        go_wp2_with fail
        go_roundw
        case rel => exact ⟨2, by omega, by go_num, fun _ => H1.out, fun _ => HC.out, HB3.out⟩
        case measure => simp [intOf]
      · have hne : (c != 0) = true := by simpa using h0
        go_wp2_with fail
        go_ret
        exact ⟨⟨_, rfl, .inr ⟨H1.out, HC.out⟩⟩, HB3.out⟩
    | 2, _ =>
      have HC : Hid (Chk2 n1 len1 f1 n2 len2 f2 0) := .inr ⟨h1.out (by omega), h2.out (by omega)⟩
      clear R1 R2 h1 h2 t0 t1 t2 t3
      go_wp2
      go_ret
      exact ⟨⟨_, rfl, HC.out⟩, hB.out⟩

end Go.Proofs.YtinblbkglkhjmaaDoor
namespace Go.Proofs.YtinblbkglkhjmaaDoor
open Go.RowKit

/-- The row of an order lies from block K on, and may be written. -/
def WrB (K : Nat) (w : World) (x : Value) : Prop := ∀ N a l cp, x = .agg #[N, .slice a l cp] → ∀ k, k < l → ∃ b, a = some ⟨b, 0, none⟩ ∧ (K ≤ b ∧ b < w.heap.size) ∧ w.frozen? ⟨b, k, none⟩ = false
theorem wrb_no (K : Nat) (w : World) : WrB K w noOrder := fun N a l cp h k hk => by
  simp [noOrder] at h
  obtain ⟨_, _, rfl, _⟩ := h
  exact absurd hk (Nat.not_lt_zero _)
theorem wrb_own {K : Nat} {w : World} {b n : Nat} {g : Nat → Nat} {N : Value} {cp : Nat} (h : Own w b n g) (hK : K ≤ b) : WrB K w (.agg #[N, .slice (some ⟨b, 0, none⟩) n cp]) := fun N' a l cp' e k hk => by
  simp at e
  obtain ⟨_, rfl, rfl, _⟩ := e
  exact ⟨b, rfl, ⟨hK, World.block_lt_of_cell? _ _ (h k hk).1⟩, (h k hk).2⟩
theorem wrb_owns {K : Nat} {w : World} {b n m base cap : Nat} {xs : List Value} {N : Value} {cp : Nat} (h : w.ownsRow base 3 1 (.slice (some ⟨b, 0, none⟩) m cap) m xs) (hK : K ≤ b) : WrB K w (.agg #[N, .slice (some ⟨b, 0, none⟩) n cp]) := fun N' a l cp' e k hk => by
  simp at e
  obtain ⟨_, rfl, rfl, _⟩ := e
  exact ⟨b, rfl, ⟨hK, (h.lt b rfl).2⟩, h.frozenAt k⟩
theorem wrb_set2 {K : Nat} {X : World} {p q : Addr} {u v x : Value} (h : WrB K X x) : WrB K ((X.setCell p u).setCell q v) x := fun N a l cp e k hk => by
  obtain ⟨b, e1, e2, e3⟩ := h N a l cp e k hk
  exact ⟨b, e1, by simpa using e2, by rw [World.frozen?_setCell, World.frozen?_setCell]; exact e3⟩
theorem wrb_mono {K K' : Nat} {w : World} {x : Value} (h : WrB K w x) (hK : K' ≤ K) : WrB K' w x := fun N a l cp e k hk => by
  obtain ⟨b, e1, e2, e3⟩ := h N a l cp e k hk
  exact ⟨b, e1, ⟨by omega, e2.2⟩, e3⟩
end Go.Proofs.YtinblbkglkhjmaaDoor
