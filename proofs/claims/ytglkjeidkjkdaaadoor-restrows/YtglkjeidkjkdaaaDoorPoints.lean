/-
  What sets.Size and the reference's Size answer: how many points a set has. Conditions: a set of at most ten points.
  What sets.First answers: the least point of a set that has one. Conditions: a set below 1024; the library's table lies in its variable.
  What order.members and the reference's Points answer: the points of a set, rising. Conditions: a set that is not negative, at most ten points.
-/
import Derived.Test.YtglkjeidkjkdaaaDoorBuild
import Derived.Shelf.Spec.TrailingZeros
import Derived.Test.YtglkjeidkjkdaaaDoorNats
namespace Go.Proofs.YtglkjeidkjkdaaaDoor
open Go.RowKit

/-- How many of the first k points are in s. -/
def pcn (s : Nat) : Nat → Nat
  | 0 => 0
  | k + 1 => if s.testBit k = true then pcn s k + 1 else pcn s k
/-- How many points a set has. -/
def pc (s : Nat) : Nat := pcn s 10

theorem ones_any (s : Nat) (w : World) (hs : s < 1024) :
    Calls Tryd.prog 84 #[.int .u64 s] w fun e w' => e = .returned (.int .i64 (pc s : Nat)) ∧ w = w' := by
  go_enter Tryd.func84, Tryd.ntmps84
  go_wp2
  go_ret
  refine ⟨ret_int ?_, rfl⟩
  clear w
  revert s
  decide +kernel
theorem onesCount_any (s : Nat) (w : World) (hs : s < 1024) :
    Calls Tryd.prog 74 #[.int .u64 s] w fun e w' => e = .returned (.int .i64 (pc s : Nat)) ∧ w = w' := by
  go_enter Tryd.func74, Tryd.ntmps74
  go_wp2_with (go_at_call 84; refine (ones_any s _ hs).mono ?_; rintro e w' ⟨rfl, rfl⟩)
  go_ret
  exact ⟨rfl, rfl⟩
theorem size_any (s : Nat) (w : World) (hs : s < 1024) :
    Calls Tryd.prog 54 #[.int .i64 s] w fun e w' => e = .returned (.int .i64 (pc s : Nat)) ∧ w = w' := by
  go_enter Tryd.func54, Tryd.ntmps54
  go_wp2_with (go_at_call 74; refine (onesCount_any s _ hs).mono ?_; rintro e w' ⟨rfl, rfl⟩)
  go_ret
  exact ⟨rfl, rfl⟩

theorem pcn_le (s : Nat) : ∀ k, pcn s k ≤ k
  | 0 => Nat.le_refl _
  | k + 1 => by have := pcn_le s k; unfold pcn; split <;> omega
theorem pcn_stop {s k : Nat} (h : ∀ j, k ≤ j → s.testBit j = false) : ∀ d, pcn s (k + d) = pcn s k
  | 0 => rfl
  | d + 1 => by
    rw [← Nat.add_assoc, pcn, h (k + d) (by omega)]
    simpa using pcn_stop h d
theorem pcn_step (s k : Nat) : pcn s (k + 1) = pcn s k + hv s k % 2 := by
  rw [pcn, hv_bit]
  rcases Nat.mod_two_eq_zero_or_one (hv s k) with h | h <;> simp [h]
theorem hv_zero_bits {s k : Nat} (h : hv s k = 0) : ∀ j, k ≤ j → s.testBit j = false := by
  intro j hj
  have hlt : s < 2 ^ k := by
    unfold hv at h
    rcases Nat.div_eq_zero_iff.1 h with h1 | h1
    · have := Nat.two_pow_pos k; omega
    · exact h1
  exact Nat.testBit_lt_two_pow (Nat.lt_of_lt_of_le hlt (Nat.pow_le_pow_right (by decide) hj))
theorem hv_big {s : Nat} (hs : s < 1024) {k : Nat} (hk : 10 ≤ k) : hv s k = 0 := by
  unfold hv
  exact Nat.div_eq_zero_iff.2 (.inr (Nat.lt_of_lt_of_le hs (Nat.le_trans (by decide : 1024 ≤ 2 ^ 10) (Nat.pow_le_pow_right (by decide) hk))))
end Go.Proofs.YtglkjeidkjkdaaaDoor
namespace Go.Proofs.YtglkjeidkjkdaaaDoor
open Go.RowKit

/-- The table in its variable. -/
def Tab (w : World) : Prop := ∀ j, j < 64 → w.cell? ⟨1, j, none⟩ = some (.int .u8 (Lib.deBruijn64tab.getD j 0))
theorem Tab.step {w w' : World} (h : Tab w) (hb : Below w.heap.size w w') : Tab w' := fun j hj => (hb.cell (World.block_lt_of_cell? _ _ (h j hj))).trans (h j hj)
/-- The least point of a set. -/
def lo (s : Nat) : Nat := Lib.ctz 64 s
set_option maxHeartbeats 1000000 in
theorem tz64_core (x k idx : Nat) (w : World) (hx0 : ((x : Int) == 0) = false)
    (key : IntKind.u64.wrap (bits BinOp.and IntKind.u64 (x : Int) (IntKind.u64.wrap (-(x : Int))) * 285870213051353865) / 288230376151711744 = (idx : Int))
    (hi : idx < 64) (hk : k < 64) (hcell : w.cell? ⟨1, idx, none⟩ = some (.int .u8 k)) :
    Calls Tryd.prog 86 #[.int .u64 x] w fun e w' => e = .returned (.int .i64 k) ∧ w = w' := by
  go_enter Tryd.func86, Tryd.ntmps86
  go_wp2_with (simp only [key])
  go_ret
  exact ⟨rfl, rfl⟩
theorem tz64_any (s : Nat) (w : World) (hs : s < 1024) (h0 : s ≠ 0) (hT : Tab w) :
    Calls Tryd.prog 86 #[.int .u64 s] w fun e w' => e = .returned (.int .i64 (lo s : Nat)) ∧ w = w' := by
  have hs64 : s < 18446744073709551616 := Nat.lt_trans hs (by decide)
  obtain ⟨hlow, hk⟩ := Lib.lowest_bit 64 s h0 hs64
  obtain ⟨hi, htab⟩ := Lib.deBruijn64_at _ hk
  have hcell := hT _ hi
  rw [htab] at hcell
  exact tz64_core s _ _ w (by simpa using h0) (tz64_key s _ hs64 h0 hlow) hi hk hcell
theorem tz_any (s : Nat) (w : World) (hs : s < 1024) (h0 : s ≠ 0) (hT : Tab w) :
    Calls Tryd.prog 75 #[.int .u64 s] w fun e w' => e = .returned (.int .i64 (lo s : Nat)) ∧ w = w' := by
  go_enter Tryd.func75, Tryd.ntmps75
  go_wp2_with (go_at_call 86; refine (tz64_any s _ hs h0 hT).mono ?_; rintro e w' ⟨rfl, rfl⟩)
  go_ret
  exact ⟨rfl, rfl⟩
theorem first_any (s : Nat) (w : World) (hs : s < 1024) (h0 : s ≠ 0) (hT : Tab w) :
    Calls Tryd.prog 55 #[.int .i64 s] w fun e w' => e = .returned (.int .i64 (lo s : Nat)) ∧ w = w' := by
  go_enter Tryd.func55, Tryd.ntmps55
  go_wp2_with (go_at_call 75; refine (tz_any s _ hs h0 hT).mono ?_; rintro e w' ⟨rfl, rfl⟩)
  go_ret
  exact ⟨rfl, rfl⟩
end Go.Proofs.YtglkjeidkjkdaaaDoor
namespace Go.Proofs.YtglkjeidkjkdaaaDoor
set_option maxRecDepth 100000
open Go.RowKit

def pts (s : Nat) : Nat → List Nat
  | 0 => []
  | k + 1 => if s.testBit k = true then pts s k ++ [k] else pts s k
theorem pts_yes {s k : Nat} (h : s.testBit k = true) : pts s (k + 1) = pts s k ++ [k] := by simp [pts, h]
theorem pts_no {s k : Nat} (h : s.testBit k = false) : pts s (k + 1) = pts s k := by simp [pts, h]
theorem pts_len (s : Nat) : ∀ k, (pts s k).length ≤ k
  | 0 => by simp [pts]
  | k + 1 => by
    have ih := pts_len s k
    cases h : s.testBit k
    · rw [pts_no h]; omega
    · rw [pts_yes h, List.length_append]; simp; exact ih
theorem pts_lt (s : Nat) : ∀ k i, i ∈ pts s k → i < k
  | 0, i, h => by simp [pts] at h
  | k + 1, i, h => by
    cases hb : s.testBit k
    · rw [pts_no hb] at h; have := pts_lt s k i h; omega
    · rw [pts_yes hb, List.mem_append] at h
      rcases h with h | h
      · have := pts_lt s k i h; omega
      · simp at h; omega
theorem pts_more {s n : Nat} (hs : s < pw n) : ∀ d, pts s (n + d) = pts s n
  | 0 => rfl
  | d + 1 => by
    have hb : s.testBit (n + d) = false := by
      cases e : s.testBit (n + d)
      · rfl
      · have := bit_of_lt hs e; omega
    rw [show n + (d + 1) = (n + d) + 1 from rfl, pts_no hb, pts_more hs d]
def okc (c : Nat) : Bool := c == 0 || (c == (c &&& (c - 1)) + 2 ^ lo c && ((c &&& (c - 1)) % 2 ^ (lo c + 1) == 0 && decide (lo c < 10)))
theorem ok_all : ((List.range 1024).all okc) = true := by decide +kernel
theorem lo_is {c : Nat} (hc : c < 1024) (h0 : c ≠ 0) : c = (c &&& (c - 1)) + 2 ^ lo c ∧ (c &&& (c - 1)) % 2 ^ (lo c + 1) = 0 ∧ lo c < 10 := by
  have h := List.all_eq_true.1 ok_all c (List.mem_range.2 hc)
  simpa [okc, h0] using h
theorem pts_nil {c : Nat} : ∀ n, (∀ j, j < n → c.testBit j = false) → pts c n = []
  | 0, _ => rfl
  | n + 1, h => by rw [pts_no (h n (by omega))]; exact pts_nil n (fun j hj => h j (by omega))
theorem pts_low {c c' k : Nat} (h1 : ∀ j, j < k → c.testBit j = false) (h2 : c.testBit k = true) (h3 : ∀ j, j ≤ k → c'.testBit j = false) (h4 : ∀ j, k < j → c.testBit j = c'.testBit j) : ∀ n, k < n → pts c n = k :: pts c' n
  | 0, h => absurd h (Nat.not_lt_zero _)
  | n + 1, h => by
    by_cases e : n = k
    · subst e
      rw [pts_yes h2, pts_nil n h1, pts_nil (n + 1) (fun j hj => h3 j (by omega))]; rfl
    · have ih := pts_low h1 h2 h3 h4 n (by omega)
      have hb := h4 n (by omega)
      cases hc : c'.testBit n
      · rw [pts_no (hb.trans hc), pts_no hc, ih]
      · rw [pts_yes (hb.trans hc), pts_yes hc, ih]; rfl
theorem pts_lo {c : Nat} (hc : c < 1024) (h0 : c ≠ 0) : pts c 10 = lo c :: pts (c &&& (c - 1)) 10 := by
  obtain ⟨h1, h2, h3⟩ := lo_is hc h0
  generalize c &&& (c - 1) = d at *
  generalize lo c = k at *
  obtain ⟨m, hm⟩ := Nat.dvd_of_mod_eq_zero h2
  have hp : 2 ^ k < 2 ^ (k + 1) := Nat.pow_lt_pow_right (by decide) (by omega)
  have hd : ∀ j, d.testBit j = if j < k + 1 then false else m.testBit (j - (k + 1)) := fun j => by
    have := Nat.testBit_two_pow_mul_add m (b := 0) (i := k + 1) (Nat.two_pow_pos _) j
    rw [Nat.add_zero, ← hm] at this
    rw [this]; simp
  have hcb : ∀ j, c.testBit j = if j < k + 1 then (2 ^ k).testBit j else m.testBit (j - (k + 1)) := fun j => by
    have := Nat.testBit_two_pow_mul_add m hp j
    rw [← hm, ← h1] at this
    exact this
  refine pts_low (fun j hj => ?_) ?_ (fun j hj => ?_) (fun j hj => ?_) 10 h3
  · rw [hcb, if_pos (by omega), Nat.testBit_two_pow]; simp; omega
  · rw [hcb, if_pos (by omega), Nat.testBit_two_pow]; simp
  · rw [hd, if_pos (by omega)]
  · rw [hcb, hd, if_neg (by omega), if_neg (by omega)]
theorem lo_lt {c : Nat} (hc : c < 1024) (h0 : c ≠ 0) : (c &&& (c - 1)) < c := by
  obtain ⟨h1, _, _⟩ := lo_is hc h0
  have := Nat.two_pow_pos (lo c)
  omega
theorem pts_zero (n : Nat) : pts 0 n = [] := pts_nil n (fun j _ => by simp)
theorem pc_le2 (s : Nat) : pc s ≤ 10 := pcn_le s 10
set_option maxHeartbeats 1000000 in
theorem members_any (s : Nat) (w : World) (hs : s < 1024) (hT : Tab w) :
    Calls Tryd.prog 47 #[.int .i64 s] w fun e w' => (∃ v, e = .returned v ∧ NSl w' v (pts s 10)) ∧ Below w.heap.size w w' := by
  obtain ⟨i0, hi, hz0, hz1, hz2⟩ := info_parts Tryd.info3
  have HT : Hid (Tab w) := hT
  have hpc := pc_le2 s
  clear hT
  go_enter Tryd.func47, Tryd.ntmps47
  go_wp2_with (first | (go_at_call 54; refine (size_any s _ hs).mono ?_; rintro e w' ⟨rfl, rfl⟩) | (at_make; refine wpList_make_own _ rfl _ _ 22 rfl w.heap.size 3 i0 (.int .i64 0) 1 Tryd.underlying22 hi hz0 hz1 .i64 .i64 _ (pc s) rfl rfl rfl (by rw [hz2]; omega) (by unfold maxLen; omega) (Nat.le_refl _) ?_; intro w2 hown2 hgrow2))
  have HB2 : Hid (Below w.heap.size w w2) := (Below.refl _ _).grown hgrow2 (Nat.le_refl _) (by simp)
  have HO2 : Hid (w2.ownsRow w.heap.size 3 1 (.slice (some ⟨w.heap.size, 0, none⟩) 0 (pc s)) ([] : List Nat).length (natVals [])) := hown2
  have hpl := pts_len s 10
  clear hown2 hgrow2
  obtain ⟨P, HPP⟩ : ∃ P, Hid (P = pts s 10) := ⟨_, rfl⟩
  rw [← HPP.out] at hpl
  go_loopw [0, 3] (fun c v wx => ∃ (d : Nat) (L : List Nat), d < 1024 ∧ c = .int .i64 d ∧ Hid (P = L ++ pts d 10) ∧ wx.ownsRow w.heap.size 3 1 v L.length (natVals L) ∧ Hid (Below w.heap.size w wx)) (fun c _ _ => (intOf c).toNat)
  case atStart => exact ⟨s, [], hs, rfl, HPP.out, HO2.out, HB2.out⟩
  case round =>
    clear HO2 HB2
    obtain ⟨d, L, hd, rfl, HP, hown, hB⟩ := hrel
    by_cases h0 : d = 0
    · subst h0
      have HPL : Hid (P = L) := by have := HP.out; rw [pts_zero, List.append_nil] at this; exact this
      have HF : Hid (NSl wr u3 (pts s 10)) := by rw [← HPP.out, HPL.out]; exact owns_nats hown
      clear hown
      go_wp2_with fail
      go_ret
      exact ⟨⟨_, rfl, HF.out⟩, hB.out⟩
    · have hne : ((d : Int) != 0) = true := by simp; omega
      have HPN : Hid (P = (L ++ [lo d]) ++ pts (d &&& (d - 1)) 10) := by
        have := HP.out
        rw [pts_lo hd h0] at this
        exact this.trans (by simp)
      have hLL : L.length < 10 := by
        have h1 : P.length = L.length + 1 + (pts (d &&& (d - 1)) 10).length := by
          have := congrArg List.length HPN.out
          rw [List.length_append, List.length_append] at this
          exact this
        omega
      have hlt := lo_lt hd h0
      have hT1 : Tab wr := HT.out.step hB.out
      have hsz := hB.out.size
      have hand : bits BinOp.and IntKind.i64 (d : Int) ((d : Int) - 1) = ((d &&& (d - 1) : Nat) : Int) := by
        rw [show ((d : Int) - 1) = ((d - 1 : Nat) : Int) by omega]; exact i64_and d (d - 1) (Nat.lt_trans hd (by decide)) (Nat.lt_of_le_of_lt (Nat.sub_le _ _) (Nat.lt_trans hd (by decide)))
      have hlo : lo d < 10 := (lo_is hd h0).2.2
      go_wp2_with (first | (go_at_call 55; refine (first_any d _ hd h0 hT1).mono ?_; rintro e w' ⟨rfl, rfl⟩) | (at_builtin; refine wpList_append_own _ rfl _ _ 22 rfl w.heap.size 3 i0 (.int .i64 0) 1 8 Tryd.underlying22 hi hz0 hz1 hz2 rfl (by decide) _ _ _ rfl (hown.alloc _) ⟨wr.heap.size, 0, none⟩ 1 1 [.int .i64 (lo d : Nat)] rfl rfl ?c1 ?c2 ?c3 ?c4 ?c5 ?_))
      case c1 =>
        intro j u hj
        match j, hj with
        | 0, hj => simp at hj; subst hj; simp [Addr.add]
      case c2 => intro u hu; simp at hu; subst hu; rfl
      case c3 => unfold maxLen; omega
      case c4 => omega
      case c5 => simp; omega
      intro v' w1 hown' hgrow _
      have HB5 : Hid (Below w.heap.size w w1) := below_append3 hB.out hown hgrow
      have HO5 : Hid (w1.ownsRow w.heap.size 3 1 v' (L ++ [lo d]).length (natVals (L ++ [lo d]))) := by
        rw [natVals_append, List.length_append]; exact hown'
      have hdl : d &&& (d - 1) < 1024 := by omega
      clear hown' hgrow hown hB hT1
      generalize d &&& (d - 1) = d' at *
      go_wp2_with fail
      go_roundw
      case rel => exact ⟨d', L ++ [lo d], hdl, rfl, HPN.out, HO5.out, HB5.out⟩
      case measure => simp [intOf]; omega

end Go.Proofs.YtglkjeidkjkdaaaDoor
