/-
  What order.members and the reference's Points answer: the points of a set, rising. Conditions: a set that is not negative, at most ten points.
-/
import Derived.Test.YtklfnghgpmjnmaaDoorGood
import Derived.Test.YtklfnghgpmjnmaaDoorTz
namespace Go.Proofs.YtklfnghgpmjnmaaDoor
open Go.RowKit

def pts (s : Nat) : Nat → List Nat
  | 0 => []
  | k + 1 => if s.testBit k = true then pts s k ++ [k] else pts s k
theorem pts_yes {s k : Nat} (h : s.testBit k = true) : pts s (k + 1) = pts s k ++ [k] := by simp [pts, h]
theorem pts_no {s k : Nat} (h : s.testBit k = false) : pts s (k + 1) = pts s k := by simp [pts, h]
theorem pts_len (s : Nat) : ∀ k, (pts s k).length ≤ k
  | 0 => by simp [pts]
  | k + 1 => by
    have ih := pts_len s k
    cases h : s.testBit k
    · rw [pts_no h]; omega
    · rw [pts_yes h, List.length_append]; simp; exact ih
theorem pts_lt (s : Nat) : ∀ k i, i ∈ pts s k → i < k
  | 0, i, h => by simp [pts] at h
  | k + 1, i, h => by
    cases hb : s.testBit k
    · rw [pts_no hb] at h; have := pts_lt s k i h; omega
    · rw [pts_yes hb, List.mem_append] at h
      rcases h with h | h
      · have := pts_lt s k i h; omega
      · simp at h; omega
theorem pts_more {s n : Nat} (hs : s < pw n) : ∀ d, pts s (n + d) = pts s n
  | 0 => rfl
  | d + 1 => by
    have hb : s.testBit (n + d) = false := by
      cases e : s.testBit (n + d)
      · rfl
      · have := bit_of_lt hs e; omega
    rw [show n + (d + 1) = (n + d) + 1 from rfl, pts_no hb, pts_more hs d]
def okc (c : Nat) : Bool := c == 0 || (c == (c &&& (c - 1)) + 2 ^ lo c && ((c &&& (c - 1)) % 2 ^ (lo c + 1) == 0 && decide (lo c < 10)))
theorem ok_all : ((List.range 1024).all okc) = true := by decide +kernel
theorem lo_is {c : Nat} (hc : c < 1024) (h0 : c ≠ 0) : c = (c &&& (c - 1)) + 2 ^ lo c ∧ (c &&& (c - 1)) % 2 ^ (lo c + 1) = 0 ∧ lo c < 10 := by
  have h := List.all_eq_true.1 ok_all c (List.mem_range.2 hc)
  simpa [okc, h0] using h
theorem pts_nil {c : Nat} : ∀ n, (∀ j, j < n → c.testBit j = false) → pts c n = []
  | 0, _ => rfl
  | n + 1, h => by rw [pts_no (h n (by omega))]; exact pts_nil n (fun j hj => h j (by omega))
theorem pts_low {c c' k : Nat} (h1 : ∀ j, j < k → c.testBit j = false) (h2 : c.testBit k = true) (h3 : ∀ j, j ≤ k → c'.testBit j = false) (h4 : ∀ j, k < j → c.testBit j = c'.testBit j) : ∀ n, k < n → pts c n = k :: pts c' n
  | 0, h => absurd h (Nat.not_lt_zero _)
  | n + 1, h => by
    by_cases e : n = k
    · subst e
      rw [pts_yes h2, pts_nil n h1, pts_nil (n + 1) (fun j hj => h3 j (by omega))]; rfl
    · have ih := pts_low h1 h2 h3 h4 n (by omega)
      have hb := h4 n (by omega)
      cases hc : c'.testBit n
      · rw [pts_no (hb.trans hc), pts_no hc, ih]
      · rw [pts_yes (hb.trans hc), pts_yes hc, ih]; rfl
theorem pts_lo {c : Nat} (hc : c < 1024) (h0 : c ≠ 0) : pts c 10 = lo c :: pts (c &&& (c - 1)) 10 := by
  obtain ⟨h1, h2, h3⟩ := lo_is hc h0
  generalize c &&& (c - 1) = d at *
  generalize lo c = k at *
  obtain ⟨m, hm⟩ := Nat.dvd_of_mod_eq_zero h2
  have hp : 2 ^ k < 2 ^ (k + 1) := Nat.pow_lt_pow_right (by decide) (by omega)
  have hd : ∀ j, d.testBit j = if j < k + 1 then false else m.testBit (j - (k + 1)) := fun j => by
    have := Nat.testBit_two_pow_mul_add m (b := 0) (i := k + 1) (Nat.two_pow_pos _) j
    rw [Nat.add_zero, ← hm] at this
    rw [this]; simp
  have hcb : ∀ j, c.testBit j = if j < k + 1 then (2 ^ k).testBit j else m.testBit (j - (k + 1)) := fun j => by
    have := Nat.testBit_two_pow_mul_add m hp j
    rw [← hm, ← h1] at this
    exact this
  refine pts_low (fun j hj => ?_) ?_ (fun j hj => ?_) (fun j hj => ?_) 10 h3
  · rw [hcb, if_pos (by omega), Nat.testBit_two_pow]; simp; omega
  · rw [hcb, if_pos (by omega), Nat.testBit_two_pow]; simp
  · rw [hd, if_pos (by omega)]
  · rw [hcb, hd, if_neg (by omega), if_neg (by omega)]
theorem lo_lt {c : Nat} (hc : c < 1024) (h0 : c ≠ 0) : (c &&& (c - 1)) < c := by
  obtain ⟨h1, _, _⟩ := lo_is hc h0
  have := Nat.two_pow_pos (lo c)
  omega
theorem pts_zero (n : Nat) : pts 0 n = [] := pts_nil n (fun j _ => by simp)
theorem pc_le2 (s : Nat) : pc s ≤ 10 := pcn_le s 10
set_option maxHeartbeats 1000000 in
theorem members_any (s : Nat) (w : World) (hs : s < 1024) (hT : Tab w) :
    Calls Tryd.prog 18 #[.int .i64 s] w fun e w' => (∃ v, e = .returned v ∧ NSl w' v (pts s 10)) ∧ Below w.heap.size w w' := by
  obtain ⟨i0, hi, hz0, hz1, hz2⟩ := info_parts Tryd.info3
  have HT : Hid (Tab w) := hT
  have hpc := pc_le2 s
  clear hT
  go_enter Tryd.func18, Tryd.ntmps18
  go_wp2_with (first | (go_at_call 28; refine (size_any s _ hs).mono ?_; rintro e w' ⟨rfl, rfl⟩) | (at_make; refine wpList_make_own _ rfl _ _ 22 rfl w.heap.size 3 i0 (.int .i64 0) 1 Tryd.underlying22 hi hz0 hz1 .i64 .i64 _ (pc s) rfl rfl rfl (by rw [hz2]; omega) (by unfold maxLen; omega) (Nat.le_refl _) ?_; intro w2 hown2 hgrow2))
  have HB2 : Hid (Below w.heap.size w w2) := (Below.refl _ _).grown hgrow2 (Nat.le_refl _) (by simp)
  have HO2 : Hid (w2.ownsRow w.heap.size 3 1 (.slice (some ⟨w.heap.size, 0, none⟩) 0 (pc s)) ([] : List Nat).length (natVals [])) := hown2
  have hpl := pts_len s 10
  clear hown2 hgrow2
  obtain ⟨P, HPP⟩ : ∃ P, Hid (P = pts s 10) := ⟨_, rfl⟩
  rw [← HPP.out] at hpl
  go_loopw [0, 3] (fun c v wx => ∃ (d : Nat) (L : List Nat), d < 1024 ∧ c = .int .i64 d ∧ Hid (P = L ++ pts d 10) ∧ wx.ownsRow w.heap.size 3 1 v L.length (natVals L) ∧ Hid (Below w.heap.size w wx)) (fun c _ _ => (intOf c).toNat)
  case atStart => exact ⟨s, [], hs, rfl, HPP.out, HO2.out, HB2.out⟩
  case round =>
    clear HO2 HB2
    obtain ⟨d, L, hd, rfl, HP, hown, hB⟩ := hrel
    by_cases h0 : d = 0
    · subst h0
      have HPL : Hid (P = L) := by have := HP.out; rw [pts_zero, List.append_nil] at this; exact this
      have HF : Hid (NSl wr u3 (pts s 10)) := by rw [← HPP.out, HPL.out]; exact owns_nats hown
      clear hown
      go_wp2_with fail
      go_ret
      exact ⟨⟨_, rfl, HF.out⟩, hB.out⟩
    · have hne : ((d : Int) != 0) = true := by simp; omega
      have HPN : Hid (P = (L ++ [lo d]) ++ pts (d &&& (d - 1)) 10) := by
        have := HP.out
        rw [pts_lo hd h0] at this
        exact this.trans (by simp)
      have hLL : L.length < 10 := by
        have h1 : P.length = L.length + 1 + (pts (d &&& (d - 1)) 10).length := by
          have := congrArg List.length HPN.out
          rw [List.length_append, List.length_append] at this
          exact this
        omega
      have hlt := lo_lt hd h0
      have hT1 : Tab wr := HT.out.step hB.out
      have hsz := hB.out.size
      have hand : bits BinOp.and IntKind.i64 (d : Int) ((d : Int) - 1) = ((d &&& (d - 1) : Nat) : Int) := by
        rw [show ((d : Int) - 1) = ((d - 1 : Nat) : Int) by omega]; exact i64_and d (d - 1) (Nat.lt_trans hd (by decide)) (Nat.lt_of_le_of_lt (Nat.sub_le _ _) (Nat.lt_trans hd (by decide)))
      have hlo : lo d < 10 := (lo_is hd h0).2.2
      go_wp2_with (first | (go_at_call 29; refine (first_any d _ hd h0 hT1).mono ?_; rintro e w' ⟨rfl, rfl⟩) | (at_builtin; refine wpList_append_own _ rfl _ _ 22 rfl w.heap.size 3 i0 (.int .i64 0) 1 8 Tryd.underlying22 hi hz0 hz1 hz2 rfl (by decide) _ _ _ rfl (hown.alloc _) ⟨wr.heap.size, 0, none⟩ 1 1 [.int .i64 (lo d : Nat)] rfl rfl ?c1 ?c2 ?c3 ?c4 ?c5 ?_))
      case c1 =>
        intro j u hj
        match j, hj with
        | 0, hj => simp at hj; subst hj; simp [Addr.add]
      case c2 => intro u hu; simp at hu; subst hu; rfl
      case c3 => unfold maxLen; omega
      case c4 => omega
      case c5 => simp; omega
      intro v' w1 hown' hgrow _
      have HB5 : Hid (Below w.heap.size w w1) := below_append3 hB.out hown hgrow
      have HO5 : Hid (w1.ownsRow w.heap.size 3 1 v' (L ++ [lo d]).length (natVals (L ++ [lo d]))) := by
        rw [natVals_append, List.length_append]; exact hown'
      have hdl : d &&& (d - 1) < 1024 := by omega
      clear hown' hgrow hown hB hT1
      generalize d &&& (d - 1) = d' at *
      go_wp2_with fail
      go_roundw
      case rel => exact ⟨d', L ++ [lo d], hdl, rfl, HPN.out, HO5.out, HB5.out⟩
      case measure => simp [intOf]; omega

end Go.Proofs.YtklfnghgpmjnmaaDoor
