/-
  What sets.Members answers, and that its list is new memory. Conditions: a set that is not negative, at most ten points; the table of the least bits.
  What slices.Compare answers of two lists of one length. No other condition.
  All lists of some points, as they are compared, and the first one by which an order is least: plain facts. No Go text here. Conditions: at most ten points.
-/
import Derived.Test.YtinblbkglkhjmaaDoorWoU
import Derived.Test.YtinblbkglkhjmaaDoorBuild
namespace Go.Proofs.YtinblbkglkhjmaaDoor
set_option maxRecDepth 100000
open Go.RowKit

set_option maxHeartbeats 1000000 in
theorem members_new (s : Nat) (w : World) (hs : s < 1024) (hT : Tab w) :
    Calls Tryd.prog 21 #[.int .i64 s] w fun e w' => (∃ v, e = .returned v ∧ NSl w' v (pts s 10) ∧ ∀ k, v.ownBlock = some k → w.heap.size ≤ k) ∧ Below w.heap.size w w' := by
  obtain ⟨i0, hi, hz0, hz1, hz2⟩ := info_parts Tryd.info3
  have HT : Hid (Tab w) := hT
  have hpc := pc_le2 s
  clear hT
  go_enter Tryd.func21, Tryd.ntmps21
  go_wp2_with (first | (go_at_call 42; refine (size_any s _ hs).mono ?_; rintro e w' ⟨rfl, rfl⟩) | (at_make; refine wpList_make_own _ rfl _ _ 22 rfl w.heap.size 3 i0 (.int .i64 0) 1 Tryd.underlying22 hi hz0 hz1 .i64 .i64 _ (pc s) rfl rfl rfl (by rw [hz2]; omega) (by unfold maxLen; omega) (Nat.le_refl _) ?_; intro w2 hown2 hgrow2))
  have HB2 : Hid (Below w.heap.size w w2) := (Below.refl _ _).grown hgrow2 (Nat.le_refl _) (by simp)
  have HO2 : Hid (w2.ownsRow w.heap.size 3 1 (.slice (some ⟨w.heap.size, 0, none⟩) 0 (pc s)) ([] : List Nat).length (natVals [])) := hown2
  have hpl := pts_len s 10
  clear hown2 hgrow2
  obtain ⟨P, HPP⟩ : ∃ P, Hid (P = pts s 10) := ⟨_, rfl⟩
  rw [← HPP.out] at hpl
  go_loopw [0, 3] (fun c v wx => ∃ (d : Nat) (L : List Nat), d < 1024 ∧ c = .int .i64 d ∧ Hid (P = L ++ pts d 10) ∧ wx.ownsRow w.heap.size 3 1 v L.length (natVals L) ∧ Hid (Below w.heap.size w wx)) (fun c _ _ => (intOf c).toNat)
  case atStart => exact ⟨s, [], hs, rfl, HPP.out, HO2.out, HB2.out⟩
  case round =>
    clear HO2 HB2
    obtain ⟨d, L, hd, rfl, HP, hown, hB⟩ := hrel
    by_cases h0 : d = 0
    · subst h0
      have HPL : Hid (P = L) := by have := HP.out; rw [pts_zero, List.append_nil] at this; exact this
      have HF : Hid (NSl wr u3 (pts s 10) ∧ ∀ k, u3.ownBlock = some k → w.heap.size ≤ k) := by rw [← HPP.out, HPL.out]; exact ⟨owns_nats hown, owns_block hown⟩
      clear hown
      go_wp2_with fail
      go_ret
      exact ⟨⟨_, rfl, HF.out.1, HF.out.2⟩, hB.out⟩
    · have hne : ((d : Int) != 0) = true := by simp; omega
      have HPN : Hid (P = (L ++ [lo d]) ++ pts (d &&& (d - 1)) 10) := by
        have := HP.out
        rw [pts_lo hd h0] at this
        exact this.trans (by simp)
      have hLL : L.length < 10 := by
        have h1 : P.length = L.length + 1 + (pts (d &&& (d - 1)) 10).length := by
          have := congrArg List.length HPN.out
          rw [List.length_append, List.length_append] at this
          exact this
        omega
      have hlt := lo_lt hd h0
      have hT1 : Tab wr := HT.out.step hB.out
      have hsz := hB.out.size
      have hand : bits BinOp.and IntKind.i64 (d : Int) ((d : Int) - 1) = ((d &&& (d - 1) : Nat) : Int) := by
        rw [show ((d : Int) - 1) = ((d - 1 : Nat) : Int) by omega]; exact i64_and d (d - 1) (Nat.lt_trans hd (by decide)) (Nat.lt_of_le_of_lt (Nat.sub_le _ _) (Nat.lt_trans hd (by decide)))
      have hlo : lo d < 10 := (lo_is hd h0).2.2
      go_wp2_with (first | (go_at_call 43; refine (first_any d _ hd h0 hT1).mono ?_; rintro e w' ⟨rfl, rfl⟩) | (at_builtin; refine wpList_append_own _ rfl _ _ 22 rfl w.heap.size 3 i0 (.int .i64 0) 1 8 Tryd.underlying22 hi hz0 hz1 hz2 rfl (by decide) _ _ _ rfl (hown.alloc _) ⟨wr.heap.size, 0, none⟩ 1 1 [.int .i64 (lo d : Nat)] rfl rfl ?c1 ?c2 ?c3 ?c4 ?c5 ?_))
      case c1 =>
        intro j u hj
        match j, hj with
        | 0, hj => simp at hj; subst hj; simp [Addr.add]
      case c2 => intro u hu; simp at hu; subst hu; rfl
      case c3 => unfold maxLen; omega
      case c4 => omega
      case c5 => simp; omega
      intro v' w1 hown' hgrow _
      have HB5 : Hid (Below w.heap.size w w1) := below_append3 hB.out hown hgrow
      have HO5 : Hid (w1.ownsRow w.heap.size 3 1 v' (L ++ [lo d]).length (natVals (L ++ [lo d]))) := by
        rw [natVals_append, List.length_append]; exact hown'
      have hdl : d &&& (d - 1) < 1024 := by omega
      clear hown' hgrow hown hB hT1
      generalize d &&& (d - 1) = d' at *
      go_wp2_with fail
      go_roundw
      case rel => exact ⟨d', L ++ [lo d], hdl, rfl, HPN.out, HO5.out, HB5.out⟩
      case measure => simp [intOf]; omega

theorem Row.setOther {w : World} {a : Option Addr} {m : Nat} {f : Nat → Int} {B u : Nat} {v : Value} (h : Row w a m f) (hb : ∀ b off, a = some ⟨b, off, none⟩ → b ≠ B) : Row (w.setCell ⟨B, u, none⟩ v) a m f := by
  intro k hk
  obtain ⟨b, off, rfl, hc⟩ := h k hk
  refine ⟨b, off, rfl, ?_⟩
  rw [World.cell?_setCell_other _ _ _ _ (fun e => by injection e with e1; exact hb b off rfl e1.symm)]
  exact hc
theorem fresh_ne {v : Value} {a : Option Addr} {m cap K B : Nat} (hv : v = .slice a m cap) (h : ∀ k, v.ownBlock = some k → K ≤ k) (hB : B < K) : ∀ b off, a = some ⟨b, off, none⟩ → b ≠ B := by
  intro b off e
  subst hv
  subst e
  have := h b rfl
  omega
theorem upd_upd (g : Nat → Nat) (s x y : Nat) : upd (upd g s x) s y = upd g s y := by
  funext k
  by_cases e : k = s
  · subst e; rw [upd_same, upd_same]
  · rw [upd_other _ _ _ _ e, upd_other _ _ _ _ e, upd_other _ _ _ _ e]
theorem upd_self (g : Nat → Nat) (s : Nat) : upd g s (g s) = g := by
  funext k
  by_cases e : k = s
  · subst e; rw [upd_same]
  · rw [upd_other _ _ _ _ e]
theorem Own.step {w w' : World} {b n : Nat} {g : Nat → Nat} (h : Own w b n g) (hB : Below w.heap.size w w') : Own w' b n g :=
  fun k hk => h.keep hB (h.lt hk) k hk
end Go.Proofs.YtinblbkglkhjmaaDoor
namespace Go.Proofs.YtinblbkglkhjmaaDoor
open Go.RowKit
set_option maxRecDepth 100000

theorem nanC_any (x : Int) (w : World) : Calls Tryd.prog 67 #[.int .i64 x] w fun e w' => e = .returned (.bool false) ∧ w = w' := by
  have h : (x != x) = false := by simp
  go_enter Tryd.func67, Tryd.ntmps67
  go_wp2
  go_ret
  exact ⟨by simp, rfl⟩
/-- Two numbers, compared. -/
def cmpI (x y : Nat) : Int := if x < y then -1 else if y < x then 1 else 0
theorem cmpC_any (x y : Nat) (w : World) : Calls Tryd.prog 58 #[.int .i64 (x : Nat), .int .i64 (y : Nat)] w fun e w' => e = .returned (.int .i64 (cmpI x y)) ∧ w = w' := by
  rcases Nat.lt_trichotomy x y with h | h | h
  · have e : cmpI x y = -1 := by simp [cmpI, h]
    have h' : (x : Int) < (y : Int) := by omega
    rw [e]
    go_enter Tryd.func58, Tryd.ntmps58
    go_wp2_with (go_at_call 67; refine (nanC_any _ _).mono ?_; rintro e w' ⟨rfl, rfl⟩)
    go_ret
    exact ⟨rfl, rfl⟩
  · subst h
    have e : cmpI x x = 0 := by simp [cmpI]
    have h' : ¬ (x : Int) < (x : Int) := by omega
    rw [e]
    go_enter Tryd.func58, Tryd.ntmps58
    go_wp2_with (go_at_call 67; refine (nanC_any _ _).mono ?_; rintro e w' ⟨rfl, rfl⟩)
    go_ret
    exact ⟨rfl, rfl⟩
  · have e : cmpI x y = 1 := by simp [cmpI, h]; omega
    have h1 : ¬ (x : Int) < (y : Int) := by omega
    have h' : (y : Int) < (x : Int) := by omega
    rw [e]
    go_enter Tryd.func58, Tryd.ntmps58
    go_wp2_with (go_at_call 67; refine (nanC_any _ _).mono ?_; rintro e w' ⟨rfl, rfl⟩)
    go_ret
    exact ⟨rfl, rfl⟩
/-- Two lists from place k on, compared. -/
def cmpF (f g : Nat → Nat) : Nat → Nat → Int
  | 0, _ => 0
  | n + 1, k => if f k = g k then cmpF f g n (k + 1) else cmpI (f k) (g k)
set_option maxHeartbeats 1000000 in
theorem compare_any (q : Nat) (a b : Option Addr) (ca cb : Nat) (f g : Nat → Nat) (w : World) (h40 : q ≤ 40) (ha : Row w a q (fun k => (f k : Nat))) (hb : Row w b q (fun k => (g k : Nat))) :
    Calls Tryd.prog 47 #[.slice a q ca, .slice b q cb] w fun e w' => e = .returned (.int .i64 (cmpF f g q 0)) ∧ w = w' := by
  have HA : Hid (Row w a q (fun k => (f k : Nat))) := ha
  have HB : Hid (Row w b q (fun k => (g k : Nat))) := hb
  clear ha hb
  go_enter Tryd.func47, Tryd.ntmps47
  go_wp2_with fail
  go_loop [11] (fun t => ∃ k : Nat, k ≤ q ∧ t = .int .i64 k ∧ Hid (cmpF f g q 0 = cmpF f g (q - k) k)) (fun t => q - (intOf t).toNat)
  case atStart => exact ⟨0, Nat.zero_le _, rfl, rfl⟩
  case round =>
    obtain ⟨k, hk, rfl, HE⟩ := hrel
    by_cases hlt : k < q
    · have hlt' : (k : Int) < (q : Int) := by omega
      have hge : ¬ ((q : Int) ≤ (k : Int)) := by omega
      obtain ⟨ba, oa, rfl, e1'⟩ := HA.out k hlt
      obtain ⟨bb, ob, rfl, e2'⟩ := HB.out k hlt
      have e1 : w.cell? ⟨ba, oa + k, none⟩ = some (.int .i64 (f k : Nat)) := e1'
      have e2 : w.cell? ⟨bb, ob + k, none⟩ = some (.int .i64 (g k : Nat)) := e2'
      clear e1' e2'
      have HS : Hid (cmpF f g (q - k) k = if f k = g k then cmpF f g (q - (k + 1)) (k + 1) else cmpI (f k) (g k)) := by
        rw [show q - k = (q - (k + 1)) + 1 by omega]; rfl
      generalize hx : f k = x at e1
      generalize hy : g k = y at e2
      rw [hx, hy] at HS
      by_cases e : x = y
      · subst e
        have hcc := cmpC_any x x w
        rw [show cmpI x x = 0 by simp [cmpI]] at hcc
        have HCC := (show Hid _ from hcc)
        clear hcc
        have HS2 : Hid (cmpF f g q 0 = cmpF f g (q - (k + 1)) (k + 1)) := HE.out.trans (HS.out.trans (if_pos rfl))
        clear HS HE hx hy
        go_wp2_with (go_at_call 58; refine Calls.mono HCC.out ?_; rintro e w' ⟨rfl, rfl⟩)
        go_round
        case rel => exact ⟨k + 1, by omega, by go_num, HS2⟩
        case measure => simp [intOf]; omega
      · have hne : (cmpI x y != 0) = true := by
          unfold cmpI
          rcases Nat.lt_or_ge x y with h | h
          · simp [h]
          · simp [show ¬ x < y by omega, show y < x by omega]
        have HS2 : Hid (cmpF f g q 0 = cmpI x y) := HE.out.trans (HS.out.trans (if_neg e))
        clear HS HE hx hy
        have HCC := (show Hid _ from cmpC_any x y w)
        generalize cmpI x y = c at HS2 hne HCC
        go_wp2_with (go_at_call 58; refine Calls.mono HCC.out ?_; rintro e w' ⟨rfl, rfl⟩)
        go_ret
        exact ⟨by rw [HS2.out]; rfl, rfl⟩
    · obtain rfl : k = q := by omega
      have hno : ¬ ((k : Int) < (k : Int)) := by omega
      have HF : Hid (cmpF f g k 0 = 0) := by rw [HE.out, Nat.sub_self]; rfl
      go_wp2_with fail
      go_ret
      exact ⟨by rw [HF.out]; rfl, rfl⟩
end Go.Proofs.YtinblbkglkhjmaaDoor
namespace Go.Proofs.YtinblbkglkhjmaaDoor
open Go.RowKit

theorem lackB : ((List.range 1024).all fun s => (List.range 10).all fun x => !s.testBit x || (decide (lack s (pw x) < 1024) && decide (pc (lack s (pw x)) + 1 = pc s))) = true := by decide +kernel
theorem lack_pc {s x : Nat} (hs : s < 1024) (hx : x < 10) (h : s.testBit x = true) : lack s (pw x) < 1024 ∧ pc (lack s (pw x)) + 1 = pc s := by
  have := List.all_eq_true.1 (List.all_eq_true.1 lackB s (List.mem_range.2 hs)) x (List.mem_range.2 hx)
  simpa [h] using this
theorem pcZ : ((List.range 1024).all fun s => (pc s == 0) == (s == 0)) = true := by decide +kernel
theorem pc_zero {s : Nat} (hs : s < 1024) : pc s = 0 ↔ s = 0 := by
  have := List.all_eq_true.1 pcZ s (List.mem_range.2 hs)
  rw [beq_iff_eq, Bool.eq_iff_iff] at this
  simpa using this
theorem pts_bit {s : Nat} : ∀ n x, x ∈ pts s n → s.testBit x = true
  | 0, x, h => by simp [pts] at h
  | n + 1, x, h => by
    cases hb : s.testBit n
    · rw [pts_no hb] at h; exact pts_bit n x h
    · rw [pts_yes hb, List.mem_append] at h
      rcases h with h | h
      · exact pts_bit n x h
      · simp at h; rw [h]; exact hb
/-- All lists that begin so, and go on with d points of a set. -/
def per : Nat → List Nat → Nat → List (List Nat)
  | 0, p, _ => [p]
  | d + 1, p, s => (pts s 10).flatMap fun x => per d (p ++ [x]) (lack s (pw x))
def perTo (d : Nat) (p : List Nat) (s : Nat) (L : List Nat) : List (List Nat) := L.flatMap fun x => per d (p ++ [x]) (lack s (pw x))
theorem perTo_snoc (d : Nat) (p : List Nat) (s : Nat) (L : List Nat) (x : Nat) : perTo d p s (L ++ [x]) = perTo d p s L ++ per d (p ++ [x]) (lack s (pw x)) := by simp [perTo, List.flatMap_append]
theorem perTo_all (d : Nat) (p : List Nat) (s : Nat) : perTo d p s (pts s 10) = per (d + 1) p s := rfl
theorem per_sub {d : Nat} {p : List Nat} {s x : Nat} (hx : x ∈ pts s 10) {y : List Nat} (hy : y ∈ per d (p ++ [x]) (lack s (pw x))) : y ∈ per (d + 1) p s := by
  rw [per, List.mem_flatMap]; exact ⟨x, hx, hy⟩
theorem take_nth {L : List Nat} {j : Nat} (h : j < L.length) : L.take (j + 1) = L.take j ++ [nth L j] := by
  rw [List.take_add_one]
  congr 1
  unfold nth
  rw [List.getD_eq_getElem?_getD, List.getElem?_eq_getElem h]; rfl
theorem nth_mem' {L : List Nat} {j : Nat} (h : j < L.length) : nth L j ∈ L := by
  unfold nth
  rw [List.getD_eq_getElem?_getD, List.getElem?_eq_getElem h]
  exact List.getElem_mem h
theorem perTo_le (d : Nat) (p : List Nat) (s : Nat) (L : List Nat) (j : Nat) : (perTo d p s (L.take j)).length ≤ (perTo d p s L).length := by
  have h : perTo d p s L = perTo d p s (L.take j) ++ perTo d p s (L.drop j) := by unfold perTo; rw [← List.flatMap_append, List.take_append_drop]
  rw [h, List.length_append]; omega
/-- A list that begins with p and goes on with the points of s, each once. -/
theorem per_len : ∀ (d : Nat) (p : List Nat) (s : Nat) (y : List Nat), y ∈ per d p s → y.length = p.length + d
  | 0, p, _, y, h => by simp [per] at h; simp [h]
  | d + 1, p, s, y, h => by
    rw [per, List.mem_flatMap] at h
    obtain ⟨x, _, hy⟩ := h
    have := per_len d _ _ y hy
    simp at this; omega
end Go.Proofs.YtinblbkglkhjmaaDoor
