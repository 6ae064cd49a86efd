/-
  Rows of RestRows: its beginnings, the reference's SameOrder, what Nth and Split answer as the reference asks. Conditions: as each theorem says.
  What the reference's Ideal and Ideals answer. Conditions: at most ten points.
-/
import Derived.Test.YtglkjeidkjkdaaaDoorNthM
import Derived.Test.YtglkjeidkjkdaaaDoorNth
import Derived.Test.YtglkjeidkjkdaaaDoorIsR
import Derived.Test.YtglkjeidkjkdaaaDoorSerB
import Derived.Test.YtglkjeidkjkdaaaDoorRfV
import Derived.Test.YtglkjeidkjkdaaaDoorFourM
import Derived.Test.YtglkjeidkjkdaaaDoorRrM
namespace Go.Proofs.YtglkjeidkjkdaaaDoor
set_option maxRecDepth 100000
open Go.RowKit

theorem extendBegun_any (w : World) : Calls Tryd.prog 4 #[] w fun e w' => e = .returned (.bool true) ∧ Below w.heap.size w w' := by
  go_enter Tryd.func4, Tryd.ntmps4
  go_wp2_with fail
  refine (eCount_any 3 _ 3 3 (fun _ => 0) _ (by unfold maxLen; omega) ?_).mono ?_
  · intro k hk
    refine ⟨w.heap.size, 0, rfl, ?_⟩
    match k, hk with
    | 0, _ => simp
    | 1, _ => simp
    | 2, _ => simp
  rintro e w1 ⟨⟨c, hc, he⟩, hb1⟩
  obtain rfl := hc.unique zero_chk
  rcases he with ⟨h0, _⟩ | ⟨_, rfl⟩
  · exact absurd rfl h0
  rw [three_rows (nat fun _ => 0) (fun k _ => rfl)]
  have HB1 : Hid (Below w.heap.size w w1) := Below.then ((Below.refl _ _).alloc (Nat.le_refl _) _) hb1
  clear hb1 hc
  go_wp2_with fail
  go_ret
  exact ⟨rfl, HB1.out⟩
theorem sameOrder_any (n n' : Int) (a b : Option Addr) (la ca lb cb : Nat) (f g : Nat → Int) (w : World) (hl : la ≤ maxLen) (hl2 : lb ≤ maxLen) (ha : Row w a la f) (hb : Row w b lb g) :
    Calls Tryd.prog 15 #[.agg #[.int .i64 n, .slice a la ca], .agg #[.int .i64 n', .slice b lb cb]] w fun e w' => Ans e (SameOrders n n' la lb f g) ∧ Below w.heap.size w w' := by
  have HB2 : Hid (Below w.heap.size w ((w.alloc (.cells #[.int .i64 n, .slice a la ca] 24)).alloc (.cells #[.int .i64 n', .slice b lb cb] 24))) := ((Below.refl _ _).alloc (Nat.le_refl _) _).alloc (by simp) _
  have HA : Hid (Row w a la f) := ha
  have HB : Hid (Row w b lb g) := hb
  clear ha hb
  by_cases hn : n = n'
  · subst hn
    go_enter Tryd.func15, Tryd.ntmps15
    go_wp2_with fail
    refine (same_any a b la ca lb cb f g _ hl hl2 (HA.out.below HB2.out) (HB.out.below HB2.out)).mono ?_
    rintro e w1 ⟨⟨b, rfl, hb⟩, hB⟩
    have HBE : Hid (Below w.heap.size w w1) := Below.then HB2.out hB
    have HY : Hid (b = true ↔ SameRows la lb f g) := hb
    clear hB hb HB2
    go_wp2_with fail
    go_ret
    exact ⟨⟨_, rfl, HY.out.trans ⟨fun h => ⟨rfl, h⟩, fun h => h.2⟩⟩, HBE.out⟩
  · have hd : (n == n') = false := by simpa using hn
    have HN : Hid (¬ n = n') := hn
    clear hn
    go_enter Tryd.func15, Tryd.ntmps15
    go_wp2_with fail
    go_ret
    exact ⟨Ans.no (fun h => HN.out h.1), HB2.out⟩
/-- The relation of an order, no point below itself. -/
def lsx (g : Nat → Nat) (a b : Nat) : Bool := lss g a b && !(a == b)
theorem row_lss {w : World} {ar : Option Addr} {n : Nat} {f : Nat → Int} (hr : Rng n f) (hg : Sm n n (nat f)) (ho : Ord n (nat f)) (h : Row w ar n (fun y => (setBy (fun x => lsx (nat f) x y) n : Nat))) : Row w ar n f := fun p hp => by
  obtain ⟨b, off, e, q⟩ := h p hp
  refine ⟨b, off, e, q.trans ?_⟩
  have e1 : setBy (fun x => lsx (nat f) x p) n = nat f p := by
    refine eq_of_bits (setBy_lt _ n) (hg p hp) fun i hi => ?_
    rw [setBy_bit]
    by_cases e : i = p
    · subst e; rw [(ho i hi).1]; simp [lsx]
    · simp [hi, lsx, lss, e]
  show some (Value.int .i64 ((setBy (fun x => lsx (nat f) x p) n : Nat) : Int)) = _
  rw [e1]
  have := hr p hp
  unfold nat
  congr 2
  omega
theorem sB_nS (u : Nat → Nat) (n k : Nat) : ∀ t, sB (nat (fun j => (nP u n k j : Nat))) t = nS u n k t
  | 0 => rfl
  | t + 1 => by rw [sB_succ, sB_nS u n k t, nS_succ]; rfl
theorem nth_isRow {u : Nat → Nat} {n k : Nat} (hk : k < ways u n 0) : IsRw u n n (fun j => (nP u n k j : Nat)) :=
  ⟨rfl, fun j hj => by
    have pt := (nok hk j (Nat.le_of_lt hj)).pt hj
    refine ⟨Int.natCast_nonneg _, by show ((nP u n k j : Nat) : Int) < (n : Nat); have := pt.lt; omega, ?_⟩
    rw [sB_nS]
    exact pt.may⟩
theorem ok_lsx {g : Nat → Nat} {n : Nat} {T : TT} (ho : Ord n g) (h : Trm g n (pw n - 1) T) : Ok (lsx g) T := h.ok.congr (fun p q hp hq => by
  by_cases e : p = q
  · subst e
    rw [h.st, full_bit] at hp
    have hpl : p < n := by simpa using hp
    have := (ho p hpl).1
    simp [lsx, lss, this]
  · simp [lsx, e])

end Go.Proofs.YtglkjeidkjkdaaaDoor
namespace Go.Proofs.YtglkjeidkjkdaaaDoor
set_option maxRecDepth 100000
open Go.RowKit

theorem ideal_any (a : Option Addr) (len cap : Nat) (g : Nat → Nat) (s : Nat) (w : World) (h10 : len ≤ 10) (hs : s < 1024) (hg : ∀ k, k < len → g k < 1024) (hr : Row w a len (fun k => (g k : Nat))) :
    Calls Tryd.prog 41 #[.agg #[.int .i64 (len : Int), .slice a len cap], .int .i64 s] w fun e w' => e = .returned (.bool (idlTo g s len)) ∧ Below w.heap.size w w' := by
  have K0 : Held (w.alloc (.cells #[.int .i64 (len : Int), .slice a len cap] 24)) w.heap.size len a len cap (fun k => (g k : Nat)) := Held.box hr
  have HB0 : Hid (Below w.heap.size w (w.alloc (.cells #[.int .i64 (len : Int), .slice a len cap] 24))) := (Below.refl _ _).alloc (Nat.le_refl _) _
  have HG : Hid (∀ k, k < len → g k < 1024) := hg
  have HR : Hid (Row w a len (fun k => (g k : Nat))) := hr
  clear hg hr K0
  obtain ⟨Q, HQ⟩ : ∃ Q, Hid (Q = idlTo g s len) := ⟨_, rfl⟩
  rw [← HQ.out]
  go_enter Tryd.func41, Tryd.ntmps41
  go_wp2
  go_loop [5] (fun t => ∃ k : Nat, k ≤ len ∧ t = .int .i64 k ∧ Hid (∀ p, p < k → s.testBit p = true → lack (g p) s = 0)) (fun t => len - (intOf t).toNat)
  case atStart => exact ⟨0, Nat.zero_le _, rfl, upto_zero⟩
  case round =>
    obtain ⟨k, hk, rfl, hok⟩ := hrel
    by_cases hlt : k < len
    · obtain ⟨b, off, rfl, hc⟩ := HR.out.at hlt
      have hck := hc k hlt
      have hbk : b < w.heap.size := World.block_lt_of_cell? _ _ hck
      have hgk := HG.out k hlt
      clear hc
      have hlt' : (k : Int) < (len : Int) := by omega
      cases hb : s.testBit k
      · go_wp2_with (go_at_call 61; refine (in_any _ _ _ (by omega) (by omega)).mono ?_; rintro e w' ⟨rfl, rfl⟩)
        go_round
        case rel => exact ⟨k + 1, by omega, by go_num, upto_succ hok.out (fun h => by rw [hb] at h; cases h)⟩
        case measure => simp [intOf]; omega
      · by_cases hz : lack (g k) s = 0
        · have hz' : (lack (g k) s == 0) = true := by simp [hz]
          have HZ : Hid (lack (g k) s = 0) := hz
          have HIV : Hid (SubI (g k) s) := (sub_iff hgk hs).1 HZ.out
          clear hz
          go_wp2_with (first | (go_at_call 61; refine (in_any _ _ _ (by omega) (by omega)).mono ?_; rintro e w' ⟨rfl, rfl⟩) | (go_at_call 62; refine (inside_any (g k) s true _ hgk hs ⟨fun _ => HIV.out, fun _ => rfl⟩).mono ?_; rintro e w' ⟨rfl, rfl⟩))
          go_round
          case rel => exact ⟨k + 1, by omega, by go_num, upto_succ hok.out (fun _ => HZ.out)⟩
          case measure => simp [intOf]; omega
        · have hz' : (lack (g k) s == 0) = false := by simpa using hz
          have HIV : Hid (¬ SubI (g k) s) := fun h => absurd ((sub_iff hgk hs).2 h) hz
          have HN : Hid (Q = false) := HQ.out.trans (idlTo_false hlt hb hz)
          clear hz
          go_wp2_with (first | (go_at_call 61; refine (in_any _ _ _ (by omega) (by omega)).mono ?_; rintro e w' ⟨rfl, rfl⟩) | (go_at_call 62; refine (inside_any (g k) s false _ hgk hs ⟨fun h => Bool.noConfusion h, fun h => absurd h HIV.out⟩).mono ?_; rintro e w' ⟨rfl, rfl⟩))
          go_ret
          exact ⟨ret_bool HN.out.symm, HB0.out⟩
    · have hkn : k = len := by omega
      subst hkn
      have HN : Hid (Q = true) := HQ.out.trans ((idlTo_iff g s k).2 hok.out)
      go_wp2
      go_ret
      exact ⟨ret_bool HN.out.symm, HB0.out⟩
set_option maxHeartbeats 2000000 in
theorem refIdeals_any (a : Option Addr) (len cap : Nat) (g : Nat → Nat) (w : World) (h10 : len ≤ 10) (hg : ∀ k, k < len → g k < 1024) (hr : Row w a len (fun k => (g k : Nat))) :
    Calls Tryd.prog 18 #[.agg #[.int .i64 (len : Int), .slice a len cap]] w fun e w' => (∃ v, e = .returned v ∧ NSl w' v (idls g len)) ∧ Below w.heap.size w w' := by
  have HG : Hid (∀ k, k < len → g k < 1024) := hg
  have HR : Hid (Row w a len (fun k => (g k : Nat))) := hr
  clear hr hg
  obtain ⟨I, HI⟩ : ∃ I, Hid (I = fun s => idlTo g s len) := ⟨_, rfl⟩
  have HIA : Hid (∀ s, idlTo g s len = I s) := fun s => by rw [HI.out]
  have HCV : Hid (idls g len = fil I (pw len)) := by rw [HI.out]; rfl
  have hpw := pw_le len h10
  obtain ⟨i0, hi, hz0, hz1, hz2⟩ := info_parts Tryd.info3
  go_enter Tryd.func18, Tryd.ntmps18
  go_wp2
  go_loopw [3, 4] (fun v i wx => ∃ s : Nat, s ≤ pw len ∧ i = .int .i64 s ∧ wx.ownsRow (w.heap.size + 1) 3 1 v (fil I s).length (natVals (fil I s)) ∧ Hid (Below (w.heap.size + 1) (w.alloc (.cells #[.int .i64 (len : Int), .slice a len cap] 24)) wx)) (fun _ i _ => pw len - (intOf i).toNat)
  case atStart => exact ⟨0, Nat.zero_le _, rfl, World.ownsRow_nil _ _ _ _, Below.refl _ _⟩
  case round =>
    obtain ⟨s, hs, rfl, hown, hB⟩ := hrel
    have hH := Held.kept HR.out hB.out
    have c0 := hH.c0
    have c1 := hH.c1
    by_cases hlt : s < pw len
    · rcases (Bool.eq_false_or_eq_true (I s)).symm with hb | hb
      · have HE : Hid (fil I (s + 1) = fil I s) := fil_no hb
        go_wp2_with (go_at_call 33; refine (bit_any len _ (by omega)).mono ?_; rintro e w' ⟨rfl, rfl⟩)
        refine (ideal_any a len cap g s _ h10 (by omega) HG.out hH.row).mono ?_
        rintro e w1 ⟨rfl, hb1⟩
        rw [HIA.out s, hb]
        have HB2 : Hid (Below (w.heap.size + 1) (w.alloc (.cells #[.int .i64 (len : Int), .slice a len cap] 24)) w1) := below_call hB.out hb1
        have hown2 := owns_below hown hb1
        clear hown hb1 hH c0 c1 hB
        go_wp2_with fail
        go_roundw
        case rel => exact ⟨s + 1, by omega, by go_num, by rw [HE.out]; exact hown2, HB2.out⟩
        case measure => simp [intOf]; omega
      · have HE : Hid (fil I (s + 1) = fil I s ++ [s]) := fil_yes hb
        have hlen := fil_len I s
        go_wp2_with (go_at_call 33; refine (bit_any len _ (by omega)).mono ?_; rintro e w' ⟨rfl, rfl⟩)
        refine (ideal_any a len cap g s _ h10 (by omega) HG.out hH.row).mono ?_
        rintro e w1 ⟨rfl, hb1⟩
        rw [HIA.out s, hb]
        have HB2 : Hid (Below (w.heap.size + 1) (w.alloc (.cells #[.int .i64 (len : Int), .slice a len cap] 24)) w1) := below_call hB.out hb1
        have hown2 := owns_below hown hb1
        have hsz : w.heap.size + 1 ≤ w1.heap.size := by have := HB2.out.size; simpa using this
        clear hown hb1 hH c0 c1 hB
        obtain ⟨L, HL⟩ : ∃ L, Hid (L = fil I s) := ⟨_, rfl⟩
        rw [← HL.out] at hown2 hlen
        go_wp2_with (at_builtin; refine wpList_append_own _ rfl _ _ 22 rfl (w.heap.size + 1) 3 i0 (.int .i64 0) 1 8 Tryd.underlying22 hi hz0 hz1 hz2 rfl (by decide) _ _ _ rfl (hown2.alloc _) ⟨w1.heap.size, 0, none⟩ 1 1 [.int .i64 (s : Nat)] rfl rfl ?c1 ?c2 ?c3 ?c4 ?c5 ?_)
        case c1 =>
          intro j u hj
          match j, hj with
          | 0, hj => simp at hj; subst hj; simp [Addr.add]
        case c2 => intro u hu; simp at hu; subst hu; rfl
        case c3 => unfold maxLen; omega
        case c4 => omega
        case c5 => simp; omega
        intro v' w2 hown' hgrow _
        have HB3 : Hid (Below (w.heap.size + 1) (w.alloc (.cells #[.int .i64 (len : Int), .slice a len cap] 24)) w2) := below_append HB2.out hown2 hgrow
        have HO3 : Hid (w2.ownsRow (w.heap.size + 1) 3 1 v' (fil I (s + 1)).length (natVals (fil I (s + 1)))) := by
          rw [HE.out, ← HL.out, natVals_append, List.length_append]; exact hown'
        clear hown' hgrow hown2 HB2 hlen hsz HL
        go_wp2_with fail
        go_roundw
        case rel => exact ⟨s + 1, by omega, by go_num, HO3.out, HB3.out⟩
        case measure => simp [intOf]; omega
    · have hsn : s = pw len := by omega
      have HF : Hid (NSl wr u3 (idls g len)) := by rw [HCV.out, ← hsn]; exact owns_nats hown
      have hle : ((pw len : Nat) : Int) ≤ (s : Int) := by omega
      clear hown hH hsn hlt
      go_wp2_with (go_at_call 33; refine (bit_any len _ (by omega)).mono ?_; rintro e w' ⟨rfl, rfl⟩)
      go_ret
      exact ⟨⟨_, rfl, HF.out⟩, out_below hB.out⟩

end Go.Proofs.YtglkjeidkjkdaaaDoor
