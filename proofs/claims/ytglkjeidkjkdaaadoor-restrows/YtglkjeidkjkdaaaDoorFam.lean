/-
  Rows of truths that a call made for itself; what convex.newMarks, marks.hasStep and marks.list answer. Conditions: as each theorem says.
  What convex.Check and the reference's CheckFamily answer, whatever they are handed. No condition but that a slice reads as a slice of numbers.
-/
import Derived.Test.YtglkjeidkjkdaaaDoorCoM
import Derived.Test.YtglkjeidkjkdaaaDoorPoints
import Derived.BigQuiet
namespace Go.Proofs.YtglkjeidkjkdaaaDoor
set_option maxRecDepth 100000
open Go.RowKit

theorem Tryd.info4 : (Tryd.prog.info? 4).map (fun i => (i.zero, i.size, i.bytes)) = some (some (.bool false), 1, 1) := by kernel_rfl
/-- A slice of the call's own at the head of block b: the truths M. -/
def BOwn (w : World) (b n : Nat) (M : Nat → Bool) : Prop := ∀ k, k < n → w.cell? ⟨b, k, none⟩ = some (.bool (M k)) ∧ w.frozen? ⟨b, k, none⟩ = false
theorem BOwn.set {w : World} {b n : Nat} {M : Nat → Bool} (h : BOwn w b n M) (u : Nat) : BOwn (w.setCell ⟨b, u, none⟩ (.bool true)) b n (updB M u) := by
  intro k hk
  refine ⟨?_, by rw [World.frozen?_setCell]; exact (h k hk).2⟩
  by_cases e : k = u
  · subst e; rw [updB_same]; exact World.cell?_setCell_same _ _ _ (h k hk).1
  · rw [updB_other _ e, World.cell?_setCell_other _ _ _ _ (fun e2 => e (by injection e2 with _ h2; exact h2.symm))]; exact (h k hk).1
theorem BOwn.lt {w : World} {b n : Nat} {M : Nat → Bool} (h : BOwn w b n M) {k : Nat} (hk : k < n) : b < w.heap.size := World.block_lt_of_cell? _ _ (h k hk).1
theorem BOwn.step {w w' : World} {b n : Nat} {M : Nat → Bool} (h : BOwn w b n M) (hB : Below w.heap.size w w') : BOwn w' b n M :=
  fun k hk => ⟨(hB.cell (p := ⟨b, k, none⟩) (h.lt hk)).trans (h k hk).1, (hB.frozen (p := ⟨b, k, none⟩) (h.lt hk)).trans (h k hk).2⟩
theorem bools_made {w : World} {base b m : Nat} (h : w.ownsRow base 4 1 (.slice (some ⟨b, 0, none⟩) m m) m (madeCells (Value.bool false).cells (m * 1)).toList) : BOwn w b m (fun _ => false) := fun k hk => by
  refine ⟨?_, h.frozenAt k⟩
  rw [h.cellAt k (by omega)]
  have e : (Value.bool false).cells = #[Value.bool false] := rfl
  rw [e, toList_madeCells_one]
  simp [hk]
theorem below_set {w0 w : World} {b u : Nat} {v : Value} (h : Below w0.heap.size w0 w) (hb : w0.heap.size ≤ b) : Below w0.heap.size w0 (w.setCell ⟨b, u, none⟩ v) := h.setCell (p := ⟨b, u, none⟩) hb _

theorem newMarks_any (n : Nat) (w : World) (h10 : n ≤ 10) :
    Calls Tryd.prog 81 #[.int .i64 (n : Nat)] w fun e w' => e = .returned (.slice (some ⟨w.heap.size, 0, none⟩) (pw n) (pw n)) ∧ BOwn w' w.heap.size (pw n) (fun _ => false) ∧ Below w.heap.size w w' := by
  obtain ⟨i0, hi, hz0, hz1, hz2⟩ := info_parts Tryd.info4
  have h := wrap_pow n (by omega)
  have h2 := pw_le n h10
  go_enter Tryd.func81, Tryd.ntmps81
  go_wp2_with (at_make; refine wpList_make_full _ rfl _ _ 100 rfl w.heap.size 4 i0 (.bool false) 1 Tryd.underlying100 hi hz0 hz1 .i64 .i64 _ _ (pw n) rfl rfl h h (by rw [hz2]; omega) (by unfold maxLen; omega) (Nat.le_refl _) ?_; intro w2 hown2 hgrow2)
  have HB2 : Hid (Below w.heap.size w w2) := (Below.refl _ _).grown hgrow2 (Nat.le_refl _) (by simp)
  have HO2 : Hid (BOwn w2 w.heap.size (pw n) (fun _ => false)) := bools_made hown2
  clear hown2 hgrow2
  go_wp2
  go_ret
  exact ⟨rfl, HO2.out, HB2.out⟩
theorem cpts_mem (s : Nat) : ∀ k i, i ∈ pts s k ↔ i < k ∧ s.testBit i = true
  | 0, i => by simp [pts]
  | k + 1, i => by
    cases hb : s.testBit k
    · rw [pts_no hb, cpts_mem s k i]
      constructor
      · rintro ⟨h1, h2⟩; exact ⟨by omega, h2⟩
      · rintro ⟨h1, h2⟩
        refine ⟨?_, h2⟩
        by_cases e : i = k
        · subst e; rw [hb] at h2; cases h2
        · omega
    · rw [pts_yes hb, List.mem_append, cpts_mem s k i, List.mem_singleton]
      constructor
      · rintro (⟨h1, h2⟩ | rfl)
        · exact ⟨by omega, h2⟩
        · exact ⟨by omega, hb⟩
      · rintro ⟨h1, h2⟩
        by_cases e : i = k
        · exact .inr e
        · exact .inl ⟨by omega, h2⟩
/-- The points of a set, one by one. -/
theorem pts_all {s k : Nat} (hk : k < (pts s 10).length) : nth (pts s 10) k < 10 ∧ s.testBit (nth (pts s 10) k) = true := by
  have h : nth (pts s 10) k ∈ pts s 10 := by
    have e : nth (pts s 10) k = (pts s 10)[k] := by simp [nth, hk]
    rw [e]; exact List.getElem_mem hk
  exact (cpts_mem s 10 _).1 h
theorem pts_at {s i : Nat} (hi : i < 10) (hb : s.testBit i = true) : ∃ k, k < (pts s 10).length ∧ nth (pts s 10) k = i := by
  obtain ⟨k, hk, e⟩ := List.getElem_of_mem ((cpts_mem s 10 i).2 ⟨hi, hb⟩)
  exact ⟨k, hk, by simp [nth, hk, e]⟩

theorem and_not_pw {s p : Nat} (hs : s < 1024) (hp : p < 10) (h : s.testBit p = true) : bits .andNot .i64 (s : Int) (wrap64 (2 ^ p)) = ((s - pw p : Nat) : Int) := by
  have h1 : pw p < 1024 := Nat.lt_of_lt_of_le (Nat.pow_lt_pow_right (by decide) hp) (Nat.le_refl (2 ^ 10))
  rw [wrap_pow p (by omega), i64_andNot s (pw p) (by omega) (by omega), lack_pw hs hp h]

set_option maxHeartbeats 1000000 in
theorem hasStep_any (n b s : Nat) (M : Nat → Bool) (w : World) (h10 : n ≤ 10) (hs : s < pw n) (hM : BOwn w b (pw n) M) (hT : Tab w) :
    Calls Tryd.prog 82 #[.slice (some ⟨b, 0, none⟩) (pw n) (pw n), .int .i64 (s : Nat)] w fun e w' => e = .returned (.bool (stp M s 10)) ∧ Below w.heap.size w w' := by
  have hpn := pw_le n h10
  have hs1 : s < 1024 := by omega
  have HM : Hid (BOwn w b (pw n) M) := hM
  obtain ⟨V, HV⟩ : ∃ V, Hid (V = stp M s 10) := ⟨_, rfl⟩
  rw [← HV.out]
  have HMEM := (show Hid (Calls Tryd.prog 47 #[.int .i64 (s : Nat)] w _) from members_any s w hs1 hT)
  clear hM hT
  go_enter Tryd.func82, Tryd.ntmps82
  go_wp2_with fail
  refine HMEM.out.mono ?_
  rintro e w1 ⟨⟨v, rfl, hv⟩, hb1⟩
  obtain ⟨a1, cap1, rfl, hr1⟩ := hv
  have HB1 : Hid (Below w.heap.size w w1) := hb1
  have HM1 : Hid (BOwn w1 b (pw n) M) := HM.out.step hb1
  have HR1 : Hid (Row w1 a1 (pts s 10).length (fun k => (nth (pts s 10) k : Nat))) := hr1
  have hpl := pts_len s 10
  have HPA : Hid (∀ k, k < (pts s 10).length → nth (pts s 10) k < 10 ∧ s.testBit (nth (pts s 10) k) = true) := fun k hk => pts_all hk
  have HPT : Hid (∀ i, i < 10 → s.testBit i = true → ∃ k, k < (pts s 10).length ∧ nth (pts s 10) k = i) := fun i hi hb => pts_at hi hb
  clear hb1 hr1 HMEM HM
  generalize pts s 10 = P at *
  obtain ⟨m, HQ⟩ : ∃ m, Hid (m = P.length) := ⟨_, rfl⟩
  rw [← HQ.out] at hpl HR1 HPA HPT ⊢
  go_wp2_with fail
  go_loop [10] (fun i => ∃ k : Nat, k ≤ m ∧ i = .int .i64 k ∧ Hid (∀ j, j < k → M (s - pw (nth P j)) = false)) (fun i => m - (intOf i).toNat)
  case atStart => exact ⟨0, Nat.zero_le _, rfl, upto_zero⟩
  case round =>
    obtain ⟨k, hk, rfl, hok⟩ := hrel
    by_cases hlt : k < m
    · obtain ⟨b2, off, rfl, hc⟩ := HR1.out k hlt
      have hlt' : (k : Int) < (m : Int) := by omega
      obtain ⟨hp, hb⟩ := HPA.out k hlt
      have hc2 : w1.cell? ⟨b2, off + k, none⟩ = some (.int .i64 (nth P k : Nat)) := hc
      clear hc
      have HQ2 : Hid (nth P k < 10 ∧ s.testBit (nth P k) = true) := ⟨hp, hb⟩
      generalize hpp : nth P k = p at *
      have HPE : Hid (nth P k = p) := hpp
      have han := and_not_pw hs1 hp hb
      have hsub := sub_lt' hs1 hp hb
      obtain ⟨d, hd⟩ : ∃ d, s - pw p = d := ⟨_, rfl⟩
      rw [hd] at han hsub
      have hdn : d < pw n := by omega
      have hdi : (d : Int) < ((pw n : Nat) : Int) := by omega
      have hcd := (HM1.out d hdn).1
      have HD : Hid (s - pw p = d) := hd
      clear hpp hd
      cases hmd : M d
      · rw [hmd] at hcd
        have HN : Hid (∀ j, j < k + 1 → M (s - pw (nth P j)) = false) := upto_succ hok.out (by rw [HPE.out, HD.out]; exact hmd)
        clear hok
        go_wp2_with (rw [han])
        go_round
        case rel => exact ⟨k + 1, by omega, by go_num, HN⟩
        case measure => simp [intOf]; omega
      · rw [hmd] at hcd
        have HE : Hid (V = true) := by rw [Hid, HV.out]; exact stp_iff.2 ⟨p, hp, hb, by rw [HD.out]; exact hmd⟩
        clear hok
        go_wp2_with (rw [han])
        go_ret
        exact ⟨by rw [HE.out]; rfl, HB1.out⟩
    · obtain rfl : k = m := by omega
      have HE : Hid (V = false) := by
        rw [Hid, HV.out]
        cases e : stp M s 10
        · rfl
        · obtain ⟨p, h1, h2, h3⟩ := stp_iff.1 e
          obtain ⟨j, hj, e2⟩ := HPT.out p h1 h2
          have := hok.out j hj
          rw [e2, h3] at this; cases this
      clear hok
      go_wp2_with fail
      go_ret
      exact ⟨by rw [HE.out]; rfl, HB1.out⟩
end Go.Proofs.YtglkjeidkjkdaaaDoor
namespace Go.Proofs.YtglkjeidkjkdaaaDoor
set_option maxRecDepth 100000
open Go.RowKit

/-- Are all sets sets of n points? -/
def FIn (n len : Nat) (f : Nat → Int) : Prop := ∀ k, k < len → 0 ≤ f k ∧ f k < (pw n : Nat)
/-- Do they rise? -/
def FRis (len : Nat) (f : Nat → Int) : Prop := ∀ k, k < len → 0 < k → f (k - 1) < f k
/-- What Check must answer. -/
def FChk (N : Int) (len : Nat) (f : Nat → Int) (c : Int) : Prop :=
  (c = 2 ∧ ¬ (0 ≤ N ∧ N ≤ 10)) ∨
  ∃ n : Nat, N = n ∧ n ≤ 10 ∧ ((c = 3 ∧ ¬ FIn n len f) ∨ (FIn n len f ∧ ((c = 6 ∧ ¬ FRis len f) ∨ (c = 0 ∧ FRis len f))))
theorem FChk.unique {N : Int} {len : Nat} {f : Nat → Int} {c c' : Int} (h : FChk N len f c) (h' : FChk N len f c') : c = c' := by
  rcases h with ⟨rfl, h⟩ | ⟨n, rfl, hn, h⟩
  · rcases h' with ⟨rfl, _⟩ | ⟨n, rfl, hn, _⟩
    · rfl
    · exact absurd ⟨by omega, by omega⟩ h
  · rcases h' with ⟨rfl, h'⟩ | ⟨n', e, _, h'⟩
    · exact absurd ⟨by omega, by omega⟩ h'
    · obtain rfl : n' = n := by omega
      rcases h with ⟨rfl, h⟩ | ⟨hr, ⟨rfl, h⟩ | ⟨rfl, h⟩⟩ <;> rcases h' with ⟨rfl, h'⟩ | ⟨hr', ⟨rfl, h'⟩ | ⟨rfl, h'⟩⟩ <;> first | rfl | (exact absurd h h') | (exact absurd h' h) | (exact absurd hr h') | (exact absurd hr' h)
theorem FChk.good {N : Int} {len : Nat} {f : Nat → Int} (h : FChk N len f 0) : ∃ n : Nat, N = n ∧ n ≤ 10 ∧ FIn n len f ∧ FRis len f := by
  rcases h with ⟨h, _⟩ | ⟨n, rfl, hn, ⟨h, _⟩ | ⟨hr, ⟨h, _⟩ | ⟨_, h⟩⟩⟩
  · cases h
  · cases h
  · cases h
  · exact ⟨n, rfl, hn, hr, h⟩
theorem FIn.small {n len : Nat} {f : Nat → Int} (h : FIn n len f) : ∀ k, k < len → nat f k < pw n := fun k hk => by
  have := h k hk; unfold nat; omega
theorem FIn.row {n len : Nat} {f : Nat → Int} {w : World} {a : Option Addr} (h : FIn n len f) (hr : Row w a len f) : Row w a len (fun k => (nat f k : Nat)) := fun k hk => by
  obtain ⟨b, off, e, hc⟩ := hr k hk
  have := h k hk
  have e2 : f k = (nat f k : Nat) := by unfold nat; omega
  exact ⟨b, off, e, by rw [hc, e2]⟩
theorem Fam.box {w : World} {n : Int} {a : Option Addr} {len cap : Nat} {f : Nat → Int} (h : Row w a len f) : Held (w.alloc (.cells #[.int .i64 n, .slice a len cap] 36)) w.heap.size n a len cap f :=
  ⟨by simp, by simp, h.below ((Below.refl _ _).alloc (Nat.le_refl _) _)⟩

set_option maxHeartbeats 1000000 in
theorem checkRising_any (N : Int) (a : Option Addr) (len cap : Nat) (f : Nat → Int) (w : World) (hl : len ≤ maxLen) (hr : Row w a len f) :
    Calls Tryd.prog 80 #[.slice a len cap, .int .i64 N] w fun e w' => (∃ c : Int, e = .returned (.int .i64 c) ∧ FChk N len f c) ∧ Below w.heap.size w w' := by
  unfold maxLen at hl
  have HB0 : Hid (Below w.heap.size w w) := Below.refl _ _
  have HR : Hid (Row w a len f) := hr
  clear hr
  by_cases hn : 0 ≤ N ∧ N ≤ 10
  · have hd : cnt N = true := by simpa [cnt] using hn
    obtain ⟨n, rfl⟩ := Int.eq_ofNat_of_zero_le hn.1
    have hn10 : n ≤ 10 := by omega
    clear hn
    go_enter Tryd.func80, Tryd.ntmps80
    go_wp2_with (go_at_call 48; refine (isCount_any _ _).mono ?_; rintro e w' ⟨rfl, rfl⟩)
    go_loop [13] (fun i => ∃ k : Nat, k ≤ len ∧ i = .int .i64 k ∧ Hid (∀ j, j < k → 0 ≤ f j ∧ f j < (pw n : Nat))) (fun i => len - (intOf i).toNat)
    case atStart => exact ⟨0, Nat.zero_le _, rfl, upto_zero⟩
    case round =>
      obtain ⟨k, hk, rfl, hok⟩ := hrel
      by_cases hlt : k < len
      · obtain ⟨b, off, rfl, c0⟩ := HR.out k hlt
        have hlt' : (k : Int) < (len : Int) := by omega
        rcases (Bool.eq_false_or_eq_true (sts (f k) n)).symm with hs | hs
        · have HS : Hid (¬ (0 ≤ f k ∧ f k < (pw n : Nat))) := by simpa [sts, Hid] using hs
          go_wp2_with fail
          refine (isSet_any (f k) n _ hn10).mono ?_
          rintro e w' ⟨rfl, rfl⟩
          rw [hs]
          go_wp2_with fail
          go_ret
          exact ⟨⟨_, rfl, .inr ⟨n, rfl, hn10, .inl ⟨rfl, fun h => HS.out (h k hlt)⟩⟩⟩, HB0.out⟩
        · have HS : Hid (0 ≤ f k ∧ f k < (pw n : Nat)) := by simpa [sts, Hid] using hs
          go_wp2_with fail
          refine (isSet_any (f k) n _ hn10).mono ?_
          rintro e w' ⟨rfl, rfl⟩
          rw [hs]
          go_wp2_with fail
          go_round
          case rel => exact ⟨k + 1, by omega, by go_num, upto_succ hok.out HS.out⟩
          case measure => simp [intOf]; omega
      · obtain rfl : k = len := by omega
        have HIN : Hid (FIn n k f) := hok.out
        clear hok
        go_wp2_with fail
        go_loopw [24] (fun i wx => ∃ j d : Nat, j ≤ k ∧ i = .int .i64 j ∧ Hid (∀ j', j' < j → 0 < j' → f (j' - 1) < f j') ∧ wx = w.drewN d) (fun i _ => k - (intOf i).toNat)
        case atStart => exact ⟨0, 0, Nat.zero_le _, rfl, upto_zero, rfl⟩
        case round =>
          obtain ⟨j, d, hj, rfl, hok, rfl⟩ := hrel
          by_cases hlt2 : j < k
          · obtain ⟨b, off, rfl, c0⟩ := HR.out j hlt2
            have hj' : (j : Int) < (k : Int) := by omega
            by_cases h0 : j = 0
            · subst h0
              have HS : Hid (∀ j', j' < 0 + 1 → 0 < j' → f (j' - 1) < f j') := fun j' h1 h2 => by omega
              go_wp2_with fail
              go_big_quiet (fail)
              go_wp2_with fail
              go_roundw
              case rel => exact ⟨0 + 1, _, by omega, by go_num, HS, rfl⟩
              case measure => simp [intOf]; omega
            · have hj0 : (0 : Int) < (j : Int) := by omega
              obtain ⟨b2, off2, e2, c1⟩ := HR.out (j - 1) (by omega)
              simp at e2
              obtain ⟨rfl, rfl⟩ := e2
              obtain ⟨m, rfl⟩ : ∃ m, j = m + 1 := ⟨j - 1, by omega⟩
              rw [Nat.add_sub_cancel] at c1
              have c1' : w.cell? ⟨b, off + m, none⟩ = some (.int .i64 (f m)) := c1
              have c0' : w.cell? ⟨b, off + (m + 1), none⟩ = some (.int .i64 (f (m + 1))) := c0
              have hm1 : ((m + 1 : Nat) : Int) - 1 = (m : Int) := by omega
              have hm2 : (m : Int) < (k : Int) := by omega
              by_cases hr : f m < f (m + 1)
              · have HS : Hid (∀ j', j' < m + 1 + 1 → 0 < j' → f (j' - 1) < f j') := upto_succ hok.out (fun _ => hr)
                have hr2 : ¬ f (m + 1) ≤ f m := by omega
                clear hok c0 c1
                go_wp2_with fail
                go_big_quiet (fail)
                go_wp2_with fail
                go_roundw
                case rel => exact ⟨m + 1 + 1, _, by omega, by go_num, HS, rfl⟩
                case measure => simp [intOf]; omega
              · have hr2 : f (m + 1) ≤ f m := by omega
                have HS : Hid (¬ FRis k f) := fun h => hr (h (m + 1) hlt2 (by omega))
                clear hok c0 c1
                go_wp2_with fail
                go_big_quiet (fail)
                go_wp2_with fail
                go_ret
                exact ⟨⟨_, rfl, .inr ⟨n, rfl, hn10, .inr ⟨HIN.out, .inl ⟨rfl, HS.out⟩⟩⟩⟩, below_drewN (below_drewN HB0.out _) _⟩
          · obtain rfl : j = k := by omega
            have HS : Hid (FRis j f) := hok.out
            clear hok
            go_wp2_with fail
            go_ret
            exact ⟨⟨_, rfl, .inr ⟨n, rfl, hn10, .inr ⟨HIN.out, .inr ⟨rfl, HS.out⟩⟩⟩⟩, below_drewN HB0.out _⟩
  · have hd : cnt N = false := by simpa [cnt] using hn
    have HN : Hid (¬ (0 ≤ N ∧ N ≤ 10)) := hn
    clear hn
    go_enter Tryd.func80, Tryd.ntmps80
    go_wp2_with (go_at_call 48; refine (isCount_any _ _).mono ?_; rintro e w' ⟨rfl, rfl⟩)
    go_ret
    exact ⟨⟨_, rfl, .inl ⟨rfl, HN.out⟩⟩, HB0.out⟩
theorem fCheck_any (N : Int) (a : Option Addr) (len cap : Nat) (f : Nat → Int) (w : World) (hl : len ≤ maxLen) (hr : Row w a len f) :
    Calls Tryd.prog 70 #[.agg #[.int .i64 N, .slice a len cap]] w fun e w' => (∃ c : Int, e = .returned (.int .i64 c) ∧ FChk N len f c) ∧ Below w.heap.size w w' := by
  have HB0 : Hid (Below w.heap.size w (w.alloc (.cells #[.int .i64 N, .slice a len cap] 36))) := (Below.refl _ _).alloc (Nat.le_refl _) _
  have HR : Hid (Row (w.alloc (.cells #[.int .i64 N, .slice a len cap] 36)) a len f) := hr.below HB0.out
  clear hr
  go_enter Tryd.func70, Tryd.ntmps70
  go_wp2_with fail
  refine (checkRising_any N a len cap f _ hl HR.out).mono ?_
  rintro e w1 ⟨⟨c, rfl, hc⟩, hb⟩
  have HC : Hid (FChk N len f c) := hc
  have HB : Hid (Below w.heap.size w w1) := Below.then HB0.out hb
  clear hc hb HB0 HR
  go_wp2_with fail
  go_ret
  exact ⟨⟨_, rfl, HC.out⟩, HB.out⟩
end Go.Proofs.YtglkjeidkjkdaaaDoor
