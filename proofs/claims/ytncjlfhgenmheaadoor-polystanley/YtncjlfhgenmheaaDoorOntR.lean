/-
  What the reference's OntoOf answers. Conditions: an order of at most ten points that lies in a slice of numbers.
-/
import Derived.Test.YtncjlfhgenmheaaDoorPBeg
namespace Go.Proofs.YtncjlfhgenmheaaDoor
open Go.RowKit Go.Maps

/-- A slice of numbers. -/
def ISl (w : World) (v : Value) (n : Nat) (F : Nat → Int) : Prop := ∃ a cap, v = .slice a n cap ∧ Row w a n F
theorem ISl.below {w w' : World} {v : Value} {n : Nat} {F : Nat → Int} (h : ISl w v n F) (hb : Below w.heap.size w w') : ISl w' v n F := by
  obtain ⟨a, cap, rfl, hr⟩ := h
  exact ⟨a, cap, rfl, hr.below hb⟩
/-- The first k numbers, as values. -/
def iv (F : Nat → Int) : Nat → List Value
  | 0 => []
  | k + 1 => iv F k ++ [.int .i64 (F k)]
theorem iv_len (F : Nat → Int) : ∀ k, (iv F k).length = k
  | 0 => rfl
  | k + 1 => by rw [iv, List.length_append, iv_len F k]; rfl
theorem iv_at (F : Nat → Int) : ∀ n k, k < n → (iv F n)[k]? = some (.int .i64 (F k))
  | 0, k, h => absurd h (Nat.not_lt_zero _)
  | n + 1, k, h => by
    rw [iv]
    by_cases e : k = n
    · subst e
      have h := List.getElem?_append_right (l₁ := iv F k) (l₂ := [Value.int .i64 (F k)]) (i := k) (by rw [iv_len]; exact Nat.le_refl _)
      rw [h, iv_len, Nat.sub_self]; rfl
    · rw [List.getElem?_append_left (by rw [iv_len]; omega)]; exact iv_at F n k (by omega)
theorem owns_iv {w : World} {base : Nat} {v : Value} {n : Nat} {F : Nat → Int} (h : w.ownsRow base 3 1 v n (iv F n)) : ISl w v n F := by
  by_cases hn : 0 < n
  · obtain ⟨g, cap, rfl⟩ := owns_form h hn
    refine ⟨_, cap, rfl, fun k hk => ⟨g, 0, rfl, ?_⟩⟩
    rw [Nat.zero_add, h.cellAt _ (by omega)]; exact iv_at F n k hk
  · have h0 : n = 0 := by omega
    rcases h.2 with ⟨rfl, _⟩ | ⟨g, cap, cur, rfl, _⟩
    · exact ⟨none, 0, by rw [h0], fun k hk => absurd (Nat.lt_of_le_of_lt (Nat.zero_le _) hk) hn⟩
    · exact ⟨_, cap, rfl, fun k hk => absurd (Nat.lt_of_le_of_lt (Nat.zero_le _) hk) hn⟩
theorem inside_as (a b : Nat) (v : Bool) (w : World) (hv : decide (lack a b = 0) = v) (ha : a < 9223372036854775808) (hb : b < 9223372036854775808) :
    Calls Tryd.prog 29 #[.int .i64 a, .int .i64 b] w fun e w' => e = .returned (.bool v) ∧ w' = w :=
  (inside_any a b w ha hb).mono fun _ _ ⟨h1, h2⟩ => ⟨by rw [h1, ← hv]; try rfl, h2.symm⟩
/-- What comes to place i, the first j places looked at. -/
def nxI (L : List Nat) (M : Nat → Bool) (F : Nat → Int) (i j : Nat) : Int := sumI (fun t => if Qs M (nth L t) (nth L i) = true then F t else 0) j
theorem nxI_no {L : List Nat} {M : Nat → Bool} {F : Nat → Int} {i j : Nat} (h : Qs M (nth L j) (nth L i) = false) : nxI L M F i (j + 1) = nxI L M F i j := by unfold nxI; rw [sumI]; simp [h]
theorem nxI_yes {L : List Nat} {M : Nat → Bool} {F : Nat → Int} {i j : Nat} (h : Qs M (nth L j) (nth L i) = true) : nxI L M F i (j + 1) = nxI L M F i j + F j := by unfold nxI; rw [sumI]; simp [h]
theorem wrapi_add (a b : Int) : IntKind.i64.wrap (wz a + wz b) = wz (a + b) := by rw [IntWalk.i64_left]; exact wz_add a b

set_option maxHeartbeats 4000000 in
theorem ontoOf_any (len : Nat) (a : Option Addr) (cap : Nat) (g : Nat → Nat) (w : World) (h10 : len ≤ 10) (hg : ∀ k, k < len → g k < pw len) (hr : Row w a len (fun k => (g k : Nat))) :
    Calls Tryd.prog 11 #[.agg #[.int .i64 (len : Int), .slice a len cap]] w fun e w' => (∃ v, e = .returned v ∧ ISl w' v (len + 1) (fun k => wz (onF g len k))) ∧ Below w.heap.size w w' := by
  have K0 : Held (w.alloc (.cells #[.int .i64 (len : Int), .slice a len cap] 24)) w.heap.size len a len cap (fun k => (g k : Nat)) := Held.box hr
  have HB0 : Hid (Below w.heap.size w (w.alloc (.cells #[.int .i64 (len : Int), .slice a len cap] 24))) := (Below.refl _ _).alloc (Nat.le_refl _) _
  have HG : Hid (∀ k, k < len → g k < 1024) := fun k hk => Nat.lt_of_lt_of_le (hg k hk) (pw_le len h10)
  have HL : Hid (Rises len (idls g len)) := idls_rise h10 hg
  have HON : Hid (∀ k, onF g len k = atI (idls g len) (fun _ => true) k ((idls g len).length - 1)) := fun k => rfl
  clear hr hg
  go_enter Tryd.func11, Tryd.ntmps11
  go_wp2_with fail
  refine (refIdeals_any a len cap g _ h10 HG.out K0.row).mono ?_
  rintro e w1 ⟨⟨v, rfl, hv⟩, hb⟩
  have K1 := K0.step hb
  have HK : Hid (∀ W, Below w1.heap.size w1 W → W.cell? ⟨w.heap.size, 0, none⟩ = some (.int .i64 (len : Int))) := fun W hW => (K1.step hW).c0
  have HB1 : Hid (Below w.heap.size w w1) := Below.then HB0.out hb
  clear hb K0 HB0 K1
  generalize idls g len = L at *
  obtain ⟨av, cv, rfl, hrv⟩ := hv
  have hpos := HL.out.pos
  have hlen := HL.out.len
  obtain ⟨ab, ao, rfl, hcc⟩ := hrv.at hpos
  have HR : Hid (∀ W, Below w1.heap.size w1 W → ∀ j, j < L.length → W.cell? ⟨ab, ao + j, none⟩ = some (.int .i64 (nth L j : Nat))) := fun W hW j hj => (hW.cell (World.block_lt_of_cell? _ _ (hcc j hj))).trans (hcc j hj)
  clear hrv hcc
  obtain ⟨i0, hi', hz0, hz1, hz2⟩ := info_parts Tryd.info3
  have HI : Hid (Tryd.prog.info? 3 = some i0 ∧ i0.zero = some (.int .i64 0) ∧ i0.size = 1 ∧ i0.bytes = 8) := ⟨hi', hz0, hz1, hz2⟩
  go_wp2_with (at_make; refine wpList_make_full _ rfl _ _ 22 rfl w1.heap.size 3 i0 (.int .i64 0) 1 Tryd.underlying22 hi' hz0 hz1 .i64 .i64 _ _ L.length rfl rfl rfl rfl (by rw [hz2]; omega) (by unfold maxLen; omega) (by simp) ?_; intro w3 hown3 hgrow3; have hO3 := ownI_made hown3; have hc0 := (hO3 0 hpos).1; have hf0 := (hO3 0 hpos).2)
  have HB4 : Hid (Below w1.heap.size w1 (w3.setCell ⟨w1.heap.size, 0, none⟩ (.int .i64 1))) := ((Below.refl _ _).grown hgrow3 (Nat.le_refl _) (by simp)).setCell (p := ⟨w1.heap.size, 0, none⟩) (Nat.le_refl _) _
  have HO4 : Hid (OwnI (w3.setCell ⟨w1.heap.size, 0, none⟩ (.int .i64 1)) w1.heap.size L.length (fun t => wz (atI L (fun _ => true) 0 t))) := by
    refine (hO3.set 0 1).congr fun k _ => ?_
    match k with
    | 0 => rw [updI_same]; simp [atI, wz]
    | k + 1 => rw [updI_other _ _ _ _ (by omega)]; simp [atI, wz]
  clear hown3 hgrow3 hO3 hc0 hf0 hi' hz0 hz1 hz2
  obtain ⟨M, HM⟩ : ∃ M : Nat → Bool, Hid (M = fun _ => true) := ⟨_, rfl⟩
  rw [← HM.out] at HO4 HON
  go_loopw [4, 5, 6] (fun at_ out x wx => ∃ k b : Nat, k ≤ len + 1 ∧ x = .int .i64 (k : Nat) ∧ at_ = .slice (some ⟨b, 0, none⟩) L.length L.length ∧ Hid (OwnI wx b L.length (fun t => wz (atI L M k t))) ∧ wx.ownsRow w1.heap.size 3 1 out k (iv (fun t => wz (atI L M t (L.length - 1))) k) ∧ Hid (∀ q, out.ownBlock = some q → q ≠ b) ∧ Hid (Below w1.heap.size w1 wx)) (fun _ _ x _ => len + 1 - (intOf x).toNat)
  case atStart => exact ⟨0, w1.heap.size, Nat.zero_le _, rfl, rfl, HO4.out, World.ownsRow_nil _ _ _ _, fun q hq => by simp [Value.ownBlock] at hq, HB4.out⟩
  case round =>
    clear HO4 HB4
    obtain ⟨k, b, hk, rfl, rfl, HO, hown, HNE, HB⟩ := hrel
    have c0 := HK.out wr HB.out
    by_cases hkl : k ≤ len
    · have hkI : (k : Int) ≤ (len : Int) := by omega
      have hct : wr.cell? ⟨b, L.length - 1, none⟩ = some (.int .i64 (wz (atI L M k (L.length - 1)))) := (HO.out (L.length - 1) (by omega)).1
      have hii : ((L.length : Int) - 1) = ((L.length - 1 : Nat) : Int) := by omega
      have HOW : Hid (wr.ownsRow w1.heap.size 3 1 u5 k (iv (fun t => wz (atI L M t (L.length - 1))) k)) := hown
      have hsz := HB.out.size
      obtain ⟨hi', hz0, hz1, hz2⟩ := HI.out
      generalize hTT : wz (atI L M k (L.length - 1)) = TT at *
      go_wp2_with (first
        | (at_builtin; refine wpList_append_own _ rfl _ _ 22 rfl w1.heap.size 3 i0 (.int .i64 0) 1 8 Tryd.underlying22 hi' hz0 hz1 hz2 rfl (by decide) _ _ _ rfl (hown.alloc _) ⟨wr.heap.size, 0, none⟩ 1 1 [.int .i64 TT] rfl rfl (cell_one_new _ _ _) (by intro u hu; simp at hu; subst hu; rfl) (by unfold maxLen; omega) (by omega) (by simp; omega) ?_; intro v' w4 hown' hgrow _)
        | (at_make; refine wpList_make_full _ rfl _ _ 22 rfl w4.heap.size 3 i0 (.int .i64 0) 1 Tryd.underlying22 hi' hz0 hz1 .i64 .i64 _ _ L.length rfl rfl rfl rfl (by rw [hz2]; omega) (by unfold maxLen; omega) (by simp) ?_; intro w5 hown5 hgrow5))
      have HB4 : Hid (Below w1.heap.size w1 w4) := below_append3 HB.out HOW.out hgrow
      have HO4 : Hid (OwnI w4 b L.length (fun t => wz (atI L M k t))) := fun t ht => by
        have h1 := HO.out t ht
        have hlt := World.block_lt_of_cell? _ _ h1.1
        have hbk := hgrow.block b (by rw [World.size_alloc]; exact Nat.lt_succ_of_lt hlt) (fun e => HNE.out b e.symm rfl)
        have hbk2 : (wr.alloc (.cells #[.int .i64 TT] 3)).heap[b]? = wr.heap[b]? := by
          show (wr.heap.push _)[b]? = _
          rw [Array.getElem?_push, if_neg (by have : b < wr.heap.size := hlt; omega)]
        have e := hbk.trans hbk2
        exact ⟨(World.cell?_of_block (w := wr) e).trans h1.1, (World.frozen?_of_block (w := wr) e).trans h1.2⟩
      have HV4 : Hid (w4.ownsRow w1.heap.size 3 1 v' (k + 1) (iv (fun t => wz (atI L M t (L.length - 1))) (k + 1))) := by
        show World.ownsRow _ _ _ _ _ _ (iv _ k ++ [Value.int .i64 (wz (atI L M k (L.length - 1)))])
        rw [hTT]; exact hown'
      have HB5 : Hid (Below w4.heap.size w4 w5) := (Below.refl _ _).grown hgrow5 (Nat.le_refl _) (by simp)
      have HO5 : Hid (OwnI w5 w4.heap.size L.length (upToI (fun t => wz (atI L M (k + 1) t)) 0)) := by rw [upToI_zero]; exact ownI_made hown5
      have HNX : Hid (∀ i, atI L M (k + 1) i = nxI L M (atI L M k) i i) := fun i => rfl
      clear hown5 hgrow5 hown hown' hgrow HOW HO HB hct hi' hz0 hz1 hz2 hsz hTT HNE c0
      go_wp2_with fail
      go_loopw [8] (fun x wx => ∃ i : Nat, i ≤ L.length ∧ x = .int .i64 (i : Nat) ∧ Hid (OwnI wx w4.heap.size L.length (upToI (fun t => wz (atI L M (k + 1) t)) i)) ∧ Hid (Below w4.heap.size w4 wx)) (fun x _ => L.length - (intOf x).toNat)
      case atStart => exact ⟨0, Nat.zero_le _, rfl, HO5.out, HB5.out⟩
      case round =>
        clear HO5 HB5
        obtain ⟨i, hi, rfl, HO, HW⟩ := hrel
        by_cases hil : i < L.length
        · have HO2 : Hid (OwnI wr w4.heap.size L.length (updI (upToI (fun t => wz (atI L M (k + 1) t)) i) i (wz (nxI L M (atI L M k) i 0)))) := by
            have e : updI (upToI (fun t => wz (atI L M (k + 1) t)) i) i (wz (nxI L M (atI L M k) i 0)) = upToI (fun t => wz (atI L M (k + 1) t)) i := by
              rw [show wz (nxI L M (atI L M k) i 0) = 0 by simp [nxI, sumI, wz]]; exact upToI_same _ _
            rw [e]; exact HO.out
          have HES : Hid (upToI (fun t => wz (atI L M (k + 1) t)) (i + 1) = updI (upToI (fun t => wz (atI L M (k + 1) t)) i) i (wz (nxI L M (atI L M k) i i))) := upToI_succ _ _
          have hiI : (i : Int) < (L.length : Int) := by omega
          clear HO
          generalize upToI (fun t => wz (atI L M (k + 1) t)) i = A at *
          go_wp2_with fail
          go_loopw [9] (fun x wx => ∃ j : Nat, j ≤ i ∧ x = .int .i64 (j : Nat) ∧ Hid (OwnI wx w4.heap.size L.length (updI A i (wz (nxI L M (atI L M k) i j)))) ∧ Hid (Below w4.heap.size w4 wx)) (fun x _ => i - (intOf x).toNat)
          case atStart => exact ⟨0, Nat.zero_le _, rfl, HO2.out, HW.out⟩
          case round =>
            clear HO2 HW
            obtain ⟨j, hj, rfl, HO, HW⟩ := hrel
            by_cases hji : j < i
            · have hjl : j < L.length := by omega
              have hcj := HR.out wr (Below.then HB4.out HW.out) j hjl
              have hci := HR.out wr (Below.then HB4.out HW.out) i hil
              have hlj := HL.out.lt j hjl
              have hli := HL.out.lt i hil
              have hjI : (j : Int) < (i : Int) := by omega
              have hjL : (j : Int) < (L.length : Int) := by omega
              rcases (Bool.eq_false_or_eq_true (decide (lack (nth L j) (nth L i) = 0))).symm with hq | hq
              · have HY : Hid (nxI L M (atI L M k) i (j + 1) = nxI L M (atI L M k) i j) := nxI_no (by simp only [Qs, hq, Bool.false_and])
                have HQ : Hid (decide (lack (nth L j) (nth L i) = 0) = false) := hq
                clear hq
                generalize nth L j = lj at *
                generalize nth L i = li at *
                go_wp2_with fail
                go_big_quiet (first | (go_at_call 29; exact Calls.quiet_of_same (inside_as _ _ _ _ HQ.out (by omega) (by omega))))
                have HO7 : Hid (OwnI (wr.drewN nq) w4.heap.size L.length (updI A i (wz (nxI L M (atI L M k) i j)))) := HO.out
                have HW7 : Hid (Below w4.heap.size w4 (wr.drewN nq)) := below_drewN HW.out _
                clear HO HW hcj hci
                generalize wr.drewN nq = W3 at *
                go_wp2_with fail
                go_roundw
                case rel => exact ⟨j + 1, by omega, by go_num, by rw [HY.out]; exact HO7.out, HW7.out⟩
                case measure => simp [intOf]; omega
              · have HYZ : Hid (IntKind.i64.wrap (wz (nxI L M (atI L M k) i j) + wz (atI L M k j)) = wz (nxI L M (atI L M k) i (j + 1))) := by
                  show _ = _
                  rw [wrapi_add, nxI_yes (by simp only [Qs, hq, HM.out, Bool.true_and])]
                have HQ : Hid (decide (lack (nth L j) (nth L i) = 0) = true) := hq
                have hcA : wr.cell? ⟨b, j, none⟩ = some (.int .i64 (wz (atI L M k j))) := (HO4.out.below HW.out j hjl).1
                have hcI := (HO.out i hil).1
                have hfI := (HO.out i hil).2
                rw [updI_same] at hcI
                clear hq
                generalize nth L j = lj at *
                generalize nth L i = li at *
                generalize hX : wz (nxI L M (atI L M k) i j) = X at *
                generalize wz (atI L M k j) = Y at *
                generalize hZ : wz (nxI L M (atI L M k) i (j + 1)) = Z at *
                have hYZ : IntKind.i64.wrap (X + Y) = Z := HYZ.out
                have HZ : Hid (wz (nxI L M (atI L M k) i (j + 1)) = Z) := hZ
                clear hX hZ HYZ
                go_wp2_with fail
                go_big_quiet (first | (go_at_call 29; exact Calls.quiet_of_same (inside_as _ _ _ _ HQ.out (by omega) (by omega))))
                have HO7 : Hid (OwnI (wr.drewN nq) w4.heap.size L.length (updI A i X)) := HO.out
                have HW7 : Hid (Below w4.heap.size w4 (wr.drewN nq)) := below_drewN HW.out _
                have hcA7 : (wr.drewN nq).cell? ⟨b, j, none⟩ = some (.int .i64 Y) := hcA
                clear HO HW hcj hci hcA hcI hfI
                generalize wr.drewN nq = W3 at *
                have hcI := (HO7.out i hil).1
                have hfI := (HO7.out i hil).2
                rw [updI_same] at hcI
                have HO8 : Hid (OwnI (W3.setCell ⟨w4.heap.size, i, none⟩ (.int .i64 Z)) w4.heap.size L.length (updI A i (wz (nxI L M (atI L M k) i (j + 1))))) := by
                  have h := HO7.out.set i Z; rw [updI_updI] at h; rw [HZ.out]; exact h
                have HW8 : Hid (Below w4.heap.size w4 (W3.setCell ⟨w4.heap.size, i, none⟩ (.int .i64 Z))) := HW7.out.setCell (p := ⟨w4.heap.size, i, none⟩) (Nat.le_refl _) _
                go_wp2_with fail
                go_region
                all_goals go_wp2
                all_goals go_roundw
                case rel => exact ⟨j + 1, by omega, by go_num, HO8.out, Below.drew HW8.out⟩
                case measure => simp [intOf]; omega
            · have hge : (i : Int) ≤ (j : Int) := by omega
              have HO9 : Hid (OwnI wr w4.heap.size L.length (upToI (fun t => wz (atI L M (k + 1) t)) (i + 1))) := by rw [HES.out, show i = j by omega]; rw [show i = j by omega] at HO; exact HO.out
              clear HO
              go_wp2_with fail
              go_roundw
              case rel => exact ⟨i + 1, by omega, by go_num, HO9.out, HW.out⟩
              case measure => simp [intOf]; omega
        · have hge : (L.length : Int) ≤ (i : Int) := by omega
          have HO9 : Hid (OwnI wr w4.heap.size L.length (fun t => wz (atI L M (k + 1) t))) := HO.out.congr fun t ht => by simp [upToI]; omega
          have HV9 : Hid (wr.ownsRow w1.heap.size 3 1 v' (k + 1) (iv (fun t => wz (atI L M t (L.length - 1))) (k + 1))) := owns_below HV4.out HW.out
          have HN9 : Hid (∀ q, v'.ownBlock = some q → q ≠ w4.heap.size) := fun q hq => by have := HV4.out.lt q hq; omega
          have HB9 : Hid (Below w1.heap.size w1 wr) := Below.then HB4.out HW.out
          clear HO
          go_wp2_with fail
          go_roundw
          case rel => exact ⟨k + 1, w4.heap.size, by omega, by go_num, rfl, HO9.out, HV9.out, HN9.out, HB9.out⟩
          case measure => simp [intOf]; omega
    · have hgt : ¬ ((k : Int) ≤ (len : Int)) := by omega
      have HF : Hid (ISl wr u5 (len + 1) (fun k => wz (onF g len k))) := by
        have e : k = len + 1 := by omega
        rw [e] at hown
        obtain ⟨a5, c5, h1, h2⟩ := owns_iv hown
        exact ⟨a5, c5, h1, h2.congr fun t _ => by rw [HON.out]⟩
      clear hown
      go_wp2_with fail
      go_ret
      exact ⟨⟨_, rfl, HF.out⟩, Below.then HB1.out HB.out⟩
end Go.Proofs.YtncjlfhgenmheaaDoor
