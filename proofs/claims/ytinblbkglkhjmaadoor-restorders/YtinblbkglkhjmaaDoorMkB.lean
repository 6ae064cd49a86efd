/-
  What order.Make and hasselaw.orderBegun answer. Conditions: a slice reads as a slice of pairs.
-/
import Derived.Test.YtinblbkglkhjmaaDoorBuild
import Derived.Test.YtinblbkglkhjmaaDoorWoQ
namespace Go.Proofs.YtinblbkglkhjmaaDoor
open Go.RowKit
set_option maxRecDepth 100000

set_option maxHeartbeats 400000 in
theorem reach_any (n : Nat) (g : Nat → Nat) (b cap : Nat) (w : World) (hn : n ≤ 10) (hg : Sm n n g) (ho : Own w b n g) :
    Calls Tryd.prog 40 #[.slice (some ⟨b, 0, none⟩) n cap] w fun e w' => e = .returned (.tuple #[]) ∧ Own w' b n (reachOut g n n) ∧ Below b w w' := by
  have hpw := pw_le n hn
  go_enter Tryd.func40, Tryd.ntmps40
  go_wp2
  go_loopw [8] (fun i wx => ∃ t : Nat, t ≤ n ∧ i = .int .i64 t ∧ Own wx b n (reachOut g n t) ∧ Below b w wx) (fun i _ => n - (intOf i).toNat)
  case atStart => exact ⟨0, Nat.zero_le _, rfl, ho, Below.refl _ _⟩
  case round =>
    obtain ⟨t, ht, rfl, hown, hB⟩ := hrel
    clear ho
    by_cases hlt : t < n
    · obtain ⟨G, HG⟩ : ∃ G, Hid (G = reachOut g n t) := ⟨_, rfl⟩
      have hsm : Sm n n G := by rw [HG.out]; exact reachOut_sm hg t (by omega)
      rw [← HG.out] at hown
      have hct := (hown t hlt).1
      go_wp2
      have HOWN := (show Hid _ from hown); clear hown hct
      go_loopw [15] (fun i wy => ∃ k : Nat, k ≤ n ∧ i = .int .i64 k ∧ Own wy b n (reachIn G t (G t) k) ∧ Below b w wy) (fun i _ => n - (intOf i).toNat)
      case atStart => exact ⟨0, Nat.zero_le _, rfl, HOWN.out, hB⟩
      case round =>
        obtain ⟨k, hk, rfl, hown, hBy⟩ := hrel
        clear HOWN
        by_cases hkl : k < n
        · have hGt := hsm t hlt
          have hsk := reachIn_sm hsm (t := t) hGt k hk
          obtain ⟨h, HH⟩ : ∃ h, Hid (h = reachIn G t (G t) k) := ⟨_, rfl⟩
          rw [← HH.out] at hown hsk
          have hck := (hown k hkl).1
          have hfk := (hown k hkl).2
          have hhk := hsk k hkl
          have hor := i64_or (h k) (G t) (by omega) (by omega)
          rcases (Bool.eq_false_or_eq_true ((h k).testBit t)).symm with hb | hb
          · go_wp2_with (go_at_call 22; refine (has_any _ _ _ (by omega) (by omega)).mono ?_; rintro e w' ⟨rfl, rfl⟩)
            go_roundw
            case rel => exact ⟨k + 1, by omega, by go_num, by rw [reachIn_no (by rw [← HH.out]; exact hb), ← HH.out]; exact hown, hBy⟩
            case measure => simp [intOf]; omega
          · go_wp2_with (go_at_call 22; refine (has_any _ _ _ (by omega) (by omega)).mono ?_; rintro e w' ⟨rfl, rfl⟩)
            go_roundw
            case rel => exact ⟨k + 1, by omega, by go_num, by rw [reachIn_yes (by rw [← HH.out]; exact hb), ← HH.out]; exact hown.set k _ hkl, hBy.setCell (Nat.le_refl _) _⟩
            case measure => simp [intOf]; omega
        · have hkn : k = n := by omega
          subst hkn
          go_wp2
          go_roundw
          case rel => exact ⟨t + 1, by omega, by go_num, by rw [HG.out] at hown; exact hown, hBy⟩
          case measure => simp [intOf]; omega
    · have htn : t = n := by omega
      subst htn
      go_wp2
      go_end0
      exact ⟨rfl, hown, hB⟩
set_option maxHeartbeats 1000000 in
theorem make_any (n : Int) (a : Option Addr) (len cap : Nat) (p : Nat → Int × Int) (w : World) (hl : len ≤ maxLen) (hr : PRow w a len p) :
    Calls Tryd.prog 16 #[.int .i64 n, .slice a len cap] w fun e w' => Made n len p w e w' ∧ Below w.heap.size w w' := by
  unfold maxLen at hl
  have HR := (show Hid (PRow w a len p) from hr)
  clear hr
  by_cases hn : 0 ≤ n ∧ n ≤ 10
  · obtain ⟨m, rfl⟩ := Int.eq_ofNat_of_zero_le hn.1
    have hm : m ≤ 10 := by omega
    have hd : cnt (m : Int) = true := by simpa [cnt] using hn
    clear hn
    obtain ⟨i0, hi, hz0, hz1, hz2⟩ := info_parts Tryd.info3
    go_enter Tryd.func16, Tryd.ntmps16
    go_wp2_with (first | (go_at_call 26; refine (isCount_any _ _).mono ?_; rintro e w' ⟨rfl, rfl⟩) | (at_make; refine wpList_make_full _ rfl _ _ 22 rfl (w.heap.size + 1) 3 i0 (.int .i64 0) 1 Tryd.underlying22 hi hz0 hz1 .i64 .i64 _ _ m rfl rfl rfl rfl (by rw [hz2]; omega) (by unfold maxLen; omega) (by simp) ?_; intro w1 hown1 hgrow1))
    have hB1 : Below (w.heap.size + 1) (w.alloc (.cells #[.int .i64 0, .slice none 0 0] 24)) w1 := (Below.refl _ _).grown hgrow1 (by simp) (by simp)
    have hO1 : Own w1 (w.heap.size + 1) m (mk p 0) := own_made (by rw [World.size_alloc] at hown1; exact hown1)
    have HO1 := (show Hid _ from hO1)
    have HB1 := (show Hid _ from hB1)
    clear hown1 hgrow1 hi hz0 hz1 hz2 hO1 hB1
    go_loopw [19] (fun i wx => ∃ k : Nat, k ≤ len ∧ i = .int .i64 k ∧ Hid (∀ j, j < k → PIn m p j) ∧ Own wx (w.heap.size + 1) m (mk p k) ∧ Hid (Below (w.heap.size + 1) (w.alloc (.cells #[.int .i64 0, .slice none 0 0] 24)) wx)) (fun i _ => len - (intOf i).toNat)
    case atStart => exact ⟨0, Nat.zero_le _, rfl, upto_zero, HO1.out, HB1.out⟩
    case round =>
      obtain ⟨k, hk, rfl, hok, hO, hB⟩ := hrel
      clear HO1 HB1
      by_cases hlt : k < len
      · obtain ⟨b, off, rfl, hca, hcb⟩ := HR.out.below ((Below.refl _ _).alloc (Nat.le_refl _) (.cells #[.int .i64 0, .slice none 0 0] 24)) k hlt
        have hba := World.block_lt_of_cell? _ _ hca
        have hca' := (hB.out.cell (by simpa using hba)).trans hca
        have hcb' := (hB.out.cell (by simpa using hba)).trans hcb
        have hbs := World.block_lt_of_cell? _ _ hca'
        clear hca hcb hba
        have HPQ : Hid (PIn m p k ↔ (0 ≤ (p k).1 ∧ (p k).1 < m) ∧ (0 ≤ (p k).2 ∧ (p k).2 < m)) := Iff.rfl
        have HMK : Hid (mk p (k + 1) = upd (mk p k) (p k).2.toNat (mk p k (p k).2.toNat ||| pw (p k).1.toNat)) := rfl
        have HE : Hid (¬ PIn m p k → Mk m len p 3) := fun h => .inr ⟨m, rfl, hm, .inl ⟨rfl, fun h2 => h (h2 k hlt)⟩⟩
        generalize (p k).1 = x at *
        generalize (p k).2 = y at *
        by_cases hx : 0 ≤ x ∧ x < m
        · have hxd : pnt x m = true := by simpa [pnt] using hx
          by_cases hy : 0 ≤ y ∧ y < m
          · have hyd : pnt y m = true := by simpa [pnt] using hy
            obtain ⟨A, rfl⟩ := Int.eq_ofNat_of_zero_le hx.1
            obtain ⟨U, rfl⟩ := Int.eq_ofNat_of_zero_le hy.1
            have hA : A < m := by omega
            have hU : U < m := by omega
            rw [Int.toNat_natCast, Int.toNat_natCast] at HMK
            have HP : Hid (PIn m p k) := HPQ.out.2 ⟨hx, hy⟩
            clear HPQ HE hx hy
            have hsm := mk_sm (n := m) k hok.out
            have hg := hsm U hU
            have hsh := wrap_pow A (Nat.lt_of_lt_of_le hA (Nat.le_trans hm (by decide)))
            have hor := or_pw hm hg hA
            have hOB := hO.alloc (.cells #[.int .i64 (A : Nat), .int .i64 (U : Nat)] 42)
            have hcU : ∀ nq, ((wr.alloc (.cells #[.int .i64 (A : Nat), .int .i64 (U : Nat)] 42)).drewN nq).cell? ⟨w.heap.size + 1, U, none⟩ = some (.int .i64 (mk p k U : Nat)) := fun nq => (hOB U hU).1
            have hfU : ∀ nq, ((wr.alloc (.cells #[.int .i64 (A : Nat), .int .i64 (U : Nat)] 42)).drewN nq).frozen? ⟨w.heap.size + 1, U, none⟩ = false := fun nq => (hOB U hU).2
            have HOB := (show Hid _ from hOB); clear hOB hsm
            go_wp2
            go_quiet (fail)
            go_wp2_with (go_at_call 39; refine (isPoint_any _ _ _).mono ?_; rintro e w' ⟨rfl, rfl⟩)
            have cU := hcU nq
            have fU := hfU nq
            have HO2 : Hid (Own ((wr.alloc (.cells #[.int .i64 (A : Nat), .int .i64 (U : Nat)] 42)).drewN nq) (w.heap.size + 1) m (mk p k)) := HOB.out
            have HB2 : Hid (Below (w.heap.size + 1) (w.alloc (.cells #[.int .i64 0, .slice none 0 0] 24)) ((wr.alloc (.cells #[.int .i64 (A : Nat), .int .i64 (U : Nat)] 42)).drewN nq)) := below_drewN (hB.out.alloc (by have := hB.out.size; simpa using this) _) _
            clear hcU hfU HOB hB hO
            generalize (wr.alloc (.cells #[.int .i64 (A : Nat), .int .i64 (U : Nat)] 42)).drewN nq = W2 at *
            go_region
            all_goals go_wp2
            all_goals go_roundw
            case rel => exact ⟨k + 1, by omega, by go_num, upto_succ hok.out HP.out, by rw [HMK.out]; exact HO2.out.set U _ hU, Below.drew (Below.setCell (p := ⟨w.heap.size + 1, U, none⟩) HB2.out (Nat.le_refl _) _)⟩
            case measure => simp [intOf]; omega
          · have hyd : pnt y m = false := by simpa [pnt] using hy
            have HM := (show Hid (Mk m len p 3) from HE.out fun h => hy (HPQ.out.1 h).2)
            have HB2 : Hid (∀ nq, Below (w.heap.size + 1) (w.alloc (.cells #[.int .i64 0, .slice none 0 0] 24)) ((wr.alloc (.cells #[.int .i64 x, .int .i64 y] 42)).drewN nq)) := fun nq => below_drewN (hB.out.alloc (by have := hB.out.size; simpa using this) _) _
            have HBW : Hid (∀ nq, Below w.heap.size w ((wr.alloc (.cells #[.int .i64 x, .int .i64 y] 42)).drewN nq)) := fun nq => out_below (HB2.out nq)
            clear HE HPQ HMK hy hO
            go_wp2
            go_quiet (fail)
            go_wp2_with fail
            refine (isPoint_any _ _ _).mono ?_
            rintro e w' ⟨rfl, rfl⟩
            go_wp2_with fail
            refine (isPoint_any _ _ _).mono ?_
            rintro e w' ⟨rfl, rfl⟩
            obtain ⟨r0, r1, r2, r3⟩ := resbox (HB2.out nq)
            have HBZ := (show Hid _ from HBW.out nq)
            clear hB HB2 HBW hbs
            generalize (wr.alloc (.cells #[.int .i64 x, .int .i64 y] 42)).drewN nq = W2 at *
            go_wp2
            exact bodyPost_ret (v := .tuple #[noOrder, .int .i64 3]) (by simp [results, Tryd.results16, go_sem, noOrder, r0, r1]) rfl ⟨.inl ⟨3, by decide, HM.out, rfl⟩, set2 HBZ.out⟩
        · have hxd : pnt x m = false := by simpa [pnt] using hx
          have HM := (show Hid (Mk m len p 3) from HE.out fun h => hx (HPQ.out.1 h).1)
          have HB2 : Hid (∀ nq, Below (w.heap.size + 1) (w.alloc (.cells #[.int .i64 0, .slice none 0 0] 24)) ((wr.alloc (.cells #[.int .i64 x, .int .i64 y] 42)).drewN nq)) := fun nq => below_drewN (hB.out.alloc (by have := hB.out.size; simpa using this) _) _
          have HBW : Hid (∀ nq, Below w.heap.size w ((wr.alloc (.cells #[.int .i64 x, .int .i64 y] 42)).drewN nq)) := fun nq => out_below (HB2.out nq)
          clear HE HPQ HMK hx hO
          go_wp2
          go_quiet (fail)
          go_wp2_with fail
          refine (isPoint_any _ _ _).mono ?_
          rintro e w' ⟨rfl, rfl⟩
          obtain ⟨r0, r1, r2, r3⟩ := resbox (HB2.out nq)
          have HBZ := (show Hid _ from HBW.out nq)
          clear hB HB2 HBW hbs
          generalize (wr.alloc (.cells #[.int .i64 x, .int .i64 y] 42)).drewN nq = W2 at *
          go_wp2
          exact bodyPost_ret (v := .tuple #[noOrder, .int .i64 3]) (by simp [results, Tryd.results16, go_sem, noOrder, r0, r1]) rfl ⟨.inl ⟨3, by decide, HM.out, rfl⟩, set2 HBZ.out⟩
      · have hkn : k = len := by omega
        subst hkn
        have hsm := mk_sm (n := m) k hok.out
        have HSR : Hid (Sm m m (reachOut (mk p k) m m)) := reachOut_sm hsm m (Nat.le_refl _)
        have HS2 : Hid (∀ j, j < m → reachOut (mk p k) m m j < 1024) := fun j hj => Nat.lt_of_lt_of_le (HSR.out j hj) (pw_le m hm)
        have HSM := (show Hid _ from hsm); clear hsm
        have HM4 : Hid (¬ Ord m (reachOut (mk p k) m m) → Mk m k p 4) := fun h => .inr ⟨m, rfl, hm, .inr ⟨hok.out, .inl ⟨rfl, h⟩⟩⟩
        have HM0 : Hid (Ord m (reachOut (mk p k) m m) → Mk m k p 0) := fun h => .inr ⟨m, rfl, hm, .inr ⟨hok.out, .inr ⟨rfl, h⟩⟩⟩
        go_wp2_with fail
        refine (reach_any m (mk p k) (w.heap.size + 1) m _ hm HSM.out hO).mono ?_
        rintro e w2 ⟨rfl, hO2, hB2⟩
        have HB3 : Hid (Below (w.heap.size + 1) (w.alloc (.cells #[.int .i64 0, .slice none 0 0] 24)) w2) := hB.out.trans hB2
        clear hB hB2 hO
        go_wp2_with fail
        refine (isOrdered_any m _ _ m _ hm HS2.out hO2.row).mono ?_
        rintro e w3 ⟨⟨b, rfl, hb⟩, rfl⟩
        obtain ⟨r0, r1, r2, r3⟩ := resbox HB3.out
        have HBZ : Hid (Below w.heap.size w w2) := out_below HB3.out
        have HO2 := (show Hid _ from hO2)
        clear HB3 hO2
        cases b
        · have HN := (show Hid (Mk m k p 4) from HM4.out fun h => by have := hb.2 h; cases this)
          clear hb
          go_wp2
          exact bodyPost_ret (v := .tuple #[noOrder, .int .i64 4]) (by simp [results, Tryd.results16, go_sem, noOrder, r0, r1]) rfl ⟨.inl ⟨4, by decide, HN.out, rfl⟩, set2 HBZ.out⟩
        · have HN := (show Hid (Mk m k p 0) from HM0.out (hb.1 rfl))
          clear hb
          go_wp2
          exact bodyPost_ret (v := .tuple #[.agg #[.int .i64 m, .slice (some ⟨w.heap.size + 1, 0, none⟩) m m], .int .i64 0]) (by simp [results, Tryd.results16, go_sem, r0, r1]) rfl ⟨.inr ⟨m, w.heap.size + 1, HN.out, rfl, hm, Nat.le_succ _, rfl, Own.set2 HO2.out⟩, set2 HBZ.out⟩
  · have hd : cnt n = false := by simpa [cnt] using hn
    have HN := (show Hid _ from hn); clear hn
    go_enter Tryd.func16, Tryd.ntmps16
    go_wp2_with (go_at_call 26; refine (isCount_any _ _).mono ?_; rintro e w' ⟨rfl, rfl⟩)
    exact bodyPost_ret (v := .tuple #[noOrder, .int .i64 2]) (by simp [results, Tryd.results16, go_sem, noOrder]) rfl ⟨.inl ⟨2, by decide, .inl ⟨rfl, HN.out⟩, rfl⟩, (Below.refl _ _).alloc (Nat.le_refl _) _⟩
theorem orderBegun_any (w : World) : Calls Tryd.prog 4 #[] w fun e w' => e = .returned (.bool true) ∧ Below w.heap.size w w' := by
  go_enter Tryd.func4, Tryd.ntmps4
  go_wp2_with fail
  refine (make_any 3 _ 2 2 pBegun _ (by unfold maxLen; omega) ?_).mono ?_
  · intro k hk
    refine ⟨w.heap.size, 0, rfl, ?_⟩
    match k, hk with
    | 0, _ => exact ⟨by simp [pBegun], by simp [pBegun]⟩
    | 1, _ => exact ⟨by simp [pBegun], by simp [pBegun]⟩
  rintro e w1 ⟨hM, hB⟩
  have HB : Hid (Below w.heap.size w w1) := Below.then ((Below.refl _ _).alloc (Nat.le_refl _) _) hB
  clear hB
  rcases hM with ⟨c, hc, h, _⟩ | ⟨m, b, _, hm, _, _, rfl, hO⟩
  · exact absurd (begun_mk h) hc
  obtain rfl : m = 3 := by omega
  have HO : Hid (Own w1 b 3 (reachOut (mk pBegun 2) 3 3)) := hO
  clear hO hm
  go_wp2_with fail
  refine (same_any _ _ 3 3 3 3 (fun k => (reachOut (mk pBegun 2) 3 3 k : Nat)) (fun k => (gBegun k : Nat)) _ (by unfold maxLen; omega) (by unfold maxLen; omega) ((HO.out.alloc _).alloc _).row ?_).mono ?_
  · intro k hk
    refine ⟨w1.heap.size + 1, 0, rfl, ?_⟩
    match k, hk with
    | 0, _ => simp [gBegun]
    | 1, _ => simp [gBegun]
    | 2, _ => simp [gBegun]
  rintro e w2 ⟨⟨b, rfl, hb⟩, hB2⟩
  obtain rfl : b = true := hb.2 ⟨rfl, fun k hk => by simp only [begun_sets k hk]⟩
  have HB2 : Hid (Below w.heap.size w w2) := Below.then (((HB.out.alloc HB.out.size _).alloc (by have := HB.out.size; simp; omega) _)) hB2
  clear hb hB2 HB HO
  go_wp2_with fail
  refine (check_any 1 none 0 0 (fun _ => 0) _ (by unfold maxLen; omega) (fun k hk => absurd hk (Nat.not_lt_zero _))).mono ?_
  rintro e w3 ⟨⟨c, rfl, hc⟩, hB3⟩
  have hc1 : c = 1 := hc.unique (.inr ⟨1, rfl, by omega, .inl ⟨rfl, by omega⟩⟩)
  subst hc1
  have HB3 : Hid (Below w.heap.size w w3) := Below.then HB2.out hB3
  clear hc hB3 HB2
  go_wp2_with fail
  go_ret
  exact ⟨rfl, HB3.out⟩
end Go.Proofs.YtinblbkglkhjmaaDoor
