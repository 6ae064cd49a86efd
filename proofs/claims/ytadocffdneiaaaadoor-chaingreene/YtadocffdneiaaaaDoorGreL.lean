/-
  That hasselaw.ChainGreene answers true. Conditions: a slice reads as a slice of numbers; the library's table lies in its variable.
-/
import Derived.Test.YtadocffdneiaaaaDoorGreO
import Derived.Test.YtadocffdneiaaaaDoorByP
import Derived.Test.YtadocffdneiaaaaDoorChBegun
import Derived.BigQuiet
namespace Go.Proofs.YtadocffdneiaaaaDoor
open Go.RowKit

theorem shp_nth (M : Nat → Nat) : ∀ k i, i < k → nth (shp M k) i = M (i + 1) - M i
  | 0, i, h => absurd h (Nat.not_lt_zero _)
  | k + 1, i, h => by
    have hl := shp_len M k
    unfold nth shp
    by_cases e : i = k
    · subst e
      rw [List.getD_eq_getElem?_getD, List.getElem?_append_right (by omega), hl, Nat.sub_self]; rfl
    · have := shp_nth M k i (by omega)
      unfold nth at this
      rw [List.getD_eq_getElem?_getD] at this ⊢
      rw [List.getElem?_append_left (by omega)]
      exact this
theorem shape_row {F : Nat → Nat} {n : Nat} {w : World} {v : Value} (h : NSl w v (shape F n)) : ∃ a cap, v = .slice a (frs F n (pw n - 1)) cap ∧ Row w a (frs F n (pw n - 1)) (fun k => ((Msh F n (k + 1) - Msh F n k : Nat) : Int)) := by
  obtain ⟨a, cap, rfl, hr⟩ := h
  have hl : (shape F n).length = frs F n (pw n - 1) := shp_len _ _
  rw [hl] at hr ⊢
  refine ⟨a, cap, rfl, fun k hk => ?_⟩
  have : ∃ b off, a = some ⟨b, off, none⟩ ∧ w.cell? ⟨b, off + k, none⟩ = some (.int .i64 ((nth (shape F n) k : Nat) : Int)) := hr k hk
  rw [show nth (shape F n) k = Msh F n (k + 1) - Msh F n k from shp_nth _ _ k hk] at this
  exact this
theorem lam_le (g : Nat → Nat) (n : Nat) (hn : n ≤ 10) (i : Nat) : lam g n i ≤ 10 := by
  have : Msh (kin g n) n (i + 1) ≤ n := Msh_le hn _
  unfold lam
  have e : cK g n (i + 1) = Msh (kin g n) n (i + 1) := rfl
  omega

set_option maxHeartbeats 1000000 in
theorem chainGreene_any (n : Int) (a : Option Addr) (len cap : Nat) (f : Nat → Int) (w : World) (hl : len ≤ maxLen) (hr : Row w a len f) (hT : Tab w) :
    Calls Tryd.prog 3 #[.agg #[.int .i64 n, .slice a len cap]] w fun e w' => e = .returned (.bool true) ∧ Below w.heap.size w w' := by
  have K0 : Held (w.alloc (.cells #[.int .i64 n, .slice a len cap] 24)) w.heap.size n a len cap f := Held.box hr
  have HB0 : Hid (Below w.heap.size w (w.alloc (.cells #[.int .i64 n, .slice a len cap] 24))) := (Below.refl _ _).alloc (Nat.le_refl _) _
  have HT : Hid (Tab w) := hT
  clear hr hT
  go_enter Tryd.func3, Tryd.ntmps3
  go_wp2_with fail
  refine (chainBegun_any _ (HT.out.step HB0.out)).mono ?_
  rintro e w1 ⟨rfl, hb⟩
  have K1 := K0.step hb
  have HB1 : Hid (Below w.heap.size w w1) := Below.then HB0.out hb
  clear hb K0 HB0
  have k0 := K1.c0
  have k1 := K1.c1
  go_wp2_with fail
  refine (byChains_any n a len cap f _ hl K1.row (HT.out.step HB1.out)).mono ?_
  rintro e w2 ⟨⟨c, va, hc, rfl, hx⟩, hb⟩
  have HC : Hid (Chk n len f c) := hc
  have HX : Hid ((c ≠ 0 ∧ va = .slice none 0 0) ∨ (c = 0 ∧ NSl w2 va (shape (kin (nat f) len) len))) := hx
  have K2 := K1.step hb
  have HB2 : Hid (Below w.heap.size w w2) := Below.then HB1.out hb
  clear hb K1 HB1 k0 k1 hc hx
  have k0 := K2.c0
  have k1 := K2.c1
  go_wp2_with fail
  refine (byAnti_any n a len cap f _ hl K2.row (HT.out.step HB2.out)).mono ?_
  rintro e w3 ⟨⟨c', vb, hc', rfl, hx'⟩, hb⟩
  obtain rfl := Chk.unique hc' HC.out
  have HX' : Hid ((c' ≠ 0 ∧ vb = .slice none 0 0) ∨ (c' = 0 ∧ NSl w3 vb (shape (strg (nat f) len) len))) := hx'
  have K3 := K2.step hb
  have HB3 : Hid (Below w.heap.size w w3) := Below.then HB2.out hb
  have HBL : Hid (Below w2.heap.size w2 w3) := hb
  clear hb K2 HB2 k0 k1 hc' hx'
  by_cases h0 : c' = 0
  · subst h0
    obtain ⟨rfl, h10, hrng, hord⟩ := HC.out.good
    obtain ⟨_, hN⟩ := HX.out.resolve_left fun h => h.1 rfl
    obtain ⟨_, hN'⟩ := HX'.out.resolve_left fun h => h.1 rfl
    obtain ⟨ra, ca, rfl, hra⟩ := shape_row hN
    obtain ⟨rb, cb, rfl, hrb⟩ := shape_row hN'
    have HRA : Hid (Row w3 ra (widG (nat f) len) (fun k => (lam (nat f) len k : Nat))) := hra.below HBL.out
    have HRB : Hid (Row w3 rb (hei (nat f) len) (fun k => (mu (nat f) len k : Nat))) := hrb
    have HSM : Hid (Sm len len (nat f)) := hrng.small
    have HOD : Hid (Ord len (nat f)) := hord
    have hW : widG (nat f) len ≤ 10 := Nat.le_trans (widG_le h10) h10
    have hH : hei (nat f) len ≤ 10 := Nat.le_trans (hei_le h10) h10
    have HTOP : Hid (mxL (nat f) len (widG (nat f) len) = hei (nat f) len) := mxL_top h10 hrng.small hord
    have k0 := K3.c0
    clear HX HX' hN hN' hra hrb hrng hord HC HBL
    rw [show frs (kin (nat f) len) len (pw len - 1) = widG (nat f) len from rfl, show frs (strg (nat f) len) len (pw len - 1) = hei (nat f) len from rfl]
    obtain ⟨W, HW⟩ : ∃ W, Hid (W = widG (nat f) len) := ⟨_, rfl⟩
    obtain ⟨H, HH⟩ : ∃ H, Hid (H = hei (nat f) len) := ⟨_, rfl⟩
    rw [← HW.out] at HRA hW HTOP ⊢
    rw [← HH.out] at HRB hH HTOP ⊢
    go_wp2_with fail
    go_loopw [7, 8, 9] (fun x y z wx => ∃ k : Nat, k ≤ W ∧ x = .int .i64 (mxL (nat f) len k : Nat) ∧ y = .int .i64 (cK (nat f) len k : Nat) ∧ z = .int .i64 (k : Nat) ∧ Hid (Below w3.heap.size w3 wx)) (fun _ _ z _ => W - (intOf z).toNat)
    case atStart =>
      refine ⟨0, Nat.zero_le _, rfl, ?_, rfl, Below.refl _ _⟩
      rw [show cK (nat f) len 0 = 0 from (kin_foe h10 HSM.out HOD.out).Msh_zero]; rfl
    case round =>
      obtain ⟨k, hk, rfl, rfl, rfl, hWx⟩ := hrel
      by_cases hkW : k < W
      · have hkW' : (k : Int) < (W : Int) := by omega
        obtain ⟨b1, o1, rfl, hc1⟩ := (HRA.out.below hWx.out).at hkW
        have d1 := hc1 k hkW
        have l1 : 1 ≤ lam (nat f) len k := lam_pos h10 HSM.out HOD.out (by rw [← HW.out]; exact hkW)
        have l2 := lam_le (nat f) len h10 k
        have m1 : mxL (nat f) len k ≤ 10 := mxL_le k fun i _ => lam_le (nat f) len h10 i
        have m2 : cK (nat f) len k ≤ 10 := Nat.le_trans (Msh_le h10 k) h10
        have HNX : Hid (cK (nat f) len k + lam (nat f) len k = cK (nat f) len (k + 1)) := by
          have h1 := cK_more (kin_foe h10 HSM.out HOD.out) (show k < frs (kin (nat f) len) len (pw len - 1) by rw [HW.out] at hkW; exact hkW)
          unfold lam
          show Msh (kin (nat f) len) len k + (Msh (kin (nat f) len) len (k + 1) - Msh (kin (nat f) len) len k) = Msh (kin (nat f) len) len (k + 1)
          omega
        have HMX : Hid (max (mxL (nat f) len k) (lam (nat f) len k) = mxL (nat f) len (k + 1)) := rfl
        have HFALL : Hid (∀ i, i + 1 < W → lam (nat f) len (i + 1) ≤ lam (nat f) len i) := fun i hi => (greene h10 HSM.out HOD.out).fall i (Nat.zero_le _) (by rw [← HW.out]; exact hi)
        have HC1 : Hid (∀ j, j < W → wr.cell? ⟨b1, o1 + j, none⟩ = some (.int .i64 (lam (nat f) len j : Nat))) := hc1
        clear hc1
        generalize hL : lam (nat f) len k = L at *
        generalize hM : mxL (nat f) len k = M at *
        generalize hCK : cK (nat f) len k = Ck at *
        have dlt : decide ((L : Int) < 1) = false := by simp; omega
        by_cases hk0 : k = 0
        · subst hk0
          clear hL hM hCK
          rw [Nat.add_zero] at d1
          go_wp2_with fail
          go_quiet (fail)
          go_wp2_with fail
          go_roundw
          case rel =>
            refine ⟨0 + 1, by omega, ?_, ?_, ?_, below_drewN hWx.out _⟩
            · rw [← HMX.out]; congr 1; split <;> omega
            · rw [← HNX.out]; congr 1
            · congr 1
          case measure => simp [intOf]; omega
        · obtain ⟨q, rfl⟩ : ∃ q, k = q + 1 := ⟨k - 1, by omega⟩
          have d0 := HC1.out q (by omega)
          have hf : L ≤ lam (nat f) len q := by rw [← hL]; exact HFALL.out q hkW
          clear hL hM hCK
          generalize lam (nat f) len q = L0 at *
          have dgt : decide ((L : Int) > (L0 : Int)) = false := by simp; omega
          have dk : decide (((q + 1 : Nat) : Int) > 0) = true := decide_eq_true (by omega)
          go_wp2_with fail
          go_quiet (fail)
          go_wp2_with fail
          go_roundw
          case rel =>
            refine ⟨q + 1 + 1, by omega, ?_, ?_, ?_, below_drewN hWx.out _⟩
            · rw [← HMX.out]; congr 1; split <;> omega
            · rw [← HNX.out]; congr 1
            · congr 1
          case measure => simp [intOf]; omega
      · obtain rfl : k = W := by omega
        have e1 : cK (nat f) len k = len := by rw [HW.out]; exact Msh_full h10 (Nat.le_refl _)
        rw [e1, HTOP.out]
        have k0' := (K3.step hWx.out).c0
        have hlen0 : (((len : Nat) : Int) != ((len : Nat) : Int)) = false := by simp
        have hH0 : (((H : Nat) : Int) != ((H : Nat) : Int)) = false := by simp
        have HRA2 : Hid (Row wr ra k (fun k => (lam (nat f) len k : Nat))) := HRA.out.below hWx.out
        have HRB2 : Hid (Row wr rb H (fun k => (mu (nat f) len k : Nat))) := HRB.out.below hWx.out
        have HBW : Hid (Below w.heap.size w wr) := Below.then HB3.out hWx.out
        clear e1 hk
        go_wp2_with fail
        go_loopw [10] (fun x wx => ∃ j : Nat, j ≤ H ∧ x = .int .i64 ((j + 1 : Nat) : Int) ∧ Hid (Below wr.heap.size wr wx)) (fun x _ => H + 1 - (intOf x).toNat)
        case atStart => exact ⟨0, Nat.zero_le _, rfl, Below.refl _ _⟩
        case round =>
          obtain ⟨j, hj, rfl, hWy⟩ := hrel
          by_cases hjH : j < H
          · have hjH' : ((j + 1 : Nat) : Int) ≤ (H : Int) := by omega
            have HRA3 : Hid (Row wr ra k (fun k => (lam (nat f) len k : Nat))) := HRA2.out.below hWy.out
            obtain ⟨b2, o2, rfl, hc2⟩ := (HRB2.out.below hWy.out).at hjH
            have e1 := hc2 j hjH
            have HRB3 : Hid (Row wr (some ⟨b2, o2, none⟩) H (fun k => (mu (nat f) len k : Nat))) := HRB2.out.below hWy.out
            have HBW2 : Hid (Below w.heap.size w wr) := Below.then HBW.out hWy.out
            have HTURN : Hid (mu (nat f) len j = cnt2 (fun i => decide (j + 1 ≤ lam (nat f) len i)) k) := by
              rw [HW.out]; exact greene_turn h10 HSM.out HOD.out (by rw [← HH.out]; exact hjH)
            obtain ⟨P, HP⟩ : ∃ P : Nat → Bool, Hid (P = fun i => decide (j + 1 ≤ lam (nat f) len i)) := ⟨_, rfl⟩
            rw [← HP.out] at HTURN
            rw [HTURN.out] at e1
            clear hc2 k0'
            go_wp2_with fail
            go_loopw [11, 12] (fun x y wx => ∃ q : Nat, q ≤ k ∧ x = .int .i64 (cnt2 P q : Nat) ∧ y = .int .i64 (q : Nat) ∧ Hid (Below wr.heap.size wr wx)) (fun _ y _ => k - (intOf y).toNat)
            case atStart => exact ⟨0, Nat.zero_le _, rfl, rfl, Below.refl _ _⟩
            case round =>
              obtain ⟨q, hq, rfl, rfl, hWz⟩ := hrel
              have hcq := cnt2_le P q
              by_cases hqk : q < k
              · have hqk' : (q : Int) < (k : Int) := by omega
                obtain ⟨b1, o1, rfl, hc1⟩ := (HRA3.out.below hWz.out).at hqk
                have d1 := hc1 q hqk
                have hPq : P q = decide (j + 1 ≤ lam (nat f) len q) := by rw [HP.out]
                have l2 := lam_le (nat f) len h10 q
                clear hc1
                generalize lam (nat f) len q = L at *
                by_cases hjL : j + 1 ≤ L
                · have HY : Hid (cnt2 P (q + 1) = cnt2 P q + 1) := cnt2_yes (by rw [hPq]; simpa using hjL)
                  have dge : decide ((L : Int) ≥ ((j + 1 : Nat) : Int)) = true := decide_eq_true (by omega)
                  clear hPq
                  generalize cnt2 P q = C at *
                  go_wp2_with fail
                  go_roundw
                  case rel => exact ⟨q + 1, by omega, by rw [HY.out]; congr 1, by congr 1, hWz⟩
                  case measure => simp [intOf]; omega
                · have HY : Hid (cnt2 P (q + 1) = cnt2 P q) := cnt2_no (by rw [hPq]; simpa using hjL)
                  have dge : decide ((L : Int) ≥ ((j + 1 : Nat) : Int)) = false := decide_eq_false (by omega)
                  clear hPq
                  generalize cnt2 P q = C at *
                  go_wp2_with fail
                  go_roundw
                  case rel => exact ⟨q + 1, by omega, by rw [HY.out], by congr 1, hWz⟩
                  case measure => simp [intOf]; omega
              · obtain rfl : q = k := by omega
                have e2 := HRB3.out.below hWz.out
                obtain ⟨b2', o2', e3, hc3⟩ := e2.at hjH
                have e4 : o2' = o2 ∧ b2' = b2 := by injection e3 with e3; injection e3 with h1 h2; exact ⟨h2.symm, h1.symm⟩
                obtain ⟨rfl, rfl⟩ := e4
                have d1 := hc3 j hjH
                rw [HTURN.out] at d1
                have hnn : (((cnt2 P q : Nat) : Int) != ((cnt2 P q : Nat) : Int)) = false := by simp
                clear hc3 e2 e3 hq
                generalize cnt2 P q = C at *
                go_wp2_with fail
                go_roundw
                case rel => exact ⟨j + 1, by omega, by congr 1, Below.then hWy.out hWz.out⟩
                case measure => simp [intOf]; omega
          · obtain rfl : j = H := by omega
            have hge : decide (((j + 1 : Nat) : Int) ≤ ((j : Nat) : Int)) = false := decide_eq_false (by omega)
            have HBW2 : Hid (Below w.heap.size w wr) := Below.then HBW.out hWy.out
            go_wp2_with fail
            go_ret
            exact ⟨rfl, HBW2.out⟩
  · have hne : (c' != 0) = true := by simpa using h0
    have heq : (c' == c') = true := by simp
    clear HX HX'
    go_wp2_with fail
    go_ret
    exact ⟨by simp, HB3.out⟩
end Go.Proofs.YtadocffdneiaaaaDoor
