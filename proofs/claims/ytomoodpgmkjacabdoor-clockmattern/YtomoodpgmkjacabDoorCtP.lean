/-
  What clock.Counts answers, whatever it is handed. Conditions: a slice reads as a slice of events, and has room for them; the table of the least bits.
-/
import Derived.Test.YtomoodpgmkjacabDoorCtM
namespace Go.Proofs.YtomoodpgmkjacabDoor
set_option maxRecDepth 100000
open Go.RowKit

/-- What comes with a code: counts in rows, or nothing. -/
def CtsPost (Wk : Int) (len : Nat) (E : Nat → Int × Int × Int) (e : Ending) (w' : World) : Prop :=
  ∃ (c : Int) (v : Value), CkE Wk len E c ∧ e = .returned (.tuple #[v, .int .i64 c]) ∧ ((c ≠ 0 ∧ v = .slice none 0 0) ∨ (c = 0 ∧ ∃ (Wn B : Nat) (r : Nat → Nat), Wk = Wn ∧ v = .slice (some ⟨B, 0, none⟩) len len ∧ CM w' B r len Wn len (cts E len)))
set_option maxHeartbeats 4000000 in
theorem counts_any (Wk : Int) (a : Option Addr) (len cap : Nat) (E : Nat → Int × Int × Int) (w : World) (hl : len ≤ maxLen) (hc : len ≤ cap) (hr : ERow w a len E) (hT : Tab w) :
    Calls Tryd.prog 6 #[.int .i64 Wk, .slice a len cap] w fun e w' => CtsPost Wk len E e w' ∧ Below w.heap.size w w' := by
  have HR : Hid (ERow w a len E) := hr
  have HL : Hid (len ≤ maxLen) := hl
  have HT : Hid (Tab w) := hT
  clear hr hl hT
  go_enter Tryd.func6, Tryd.ntmps6
  go_wp2_with fail
  refine (ahead_any Wk a len cap E _ HL.out hc HR.out).mono ?_
  rintro e w1 ⟨⟨c, x, hck, rfl, hx⟩, hb1⟩
  have HB1 : Hid (Below w.heap.size w w1) := hb1
  have HC : Hid (CkE Wk len E c) := hck
  clear hb1 hck
  rcases hx with ⟨h0, rfl⟩ | ⟨rfl, b, hbs, rfl, hO⟩
  · have HB2 : Hid (∀ o, Below w.heap.size w (w1.alloc o)) := fun o => HB1.out.alloc HB1.out.size o
    have h0' : (c != 0) = true := by simpa using h0
    unfold noOrder
    go_wp2_with fail
    go_ret2
    exact ⟨⟨c, _, HC.out, rfl, .inl ⟨h0, rfl⟩⟩, HB2.out _⟩
  · obtain ⟨⟨hW1, hW4, h10⟩, hev⟩ := HC.out.good
    obtain ⟨Wn, rfl⟩ := Int.eq_ofNat_of_zero_le (show 0 ≤ Wk by omega)
    have HWK : Hid (∀ j, j < len → (E j).2.1 = (wrk E j : Nat) ∧ wrk E j < Wn) := fun j hj => by
      have := (hev j hj).good.2.1
      unfold wrk; omega
    clear hev
    have HSM : Hid (∀ k, k < len → ahd E len k < 1024) := fun k hk => Nat.lt_of_lt_of_le (ahd_sm E len k hk) (pw_le len h10)
    have HUP : Hid (∀ i, i < len → upto (ahd E len) i < 1024 ∧ ∀ k, k ∈ pts (upto (ahd E len) i) 10 → k < len) := fun i hi => by
      have h1 := upto_lt (HSM.out i hi) (show i < 10 by omega)
      refine ⟨h1, fun k hk => ?_⟩
      have hlt : upto (ahd E len) i < pw len := Nat.or_lt_two_pow (ahd_sm E len i hi) (Nat.pow_lt_pow_right (by decide) hi)
      have h2 : pts (upto (ahd E len) i) 10 = pts (upto (ahd E len) i) len := by
        have := pts_more hlt (10 - len)
        rw [show len + (10 - len) = 10 by omega] at this
        exact this
      rw [h2] at hk
      exact pts_lt _ _ _ hk
    obtain ⟨W, HW⟩ : ∃ W, Hid (w1.alloc (.cells #[.int .i64 (len : Int), .slice (some ⟨b, 0, none⟩) len len] 26) = W) := ⟨_, rfl⟩
    obtain ⟨X, HXE⟩ : ∃ X, Hid (w1.heap.size = X) := ⟨_, rfl⟩
    have HH : Hid (Held W X (len : Int) (some ⟨b, 0, none⟩) len len (fun k => (ahd E len k : Nat))) := by rw [← HW.out, ← HXE.out]; exact Held.box hO.row
    have HB2 : Hid (Below w.heap.size w W) := by rw [← HW.out]; exact HB1.out.alloc HB1.out.size _
    clear hO HB1
    obtain ⟨i5, hi5, hz0, hz1, hz2⟩ := info_parts Tryd.infoL
    obtain ⟨i0, hi0, hy0, hy1, hy2⟩ := info_parts Tryd.info3
    go_upto_region 4 with fail
    rw [HW.out, HXE.out]
    clear HW HXE
    go_wp2_with (at_make; refine wpList_make_full _ rfl _ _ 30 rfl W.heap.size 24 i5 (.slice none 0 0) 1 Tryd.underlying30 hi5 hz0 hz1 .i64 .i64 _ _ len rfl rfl rfl rfl (by rw [hz2]; omega) (by unfold maxLen; omega) (Nat.le_refl _) ?_; intro w2 hown2 hgrow2)
    have hb2 : Below W.heap.size W w2 := (Below.refl _ _).grown hgrow2 (Nat.le_refl _) (by simp)
    have HCM : Hid (CM w2 W.heap.size (fun _ => 0) len Wn 0 (cts E len)) := ⟨fun j hj => absurd hj (Nat.not_lt_zero _), fun j _ hj => (rowsl_made hown2 j hj).1, fun j hj => (rowsl_made hown2 j hj).2, fun j hj => absurd hj (Nat.not_lt_zero _), fun j hj => absurd hj (Nat.not_lt_zero _), fun i j hi => absurd hi (Nat.not_lt_zero _), (hown2.lt _ rfl).2⟩
    have HB3 : Hid (Below W.heap.size W w2) := hb2
    clear hown2 hgrow2 hb2
    obtain ⟨B, HBE⟩ : ∃ B, Hid (W.heap.size = B) := ⟨_, rfl⟩
    rw [HBE.out] at HCM
    rw [HBE.out]
    have HHB : Hid (∀ w', Below B W w' → Held w' X (len : Int) (some ⟨b, 0, none⟩) len len (fun k => ((ahd E len k : Nat) : Int))) := fun w' h => HH.out.step (by rw [HBE.out]; exact h)
    have HTB : Hid (∀ w', Below B W w' → Tab w') := fun w' h => HT.out.step (HB2.out.trans (h.mono (by rw [← HBE.out]; exact HB2.out.size)))
    have HRB : Hid (∀ w', Below B W w' → ERow w' a len E) := fun w' h => HR.out.below (HB2.out.trans (h.mono (by rw [← HBE.out]; exact HB2.out.size)))
    go_wp2_with fail
    go_loopw [26] (fun t wx => ∃ (i : Nat) (r : Nat → Nat), i ≤ len ∧ t = .int .i64 i ∧ Hid (CM wx B r len Wn i (cts E len)) ∧ Hid (Below B W wx)) (fun t _ => len - (intOf t).toNat)
    case atStart => exact ⟨0, _, Nat.zero_le _, rfl, HCM.out, by rw [← HBE.out]; exact HB3.out⟩
    case round =>
      obtain ⟨i, r, hi, rfl, hM, hB⟩ := hrel
      clear HCM HB3
      by_cases hlt : i < len
      · have hlt' : (i : Int) < (len : Int) := by omega
        have hfz := hM.out.froz i hlt
        have hcz := hM.out.rest i (Nat.le_refl _) hlt
        have HBL : Hid (B < wr.heap.size) := hM.out.ltB
        go_upto_region 9 with (at_make; refine wpList_make_full _ rfl _ _ 24 rfl wr.heap.size 3 i0 (.int .i64 0) 1 Tryd.underlying24 hi0 hy0 hy1 .i64 .i64 _ _ Wn rfl rfl rfl rfl (by rw [hy2]; omega) (by unfold maxLen; omega) (Nat.le_refl _) ?_; intro w3 hown3 hgrow3; have hb3 : Below wr.heap.size wr w3 := (Below.refl _ _).grown hgrow3 (Nat.le_refl _) (by simp); have s0 := (hb3.cell (p := ⟨B, i, none⟩) HBL.out).trans hcz; have s1 := (hb3.frozen (p := ⟨B, i, none⟩) HBL.out).trans hfz; have HB3 : Hid (Below wr.heap.size wr w3) := hb3; have HOW : Hid (Own w3 wr.heap.size Wn (fun _ => 0)) := own_made hown3; have HLT : Hid (wr.heap.size < w3.heap.size) := (hown3.lt _ rfl).2; clear hown3 hgrow3 hb3)
        have HM4 : Hid (CM (w3.setCell ⟨B, i, none⟩ (.slice (some ⟨wr.heap.size, 0, none⟩) Wn Wn)) B (fun j => if j = i then wr.heap.size else r j) len Wn (i + 1) (fun j => if j = i then fun _ => 0 else cts E len j)) := hM.out.row HB3.out hlt HOW.out HLT.out
        have HB4 : Hid (Below B W (w3.setCell ⟨B, i, none⟩ (.slice (some ⟨wr.heap.size, 0, none⟩) Wn Wn))) := (hB.out.trans (HB3.out.mono (Nat.le_of_lt HBL.out))).setCell (p := ⟨B, i, none⟩) (Nat.le_refl _) _
        clear s0 s1 hfz hcz HB3 HOW HLT hM hB HBL
        generalize w3.setCell ⟨B, i, none⟩ (.slice (some ⟨wr.heap.size, 0, none⟩) Wn Wn) = W4 at *
        generalize (fun j => if j = i then wr.heap.size else r j) = r4 at *
        have k0 := (HHB.out _ HB4.out).c0
        have k1 := (HHB.out _ HB4.out).c1
        obtain ⟨hu1, hu2⟩ := HUP.out i hlt
        have HPM : Hid (∀ k, k ∈ pts (upto (ahd E len) i) 10 → k < len) := hu2
        clear hu2
        go_wp2_with fail
        refine (upTo_any (len : Int) _ len len (ahd E len) i _ h10 HSM.out (HHB.out _ HB4.out).row hlt).mono ?_
        rintro e w5 ⟨rfl, hb5⟩
        have HB5 : Hid (Below B W w5) := HB4.out.trans (hb5.mono (Nat.le_of_lt HM4.out.ltB))
        have HM5 : Hid (CM w5 B r4 len Wn (i + 1) (fun j => if j = i then fun _ => 0 else cts E len j)) := HM4.out.step hb5
        clear hb5 HM4 HB4 k0 k1
        go_wp2_with fail
        refine (members_new (upto (ahd E len) i) _ hu1 (HTB.out _ HB5.out)).mono ?_
        rintro e w6 ⟨⟨v, rfl, hv, hfrv⟩, hb6⟩
        have HB6 : Hid (Below B W w6) := HB5.out.trans (hb6.mono (Nat.le_of_lt HM5.out.ltB))
        obtain ⟨P, HPE⟩ : ∃ P, Hid (pts (upto (ahd E len) i) 10 = P) := ⟨_, rfl⟩
        have HCE : Hid (cts E len i = cntL E P) := by show cts E len i = cntL E P; rw [← HPE.out]; rfl
        rw [HPE.out] at hv HPM
        obtain ⟨ap, capp, rfl, hrp⟩ := hv
        have HFR : Hid (∀ j, j < i + 1 → ∀ b off, ap = some ⟨b, off, none⟩ → b ≠ r4 j) := fun j hj => fresh_ne rfl hfrv (HM5.out.lt j hj).2
        have hPl : P.length ≤ 10 := by rw [← HPE.out]; exact pts_len _ _
        have HM6 : Hid (CM w6 B r4 len Wn (i + 1) (fun j => if j = i then cntL E (P.take 0) else cts E len j)) := by
          rw [List.take_zero, cntL_nil]; exact HM5.out.step hb6
        have HR6 : Hid (Row w6 ap P.length (fun k => (nth P k : Nat))) := hrp
        clear hb6 HM5 HB5 hrp hfrv HPE
        obtain ⟨nP, HNP⟩ : ∃ nP, Hid (P.length = nP) := ⟨_, rfl⟩
        rw [HNP.out] at HR6 hPl
        rw [HNP.out]
        go_wp2_with fail
        go_loopw [39] (fun t wx => ∃ m : Nat, m ≤ nP ∧ t = .int .i64 m ∧ Hid (CM wx B r4 len Wn (i + 1) (fun j => if j = i then cntL E (P.take m) else cts E len j)) ∧ Hid (Row wx ap nP (fun k => (nth P k : Nat))) ∧ Hid (Below B W wx)) (fun t _ => nP - (intOf t).toNat)
        case atStart => exact ⟨0, Nat.zero_le _, rfl, HM6.out, HR6.out, HB6.out⟩
        case round =>
          obtain ⟨m, hm, rfl, hM, hRm, hB⟩ := hrel
          clear HM6 HR6 HB6
          by_cases hml : m < nP
          · have hml' : (m : Int) < (nP : Int) := by omega
            obtain ⟨bp, op, rfl, hcp⟩ := hRm.out m hml
            have hkl : nth P m < len := HPM.out _ (by
              have : m < P.length := by rw [HNP.out]; exact hml
              simp only [nth, List.getD_eq_getElem?_getD, List.getElem?_eq_getElem this]
              exact List.getElem_mem this)
            have HTK : Hid (P.take (m + 1) = P.take m ++ [nth P m]) := take_snoc (by rw [HNP.out]; exact hml)
            obtain ⟨k, hkE⟩ : ∃ k, nth P m = k := ⟨_, rfl⟩
            dsimp only at hcp
            rw [hkE] at hcp hkl HTK
            clear hkE
            have hkl' : (k : Int) < (len : Int) := by omega
            obtain ⟨be, oe, rfl, e1, e2, e3⟩ := (HRB.out _ hB.out) k hkl
            obtain ⟨hw1, hw2⟩ := HWK.out k hkl
            rw [hw1] at e2
            clear hw1 e1 e3
            have cB := hM.out.cells i (Nat.lt_succ_self _)
            obtain ⟨ru, rf⟩ := hM.out.rows i (Nat.lt_succ_self _) (wrk E k) hw2
            simp only [if_true] at ru
            have HCM7 : Hid (∀ nq, CM ((wr.drewN nq).setCell ⟨r4 i, wrk E k, none⟩ (.int .i64 ((cntL E (P.take m) (wrk E k) + 1 : Nat) : Int))) B r4 len Wn (i + 1) (fun j => if j = i then cntL E (P.take (m + 1)) else cts E len j)) := fun nq => by
              have h : CM (wr.drewN nq) B r4 len Wn (i + 1) (fun j => if j = i then cntL E (P.take m) else cts E len j) := ⟨hM.out.cells, hM.out.rest, hM.out.froz, hM.out.rows, hM.out.lt, hM.out.inj, hM.out.ltB⟩
              refine (h.set (x := cntL E (P.take m) (wrk E k) + 1) (Nat.lt_succ_self i) hw2).congr fun j hj => ?_
              by_cases e : j = i
              · simp only [e, if_true]; rw [HTK.out, cntL_snoc]
              · simp only [e, if_false]
            have hle := cntL_le E (P.take m) (wrk E k)
            have hle2 : cntL E (P.take m) (wrk E k) ≤ 10 := Nat.le_trans hle (by rw [List.length_take]; omega)
            have hrB : B ≤ r4 i := Nat.le_of_lt (hM.out.lt i (Nat.lt_succ_self _)).1
            have HBM : Hid (∀ (nq : Nat) (x : Value), Below B W ((wr.drewN nq).setCell ⟨r4 i, wrk E k, none⟩ x)) := fun nq x => (below_drewN hB.out nq).setCell (p := ⟨r4 i, wrk E k, none⟩) hrB _
            have HRM : Hid (∀ (nq : Nat) (x : Value), Row ((wr.drewN nq).setCell ⟨r4 i, wrk E k, none⟩ x) (some ⟨bp, op, none⟩) nP (fun k => (nth P k : Nat))) := fun nq x => Row.setOther (w := wr.drewN nq) hRm.out (HFR.out i (Nat.lt_succ_self _))
            generalize cntL E (P.take m) (wrk E k) = cv at *
            generalize r4 i = R at *
            generalize wrk E k = u at *
            clear hM hB hRm hle
            have hu' : (u : Int) < (Wn : Int) := by omega
            go_wp2_with fail
            go_region
            all_goals go_wp2
            all_goals go_roundw
            case rel => exact ⟨m + 1, by omega, by go_num, (by have h := HCM7.out 1; rw [Int.natCast_add] at h; exact h), HRM.out 1 _, HBM.out 1 _⟩
            case measure => simp [intOf]; omega
          · obtain rfl : m = nP := by omega
            have HMN : Hid (CM wr B r4 len Wn (i + 1) (cts E len)) := hM.out.congr fun j hj => by
              by_cases e : j = i
              · simp only [e, if_true]
                rw [HCE.out, ← HNP.out, List.take_length]
              · simp only [e, if_false]
            clear hM hRm
            go_wp2_with fail
            go_roundw
            case rel => exact ⟨i + 1, r4, by omega, by go_num, HMN.out, hB.out⟩
            case measure => simp [intOf]; omega
      · obtain rfl : i = len := by omega
        have HBF : Hid (Below w.heap.size w wr) := by
          have h1 := HB2.out.size
          have h2 : Below w.heap.size W wr := hB.out.mono (by rw [← HBE.out]; exact h1)
          exact HB2.out.trans h2
        go_wp2_with fail
        go_ret2
        exact ⟨⟨0, _, HC.out, rfl, .inr ⟨rfl, Wn, B, r, rfl, rfl, hM.out⟩⟩, HBF.out⟩
end Go.Proofs.YtomoodpgmkjacabDoor
