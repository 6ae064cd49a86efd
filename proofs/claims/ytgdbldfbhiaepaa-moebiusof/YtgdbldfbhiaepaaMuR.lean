/-
  What the reference's MuOf and OrderMu answer. Conditions: a rank that falls, what is below what is below is below; a closure that answers who is another one or below it.
-/
import Derived.Test.YtgdbldfbhiaepaaLatA
import Derived.Test.YtgdbldfbhiaepaaMuP
import Derived.Test.YtgdbldfbhiaepaaRefCheck
namespace Go.Proofs.Ytgdbldfbhiaepaa
open Go.RowKit Go.Maps

/-- Is one the other, or below it? -/
def uptB (B : Nat → Nat → Bool) (i j : Nat) : Bool := (i == j) || B i j
def offA (B : Nat → Nat → Bool) (n : Nat) (r : Nat → Nat) (a b k : Nat) : Int := 0 - sumI (fun c => if abv B a b c = true then mu1 B n r c b else 0) k
theorem offA_yes {B : Nat → Nat → Bool} {n : Nat} {r : Nat → Nat} {a b k : Nat} (h : abv B a b k = true) : offA B n r a b (k + 1) = offA B n r a b k - mu1 B n r k b := by
  unfold offA; rw [sumI, if_pos h]; omega
theorem offA_no {B : Nat → Nat → Bool} {n : Nat} {r : Nat → Nat} {a b k : Nat} (h : abv B a b k = false) : offA B n r a b (k + 1) = offA B n r a b k := by
  unfold offA; rw [sumI, if_neg (by rw [h]; decide)]; omega

set_option maxHeartbeats 2000000 in
theorem muOf_any {n F N : Nat} {caps : Array Value} {B : Nat → Nat → Bool} {r : Nat → Nat} {w : World} {b : Nat} (hn : n ≤ 40) (hb : b < n) (hr : Rk B n r) (ht : Tr B n) (hN : ∀ x, x < n → r x < N) (eF : Ent F) (hF : CloL n F caps (uptB B) w) :
    ∀ (d a : Nat) (W : World), a < n → N - r a < d → Below w.heap.size w W →
      Calls Try.prog 32 #[.int .i64 (n : Nat), .func (.func F) #[] caps, .int .i64 (a : Nat), .int .i64 (b : Nat)] W fun e w' => e = .returned (.int .i64 (wz (mu1 B n r a b))) ∧ Below w.heap.size w w' := by
  intro d
  induction d with
  | zero => intro a W _ h; exact absurd h (Nat.not_lt_zero _)
  | succ d ih =>
    intro a W ha hd hW
    have HIH : Hid (∀ (a : Nat) (W : World), a < n → N - r a < d → Below w.heap.size w W →
      Calls Try.prog 32 #[.int .i64 (n : Nat), .func (.func F) #[] caps, .int .i64 (a : Nat), .int .i64 (b : Nat)] W fun e w' => e = .returned (.int .i64 (wz (mu1 B n r a b))) ∧ Below w.heap.size w w') := ih
    have HF : Hid (CloL n F caps (uptB B) w) := hF
    have HW : Hid (Below w.heap.size w W) := hW
    have HR : Hid (∀ k, k < n → abv B a b k = true → N - r k < d) := fun k hk h => by
      have h1 : B a k = true := by
        unfold abv at h
        simp only [Bool.and_eq_true, Bool.or_eq_true, bne_iff_ne, beq_iff_eq] at h
        rcases h.1.2 with h2 | h2
        · exact absurd h2.symm h.1.1
        · exact h2
      have := hr a k ha hk h1
      have := hN k hk
      omega
    clear ih hF hW
    by_cases hab : a = b
    · subst hab
      have e1 : wz (mu1 B n r a a) = 1 := by rw [mu1_self hr ht ha]; simp [wz]
      rw [e1]
      clear hd hr ht hN
      go_enter Try.func32, Try.ntmps32
      go_wp2_with fail
      go_ret
      exact ⟨rfl, HW.out⟩
    · have hne : ((a : Int) == (b : Int)) = false := by simp; omega
      have HC0 := HF.out a b ha hb W HW.out
      cases hB : B a b
      · have e1 : wz (mu1 B n r a b) = 0 := by rw [mu1_zero hr ht ha (r b + 1) b hb (by omega) hab hB]; simp [wz]
        have hu : uptB B a b = false := by simp [uptB, hB, hab]
        rw [hu] at HC0
        rw [e1]
        clear hd hr ht hN hu hB
        go_enter Try.func32, Try.ntmps32
        go_wp2_with fail
        rw [eF, Oper.upon_enter]
        refine HC0.mono ?_
        rintro e w1 ⟨rfl, hb1⟩
        have HW1 : Hid (Below w.heap.size w w1) := Below.then HW.out hb1
        clear HC0 hb1 HW
        go_wp2_with fail
        go_ret
        exact ⟨rfl, HW1.out⟩
      · have HE : Hid (offA B n r a b n = mu1 B n r a b) := (mu1_above hr ht ha hb hB).symm
        have hu : uptB B a b = true := by simp [uptB, hB]
        rw [hu] at HC0
        clear hd hr ht hN hu hB
        go_enter Try.func32, Try.ntmps32
        go_wp2_with fail
        rw [eF, Oper.upon_enter]
        refine HC0.mono ?_
        rintro e w1 ⟨rfl, hb1⟩
        have HW1 : Hid (Below w.heap.size w w1) := Below.then HW.out hb1
        clear HC0 hb1 HW
        go_wp2_with fail
        go_loopw [9, 10] (fun v i wx => ∃ k : Nat, k ≤ n ∧ i = .int .i64 k ∧ v = .int .i64 (wz (offA B n r a b k)) ∧ Hid (Below w.heap.size w wx)) (fun _ i _ => n - (intOf i).toNat)
        case atStart => exact ⟨0, Nat.zero_le _, rfl, by simp [offA, sumI, wz], HW1⟩
        case round =>
          clear HW1
          obtain ⟨k, hk, rfl, rfl, HW⟩ := hrel
          by_cases hkn : k < n
          · by_cases hka : k = a
            · subst hka
              have HY : Hid (offA B n r k b (k + 1) = offA B n r k b k) := offA_no (by simp [abv])
              have hkk : ((k : Int) != (k : Int)) = false := by simp
              go_wp2_with fail
              go_roundw
              case rel => exact ⟨k + 1, by omega, by go_num, by rw [HY.out], HW⟩
              case measure => simp [intOf]; omega
            · have hka' : ((k : Int) != (a : Int)) = true := by simp; omega
              have HC1 := HF.out a k ha hkn wr HW.out
              cases h1 : uptB B a k
              · have HY : Hid (offA B n r a b (k + 1) = offA B n r a b k) := offA_no (by unfold uptB at h1; simp [abv, h1])
                rw [h1] at HC1
                clear h1
                go_wp2_with fail
                rw [eF, Oper.upon_enter]
                refine HC1.mono ?_
                rintro e w2 ⟨rfl, hb2⟩
                have HW2 : Hid (Below w.heap.size w w2) := Below.then HW.out hb2
                clear HC1 hb2 HW
                go_wp2_with fail
                go_roundw
                case rel => exact ⟨k + 1, by omega, by go_num, by rw [HY.out], HW2⟩
                case measure => simp [intOf]; omega
              · have HU1 : Hid (uptB B a k = true) := h1
                rw [h1] at HC1
                clear h1
                go_wp2_with fail
                rw [eF, Oper.upon_enter]
                refine HC1.mono ?_
                rintro e w2 ⟨rfl, hb2⟩
                have HW2 : Hid (Below w.heap.size w w2) := Below.then HW.out hb2
                have HC2 := HF.out k b hkn hb w2 HW2.out
                clear HC1 hb2 HW
                cases h2 : uptB B k b
                · have HY : Hid (offA B n r a b (k + 1) = offA B n r a b k) := offA_no (by unfold uptB at h2; simp [abv, h2])
                  rw [h2] at HC2
                  clear h2
                  go_wp2_with fail
                  rw [eF, Oper.upon_enter]
                  refine HC2.mono ?_
                  rintro e w3 ⟨rfl, hb3⟩
                  have HW3 : Hid (Below w.heap.size w w3) := Below.then HW2.out hb3
                  clear HC2 hb3 HW2
                  go_wp2_with fail
                  go_roundw
                  case rel => exact ⟨k + 1, by omega, by go_num, by rw [HY.out], HW3⟩
                  case measure => simp [intOf]; omega
                · have hv : abv B a b k = true := by
                    have h1 := HU1.out
                    unfold uptB at h1 h2
                    unfold abv
                    rw [h1, h2]; simp [hka]
                  have HY : Hid (offA B n r a b (k + 1) = offA B n r a b k - mu1 B n r k b) := offA_yes hv
                  have HLT : Hid (N - r k < d) := HR.out k hkn hv
                  rw [h2] at HC2
                  clear h2 hv
                  go_wp2_with fail
                  rw [eF, Oper.upon_enter]
                  refine HC2.mono ?_
                  rintro e w3 ⟨rfl, hb3⟩
                  have HW3 : Hid (Below w.heap.size w w3) := Below.then HW2.out hb3
                  clear HC2 hb3 HW2
                  go_wp2_with fail
                  refine (HIH.out k w3 hkn HLT.out HW3.out).mono ?_
                  rintro e w4 ⟨rfl, hb4⟩
                  have HW4 : Hid (Below w.heap.size w w4) := hb4
                  clear hb4 HW3
                  obtain ⟨X, HX⟩ : ∃ X, Hid (X = offA B n r a b k) := ⟨_, rfl⟩
                  obtain ⟨Y, HYY⟩ : ∃ Y, Hid (Y = mu1 B n r k b) := ⟨_, rfl⟩
                  rw [← HX.out, ← HYY.out]
                  rw [← HX.out, ← HYY.out] at HY
                  go_wp2_with fail
                  go_roundw
                  case rel => exact ⟨k + 1, by omega, by go_num, by rw [HY.out, ← wz_sub], HW4⟩
                  case measure => simp [intOf]; omega
          · obtain rfl : k = n := by omega
            rw [HE.out]
            go_wp2_with fail
            go_ret
            exact ⟨rfl, HW.out⟩
end Go.Proofs.Ytgdbldfbhiaepaa
