/-
  What embed.least answers, handed a closure. Conditions: at most twelve things; the closure answers P wherever what lay at first still lies, and writes nothing there.
-/
import Derived.Test.YtimpgcmkdcmhkabDoorEmR
namespace Go.Proofs.YtimpgcmkdcmhkabDoor
set_option maxRecDepth 100000
open Go.RowKit

/-- A closure that answers P of two numbers below m, wherever what lay at first still lies. -/
def Clo2 (m F : Nat) (caps : Array Value) (P : Nat → Nat → Bool) (w : World) : Prop :=
  ∀ x y : Nat, x < m → y < m → ∀ W : World, Below w.heap.size w W → Calls Tryd.prog F (#[.int .i64 (x : Nat), .int .i64 (y : Nat)] ++ caps) W fun e w' => e = .returned (.bool (P x y)) ∧ Below W.heap.size W w'
theorem bad_self (P : Nat → Nat → Bool) (k : Nat) : badB P k k = false := by simp [badB]
theorem bad_no {P : Nat → Nat → Bool} {k i : Nat} (h : P i k = false) : badB P k i = false := by simp [badB, h]
theorem bad_both {P : Nat → Nat → Bool} {k i : Nat} (h : P k i = true) (hi : ¬ i < k) : badB P k i = false := by simp [badB, h]; omega
theorem bad_less {P : Nat → Nat → Bool} {k i : Nat} (h : P i k = true) (hi : i < k) : badB P k i = true := by simp [badB, h, hi]; omega
theorem bad_one {P : Nat → Nat → Bool} {k i : Nat} (h : P i k = true) (h2 : P k i = false) (hi : i ≠ k) : badB P k i = true := by simp [badB, h, h2, hi]

set_option maxHeartbeats 4000000 in
theorem least_any (n F : Nat) (caps : Array Value) (P : Nat → Nat → Bool) (w : World) (hn : n ≤ 12) (hF : Ent F) (hcl : Clo2 n F caps P w) :
    Calls Tryd.prog 19 #[.int .i64 (n : Nat), .func (.func F) #[] caps] w fun e w' => (∃ v, e = .returned v ∧ NSl w' v (lst P n n) ∧ ∀ k, v.ownBlock = some k → w.heap.size ≤ k) ∧ Below w.heap.size w w' := by
  have HCL : Hid (Clo2 n F caps P w) := hcl
  clear hcl
  obtain ⟨i0, hi, hz0, hz1, hz2⟩ := info_parts Tryd.info3
  go_enter Tryd.func19, Tryd.ntmps19
  go_wp2
  go_step3
  go_wp2_with fail
  go_step3
  go_wp2_with fail
  go_loopw [5, 9] (fun v i wx => ∃ k : Nat, k ≤ n ∧ i = .int .i64 k ∧ wx.ownsRow w.heap.size 3 1 v (lst P n k).length (natVals (lst P n k)) ∧ Hid (Below w.heap.size w wx)) (fun _ i _ => n - (intOf i).toNat)
  case atStart => exact ⟨0, Nat.zero_le _, rfl, World.ownsRow_nil _ _ _ _, Below.refl _ _⟩
  case round =>
    obtain ⟨k, hk, rfl, hown, hB⟩ := hrel
    by_cases hlt : k < n
    · go_wp2_with fail
      go_loopg [13] n (fun m t wy => ∃ p : Nat, p ≤ n ∧ t = .int .i64 p ∧ n - p ≤ m ∧ Hid (∀ q, q < p → badB P k q = false) ∧ Hid (Below w.heap.size w wy) ∧ wy.ownsRow w.heap.size 3 1 u5 (lst P n k).length (natVals (lst P n k)))
      case atStart => exact ⟨0, Nat.zero_le _, rfl, Nat.sub_le _ _, upto_zero, hB.out, hown⟩
      case round =>
        clear hB hown
        obtain ⟨p, hp, rfl, hmp, hok, hB, hown⟩ := hrel
        by_cases hpl : p < n
        · by_cases hpk : p = k
          · subst hpk
            have HN : Hid (∀ q, q < p + 1 → badB P p q = false) := upto_succ hok.out (bad_self P p)
            go_wp2_with fail
            go_roundg (gk - 1)
            case rel => exact ⟨p + 1, by omega, by go_num, by omega, HN.out, hB.out, hown⟩
            case measure => omega
          · have hne : ((p : Int) != (k : Int)) = true := by simp; omega
            have HC := HCL.out p k hpl hlt _ hB.out
            rcases (Bool.eq_false_or_eq_true (P p k)).symm with hp1 | hp1
            · have HN : Hid (∀ q, q < p + 1 → badB P k q = false) := upto_succ hok.out (bad_no hp1)
              rw [hp1] at HC
              clear hp1 hok
              go_wp2_with fail
              rw [hF, Oper.upon_enter]
              refine HC.mono ?_
              rintro e w' ⟨rfl, hbw⟩
              have HW2 : Hid (Below w.heap.size w w') := Below.then hB.out hbw
              have hown2 := owns_below hown hbw
              clear HC hbw hB hown
              go_wp2_with fail
              go_roundg (gk - 1)
              case rel => exact ⟨p + 1, by omega, by go_num, by omega, HN.out, HW2.out, hown2⟩
              case measure => omega
            · by_cases hless : p < k
              · have HE : Hid (lst P n (k + 1) = lst P n k) := lst_no hpl (bad_less hp1 hless)
                rw [hp1] at HC
                clear hp1 hok
                go_wp2_with fail
                rw [hF, Oper.upon_enter]
                refine HC.mono ?_
                rintro e w' ⟨rfl, hbw⟩
                have HW2 : Hid (Below w.heap.size w w') := Below.then hB.out hbw
                have hown2 := owns_below hown hbw
                clear HC hbw hB hown
                go_wp2_with fail
                go_roundw
                case rel => exact ⟨k + 1, by omega, by go_num, by rw [HE.out]; exact hown2, HW2⟩
                case measure => simp [intOf]; omega
              · have hnl : decide ((p : Int) < (k : Int)) = false := by simp; omega
                rcases (Bool.eq_false_or_eq_true (P k p)).symm with hp2 | hp2
                · have HE : Hid (lst P n (k + 1) = lst P n k) := lst_no hpl (bad_one hp1 hp2 hpk)
                  rw [hp1] at HC
                  clear hp1 hok
                  go_wp2_with fail
                  rw [hF, Oper.upon_enter]
                  refine HC.mono ?_
                  rintro e w' ⟨rfl, hbw⟩
                  have HW2 : Hid (Below w.heap.size w w') := Below.then hB.out hbw
                  have hown2 := owns_below hown hbw
                  have HC2 := HCL.out k p hlt hpl _ HW2.out
                  rw [hp2] at HC2
                  clear HC hbw hB hown hp2
                  go_wp2_with fail
                  rw [hF, Oper.upon_enter]
                  refine HC2.mono ?_
                  rintro e w2 ⟨rfl, hbw⟩
                  have HW3 : Hid (Below w.heap.size w w2) := Below.then HW2.out hbw
                  have hown3 := owns_below hown2 hbw
                  clear HC2 hbw HW2 hown2
                  go_wp2_with fail
                  go_roundw
                  case rel => exact ⟨k + 1, by omega, by go_num, by rw [HE.out]; exact hown3, HW3⟩
                  case measure => simp [intOf]; omega
                · have HN : Hid (∀ q, q < p + 1 → badB P k q = false) := upto_succ hok.out (bad_both hp2 hless)
                  rw [hp1] at HC
                  clear hp1 hok
                  go_wp2_with fail
                  rw [hF, Oper.upon_enter]
                  refine HC.mono ?_
                  rintro e w' ⟨rfl, hbw⟩
                  have HW2 : Hid (Below w.heap.size w w') := Below.then hB.out hbw
                  have hown2 := owns_below hown hbw
                  have HC2 := HCL.out k p hlt hpl _ HW2.out
                  rw [hp2] at HC2
                  clear HC hbw hB hown hp2
                  go_wp2_with fail
                  rw [hF, Oper.upon_enter]
                  refine HC2.mono ?_
                  rintro e w2 ⟨rfl, hbw⟩
                  have HW3 : Hid (Below w.heap.size w w2) := Below.then HW2.out hbw
                  have hown3 := owns_below hown2 hbw
                  clear HC2 hbw HW2 hown2
                  go_wp2_with fail
                  go_roundg (gk - 1)
                  case rel => exact ⟨p + 1, by omega, by go_num, by omega, HN.out, HW3.out, hown3⟩
                  case measure => omega
        · obtain rfl : p = n := by omega
          have HE : Hid (lst P p (k + 1) = lst P p k ++ [k]) := lst_yes hok.out
          have hlen := lst_len P p k
          have hsz := hB.out.size
          obtain ⟨L, HL⟩ : ∃ L, Hid (L = lst P p k) := ⟨_, rfl⟩
          rw [← HL.out] at hown hlen
          go_wp2_with (at_builtin; refine wpList_append_own _ rfl _ _ 22 rfl w.heap.size 3 i0 (.int .i64 0) 1 8 Tryd.underlying22 hi hz0 hz1 hz2 rfl (by decide) _ _ _ rfl (hown.alloc _) ⟨wr.heap.size, 0, none⟩ 1 1 [.int .i64 (k : Nat)] rfl rfl ?c1 ?c2 ?c3 ?c4 ?c5 ?_)
          case c1 =>
            intro j u hj
            match j, hj with
            | 0, hj => simp at hj; subst hj; simp [Addr.add]
          case c2 => intro u hu; simp at hu; subst hu; rfl
          case c3 => unfold maxLen; omega
          case c4 => omega
          case c5 => simp; omega
          intro v' w2 hown' hgrow _
          have HB5 : Hid (Below w.heap.size w w2) := below_append3 hB.out hown hgrow
          have HO5 : Hid (w2.ownsRow w.heap.size 3 1 v' (lst P p (k + 1)).length (natVals (lst P p (k + 1)))) := by
            rw [HE.out, ← HL.out, natVals_append, List.length_append]; exact hown'
          clear hown' hgrow hown hB hlen hsz HL
          go_wp2_with fail
          go_roundw
          case rel => exact ⟨k + 1, by omega, by go_num, HO5.out, HB5.out⟩
          case measure => simp [intOf]; omega
    · obtain rfl : k = n := by omega
      have HF : Hid (NSl wr u5 (lst P k k) ∧ ∀ q, u5.ownBlock = some q → w.heap.size ≤ q) := ⟨owns_nats hown, owns_block hown⟩
      clear hown
      go_wp2
      rw [Exit.noGoto_ret]
      go_ret
      exact ⟨⟨_, rfl, HF.out⟩, hB.out⟩
end Go.Proofs.YtimpgcmkdcmhkabDoor
