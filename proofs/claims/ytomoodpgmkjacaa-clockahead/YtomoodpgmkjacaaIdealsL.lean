/-
  What the reference's Ideals and hasselaw.numbersAre answer; hasselaw.OrderIdeals returns true for every order. No condition but that a slice reads as a slice of numbers.
-/
import Derived.Test.YtomoodpgmkjacaaIdealsP
import Derived.Test.YtomoodpgmkjacaaKeptB
namespace Go.Proofs.Ytomoodpgmkjacaa
open Go.RowKit

set_option maxHeartbeats 2000000 in
theorem refIdeals_any (a : Option Addr) (len cap : Nat) (g : Nat → Nat) (w : World) (h10 : len ≤ 10) (hg : ∀ k, k < len → g k < 1024) (hr : Row w a len (fun k => (g k : Nat))) :
    Calls Try.prog 18 #[.agg #[.int .i64 (len : Int), .slice a len cap]] w fun e w' => (∃ v, e = .returned v ∧ NSl w' v (idls g len)) ∧ Below w.heap.size w w' := by
  have HG : Hid (∀ k, k < len → g k < 1024) := hg
  have HR : Hid (Row w a len (fun k => (g k : Nat))) := hr
  clear hr hg
  obtain ⟨I, HI⟩ : ∃ I, Hid (I = fun s => idlTo g s len) := ⟨_, rfl⟩
  have HIA : Hid (∀ s, idlTo g s len = I s) := fun s => by rw [HI.out]
  have HCV : Hid (idls g len = fil I (pw len)) := by rw [HI.out]; rfl
  have hpw := pw_le len h10
  obtain ⟨i0, hi, hz0, hz1, hz2⟩ := info_parts Try.info3
  go_enter Try.func18, Try.ntmps18
  go_wp2
  go_loopw [3, 4] (fun v i wx => ∃ s : Nat, s ≤ pw len ∧ i = .int .i64 s ∧ wx.ownsRow (w.heap.size + 1) 3 1 v (fil I s).length (natVals (fil I s)) ∧ Hid (Below (w.heap.size + 1) (w.alloc (.cells #[.int .i64 (len : Int), .slice a len cap] 29)) wx)) (fun _ i _ => pw len - (intOf i).toNat)
  case atStart => exact ⟨0, Nat.zero_le _, rfl, World.ownsRow_nil _ _ _ _, Below.refl _ _⟩
  case round =>
    obtain ⟨s, hs, rfl, hown, hB⟩ := hrel
    have hH := Held.kept HR.out hB.out
    have c0 := hH.c0
    have c1 := hH.c1
    by_cases hlt : s < pw len
    · rcases (Bool.eq_false_or_eq_true (I s)).symm with hb | hb
      · have HE : Hid (fil I (s + 1) = fil I s) := fil_no hb
        go_wp2_with (go_at_call 31; refine (bit_any len _ (by omega)).mono ?_; rintro e w' ⟨rfl, rfl⟩)
        refine (ideal_any a len cap g s _ h10 (by omega) HG.out hH.row).mono ?_
        rintro e w1 ⟨rfl, hb1⟩
        rw [HIA.out s, hb]
        have HB2 : Hid (Below (w.heap.size + 1) (w.alloc (.cells #[.int .i64 (len : Int), .slice a len cap] 29)) w1) := below_call hB.out hb1
        have hown2 := owns_below hown hb1
        clear hown hb1 hH c0 c1 hB
        go_wp2_with fail
        go_roundw
        case rel => exact ⟨s + 1, by omega, by go_num, by rw [HE.out]; exact hown2, HB2.out⟩
        case measure => simp [intOf]; omega
      · have HE : Hid (fil I (s + 1) = fil I s ++ [s]) := fil_yes hb
        have hlen := fil_len I s
        go_wp2_with (go_at_call 31; refine (bit_any len _ (by omega)).mono ?_; rintro e w' ⟨rfl, rfl⟩)
        refine (ideal_any a len cap g s _ h10 (by omega) HG.out hH.row).mono ?_
        rintro e w1 ⟨rfl, hb1⟩
        rw [HIA.out s, hb]
        have HB2 : Hid (Below (w.heap.size + 1) (w.alloc (.cells #[.int .i64 (len : Int), .slice a len cap] 29)) w1) := below_call hB.out hb1
        have hown2 := owns_below hown hb1
        have hsz : w.heap.size + 1 ≤ w1.heap.size := by have := HB2.out.size; simpa using this
        clear hown hb1 hH c0 c1 hB
        obtain ⟨L, HL⟩ : ∃ L, Hid (L = fil I s) := ⟨_, rfl⟩
        rw [← HL.out] at hown2 hlen
        go_wp2_with (at_builtin; refine wpList_append_own _ rfl _ _ 27 rfl (w.heap.size + 1) 3 i0 (.int .i64 0) 1 8 Try.underlying27 hi hz0 hz1 hz2 rfl (by decide) _ _ _ rfl (hown2.alloc _) ⟨w1.heap.size, 0, none⟩ 1 1 [.int .i64 (s : Nat)] rfl rfl ?c1 ?c2 ?c3 ?c4 ?c5 ?_)
        case c1 =>
          intro j u hj
          match j, hj with
          | 0, hj => simp at hj; subst hj; simp [Addr.add]
        case c2 => intro u hu; simp at hu; subst hu; rfl
        case c3 => unfold maxLen; omega
        case c4 => omega
        case c5 => simp; omega
        intro v' w2 hown' hgrow _
        have HB3 : Hid (Below (w.heap.size + 1) (w.alloc (.cells #[.int .i64 (len : Int), .slice a len cap] 29)) w2) := below_append HB2.out hown2 hgrow
        have HO3 : Hid (w2.ownsRow (w.heap.size + 1) 3 1 v' (fil I (s + 1)).length (natVals (fil I (s + 1)))) := by
          rw [HE.out, ← HL.out, natVals_append, List.length_append]; exact hown'
        clear hown' hgrow hown2 HB2 hlen hsz HL
        go_wp2_with fail
        go_roundw
        case rel => exact ⟨s + 1, by omega, by go_num, HO3.out, HB3.out⟩
        case measure => simp [intOf]; omega
    · have hsn : s = pw len := by omega
      have HF : Hid (NSl wr u3 (idls g len)) := by rw [HCV.out, ← hsn]; exact owns_nats hown
      have hle : ((pw len : Nat) : Int) ≤ (s : Int) := by omega
      clear hown hH hsn hlt
      go_wp2_with (go_at_call 31; refine (bit_any len _ (by omega)).mono ?_; rintro e w' ⟨rfl, rfl⟩)
      go_ret
      exact ⟨⟨_, rfl, HF.out⟩, out_below hB.out⟩

theorem NSl.below {w w' : World} {v : Value} {l : List Nat} (h : NSl w v l) (hb : Below w.heap.size w w') : NSl w' v l := by
  obtain ⟨a, cap, rfl, hr⟩ := h
  exact ⟨a, cap, rfl, hr.below hb⟩
theorem idls_len (g : Nat → Nat) (n : Nat) (h : n ≤ 10) : (idls g n).length ≤ 1024 := Nat.le_trans (fil_len _ _) (pw_le n h)

end Go.Proofs.Ytomoodpgmkjacaa
