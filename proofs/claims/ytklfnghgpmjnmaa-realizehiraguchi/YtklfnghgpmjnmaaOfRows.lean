/-
  What the reference's OrderOf answers, handed the closure RowsOrder$1: the order by what the closure answers. Conditions: at most ten points; the closure answers P, and makes memory at most.
-/
import Derived.Test.YtklfnghgpmjnmaaBuild
namespace Go.Proofs.Ytklfnghgpmjnmaa
open Go.RowKit

set_option maxHeartbeats 1000000 in
theorem orderOf_rows (n : Nat) (b0 : Nat) (P : Nat → Nat → Bool) (w : World) (h10 : n ≤ 10)
    (hcl : ∀ (x y : Nat) (wx : World), x < n → y < n → Below w.heap.size w wx → Calls Try.prog 30 #[.int .i64 x, .int .i64 y, .pointer (some ⟨b0, 0, none⟩)] wx fun e w' => e = .returned (.bool (P x y)) ∧ Below wx.heap.size wx w') :
    Calls Try.prog 29 #[.int .i64 n, .func (.func 30) #[] #[.pointer (some ⟨b0, 0, none⟩)]] w fun e w' => OrderPost w n (fun y => setBy (fun x => P x y) n) e w' ∧ Below w.heap.size w w' := by
  have HCL : Hid (∀ (x y : Nat) (wx : World), x < n → y < n → Below w.heap.size w wx → Calls Try.prog 30 #[.int .i64 x, .int .i64 y, .pointer (some ⟨b0, 0, none⟩)] wx fun e w' => e = .returned (.bool (P x y)) ∧ Below wx.heap.size wx w') := hcl
  clear hcl
  obtain ⟨F, HF⟩ : ∃ F : Nat → Nat, Hid (F = fun y => setBy (fun x => P x y) n) := ⟨_, rfl⟩
  rw [← HF.out]
  obtain ⟨i0, hi, hz0, hz1, hz2⟩ := info_parts Try.info3
  go_enter Try.func29, Try.ntmps29
  go_wp2
  go_loopw [6] (fun t wx => ∃ (y : Nat) (v : Value), y ≤ n ∧ t = .int .i64 y ∧ Building w wx n y F v ) (fun t _ => n - (intOf t).toNat)
  case atStart => exact ⟨0, .slice none 0 0, Nat.zero_le _, rfl, Building.start w n F⟩
  case round =>
    obtain ⟨y, v, hy, rfl, hB⟩ := hrel
    by_cases hlt : y < n
    · go_wp2
      have HB1 : Hid (Building w wr n y F v) := hB
      clear hB
      go_loopw [7, 8] (fun s t wx => ∃ x : Nat, x ≤ n ∧ t = .int .i64 x ∧ s = .int .i64 (setBy (fun x => P x y) x : Nat) ∧ Building w wx n y F v ) (fun _ t _ => n - (intOf t).toNat)
      case atStart => exact ⟨0, Nat.zero_le _, rfl, rfl, HB1.out⟩
      case round =>
        obtain ⟨x, hx, rfl, rfl, hB⟩ := hrel
        clear HB1
        by_cases hxl : x < n
        · have hs1 := setBy_lt (fun x => P x y) x
          have hp := pw_small x (Nat.lt_of_lt_of_le hxl (Nat.le_trans h10 (by decide)))
          rcases (Bool.eq_false_or_eq_true (P x y)).symm with hb | hb
          · have HF1 : Hid (setBy (fun x => P x y) (x + 1) = setBy (fun x => P x y) x) := setBy_no hb
            generalize setBy (fun x => P x y) x = S at *
            go_wp2_with fail
            refine (HCL.out x y _ hxl hlt (out_below hB.below)).mono ?_
            rintro e w1 ⟨rfl, hb1⟩
            have HB2 : Hid (Building w w1 n y F v) := hB.step hb1
            clear hb1 hB
            go_wp2_with fail
            go_roundw
            case rel => exact ⟨x + 1, by omega, by go_num, by rw [HF1.out], HB2.out⟩
            case measure => simp [intOf]; omega
          · have HF1 : Hid (setBy (fun x => P x y) (x + 1) = setBy (fun x => P x y) x + pw x) := setBy_yes hb
            generalize setBy (fun x => P x y) x = S at *
            go_wp2_with fail
            refine (HCL.out x y _ hxl hlt (out_below hB.below)).mono ?_
            rintro e w1 ⟨rfl, hb1⟩
            have HB2 : Hid (Building w w1 n y F v) := hB.step hb1
            clear hb1 hB
            go_wp2_with (go_at_call 47; refine (bit_any x _ (by omega)).mono ?_; rintro e w' ⟨rfl, rfl⟩)
            go_roundw
            case rel => exact ⟨x + 1, by omega, by go_num, by rw [HF1.out]; first | rfl | simp, HB2.out⟩
            case measure => simp [intOf]; omega
        · have hxn : x = n := by omega
          subst hxn
          obtain ⟨S, HS⟩ : ∃ S : Nat, Hid (S = setBy (fun x => P x y) x) := ⟨_, rfl⟩
          rw [← HS.out]
          have HFy : Hid (F y = S) := (congrFun HF.out y).trans HS.out.symm
          have c1 := hB.c1
          have f1 := hB.f1
          have hown := hB.own
          have hsz := hB.size
          go_wp2_with (at_builtin; refine wpList_append_own _ rfl _ _ 23 rfl (w.heap.size + 2) 3 i0 (.int .i64 0) 1 8 Try.underlying23 hi hz0 hz1 hz2 rfl (by decide) _ _ _ rfl (hown.alloc _) ⟨wr.heap.size, 0, none⟩ 1 1 [.int .i64 (S : Nat)] rfl rfl ?c1 ?c2 ?c3 ?c4 ?c5 ?_)
          case c1 =>
            intro j u hj
            match j, hj with
            | 0, hj => simp at hj; subst hj; simp [Addr.add]
          case c2 => intro u hu; simp at hu; subst hu; rfl
          case c3 => unfold maxLen; omega
          case c4 => omega
          case c5 => simp; omega
          intro v' w1 hown' hgrow _
          obtain ⟨k1, k2, hB'⟩ := hB.grown HFy.out hown' hgrow
          obtain ⟨g', cap', hv'⟩ := owns_form hown' (by omega)
          have HB2 : Hid (Building w (w1.setCell ⟨w.heap.size + 1, 1, none⟩ v') x (y + 1) F v') := hB'
          rw [hv'] at HB2
          rw [hv']
          clear hown' hgrow hB' hv' c1 f1 hown hB hi hz0 hz1 hz2
          go_wp2
          go_roundw
          case rel => exact ⟨y + 1, _, by omega, by go_num, HB2.out⟩
          case measure => simp [intOf]; omega
    · have hyn : y = n := by omega
      subst hyn
      obtain ⟨a', cap', rfl, hrow⟩ := owns_row hB.own
      have c0 := hB.c0
      have c1 := hB.c1
      obtain ⟨r0, r1, r2, r3⟩ := resbox hB.below
      have HBB : Hid (Below w.heap.size w wr) := out_below hB.below
      have HRW : Hid (Row wr a' y (fun k => (F k : Nat))) := hrow
      have hsz := hB.size
      have HOB : Hid (Fresh (w.heap.size + 1) a' y) := fun hk => by
        obtain ⟨g, cp, hv⟩ := owns_form hB.own hk
        simp at hv
        exact ⟨g, 0, hv.1, by have := owns_block hB.own g (by rw [hv.1]; rfl); omega⟩
      clear hB hrow hi hz0 hz1 hz2
      go_wp2
      exact bodyPost_ret (v := .agg #[.int .i64 (y : Int), .slice a' y cap']) (by simp [results, Try.results29, go_sem, r0, r1]) rfl ⟨⟨a', cap', rfl, row_set2 HRW.out HOB.out, HOB.out.mono (Nat.le_succ _)⟩, set2 HBB.out⟩
end Go.Proofs.Ytklfnghgpmjnmaa
