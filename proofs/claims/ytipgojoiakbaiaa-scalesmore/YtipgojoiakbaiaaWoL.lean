/-
  Small functions of the reference: Apart, Less, Upto, OrderOf by a closure, numberIs. Conditions: as each theorem says.
-/
import Derived.Test.YtipgojoiakbaiaaWoM
import Derived.Test.YtipgojoiakbaiaaRank
import Derived.Test.YtipgojoiakbaiaaRefRows
import Derived.Deep.QuietTactic
import Derived.BigQuiet
namespace Go.Proofs.Ytipgojoiakbaiaa
open Go.RowKit

theorem less_as (n : Int) (a : Option Addr) (len cap : Nat) (g : Nat → Nat) (i j : Nat) (b : Bool) (w : World) (hb : (g j).testBit i = b) (hl : len ≤ 10) (hg : ∀ k, k < len → g k < 1024) (hr : Row w a len (fun k => (g k : Nat))) (hi : i < 63) (hj : j < len) :
    Calls Try.prog 42 #[.agg #[.int .i64 n, .slice a len cap], .int .i64 i, .int .i64 j] w fun e w' => e = .returned (.bool b) ∧ Below w.heap.size w w' := by
  rw [← hb]; exact less_any n a len cap g i j w hl hg hr hi hj
/-- Is neither of two points below the other one? -/
def apB (g : Nat → Nat) (i k : Nat) : Bool := !(g k).testBit i && !(g i).testBit k
set_option maxHeartbeats 1000000 in
theorem apart_any (n : Nat) (a : Option Addr) (cap : Nat) (g : Nat → Nat) (i k : Nat) (w : World) (h10 : n ≤ 10) (hg : ∀ j, j < n → g j < 1024) (hr : Row w a n (fun k => (g k : Nat))) (hi : i < n) (hk : k < n) (hne : i ≠ k) :
    Calls Try.prog 34 #[.agg #[.int .i64 (n : Int), .slice a n cap], .int .i64 i, .int .i64 k] w fun e w' => e = .returned (.bool (apB g i k)) ∧ Below w.heap.size w w' := by
  have K0 : Held (w.alloc (.cells #[.int .i64 (n : Int), .slice a n cap] 24)) w.heap.size n a n cap (fun k => (g k : Nat)) := Held.box hr
  have HB0 : Hid (Below w.heap.size w (w.alloc (.cells #[.int .i64 (n : Int), .slice a n cap] 24))) := (Below.refl _ _).alloc (Nat.le_refl _) _
  have HG : Hid (∀ j, j < n → g j < 1024) := hg
  have hq : ((i : Int) != (k : Int)) = true := by simp; omega
  clear hr hg
  rcases (Bool.eq_false_or_eq_true ((g k).testBit i)).symm with hb1 | hb1
  · rcases (Bool.eq_false_or_eq_true ((g i).testBit k)).symm with hb2 | hb2
    · have HE : Hid (apB g i k = true) := by simp [apB, hb1, hb2, Hid]
      go_enter Try.func34, Try.ntmps34
      go_wp2_with fail
      refine (less_as n a n cap g i k false _ hb1 h10 HG.out K0.row (by omega) hk).mono ?_
      rintro e w1 ⟨rfl, h1⟩
      have K1 := K0.step h1
      have d0 := K1.c0
      have d1 := K1.c1
      have HB1 : Hid (Below w.heap.size w w1) := Below.then HB0.out h1
      clear h1 K0 HB0
      go_wp2_with fail
      refine (less_as n a n cap g k i false _ hb2 h10 HG.out K1.row (by omega) hi).mono ?_
      rintro e w2 ⟨rfl, h2⟩
      have HB2 : Hid (Below w.heap.size w w2) := Below.then HB1.out h2
      clear h2 K1 HB1
      go_wp2_with fail
      go_ret
      exact ⟨ret_bool HE.out.symm, HB2.out⟩
    · have HE : Hid (apB g i k = false) := by simp [apB, hb2, Hid]
      go_enter Try.func34, Try.ntmps34
      go_wp2_with fail
      refine (less_as n a n cap g i k false _ hb1 h10 HG.out K0.row (by omega) hk).mono ?_
      rintro e w1 ⟨rfl, h1⟩
      have K1 := K0.step h1
      have d0 := K1.c0
      have d1 := K1.c1
      have HB1 : Hid (Below w.heap.size w w1) := Below.then HB0.out h1
      clear h1 K0 HB0
      go_wp2_with fail
      refine (less_as n a n cap g k i true _ hb2 h10 HG.out K1.row (by omega) hi).mono ?_
      rintro e w2 ⟨rfl, h2⟩
      have HB2 : Hid (Below w.heap.size w w2) := Below.then HB1.out h2
      clear h2 K1 HB1
      go_wp2_with fail
      go_ret
      exact ⟨ret_bool HE.out.symm, HB2.out⟩
  · have HE : Hid (apB g i k = false) := by simp [apB, hb1, Hid]
    go_enter Try.func34, Try.ntmps34
    go_wp2_with fail
    refine (less_as n a n cap g i k true _ hb1 h10 HG.out K0.row (by omega) hk).mono ?_
    rintro e w1 ⟨rfl, h1⟩
    have HB1 : Hid (Below w.heap.size w w1) := Below.then HB0.out h1
    clear h1 K0 HB0
    go_wp2_with fail
    go_ret
    exact ⟨ret_bool HE.out.symm, HB1.out⟩
theorem apart_as (n : Nat) (a : Option Addr) (cap : Nat) (g : Nat → Nat) (i k : Nat) (b : Bool) (w : World) (hb : apB g i k = b) (h10 : n ≤ 10) (hg : ∀ j, j < n → g j < 1024) (hr : Row w a n (fun k => (g k : Nat))) (hi : i < n) (hk : k < n) (hne : i ≠ k) :
    Calls Try.prog 34 #[.agg #[.int .i64 (n : Int), .slice a n cap], .int .i64 i, .int .i64 k] w fun e w' => e = .returned (.bool b) ∧ Below w.heap.size w w' := by
  rw [← hb]; exact apart_any n a cap g i k w h10 hg hr hi hk hne
/-- Is a below b, or b? -/
def upt (g : Nat → Nat) (a b : Nat) : Bool := decide (a = b) || (g b).testBit a
/-- The number is that of a function with a body. -/
def Ent (F : Nat) : Prop := ∀ (args : Array Value) (w : World), Sem.run Try.prog (callFunc F args) w = .ok (.enter F args) w
set_option maxHeartbeats 1000000 in
theorem orderOf_clo (n F0 : Nat) (caps : Array Value) (P : Nat → Nat → Bool) (w : World) (h10 : n ≤ 10) (hF : Ent F0)
    (hcl : ∀ (x y : Nat) (wx : World), x < n → y < n → Below w.heap.size w wx → Calls Try.prog F0 (#[.int .i64 (x : Nat), .int .i64 (y : Nat)] ++ caps) wx fun e w' => e = .returned (.bool (P x y)) ∧ Below wx.heap.size wx w') :
    Calls Try.prog 40 #[.int .i64 n, .func (.func F0) #[] caps] w fun e w' => OrderPost w n (fun y => setBy (fun x => P x y) n) e w' ∧ Below w.heap.size w w' := by
  have HCL : Hid (∀ (x y : Nat) (wx : World), x < n → y < n → Below w.heap.size w wx → Calls Try.prog F0 (#[.int .i64 (x : Nat), .int .i64 (y : Nat)] ++ caps) wx fun e w' => e = .returned (.bool (P x y)) ∧ Below wx.heap.size wx w') := hcl
  clear hcl
  obtain ⟨F, HF⟩ : ∃ F : Nat → Nat, Hid (F = fun y => setBy (fun x => P x y) n) := ⟨_, rfl⟩
  rw [← HF.out]
  obtain ⟨i0, hi, hz0, hz1, hz2⟩ := info_parts Try.info3
  go_enter Try.func40, Try.ntmps40
  go_wp2
  go_loopw [6] (fun t wx => ∃ (y : Nat) (v : Value), y ≤ n ∧ t = .int .i64 y ∧ Building w wx n y F v ) (fun t _ => n - (intOf t).toNat)
  case atStart => exact ⟨0, .slice none 0 0, Nat.zero_le _, rfl, Building.start w n F⟩
  case round =>
    obtain ⟨y, v, hy, rfl, hB⟩ := hrel
    by_cases hlt : y < n
    · go_wp2
      have HB1 : Hid (Building w wr n y F v) := hB
      clear hB
      go_loopw [7, 8] (fun s t wx => ∃ x : Nat, x ≤ n ∧ t = .int .i64 x ∧ s = .int .i64 (setBy (fun x => P x y) x : Nat) ∧ Building w wx n y F v ) (fun _ t _ => n - (intOf t).toNat)
      case atStart => exact ⟨0, Nat.zero_le _, rfl, rfl, HB1.out⟩
      case round =>
        obtain ⟨x, hx, rfl, rfl, hB⟩ := hrel
        clear HB1
        by_cases hxl : x < n
        · have hs1 := setBy_lt (fun x => P x y) x
          have hp := pw_small x (Nat.lt_of_lt_of_le hxl (Nat.le_trans h10 (by decide)))
          rcases (Bool.eq_false_or_eq_true (P x y)).symm with hb | hb
          · have HF1 : Hid (setBy (fun x => P x y) (x + 1) = setBy (fun x => P x y) x) := setBy_no hb
            generalize setBy (fun x => P x y) x = S at *
            go_wp2_with fail
            rw [hF, Oper.upon_enter]
            refine (HCL.out x y _ hxl hlt (out_below hB.below)).mono ?_
            rintro e w1 ⟨rfl, hb1⟩
            have HB2 : Hid (Building w w1 n y F v) := hB.step hb1
            clear hb1 hB
            go_wp2_with fail
            go_roundw
            case rel => exact ⟨x + 1, by omega, by go_num, by rw [HF1.out], HB2.out⟩
            case measure => simp [intOf]; omega
          · have HF1 : Hid (setBy (fun x => P x y) (x + 1) = setBy (fun x => P x y) x + pw x) := setBy_yes hb
            generalize setBy (fun x => P x y) x = S at *
            go_wp2_with fail
            rw [hF, Oper.upon_enter]
            refine (HCL.out x y _ hxl hlt (out_below hB.below)).mono ?_
            rintro e w1 ⟨rfl, hb1⟩
            have HB2 : Hid (Building w w1 n y F v) := hB.step hb1
            clear hb1 hB
            go_wp2_with (go_at_call 23; refine (bit_any x _ (by omega)).mono ?_; rintro e w' ⟨rfl, rfl⟩)
            go_roundw
            case rel => exact ⟨x + 1, by omega, by go_num, by rw [HF1.out]; first | rfl | simp, HB2.out⟩
            case measure => simp [intOf]; omega
        · have hxn : x = n := by omega
          subst hxn
          obtain ⟨S, HS⟩ : ∃ S : Nat, Hid (S = setBy (fun x => P x y) x) := ⟨_, rfl⟩
          rw [← HS.out]
          have HFy : Hid (F y = S) := (congrFun HF.out y).trans HS.out.symm
          have c1 := hB.c1
          have f1 := hB.f1
          have hown := hB.own
          have hsz := hB.size
          go_wp2_with (at_builtin; refine wpList_append_own _ rfl _ _ 22 rfl (w.heap.size + 2) 3 i0 (.int .i64 0) 1 8 Try.underlying22 hi hz0 hz1 hz2 rfl (by decide) _ _ _ rfl (hown.alloc _) ⟨wr.heap.size, 0, none⟩ 1 1 [.int .i64 (S : Nat)] rfl rfl ?c1 ?c2 ?c3 ?c4 ?c5 ?_)
          case c1 =>
            intro j u hj
            match j, hj with
            | 0, hj => simp at hj; subst hj; simp [Addr.add]
          case c2 => intro u hu; simp at hu; subst hu; rfl
          case c3 => unfold maxLen; omega
          case c4 => omega
          case c5 => simp; omega
          intro v' w1 hown' hgrow _
          obtain ⟨k1, k2, hB'⟩ := hB.grown HFy.out hown' hgrow
          obtain ⟨g', cap', hv'⟩ := owns_form hown' (by omega)
          have HB2 : Hid (Building w (w1.setCell ⟨w.heap.size + 1, 1, none⟩ v') x (y + 1) F v') := hB'
          rw [hv'] at HB2
          rw [hv']
          clear hown' hgrow hB' hv' c1 f1 hown hB hi hz0 hz1 hz2
          go_wp2
          go_roundw
          case rel => exact ⟨y + 1, _, by omega, by go_num, HB2.out⟩
          case measure => simp [intOf]; omega
    · have hyn : y = n := by omega
      subst hyn
      obtain ⟨a', cap', rfl, hrow⟩ := owns_row hB.own
      have c0 := hB.c0
      have c1 := hB.c1
      obtain ⟨r0, r1, r2, r3⟩ := resbox hB.below
      have HBB : Hid (Below w.heap.size w wr) := out_below hB.below
      have HRW : Hid (Row wr a' y (fun k => (F k : Nat))) := hrow
      have hsz := hB.size
      have HOB : Hid (Fresh (w.heap.size + 1) a' y) := fun hk => by
        obtain ⟨g, cp, hv⟩ := owns_form hB.own hk
        simp at hv
        exact ⟨g, 0, hv.1, by have := owns_block hB.own g (by rw [hv.1]; rfl); omega⟩
      clear hB hrow hi hz0 hz1 hz2
      go_wp2
      exact bodyPost_ret (v := .agg #[.int .i64 (y : Int), .slice a' y cap']) (by simp [results, Try.results40, go_sem, r0, r1]) rfl ⟨⟨a', cap', rfl, row_set2 HRW.out HOB.out, HOB.out.mono (Nat.le_succ _)⟩, set2 HBB.out⟩
set_option maxHeartbeats 1000000 in
theorem refUpto_any (n : Int) (a : Option Addr) (len cap : Nat) (g : Nat → Nat) (i j : Nat) (w : World) (v : Bool) (hv : upt g i j = v) (hl : len ≤ 10) (hg : ∀ k, k < len → g k < 1024) (hr : Row w a len (fun k => (g k : Nat))) (hi : i < 63) (hj : j < len) :
    Calls Try.prog 43 #[.agg #[.int .i64 n, .slice a len cap], .int .i64 i, .int .i64 j] w fun e w' => e = .returned (.bool v) ∧ Below w.heap.size w w' := by
  have HG : Hid (∀ k, k < len → g k < 1024) := hg
  have HR : Hid (Row w a len (fun k => (g k : Nat))) := hr
  clear hg hr
  by_cases hij : i = j
  · subst hij
    have hvt : v = true := by rw [← hv]; simp [upt]
    subst hvt
    clear hv
    go_enter Try.func43, Try.ntmps43
    go_wp2_with fail
    go_ret
    exact ⟨rfl, (Below.refl _ _).alloc (Nat.le_refl _) _⟩
  · have hne : ((i : Int) == (j : Int)) = false := by simp; omega
    have HV : Hid ((g j).testBit i = v) := by
      have e : upt g i j = (g j).testBit i := by simp [upt, hij]
      exact e.symm.trans hv
    clear hv
    go_enter Try.func43, Try.ntmps43
    go_wp2_with fail
    refine (less_any n a len cap g i j _ hl HG.out (HR.out.below ((Below.refl _ _).alloc (Nat.le_refl _) _)) hi hj).mono ?_
    rintro e w1 ⟨rfl, hb⟩
    rw [HV.out]
    have HB : Hid (Below w.heap.size w w1) := Below.then ((Below.refl _ _).alloc (Nat.le_refl _) _) hb
    clear hb
    go_wp2_with fail
    go_ret
    exact ⟨rfl, HB.out⟩
end Go.Proofs.Ytipgojoiakbaiaa
