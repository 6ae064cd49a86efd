/-
  What sets.UpTo, order.turn, order.Dual, the reference's OrderOf and Dual answer. Conditions: as each theorem says.
-/
import Derived.Test.YtglkjeidkjkdaaaDoorNats
import Derived.Test.YtglkjeidkjkdaaaDoorMemN
import Derived.BigQuiet
namespace Go.Proofs.YtglkjeidkjkdaaaDoor
set_option maxRecDepth 100000
open Go.RowKit

/-- Is a below b, or b? -/
def upt (g : Nat → Nat) (a b : Nat) : Bool := decide (a = b) || (g b).testBit a
/-- A point and all below it. -/
def upto (g : Nat → Nat) (k : Nat) : Nat := g k ||| pw k
theorem upto_bit (g : Nat → Nat) (k i : Nat) : (upto g k).testBit i = upt g i k := by
  unfold upto upt
  rw [Nat.testBit_or, pw_bit, Bool.or_comm]
  congr 1
  by_cases h : k = i
  · subst h; simp
  · have : ¬ i = k := fun e => h e.symm
    simp [h, this]
theorem upto_lt {g : Nat → Nat} {x : Nat} (hg : g x < 1024) (hx : x < 10) : upto g x < 1024 := by
  have : pw x < 2 ^ 10 := Nat.pow_lt_pow_right (by decide) hx
  exact Nat.or_lt_two_pow (n := 10) hg this
set_option maxHeartbeats 1000000 in
theorem turn_any (n : Nat) (g : Nat → Nat) (a : Option Addr) (cap : Nat) (w : World) (hn : n ≤ 10) (hg : ∀ k, k < n → g k < 1024) (hr : Row w a n (fun k => (g k : Nat))) :
    Calls Tryd.prog 73 #[.slice a n cap] w fun e w' => e = .returned (.slice (some ⟨w.heap.size, 0, none⟩) n n) ∧ Own w' w.heap.size n (trn g n) ∧ Below w.heap.size w w' := by
  have HG := (show Hid (∀ k, k < n → g k < 1024) from hg)
  have HR := (show Hid (Row w a n (fun k => (g k : Nat))) from hr)
  clear hg hr
  obtain ⟨i0, hi, hz0, hz1, hz2⟩ := info_parts Tryd.info3
  go_enter Tryd.func73, Tryd.ntmps73
  go_wp2_with (at_make; refine wpList_make_full _ rfl _ _ 22 rfl w.heap.size 3 i0 (.int .i64 0) 1 Tryd.underlying22 hi hz0 hz1 .i64 .i64 _ _ n rfl rfl rfl rfl (by rw [hz2]; omega) (by unfold maxLen; omega) (Nat.le_refl _) ?_; intro w1 hown1 hgrow1)
  have HB1 : Hid (Below w.heap.size w w1) := (Below.refl _ _).grown hgrow1 (Nat.le_refl _) (by simp)
  have HO1 : Hid (Own w1 w.heap.size n (trn g 0)) := own_made hown1
  clear hown1 hgrow1 hi hz0 hz1 hz2
  go_loopw [12] (fun i wx => ∃ u : Nat, u ≤ n ∧ i = .int .i64 u ∧ Own wx w.heap.size n (trn g u) ∧ Hid (Below w.heap.size w wx)) (fun i _ => n - (intOf i).toNat)
  case atStart => exact ⟨0, Nat.zero_le _, rfl, HO1.out, HB1.out⟩
  case round =>
    obtain ⟨u, hu, rfl, hO, hB⟩ := hrel
    clear HO1 HB1
    by_cases hlt : u < n
    · obtain ⟨b, off, rfl, hc⟩ := (HR.out.below hB.out).at hlt
      have hcu := hc u hlt
      clear hc
      have hgu := HG.out u hlt
      go_wp2
      have HO1 : Hid (Own wr w.heap.size n (mix g u 0)) := by rw [mix_zero]; exact hO
      clear hO hcu
      go_loopw [19] (fun i wy => ∃ k : Nat, k ≤ n ∧ i = .int .i64 k ∧ Own wy w.heap.size n (mix g u k) ∧ Hid (Below w.heap.size w wy)) (fun i _ => n - (intOf i).toNat)
      case atStart => exact ⟨0, Nat.zero_le _, rfl, HO1.out, hB⟩
      case round =>
        obtain ⟨k, hk, rfl, hO, hBy⟩ := hrel
        clear HO1 hB
        by_cases hkl : k < n
        · rcases (Bool.eq_false_or_eq_true ((g u).testBit k)).symm with hb | hb
          · go_wp2_with (go_at_call 31; refine (has_any _ _ _ (by omega) (by omega)).mono ?_; rintro e w' ⟨rfl, rfl⟩)
            go_roundw
            case rel => exact ⟨k + 1, by omega, by go_num, by rw [mix_no hb]; exact hO, hBy⟩
            case measure => simp [intOf]; omega
          · have hck := (hO k hkl).1
            have hfk := (hO k hkl).2
            rw [mix_same] at hck
            have hsh := wrap_pow u (Nat.lt_of_lt_of_le hlt (Nat.le_trans hn (by decide)))
            have hor := or_pw (b := u) hn (trn_small g u k n hu) hlt
            have HOY := (show Hid _ from hO); clear hO
            go_wp2_with (go_at_call 31; refine (has_any _ _ _ (by omega) (by omega)).mono ?_; rintro e w' ⟨rfl, rfl⟩)
            go_region
            all_goals go_wp2
            all_goals go_roundw
            case rel => exact ⟨k + 1, by omega, by go_num, by rw [mix_yes hb]; exact Own.set HOY.out k _ hkl, Below.drew (Below.setCell (p := ⟨w.heap.size, k, none⟩) hBy.out (Nat.le_refl _) _)⟩
            case measure => simp [intOf]; omega
        · have hkn : k = n := by omega
          subst hkn
          go_wp2
          go_roundw
          case rel => exact ⟨u + 1, by omega, by go_num, hO.congr (fun l hl => by simp [mix, hl]), hBy⟩
          case measure => simp [intOf]; omega
    · have hun : u = n := by omega
      subst hun
      go_wp2
      go_ret
      exact ⟨rfl, hO, hB.out⟩
theorem dual_any (n : Int) (a : Option Addr) (len cap : Nat) (f : Nat → Int) (w : World) (hl : len ≤ maxLen) (hr : Row w a len f) :
    Calls Tryd.prog 53 #[.agg #[.int .i64 n, .slice a len cap]] w fun e w' => DualPost n len f e w' ∧ Below w.heap.size w w' := by
  have HH : Hid (Held ((w.alloc (.cells #[.int .i64 n, .slice a len cap] 24)).alloc (.cells #[.int .i64 0, .slice none 0 0] 24)) w.heap.size n a len cap f) := (Held.box hr).step ((Below.refl _ _).alloc (Nat.le_refl _) _)
  have HB : Hid (Below w.heap.size w ((w.alloc (.cells #[.int .i64 n, .slice a len cap] 24)).alloc (.cells #[.int .i64 0, .slice none 0 0] 24))) := ((Below.refl _ _).alloc (Nat.le_refl _) _).alloc (by simp) _
  have HZ : Hid (ZBox ((w.alloc (.cells #[.int .i64 n, .slice a len cap] 24)).alloc (.cells #[.int .i64 0, .slice none 0 0] 24)) (w.heap.size + 1)) := by have := ZBox.new (w.alloc (.cells #[.int .i64 n, .slice a len cap] 24)); rw [World.size_alloc] at this; exact this
  have HR : Hid (Row w a len f) := hr
  clear hr
  go_enter Tryd.func53, Tryd.ntmps53
  go_wp2_with fail
  refine (check_any n a len cap f _ hl HH.out.row).mono ?_
  rintro e w1 ⟨⟨c, rfl, hc⟩, hb⟩
  have K1 := HH.out.step hb
  have Z1 := HZ.out.step hb
  have HB1 : Hid (Below w.heap.size w w1) := Below.then HB.out hb
  clear hb HH HB HZ
  by_cases h0 : c = 0
  · subst h0
    obtain ⟨rfl, h10, hrng, _⟩ := hc.good
    have KK : w1.drew.cell? ⟨w.heap.size, 0, none⟩ = some (.int .i64 (len : Int)) ∧ w1.drew.cell? ⟨w.heap.size, 1, none⟩ = some (.slice a len cap) ∧ Below w.heap.size w w1.drew := ⟨K1.c0, K1.c1, HB1.out.drew⟩
    have HRW : Hid (Row w a len (fun k => (nat f k : Nat))) := hrng.row HR.out
    have HC : Hid (Chk (len : Int) len f 0) := hc
    have HG : Hid (∀ k, k < len → nat f k < 1024) := hrng.small2 h10
    have HZ1 : Hid (ZBox w1.drew (w.heap.size + 1)) := Z1
    have hsz : w.heap.size + 1 < w1.heap.size := World.block_lt_of_cell? _ _ Z1.1
    clear K1 HB1 hc hrng Z1
    go_wp2_with fail
    go_region_held3 (fun w' => w'.cell? ⟨w.heap.size, 0, none⟩ = some (.int .i64 (len : Int)) ∧ w'.cell? ⟨w.heap.size, 1, none⟩ = some (.slice a len cap) ∧ Below w.heap.size w w')
      (first | exact KK | assumption | exact k3_step (by assumption) (by assumption) | exact k3_set2 (by assumption))
      (first
        | (go_at_call 73; refine (turn_any len (nat f) a cap _ h10 HG.out (HRW.out.below (k3_below (n := (len : Int)) (a := a) (len := len) (cap := cap) (by assumption)))).mono ?_; rintro e w' ⟨rfl, ho, hb⟩; obtain ⟨r0, r1, r2, r3⟩ := HZ1.out.step hb))
    all_goals go_wp2
    refine bodyPost_ret (v := .tuple #[.agg #[.int .i64 (len : Int), .slice (some ⟨w1.heap.size, 0, none⟩) len len], .int .i64 0]) ?_ rfl ⟨⟨0, _, HC.out, rfl, .inr ⟨rfl, _, _, rfl, ?_⟩⟩, ?_⟩
    · simp [results, Tryd.results53, go_sem, r0, r1]
    · exact row_set2 (Own.row ho) (fun _ => ⟨_, _, rfl, hsz⟩)
    · exact k3_below (n := (len : Int)) (a := a) (len := len) (cap := cap) (by assumption)
  · have hne : (c != 0) = true := by simpa using h0
    obtain ⟨r0, r1, r2, r3⟩ := Z1
    have HC : Hid (Chk n len f c) := hc
    clear hc
    go_wp2_with fail
    exact bodyPost_ret (v := .tuple #[noOrder, .int .i64 c]) (by simp [results, Tryd.results53, go_sem, noOrder, r0, r1]) rfl ⟨⟨c, _, HC.out, rfl, .inl ⟨h0, rfl⟩⟩, set2B HB1.out (by omega)⟩
/-- The number is that of a function with a body. -/
def Ent (F : Nat) : Prop := ∀ (args : Array Value) (w : World), Sem.run Tryd.prog (callFunc F args) w = .ok (.enter F args) w
set_option maxHeartbeats 1000000 in
theorem orderOf_clo (n F0 : Nat) (caps : Array Value) (P : Nat → Nat → Bool) (w : World) (h10 : n ≤ 10) (hF : Ent F0)
    (hcl : ∀ (x y : Nat) (wx : World), x < n → y < n → Below w.heap.size w wx → Calls Tryd.prog F0 (#[.int .i64 (x : Nat), .int .i64 (y : Nat)] ++ caps) wx fun e w' => e = .returned (.bool (P x y)) ∧ Below wx.heap.size wx w') :
    Calls Tryd.prog 38 #[.int .i64 n, .func (.func F0) #[] caps] w fun e w' => OrderPost w n (fun y => setBy (fun x => P x y) n) e w' ∧ Below w.heap.size w w' := by
  have HCL : Hid (∀ (x y : Nat) (wx : World), x < n → y < n → Below w.heap.size w wx → Calls Tryd.prog F0 (#[.int .i64 (x : Nat), .int .i64 (y : Nat)] ++ caps) wx fun e w' => e = .returned (.bool (P x y)) ∧ Below wx.heap.size wx w') := hcl
  clear hcl
  obtain ⟨F, HF⟩ : ∃ F : Nat → Nat, Hid (F = fun y => setBy (fun x => P x y) n) := ⟨_, rfl⟩
  rw [← HF.out]
  obtain ⟨i0, hi, hz0, hz1, hz2⟩ := info_parts Tryd.info3
  go_enter Tryd.func38, Tryd.ntmps38
  go_wp2
  go_loopw [6] (fun t wx => ∃ (y : Nat) (v : Value), y ≤ n ∧ t = .int .i64 y ∧ Building w wx n y F v ) (fun t _ => n - (intOf t).toNat)
  case atStart => exact ⟨0, .slice none 0 0, Nat.zero_le _, rfl, Building.start w n F⟩
  case round =>
    obtain ⟨y, v, hy, rfl, hB⟩ := hrel
    by_cases hlt : y < n
    · go_wp2
      have HB1 : Hid (Building w wr n y F v) := hB
      clear hB
      go_loopw [7, 8] (fun s t wx => ∃ x : Nat, x ≤ n ∧ t = .int .i64 x ∧ s = .int .i64 (setBy (fun x => P x y) x : Nat) ∧ Building w wx n y F v ) (fun _ t _ => n - (intOf t).toNat)
      case atStart => exact ⟨0, Nat.zero_le _, rfl, rfl, HB1.out⟩
      case round =>
        obtain ⟨x, hx, rfl, rfl, hB⟩ := hrel
        clear HB1
        by_cases hxl : x < n
        · have hs1 := setBy_lt (fun x => P x y) x
          have hp := pw_small x (Nat.lt_of_lt_of_le hxl (Nat.le_trans h10 (by decide)))
          rcases (Bool.eq_false_or_eq_true (P x y)).symm with hb | hb
          · have HF1 : Hid (setBy (fun x => P x y) (x + 1) = setBy (fun x => P x y) x) := setBy_no hb
            generalize setBy (fun x => P x y) x = S at *
            go_wp2_with fail
            rw [hF, Oper.upon_enter]
            refine (HCL.out x y _ hxl hlt (out_below hB.below)).mono ?_
            rintro e w1 ⟨rfl, hb1⟩
            have HB2 : Hid (Building w w1 n y F v) := hB.step hb1
            clear hb1 hB
            go_wp2_with fail
            go_roundw
            case rel => exact ⟨x + 1, by omega, by go_num, by rw [HF1.out], HB2.out⟩
            case measure => simp [intOf]; omega
          · have HF1 : Hid (setBy (fun x => P x y) (x + 1) = setBy (fun x => P x y) x + pw x) := setBy_yes hb
            generalize setBy (fun x => P x y) x = S at *
            go_wp2_with fail
            rw [hF, Oper.upon_enter]
            refine (HCL.out x y _ hxl hlt (out_below hB.below)).mono ?_
            rintro e w1 ⟨rfl, hb1⟩
            have HB2 : Hid (Building w w1 n y F v) := hB.step hb1
            clear hb1 hB
            go_wp2_with (go_at_call 33; refine (bit_any x _ (by omega)).mono ?_; rintro e w' ⟨rfl, rfl⟩)
            go_roundw
            case rel => exact ⟨x + 1, by omega, by go_num, by rw [HF1.out]; first | rfl | simp, HB2.out⟩
            case measure => simp [intOf]; omega
        · have hxn : x = n := by omega
          subst hxn
          obtain ⟨S, HS⟩ : ∃ S : Nat, Hid (S = setBy (fun x => P x y) x) := ⟨_, rfl⟩
          rw [← HS.out]
          have HFy : Hid (F y = S) := (congrFun HF.out y).trans HS.out.symm
          have c1 := hB.c1
          have f1 := hB.f1
          have hown := hB.own
          have hsz := hB.size
          go_wp2_with (at_builtin; refine wpList_append_own _ rfl _ _ 22 rfl (w.heap.size + 2) 3 i0 (.int .i64 0) 1 8 Tryd.underlying22 hi hz0 hz1 hz2 rfl (by decide) _ _ _ rfl (hown.alloc _) ⟨wr.heap.size, 0, none⟩ 1 1 [.int .i64 (S : Nat)] rfl rfl ?c1 ?c2 ?c3 ?c4 ?c5 ?_)
          case c1 =>
            intro j u hj
            match j, hj with
            | 0, hj => simp at hj; subst hj; simp [Addr.add]
          case c2 => intro u hu; simp at hu; subst hu; rfl
          case c3 => unfold maxLen; omega
          case c4 => omega
          case c5 => simp; omega
          intro v' w1 hown' hgrow _
          obtain ⟨k1, k2, hB'⟩ := hB.grown HFy.out hown' hgrow
          obtain ⟨g', cap', hv'⟩ := owns_form hown' (by omega)
          have HB2 : Hid (Building w (w1.setCell ⟨w.heap.size + 1, 1, none⟩ v') x (y + 1) F v') := hB'
          rw [hv'] at HB2
          rw [hv']
          clear hown' hgrow hB' hv' c1 f1 hown hB hi hz0 hz1 hz2
          go_wp2
          go_roundw
          case rel => exact ⟨y + 1, _, by omega, by go_num, HB2.out⟩
          case measure => simp [intOf]; omega
    · have hyn : y = n := by omega
      subst hyn
      obtain ⟨a', cap', rfl, hrow⟩ := owns_row hB.own
      have c0 := hB.c0
      have c1 := hB.c1
      obtain ⟨r0, r1, r2, r3⟩ := resbox hB.below
      have HBB : Hid (Below w.heap.size w wr) := out_below hB.below
      have HRW : Hid (Row wr a' y (fun k => (F k : Nat))) := hrow
      have hsz := hB.size
      have HOB : Hid (Fresh (w.heap.size + 1) a' y) := fun hk => by
        obtain ⟨g, cp, hv⟩ := owns_form hB.own hk
        simp at hv
        exact ⟨g, 0, hv.1, by have := owns_block hB.own g (by rw [hv.1]; rfl); omega⟩
      clear hB hrow hi hz0 hz1 hz2
      go_wp2
      exact bodyPost_ret (v := .agg #[.int .i64 (y : Int), .slice a' y cap']) (by simp [results, Tryd.results38, go_sem, r0, r1]) rfl ⟨⟨a', cap', rfl, row_set2 HRW.out HOB.out, HOB.out.mono (Nat.le_succ _)⟩, set2 HBB.out⟩
theorem trn_lt (g : Nat → Nat) (n x : Nat) : trn g n x < pw n := setBy_lt _ n
theorem big {n x : Nat} (hn : n ≤ 10) (h : x < pw n) : x < 18446744073709551616 := by have := pw_le n hn; omega
theorem trn_bit (g : Nat → Nat) (n x k : Nat) : (trn g n x).testBit k = (decide (k < n) && (g k).testBit x) := setBy_bit _ n k
theorem trn_ord {g : Nat → Nat} {n : Nat} (hn : n ≤ 10) (hg : ∀ k, k < n → g k < pw n) (ho : Ord n g) : Ord n (trn g n) := by
  intro u hu
  refine ⟨by rw [trn_bit, (ho u hu).1]; simp, fun p hp hb => ?_⟩
  rw [trn_bit] at hb
  simp only [Bool.and_eq_true, decide_eq_true_eq] at hb
  refine (lack_zero _ _ (big hn (trn_lt g n p)) (big hn (trn_lt g n u))).2 fun j hj => ?_
  rw [trn_bit] at hj ⊢
  simp only [Bool.and_eq_true, decide_eq_true_eq] at hj ⊢
  exact ⟨hj.1, (lack_zero _ _ (big hn (hg p hp)) (big hn (hg j hj.1))).1 ((ho j hj.1).2 p hp hj.2) u hb.2⟩
end Go.Proofs.YtglkjeidkjkdaaaDoor
