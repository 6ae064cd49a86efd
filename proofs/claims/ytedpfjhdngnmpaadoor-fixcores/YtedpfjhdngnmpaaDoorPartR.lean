/-
  What the reference's OrderOf (handed Part's closure), Part, Points and Cover answer. Conditions: at most ten points.
-/
import Derived.Deep.RegionHeld3
import Derived.Test.YtedpfjhdngnmpaaDoorCorM
namespace Go.Proofs.YtedpfjhdngnmpaaDoor
open Go.RowKit


set_option maxHeartbeats 1000000 in
theorem orderOf_part (n : Nat) (b0 b1 : Nat) (P : Nat → Nat → Bool) (w : World) (h10 : n ≤ 10)
    (hcl : ∀ (x y : Nat) (wx : World), x < n → y < n → Below w.heap.size w wx → Calls Tryd.prog 28 #[.int .i64 x, .int .i64 y, .pointer (some ⟨b0, 0, none⟩), .pointer (some ⟨b1, 0, none⟩)] wx fun e w' => e = .returned (.bool (P x y)) ∧ Below wx.heap.size wx w') :
    Calls Tryd.prog 27 #[.int .i64 n, .func (.func 28) #[] #[.pointer (some ⟨b0, 0, none⟩), .pointer (some ⟨b1, 0, none⟩)]] w fun e w' => OrderPost w n (fun y => setBy (fun x => P x y) n) e w' ∧ Below w.heap.size w w' := by
  have HCL : Hid (∀ (x y : Nat) (wx : World), x < n → y < n → Below w.heap.size w wx → Calls Tryd.prog 28 #[.int .i64 x, .int .i64 y, .pointer (some ⟨b0, 0, none⟩), .pointer (some ⟨b1, 0, none⟩)] wx fun e w' => e = .returned (.bool (P x y)) ∧ Below wx.heap.size wx w') := hcl
  clear hcl
  obtain ⟨F, HF⟩ : ∃ F : Nat → Nat, Hid (F = fun y => setBy (fun x => P x y) n) := ⟨_, rfl⟩
  rw [← HF.out]
  obtain ⟨i0, hi, hz0, hz1, hz2⟩ := info_parts Tryd.info3
  go_enter Tryd.func27, Tryd.ntmps27
  go_wp2
  go_loopw [6] (fun t wx => ∃ (y : Nat) (v : Value), y ≤ n ∧ t = .int .i64 y ∧ Building w wx n y F v ) (fun t _ => n - (intOf t).toNat)
  case atStart => exact ⟨0, .slice none 0 0, Nat.zero_le _, rfl, Building.start w n F⟩
  case round =>
    obtain ⟨y, v, hy, rfl, hB⟩ := hrel
    by_cases hlt : y < n
    · go_wp2
      have HB1 : Hid (Building w wr n y F v) := hB
      clear hB
      go_loopw [7, 8] (fun s t wx => ∃ x : Nat, x ≤ n ∧ t = .int .i64 x ∧ s = .int .i64 (setBy (fun x => P x y) x : Nat) ∧ Building w wx n y F v ) (fun _ t _ => n - (intOf t).toNat)
      case atStart => exact ⟨0, Nat.zero_le _, rfl, rfl, HB1.out⟩
      case round =>
        obtain ⟨x, hx, rfl, rfl, hB⟩ := hrel
        clear HB1
        by_cases hxl : x < n
        · have hs1 := setBy_lt (fun x => P x y) x
          have hp := pw_small x (Nat.lt_of_lt_of_le hxl (Nat.le_trans h10 (by decide)))
          rcases (Bool.eq_false_or_eq_true (P x y)).symm with hb | hb
          · have HF1 : Hid (setBy (fun x => P x y) (x + 1) = setBy (fun x => P x y) x) := setBy_no hb
            generalize setBy (fun x => P x y) x = S at *
            go_wp2_with fail
            refine (HCL.out x y _ hxl hlt (out_below hB.below)).mono ?_
            rintro e w1 ⟨rfl, hb1⟩
            have HB2 : Hid (Building w w1 n y F v) := hB.step hb1
            clear hb1 hB
            go_wp2_with fail
            go_roundw
            case rel => exact ⟨x + 1, by omega, by go_num, by rw [HF1.out], HB2.out⟩
            case measure => simp [intOf]; omega
          · have HF1 : Hid (setBy (fun x => P x y) (x + 1) = setBy (fun x => P x y) x + pw x) := setBy_yes hb
            generalize setBy (fun x => P x y) x = S at *
            go_wp2_with fail
            refine (HCL.out x y _ hxl hlt (out_below hB.below)).mono ?_
            rintro e w1 ⟨rfl, hb1⟩
            have HB2 : Hid (Building w w1 n y F v) := hB.step hb1
            clear hb1 hB
            go_wp2_with (go_at_call 13; refine (bit_any x _ (by omega)).mono ?_; rintro e w' ⟨rfl, rfl⟩)
            go_roundw
            case rel => exact ⟨x + 1, by omega, by go_num, by rw [HF1.out]; first | rfl | simp, HB2.out⟩
            case measure => simp [intOf]; omega
        · have hxn : x = n := by omega
          subst hxn
          obtain ⟨S, HS⟩ : ∃ S : Nat, Hid (S = setBy (fun x => P x y) x) := ⟨_, rfl⟩
          rw [← HS.out]
          have HFy : Hid (F y = S) := (congrFun HF.out y).trans HS.out.symm
          have c1 := hB.c1
          have f1 := hB.f1
          have hown := hB.own
          have hsz := hB.size
          go_wp2_with (at_builtin; refine wpList_append_own _ rfl _ _ 22 rfl (w.heap.size + 2) 3 i0 (.int .i64 0) 1 8 Tryd.underlying22 hi hz0 hz1 hz2 rfl (by decide) _ _ _ rfl (hown.alloc _) ⟨wr.heap.size, 0, none⟩ 1 1 [.int .i64 (S : Nat)] rfl rfl ?c1 ?c2 ?c3 ?c4 ?c5 ?_)
          case c1 =>
            intro j u hj
            match j, hj with
            | 0, hj => simp at hj; subst hj; simp [Addr.add]
          case c2 => intro u hu; simp at hu; subst hu; rfl
          case c3 => unfold maxLen; omega
          case c4 => omega
          case c5 => simp; omega
          intro v' w1 hown' hgrow _
          obtain ⟨k1, k2, hB'⟩ := hB.grown HFy.out hown' hgrow
          obtain ⟨g', cap', hv'⟩ := owns_form hown' (by omega)
          have HB2 : Hid (Building w (w1.setCell ⟨w.heap.size + 1, 1, none⟩ v') x (y + 1) F v') := hB'
          rw [hv'] at HB2
          rw [hv']
          clear hown' hgrow hB' hv' c1 f1 hown hB hi hz0 hz1 hz2
          go_wp2
          go_roundw
          case rel => exact ⟨y + 1, _, by omega, by go_num, HB2.out⟩
          case measure => simp [intOf]; omega
    · have hyn : y = n := by omega
      subst hyn
      obtain ⟨a', cap', rfl, hrow⟩ := owns_row hB.own
      have c0 := hB.c0
      have c1 := hB.c1
      obtain ⟨r0, r1, r2, r3⟩ := resbox hB.below
      have HBB : Hid (Below w.heap.size w wr) := out_below hB.below
      have HRW : Hid (Row wr a' y (fun k => (F k : Nat))) := hrow
      have hsz := hB.size
      have HOB : Hid (Fresh (w.heap.size + 1) a' y) := fun hk => by
        obtain ⟨g, cp, hv⟩ := owns_form hB.own hk
        simp at hv
        exact ⟨g, 0, hv.1, by have := owns_block hB.own g (by rw [hv.1]; rfl); omega⟩
      clear hB hrow hi hz0 hz1 hz2
      go_wp2
      exact bodyPost_ret (v := .agg #[.int .i64 (y : Int), .slice a' y cap']) (by simp [results, Tryd.results27, go_sem, r0, r1]) rfl ⟨⟨a', cap', rfl, row_set2 HRW.out HOB.out, HOB.out.mono (Nat.le_succ _)⟩, set2 HBB.out⟩
set_option maxHeartbeats 1000000 in
theorem points_any (s n : Nat) (w : World) (hs : s < 1024) (hn : n ≤ 10) :
    Calls Tryd.prog 16 #[.int .i64 s, .int .i64 n] w fun e w' => (∃ v, e = .returned v ∧ NSl w' v (pts s n)) ∧ Below w.heap.size w w' := by
  obtain ⟨i0, hi, hz0, hz1, hz2⟩ := info_parts Tryd.info3
  go_enter Tryd.func16, Tryd.ntmps16
  go_wp2
  go_loopw [5, 6] (fun v i wx => ∃ k : Nat, k ≤ n ∧ i = .int .i64 k ∧ wx.ownsRow w.heap.size 3 1 v (pts s k).length (natVals (pts s k)) ∧ Hid (Below w.heap.size w wx)) (fun _ i _ => n - (intOf i).toNat)
  case atStart => exact ⟨0, Nat.zero_le _, rfl, World.ownsRow_nil _ _ _ _, Below.refl _ _⟩
  case round =>
    obtain ⟨k, hk, rfl, hown, hB⟩ := hrel
    by_cases hlt : k < n
    · rcases (Bool.eq_false_or_eq_true (s.testBit k)).symm with hb | hb
      · have HE : Hid (pts s (k + 1) = pts s k) := pts_no hb
        go_wp2_with (go_at_call 26; refine (in_any _ _ _ (by omega) (by omega)).mono ?_; rintro e w' ⟨rfl, rfl⟩)
        go_roundw
        case rel => exact ⟨k + 1, by omega, by go_num, by rw [HE.out]; exact hown, hB⟩
        case measure => simp [intOf]; omega
      · have HE : Hid (pts s (k + 1) = pts s k ++ [k]) := pts_yes hb
        have hlen := pts_len s k
        have hsz := hB.out.size
        obtain ⟨L, HL⟩ : ∃ L, Hid (L = pts s k) := ⟨_, rfl⟩
        rw [← HL.out] at hown hlen
        go_wp2_with (first | (go_at_call 26; refine (in_any _ _ _ (by omega) (by omega)).mono ?_; rintro e w' ⟨rfl, rfl⟩) | (at_builtin; refine wpList_append_own _ rfl _ _ 22 rfl w.heap.size 3 i0 (.int .i64 0) 1 8 Tryd.underlying22 hi hz0 hz1 hz2 rfl (by decide) _ _ _ rfl (hown.alloc _) ⟨wr.heap.size, 0, none⟩ 1 1 [.int .i64 (k : Nat)] rfl rfl ?c1 ?c2 ?c3 ?c4 ?c5 ?_))
        case c1 =>
          intro j u hj
          match j, hj with
          | 0, hj => simp at hj; subst hj; simp [Addr.add]
        case c2 => intro u hu; simp at hu; subst hu; rfl
        case c3 => unfold maxLen; omega
        case c4 => omega
        case c5 => simp; omega
        intro v' w1 hown' hgrow _
        have HB5 : Hid (Below w.heap.size w w1) := below_append3 hB.out hown hgrow
        have HO5 : Hid (w1.ownsRow w.heap.size 3 1 v' (pts s (k + 1)).length (natVals (pts s (k + 1)))) := by
          rw [HE.out, ← HL.out, natVals_append, List.length_append]; exact hown'
        clear hown' hgrow hown hB hlen hsz HL
        go_wp2_with fail
        go_roundw
        case rel => exact ⟨k + 1, by omega, by go_num, HO5.out, HB5.out⟩
        case measure => simp [intOf]; omega
    · have hkn : k = n := by omega
      subst hkn
      have HF : Hid (NSl wr u5 (pts s k)) := owns_nats hown
      clear hown
      go_wp2
      go_ret
      exact ⟨⟨_, rfl, HF.out⟩, hB.out⟩

theorem p6_step {w w1 w2 : World} {b0 b1 b2 o2 x y : Nat} {u0 u1 u2 u3 u4 : Value}
    (h : w1.cell? ⟨b0, 0, none⟩ = some u0 ∧ w1.cell? ⟨b0, 1, none⟩ = some u1 ∧ w1.cell? ⟨b1, 0, none⟩ = some u2 ∧ w1.cell? ⟨b2, o2 + x, none⟩ = some u3 ∧ w1.cell? ⟨b2, o2 + y, none⟩ = some u4 ∧ Below w.heap.size w w1)
    (hb : Below w1.heap.size w1 w2) :
    w2.cell? ⟨b0, 0, none⟩ = some u0 ∧ w2.cell? ⟨b0, 1, none⟩ = some u1 ∧ w2.cell? ⟨b1, 0, none⟩ = some u2 ∧ w2.cell? ⟨b2, o2 + x, none⟩ = some u3 ∧ w2.cell? ⟨b2, o2 + y, none⟩ = some u4 ∧ Below w.heap.size w w2 := by
  obtain ⟨h1, h2, h3, h4, h5, h6⟩ := h
  exact ⟨(hb.cell (World.block_lt_of_cell? _ _ h1)).trans h1, (hb.cell (World.block_lt_of_cell? _ _ h2)).trans h2, (hb.cell (World.block_lt_of_cell? _ _ h3)).trans h3, (hb.cell (World.block_lt_of_cell? _ _ h4)).trans h4, (hb.cell (World.block_lt_of_cell? _ _ h5)).trans h5, Below.then h6 hb⟩
theorem p6_below {w w1 : World} {b0 b1 b2 o2 x y : Nat} {u0 u1 u2 u3 u4 : Value}
    (h : w1.cell? ⟨b0, 0, none⟩ = some u0 ∧ w1.cell? ⟨b0, 1, none⟩ = some u1 ∧ w1.cell? ⟨b1, 0, none⟩ = some u2 ∧ w1.cell? ⟨b2, o2 + x, none⟩ = some u3 ∧ w1.cell? ⟨b2, o2 + y, none⟩ = some u4 ∧ Below w.heap.size w w1) : Below w.heap.size w w1 := h.2.2.2.2.2

theorem part1_any (x y : Nat) (a a2 : Option Addr) (len cap m cap2 b0 b1 : Nat) (g : Nat → Nat) (L : List Nat) (w : World) (h10 : len ≤ 10) (hg : ∀ k, k < len → g k < 1024) (hx : x < m) (hy : y < m)
    (hL : ∀ k, k < m → nth L k < len) (hH : Held w b0 len a len cap (fun k => (g k : Nat))) (hb1 : w.cell? ⟨b1, 0, none⟩ = some (.slice a2 m cap2)) (hr2 : Row w a2 m (fun k => (nth L k : Nat))) :
    Calls Tryd.prog 28 #[.int .i64 x, .int .i64 y, .pointer (some ⟨b0, 0, none⟩), .pointer (some ⟨b1, 0, none⟩)] w fun e w' => e = .returned (.bool ((g (nth L y)).testBit (nth L x))) ∧ Below w.heap.size w w' := by
  obtain ⟨b2, o2, rfl, hc⟩ := hr2.at hx
  have cx := hc x hx
  have cy := hc y hy
  have hLx := hL x hx
  have hLy := hL y hy
  have hx' : (x : Int) < (m : Int) := by omega
  have hy' : (y : Int) < (m : Int) := by omega
  have HR : Hid (Row w a len (fun k => (g k : Nat))) := hH.row
  have HG : Hid (∀ k, k < len → g k < 1024) := hg
  have KK : w.drew.cell? ⟨b0, 0, none⟩ = some (.int .i64 (len : Int)) ∧ w.drew.cell? ⟨b0, 1, none⟩ = some (.slice a len cap) ∧ w.drew.cell? ⟨b1, 0, none⟩ = some (.slice (some ⟨b2, o2, none⟩) m cap2) ∧ w.drew.cell? ⟨b2, o2 + x, none⟩ = some (.int .i64 (nth L x : Nat)) ∧ w.drew.cell? ⟨b2, o2 + y, none⟩ = some (.int .i64 (nth L y : Nat)) ∧ Below w.heap.size w w.drew := ⟨hH.c0, hH.c1, hb1, cx, cy, (Below.refl _ _).drew⟩
  clear hc cx cy hH hb1 hr2 hg hL
  generalize nth L x = X at *
  generalize nth L y = Y at *
  go_enter Tryd.func28, Tryd.ntmps28
  go_wp2
  go_region_held3 (fun w' => w'.cell? ⟨b0, 0, none⟩ = some (.int .i64 (len : Int)) ∧ w'.cell? ⟨b0, 1, none⟩ = some (.slice a len cap) ∧ w'.cell? ⟨b1, 0, none⟩ = some (.slice (some ⟨b2, o2, none⟩) m cap2) ∧ w'.cell? ⟨b2, o2 + x, none⟩ = some (.int .i64 (X : Nat)) ∧ w'.cell? ⟨b2, o2 + y, none⟩ = some (.int .i64 (Y : Nat)) ∧ Below w.heap.size w w')
    (first | exact KK | assumption | exact p6_step (by assumption) (by assumption))
    (first
      | (go_at_call 14; refine (less_any len a len cap g X Y _ h10 HG.out (HR.out.below (p6_below (by assumption))) (by omega) hLy).mono ?_; rintro e w' ⟨rfl, hb⟩))
  all_goals go_wp2
  all_goals go_ret
  all_goals exact ⟨rfl, p6_below (by assumption)⟩

theorem refPart_any (a : Option Addr) (len cap s : Nat) (g : Nat → Nat) (w : World) (h10 : len ≤ 10) (hg : ∀ k, k < len → g k < 1024) (hs : s < 1024) (hr : Row w a len (fun k => (g k : Nat))) :
    Calls Tryd.prog 15 #[.agg #[.int .i64 (len : Int), .slice a len cap], .int .i64 s] w fun e w' => OrderPost w (pts s len).length (prt g (pts s len)) e w' ∧ Below w.heap.size w w' := by
  have HH : Hid (Held ((w.alloc (.cells #[.int .i64 (len : Int), .slice a len cap] 24)).alloc (.cells #[.int .i64 0, .slice none 0 0] 24)) w.heap.size len a len cap (fun k => (g k : Nat))) := (Held.box hr).step ((Below.refl _ _).alloc (Nat.le_refl _) _)
  have HB : Hid (Below w.heap.size w ((w.alloc (.cells #[.int .i64 (len : Int), .slice a len cap] 24)).alloc (.cells #[.int .i64 0, .slice none 0 0] 24))) := ((Below.refl _ _).alloc (Nat.le_refl _) _).alloc (by simp) _
  have HZ : Hid (ZBox ((w.alloc (.cells #[.int .i64 (len : Int), .slice a len cap] 24)).alloc (.cells #[.int .i64 0, .slice none 0 0] 24)) (w.heap.size + 1)) := by have := ZBox.new (w.alloc (.cells #[.int .i64 (len : Int), .slice a len cap] 24)); rw [World.size_alloc] at this; exact this
  have HG : Hid (∀ k, k < len → g k < 1024) := hg
  clear hg hr
  have hLlen := pts_len s len
  have HLT : Hid (∀ k, k < (pts s len).length → nth (pts s len) k < len) := fun k hk => nth_pts_lt hk
  obtain ⟨L, HL⟩ : ∃ L, Hid (L = pts s len) := ⟨_, rfl⟩
  rw [← HL.out] at hLlen HLT
  rw [← HL.out]
  obtain ⟨m, HM⟩ : ∃ m, Hid (m = L.length) := ⟨_, rfl⟩
  rw [← HM.out] at hLlen HLT
  rw [← HM.out]
  go_enter Tryd.func15, Tryd.ntmps15
  go_wp2_with fail
  refine (points_any s len _ hs h10).mono ?_
  rintro e w1 ⟨⟨v, rfl, hv⟩, hb⟩
  rw [← HL.out] at hv
  obtain ⟨a2, cap2, rfl, hr2⟩ := hv
  rw [← HM.out] at hr2
  rw [← HM.out]
  have H1 := HH.out.step hb
  have Z1 := HZ.out.step hb
  have HB1 : Hid (Below w.heap.size w w1) := Below.then HB.out hb
  have H3 : Hid (Held (w1.alloc (.cells #[.slice a2 m cap2] 22)) w.heap.size len a len cap (fun k => (g k : Nat))) := H1.step ((Below.refl _ _).alloc (Nat.le_refl _) _)
  have Z3 : Hid (ZBox (w1.alloc (.cells #[.slice a2 m cap2] 22)) (w.heap.size + 1)) := Z1.step ((Below.refl _ _).alloc (Nat.le_refl _) _)
  have R3 : Hid (Row (w1.alloc (.cells #[.slice a2 m cap2] 22)) a2 m (fun k => (nth L k : Nat))) := hr2.below ((Below.refl _ _).alloc (Nat.le_refl _) _)
  have C3 : Hid ((w1.alloc (.cells #[.slice a2 m cap2] 22)).cell? ⟨w1.heap.size, 0, none⟩ = some (.slice a2 m cap2)) := (by simp : (w1.alloc (.cells #[.slice a2 m cap2] 22)).cell? ⟨w1.heap.size, 0, none⟩ = some (.slice a2 m cap2))
  have hl1 : w.heap.size + 1 < w1.heap.size := World.block_lt_of_cell? _ _ Z1.1
  have HB3 : Hid (Below w.heap.size w (w1.alloc (.cells #[.slice a2 m cap2] 22))) := HB1.out.alloc (by omega) _
  clear hb hr2 H1 Z1 HH HB HZ HB1 HL
  go_wp2_with fail
  refine (orderOf_part m w.heap.size w1.heap.size (fun x y => (g (nth L y)).testBit (nth L x)) _ (by omega) (fun x y wx hx hy hb => part1_any x y a a2 len cap m cap2 w.heap.size w1.heap.size g L wx h10 HG.out hx hy HLT.out (H3.out.step hb) ((hb.cell (World.block_lt_of_cell? _ _ C3.out)).trans C3.out) (R3.out.below hb))).mono ?_
  rintro e w4 ⟨⟨a4, cap4, rfl, hrow, hfr⟩, hb⟩
  obtain ⟨r0, r1, r2, r3⟩ := Z3.out.step hb
  have HB4 : Hid (Below w.heap.size w w4) := Below.then HB3.out hb
  have HR4 : Hid (Row w4 a4 m (fun k => (prt g L k : Nat))) := by unfold prt; rw [← HM.out]; exact hrow
  have HF4 : Hid (Fresh (w.heap.size + 1 + 1) a4 m) := hfr.mono (by simp; omega)
  clear hb hrow hfr Z3 HB3 H3 R3 C3 HG HLT
  go_wp2_with fail
  exact bodyPost_ret (v := .agg #[.int .i64 (m : Int), .slice a4 m cap4]) (by simp [results, Tryd.results15, go_sem, r0, r1]) rfl ⟨⟨a4, cap4, rfl, row_set2 HR4.out HF4.out, HF4.out.mono (by omega)⟩, set2B HB4.out (by omega)⟩

set_option maxHeartbeats 1000000 in
theorem cover_any (a : Option Addr) (len cap : Nat) (g : Nat → Nat) (x y : Nat) (w : World) (h10 : len ≤ 10) (hg : Sm len len g) (hr : Row w a len (fun k => (g k : Nat))) (hx : x < len) (hy : y < len) :
    Calls Tryd.prog 17 #[.agg #[.int .i64 (len : Int), .slice a len cap], .int .i64 x, .int .i64 y] w fun e w' => e = .returned (.bool (covQ g len x y)) ∧ Below w.heap.size w w' := by
  have K0 : Held (w.alloc (.cells #[.int .i64 (len : Int), .slice a len cap] 24)) w.heap.size len a len cap (fun k => (g k : Nat)) := Held.box hr
  have HB0 : Hid (Below w.heap.size w (w.alloc (.cells #[.int .i64 (len : Int), .slice a len cap] 24))) := (Below.refl _ _).alloc (Nat.le_refl _) _
  have HG : Hid (∀ k, k < len → g k < 1024) := fun k hk => Nat.lt_of_lt_of_le (hg k hk) (pw_le len h10)
  clear hr hg
  go_enter Tryd.func17, Tryd.ntmps17
  go_wp2_with fail
  refine (less_any len a len cap g x y _ h10 HG.out K0.row (by omega) hy).mono ?_
  rintro e w1 ⟨rfl, hb1⟩
  have K1 := K0.step hb1
  have HB1 : Hid (Below w.heap.size w w1) := Below.then HB0.out hb1
  clear hb1 K0 HB0
  rcases (Bool.eq_false_or_eq_true ((g y).testBit x)).symm with hb | hb
  · have HN : Hid (covQ g len x y = false) := covQ_not (fun h => by have := h.1; rw [hb] at this; cases this)
    go_wp2_with fail
    go_ret
    exact ⟨ret_bool HN.out.symm, HB1.out⟩
  · have HK1 : Hid (Held w1 w.heap.size len a len cap (fun k => (g k : Nat))) := K1
    clear K1
    go_wp2_with fail
    go_loopw [7] (fun i wx => ∃ k : Nat, k ≤ len ∧ i = .int .i64 k ∧ Hid (∀ j, j < k → ¬ ((g j).testBit x = true ∧ (g y).testBit j = true)) ∧ Held wx w.heap.size len a len cap (fun k => (g k : Nat)) ∧ Hid (Below w.heap.size w wx)) (fun i _ => len - (intOf i).toNat)
    case atStart => exact ⟨0, Nat.zero_le _, rfl, upto_zero, HK1.out, HB1.out⟩
    case round =>
      obtain ⟨k, hk, rfl, hok, hH, hB⟩ := hrel
      clear HK1 HB1
      have c0 := hH.c0
      have c1 := hH.c1
      by_cases hlt : k < len
      · cases b1 : (g k).testBit x
        · go_wp2_with fail
          refine (less_any len a len cap g x k _ h10 HG.out hH.row (by omega) hlt).mono ?_
          rintro e w2 ⟨rfl, hb2⟩
          have Hb2 : Hid (Below wr.heap.size wr w2) := hb2; clear hb2
          go_wp2_with fail
          go_roundw
          case rel => exact ⟨k + 1, by omega, by go_num, upto_succ hok.out (by rw [b1]; simp), hH.step Hb2.out, Below.then hB.out Hb2.out⟩
          case measure => simp [intOf]; omega
        · cases b2 : (g y).testBit k
          · go_wp2_with fail
            refine (less_any len a len cap g x k _ h10 HG.out hH.row (by omega) hlt).mono ?_
            rintro e w2 ⟨rfl, hb2⟩
            have H2 := hH.step hb2
            have d0 := H2.c0
            have d1 := H2.c1
            have Hb2 : Hid (Below wr.heap.size wr w2) := hb2; clear hb2
            go_wp2_with fail
            refine (less_any len a len cap g k y _ h10 HG.out H2.row (by omega) hy).mono ?_
            rintro e w3 ⟨rfl, hb3⟩
            have Hb3 : Hid (Below w2.heap.size w2 w3) := hb3; clear hb3
            go_wp2_with fail
            go_roundw
            case rel => exact ⟨k + 1, by omega, by go_num, upto_succ hok.out (by rw [b2]; simp), H2.step Hb3.out, Below.then (Below.then hB.out Hb2.out) Hb3.out⟩
            case measure => simp [intOf]; omega
          · have HN : Hid (covQ g len x y = false) := covQ_not (fun h => h.2 k hlt ⟨b1, b2⟩)
            go_wp2_with fail
            refine (less_any len a len cap g x k _ h10 HG.out hH.row (by omega) hlt).mono ?_
            rintro e w2 ⟨rfl, hb2⟩
            have H2 := hH.step hb2
            have d0 := H2.c0
            have d1 := H2.c1
            have Hb2 : Hid (Below wr.heap.size wr w2) := hb2; clear hb2
            go_wp2_with fail
            refine (less_any len a len cap g k y _ h10 HG.out H2.row (by omega) hy).mono ?_
            rintro e w3 ⟨rfl, hb3⟩
            have Hb3 : Hid (Below w2.heap.size w2 w3) := hb3; clear hb3
            go_wp2_with fail
            go_ret
            exact ⟨ret_bool HN.out.symm, Below.then (Below.then hB.out Hb2.out) Hb3.out⟩
      · have hkn : k = len := by omega
        subst hkn
        have HN : Hid (covQ g k x y = true) := covQ_of ⟨hb, hok.out⟩
        go_wp2
        go_ret
        exact ⟨ret_bool HN.out.symm, hB.out⟩

end Go.Proofs.YtedpfjhdngnmpaaDoor
