/-
  What fix.nearest and fix.mayGo answer. Conditions: the library's table lies in its variable; sets of at most ten points.
  What fix.Core answers. No condition but that a slice reads as a slice of numbers and the library's table lies in its variable.
  What fix.Least and fix.Greatest answer. No condition but that slices read as slices of rows and of numbers.
  hasselaw.fixBegun answers true. Condition: the library's table lies in its variable.
-/
import Derived.Test.YtfajgahofkcndaaDoorHigh
import Derived.Test.YtfajgahofkcndaaDoorNats
import Derived.ScopeJumps
import Derived.WalkMore
import Derived.Test.YtfajgahofkcndaaDoorCnt
import Derived.Test.YtfajgahofkcndaaDoorFixF
import Derived.Test.YtfajgahofkcndaaDoorPair
namespace Go.Proofs.YtfajgahofkcndaaDoor
open Go.RowKit

set_option maxHeartbeats 1000000 in
theorem turn_any (n : Nat) (g : Nat → Nat) (a : Option Addr) (cap : Nat) (w : World) (hn : n ≤ 10) (hg : ∀ k, k < n → g k < 1024) (hr : Row w a n (fun k => (g k : Nat))) :
    Calls Tryd.prog 23 #[.slice a n cap] w fun e w' => e = .returned (.slice (some ⟨w.heap.size, 0, none⟩) n n) ∧ Own w' w.heap.size n (trn g n) ∧ Below w.heap.size w w' := by
  have HG := (show Hid (∀ k, k < n → g k < 1024) from hg)
  have HR := (show Hid (Row w a n (fun k => (g k : Nat))) from hr)
  clear hg hr
  obtain ⟨i0, hi, hz0, hz1, hz2⟩ := info_parts Tryd.info3
  go_enter Tryd.func23, Tryd.ntmps23
  go_wp2_with (at_make; refine wpList_make_full _ rfl _ _ 22 rfl w.heap.size 3 i0 (.int .i64 0) 1 Tryd.underlying22 hi hz0 hz1 .i64 .i64 _ _ n rfl rfl rfl rfl (by rw [hz2]; omega) (by unfold maxLen; omega) (Nat.le_refl _) ?_; intro w1 hown1 hgrow1)
  have HB1 : Hid (Below w.heap.size w w1) := (Below.refl _ _).grown hgrow1 (Nat.le_refl _) (by simp)
  have HO1 : Hid (Own w1 w.heap.size n (trn g 0)) := own_made hown1
  clear hown1 hgrow1 hi hz0 hz1 hz2
  go_loopw [12] (fun i wx => ∃ u : Nat, u ≤ n ∧ i = .int .i64 u ∧ Own wx w.heap.size n (trn g u) ∧ Hid (Below w.heap.size w wx)) (fun i _ => n - (intOf i).toNat)
  case atStart => exact ⟨0, Nat.zero_le _, rfl, HO1.out, HB1.out⟩
  case round =>
    obtain ⟨u, hu, rfl, hO, hB⟩ := hrel
    clear HO1 HB1
    by_cases hlt : u < n
    · obtain ⟨b, off, rfl, hc⟩ := (HR.out.below hB.out).at hlt
      have hcu := hc u hlt
      clear hc
      have hgu := HG.out u hlt
      go_wp2
      have HO1 : Hid (Own wr w.heap.size n (mix g u 0)) := by rw [mix_zero]; exact hO
      clear hO hcu
      go_loopw [19] (fun i wy => ∃ k : Nat, k ≤ n ∧ i = .int .i64 k ∧ Own wy w.heap.size n (mix g u k) ∧ Hid (Below w.heap.size w wy)) (fun i _ => n - (intOf i).toNat)
      case atStart => exact ⟨0, Nat.zero_le _, rfl, HO1.out, hB⟩
      case round =>
        obtain ⟨k, hk, rfl, hO, hBy⟩ := hrel
        clear HO1 hB
        by_cases hkl : k < n
        · rcases (Bool.eq_false_or_eq_true ((g u).testBit k)).symm with hb | hb
          · go_wp2_with (go_at_call 15; refine (has_any _ _ _ (by omega) (by omega)).mono ?_; rintro e w' ⟨rfl, rfl⟩)
            go_roundw
            case rel => exact ⟨k + 1, by omega, by go_num, by rw [mix_no hb]; exact hO, hBy⟩
            case measure => simp [intOf]; omega
          · have hck := (hO k hkl).1
            have hfk := (hO k hkl).2
            rw [mix_same] at hck
            have hsh := wrap_pow u (Nat.lt_of_lt_of_le hlt (Nat.le_trans hn (by decide)))
            have hor := or_pw (b := u) hn (trn_small g u k n hu) hlt
            have HOY := (show Hid _ from hO); clear hO
            go_wp2_with (go_at_call 15; refine (has_any _ _ _ (by omega) (by omega)).mono ?_; rintro e w' ⟨rfl, rfl⟩)
            go_region
            all_goals go_wp2
            all_goals go_roundw
            case rel => exact ⟨k + 1, by omega, by go_num, by rw [mix_yes hb]; exact Own.set HOY.out k _ hkl, Below.drew (Below.setCell (p := ⟨w.heap.size, k, none⟩) hBy.out (Nat.le_refl _) _)⟩
            case measure => simp [intOf]; omega
        · have hkn : k = n := by omega
          subst hkn
          go_wp2
          go_roundw
          case rel => exact ⟨u + 1, by omega, by go_num, hO.congr (fun l hl => by simp [mix, hl]), hBy⟩
          case measure => simp [intOf]; omega
    · have hun : u = n := by omega
      subst hun
      go_wp2
      go_ret
      exact ⟨rfl, hO, hB.out⟩

theorem dual_any (n : Int) (a : Option Addr) (len cap : Nat) (f : Nat → Int) (w : World) (hl : len ≤ maxLen) (hr : Row w a len f) :
    Calls Tryd.prog 13 #[.agg #[.int .i64 n, .slice a len cap]] w fun e w' => DualPost n len f e w' ∧ Below w.heap.size w w' := by
  have HH : Hid (Held ((w.alloc (.cells #[.int .i64 n, .slice a len cap] 24)).alloc (.cells #[.int .i64 0, .slice none 0 0] 24)) w.heap.size n a len cap f) := (Held.box hr).step ((Below.refl _ _).alloc (Nat.le_refl _) _)
  have HB : Hid (Below w.heap.size w ((w.alloc (.cells #[.int .i64 n, .slice a len cap] 24)).alloc (.cells #[.int .i64 0, .slice none 0 0] 24))) := ((Below.refl _ _).alloc (Nat.le_refl _) _).alloc (by simp) _
  have HZ : Hid (ZBox ((w.alloc (.cells #[.int .i64 n, .slice a len cap] 24)).alloc (.cells #[.int .i64 0, .slice none 0 0] 24)) (w.heap.size + 1)) := by have := ZBox.new (w.alloc (.cells #[.int .i64 n, .slice a len cap] 24)); rw [World.size_alloc] at this; exact this
  have HR : Hid (Row w a len f) := hr
  clear hr
  go_enter Tryd.func13, Tryd.ntmps13
  go_wp2_with fail
  refine (check_any n a len cap f _ hl HH.out.row).mono ?_
  rintro e w1 ⟨⟨c, rfl, hc⟩, hb⟩
  have K1 := HH.out.step hb
  have Z1 := HZ.out.step hb
  have HB1 : Hid (Below w.heap.size w w1) := Below.then HB.out hb
  clear hb HH HB HZ
  by_cases h0 : c = 0
  · subst h0
    obtain ⟨rfl, h10, hrng, _⟩ := hc.good
    have KK : w1.drew.cell? ⟨w.heap.size, 0, none⟩ = some (.int .i64 (len : Int)) ∧ w1.drew.cell? ⟨w.heap.size, 1, none⟩ = some (.slice a len cap) ∧ Below w.heap.size w w1.drew := ⟨K1.c0, K1.c1, HB1.out.drew⟩
    have HRW : Hid (Row w a len (fun k => (nat f k : Nat))) := hrng.row HR.out
    have HC : Hid (Chk (len : Int) len f 0) := hc
    have HG : Hid (∀ k, k < len → nat f k < 1024) := hrng.small2 h10
    have HZ1 : Hid (ZBox w1.drew (w.heap.size + 1)) := Z1
    have hsz : w.heap.size + 1 < w1.heap.size := World.block_lt_of_cell? _ _ Z1.1
    clear K1 HB1 hc hrng Z1
    go_wp2_with fail
    go_region_held3 (fun w' => w'.cell? ⟨w.heap.size, 0, none⟩ = some (.int .i64 (len : Int)) ∧ w'.cell? ⟨w.heap.size, 1, none⟩ = some (.slice a len cap) ∧ Below w.heap.size w w')
      (first | exact KK | assumption | exact k3_step (by assumption) (by assumption) | exact k3_set2 (by assumption))
      (first
        | (go_at_call 23; refine (turn_any len (nat f) a cap _ h10 HG.out (HRW.out.below (k3_below (n := (len : Int)) (a := a) (len := len) (cap := cap) (by assumption)))).mono ?_; rintro e w' ⟨rfl, ho, hb⟩; obtain ⟨r0, r1, r2, r3⟩ := HZ1.out.step hb))
    all_goals go_wp2
    refine bodyPost_ret (v := .tuple #[.agg #[.int .i64 (len : Int), .slice (some ⟨w1.heap.size, 0, none⟩) len len], .int .i64 0]) ?_ rfl ⟨⟨0, _, HC.out, rfl, .inr ⟨rfl, _, _, rfl, ?_⟩⟩, ?_⟩
    · simp [results, Tryd.results13, go_sem, r0, r1]
    · exact row_set2 (Own.row ho) (fun _ => ⟨_, _, rfl, hsz⟩)
    · exact k3_below (n := (len : Int)) (a := a) (len := len) (cap := cap) (by assumption)
  · have hne : (c != 0) = true := by simpa using h0
    obtain ⟨r0, r1, r2, r3⟩ := Z1
    have HC : Hid (Chk n len f c) := hc
    clear hc
    go_wp2_with fail
    exact bodyPost_ret (v := .tuple #[noOrder, .int .i64 c]) (by simp [results, Tryd.results13, go_sem, noOrder, r0, r1]) rfl ⟨⟨c, _, HC.out, rfl, .inl ⟨h0, rfl⟩⟩, set2B HB1.out (by omega)⟩



/-- All that is below the first k of a list. -/
def orL (g : Nat → Nat) (l : List Nat) : Nat → Nat
  | 0 => 0
  | k + 1 => orL g l k ||| g (nth l k)
theorem orL_lt {g : Nat → Nat} {l : List Nat} (hg : ∀ k, k < l.length → g (nth l k) < 1024) : ∀ k, k ≤ l.length → orL g l k < 1024
  | 0, _ => by simp [orL]
  | k + 1, hk => Nat.or_lt_two_pow (n := 10) (orL_lt hg k (by omega)) (hg k (by omega))
/-- The nearest points below p, of those that are left. -/
def nst (g : Nat → Nat) (left p : Nat) : Nat := lack (g p &&& left) (orL g (pts (g p &&& left) 10) (pts (g p &&& left) 10).length)
theorem nth_pts_lt {s n k : Nat} (h : k < (pts s n).length) : nth (pts s n) k < n := by
  refine pts_lt s n _ ?_
  unfold nth; rw [List.getD_eq_getElem?_getD, List.getElem?_eq_getElem h]; exact List.getElem_mem h
theorem and_lt {a b : Nat} (h : a < 1024) : a &&& b < 1024 := Nat.lt_of_le_of_lt Nat.and_le_left h
theorem nst_lt {g : Nat → Nat} {left p : Nat} (h : g p < 1024) : nst g left p < 1024 := Nat.lt_of_le_of_lt (lack_le _ _) (and_lt h)

set_option maxHeartbeats 2000000 in
theorem nearest_any (n : Nat) (a : Option Addr) (ca : Nat) (g : Nat → Nat) (left p : Nat) (w : World) (h10 : n ≤ 10) (hg : ∀ k, k < n → g k < pw n) (hr : Row w a n (fun k => (g k : Nat))) (hp : p < n) (hl : left < 1024) (hT : Tab w) :
    Calls Tryd.prog 25 #[.agg #[.int .i64 (n : Nat), .slice a n ca], .int .i64 (left : Nat), .int .i64 (p : Nat)] w fun e w' => e = .returned (.int .i64 (nst g left p : Nat)) ∧ Below w.heap.size w w' := by
  have hpw := pw_le n h10
  obtain ⟨W, HWE⟩ : ∃ W, Hid (W = w.alloc (.cells #[.int .i64 (n : Nat), .slice a n ca] 24)) := ⟨_, rfl⟩
  have hW : Below w.heap.size w W := by rw [HWE.out]; exact (Below.refl _ _).alloc (Nat.le_refl _) _
  have c1 : W.cell? ⟨w.heap.size, 1, none⟩ = some (.slice a n ca) := by rw [HWE.out]; simp
  have HR : Hid (∀ wx, Below W.heap.size W wx → Row wx a n (fun k => (g k : Nat))) := fun wx h => (hr.below hW).below h
  have HC : Hid (∀ wx, Below W.heap.size W wx → wx.cell? ⟨w.heap.size, 1, none⟩ = some (.slice a n ca)) := fun wx h => cell_step h c1
  have HB : Hid (Below w.heap.size w W) := hW
  have HTW : Hid (Tab W) := hT.step hW
  obtain ⟨b, off, rfl, hc⟩ := HR.out W (Below.refl _ _) p hp
  have hgp : g p < 1024 := Nat.lt_of_lt_of_le (hg p hp) hpw
  have hu : g p &&& left < 1024 := and_lt hgp
  obtain ⟨s, HS⟩ : ∃ s, Hid (s = g p &&& left) := ⟨_, rfl⟩
  have hs : s < 1024 := by rw [HS.out]; exact hu
  have hsn : s < pw n := by rw [HS.out]; exact Nat.lt_of_le_of_lt Nat.and_le_left (hg p hp)
  have hand := i64_and (g p) left (by omega) (by omega)
  rw [← HS.out] at hand
  have HM : Hid (∀ k, k < (pts s 10).length → nth (pts s 10) k < n) := fun k hk => by
    have e : pts s 10 = pts s n := by
      have := pts_more hsn (10 - n)
      rw [show n + (10 - n) = 10 by omega] at this
      exact this
    rw [e] at hk ⊢
    exact nth_pts_lt hk
  have HG : Hid (∀ k, k < n → g k < 1024) := fun k hk => Nat.lt_of_lt_of_le (hg k hk) hpw
  have HOR : Hid (∀ k, k ≤ (pts s 10).length → orL g (pts s 10) k < 1024) := orL_lt fun k hk => HG.out _ (HM.out k hk)
  have ip : (p : Int) < (n : Int) := by omega
  have hcE := hc
  rw [HWE.out] at hcE
  clear hr hW hT hg hpw hu
  go_enter Tryd.func25, Tryd.ntmps25
  go_wp2_with fail
  rw [← HWE.out]
  refine (members_any s _ hs HTW.out).mono ?_
  rintro e w1 ⟨⟨v, rfl, va, vc, rfl, hvr⟩, hb1⟩
  have HB1 : Hid (Below W.heap.size W w1) := hb1
  have HVR : Hid (Row w1 va (pts s 10).length (fun k => (nth (pts s 10) k : Nat))) := hvr
  have hlen := pts_len s 10
  obtain ⟨q, HQ⟩ : ∃ q, Hid (q = (pts s 10).length) := ⟨_, rfl⟩
  rw [← HQ.out] at hlen ⊢
  rw [← HQ.out] at HVR HM HOR
  have HRES : Hid (nst g left p = lack s (orL g (pts s 10) q)) := by
    show lack (g p &&& left) (orL g (pts (g p &&& left) 10) (pts (g p &&& left) 10).length) = _
    rw [← HS.out, ← HQ.out]
  generalize pts s 10 = l at *
  clear hb1 hvr c1 hc hcE HQ
  go_wp2_with fail
  go_loopw [8, 21] (fun v i wx => ∃ k : Nat, k ≤ q ∧ i = .int .i64 k ∧ v = .int .i64 (orL g l k : Nat) ∧ wx = w1) (fun _ i _ => q - (intOf i).toNat)
  case atStart => exact ⟨0, Nat.zero_le _, rfl, rfl, rfl⟩
  case round =>
    obtain ⟨k, hk, rfl, rfl, rfl⟩ := hrel
    by_cases hlt : k < q
    · obtain ⟨vb, vo, rfl, hvc⟩ := HVR.out k hlt
      have hm := HM.out k hlt
      obtain ⟨_, _, e, hcm⟩ := HR.out _ HB1.out _ hm
      cases e
      have hcb := HC.out _ HB1.out
      have i1 : (k : Int) < (q : Int) := by omega
      have i2 : ((nth l k : Nat) : Int) < (n : Int) := by omega
      have h1 := HOR.out k hk
      have h2 := HG.out _ hm
      have hor := i64_or (orL g l k) (g (nth l k)) (by omega) (by omega)
      have HE : Hid (orL g l (k + 1) = orL g l k ||| g (nth l k)) := rfl
      go_wp2_with fail
      go_roundw
      case rel => exact ⟨k + 1, by omega, by go_num, by rw [HE.out], by first | rfl | trivial⟩
      case measure => simp [intOf]; omega
    · obtain rfl : k = q := by omega
      have h1 := HOR.out k (Nat.le_refl _)
      have han := i64_andNot s (orL g l k) (by omega) (by omega)
      go_wp2_with fail
      go_ret
      exact ⟨by rw [HRES.out]; rfl, Below.then HB.out HB1.out⟩

/-- May a point be taken away? -/
def mayB (g h : Nat → Nat) (left p : Nat) : Bool := pc (nst g left p) == 1 || pc (nst h left p) == 1
set_option maxHeartbeats 2000000 in
theorem mayGo_any (n : Nat) (a a' : Option Addr) (ca ca' : Nat) (g h : Nat → Nat) (left p : Nat) (w : World) (h10 : n ≤ 10) (hg : ∀ k, k < n → g k < pw n) (hh : ∀ k, k < n → h k < pw n) (hr : Row w a n (fun k => (g k : Nat))) (hr' : Row w a' n (fun k => (h k : Nat))) (hp : p < n) (hl : left < 1024) (hT : Tab w) :
    Calls Tryd.prog 16 #[.agg #[.int .i64 (n : Nat), .slice a n ca], .agg #[.int .i64 (n : Nat), .slice a' n ca'], .int .i64 (left : Nat), .int .i64 (p : Nat)] w fun e w' => e = .returned (.bool (mayB g h left p)) ∧ Below w.heap.size w w' := by
  obtain ⟨W, HWE⟩ : ∃ W, Hid (W = (w.alloc (.cells #[.int .i64 (n : Nat), .slice a n ca] 24)).alloc (.cells #[.int .i64 (n : Nat), .slice a' n ca'] 24)) := ⟨_, rfl⟩
  have hW : Below w.heap.size w W := by rw [HWE.out]; exact ((Below.refl _ _).alloc (Nat.le_refl _) _).alloc (by simp) _
  have c0 : W.cell? ⟨w.heap.size, 0, none⟩ = some (.int .i64 (n : Nat)) := by rw [HWE.out]; simp
  have c1 : W.cell? ⟨w.heap.size, 1, none⟩ = some (.slice a n ca) := by rw [HWE.out]; simp
  have d0 : W.cell? ⟨w.heap.size + 1, 0, none⟩ = some (.int .i64 (n : Nat)) := by rw [HWE.out]; simp
  have d1 : W.cell? ⟨w.heap.size + 1, 1, none⟩ = some (.slice a' n ca') := by rw [HWE.out]; simp
  have HB : Hid (Below w.heap.size w W) := hW
  have HN1 : Hid (Calls Tryd.prog 25 #[.agg #[.int .i64 (n : Nat), .slice a n ca], .int .i64 (left : Nat), .int .i64 (p : Nat)] W fun e w' => e = .returned (.int .i64 (nst g left p : Nat)) ∧ Below W.heap.size W w') := nearest_any n a ca g left p W h10 hg (hr.below hW) hp hl (hT.step hW)
  have HN2 : Hid (∀ wx, Below W.heap.size W wx → Calls Tryd.prog 25 #[.agg #[.int .i64 (n : Nat), .slice a' n ca'], .int .i64 (left : Nat), .int .i64 (p : Nat)] wx fun e w' => e = .returned (.int .i64 (nst h left p : Nat)) ∧ Below wx.heap.size wx w') := fun wx hx =>
    nearest_any n a' ca' h left p wx h10 hh ((hr'.below hW).below hx) hp hl ((hT.step hW).step hx)
  have hpw := pw_le n h10
  have hn1 : nst g left p < 1024 := nst_lt (Nat.lt_of_lt_of_le (hg p hp) hpw)
  have hn2 : nst h left p < 1024 := nst_lt (Nat.lt_of_lt_of_le (hh p hp) hpw)
  unfold mayB
  obtain ⟨v1, hv1⟩ : ∃ v, (pc (nst g left p) == 1) = v := ⟨_, rfl⟩
  obtain ⟨v2, hv2⟩ : ∃ v, (pc (nst h left p) == 1) = v := ⟨_, rfl⟩
  rw [hv1, hv2]
  have hc1 : (((pc (nst g left p) : Nat) : Int) == 1) = v1 := by rw [← hv1, Bool.eq_iff_iff, beq_iff_eq, beq_iff_eq]; omega
  have hc2 : (((pc (nst h left p) : Nat) : Int) == 1) = v2 := by rw [← hv2, Bool.eq_iff_iff, beq_iff_eq, beq_iff_eq]; omega
  clear hg hh hr hr' hT hW hv1 hv2 hpw
  generalize nst g left p = x at *
  generalize nst h left p = y at *
  rcases v1 with _ | _
  · go_enter Tryd.func16, Tryd.ntmps16
    go_wp2_with fail
    rw [← HWE.out]
    go_wp2_with fail
    refine (Calls.mono HN1.out) ?_
    rintro e w1 ⟨rfl, hb1⟩
    have HB1 : Hid (Below W.heap.size W w1) := hb1
    have e0 := cell_step hb1 d0
    have e1 := cell_step hb1 d1
    clear hb1 HN1 c0 c1 d0 d1
    go_wp2_with (go_at_call 24; refine (size_any x _ hn1).mono ?_; rintro e w' ⟨rfl, rfl⟩)
    refine (HN2.out _ HB1.out).mono ?_
    rintro e w2 ⟨rfl, hb2⟩
    have HB2 : Hid (Below w.heap.size w w2) := Below.then HB.out (Below.then HB1.out hb2)
    clear hb2 HN2 HB1 HB e0 e1
    go_wp2_with (go_at_call 24; refine (size_any y _ hn2).mono ?_; rintro e w' ⟨rfl, rfl⟩)
    go_ret
    exact ⟨by rw [Bool.false_or]; rfl, HB2.out⟩
  · go_enter Tryd.func16, Tryd.ntmps16
    go_wp2_with fail
    rw [← HWE.out]
    go_wp2_with fail
    refine (Calls.mono HN1.out) ?_
    rintro e w1 ⟨rfl, hb1⟩
    have HB1 : Hid (Below w.heap.size w w1) := Below.then HB.out hb1
    clear hb1 HN1 c0 c1 d0 d1 HN2 HB
    go_wp2_with (go_at_call 24; refine (size_any x _ hn1).mono ?_; rintro e w' ⟨rfl, rfl⟩)
    go_ret
    exact ⟨rfl, HB1.out⟩


/-- The least of the first k of which it is so. -/
def findB (P : Nat → Bool) : Nat → Option Nat
  | 0 => none
  | k + 1 => match findB P k with
    | some p => some p
    | none => if P k = true then some k else none
theorem findB_none {P : Nat → Bool} : ∀ {k : Nat}, (∀ p, p < k → P p = false) → findB P k = none
  | 0, _ => rfl
  | k + 1, h => by rw [findB, findB_none fun p hp => h p (by omega)]; simp [h k (by omega)]
theorem findB_some {P : Nat → Bool} {p : Nat} : ∀ {k : Nat}, p < k → P p = true → (∀ i, i < p → P i = false) → findB P k = some p
  | 0, h, _, _ => absurd h (Nat.not_lt_zero _)
  | k + 1, h, hp, hn => by
    by_cases e : p = k
    · subst e; rw [findB, findB_none hn]; simp [hp]
    · rw [findB, findB_some (by omega) hp hn]
/-- May p go? -/
def goB (g h : Nat → Nat) (left p : Nat) : Bool := left.testBit p && mayB g h left p
/-- What is left at last. -/
def core (g h : Nat → Nat) (n : Nat) : Nat → Nat → Nat
  | 0, left => left
  | k + 1, left => match findB (goB g h left) n with
    | some p => core g h n k (lack left (pw p))
    | none => left
theorem core_stop {g h : Nat → Nat} {n fuel left : Nat} (hf : findB (goB g h left) n = none) (_ : left ≤ fuel) : core g h n fuel left = left := by
  cases fuel with
  | zero => rfl
  | succ k => rw [core, hf]
theorem core_next {g h : Nat → Nat} {n fuel left p : Nat} (hf : findB (goB g h left) n = some p) (hl : left ≤ fuel) (h0 : 0 < left) : core g h n fuel left = core g h n (fuel - 1) (lack left (pw p)) := by
  obtain ⟨k, rfl⟩ : ∃ k, fuel = k + 1 := ⟨fuel - 1, by omega⟩
  rw [core, hf]; rfl
theorem lack_less {left p : Nat} (hb : left.testBit p = true) (hl : left < 1024) : lack left (pw p) < left := by
  have h1 := lack_le left (pw p)
  rcases Nat.lt_or_eq_of_le h1 with h | h
  · exact h
  · have hp : p < 10 := bit_of_lt (n := 10) hl hb
    have hq : pw p < 1024 := Nat.pow_lt_pow_right (by decide) hp
    have := lack_bit left (pw p) p (by omega) (by omega)
    rw [h, hb] at this
    simp [pw] at this
theorem has_as' (s p : Nat) (w : World) (v : Bool) (hv : s.testBit p = v) (hs : s < 9223372036854775808) (hp : p < 63) :
    Calls Tryd.prog 15 #[.int .i64 s, .int .i64 p] w fun e w' => e = .returned (.bool v) ∧ w = w' := by
  rw [← hv]; exact has_any s p w hs hp

/-- What lies there when the search begins. -/
structure CoreS (w W : World) (X : OA) (n0 : Int) (a : Option Addr) (la ca : Nat) (F : Nat → Int) (n D : Nat) (d : Option Addr) (cd : Nat) : Prop where
  en : n0 = (n : Nat)
  el : n = la
  ck : X.Ck 0
  n10 : n ≤ 10
  gg : ∀ k, k < n → nat F k < pw n
  b1 : OB W w.heap.size (n : Nat) a n ca
  b2 : OB W D (n : Nat) d n cd
  r1 : Row W a n (fun k => (nat F k : Nat))
  r2 : Row W d n (fun k => (trn (nat F) n k : Nat))
  tb : Tab W
  bl : Below w.heap.size w W
def CorePost (o : OA) (e : Ending) : Prop := ∃ c v, o.Ck c ∧ e = .returned (.tuple #[.int .i64 v, .int .i64 c]) ∧ ((c ≠ 0 ∧ v = 0) ∨ (c = 0 ∧ v = (core o.g (trn o.g o.q) o.q (pw o.q - 1) (pw o.q - 1) : Nat)))

set_option maxRecDepth 100000 in
set_option maxHeartbeats 8000000 in
theorem core_any (o : OA) (w : World) (ho : o.In w) (hT : Tab w) : Calls Tryd.prog 5 #[o.v] w fun e w' => CorePost o e ∧ Below w.heap.size w w' := by
  obtain ⟨X, hX⟩ : ∃ X, X = o := ⟨_, rfl⟩
  have HE : Hid (X = o) := hX
  have HV : Hid (X.v = o.v) := congrArg OA.v hX
  rw [← hX, HV.out]
  rw [← hX] at ho
  clear hX HV
  obtain ⟨n0, a, la, ca, F⟩ := o
  simp only [OA.v] at *
  obtain ⟨W0, HWE⟩ : ∃ W0, Hid (W0 = w.alloc (.cells #[.int .i64 n0, .slice a la ca] 24)) := ⟨_, rfl⟩
  have hW0 : Below w.heap.size w W0 := by rw [HWE.out]; exact (Below.refl _ _).alloc (Nat.le_refl _) _
  have x0 : OB W0 w.heap.size n0 a la ca := by rw [HWE.out]; exact OB.new _ _ _ _ _
  have HB0 : Hid (Below w.heap.size w W0) := hW0
  have HI : Hid (X.In W0) := ho.step hW0
  have HT0 : Hid (Tab W0) := hT.step hW0
  have HDU : Hid (∀ wx, X.In wx → Calls Tryd.prog 13 #[.agg #[.int .i64 n0, .slice a la ca]] wx fun e w' => DualPost n0 la F e w' ∧ Below wx.heap.size wx w') := fun wx hx => by
    rw [HE.out] at hx
    exact dual_any n0 a la ca F wx hx.1 hx.2
  clear ho hT hW0
  go_enter Tryd.func5, Tryd.ntmps5
  go_wp2_with fail
  refine wp_scope_jumps 0 (fun a' w' => ∃ (n D : Nat) (d : Option Addr) (cd : Nat) (W : World) (left fuel : Nat), CoreS w W X n0 a la ca F n D d cd ∧ Below W.heap.size W w' ∧ left < 1024 ∧ left ≤ fuel ∧ core (nat F) (trn (nat F) n) n fuel left = core (nat F) (trn (nat F) n) n (pw n - 1) (pw n - 1) ∧
    ∃ u7 u8 u9 u10 u11 u12 u13 u14 u15 u16 u17 u18 u19 u20 u21 u22 u23 u24 u25 u26 u27 u28 u29 u30 u31 u32 u33 u34 u35 u36 u37 u38 u39 : Value, a' = { tmps := #[.agg #[.int .i64 n0, .slice a la ca], .pointer (some ⟨w.heap.size, 0, none⟩), .int .i64 0, .int .i64 0, .pointer (some ⟨D, 0, none⟩), .int .i64 0, .int .i64 (left : Nat), u7, u8, u9, u10, u11, u12, u13, u14, u15, u16, u17, u18, u19, u20, u21, u22, u23, u24, u25, u26, u27, u28, u29, u30, u31, u32, u33, u34, u35, u36, u37, u38, u39], defers := [] }) (fun a' _ => (intOf (a'.tmps.getD 6 undef)).toNat) rfl ?_ ?_
  · go_wp2_with fail
    rw [← HWE.out]
    refine (Calls.mono (HDU.out _ HI.out)) ?_
    rintro e w1 ⟨⟨c, x, hc, rfl, hx⟩, hb1⟩
    have HB1 : Hid (Below w.heap.size w w1) := Below.then HB0.out hb1
    have x1 := x0.step hb1
    have HT1 : Hid (Tab w1) := HT0.out.step hb1
    have HI1 : Hid (X.In w1) := HI.out.step hb1
    by_cases h0 : c = 0
    · subst h0
      obtain ⟨en, h10, hrg, hord⟩ := Chk.good hc
      rcases hx with ⟨h, _⟩ | ⟨_, d, cd, rfl, hrd⟩
      · exact absurd rfl h
      obtain ⟨n, hn⟩ : ∃ n, n = la := ⟨_, rfl⟩
      rw [← hn] at en h10 hrg hord hrd
      subst hn
      subst en
      have hxi := HI1.out
      rw [HE.out] at hxi
      obtain ⟨W, HW1⟩ : ∃ W, Hid (W = w1.alloc (.cells #[.int .i64 (n : Nat), .slice d n cd] 24)) := ⟨_, rfl⟩
      have hbW : Below w1.heap.size w1 W := by rw [HW1.out]; exact (Below.refl _ _).alloc (Nat.le_refl _) _
      have S : CoreS w W X (n : Nat) a n ca F n w1.heap.size d cd := ⟨rfl, rfl, by rw [HE.out]; exact hc, h10, hrg.small, x1.step hbW, by rw [HW1.out]; exact OB.new _ _ _ _ _, (hrg.row hxi.2).below hbW, hrd.below hbW, HT1.out.step hbW, Below.then HB1.out hbW⟩
      have HSS : Hid (CoreS w W X (n : Nat) a n ca F n w1.heap.size d cd) := S
      have HC : Hid (∀ wx, Below W.heap.size W wx → OB wx w.heap.size (n : Nat) a n ca ∧ OB wx w1.heap.size (n : Nat) d n cd) := fun wx hx => ⟨S.b1.step hx, S.b2.step hx⟩
      obtain ⟨g, HG⟩ : ∃ g, Hid (g = nat F) := ⟨_, rfl⟩
      obtain ⟨h, HH⟩ : ∃ h, Hid (h = trn g n) := ⟨_, rfl⟩
      have HM : Hid (∀ wx lf p, Below W.heap.size W wx → p < n → lf < 1024 → Calls Tryd.prog 16 #[.agg #[.int .i64 (n : Nat), .slice a n ca], .agg #[.int .i64 (n : Nat), .slice d n cd], .int .i64 (lf : Nat), .int .i64 (p : Nat)] wx fun e w' => e = .returned (.bool (mayB g h lf p)) ∧ Below wx.heap.size wx w') := fun wx lf p hx hp hlf => by
        rw [HH.out, HG.out]
        exact mayGo_any n a d ca cd (nat F) (trn (nat F) n) lf p wx S.n10 S.gg (fun k _ => trn_small _ _ _ _ (Nat.le_refl _)) (S.r1.below hx) (S.r2.below hx) hp hlf (S.tb.step hx)
      have HB : Hid (Below w.heap.size w W) := S.bl
      have HCK : Hid (X.Ck 0) := S.ck
      have hn10 := S.n10
      have hpw := pw_le n h10
      have hpp := pw_pos n
      obtain ⟨left, HLF⟩ : ∃ left, Hid (left = pw n - 1) := ⟨_, rfl⟩
      have hleft : left < 1024 := by rw [HLF.out]; omega
      have hlv : ((pw n : Nat) : Int) - 1 = (left : Nat) := by rw [HLF.out]; omega
      obtain ⟨fuel, HFE⟩ : ∃ fuel, Hid (fuel = left) := ⟨_, rfl⟩
      have HFU : Hid (left ≤ fuel) := Nat.le_of_eq HFE.out.symm
      have HCR : Hid (core g h n fuel left = core g h n (pw n - 1) (pw n - 1)) := by
        have e1 := HLF.out
        have e2 := HFE.out
        subst e2
        subst e1
        exact rfl
      have HOUT : Hid (core X.g (trn X.g X.q) X.q (pw X.q - 1) (pw X.q - 1) = core g h n (pw n - 1) (pw n - 1)) := by rw [HE.out, HH.out, HG.out]; exact rfl
      have HST : Hid (Below W.heap.size W W) := Below.refl _ _
      have HLV : Hid (((pw n : Nat) : Int) - 1 = (left : Nat)) := hlv
      have hy := S.b1
      rw [HW1.out] at hy
      obtain ⟨y0, y1⟩ := hy
      clear S hbW hxi hc hrg hord hrd x1 x0 hb1 hlv
      go_wp2_with (go_at_call 14; refine (all_any n _ (by omega)).mono ?_; rintro e w' ⟨rfl, hww⟩; subst hww)
      clear y0 y1
      rw [HLV.out, ← HW1.out]
      go_step3
      obtain ⟨⟨c0, c1⟩, d0, d1⟩ := HC.out _ HST.out
      go_wp2_with fail
      clear c0 c1 d0 d1
      go_loopw [6, 21] (fun l i wx => ∃ k : Nat, k ≤ n ∧ i = .int .i64 k ∧ l = .int .i64 (left : Nat) ∧ Hid (Below W.heap.size W wx) ∧ Hid (∀ p, p < k → goB g h left p = false)) (fun _ i _ => n - (intOf i).toNat)
      case atStart => exact ⟨0, Nat.zero_le _, rfl, rfl, HST, fun p hp => absurd hp (Nat.not_lt_zero _)⟩
      case round =>
        obtain ⟨k, hk, rfl, rfl, HW, HN⟩ := hrel
        by_cases hlt : k < n
        · obtain ⟨⟨c0, c1⟩, d0, d1⟩ := HC.out _ HW.out
          obtain ⟨vb, hvb⟩ : ∃ v, left.testBit k = v := ⟨_, rfl⟩
          rcases vb with _ | _
          · have HN2 : Hid (∀ p, p < k + 1 → goB g h left p = false) := upto_succ HN.out (by simp [goB, hvb])
            go_wp2_with (go_at_call 15; refine (has_as' left k _ _ hvb (by omega) (by omega)).mono ?_; rintro e w' ⟨rfl, hww⟩; subst hww)
            go_roundw
            case rel => exact ⟨k + 1, by omega, by go_num, rfl, HW, HN2⟩
            case measure => simp [intOf]; omega
          · have HMG := HM.out _ left k HW.out hlt hleft
            rcases hmay : mayB g h left k with _ | _
            · have HN2 : Hid (∀ p, p < k + 1 → goB g h left p = false) := upto_succ HN.out (by simp [goB, hvb, hmay])
              rw [hmay] at HMG
              have HMC := (show Hid (Calls _ _ _ _ _) from HMG)
              clear HMG hmay
              go_wp2_with (go_at_call 15; refine (has_as' left k _ _ hvb (by omega) (by omega)).mono ?_; rintro e w' ⟨rfl, hww⟩; subst hww)
              refine (Calls.mono HMC.out) ?_
              rintro e w2 ⟨rfl, hb2⟩
              have HW2 : Hid (Below W.heap.size W w2) := Below.then HW.out hb2
              clear hb2 HW HMC c0 c1 d0 d1
              go_wp2_with fail
              go_roundw
              case rel => exact ⟨k + 1, by omega, by go_num, rfl, HW2, HN2⟩
              case measure => simp [intOf]; omega
            · have HF : Hid (findB (goB g h left) n = some k) := findB_some hlt (by simp [goB, hvb, hmay]) HN.out
              rw [hmay] at HMG
              have HMC := (show Hid (Calls _ _ _ _ _) from HMG)
              have hpk := pw_le k (by omega)
              have han := i64_andNot left (pw k) (by omega) (by omega)
              have hsh := wrap_pow k (by omega)
              have HLT : Hid (lack left (pw k) < left) := lack_less hvb (by omega)
              clear HMG hmay
              go_wp2_with (go_at_call 15; refine (has_as' left k _ _ hvb (by omega) (by omega)).mono ?_; rintro e w' ⟨rfl, hww⟩; subst hww)
              refine (Calls.mono HMC.out) ?_
              rintro e w2 ⟨rfl, hb2⟩
              have HW2 : Hid (Below W.heap.size W w2) := Below.then HW.out hb2
              clear hb2 HW HMC c0 c1 d0 d1 HN hvb
              go_wp2_with fail
              go_step3
              refine ⟨rfl, ⟨n, w1.heap.size, d, cd, W, lack left (pw k), fuel - 1, HSS.out, HW2.out, Nat.lt_trans HLT.out hleft, by have := HLT.out; have := HFU.out; omega, ?_, _, _, _, _, _, _, _, _, _, _, _, _, _, _, _, _, _, _, _, _, _, _, _, _, _, _, _, _, _, _, _, _, _, rfl⟩⟩
              have := (core_next HF.out HFU.out (Nat.lt_of_le_of_lt (Nat.zero_le _) HLT.out)).symm.trans HCR.out
              rw [HH.out, HG.out] at this
              exact this

        · obtain rfl : k = n := by omega
          have HF : Hid (findB (goB g h left) k = none) := findB_none HN.out
          have HRS : Hid (left = core g h k (pw k - 1) (pw k - 1)) := (core_stop HF.out HFU.out).symm.trans HCR.out
          have HBF : Hid (Below w.heap.size w wr) := Below.then HB.out HW.out
          clear HN HF
          go_wp2_with fail
          simp only [Exit.jump]
          go_ret2
          exact ⟨⟨0, _, HCK.out, rfl, .inr ⟨rfl, congrArg (fun z : Nat => (z : Int)) (HRS.out.trans HOUT.out.symm)⟩⟩, HBF.out⟩
    · have hne : (c != 0) = true := by simpa using h0
      have HCK : Hid (X.Ck c) := by rw [HE.out]; exact hc
      rcases hx with ⟨_, rfl⟩ | ⟨h, _⟩
      · unfold noOrder
        clear hc
        go_wp2_with fail
        simp only [Exit.jump]
        go_ret2
        exact ⟨⟨c, 0, HCK.out, rfl, .inl ⟨h0, rfl⟩⟩, Below.alloc HB1.out (by have := HB1.out.size; omega) _⟩
      · exact absurd h h0
  · rintro a' w' ⟨n, D, d, cd, W, left, fuel, S, hbw, hleft, hfu, hcr, u7, u8, u9, u10, u11, u12, u13, u14, u15, u16, u17, u18, u19, u20, u21, u22, u23, u24, u25, u26, u27, u28, u29, u30, u31, u32, u33, u34, u35, u36, u37, u38, u39, rfl⟩
    have HBW : Hid (Below W.heap.size W w') := hbw
    have HSS : Hid (CoreS w W X n0 a la ca F n D d cd) := S
    have en := S.en
    have el := S.el
    subst en
    subst el
    have HC : Hid (∀ wx, Below W.heap.size W wx → OB wx w.heap.size (n : Nat) a n ca ∧ OB wx D (n : Nat) d n cd) := fun wx hx => ⟨S.b1.step hx, S.b2.step hx⟩
    obtain ⟨g, HG⟩ : ∃ g, Hid (g = nat F) := ⟨_, rfl⟩
    obtain ⟨h, HH⟩ : ∃ h, Hid (h = trn g n) := ⟨_, rfl⟩
    have HM : Hid (∀ wx lf p, Below W.heap.size W wx → p < n → lf < 1024 → Calls Tryd.prog 16 #[.agg #[.int .i64 (n : Nat), .slice a n ca], .agg #[.int .i64 (n : Nat), .slice d n cd], .int .i64 (lf : Nat), .int .i64 (p : Nat)] wx fun e w' => e = .returned (.bool (mayB g h lf p)) ∧ Below wx.heap.size wx w') := fun wx lf p hx hp hlf => by
      rw [HH.out, HG.out]
      exact mayGo_any n a d ca cd (nat F) (trn (nat F) n) lf p wx S.n10 S.gg (fun k _ => trn_small _ _ _ _ (Nat.le_refl _)) (S.r1.below hx) (S.r2.below hx) hp hlf (S.tb.step hx)
    have HB : Hid (Below w.heap.size w W) := S.bl
    have HCK : Hid (X.Ck 0) := S.ck
    have hn10 := S.n10
    have HOUT : Hid (core X.g (trn X.g X.q) X.q (pw X.q - 1) (pw X.q - 1) = core g h n (pw n - 1) (pw n - 1)) := by rw [HE.out, HH.out, HG.out]; exact rfl
    have HFU : Hid (left ≤ fuel) := hfu
    have HCR : Hid (core g h n fuel left = core g h n (pw n - 1) (pw n - 1)) := by rw [HH.out, HG.out]; exact hcr
    clear S hbw hfu hcr
    obtain ⟨⟨c0, c1⟩, d0, d1⟩ := HC.out _ HBW.out
    go_wp2_with fail
    clear c0 c1 d0 d1
    go_loopw [6, 21] (fun l i wx => ∃ k : Nat, k ≤ n ∧ i = .int .i64 k ∧ l = .int .i64 (left : Nat) ∧ Hid (Below W.heap.size W wx) ∧ Hid (∀ p, p < k → goB g h left p = false)) (fun _ i _ => n - (intOf i).toNat)
    case atStart => exact ⟨0, Nat.zero_le _, rfl, rfl, HBW, fun p hp => absurd hp (Nat.not_lt_zero _)⟩
    case round =>
      obtain ⟨k, hk, rfl, rfl, HW, HN⟩ := hrel
      by_cases hlt : k < n
      · obtain ⟨⟨c0, c1⟩, d0, d1⟩ := HC.out _ HW.out
        obtain ⟨vb, hvb⟩ : ∃ v, left.testBit k = v := ⟨_, rfl⟩
        rcases vb with _ | _
        · have HN2 : Hid (∀ p, p < k + 1 → goB g h left p = false) := upto_succ HN.out (by simp [goB, hvb])
          go_wp2_with (go_at_call 15; refine (has_as' left k _ _ hvb (by omega) (by omega)).mono ?_; rintro e w' ⟨rfl, hww⟩; subst hww)
          go_roundw
          case rel => exact ⟨k + 1, by omega, by go_num, rfl, HW, HN2⟩
          case measure => simp [intOf]; omega
        · have HMG := HM.out _ left k HW.out hlt hleft
          rcases hmay : mayB g h left k with _ | _
          · have HN2 : Hid (∀ p, p < k + 1 → goB g h left p = false) := upto_succ HN.out (by simp [goB, hvb, hmay])
            rw [hmay] at HMG
            have HMC := (show Hid (Calls _ _ _ _ _) from HMG)
            clear HMG hmay
            go_wp2_with (go_at_call 15; refine (has_as' left k _ _ hvb (by omega) (by omega)).mono ?_; rintro e w' ⟨rfl, hww⟩; subst hww)
            refine (Calls.mono HMC.out) ?_
            rintro e w2 ⟨rfl, hb2⟩
            have HW2 : Hid (Below W.heap.size W w2) := Below.then HW.out hb2
            clear hb2 HW HMC c0 c1 d0 d1
            go_wp2_with fail
            go_roundw
            case rel => exact ⟨k + 1, by omega, by go_num, rfl, HW2, HN2⟩
            case measure => simp [intOf]; omega
          · have HF : Hid (findB (goB g h left) n = some k) := findB_some hlt (by simp [goB, hvb, hmay]) HN.out
            rw [hmay] at HMG
            have HMC := (show Hid (Calls _ _ _ _ _) from HMG)
            have hpk := pw_le k (by omega)
            have han := i64_andNot left (pw k) (by omega) (by omega)
            have hsh := wrap_pow k (by omega)
            have HLT : Hid (lack left (pw k) < left) := lack_less hvb (by omega)
            clear HMG hmay
            go_wp2_with (go_at_call 15; refine (has_as' left k _ _ hvb (by omega) (by omega)).mono ?_; rintro e w' ⟨rfl, hww⟩; subst hww)
            refine (Calls.mono HMC.out) ?_
            rintro e w2 ⟨rfl, hb2⟩
            have HW2 : Hid (Below W.heap.size W w2) := Below.then HW.out hb2
            clear hb2 HW HMC c0 c1 d0 d1 HN hvb
            go_wp2_with fail
            go_step3
            refine ⟨rfl, ⟨n, D, d, cd, W, lack left (pw k), fuel - 1, HSS.out, HW2.out, Nat.lt_trans HLT.out hleft, by have := HLT.out; have := HFU.out; omega, ?_, _, _, _, _, _, _, _, _, _, _, _, _, _, _, _, _, _, _, _, _, _, _, _, _, _, _, _, _, _, _, _, _, _, rfl⟩, ?_⟩
            · have := (core_next HF.out HFU.out (Nat.lt_of_le_of_lt (Nat.zero_le _) HLT.out)).symm.trans HCR.out
              rw [HH.out, HG.out] at this
              exact this
            · simpa [intOf] using HLT.out

      · obtain rfl : k = n := by omega
        have HF : Hid (findB (goB g h left) k = none) := findB_none HN.out
        have HRS : Hid (left = core g h k (pw k - 1) (pw k - 1)) := (core_stop HF.out HFU.out).symm.trans HCR.out
        have HBF : Hid (Below w.heap.size w wr) := Below.then HB.out HW.out
        clear HN HF
        go_wp2_with fail
        simp only [Exit.jump]
        go_ret2
        exact ⟨⟨0, _, HCK.out, rfl, .inr ⟨rfl, congrArg (fun z : Nat => (z : Int)) (HRS.out.trans HOUT.out.symm)⟩⟩, HBF.out⟩



set_option maxHeartbeats 1000000 in
theorem least_any (L : LA) (f : MA) (w : World) (hL : L.In w) (hf : f.In w) :
    Calls Tryd.prog 11 #[L.v, f.v] w fun e w' => FPost L f L.m e ∧ Below w.heap.size w w' := by
  have hB0 : Below w.heap.size w (w.alloc (.cells #[.int .i64 L.n, .slice L.a L.la L.ca, .slice L.b L.lb L.cb] 39)) := (Below.refl _ _).alloc (Nat.le_refl _) _
  have hL1 := hL.step hB0
  have HCALL : Hid (Calls Tryd.prog 22 #[L.v, f.v, .slice L.a L.la L.ca] (w.alloc (.cells #[.int .i64 L.n, .slice L.a L.la L.ca, .slice L.b L.lb L.cb] 39)) fun e w' => FPost L f L.m e ∧ Below (w.alloc (.cells #[.int .i64 L.n, .slice L.a L.la L.ca, .slice L.b L.lb L.cb] 39)).heap.size (w.alloc (.cells #[.int .i64 L.n, .slice L.a L.la L.ca, .slice L.b L.lb L.cb] 39)) w') :=
    fixedFrom_any L f _ _ _ L.m L.j _ hL1 (hf.step hB0) (fun hc => by
      obtain ⟨q, b1, o1, b2, o2, e1, e2, e3, e4, e5, h1, h40, hlat, ht1, ht2⟩ := LCk.open hc hL1.2.2.1 hL1.2.2.2
      have eq : q = L.q := by unfold LA.q; omega
      rw [← eq]
      exact ⟨_, _, _, e2, e3.symm, ht1⟩) (fun hc => ⟨hc.lat.2.2.1, fun h _ => h⟩)
  have HB : Hid (Below w.heap.size w (w.alloc (.cells #[.int .i64 L.n, .slice L.a L.la L.ca, .slice L.b L.lb L.cb] 39))) := hB0
  have HP : Hid (∀ e, FPost L f L.m e → FPost L f L.m e) := fun _ h => h
  obtain ⟨X, hX⟩ : ∃ X, Hid (X = FPost L f L.m) := ⟨_, rfl⟩
  rw [← hX.out] at HCALL ⊢
  have HXP : Hid (∀ e, X e → ∃ c v, e = .returned (.tuple #[.int .i64 v, .int .i64 c])) := fun e h => by
    rw [hX.out] at h
    obtain ⟨c, v, _, he, _⟩ := h
    exact ⟨c, v, he⟩
  clear hL hf hL1 hB0 HP hX
  obtain ⟨n, a, la, ca, SA, FA, b, lb, cb, SB, FB⟩ := L
  obtain ⟨fa, fl, fc, F⟩ := f
  simp only [LA.v, MA.v] at *
  go_enter Tryd.func11, Tryd.ntmps11
  go_wp2_with fail
  refine HCALL.out.mono ?_
  rintro e w1 ⟨hp, hb1⟩
  obtain ⟨c, v, rfl⟩ := HXP.out _ hp
  have HPP : Hid (X (.returned (.tuple #[.int .i64 v, .int .i64 c]))) := hp
  have HB1 : Hid (Below w.heap.size w w1) := Below.then HB.out hb1
  clear hp hb1 HCALL HB HXP
  go_wp2_with fail
  go_ret2
  exact ⟨HPP.out, HB1.out⟩


def gLad (k : Nat) : Nat := if k = 0 then 0 else if k = 1 then 1 else 3
def fLad (k : Nat) : Int := (gLad k : Nat)
theorem ladder_any (w : World) : Calls Tryd.prog 10 #[] w fun e w' => (∃ a, e = .returned (.agg #[.int .i64 3, .slice a 3 3]) ∧ Row w' a 3 fLad) ∧ Below w.heap.size w w' := by
  go_enter Tryd.func10, Tryd.ntmps10
  go_wp2_with fail
  refine bodyPost_ret (v := .agg #[.int .i64 3, .slice (some ⟨w.heap.size + 1, 0, none⟩) 3 3]) (by simp [results, Tryd.results10, go_sem]) rfl ⟨⟨_, rfl, ?_⟩, ?_⟩
  · intro k hk
    refine ⟨w.heap.size + 1, 0, rfl, ?_⟩
    match k, hk with
    | 0, _ => simp [fLad, gLad]
    | 1, _ => simp [fLad, gLad]
    | 2, _ => simp [fLad, gLad]
  · exact ((Below.refl _ _).alloc (Nat.le_refl _) _).alloc (by simp) _
theorem natLad : nat fLad = gLad := by funext k; simp [nat, fLad]
theorem lad_chk : Chk 3 3 fLad 0 := by
  refine .inr ⟨3, rfl, by omega, .inr ⟨rfl, .inr ⟨?_, .inr ⟨rfl, ?_⟩⟩⟩⟩
  · unfold Rng fLad; decide +kernel
  · rw [natLad]; unfold Ord OrdAt; decide +kernel
/-- The ladder that lies at a. -/
def ladA (a : Option Addr) : OA := ⟨3, a, 3, 3, fLad⟩
theorem lad_cnt (a b : Option Addr) : cntM (ladA a) (ladA b) = 10 := by
  show (cmp (upB (nat fLad)) (upB (nat fLad)) 3 3 []).length = 10
  rw [natLad]; decide +kernel
theorem lad_core (a : Option Addr) : core (ladA a).g (trn (ladA a).g (ladA a).q) (ladA a).q (pw (ladA a).q - 1) (pw (ladA a).q - 1) = 4 := by
  show core (nat fLad) (trn (nat fLad) 3) 3 (pw 3 - 1) (pw 3 - 1) = 4
  rw [natLad]; decide +kernel
theorem lad_in {a : Option Addr} {w : World} (h : Row w a 3 fLad) : (ladA a).In w := ⟨show 3 ≤ maxLen by unfold maxLen; omega, h⟩
theorem cnt_lad {a b : Option Addr} {e : Ending} (h : CntPost (ladA a) (ladA b) e) : e = .returned (.tuple #[.int .i64 10, .int .i64 0]) := by
  obtain ⟨c0, c, v, hc0, hc, rfl, hv⟩ := h
  obtain rfl : c0 = 0 := hc0.one (.inr ⟨lad_chk, lad_chk⟩)
  obtain rfl : c = 0 := by
    rcases hc with ⟨h, _⟩ | ⟨_, ⟨_, h⟩ | ⟨h, _⟩⟩
    · exact absurd rfl h
    · exact absurd ⟨by show 3 ≤ 5; omega, by show 3 ≤ 5; omega⟩ h
    · exact h
  rcases hv with ⟨h, _⟩ | ⟨_, h⟩
  · exact absurd rfl h
  · rw [h, lad_cnt]; rfl
theorem core_lad {a : Option Addr} {e : Ending} (h : CorePost (ladA a) e) : e = .returned (.tuple #[.int .i64 4, .int .i64 0]) := by
  obtain ⟨c, v, hc, rfl, hv⟩ := h
  obtain rfl : c = 0 := Chk.unique hc lad_chk
  rcases hv with ⟨h, _⟩ | ⟨_, h⟩
  · exact absurd rfl h
  · rw [h, lad_core]; rfl

theorem pair_la {x : Value} {w : World} (h : PairIs x w) : ∃ A : LA, A.v = x ∧ A.In w ∧ A.Ck 0 ∧ A.q = 2 ∧ A.n = 2 ∧ A.m = (fun x y => min x y) ∧ A.j = fun x y => max x y := by
  obtain ⟨b, b', R, R', rfl, h1, h2⟩ := h
  refine ⟨⟨2, some ⟨b, 0, none⟩, 2, 2, _, _, some ⟨b', 0, none⟩, 2, 2, _, _⟩, rfl, ⟨show 2 ≤ maxLen by unfold maxLen; omega, show 2 ≤ maxLen by unfold maxLen; omega, h1.rr (by unfold maxLen; omega), h2.rr (by unfold maxLen; omega)⟩, ?_, rfl, rfl, nat2_cast _, nat2_cast _⟩
  exact LCk.of (n := 2) (by omega) (by omega) (fun _ _ => rfl) (fun _ _ => rfl) lat2
def f11 (_ : Nat) : Int := 1
theorem fck_pair {A : LA} {a : Option Addr} (hA : A.Ck 0) (en : A.n = 2) (em : A.m = fun x y => min x y) : FCk A ⟨a, 2, 2, f11⟩ 0 :=
  .inr ⟨hA, .inr ⟨.inr ⟨by rw [en]; rfl, .inr ⟨rfl, fun k _ => by rw [en]; exact ⟨show (0 : Int) ≤ 1 by decide, show (1 : Int) < 2 by decide⟩⟩⟩, .inr ⟨rfl, by
    rw [em]
    intro x y _ _ _
    rfl⟩⟩⟩
theorem least_pair {A : LA} {a : Option Addr} {T : Nat → Nat → Nat} {e : Ending} (hA : A.Ck 0) (en : A.n = 2) (em : A.m = fun x y => min x y) (h : FPost A ⟨a, 2, 2, f11⟩ T e) : e = .returned (.tuple #[.int .i64 1, .int .i64 0]) := by
  obtain ⟨c, v, hc, rfl, hv⟩ := h
  obtain rfl : c = 0 := hc.one (fck_pair hA en em)
  rcases hv with ⟨h, _⟩ | ⟨_, x, rfl, _, hx⟩
  · exact absurd rfl h
  · have hx' : 1 = x := hx
    rw [← hx']; rfl

set_option maxHeartbeats 2000000 in
theorem fixBegun_any (w : World) (hT : Tab w) : Calls Tryd.prog 4 #[] w fun e w' => e = .returned (.bool true) ∧ Below w.heap.size w w' := by
  have HT : Hid (Tab w) := hT
  clear hT
  go_enter Tryd.func4, Tryd.ntmps4
  go_wp2_with fail
  refine (ladder_any _).mono ?_
  rintro e w1 ⟨⟨a, rfl, hr1⟩, hb1⟩
  have HB1 : Hid (Below w.heap.size w w1) := hb1
  have HR1 : Hid (Row w1 a 3 fLad) := hr1
  clear hb1 hr1
  go_wp2_with fail
  refine (ladder_any _).mono ?_
  rintro e w2 ⟨⟨b, rfl, hr2⟩, hb2⟩
  have HB2 : Hid (Below w.heap.size w w2) := Below.then HB1.out hb2
  have HC : Hid (Calls Tryd.prog 9 #[(ladA a).v, (ladA b).v] w2 fun e w' => e = .returned (.tuple #[.int .i64 10, .int .i64 0]) ∧ Below w2.heap.size w2 w') := (count_any (ladA a) (ladA b) w2 (lad_in (HR1.out.below hb2)) (lad_in hr2)).mono fun e w' h => ⟨cnt_lad h.1, h.2⟩
  clear hb2 hr2 HB1 HR1
  go_wp2_with fail
  refine (Calls.mono HC.out) ?_
  rintro e w3 ⟨rfl, hb3⟩
  have HB3 : Hid (Below w.heap.size w w3) := Below.then HB2.out hb3
  clear hb3 HC HB2
  go_wp2_with fail
  refine (pair_any _).mono ?_
  rintro e w4 ⟨⟨x, rfl, hx⟩, hb4⟩
  obtain ⟨A, rfl, hA, cA, qA, nA, mA, jA⟩ := pair_la hx
  have hb5 : Below w4.heap.size w4 (w4.alloc (.cells #[.int .i64 1, .int .i64 1] 3)) := (Below.refl _ _).alloc (Nat.le_refl _) _
  have HB5 : Hid (Below w.heap.size w (w4.alloc (.cells #[.int .i64 1, .int .i64 1] 3))) := Below.then (Below.then HB3.out hb4) hb5
  have HL : Hid (Calls Tryd.prog 11 #[A.v, .slice (some ⟨w4.heap.size, 0, none⟩) 2 2] (w4.alloc (.cells #[.int .i64 1, .int .i64 1] 3)) fun e w' => e = .returned (.tuple #[.int .i64 1, .int .i64 0]) ∧ Below (w4.alloc (.cells #[.int .i64 1, .int .i64 1] 3)).heap.size (w4.alloc (.cells #[.int .i64 1, .int .i64 1] 3)) w') :=
    (least_any A ⟨some ⟨w4.heap.size, 0, none⟩, 2, 2, f11⟩ _ (hA.step hb5) ⟨by unfold maxLen; simp only; omega, fun k hk => ⟨_, _, rfl, by
      simp only at hk
      rcases (by omega : k = 0 ∨ k = 1) with rfl | rfl <;> simp [f11]⟩⟩).mono fun e w' h => ⟨least_pair cA nA mA h.1, h.2⟩
  clear hx hA cA qA nA mA jA hb4 hb5 HB3
  go_wp2_with fail
  refine (Calls.mono HL.out) ?_
  rintro e w5 ⟨rfl, hb6⟩
  have HB6 : Hid (Below w.heap.size w w5) := Below.then HB5.out hb6
  clear hb6 HL HB5
  go_wp2_with fail
  refine (ladder_any _).mono ?_
  rintro e w6 ⟨⟨d, rfl, hr6⟩, hb7⟩
  have HB7 : Hid (Below w.heap.size w w6) := Below.then HB6.out hb7
  have HC : Hid (Calls Tryd.prog 5 #[(ladA d).v] w6 fun e w' => e = .returned (.tuple #[.int .i64 4, .int .i64 0]) ∧ Below w6.heap.size w6 w') := (core_any (ladA d) w6 (lad_in hr6) (HT.out.step HB7.out)).mono fun e w' h => ⟨core_lad h.1, h.2⟩
  clear hb7 hr6 HB6
  go_wp2_with fail
  refine (Calls.mono HC.out) ?_
  rintro e w7 ⟨rfl, hb8⟩
  have HB8 : Hid (Below w.heap.size w w7) := Below.then HB7.out hb8
  clear hb8 HC HB7 HT
  go_wp2_with fail
  go_ret
  exact ⟨rfl, HB8.out⟩
end Go.Proofs.YtfajgahofkcndaaDoor
