/-
  What fix.nearest and fix.mayGo answer. Conditions: the library's table lies in its variable; sets of at most ten points.
-/
import Derived.Test.YtgmpmmdginikdaaDoorHigh
import Derived.Test.YtgmpmmdginikdaaDoorNats
namespace Go.Proofs.YtgmpmmdginikdaaDoor
open Go.RowKit

set_option maxHeartbeats 1000000 in
theorem turn_any (n : Nat) (g : Nat → Nat) (a : Option Addr) (cap : Nat) (w : World) (hn : n ≤ 10) (hg : ∀ k, k < n → g k < 1024) (hr : Row w a n (fun k => (g k : Nat))) :
    Calls Tryd.prog 61 #[.slice a n cap] w fun e w' => e = .returned (.slice (some ⟨w.heap.size, 0, none⟩) n n) ∧ Own w' w.heap.size n (trn g n) ∧ Below w.heap.size w w' := by
  have HG := (show Hid (∀ k, k < n → g k < 1024) from hg)
  have HR := (show Hid (Row w a n (fun k => (g k : Nat))) from hr)
  clear hg hr
  obtain ⟨i0, hi, hz0, hz1, hz2⟩ := info_parts Tryd.info3
  go_enter Tryd.func61, Tryd.ntmps61
  go_wp2_with (at_make; refine wpList_make_full _ rfl _ _ 22 rfl w.heap.size 3 i0 (.int .i64 0) 1 Tryd.underlying22 hi hz0 hz1 .i64 .i64 _ _ n rfl rfl rfl rfl (by rw [hz2]; omega) (by unfold maxLen; omega) (Nat.le_refl _) ?_; intro w1 hown1 hgrow1)
  have HB1 : Hid (Below w.heap.size w w1) := (Below.refl _ _).grown hgrow1 (Nat.le_refl _) (by simp)
  have HO1 : Hid (Own w1 w.heap.size n (trn g 0)) := own_made hown1
  clear hown1 hgrow1 hi hz0 hz1 hz2
  go_loopw [12] (fun i wx => ∃ u : Nat, u ≤ n ∧ i = .int .i64 u ∧ Own wx w.heap.size n (trn g u) ∧ Hid (Below w.heap.size w wx)) (fun i _ => n - (intOf i).toNat)
  case atStart => exact ⟨0, Nat.zero_le _, rfl, HO1.out, HB1.out⟩
  case round =>
    obtain ⟨u, hu, rfl, hO, hB⟩ := hrel
    clear HO1 HB1
    by_cases hlt : u < n
    · obtain ⟨b, off, rfl, hc⟩ := (HR.out.below hB.out).at hlt
      have hcu := hc u hlt
      clear hc
      have hgu := HG.out u hlt
      go_wp2
      have HO1 : Hid (Own wr w.heap.size n (mix g u 0)) := by rw [mix_zero]; exact hO
      clear hO hcu
      go_loopw [19] (fun i wy => ∃ k : Nat, k ≤ n ∧ i = .int .i64 k ∧ Own wy w.heap.size n (mix g u k) ∧ Hid (Below w.heap.size w wy)) (fun i _ => n - (intOf i).toNat)
      case atStart => exact ⟨0, Nat.zero_le _, rfl, HO1.out, hB⟩
      case round =>
        obtain ⟨k, hk, rfl, hO, hBy⟩ := hrel
        clear HO1 hB
        by_cases hkl : k < n
        · rcases (Bool.eq_false_or_eq_true ((g u).testBit k)).symm with hb | hb
          · go_wp2_with (go_at_call 43; refine (has_any _ _ _ (by omega) (by omega)).mono ?_; rintro e w' ⟨rfl, rfl⟩)
            go_roundw
            case rel => exact ⟨k + 1, by omega, by go_num, by rw [mix_no hb]; exact hO, hBy⟩
            case measure => simp [intOf]; omega
          · have hck := (hO k hkl).1
            have hfk := (hO k hkl).2
            rw [mix_same] at hck
            have hsh := wrap_pow u (Nat.lt_of_lt_of_le hlt (Nat.le_trans hn (by decide)))
            have hor := or_pw (b := u) hn (trn_small g u k n hu) hlt
            have HOY := (show Hid _ from hO); clear hO
            go_wp2_with (go_at_call 43; refine (has_any _ _ _ (by omega) (by omega)).mono ?_; rintro e w' ⟨rfl, rfl⟩)
            go_region
            all_goals go_wp2
            all_goals go_roundw
            case rel => exact ⟨k + 1, by omega, by go_num, by rw [mix_yes hb]; exact Own.set HOY.out k _ hkl, Below.drew (Below.setCell (p := ⟨w.heap.size, k, none⟩) hBy.out (Nat.le_refl _) _)⟩
            case measure => simp [intOf]; omega
        · have hkn : k = n := by omega
          subst hkn
          go_wp2
          go_roundw
          case rel => exact ⟨u + 1, by omega, by go_num, hO.congr (fun l hl => by simp [mix, hl]), hBy⟩
          case measure => simp [intOf]; omega
    · have hun : u = n := by omega
      subst hun
      go_wp2
      go_ret
      exact ⟨rfl, hO, hB.out⟩

theorem dual_any (n : Int) (a : Option Addr) (len cap : Nat) (f : Nat → Int) (w : World) (hl : len ≤ maxLen) (hr : Row w a len f) :
    Calls Tryd.prog 41 #[.agg #[.int .i64 n, .slice a len cap]] w fun e w' => DualPost n len f e w' ∧ Below w.heap.size w w' := by
  have HH : Hid (Held ((w.alloc (.cells #[.int .i64 n, .slice a len cap] 24)).alloc (.cells #[.int .i64 0, .slice none 0 0] 24)) w.heap.size n a len cap f) := (Held.box hr).step ((Below.refl _ _).alloc (Nat.le_refl _) _)
  have HB : Hid (Below w.heap.size w ((w.alloc (.cells #[.int .i64 n, .slice a len cap] 24)).alloc (.cells #[.int .i64 0, .slice none 0 0] 24))) := ((Below.refl _ _).alloc (Nat.le_refl _) _).alloc (by simp) _
  have HZ : Hid (ZBox ((w.alloc (.cells #[.int .i64 n, .slice a len cap] 24)).alloc (.cells #[.int .i64 0, .slice none 0 0] 24)) (w.heap.size + 1)) := by have := ZBox.new (w.alloc (.cells #[.int .i64 n, .slice a len cap] 24)); rw [World.size_alloc] at this; exact this
  have HR : Hid (Row w a len f) := hr
  clear hr
  go_enter Tryd.func41, Tryd.ntmps41
  go_wp2_with fail
  refine (check_any n a len cap f _ hl HH.out.row).mono ?_
  rintro e w1 ⟨⟨c, rfl, hc⟩, hb⟩
  have K1 := HH.out.step hb
  have Z1 := HZ.out.step hb
  have HB1 : Hid (Below w.heap.size w w1) := Below.then HB.out hb
  clear hb HH HB HZ
  by_cases h0 : c = 0
  · subst h0
    obtain ⟨rfl, h10, hrng, _⟩ := hc.good
    have KK : w1.drew.cell? ⟨w.heap.size, 0, none⟩ = some (.int .i64 (len : Int)) ∧ w1.drew.cell? ⟨w.heap.size, 1, none⟩ = some (.slice a len cap) ∧ Below w.heap.size w w1.drew := ⟨K1.c0, K1.c1, HB1.out.drew⟩
    have HRW : Hid (Row w a len (fun k => (nat f k : Nat))) := hrng.row HR.out
    have HC : Hid (Chk (len : Int) len f 0) := hc
    have HG : Hid (∀ k, k < len → nat f k < 1024) := hrng.small2 h10
    have HZ1 : Hid (ZBox w1.drew (w.heap.size + 1)) := Z1
    have hsz : w.heap.size + 1 < w1.heap.size := World.block_lt_of_cell? _ _ Z1.1
    clear K1 HB1 hc hrng Z1
    go_wp2_with fail
    go_region_held3 (fun w' => w'.cell? ⟨w.heap.size, 0, none⟩ = some (.int .i64 (len : Int)) ∧ w'.cell? ⟨w.heap.size, 1, none⟩ = some (.slice a len cap) ∧ Below w.heap.size w w')
      (first | exact KK | assumption | exact k3_step (by assumption) (by assumption) | exact k3_set2 (by assumption))
      (first
        | (go_at_call 61; refine (turn_any len (nat f) a cap _ h10 HG.out (HRW.out.below (k3_below (n := (len : Int)) (a := a) (len := len) (cap := cap) (by assumption)))).mono ?_; rintro e w' ⟨rfl, ho, hb⟩; obtain ⟨r0, r1, r2, r3⟩ := HZ1.out.step hb))
    all_goals go_wp2
    refine bodyPost_ret (v := .tuple #[.agg #[.int .i64 (len : Int), .slice (some ⟨w1.heap.size, 0, none⟩) len len], .int .i64 0]) ?_ rfl ⟨⟨0, _, HC.out, rfl, .inr ⟨rfl, _, _, rfl, ?_⟩⟩, ?_⟩
    · simp [results, Tryd.results41, go_sem, r0, r1]
    · exact row_set2 (Own.row ho) (fun _ => ⟨_, _, rfl, hsz⟩)
    · exact k3_below (n := (len : Int)) (a := a) (len := len) (cap := cap) (by assumption)
  · have hne : (c != 0) = true := by simpa using h0
    obtain ⟨r0, r1, r2, r3⟩ := Z1
    have HC : Hid (Chk n len f c) := hc
    clear hc
    go_wp2_with fail
    exact bodyPost_ret (v := .tuple #[noOrder, .int .i64 c]) (by simp [results, Tryd.results41, go_sem, noOrder, r0, r1]) rfl ⟨⟨c, _, HC.out, rfl, .inl ⟨h0, rfl⟩⟩, set2B HB1.out (by omega)⟩



/-- All that is below the first k of a list. -/
def orL (g : Nat → Nat) (l : List Nat) : Nat → Nat
  | 0 => 0
  | k + 1 => orL g l k ||| g (nth l k)
theorem orL_lt {g : Nat → Nat} {l : List Nat} (hg : ∀ k, k < l.length → g (nth l k) < 1024) : ∀ k, k ≤ l.length → orL g l k < 1024
  | 0, _ => by simp [orL]
  | k + 1, hk => Nat.or_lt_two_pow (n := 10) (orL_lt hg k (by omega)) (hg k (by omega))
/-- The nearest points below p, of those that are left. -/
def nst (g : Nat → Nat) (left p : Nat) : Nat := lack (g p &&& left) (orL g (pts (g p &&& left) 10) (pts (g p &&& left) 10).length)
theorem nth_pts_lt {s n k : Nat} (h : k < (pts s n).length) : nth (pts s n) k < n := by
  refine pts_lt s n _ ?_
  unfold nth; rw [List.getD_eq_getElem?_getD, List.getElem?_eq_getElem h]; exact List.getElem_mem h
theorem and_lt {a b : Nat} (h : a < 1024) : a &&& b < 1024 := Nat.lt_of_le_of_lt Nat.and_le_left h
theorem nst_lt {g : Nat → Nat} {left p : Nat} (h : g p < 1024) : nst g left p < 1024 := Nat.lt_of_le_of_lt (lack_le _ _) (and_lt h)

set_option maxHeartbeats 2000000 in
theorem nearest_any (n : Nat) (a : Option Addr) (ca : Nat) (g : Nat → Nat) (left p : Nat) (w : World) (h10 : n ≤ 10) (hg : ∀ k, k < n → g k < pw n) (hr : Row w a n (fun k => (g k : Nat))) (hp : p < n) (hl : left < 1024) (hT : Tab w) :
    Calls Tryd.prog 63 #[.agg #[.int .i64 (n : Nat), .slice a n ca], .int .i64 (left : Nat), .int .i64 (p : Nat)] w fun e w' => e = .returned (.int .i64 (nst g left p : Nat)) ∧ Below w.heap.size w w' := by
  have hpw := pw_le n h10
  obtain ⟨W, HWE⟩ : ∃ W, Hid (W = w.alloc (.cells #[.int .i64 (n : Nat), .slice a n ca] 24)) := ⟨_, rfl⟩
  have hW : Below w.heap.size w W := by rw [HWE.out]; exact (Below.refl _ _).alloc (Nat.le_refl _) _
  have c1 : W.cell? ⟨w.heap.size, 1, none⟩ = some (.slice a n ca) := by rw [HWE.out]; simp
  have HR : Hid (∀ wx, Below W.heap.size W wx → Row wx a n (fun k => (g k : Nat))) := fun wx h => (hr.below hW).below h
  have HC : Hid (∀ wx, Below W.heap.size W wx → wx.cell? ⟨w.heap.size, 1, none⟩ = some (.slice a n ca)) := fun wx h => cell_step h c1
  have HB : Hid (Below w.heap.size w W) := hW
  have HTW : Hid (Tab W) := hT.step hW
  obtain ⟨b, off, rfl, hc⟩ := HR.out W (Below.refl _ _) p hp
  have hgp : g p < 1024 := Nat.lt_of_lt_of_le (hg p hp) hpw
  have hu : g p &&& left < 1024 := and_lt hgp
  obtain ⟨s, HS⟩ : ∃ s, Hid (s = g p &&& left) := ⟨_, rfl⟩
  have hs : s < 1024 := by rw [HS.out]; exact hu
  have hsn : s < pw n := by rw [HS.out]; exact Nat.lt_of_le_of_lt Nat.and_le_left (hg p hp)
  have hand := i64_and (g p) left (by omega) (by omega)
  rw [← HS.out] at hand
  have HM : Hid (∀ k, k < (pts s 10).length → nth (pts s 10) k < n) := fun k hk => by
    have e : pts s 10 = pts s n := by
      have := pts_more hsn (10 - n)
      rw [show n + (10 - n) = 10 by omega] at this
      exact this
    rw [e] at hk ⊢
    exact nth_pts_lt hk
  have HG : Hid (∀ k, k < n → g k < 1024) := fun k hk => Nat.lt_of_lt_of_le (hg k hk) hpw
  have HOR : Hid (∀ k, k ≤ (pts s 10).length → orL g (pts s 10) k < 1024) := orL_lt fun k hk => HG.out _ (HM.out k hk)
  have ip : (p : Int) < (n : Int) := by omega
  have hcE := hc
  rw [HWE.out] at hcE
  clear hr hW hT hg hpw hu
  go_enter Tryd.func63, Tryd.ntmps63
  go_wp2_with fail
  rw [← HWE.out]
  refine (members_any s _ hs HTW.out).mono ?_
  rintro e w1 ⟨⟨v, rfl, va, vc, rfl, hvr⟩, hb1⟩
  have HB1 : Hid (Below W.heap.size W w1) := hb1
  have HVR : Hid (Row w1 va (pts s 10).length (fun k => (nth (pts s 10) k : Nat))) := hvr
  have hlen := pts_len s 10
  obtain ⟨q, HQ⟩ : ∃ q, Hid (q = (pts s 10).length) := ⟨_, rfl⟩
  rw [← HQ.out] at hlen ⊢
  rw [← HQ.out] at HVR HM HOR
  have HRES : Hid (nst g left p = lack s (orL g (pts s 10) q)) := by
    show lack (g p &&& left) (orL g (pts (g p &&& left) 10) (pts (g p &&& left) 10).length) = _
    rw [← HS.out, ← HQ.out]
  generalize pts s 10 = l at *
  clear hb1 hvr c1 hc hcE HQ
  go_wp2_with fail
  go_loopw [8, 21] (fun v i wx => ∃ k : Nat, k ≤ q ∧ i = .int .i64 k ∧ v = .int .i64 (orL g l k : Nat) ∧ wx = w1) (fun _ i _ => q - (intOf i).toNat)
  case atStart => exact ⟨0, Nat.zero_le _, rfl, rfl, rfl⟩
  case round =>
    obtain ⟨k, hk, rfl, rfl, rfl⟩ := hrel
    by_cases hlt : k < q
    · obtain ⟨vb, vo, rfl, hvc⟩ := HVR.out k hlt
      have hm := HM.out k hlt
      obtain ⟨_, _, e, hcm⟩ := HR.out _ HB1.out _ hm
      cases e
      have hcb := HC.out _ HB1.out
      have i1 : (k : Int) < (q : Int) := by omega
      have i2 : ((nth l k : Nat) : Int) < (n : Int) := by omega
      have h1 := HOR.out k hk
      have h2 := HG.out _ hm
      have hor := i64_or (orL g l k) (g (nth l k)) (by omega) (by omega)
      have HE : Hid (orL g l (k + 1) = orL g l k ||| g (nth l k)) := rfl
      go_wp2_with fail
      go_roundw
      case rel => exact ⟨k + 1, by omega, by go_num, by rw [HE.out], by first | rfl | trivial⟩
      case measure => simp [intOf]; omega
    · obtain rfl : k = q := by omega
      have h1 := HOR.out k (Nat.le_refl _)
      have han := i64_andNot s (orL g l k) (by omega) (by omega)
      go_wp2_with fail
      go_ret
      exact ⟨by rw [HRES.out]; rfl, Below.then HB.out HB1.out⟩

/-- May a point be taken away? -/
def mayB (g h : Nat → Nat) (left p : Nat) : Bool := pc (nst g left p) == 1 || pc (nst h left p) == 1
set_option maxHeartbeats 2000000 in
theorem mayGo_any (n : Nat) (a a' : Option Addr) (ca ca' : Nat) (g h : Nat → Nat) (left p : Nat) (w : World) (h10 : n ≤ 10) (hg : ∀ k, k < n → g k < pw n) (hh : ∀ k, k < n → h k < pw n) (hr : Row w a n (fun k => (g k : Nat))) (hr' : Row w a' n (fun k => (h k : Nat))) (hp : p < n) (hl : left < 1024) (hT : Tab w) :
    Calls Tryd.prog 44 #[.agg #[.int .i64 (n : Nat), .slice a n ca], .agg #[.int .i64 (n : Nat), .slice a' n ca'], .int .i64 (left : Nat), .int .i64 (p : Nat)] w fun e w' => e = .returned (.bool (mayB g h left p)) ∧ Below w.heap.size w w' := by
  obtain ⟨W, HWE⟩ : ∃ W, Hid (W = (w.alloc (.cells #[.int .i64 (n : Nat), .slice a n ca] 24)).alloc (.cells #[.int .i64 (n : Nat), .slice a' n ca'] 24)) := ⟨_, rfl⟩
  have hW : Below w.heap.size w W := by rw [HWE.out]; exact ((Below.refl _ _).alloc (Nat.le_refl _) _).alloc (by simp) _
  have c0 : W.cell? ⟨w.heap.size, 0, none⟩ = some (.int .i64 (n : Nat)) := by rw [HWE.out]; simp
  have c1 : W.cell? ⟨w.heap.size, 1, none⟩ = some (.slice a n ca) := by rw [HWE.out]; simp
  have d0 : W.cell? ⟨w.heap.size + 1, 0, none⟩ = some (.int .i64 (n : Nat)) := by rw [HWE.out]; simp
  have d1 : W.cell? ⟨w.heap.size + 1, 1, none⟩ = some (.slice a' n ca') := by rw [HWE.out]; simp
  have HB : Hid (Below w.heap.size w W) := hW
  have HN1 : Hid (Calls Tryd.prog 63 #[.agg #[.int .i64 (n : Nat), .slice a n ca], .int .i64 (left : Nat), .int .i64 (p : Nat)] W fun e w' => e = .returned (.int .i64 (nst g left p : Nat)) ∧ Below W.heap.size W w') := nearest_any n a ca g left p W h10 hg (hr.below hW) hp hl (hT.step hW)
  have HN2 : Hid (∀ wx, Below W.heap.size W wx → Calls Tryd.prog 63 #[.agg #[.int .i64 (n : Nat), .slice a' n ca'], .int .i64 (left : Nat), .int .i64 (p : Nat)] wx fun e w' => e = .returned (.int .i64 (nst h left p : Nat)) ∧ Below wx.heap.size wx w') := fun wx hx =>
    nearest_any n a' ca' h left p wx h10 hh ((hr'.below hW).below hx) hp hl ((hT.step hW).step hx)
  have hpw := pw_le n h10
  have hn1 : nst g left p < 1024 := nst_lt (Nat.lt_of_lt_of_le (hg p hp) hpw)
  have hn2 : nst h left p < 1024 := nst_lt (Nat.lt_of_lt_of_le (hh p hp) hpw)
  unfold mayB
  obtain ⟨v1, hv1⟩ : ∃ v, (pc (nst g left p) == 1) = v := ⟨_, rfl⟩
  obtain ⟨v2, hv2⟩ : ∃ v, (pc (nst h left p) == 1) = v := ⟨_, rfl⟩
  rw [hv1, hv2]
  have hc1 : (((pc (nst g left p) : Nat) : Int) == 1) = v1 := by rw [← hv1, Bool.eq_iff_iff, beq_iff_eq, beq_iff_eq]; omega
  have hc2 : (((pc (nst h left p) : Nat) : Int) == 1) = v2 := by rw [← hv2, Bool.eq_iff_iff, beq_iff_eq, beq_iff_eq]; omega
  clear hg hh hr hr' hT hW hv1 hv2 hpw
  generalize nst g left p = x at *
  generalize nst h left p = y at *
  rcases v1 with _ | _
  · go_enter Tryd.func44, Tryd.ntmps44
    go_wp2_with fail
    rw [← HWE.out]
    go_wp2_with fail
    refine (Calls.mono HN1.out) ?_
    rintro e w1 ⟨rfl, hb1⟩
    have HB1 : Hid (Below W.heap.size W w1) := hb1
    have e0 := cell_step hb1 d0
    have e1 := cell_step hb1 d1
    clear hb1 HN1 c0 c1 d0 d1
    go_wp2_with (go_at_call 62; refine (size_any x _ hn1).mono ?_; rintro e w' ⟨rfl, rfl⟩)
    refine (HN2.out _ HB1.out).mono ?_
    rintro e w2 ⟨rfl, hb2⟩
    have HB2 : Hid (Below w.heap.size w w2) := Below.then HB.out (Below.then HB1.out hb2)
    clear hb2 HN2 HB1 HB e0 e1
    go_wp2_with (go_at_call 62; refine (size_any y _ hn2).mono ?_; rintro e w' ⟨rfl, rfl⟩)
    go_ret
    exact ⟨by rw [Bool.false_or]; rfl, HB2.out⟩
  · go_enter Tryd.func44, Tryd.ntmps44
    go_wp2_with fail
    rw [← HWE.out]
    go_wp2_with fail
    refine (Calls.mono HN1.out) ?_
    rintro e w1 ⟨rfl, hb1⟩
    have HB1 : Hid (Below w.heap.size w w1) := Below.then HB.out hb1
    clear hb1 HN1 c0 c1 d0 d1 HN2 HB
    go_wp2_with (go_at_call 62; refine (size_any x _ hn1).mono ?_; rintro e w' ⟨rfl, rfl⟩)
    go_ret
    exact ⟨rfl, HB1.out⟩
end Go.Proofs.YtgmpmmdginikdaaDoor
