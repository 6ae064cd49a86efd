/-
  What slices.Equal answers of numbers. What span.Spans answers, whatever order it is handed: the stretches that its sets count out, if they say the order. No condition but that a slice reads as a slice of numbers.
-/
import Derived.Test.YtkknfnjhpamfbaaStretch
import Derived.Test.YtkknfnjhpamfbaaCheck
import Derived.Test.YtkknfnjhpamfbaaKept
namespace Go.Proofs.Ytkknfnjhpamfbaa
open Go.RowKit

theorem equal_any (a b : Option Addr) (la ca lb cb : Nat) (f g : Nat → Int) (w : World) (hl : la ≤ maxLen) (hl2 : lb ≤ maxLen) (ha : Row w a la f) (hb : Row w b lb g) :
    Calls Try.prog 34 #[.slice a la ca, .slice b lb cb] w fun e w' => Ans e (SameRows la lb f g) ∧ Below w.heap.size w w' := by
  unfold maxLen at hl hl2
  by_cases hlen : la = lb
  · subst hlen
    have HA := (show Hid _ from ha); have HB := (show Hid _ from hb); clear ha hb
    go_enter Try.func34, Try.ntmps34
    go_wp2
    go_loopw [13] (fun i wx => ∃ k : Nat, k ≤ la ∧ i = .int .i64 k ∧ Hid (∀ j, j < k → f j = g j) ∧ Row wx a la f ∧ Row wx b la g ∧ Hid (Below w.heap.size w wx)) (fun i _ => la - (intOf i).toNat)
    case atStart => exact ⟨0, Nat.zero_le _, rfl, upto_zero, HA.out, HB.out, Below.refl _ _⟩
    case round =>
      obtain ⟨k, hk, rfl, hok, hA, hB, hW⟩ := hrel
      clear HA HB
      by_cases hlt : k < la
      · obtain ⟨b1, o1, rfl, hc1⟩ := hA.at hlt
        obtain ⟨b2, o2, rfl, hc2⟩ := hB.at hlt
        have d1 := hc1 k hlt
        have d2 := hc2 k hlt
        clear hc1 hc2
        have hlt' : (k : Int) < (la : Int) := by omega
        by_cases he : f k = g k
        · have hne : (f k != g k) = false := by simpa using he
          have HE := (show Hid _ from he); clear he
          go_wp2
          go_quiet (fail)
          go_wp2
          go_roundw
          case rel => exact ⟨k + 1, by omega, by go_num, upto_succ hok.out HE.out, hA, hB, below_drewN hW.out _⟩
          case measure => simp [intOf]; omega
        · have hne : (f k != g k) = true := by simpa using he
          go_wp2
          go_quiet (fail)
          go_wp2
          go_ret
          exact ⟨Ans.no (fun h => he (h.2 k hlt)), below_drewN hW.out _⟩
      · have hkn : k = la := by omega
        subst hkn
        go_wp2
        go_ret
        exact ⟨Ans.yes ⟨rfl, hok.out⟩, hW.out⟩
  · have hne : ((la : Int) != (lb : Int)) = true := by simp; omega
    clear ha hb
    go_enter Try.func34, Try.ntmps34
    go_wp2
    go_ret
    exact ⟨Ans.no (fun h => hlen h.1), Below.refl _ _⟩


theorem Try.info49 : (Try.prog.info? 49).map (fun i => (i.zero, i.size, i.bytes)) = some (some (.agg #[.int .i64 0, .int .i64 0]), 2, 16) := by kernel_rfl

/-- What Spans must answer. -/
def SpansPost (n : Int) (len : Nat) (f : Nat → Int) (e : Ending) (w' : World) : Prop :=
  ∃ c v ok, Chk n len f c ∧ e = .returned (.tuple #[v, .bool ok, .int .i64 c]) ∧
    ((c ≠ 0 ∧ v = .slice none 0 0 ∧ ok = false) ∨ (c = 0 ∧ ((Fits (nat f) len ∧ ok = true ∧ ∃ a cap, v = .slice a len cap ∧ PRow w' a len (spn (nat f) len)) ∨ (¬ Fits (nat f) len ∧ ok = false ∧ v = .slice none 0 0))))

set_option maxHeartbeats 2000000 in
theorem spans_any (n : Int) (a : Option Addr) (len cap : Nat) (f : Nat → Int) (w : World) (hl : len ≤ maxLen) (hr : Row w a len f) :
    Calls Try.prog 13 #[.agg #[.int .i64 n, .slice a len cap]] w fun e w' => SpansPost n len f e w' ∧ Below w.heap.size w w' := by
  have K0 : Held (w.alloc (.cells #[.int .i64 n, .slice a len cap] 25)) w.heap.size n a len cap f := Held.box hr
  have HB0 : Hid (Below w.heap.size w (w.alloc (.cells #[.int .i64 n, .slice a len cap] 25))) := (Below.refl _ _).alloc (Nat.le_refl _) _
  clear hr
  go_enter Try.func13, Try.ntmps13
  go_wp2_with fail
  refine (check_any n a len cap f _ hl K0.row).mono ?_
  rintro e w1 ⟨⟨c, rfl, hc⟩, hb⟩
  have K1 := K0.step hb
  have HB1 : Hid (Below w.heap.size w w1) := Below.then HB0.out hb
  clear hb K0 HB0
  by_cases h0 : c = 0
  · subst h0
    obtain ⟨rfl, h10, hrng, hord⟩ := hc.good
    have HC : Hid (Chk (len : Int) len f 0) := hc
    obtain ⟨g, HGF⟩ : ∃ g, Hid (g = nat f) := ⟨_, rfl⟩
    have HG : Hid (∀ k, k < len → f k = (g k : Nat)) := fun k hk => by rw [HGF.out]; unfold nat; have := hrng k hk; omega
    have HSM : Hid (Sm len len g) := fun k hk => by rw [HGF.out]; unfold nat; have := hrng k hk; omega
    have HO : Hid (Ord len g) := by rw [HGF.out]; exact hord
    have hpl := pw_le len h10
    have HR1 : Hid (Row w1 a len (fun k => (g k : Nat))) := fun k hk => by
      have := K1.row k hk
      rw [HG.out k hk] at this
      exact this
    have hbl : w.heap.size < w1.heap.size := World.block_lt_of_cell? _ _ K1.c0
    have k0 := K1.c0
    have k1 := K1.c1
    have HK1 : Hid (Held w1 w.heap.size len a len cap f) := K1
    clear hc hrng hord K1
    have HS := sorted_any w1.heap.size w1.heap.size a len cap g h10 (w1.alloc (.cells #[.slice a len cap] 23)) (by simp) (by simp) (by simp) (HR1.out.below ((Below.refl _ _).alloc (Nat.le_refl _) _)) (fun b off h e => by
      obtain ⟨b', off', e', hcc⟩ := HR1.out 0 h
      rw [e] at e'
      simp only [Option.some.injEq, Addr.mk.injEq, and_true] at e'
      obtain ⟨rfl, rfl⟩ := e'
      exact World.block_lt_of_cell? _ _ hcc)
    go_wp2_with (go_at_call 32; refine (values_any a len cap _).mono ?_; rintro e w2 ⟨rfl, rfl⟩)
    refine HS.mono ?_
    rintro e w3 ⟨a', b, cap', h, rfl, hcap, ha', hbb, hO3, hR3, hM3, hB3⟩
    clear HS
    have hB13 : Below w1.heap.size w1 w3 := Below.trans ((Below.refl _ _).alloc (Nat.le_refl _) _) (hB3.mono (by simp))
    have HCP := compact_any a' b len cap' h w1.heap.size w1 w3 h10 hcap ha' hO3 hR3 hB13 (by simp at hbb; omega)
    have HA : Hid ((0 < len → a' = some ⟨b, 0, none⟩) ∧ (∀ v, Mem h len v ↔ Mem g len v)) := ⟨ha', hM3⟩
    clear hcap ha' hbb hO3 hR3 hM3 hB3 hB13
    go_wp2_with fail
    refine HCP.mono ?_
    rintro e w4 ⟨m, hx, rfl, hm, hO4, hS4, hM4, hB4⟩
    clear HCP
    have HR4 : Hid (Row w4 a' m (fun k => (hx k : Nat))) := by
      by_cases e : 0 < m
      · rw [HA.out.1 (by omega)]; exact hO4.row
      · exact fun k hk => absurd hk (by omega)
    have HMM : Hid (∀ v, Mem hx m v ↔ Mem g len v) := fun v => (hM4 v).trans (HA.out.2 v)
    have HX4 : Hid (∀ k, k < m → hx k < pw len) := fun k hk => by
      obtain ⟨j, hj, e⟩ := (HMM.out (hx k)).1 ⟨k, hk, rfl⟩
      rw [← e]; exact HSM.out j hj
    have HFI : Hid (∀ i, cn (fun k => decide (pc (hx k) < pc (g i))) m = fi g len i) := fun i => (cn_kinds (fun s => decide (pc s < pc (g i))) hS4 HMM.out (pw len) m (Nat.le_refl _) HX4.out (fun j h1 h2 => by omega)).symm
    have HLA : Hid (∀ i, cn (fun k => !(hx k).testBit i) m = la g len i) := fun i => (cn_kinds (fun s => !s.testBit i) hS4 HMM.out (pw len) m (Nat.le_refl _) HX4.out (fun j h1 h2 => by omega)).symm
    have HK4 : Hid (Held w4 w.heap.size len a len cap f) := HK1.out.step hB4
    have k40 := HK4.out.c0
    have k41 := HK4.out.c1
    have HR4g : Hid (Row w4 a len (fun k => (g k : Nat))) := HR1.out.below hB4
    have HB4 : Hid (Below w.heap.size w w4) := Below.then HB1.out hB4
    have hbl4 : w.heap.size < w4.heap.size := World.block_lt_of_cell? _ _ k40
    have hm10 : m ≤ 10 := by omega
    clear hO4 hS4 hM4 hB4 HA HK1 HR1 HMM k0 k1 hbl hm
    obtain ⟨i0, hi, hz0, hz1, hz2⟩ := info_parts Try.info49
    go_wp2_with (at_make; refine wpList_make_own _ rfl _ _ 22 rfl w4.heap.size 49 i0 (.agg #[.int .i64 0, .int .i64 0]) 2 Try.underlying22 hi hz0 hz1 .i64 .i64 _ len rfl rfl rfl (by rw [hz2]; omega) (by unfold maxLen; omega) (Nat.le_refl _) ?_; intro w5 hown5 hgrow5; have hB5 : Below w4.heap.size w4 w5 := (Below.refl _ _).grown hgrow5 (Nat.le_refl _) (by simp); obtain ⟨k50, k51, _⟩ := HK4.out.step hB5; have HB5 : Hid (Below w4.heap.size w4 w5) := hB5; have HO5 : Hid (w5.ownsRow w4.heap.size 49 2 (.slice (some ⟨w4.heap.size, 0, none⟩) 0 len) 0 (ipv (spn g len) 0)) := hown5; clear hB5 hown5 hgrow5)
    clear k40 k41 k50 k51
    go_loopw [7, 26] (fun v i wx => ∃ k : Nat, k ≤ len ∧ i = .int .i64 k ∧ Hid (wx.ownsRow w4.heap.size 49 2 v k (ipv (spn g len) k)) ∧ Hid (Below w4.heap.size w4 wx)) (fun _ i _ => len - (intOf i).toNat)
    case atStart => exact ⟨0, Nat.zero_le _, rfl, HO5.out, HB5.out⟩
    case round =>
      clear HO5 HB5
      obtain ⟨k, hk, rfl, HOx, HBx⟩ := hrel
      obtain ⟨c0, c1, _⟩ := HK4.out.step HBx.out
      by_cases hlt : k < len
      · have hX : Hid (∀ j, j < m → hx j < 1024) := fun j hj => Nat.lt_of_lt_of_le (HX4.out j hj) hpl
        have hG : Hid (∀ j, j < len → g j < 1024) := fun j hj => Nat.lt_of_lt_of_le (HSM.out j hj) hpl
        go_wp2_with fail
        refine (stretch_any len a cap g k a' m cap' hx _ h10 hm10 hlt hG.out hX.out (HR4g.out.below HBx.out) (HR4.out.below HBx.out)).mono ?_
        rintro e w6 ⟨rfl, hb6⟩
        rw [HFI.out k, HLA.out k]
        have hown6 : w6.ownsRow w4.heap.size 49 2 u7 k (ipv (spn g len) k) := owns_below HOx.out hb6
        have HB6 : Hid (Below w4.heap.size w4 w6) := Below.then HBx.out hb6
        have hsz : w4.heap.size ≤ w6.heap.size := HB6.out.size
        have HEQ : Hid (ipv (spn g len) (k + 1) = ipv (spn g len) k ++ [.int .i64 (fi g len k : Nat), .int .i64 (((la g len k : Nat) : Int) - 1)]) := rfl
        generalize fi g len k = X1 at *
        generalize la g len k = X2 at *
        clear c0 c1 hb6 HOx HBx hX hG
        go_wp2_with (at_builtin; refine wpList_append_own _ rfl _ _ 22 rfl w4.heap.size 49 i0 (.agg #[.int .i64 0, .int .i64 0]) 2 16 Try.underlying22 hi hz0 hz1 hz2 rfl (by decide) _ _ _ rfl (hown6.alloc _) ⟨w6.heap.size, 0, none⟩ 1 1 [.int .i64 (X1 : Nat), .int .i64 ((X2 : Int) - 1)] rfl rfl ?c1 ?c2 ?c3 ?c4 ?c5 ?_)
        case c1 =>
          intro j u hj
          match j, hj with
          | 0, hj => simp at hj; subst hj; simp [Addr.add]
          | 1, hj => simp at hj; subst hj; simp [Addr.add]
        case c2 => intro u hu; simp at hu; rcases hu with rfl | rfl <;> rfl
        case c3 => unfold maxLen; omega
        case c4 => omega
        case c5 => simp; omega
        intro v' w7 hown' hgrow _
        have HB7 : Hid (Below w4.heap.size w4 w7) := (HB6.out.alloc HB6.out.size _).grown hgrow (by have := HB6.out.size; simp; omega) (owns_block hown6)
        have HO7 : Hid (w7.ownsRow w4.heap.size 49 2 v' (k + 1) (ipv (spn g len) (k + 1))) := by rw [HEQ.out]; exact hown'
        clear hown' hgrow hown6 HB6 hsz HEQ
        go_wp2_with fail
        go_roundw
        case rel => exact ⟨k + 1, by omega, by go_num, HO7.out, HB7.out⟩
        case measure => simp [intOf]; omega
      · obtain rfl : k = len := by omega
        obtain ⟨a5, cap5, rfl, hp5⟩ := owns_ipv HOx.out
        have HP5 : Hid (PRow wr a5 k (spn g k)) := hp5
        clear hp5 HOx
        go_wp2_with fail
        refine (spOf_any a5 k cap5 (spn g k) _ (by unfold maxLen; omega) HP5.out).mono ?_
        rintro e w6 ⟨⟨c', x, rfl, hc', hx'⟩, hb6⟩
        have hok : SCk k (spn g k) 0 := .inr (.inr ⟨rfl, h10, fun j hj => spn_ok h10 HSM.out HO.out hj⟩)
        obtain rfl := hc'.one hok
        rcases hx' with ⟨h, _⟩ | ⟨_, a6, cap6, rfl, hr6⟩
        · exact absurd rfl h
        have HP6 : Hid (PRow w6 a5 k (spn g k)) := HP5.out.below hb6
        have HB6 : Hid (Below w4.heap.size w4 w6) := Below.then HBx.out hb6
        have HR6 : Hid (Row w6 a6 k (fun j => (sp (spn g k) k j : Nat))) := hr6
        obtain ⟨d0, d1, _⟩ := HK4.out.step HB6.out
        have hbl6 : w.heap.size < w6.heap.size := World.block_lt_of_cell? _ _ d0
        have HA6 : Hid (Below w4.heap.size w4 (w6.alloc (.cells #[.int .i64 k, .slice a6 k cap6] 25))) := HB6.out.alloc HB6.out.size _
        have HA7 : Hid (Below w6.heap.size w6 (w6.alloc (.cells #[.int .i64 k, .slice a6 k cap6] 25))) := (Below.refl _ _).alloc (Nat.le_refl _) _
        have HFE : Hid (Fits (nat f) k ↔ SameRows k k (fun j => (sp (spn g k) k j : Nat)) (fun j => (g j : Nat))) := by
          rw [← HGF.out]
          constructor
          · exact fun h => ⟨rfl, fun j hj => by show ((sp (spn g k) k j : Nat) : Int) = (g j : Nat); rw [h j hj]⟩
          · exact fun h j hj => by
              have := h.2 j hj
              simp only at this
              omega
        have HPG : Hid (∀ wx, PRow wx a5 k (spn g k) → PRow wx a5 k (spn (nat f) k)) := fun wx h => by rw [← HGF.out]; exact h
        clear c0 c1 hb6 HBx HP5 hc' hok hr6
        go_wp2_with fail
        refine (equal_any a6 a k cap6 k cap _ _ _ (by unfold maxLen; omega) (by unfold maxLen; omega) (HR6.out.below HA7.out) (HR4g.out.below HA6.out)).mono ?_
        rintro e w8 ⟨⟨v, rfl, hv⟩, hb8⟩
        have HB8 : Hid (Below w.heap.size w w8) := Below.then HB4.out (Below.then HA6.out hb8)
        have HP8 : Hid (PRow w8 a5 k (spn g k)) := (HP6.out.below HA7.out).below hb8
        have HV1 : Hid (v = true → Fits (nat f) k) := fun h => (hv.trans HFE.out.symm).1 h
        have HV2 : Hid (v = false → ¬ Fits (nat f) k) := fun h h' => by rw [(hv.trans HFE.out.symm).2 h'] at h; cases h
        clear hv hb8
        rcases v with _ | _
        · have NF := HV2.out rfl
          go_wp2_with fail
          go_ret3
          exact ⟨⟨0, _, _, HC.out, rfl, .inr ⟨rfl, .inr ⟨NF, rfl, rfl⟩⟩⟩, HB8.out⟩
        · have NF := HV1.out rfl
          go_wp2_with fail
          go_ret3
          exact ⟨⟨0, _, _, HC.out, rfl, .inr ⟨rfl, .inl ⟨NF, rfl, a5, cap5, rfl, HPG.out _ HP8.out⟩⟩⟩, HB8.out⟩
  · have hne : (c != 0) = true := by simpa using h0
    have HC : Hid (Chk n len f c) := hc
    clear hc
    go_wp2_with fail
    go_ret3
    exact ⟨⟨c, _, _, HC.out, rfl, .inl ⟨h0, rfl, rfl⟩⟩, HB1.out⟩
end Go.Proofs.Ytkknfnjhpamfbaa
