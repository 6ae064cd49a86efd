/-
  What order.Times answers, whatever it is handed. Conditions: slices read as slices of numbers.
-/
import Derived.Test.YtinblbkglkhjmaaDoorPairsUp
import Derived.Test.YtinblbkglkhjmaaDoorBeside
namespace Go.Proofs.YtinblbkglkhjmaaDoor
open Go.RowKit

/-- What must be said of two orders whose pairs are asked for. -/
def TChk (n1 : Int) (len1 : Nat) (f1 : Nat → Int) (n2 : Int) (len2 : Nat) (f2 : Nat → Int) (c : Int) : Prop :=
  (c ≠ 0 ∧ Chk2 n1 len1 f1 n2 len2 f2 c) ∨ (Chk2 n1 len1 f1 n2 len2 f2 0 ∧ ((c = 2 ∧ 10 < len1 * len2) ∨ (c = 0 ∧ len1 * len2 ≤ 10)))
theorem TChk.unique {n1 : Int} {len1 : Nat} {f1 : Nat → Int} {n2 : Int} {len2 : Nat} {f2 : Nat → Int} {c c' : Int} (h : TChk n1 len1 f1 n2 len2 f2 c) (h' : TChk n1 len1 f1 n2 len2 f2 c') : c = c' := by
  rcases h with ⟨h0, h⟩ | ⟨h, k⟩ <;> rcases h' with ⟨h0', h'⟩ | ⟨h', k'⟩
  · exact h.unique h'
  · exact absurd (h.unique h') h0
  · exact absurd (h'.unique h) h0'
  · generalize len1 * len2 = P at *; omega
def TimesPost (K : Nat) (n1 : Int) (len1 : Nat) (f1 : Nat → Int) (n2 : Int) (len2 : Nat) (f2 : Nat → Int) (e : Ending) (w' : World) : Prop :=
  ∃ (c : Int) (x : Value), TChk n1 len1 f1 n2 len2 f2 c ∧ e = .returned (.tuple #[x, .int .i64 c]) ∧ OrdErr c ((len1 * len2 : Nat) : Int) (len1 * len2) (fun k => (tmq (nat f1) (nat f2) len2 k : Nat)) x w' ∧ WrB K w' x

theorem andNot_small {a b P Q : Nat} (ha : a < P) (hb : b < Q) (hP : P ≤ 1024) (hQ : Q ≤ 1024) : bits .andNot .i64 (a : Int) (b : Int) = ((lack a b : Nat) : Int) := i64_andNot a b (by omega) (by omega)
theorem pw_add_in {q y N : Nat} (h : q + y < N) (hN : N ≤ 10) : wrap64 (2 ^ (q + y)) = ((pw (q + y) : Nat) : Int) := wrap_pow (q + y) (by omega)
theorem pw_add_lt {q y N : Nat} (h : q + y < N) (hN : N ≤ 10) : pw (q + y) < 1024 := Nat.pow_lt_pow_right (by decide) (show q + y < 10 by omega)
theorem pts_nth_lt {s n : Nat} (hs : s < pw n) : ∀ j, j < (pts s 10).length → nth (pts s 10) j < n := fun j hj =>
  bit_of_lt hs ((pts_mem s 10 _).1 (nth_mem.2 ⟨j, hj, rfl⟩)).2

set_option maxHeartbeats 2000000 in
theorem times_any (n1 : Int) (a1 : Option Addr) (len1 cap1 : Nat) (f1 : Nat → Int) (n2 : Int) (a2 : Option Addr) (len2 cap2 : Nat) (f2 : Nat → Int) (w : World) (hl1 : len1 ≤ maxLen) (hl2 : len2 ≤ maxLen)
    (hr1 : Row w a1 len1 f1) (hr2 : Row w a2 len2 f2) (hT : Tab w) :
    Calls Tryd.prog 10 #[.agg #[.int .i64 n1, .slice a1 len1 cap1], .agg #[.int .i64 n2, .slice a2 len2 cap2]] w fun e w' => TimesPost w.heap.size n1 len1 f1 n2 len2 f2 e w' ∧ Below w.heap.size w w' := by
  obtain ⟨W3, HW⟩ : ∃ W3, Hid (W3 = ((w.alloc (.cells #[.int .i64 n1, .slice a1 len1 cap1] 24)).alloc (.cells #[.int .i64 n2, .slice a2 len2 cap2] 24)).alloc (.cells #[.int .i64 0, .slice none 0 0] 24)) := ⟨_, rfl⟩
  have b1 := (Below.refl w.heap.size w).alloc (Nat.le_refl _) (.cells #[.int .i64 n1, .slice a1 len1 cap1] 24)
  have X3 := ((Box.new w n1 a1 len1 cap1).step ((Below.refl _ _).alloc (Nat.le_refl _) (.cells #[.int .i64 n2, .slice a2 len2 cap2] 24))).step ((Below.refl _ _).alloc (Nat.le_refl _) (.cells #[.int .i64 0, .slice none 0 0] 24))
  have Y3 := (Box.new (w.alloc (.cells #[.int .i64 n1, .slice a1 len1 cap1] 24)) n2 a2 len2 cap2).step ((Below.refl _ _).alloc (Nat.le_refl _) (.cells #[.int .i64 0, .slice none 0 0] 24))
  have Z3 := ZBox.new ((w.alloc (.cells #[.int .i64 n1, .slice a1 len1 cap1] 24)).alloc (.cells #[.int .i64 n2, .slice a2 len2 cap2] 24))
  simp only [World.size_alloc] at Y3 Z3
  have hbw : Below w.heap.size w W3 := by rw [HW.out]; exact (b1.alloc (by simp) _).alloc (by simp; omega) _
  rw [← HW.out] at X3 Y3 Z3
  have hsz : w.heap.size + 3 = W3.heap.size := by rw [HW.out]; simp
  have bW := (Below.refl W3.heap.size W3).alloc (Nat.le_refl _) (.cells #[.int .i64 n1, .slice a1 len1 cap1, .int .i64 n2, .slice a2 len2 cap2] 24)
  have R1 := (hr1.below hbw).below bW
  have R2 := (hr2.below hbw).below bW
  have T4 := two_new W3 n1 a1 len1 cap1 n2 a2 len2 cap2
  have X4 := X3.step bW
  have Y4 := Y3.step bW
  have Z4 := Z3.step bW
  have HB4 : Hid (Below w.heap.size w (W3.alloc (.cells #[.int .i64 n1, .slice a1 len1 cap1, .int .i64 n2, .slice a2 len2 cap2] 24))) := hbw.alloc hbw.size _
  obtain ⟨x30, x31⟩ := X3
  obtain ⟨y30, y31⟩ := Y3
  have HT : Hid (Tab w) := hT
  clear b1 bW hbw Z3 hT
  go_enter Tryd.func10, Tryd.ntmps10
  go_wp2_with fail
  rw [← HW.out]
  refine (checkAll_any n1 a1 len1 cap1 f1 n2 a2 len2 cap2 f2 W3.heap.size _ hl1 hl2 T4 R1 R2).mono ?_
  rintro e w5 ⟨⟨c, rfl, hc⟩, hb⟩
  have X5 := X4.step hb
  have Y5 := Y4.step hb
  have Z5 := Z4.step hb
  have Q1 := R1.below hb
  have Q2 := R2.below hb
  have HB5 : Hid (Below w.heap.size w w5) := Below.then HB4.out hb
  clear hb X4 Y4 Z4 R1 R2 T4 HB4 x30 x31 y30 y31 HW
  by_cases h0 : c = 0
  · subst h0
    obtain ⟨g1, g2⟩ := hc.good
    obtain ⟨rfl, h10, hrng1, _⟩ := g1.good
    obtain ⟨rfl, h20, hrng2, _⟩ := g2.good
    have HC : Hid (Chk2 (len1 : Int) len1 f1 (len2 : Int) len2 f2 0) := hc
    obtain ⟨x0, x1⟩ := X5
    obtain ⟨y0, y1⟩ := Y5
    obtain ⟨N, HN⟩ : ∃ N, Hid (N = len1 * len2) := ⟨_, rfl⟩
    have hmulN : (len1 : Int) * (len2 : Int) = (N : Int) := by rw [HN.out]; simp
    have hNb : N ≤ 100 := by rw [HN.out]; exact Nat.le_trans (Nat.mul_le_mul h10 h20) (by decide)
    have HZ5 : Hid (ZBox w5 (w.heap.size + 2)) := Z5
    have hl6 : w.heap.size + 2 < w5.heap.size := World.block_lt_of_cell? _ _ Z5.1
    clear hc g1 g2 Z5
    by_cases hn : N ≤ 10
    · have hcn : cnt (N : Int) = true := by simp [cnt]; omega
      have HTC : Hid (TChk (len1 : Int) len1 f1 (len2 : Int) len2 f2 0) := .inr ⟨HC.out, .inr ⟨rfl, by rw [← HN.out]; exact hn⟩⟩
      have HX5 : Hid (Box w5 w.heap.size (len1 : Int) a1 len1 cap1) := ⟨x0, x1⟩
      have HY5 : Hid (Box w5 (w.heap.size + 1) (len2 : Int) a2 len2 cap2) := ⟨y0, y1⟩
      have HR1 : Hid (Row w5 a1 len1 (fun k => (nat f1 k : Nat))) := hrng1.row Q1
      have HR2 : Hid (Row w5 a2 len2 (fun k => (nat f2 k : Nat))) := hrng2.row Q2
      have HS1 : Hid (∀ k, k < len1 → nat f1 k < pw len1) := hrng1.small
      have HS2 : Hid (∀ k, k < len2 → nat f2 k < pw len2) := hrng2.small
      obtain ⟨J, HJ⟩ : ∃ J, Hid (J = tmq (nat f1) (nat f2) len2) := ⟨_, rfl⟩
      obtain ⟨i0, hi, hz0, hz1, hz2⟩ := info_parts Tryd.info3
      clear hrng1 hrng2 Q1 Q2
      go_wp2_with (first | (go_at_call 26; refine (isCount_any _ _).mono ?_; rintro e w' ⟨rfl, rfl⟩) | (at_make; refine wpList_make_own _ rfl _ _ 22 rfl w5.heap.size 3 i0 (.int .i64 0) 1 Tryd.underlying22 hi hz0 hz1 .i64 .i64 _ N rfl rfl (by omega) (by rw [hz2]; omega) (by unfold maxLen; omega) (Nat.le_refl _) ?_; intro w6 hown6 hgrow6; have hb6 : Below w5.heap.size w5 w6 := (Below.refl _ _).grown hgrow6 (Nat.le_refl _) (by simp); obtain ⟨x60, x61⟩ := HX5.out.step hb6; have HB6 : Hid (Below w5.heap.size w5 w6) := hb6; clear hb6 hgrow6))
      have HO6 : Hid (w6.ownsRow w5.heap.size 3 1 (.slice (some ⟨w5.heap.size, 0, none⟩) (0 * len2) N) (0 * len2) (rowVals J (0 * len2))) := by
        rw [Nat.zero_mul]; exact hown6
      clear hown6 x60 x61 x0 x1 y0 y1 hmulN
      go_loopw [8, 33] (fun v t wx => ∃ x : Nat, x ≤ len1 ∧ t = .int .i64 x ∧ v = .slice (some ⟨w5.heap.size, 0, none⟩) (x * len2) N ∧ wx.ownsRow w5.heap.size 3 1 (.slice (some ⟨w5.heap.size, 0, none⟩) (x * len2) N) (x * len2) (rowVals J (x * len2)) ∧ Hid (Below w5.heap.size w5 wx)) (fun _ t _ => len1 - (intOf t).toNat)
      case atStart => exact ⟨0, Nat.zero_le _, rfl, by rw [Nat.zero_mul], HO6.out, HB6.out⟩
      case round =>
        obtain ⟨x, hx, rfl, rfl, hown, hB⟩ := hrel
        clear HO6 HB6
        obtain ⟨y70, y71⟩ := HY5.out.step hB.out
        by_cases hlt : x < len1
        · have hq2 : x * len2 + len2 ≤ N := by
            rw [HN.out, ← Nat.succ_mul]; exact Nat.mul_le_mul_right _ hlt
          have hmulx : (x : Int) * (len2 : Int) = ((x * len2 : Nat) : Int) := by simp
          have HDIV : Hid (∀ y, y < len2 → J (x * len2 + y) = lack (prsTo (nat f2 y ||| pw y) len2 (pts (nat f1 x ||| pw x) 10) (pts (nat f1 x ||| pw x) 10).length) (pw (x * len2 + y))) := fun y hy => by
            have e1 : (x * len2 + y) / len2 = x := by
              rw [Nat.mul_comm, Nat.mul_add_div (by omega), Nat.div_eq_of_lt hy, Nat.add_zero]
            have e2 : (x * len2 + y) % len2 = y := by
              rw [Nat.mul_comm, Nat.mul_add_mod, Nat.mod_eq_of_lt hy]
            rw [HJ.out]; unfold tmq; rw [e1, e2]
          have HNX : Hid (x * len2 + len2 = (x + 1) * len2) := (Nat.succ_mul x len2).symm
          generalize x * len2 = q at *
          go_wp2
          have HO7 : Hid (wr.ownsRow w5.heap.size 3 1 (.slice (some ⟨w5.heap.size, 0, none⟩) (q + 0) N) (q + 0) (rowVals J (q + 0))) := hown
          have HOW := (show Hid (wr.ownsRow _ _ _ _ _ _) from hown)
          clear hown y70 y71
          go_loopw [8, 38] (fun v t wx => ∃ y : Nat, y ≤ len2 ∧ t = .int .i64 y ∧ v = .slice (some ⟨w5.heap.size, 0, none⟩) (q + y) N ∧ wx.ownsRow w5.heap.size 3 1 (.slice (some ⟨w5.heap.size, 0, none⟩) (q + y) N) (q + y) (rowVals J (q + y)) ∧ Hid (Below w5.heap.size w5 wx)) (fun _ t _ => len2 - (intOf t).toNat)
          case atStart => exact ⟨0, Nat.zero_le _, rfl, rfl, HO7.out, hB.out⟩
          case round =>
            obtain ⟨y, hy, rfl, rfl, hown, hBy⟩ := hrel
            clear HO7
            by_cases hyl : y < len2
            · obtain ⟨x70, x71⟩ := HX5.out.step hBy.out
              obtain ⟨y70, y71⟩ := HY5.out.step hBy.out
              have hbx : x < len1 := hlt
              have hqy : q + y < N := Nat.lt_of_lt_of_le (Nat.add_lt_add_left hyl q) hq2
              have HNL : Hid (len1 * len2 ≤ 10) := by rw [← HN.out]; exact hn
              obtain ⟨Z, HZ⟩ : ∃ Z, Hid (Z = prsTo (nat f2 y ||| pw y) len2 (pts (nat f1 x ||| pw x) 10) (pts (nat f1 x ||| pw x) 10).length) := ⟨_, rfl⟩
              have hZL : Z < pw (len1 * len2) := by
                rw [HZ.out]; exact prsTo_lt (Nat.or_lt_two_pow (HS2.out y hyl) (Nat.pow_lt_pow_right (by decide) hyl)) (pts_nth_lt (Nat.or_lt_two_pow (HS1.out x hlt) (Nat.pow_lt_pow_right (by decide) hlt))) _ (Nat.le_refl _)
              have hJk := HDIV.out y hyl
              rw [← HZ.out] at hJk
              have HV : Hid (bits .andNot .i64 (Z : Int) (wrap64 (2 ^ (q + y))) = ((lack Z (pw (q + y)) : Nat) : Int)) := by
                rw [pw_add_in hqy hn]; exact andNot_small hZL (pw_add_lt hqy hn) (pw_le _ HNL.out) (Nat.le_refl _)
              have HJE : Hid (rowVals J (q + (y + 1)) = rowVals J (q + y) ++ [.int .i64 (lack Z (pw (q + y)) : Nat)]) := by
                rw [← hJk]; exact rowVals_succ J (q + y)
              have HOW : Hid (wr.ownsRow w5.heap.size 3 1 (.slice (some ⟨w5.heap.size, 0, none⟩) (q + y) N) (q + y) (rowVals J (q + y))) := hown
              clear hJk hZL hown hbx
              generalize lack Z (pw (q + y)) = V at *
              go_wp2_with fail
              refine (pairsUpTo_any a1 len1 cap1 (nat f1) a2 len2 cap2 (nat f2) x y wr h10 h20 HNL.out HS1.out HS2.out hlt hyl (HR1.out.below hBy.out) (HR2.out.below hBy.out) (HT.out.step (Below.then HB5.out hBy.out))).mono ?_
              rintro e w8 ⟨rfl, hb8⟩
              rw [← HZ.out]
              have hB8 : Below w5.heap.size w5 w8 := Below.then hBy.out hb8
              obtain ⟨x80, x81⟩ := HX5.out.step hB8
              obtain ⟨y80, y81⟩ := HY5.out.step hB8
              have HOW8 := owns_below HOW.out hb8
              have HB8 : Hid (Below w5.heap.size w5 w8) := hB8
              have hsz8 := hB8.size
              have HOW8' : Hid (w8.ownsRow w5.heap.size 3 1 (.slice (some ⟨w5.heap.size, 0, none⟩) (q + y) N) (q + y) (rowVals J (q + y))) := HOW8
              clear hb8 hB8 x70 x71 y70 y71 HOW HOW8
              go_wp2_with (at_builtin; refine wpList_append_fits_any _ rfl _ _ 22 rfl w5.heap.size 3 i0 1 Tryd.underlying22 hi hz1 w5.heap.size (q + y) N (rowVals J (q + y)) rfl (HOW8'.out.alloc _) (some ⟨w8.heap.size, 0, none⟩) 1 1 [.int .i64 (V : Nat)] rfl rfl (by simp) ?c1 ?c2 (by omega) ?_)
              case c1 =>
                intro ad had j u hj
                simp at had; subst had
                match j, hj with
                | 0, hj => simp at hj; subst hj; rw [← HV.out]; simp [Addr.add]
              case c2 => intro u hu; simp at hu; subst hu; rfl
              intro w9 hown9 hgrow9
              have HB9 : Hid (Below w5.heap.size w5 w9) := below_grow (HB8.out.alloc HB8.out.size _) hgrow9 (by simp; omega)
              have HO9 : Hid (w9.ownsRow w5.heap.size 3 1 (.slice (some ⟨w5.heap.size, 0, none⟩) (q + (y + 1)) N) (q + (y + 1)) (rowVals J (q + (y + 1)))) := by
                rw [HJE.out]; exact hown9
              clear hown9 hgrow9 x80 x81 y80 y81
              go_wp2_with fail
              go_roundw
              case rel => exact ⟨y + 1, by omega, by go_num, rfl, HO9.out, HB9.out⟩
              case measure => simp [intOf]; omega
            · have hyn : y = len2 := by omega
              subst hyn
              have HOE : Hid (wr.ownsRow w5.heap.size 3 1 (.slice (some ⟨w5.heap.size, 0, none⟩) ((x + 1) * y) N) ((x + 1) * y) (rowVals J ((x + 1) * y))) := by rw [← HNX.out]; exact hown
              go_wp2
              go_roundw
              case rel => exact ⟨x + 1, by omega, by go_num, by rw [← HNX.out], HOE.out, hBy⟩
              case measure => simp [intOf]; omega
        · have hxn : x = len1 := by omega
          subst hxn
          obtain ⟨r0, r1, r2, r3⟩ := HZ5.out.step hB.out
          have HBE : Hid (Below w.heap.size w wr) := Below.then HB5.out hB.out
          have HRW : Hid (Row wr (some ⟨w5.heap.size, 0, none⟩) (x * len2) (fun j => (J j : Nat))) := by
            obtain ⟨a', c', e, h⟩ := owns_row hown
            simp at e
            obtain ⟨rfl, rfl⟩ := e
            exact h
          have HEN : Hid ((N : Int) = ((x * len2 : Nat) : Int)) := by rw [HN.out]; rfl
          rw [HJ.out] at HRW
          have HOW := (show Hid (wr.ownsRow _ _ _ _ _ _) from hown)
          clear hown y70 y71
          go_wp2
          refine bodyPost_ret (v := .tuple #[.agg #[.int .i64 (N : Int), .slice (some ⟨w5.heap.size, 0, none⟩) (x * len2) N], .int .i64 0]) ?_ rfl ⟨⟨0, _, HTC.out, rfl, .inr ⟨rfl, some ⟨w5.heap.size, 0, none⟩, N, ?_, ?_⟩, wrb_set2 (wrb_owns HOW.out (by have := HB5.out.size; omega))⟩, set2B HBE.out (by omega)⟩
          · simp [results, Tryd.results10, go_sem, r0, r1]
          · rw [HEN.out]
          · exact row_set2 HRW.out (fun _ => ⟨_, _, rfl, by omega⟩)
    · have hcn : cnt (N : Int) = false := by simp [cnt]; omega
      obtain ⟨r0, r1, r2, r3⟩ := HZ5.out
      have HTC : Hid (TChk (len1 : Int) len1 f1 (len2 : Int) len2 f2 2) := .inr ⟨HC.out, .inl ⟨rfl, by rw [← HN.out]; omega⟩⟩
      clear Q1 Q2 hrng1 hrng2
      go_wp2_with (go_at_call 26; refine (isCount_any _ _).mono ?_; rintro e w' ⟨rfl, rfl⟩)
      exact bodyPost_ret (v := .tuple #[noOrder, .int .i64 2]) (by simp [results, Tryd.results10, go_sem, noOrder, r0, r1]) rfl ⟨⟨2, _, HTC.out, rfl, .inl ⟨by decide, rfl⟩, wrb_set2 (wrb_no _ _)⟩, set2B HB5.out (by omega)⟩
  · have hne : (c != 0) = true := by simpa using h0
    obtain ⟨r0, r1, r2, r3⟩ := Z5
    have HJ : Hid (TChk n1 len1 f1 n2 len2 f2 c) := .inl ⟨h0, hc⟩
    clear hc
    go_wp2_with fail
    exact bodyPost_ret (v := .tuple #[noOrder, .int .i64 c]) (by simp [results, Tryd.results10, go_sem, noOrder, r0, r1]) rfl ⟨⟨c, _, HJ.out, rfl, .inl ⟨h0, rfl⟩, wrb_set2 (wrb_no _ _)⟩, set2B HB5.out (by omega)⟩
end Go.Proofs.YtinblbkglkhjmaaDoor
