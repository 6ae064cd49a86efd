/-
  What lattice.Order answers, whatever it is handed. No condition but that slices read as slices of rows.
-/
import Derived.Test.YtjcinkippaknnaaDoorBoth
import Derived.Test.YtjcinkippaknnaaDoorDualT
namespace Go.Proofs.YtjcinkippaknnaaDoor
open Go.RowKit

/-- Who is above an element. -/
def upF (m : Nat → Nat → Nat) (n x : Nat) : Nat := setBy (fun y => !(x == y) && m x y == x) n
theorem upF_bit (m : Nat → Nat → Nat) (n x y : Nat) : (upF m n x).testBit y = (decide (y < n) && (!(x == y) && m x y == x)) := setBy_bit _ n y
theorem upF_at {m : Nat → Nat → Nat} {n x y : Nat} (hy : y < n) : (upF m n x).testBit y = (!(x == y) && m x y == x) := by
  rw [upF_bit]; simp [hy]
/-- What Order must answer. -/
def OLk (n c0 c : Int) : Prop := (c0 ≠ 0 ∧ c = c0) ∨ (c0 = 0 ∧ ((c = 2 ∧ 10 < n) ∨ (c = 0 ∧ n ≤ 10)))
def OrdLPost (n : Int) (la : Nat) (SA : Nat → Option Addr × Nat × Nat) (FA : Nat → Nat → Int) (lb : Nat) (SB : Nat → Option Addr × Nat × Nat) (FB : Nat → Nat → Int) (e : Ending) (w' : World) : Prop :=
  ∃ (c0 c : Int) (x : Value), LCk n la SA FA lb SB FB c0 ∧ OLk n c0 c ∧ e = .returned (.tuple #[x, .int .i64 c]) ∧ OrdErr c n n.toNat (fun k => (trn (upF (nat2 FA) n.toNat) n.toNat k : Nat)) x w'

set_option maxHeartbeats 4000000 in
theorem orderL_any (n : Int) (a : Option Addr) (la ca : Nat) (SA : Nat → Option Addr × Nat × Nat) (FA : Nat → Nat → Int) (b : Option Addr) (lb cb : Nat) (SB : Nat → Option Addr × Nat × Nat) (FB : Nat → Nat → Int) (w : World) (hla : la ≤ maxLen) (hlb : lb ≤ maxLen) (hra : RR w a la SA FA) (hrb : RR w b lb SB FB) :
    Calls Tryd.prog 16 #[.agg #[.int .i64 n, .slice a la ca, .slice b lb cb]] w fun e w' => OrdLPost n la SA FA lb SB FB e w' ∧ Below w.heap.size w w' := by
  obtain ⟨i0, hi, hz0, hz1, hz2⟩ := info_parts Tryd.info3
  have B1 : Below w.heap.size w (w.alloc (.cells #[.int .i64 n, .slice a la ca, .slice b lb cb] 24)) := (Below.refl _ _).alloc (Nat.le_refl _) _
  have B2 : Below (w.alloc (.cells #[.int .i64 n, .slice a la ca, .slice b lb cb] 24)).heap.size (w.alloc (.cells #[.int .i64 n, .slice a la ca, .slice b lb cb] 24)) ((w.alloc (.cells #[.int .i64 n, .slice a la ca, .slice b lb cb] 24)).alloc (.cells #[.int .i64 0, .slice none 0 0] 31)) := (Below.refl _ _).alloc (Nat.le_refl _) _
  have L0 := (LB.new w n a la ca b lb cb).step B2
  have HZ0 : Hid (ZBox ((w.alloc (.cells #[.int .i64 n, .slice a la ca, .slice b lb cb] 24)).alloc (.cells #[.int .i64 0, .slice none 0 0] 31)) (w.heap.size + 1)) := by have := ZBox.new (w.alloc (.cells #[.int .i64 n, .slice a la ca, .slice b lb cb] 24)); rw [World.size_alloc] at this; exact this
  have HB1 : Hid (Below w.heap.size w ((w.alloc (.cells #[.int .i64 n, .slice a la ca, .slice b lb cb] 24)).alloc (.cells #[.int .i64 0, .slice none 0 0] 31))) := Below.then B1 B2
  have HRA : Hid (RR _ a la SA FA) := hra.below HB1.out
  have HRB : Hid (RR _ b lb SB FB) := hrb.below HB1.out
  clear hra hrb B1 B2
  have l0 := L0.1
  have l1 := L0.2.1
  have l2 := L0.2.2
  go_enter Tryd.func16, Tryd.ntmps16
  go_wp2_with fail
  refine (lCheck_any n a la ca SA FA b lb cb SB FB _ hla hlb HRA.out HRB.out).mono ?_
  rintro e w1 ⟨⟨c, rfl, hc⟩, hb1⟩
  have HB2 : Hid (Below w.heap.size w w1) := Below.then HB1.out hb1
  have L1 := L0.step hb1
  have HZ1 : Hid (ZBox w1 (w.heap.size + 1)) := HZ0.out.step hb1
  have k0 := L1.1
  have HC : Hid (LCk n la SA FA lb SB FB c) := hc
  by_cases h0 : c = 0
  · subst h0
    by_cases hn : 10 < n
    · have HO : Hid (OLk n 0 2) := .inr ⟨rfl, .inl ⟨rfl, hn⟩⟩
      obtain ⟨z0, z1, z2, z3⟩ := HZ1.out
      clear hb1 HB1 hc L0 l0 l1 l2 HZ0
      go_wp2_with fail
      exact bodyPost_ret (v := .tuple #[noOrder, .int .i64 2]) (by simp [results, Tryd.results16, go_sem, noOrder, z0, z1]) rfl ⟨⟨0, 2, noOrder, HC.out, HO.out, rfl, .inl ⟨by decide, rfl⟩⟩, set2B HB2.out (by omega)⟩
    · have hn' : decide (10 < n) = false := by simpa using hn
      have HO : Hid (OLk n 0 0) := .inr ⟨rfl, .inr ⟨rfl, by omega⟩⟩
      obtain ⟨q, rfl, h1, h40, e1, e2, hs1, hs2, hg1, hg2, hlat⟩ := hc.good
      obtain rfl := e1.symm
      obtain rfl := e2.symm
      obtain ⟨b1, o1, rfl, ht1, _⟩ := (HRA.out.below hb1).tb h1 hs1 hg1
      have hq10 : q ≤ 10 := by omega
      have HT1 : Hid (Tb w1 b1 o1 q (fun x => rAt (SA x)) (nat2 FA)) := ht1
      have HL1 : Hid (LB w1 w.heap.size (q : Nat) (some ⟨b1, o1, none⟩) q ca b q cb) := L1
      clear hb1 HB1 hc L0 l0 l1 l2 HZ0 hs1 hs2 hg1 hg2 hlat ht1 hn
      obtain ⟨m, HME⟩ : ∃ m, Hid (nat2 FA = m) := ⟨_, rfl⟩
      rw [HME.out] at HT1
      go_wp2_with (at_make; refine wpList_make_full _ rfl _ _ 29 rfl w1.heap.size 3 i0 (.int .i64 0) 1 Tryd.underlying29 hi hz0 hz1 .i64 .i64 _ _ q rfl rfl rfl rfl (by rw [hz2]; omega) (by unfold maxLen; omega) (Nat.le_refl _) ?_; intro w2 hown2 hgrow2; have hb2 : Below w1.heap.size w1 w2 := (Below.refl _ _).grown hgrow2 (Nat.le_refl _) (by simp); have y0 := (HL1.out.step hb2).1)
      have HO2 : Hid (Own w2 w1.heap.size q (trn (upF m q) 0)) := own_made hown2
      have HB3 : Hid (Below w1.heap.size w1 w2) := hb2
      clear hown2 hgrow2 hb2 k0 L1 y0 hi hz0 hz1 hz2
      go_loopw [23] (fun i wx => ∃ u : Nat, u ≤ q ∧ i = .int .i64 u ∧ Hid (Own wx w1.heap.size q (trn (upF m q) u)) ∧ Hid (Below w1.heap.size w1 wx)) (fun i _ => q - (intOf i).toNat)
      case atStart => exact ⟨0, Nat.zero_le _, rfl, HO2.out, HB3.out⟩
      case round =>
        clear HO2 HB3
        obtain ⟨u, hu, rfl, HOW, HW⟩ := hrel
        have LL := HL1.out.step HW.out
        have l0 := LL.1
        by_cases hlt : u < q
        · have HM0 : Hid (Own wr w1.heap.size q (mix (upF m q) u 0)) := by rw [mix_zero]; exact HOW.out
          go_wp2_with fail
          clear l0 LL HOW
          go_loopw [28] (fun i wx => ∃ k : Nat, k ≤ q ∧ i = .int .i64 k ∧ Hid (Own wx w1.heap.size q (mix (upF m q) u k)) ∧ Hid (Below w1.heap.size w1 wx)) (fun i _ => q - (intOf i).toNat)
          case atStart => exact ⟨0, Nat.zero_le _, rfl, HM0.out, HW.out⟩
          case round =>
            clear HM0 HW
            obtain ⟨k, hk, rfl, HOW, HW⟩ := hrel
            by_cases hkl : k < q
            · have LL := HL1.out.step HW.out
              have l0 := LL.1
              have l1 := LL.2.1
              have l2 := LL.2.2
              have HI := isBelow_any q b1 o1 ca b q cb _ m u k _ (HT1.out.step HW.out) hlt hkl
              have hbit := upF_at (m := m) (x := u) hkl
              rcases (Bool.eq_false_or_eq_true ((upF m q u).testBit k)).symm with hb | hb
              · rw [← hbit, hb] at HI
                have HN : Hid (mix (upF m q) u (k + 1) = mix (upF m q) u k) := mix_no hb
                clear hbit hb
                go_wp2_with fail
                refine HI.mono ?_
                rintro e w5 ⟨rfl, hb5⟩
                have HO5 : Hid (Own w5 w1.heap.size q (mix (upF m q) u k)) := HOW.out.keep hb5 (HOW.out.lt hkl)
                have HW5 : Hid (Below w1.heap.size w1 w5) := Below.then HW.out hb5
                clear hb5 HI l0 l1 l2 LL HOW HW
                go_wp2_with fail
                go_roundw
                case rel => exact ⟨k + 1, by omega, by go_num, by rw [HN.out]; exact HO5.out, HW5.out⟩
                case measure => simp [intOf]; omega
              · rw [← hbit, hb] at HI
                have HN : Hid (mix (upF m q) u (k + 1) = upd (mix (upF m q) u k) k (trn (upF m q) u k ||| pw u)) := mix_yes hb
                clear hbit hb
                go_wp2_with fail
                refine HI.mono ?_
                rintro e w5 ⟨rfl, hb5⟩
                have HO5 : Hid (Own w5 w1.heap.size q (mix (upF m q) u k)) := HOW.out.keep hb5 (HOW.out.lt hkl)
                have HW5 : Hid (Below w1.heap.size w1 w5) := Below.then HW.out hb5
                have hck := (HO5.out k hkl).1
                have hfk := (HO5.out k hkl).2
                rw [mix_same] at hck
                have hsh := wrap_pow u (Nat.lt_of_lt_of_le hlt (Nat.le_trans hq10 (by decide)))
                have hor := or_pw (b := u) hq10 (trn_small (upF m q) u k q hu) hlt
                clear hb5 HI l0 l1 l2 LL HOW HW
                go_wp2_with fail
                go_region
                all_goals go_wp2
                all_goals go_roundw
                case rel => exact ⟨k + 1, by omega, by go_num, by rw [HN.out]; exact Own.set HO5.out k _ hkl, Below.drew (Below.setCell (p := ⟨w1.heap.size, k, none⟩) HW5.out (Nat.le_refl _) _)⟩
                case measure => simp [intOf]; omega
            · obtain rfl : k = q := by omega
              have HN : Hid (Own wr w1.heap.size k (trn (upF m k) (u + 1))) := HOW.out.congr (fun l hl => by simp [mix, hl])
              clear HOW
              go_wp2_with fail
              go_roundw
              case rel => exact ⟨u + 1, by omega, by go_num, HN.out, HW.out⟩
              case measure => simp [intOf]; omega
        · obtain rfl : u = q := by omega
          obtain ⟨z0, z1, z2, z3⟩ := HZ1.out.step HW.out
          have hsz : w.heap.size + 1 < w1.heap.size := World.block_lt_of_cell? _ _ HZ1.out.1
          have HROW : Hid (Row ((wr.setCell ⟨w.heap.size + 1, 0, none⟩ (.int .i64 (u : Nat))).setCell ⟨w.heap.size + 1, 1, none⟩ (.slice (some ⟨w1.heap.size, 0, none⟩) u u)) (some ⟨w1.heap.size, 0, none⟩) u (fun k => (trn (upF (nat2 FA) (u : Int).toNat) (u : Int).toNat k : Nat))) := fun k hk => ⟨_, _, rfl, by
            rw [HME.out, World.cell?_setCell_other _ _ _ _ (fun e => by injection e with e1; omega), World.cell?_setCell_other _ _ _ _ (fun e => by injection e with e1; omega), Nat.zero_add]
            exact (HOW.out k hk).1⟩
          have HBF : Hid (Below w.heap.size w ((wr.setCell ⟨w.heap.size + 1, 0, none⟩ (.int .i64 (u : Nat))).setCell ⟨w.heap.size + 1, 1, none⟩ (.slice (some ⟨w1.heap.size, 0, none⟩) u u))) := set2B (Below.then HB2.out HW.out) (by omega)
          clear HOW hsz LL
          go_wp2_with fail
          exact bodyPost_ret (v := .tuple #[.agg #[.int .i64 (u : Nat), .slice (some ⟨w1.heap.size, 0, none⟩) u u], .int .i64 0]) (by simp [results, Tryd.results16, go_sem, z0, z1]) rfl ⟨⟨0, 0, _, HC.out, HO.out, rfl, .inr ⟨rfl, _, _, rfl, HROW.out⟩⟩, HBF.out⟩
  · have hne : (c != 0) = true := by simpa using h0
    have HO : Hid (OLk n c c) := .inl ⟨h0, rfl⟩
    obtain ⟨z0, z1, z2, z3⟩ := HZ1.out
    clear hb1 HB1 hc L0 l0 l1 l2 HZ0
    go_wp2_with fail
    exact bodyPost_ret (v := .tuple #[noOrder, .int .i64 c]) (by simp [results, Tryd.results16, go_sem, noOrder, z0, z1]) rfl ⟨⟨c, c, noOrder, HC.out, HO.out, rfl, .inl ⟨h0, rfl⟩⟩, set2B HB2.out (by omega)⟩
end Go.Proofs.YtjcinkippaknnaaDoor
