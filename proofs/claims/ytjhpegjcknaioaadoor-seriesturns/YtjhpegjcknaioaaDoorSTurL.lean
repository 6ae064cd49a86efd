/-
  What hasselaw.SeriesTurns answers: true. Conditions: the value reads as a term; the table of the least bits.
-/
import Derived.Test.YtjhpegjcknaioaaDoorWyM
import Derived.Test.YtjhpegjcknaioaaDoorCounts
import Derived.Test.YtjhpegjcknaioaaDoorSValL
namespace Go.Proofs.YtjhpegjcknaioaaDoor
set_option maxRecDepth 100000
open Go.RowKit

theorem sum_more {φ : Nat → Nat} {n : Nat} : ∀ d, (∀ i, n ≤ i → i < n + d → φ i = 0) → sumTo φ (n + d) = sumTo φ n
  | 0, _ => rfl
  | d + 1, h => by rw [← Nat.add_assoc, sumTo, sum_more d (fun i h1 h2 => h i h1 (by omega)), h (n + d) (by omega) (by omega), Nat.add_zero]
/-- Both tell the same number of ways. -/
theorem ways_wy {g : Nat → Nat} {n : Nat} (hn : n ≤ 10) (hg : Sm n n g) : ∀ m s, s < pw n → pc s + m = n → ways g n s = wy (lss g) (pw n - 1) m s
  | 0, s, hs, hp => by
    rw [full_of hn hs (by omega), ways_all]; rfl
  | m + 1, s, hs, hp => by
    have hpl := pw_le n hn
    have hpp := pw_pos n
    have hne : s ≠ pw n - 1 := fun e => by rw [e, pc_full n (by omega)] at hp; omega
    rw [ways_eq (by omega), wy_succ]
    have e10 : (10 : Nat) = n + (10 - n) := by omega
    have av0 : ∀ i, av (lss g) (pw n - 1) s i = true ↔ i < n ∧ s.testBit i = false ∧ ∀ j, (g i).testBit j = true → j < n → s.testBit j = true := fun i => by
      rw [av_iff (by omega), full_bit, decide_eq_true_eq]
      constructor
      · rintro ⟨h1, h2, h3⟩; exact ⟨h1, h2, fun j hj hl => h3 j (by rw [full_bit]; simpa using hl) hj⟩
      · rintro ⟨h1, h2, h3⟩; exact ⟨h1, h2, fun j hj hl => h3 j hl (by rw [full_bit] at hj; simpa using hj)⟩
    rw [show sumTo (fun i => if av (lss g) (pw n - 1) s i = true then wy (lss g) (pw n - 1) m (s ||| pw i) else 0) 10 = sumTo (fun i => if av (lss g) (pw n - 1) s i = true then wy (lss g) (pw n - 1) m (s ||| pw i) else 0) n from by
      conv => lhs; rw [e10]
      exact sum_more _ fun i h1 _ => if_neg fun k => by have := ((av0 i).1 k).1; omega]
    refine sum_cg n fun i hi => ?_
    have key : may g s i = true ↔ av (lss g) (pw n - 1) s i = true := by
      rw [av0 i]
      unfold may
      rw [Bool.and_eq_true, Bool.not_eq_true', decide_eq_true_eq, lack_zero _ _ (by have := hg i hi; omega) (by omega)]
      constructor
      · rintro ⟨h1, h2⟩; exact ⟨hi, h1, fun j hj _ => h2 j hj⟩
      · rintro ⟨_, h1, h2⟩; exact ⟨h1, fun j hj => h2 j hj (bit_of_lt (hg i hi) hj)⟩
    by_cases k : may g s i = true
    · have hb := may_out k
      rw [goes_yes k, if_pos (key.1 k), ← or_free hb]
      exact ways_wy hn hg m (s ||| pw i) (Nat.or_lt_two_pow hs (Nat.pow_lt_pow_right (by decide) hi)) (by rw [pc_add hb (by omega)]; omega)
    · have k' : may g s i = false := by simpa using k
      rw [goes_no k', if_neg (fun q => k (key.2 q))]
/-- The order that a term tells. -/
def tg (T : TT) (p : Nat) : Nat := dnP (tl T) (pw (np T) - 1) p
def tf (T : TT) (p : Nat) : Int := (tg T p : Nat)
theorem nat_tf (T : TT) : nat (tf T) = tg T := by funext p; simp [nat, tf]
theorem tg_bit {T : TT} (h : GdT T) (p a : Nat) : (tg T p).testBit a = true ↔ p < np T ∧ a < np T ∧ tl T a p = true := by
  have h10 := h.right.2.2
  have hpl := pw_le (np T) h10
  have hpp := pw_pos (np T)
  unfold tg
  rw [dnP_bit (by omega), full_bit, full_bit, decide_eq_true_eq, decide_eq_true_eq]
theorem tg_sm {T : TT} (h : GdT T) : Sm (np T) (np T) (tg T) := fun p _ => by
  refine Nat.lt_pow_two_of_testBit _ fun i hi => ?_
  cases e : (tg T p).testBit i
  · rfl
  · have := ((tg_bit h p i).1 e).2.1; omega
theorem tg_ord {T : TT} (h : GdT T) : Ord (np T) (tg T) := fun u hu => by
  obtain ⟨hok, _, h10⟩ := h.right
  have hpl := pw_le (np T) h10
  refine ⟨?_, fun p hp hb => ?_⟩
  · cases e : (tg T u).testBit u
    · rfl
    · have := ((tg_bit h u u).1 e).2.2
      rw [tl_irr T hok u] at this; cases this
  · rw [lack_zero _ _ (by have := tg_sm h p hp; omega) (by have := tg_sm h u hu; omega)]
    intro i hi
    have h1 := (tg_bit h p i).1 hi
    have h2 := (tg_bit h u p).1 hb
    exact (tg_bit h u i).2 ⟨hu, h1.2.1, tl_tr T hok i p u h1.2.2 h2.2.2⟩
theorem tg_chk {T : TT} (h : GdT T) : Chk (np T : Int) (np T) (tf T) 0 := by
  obtain ⟨_, _, h10⟩ := h.right
  refine .inr ⟨np T, rfl, h10, .inr ⟨rfl, .inr ⟨?_, .inr ⟨rfl, ?_⟩⟩⟩⟩
  · intro k hk
    have := tg_sm h k hk
    unfold tf
    omega
  · rw [nat_tf]; exact tg_ord h
theorem tg_ok {T : TT} (h : GdT T) : Ok (lss (tg T)) T := by
  obtain ⟨hok, hst, _⟩ := h.right
  refine hok.congr fun a b ha hb => ?_
  rw [hst, full_bit, decide_eq_true_eq] at ha hb
  rw [Bool.eq_iff_iff]
  unfold lss
  rw [tg_bit h]
  exact ⟨fun k => ⟨hb, ha, k⟩, fun k => k.2.2⟩
theorem tg_nz {T : TT} (h : GdT T) : NZ (tg T) (pw (np T) - 1) := by
  intro a b c d ha hb hc hd hz
  obtain ⟨⟨h1, h2, h3⟩, ⟨h4, h5⟩, ⟨h6, h7⟩, h8, h9⟩ := (zigP_iff (tg T) a b c d).1 hz
  rw [← h.right.2.1] at ha hb hc hd
  exact (tg_ok h).noZig a b c d ha hb hc hd h1 h2 h3 h4 h5 h6 h7 h8 h9
theorem Gd.np_pos {T : TT} (h : Gd T) : 0 < np T := by have := h.pos; rw [pl_np h] at this; exact this
/-- A right term of all points counts the order's rows. -/
theorem cr_ways {g : Nat → Nat} {n : Nat} (hn : n ≤ 10) (hg : Sm n n g) (ho : Ord n g) {T : TT} (h : Ok (lss g) T) (hs : st T = pw n - 1) : cr T = ways g n 0 := by
  have hnp := (h.good hn hs).2
  have e := cr_wy h (fun p hp => (ho p (by rw [hs, full_bit] at hp; simpa using hp)).1) (by omega)
  rw [hs, hnp] at e
  rw [← e, ways_wy hn hg n 0 (pw_pos n) (by rw [show pc 0 = 0 by decide]; omega)]
set_option maxHeartbeats 4000000 in
theorem seriesTurns_any (T : TT) (v : Value) (w : World) (hT : TRep 0 w T v) (hTab : Tab w) :
    Calls Tryd.prog 5 #[v] w fun e w' => e = .returned (.bool true) ∧ Below w.heap.size w w' := by
  obtain ⟨k, x, a, l, c, rfl⟩ := bld_start T v w hT
  obtain ⟨W, HWE⟩ : ∃ W, Hid (W = w.alloc (.cells #[.int .i64 k, .int .i64 x, .slice a l c] 27)) := ⟨_, rfl⟩
  have HB1 : Hid (Below w.heap.size w W) := by rw [HWE.out]; exact (Below.refl _ _).alloc (Nat.le_refl _) _
  have HX : Hid (∀ w', Below W.heap.size W w' → (w'.cell? ⟨w.heap.size, 0, none⟩ = some (.int .i64 k) ∧ w'.cell? ⟨w.heap.size, 1, none⟩ = some (.int .i64 x)) ∧ w'.cell? ⟨w.heap.size, 2, none⟩ = some (.slice a l c)) := fun w' h =>
    ⟨⟨cell_stp h (by rw [HWE.out]; simp), cell_stp h (by rw [HWE.out]; simp)⟩, cell_stp h (by rw [HWE.out]; simp)⟩
  have HTW : Hid (TRep 0 W T (.agg #[.int .i64 k, .int .i64 x, .slice a l c])) := TRep.step HB1.out _ _ hT
  have HTA : Hid (Tab W) := hTab.step HB1.out
  clear hT hTab
  go_enter Tryd.func5, Tryd.ntmps5
  go_wp2_with fail
  rw [← HWE.out]
  refine (seriesBegun_any _ HTA.out).mono ?_
  rintro e w1 ⟨rfl, hb1⟩
  have HW1 : Hid (Below W.heap.size W w1) := hb1
  obtain ⟨⟨y0, y1⟩, y2⟩ := HX.out _ hb1
  clear hb1
  go_wp2_with fail
  refine (build_any (tl T) (np T) T _ _ (TRep.step HW1.out _ _ HTW.out) (HTA.out.step HW1.out) (fun h => ⟨h.right.1, h.right.2.1, h.right.2.2, fun p _ => tl_irr T h.right.1 p⟩)).mono ?_
  rintro e w2 ⟨hres, hb2⟩
  have HW2 : Hid (Below W.heap.size W w2) := Below.then HW1.out hb2
  clear hb2 y0 y1 y2 HW1
  rcases hres with ⟨hG, bb, _, rfl, hrow⟩ | ⟨_, c2, hc2, rfl⟩
  · have HG : Hid (GdT T) := hG
    have HN0 : Hid (0 < np T) := hG.2.1.np_pos
    have h10 := hG.right.2.2
    have HR2 : Hid (Row w2 (some ⟨bb, 0, none⟩) (np T) (tf T)) := hrow
    have HSM : Hid (Sm (np T) (np T) (tg T)) := tg_sm hG
    have HOR : Hid (Ord (np T) (tg T)) := tg_ord hG
    have HCK : Hid (Chk (np T : Int) (np T) (tf T) 0) := tg_chk hG
    have HNZ : Hid (NZ (tg T) (pw (np T) - 1)) := tg_nz hG
    have HNT : Hid (nat (tf T) = tg T) := nat_tf T
    have HCT : Hid (cr T = ways (tg T) (np T) 0) := cr_ways h10 (tg_sm hG) (tg_ord hG) (tg_ok hG) hG.right.2.1
    have HCA : Hid (∀ T', Ok (lss (tg T)) T' → st T' = pw (np T) - 1 → cr T' = ways (tg T) (np T) 0) := fun T' h hs => cr_ways h10 HSM.out HOR.out h hs
    clear hrow hG
    generalize tg T = g at *
    generalize tf T = f at *
    generalize np T = n at *
    have HBA : Hid (Below w2.heap.size w2 (w2.alloc (.cells #[.int .i64 (n : Int), .slice (some ⟨bb, 0, none⟩) n n] 24))) := (Below.refl _ _).alloc (Nat.le_refl _) _
    have K3 : Hid (Held (w2.alloc (.cells #[.int .i64 (n : Int), .slice (some ⟨bb, 0, none⟩) n n] 24)) w2.heap.size n (some ⟨bb, 0, none⟩) n n f) := Held.box HR2.out
    have HW3 : Hid (Below W.heap.size W (w2.alloc (.cells #[.int .i64 (n : Int), .slice (some ⟨bb, 0, none⟩) n n] 24))) := Below.then HW2.out HBA.out
    have k0 := K3.out.c0
    have k1 := K3.out.c1
    go_wp2_with fail
    refine (sSplit_any n (some ⟨bb, 0, none⟩) n n f _ (by unfold maxLen; omega) K3.out.row (HTA.out.step HW3.out)).mono ?_
    rintro e w4 ⟨⟨c4, v4, ok, hc4, rfl, he⟩, hb4⟩
    obtain rfl := Chk.unique hc4 HCK.out
    have K4 : Hid (Held w4 w2.heap.size n (some ⟨bb, 0, none⟩) n n f) := K3.out.step hb4
    have HW4 : Hid (Below W.heap.size W w4) := Below.then HW3.out hb4
    clear hb4 HW3 hc4 HBA HR2 k0 k1
    rcases he with ⟨h, _⟩ | ⟨_, ⟨rfl, _, T', hT', hTr⟩ | ⟨_, _, h⟩⟩
    · exact absurd rfl h
    · rw [HNT.out] at hTr
      obtain ⟨k', x', a', n', c', rfl⟩ := hT'.agg
      have HOK : Hid (Ok (lss g) T') := hTr.ok
      have HST : Hid (st T' = pw n - 1) := hTr.st
      have HGT : Hid (GdT T') := (hTr.ok.good h10 hTr.st).1
      have HC' : Hid (cr T' = ways g n 0) := HCA.out T' hTr.ok hTr.st
      have HBA : Hid (Below w4.heap.size w4 (w4.alloc (.cells #[.int .i64 k', .int .i64 x', .slice a' n' c'] 27))) := (Below.refl _ _).alloc (Nat.le_refl _) _
      have HT5 : Hid (TRep 0 (w4.alloc (.cells #[.int .i64 k', .int .i64 x', .slice a' n' c'] 27)) T' (.agg #[.int .i64 k', .int .i64 x', .slice a' n' c'])) := TRep.low (Nat.zero_le _) _ _ (TRep.step HBA.out _ _ hT')
      have HX5 : Hid (∀ w', Below (w4.alloc (.cells #[.int .i64 k', .int .i64 x', .slice a' n' c'] 27)).heap.size (w4.alloc (.cells #[.int .i64 k', .int .i64 x', .slice a' n' c'] 27)) w' → w'.cell? ⟨w4.heap.size, 0, none⟩ = some (.int .i64 k') ∧ w'.cell? ⟨w4.heap.size, 1, none⟩ = some (.int .i64 x') ∧ w'.cell? ⟨w4.heap.size, 2, none⟩ = some (.slice a' n' c')) := fun w' h =>
        ⟨cell_stp h (by simp), cell_stp h (by simp), cell_stp h (by simp)⟩
      have K5 : Hid (Held (w4.alloc (.cells #[.int .i64 k', .int .i64 x', .slice a' n' c'] 27)) w2.heap.size n (some ⟨bb, 0, none⟩) n n f) := K4.out.step HBA.out
      have HW5 : Hid (Below W.heap.size W (w4.alloc (.cells #[.int .i64 k', .int .i64 x', .slice a' n' c'] 27))) := Below.then HW4.out HBA.out
      clear hT' hTr HW4 K4 K3
      go_wp2_with fail
      generalize hW5 : w4.alloc (.cells #[.int .i64 k', .int .i64 x', .slice a' n' c'] 27) = W5 at *
      generalize w4.heap.size = B4 at *
      clear hW5 HBA
      refine (build_any (lss g) n T' _ _ HT5.out (HTA.out.step HW5.out) (fun _ => ⟨HOK.out, HST.out, h10, fun p hp => (HOR.out p hp).1⟩)).mono ?_
      rintro e w6 ⟨hres, hb6⟩
      have HB56 : Hid (Below W5.heap.size W5 w6) := hb6
      obtain ⟨z0, z1, z2⟩ := HX5.out _ hb6
      clear hb6
      rcases hres with ⟨_, b6, _, rfl, hrow⟩ | ⟨h, _⟩
      · have HR6 : Hid (Row w6 (some ⟨b6, 0, none⟩) n f) := fun p hp => by
          obtain ⟨b2, o2, e2, q2⟩ := hrow p hp
          refine ⟨b2, o2, e2, q2.trans ?_⟩
          show some (Value.int .i64 ((dnP (lss g) (pw n - 1) p : Nat) : Int)) = _
          rw [dn_is h10 HSM.out p hp, ← HNT.out]
          have := (HCK.out.good).2.2.1 p hp
          unfold nat
          congr 2
          omega
        have HBA : Hid (Below w6.heap.size w6 (w6.alloc (.cells #[.int .i64 (n : Int), .slice (some ⟨b6, 0, none⟩) n n] 24))) := (Below.refl _ _).alloc (Nat.le_refl _) _
        have K7 : Hid (Held (w6.alloc (.cells #[.int .i64 (n : Int), .slice (some ⟨b6, 0, none⟩) n n] 24)) w6.heap.size n (some ⟨b6, 0, none⟩) n n f) := Held.box HR6.out
        have HB57 : Hid (Below W5.heap.size W5 (w6.alloc (.cells #[.int .i64 (n : Int), .slice (some ⟨b6, 0, none⟩) n n] 24))) := Below.then HB56.out HBA.out
        clear hrow HR6
        have zz := HX5.out _ HB57.out
        obtain ⟨z0, z1, z2⟩ := zz
        go_wp2_with fail
        generalize hW7 : w6.alloc (.cells #[.int .i64 (n : Int), .slice (some ⟨b6, 0, none⟩) n n] 24) = W7 at *
        generalize w6.heap.size = B6 at *
        clear hW7 HBA HB56
        refine (sRows_any T' _ _ (TRep.step HB57.out _ _ HT5.out)).mono ?_
        rintro e w8 ⟨⟨c8, hc8, he8⟩, hb8⟩
        obtain rfl : c8 = 0 := hc8.2 HGT.out
        have HB78 : Hid (Below W7.heap.size W7 w8) := hb8
        have K8 : Hid (Held w8 B6 n (some ⟨b6, 0, none⟩) n n f) := K7.out.step hb8
        have K8x : Hid (Held w8 w2.heap.size n (some ⟨bb, 0, none⟩) n n f) := K5.out.step (Below.then HB57.out hb8)
        clear hb8 hc8 z0 z1 z2
        rcases he8 with ⟨_, rfl⟩ | ⟨h, _⟩
        · have k0 := K8x.out.c0
          have k1 := K8x.out.c1
          rw [HC'.out]
          go_wp2_with fail
          refine (eCount_any n (some ⟨bb, 0, none⟩) n n f _ (by unfold maxLen; omega) K8x.out.row).mono ?_
          rintro e w9 ⟨⟨c9, hc9, he9⟩, hb9⟩
          obtain rfl := Chk.unique hc9 HCK.out
          have HB9 : Hid (Below W.heap.size W w9) := Below.then (Below.then (Below.then HW5.out HB57.out) HB78.out) hb9
          have K9 : Hid (Held w9 B6 n (some ⟨b6, 0, none⟩) n n f) := K8.out.step hb9
          have K9x : Hid (Held w9 w2.heap.size n (some ⟨bb, 0, none⟩) n n f) := K8x.out.step hb9
          clear hb9 hc9 k0 k1
          rcases he9 with ⟨h, _⟩ | ⟨_, rfl⟩
          · exact absurd rfl h
          · rw [HNT.out]
            obtain ⟨⟨y0, y1⟩, y2⟩ := HX.out _ HB9.out
            go_wp2_with fail
            refine (sRows_any T _ _ (TRep.step HB9.out _ _ HTW.out)).mono ?_
            rintro e w10 ⟨⟨c10, hc10, he10⟩, hb10⟩
            obtain rfl : c10 = 0 := hc10.2 HG.out
            have HB10 : Hid (Below W.heap.size W w10) := Below.then HB9.out hb10
            have K10 : Hid (Held w10 B6 n (some ⟨b6, 0, none⟩) n n f) := K9.out.step hb10
            have K10x : Hid (Held w10 w2.heap.size n (some ⟨bb, 0, none⟩) n n f) := K9x.out.step hb10
            have k0 := K10.out.c0
            have k1 := K10.out.c1
            have j0 := K10x.out.c0
            have j1 := K10x.out.c1
            clear hb10 hc10 y0 y1 y2
            rcases he10 with ⟨_, rfl⟩ | ⟨h, _⟩
            · rw [HCT.out]
              go_wp2_with fail
              refine (sameOrder_any n n (some ⟨bb, 0, none⟩) (some ⟨b6, 0, none⟩) n n n n f f _ (by unfold maxLen; omega) (by unfold maxLen; omega) K10x.out.row K10.out.row).mono ?_
              rintro e w11 ⟨⟨q, rfl, hq⟩, hb11⟩
              obtain rfl : q = true := hq.2 ⟨rfl, rfl, fun _ _ => rfl⟩
              have HB11 : Hid (Below W.heap.size W w11) := Below.then HB10.out hb11
              clear hb11 hq
              go_wp2_with fail
              go_ret
              exact ⟨by simp, Below.then HB1.out HB11.out⟩
            · exact absurd rfl h
        · exact absurd rfl h
      · exact absurd HGT.out h
    · exfalso
      have hn0 := HN0.out
      rcases h with h | h
      · omega
      · rw [HNT.out] at h; exact h HNZ.out
  · have hne : (c2 != 0) = true := by simpa using hc2
    have HBA : Hid (Below W.heap.size W (w2.alloc (.cells #[.int .i64 0, .slice none 0 0] 24))) := HW2.out.alloc HW2.out.size _
    unfold noOrder
    go_wp2_with fail
    go_ret
    exact ⟨rfl, Below.then HB1.out HBA.out⟩
end Go.Proofs.YtjhpegjcknaioaaDoor
