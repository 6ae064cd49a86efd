/-
  What complete.Fill answers. No condition but that a slice reads as a slice of numbers.
-/
import Derived.Test.YthhnngmfbbljaaaGreatCutL
import Derived.Test.YthhnngmfbbljaaaGreatOfLat
import Derived.Test.YthhnngmfbbljaaaGreatLaws
namespace Go.Proofs.YthhnngmfbbljaaaGreat
set_option maxRecDepth 100000
open Go.RowKit

theorem ent_fill : Ent 36 := fun _ _ => rfl
theorem fill1_any (n B C : Nat) (a a' : Option Addr) (cap cap' : Nat) (g : Nat → Nat) (w : World) (h10 : n ≤ 10) (hg : ∀ k, k < n → g k < 1024) (hB : Held w B (n : Int) a n cap (fun k => (g k : Nat))) (hC : Held w C (n : Int) a' n cap' (fun k => (trn g n k : Nat))) :
    CloJ 36 #[.pointer (some ⟨B, 0, none⟩), .pointer (some ⟨C, 0, none⟩)] (cutW g n) w := fun s hs W hW => by
  show Calls Tryz.prog 36 #[.int .i64 (s : Nat), .pointer (some ⟨B, 0, none⟩), .pointer (some ⟨C, 0, none⟩)] W _
  have H1 := hB.step hW
  have H2 := hC.step hW
  have k0 := H1.c0
  have k1 := H1.c1
  have m0 := H2.c0
  have m1 := H2.c1
  have HCALL := cut_any a a' n cap cap' g s W h10 hg H1.row H2.row hs
  clear hB hC hW H1 H2
  go_enter Tryz.func36, Tryz.ntmps36
  go_wp2_with fail
  refine HCALL.mono ?_
  rintro e w1 ⟨rfl, hb1⟩
  have HB1 : Hid (Below W.heap.size W w1) := hb1
  clear hb1 HCALL
  go_wp2_with fail
  go_ret
  exact ⟨rfl, HB1.out⟩
/-- What Fill must answer. -/
def FillIs (n : Int) (len : Nat) (f : Nat → Int) (B : Nat) (e : Ending) (w' : World) : Prop :=
  ((∃ c, (c ≠ 0 ∧ Chk n len f c ∨ c = 2 ∧ Chk n len f 0 ∧ 40 < (cuts (nat f) len).length) ∧ e = .returned (.tuple #[noLat, .slice none 0 0, .int .i64 c]))) ∨
  ((Chk n len f 0 ∧ (cuts (nat f) len).length ≤ 40) ∧ ∃ T1 T2 R1 R2 pb, e = .returned (.tuple #[.agg #[.int .i64 ((cuts (nat f) len).length : Int), .slice (some ⟨T1, 0, none⟩) (cuts (nat f) len).length (cuts (nat f) len).length, .slice (some ⟨T2, 0, none⟩) (cuts (nat f) len).length (cuts (nat f) len).length], .slice (some ⟨pb, 0, none⟩) len len, .int .i64 0]) ∧
    Tb w' T1 0 (cuts (nat f) len).length R1 (ctm (nat f) len) ∧ Tb w' T2 0 (cuts (nat f) len).length R2 (ctj (nat f) len) ∧ Row w' (some ⟨pb, 0, none⟩) len (fun k => (ctp (nat f) len k : Nat)) ∧ (B ≤ T1 ∧ B ≤ T2) ∧ (∀ k, k < (cuts (nat f) len).length → B ≤ (R1 k).1 ∧ B ≤ (R2 k).1) ∧ B ≤ pb ∧ Apt w' (cuts (nat f) len).length R1 R2)
theorem Own.set3 {X : World} {B b n : Nat} {g : Nat → Nat} (h : Own X b n g) (u v y : Value) (hne : B ≠ b) : Own (((X.setCell ⟨B, 0, none⟩ u).setCell ⟨B, 1, none⟩ v).setCell ⟨B, 2, none⟩ y) b n g := fun k hk => by
  have ne : ∀ i : Nat, (⟨B, i, none⟩ : Addr) ≠ ⟨b, k, none⟩ := fun i e => hne (by injection e)
  refine ⟨?_, by rw [World.frozen?_setCell, World.frozen?_setCell, World.frozen?_setCell]; exact (h k hk).2⟩
  rw [World.cell?_setCell_other _ _ _ _ (ne _), World.cell?_setCell_other _ _ _ _ (ne _), World.cell?_setCell_other _ _ _ _ (ne _)]; exact (h k hk).1
theorem Tb.set3 {w : World} {b off n X : Nat} {R : Nat → Nat × Nat × Nat} {m : Nat → Nat → Nat} (h : Tb w b off n R m) (u v y : Value) (h1 : X ≠ b) (h2 : ∀ x, x < n → X ≠ (R x).1) : Tb (((w.setCell ⟨X, 0, none⟩ u).setCell ⟨X, 1, none⟩ v).setCell ⟨X, 2, none⟩ y) b off n R m :=
  ((h.set (p := ⟨X, 0, none⟩) u h1 h2).set (p := ⟨X, 1, none⟩) v h1 h2).set (p := ⟨X, 2, none⟩) y h1 h2

set_option maxHeartbeats 4000000 in
theorem fill_any (n : Int) (a : Option Addr) (len cap : Nat) (f : Nat → Int) (w : World) (hl : len ≤ maxLen) (hr : Row w a len f) :
    Calls Tryz.prog 11 #[.agg #[.int .i64 n, .slice a len cap]] w fun e w' => FillIs n len f w.heap.size e w' ∧ Below w.heap.size w w' := by
  obtain ⟨i0, hi, hz0, hz1, hz2⟩ := info_parts Tryz.info3
  obtain ⟨W, HW⟩ : ∃ W, Hid (W = (w.alloc (.cells #[.int .i64 n, .slice a len cap] 24)).alloc (.cells #[.int .i64 0, .slice none 0 0, .slice none 0 0] 27)) := ⟨_, rfl⟩
  have B1 : Below w.heap.size w (w.alloc (.cells #[.int .i64 n, .slice a len cap] 24)) := (Below.refl _ _).alloc (Nat.le_refl _) _
  have B2 : Below w.heap.size w W := by rw [HW.out]; exact B1.alloc (by simp) _
  have K0 : Held W w.heap.size n a len cap f := by rw [HW.out]; exact (Held.box hr).step ((Below.refl _ _).alloc (Nat.le_refl _) _)
  have Z0 : ZL W (w.heap.size + 1) := by
    rw [HW.out]
    have := ZL.new (w.alloc (.cells #[.int .i64 n, .slice a len cap] 24))
    rw [World.size_alloc] at this; exact this
  have HSZ : Hid (W.heap.size = w.heap.size + 2) := by rw [Hid, HW.out]; simp
  have HB0 : Hid (Below w.heap.size w W) := B2
  have HZ : Hid (ZL W (w.heap.size + 1)) := Z0
  have HK : Hid (Held W w.heap.size n a len cap f) := K0
  have k0 := K0.c0
  have k1 := K0.c1
  clear hr B1 B2 K0 Z0
  go_enter Tryz.func11, Tryz.ntmps11
  go_wp2_with fail
  rw [← HW.out]
  go_wp2_with fail
  refine (dual_any n a len cap f _ hl HK.out.row).mono ?_
  rintro e w1 ⟨⟨c, x, hc, rfl, hx⟩, hb⟩
  have HK1 : Hid (Held w1 w.heap.size n a len cap f) := HK.out.step hb
  have HZ1 : Hid (ZL w1 (w.heap.size + 1)) := HZ.out.step hb
  have HB1 : Hid (Below w.heap.size w w1) := Below.then HB0.out hb
  have HSZ1 : Hid (w.heap.size + 2 ≤ w1.heap.size) := by have h1 := hb.size; have h2 := HSZ.out; rw [Hid]; omega
  clear hb HW k0 k1
  rcases hx with ⟨h0, rfl⟩ | ⟨rfl, a', cap', rfl, hr'⟩
  · have hne : (c != 0) = true := by simpa using h0
    have HC : Hid (Chk n len f c) := hc
    obtain ⟨⟨d0, d1, d2⟩, f0, f1, f2⟩ := HZ1.out.step ((Below.refl w1.heap.size w1).alloc (Nat.le_refl _) (.cells #[.int .i64 0, .slice none 0 0] 24))
    have HBA : Hid (Below w.heap.size w (w1.alloc (.cells #[.int .i64 0, .slice none 0 0] 24))) := HB1.out.alloc HB1.out.size _
    clear hc
    unfold noOrder
    go_wp2_with fail
    refine bodyPost_ret (v := .tuple #[noLat, .slice none 0 0, .int .i64 c]) ?_ rfl ⟨.inl ⟨c, .inl ⟨h0, HC.out⟩, rfl⟩, ?_⟩
    · simp [results, Tryz.results11, go_sem, noLat, d0, d1, d2]
    · first | exact HBA.out | exact set3B HBA.out (Nat.le_succ _)
  · obtain ⟨rfl, h10, hrng, ho⟩ := hc.good
    have HC : Hid (Chk (len : Int) len f 0) := hc
    obtain ⟨w2, HW2⟩ : ∃ w2, Hid (w2 = w1.alloc (.cells #[.int .i64 (len : Int), .slice a' len cap'] 24)) := ⟨_, rfl⟩
    have hb2 : Below w1.heap.size w1 w2 := by rw [HW2.out]; exact (Below.refl _ _).alloc (Nat.le_refl _) _
    have HD2 : Hid (Held w2 w1.heap.size (len : Int) a' len cap' (fun k => ((trn (nat f) len k : Nat) : Int))) := by rw [Hid, HW2.out]; exact Held.box hr'
    have HK2 : Hid (Held w2 w.heap.size (len : Int) a len cap f) := HK1.out.step hb2
    have HG : Hid (∀ k, k < len → nat f k < 1024) := hrng.small2 h10
    have HGP : Hid (∀ k, k < len → nat f k < pw len) := hrng.small
    have HKN : Hid (Held w2 w.heap.size (len : Int) a len cap (fun k => ((nat f k : Nat) : Int))) := ⟨HK2.out.c0, HK2.out.c1, hrng.row HK2.out.row⟩
    have HZ2 : Hid (ZL w2 (w.heap.size + 1)) := HZ1.out.step hb2
    have HB2 : Hid (Below w.heap.size w w2) := Below.then HB1.out hb2
    have HSZ2 : Hid (w.heap.size + 2 ≤ w2.heap.size) := by have h1 := hb2.size; have h2 := HSZ1.out; rw [Hid]; omega
    have hKe := HKN.out
    have hDe := HD2.out
    rw [HW2.out] at hKe hDe
    have k0 := hKe.c0
    have k1 := hKe.c1
    have m0 := hDe.c0
    have m1 := hDe.c1
    clear hc hr' ho hrng hb2 HK1 HZ1 HB1
    go_wp2_with fail
    rw [← HW2.out]
    clear HW2 hKe hDe k0 k1 m0 m1
    refine (allCuts_any a a' len cap cap' (nat f) _ h10 HG.out HKN.out.row HD2.out.row).mono ?_
    rintro e w3 ⟨⟨v, rfl, hv⟩, hb3⟩
    obtain ⟨l, HLE⟩ : ∃ l, Hid (l = cuts (nat f) len) := ⟨_, rfl⟩
    rw [← HLE.out] at hv
    obtain ⟨pa, pc, rfl, hpr⟩ := hv
    have hpw := pw_le len h10
    have HCALL : Hid (Calls Tryz.prog 32 #[.slice pa l.length pc, .func (.func 36) #[] #[.pointer (some ⟨w.heap.size, 0, none⟩), .pointer (some ⟨w1.heap.size, 0, none⟩)]] w3 fun e w' => OfIs l.length w3.heap.size (ctm (nat f) len) (ctj (nat f) len) e w' ∧ Below w3.heap.size w3 w') := by
      subst HLE
      exact ofSets_any (cuts (nat f) len) pa pc 36 _ (cutW (nat f) len) (ctm (nat f) len) (ctj (nat f) len) w3 (cuts_pos _ _) (Nat.le_trans (fil_len _ _) hpw) hpr (fil_rises _ _) (fun k hk => by have := (cuts_at hk).1; omega) ent_fill (fill1_any len _ _ a a' cap cap' (nat f) w3 h10 HG.out (HKN.out.step hb3) (HD2.out.step hb3)) (fun x y hx hy => ctm_is hx hy) (fun x y _ _ => ctj_is)
    have HPR : Hid (∀ w', Below w3.heap.size w3 w' → Row w' pa l.length (fun k => ((nth l k : Nat) : Int))) := fun w' h => hpr.below h
    have HLL : Hid (l.length ≤ 1024) := by rw [HLE.out]; exact Nat.le_trans (fil_len _ _) hpw
    have HRI : Hid (Rises l) := by rw [HLE.out]; exact fil_rises _ _
    have HPL : Hid (∀ p, p < len → ctp (nat f) len p < l.length ∧ nth l (ctp (nat f) len p) = upto (nat f) p) := fun p hp => by rw [HLE.out]; exact ctp_is HGP.out hp
    have HK3 : Hid (Held w3 w.heap.size (len : Int) a len cap (fun k => ((nat f k : Nat) : Int))) := HKN.out.step hb3
    have HZ3 : Hid (ZL w3 (w.heap.size + 1)) := HZ2.out.step hb3
    have HB3 : Hid (Below w.heap.size w w3) := Below.then HB2.out hb3
    have HSZ3 : Hid (w.heap.size + 2 ≤ w3.heap.size) := by have h1 := hb3.size; have h2 := HSZ2.out; rw [Hid]; omega
    obtain ⟨q, HQ⟩ : ∃ q, Hid (q = l.length) := ⟨_, rfl⟩
    rw [← HQ.out] at HCALL ⊢
    clear hpr hpw hb3 HKN HD2 HK2 HZ2 HB2
    go_wp2_with fail
    refine HCALL.out.mono ?_
    rintro e w4 ⟨ho, hb4⟩
    have HZ4 : Hid (ZL w4 (w.heap.size + 1)) := HZ3.out.step hb4
    have HB4 : Hid (Below w.heap.size w w4) := Below.then HB3.out hb4
    have HK4 : Hid (Held w4 w.heap.size (len : Int) a len cap (fun k => ((nat f k : Nat) : Int))) := HK3.out.step hb4
    have H34 : Hid (Below w3.heap.size w3 w4) := hb4
    have HSZ4 : Hid (w3.heap.size ≤ w4.heap.size) := hb4.size
    clear HCALL hb4 HZ3 HB3 HK3
    rcases ho with ⟨h40, rfl⟩ | ⟨h40, T1, T2, R1, R2, rfl, ht1, ht2, hT, hR, hap⟩
    · obtain ⟨⟨d0, d1, d2⟩, f0, f1, f2⟩ := HZ4.out.step ((Below.refl w4.heap.size w4).alloc (Nat.le_refl _) (.cells #[.int .i64 0, .slice none 0 0, .slice none 0 0] 27))
      have HBA : Hid (Below w.heap.size w (w4.alloc (.cells #[.int .i64 0, .slice none 0 0, .slice none 0 0] 27))) := HB4.out.alloc HB4.out.size _
      unfold noLat
      go_wp2_with fail
      refine bodyPost_ret (v := .tuple #[noLat, .slice none 0 0, .int .i64 2]) ?_ rfl ⟨.inl ⟨2, .inr ⟨rfl, HC.out, by rw [← HLE.out, ← HQ.out]; exact h40⟩, rfl⟩, ?_⟩
      · simp [results, Tryz.results11, go_sem, noLat, d0, d1, d2]
      · first | exact HBA.out | exact set3B HBA.out (Nat.le_succ _)
    · obtain ⟨w5, HW5⟩ : ∃ w5, Hid (w5 = w4.alloc (.cells #[.int .i64 (q : Int), .slice (some ⟨T1, 0, none⟩) q q, .slice (some ⟨T2, 0, none⟩) q q] 27)) := ⟨_, rfl⟩
      have hb5 : Below w4.heap.size w4 w5 := by rw [HW5.out]; exact (Below.refl _ _).alloc (Nat.le_refl _) _
      have HL5 : Hid (LB w5 w4.heap.size (q : Int) (some ⟨T1, 0, none⟩) q q (some ⟨T2, 0, none⟩) q q) := by rw [Hid, HW5.out]; exact LB.new _ _ _ _ _ _ _ _
      have HK5 : Hid (Held w5 w.heap.size (len : Int) a len cap (fun k => ((nat f k : Nat) : Int))) := HK4.out.step hb5
      have HZ5 : Hid (ZL w5 (w.heap.size + 1)) := HZ4.out.step hb5
      have HB5 : Hid (Below w.heap.size w w5) := Below.then HB4.out hb5
      have H35 : Hid (Below w3.heap.size w3 w5) := Below.then H34.out hb5
      have HT1 : Hid (Tb w5 T1 0 q R1 (ctm (nat f) len)) := ht1.step hb5
      have HT2 : Hid (Tb w5 T2 0 q R2 (ctj (nat f) len)) := ht2.step hb5
      have HTT : Hid (w3.heap.size ≤ T1 ∧ w3.heap.size ≤ T2) := hT
      have HAP5 : Hid (Apt w5 q R1 R2) := hap.step hb5
      have HRR : Hid (∀ k, k < q → w3.heap.size ≤ (R1 k).1 ∧ w3.heap.size ≤ (R2 k).1) := hR
      have HS5 : Hid (w.heap.size + 2 ≤ w5.heap.size) := by have h1 := hb5.size; have h2 := HSZ4.out; have h3 := HSZ3.out; rw [Hid]; omega
      have hKe := HK5.out
      rw [HW5.out] at hKe
      have k0 := hKe.c0
      have k1 := hKe.c1
      clear hb5 ht1 ht2 hT hR hap HK4 HZ4 HB4 H34
      have HS45 : Hid (w5.heap.size = w4.heap.size + 1) := by rw [Hid, HW5.out]; simp
      go_wp2_with (at_make; refine wpList_make_full _ rfl _ _ 22 rfl (w4.heap.size + 1) 3 i0 (.int .i64 0) 1 Tryz.underlying22 hi hz0 hz1 .i64 .i64 _ _ len rfl rfl rfl rfl (by rw [hz2]; omega) (by unfold maxLen; omega) (by simp) ?_; intro w6 hown6 hgrow6; have hb6 : Below w5.heap.size w5 w6 := (by rw [HW5.out]; exact (Below.refl _ _).grown hgrow6 (Nat.le_refl _) (by simp)); have e0 := (HK5.out.step hb6).c0)
      rw [World.size_alloc] at hown6
      have HO6 : Hid (Own w6 (w4.heap.size + 1) len (fun i => if i < 0 then ctp (nat f) len i else 0)) := (own_made hown6).congr (fun k _ => by simp)
      have HW6 : Hid (Below w5.heap.size w5 w6) := hb6
      obtain ⟨pb, HPB⟩ : ∃ pb, Hid (pb = w4.heap.size + 1) := ⟨_, rfl⟩
      rw [← HPB.out] at HO6 HS45 ⊢
      clear hown6 hgrow6 hb6 hKe k0 k1 HW5 e0
      go_loopw [38] (fun i wx => ∃ k : Nat, k ≤ len ∧ i = .int .i64 k ∧ Hid (Own wx pb len (fun i => if i < k then ctp (nat f) len i else 0)) ∧ Hid (Below w5.heap.size w5 wx)) (fun i _ => len - (intOf i).toNat)
      case atStart => exact ⟨0, Nat.zero_le _, rfl, HO6.out, HW6.out⟩
      case round =>
        clear HO6 HW6
        obtain ⟨k, hk, rfl, HOW, HWX⟩ := hrel
        have hK := HK5.out.step HWX.out
        have k0 := hK.c0
        have k1 := hK.c1
        by_cases hlt : k < len
        · have hpl := HPL.out k hlt
          have hlo : pb < wr.heap.size := HOW.out.lt hlt
          have hkq : (k : Int) < (len : Int) := by omega
          have HNX : Hid (∀ X : World, Own X pb len (upd (fun i => if i < k then ctp (nat f) len i else 0) k (ctp (nat f) len k)) → Own X pb len (fun i => if i < k + 1 then ctp (nat f) len i else 0)) := fun X h => h.congr (fun i _ => by
            by_cases e : i = k
            · subst e; rw [upd_same]; simp
            · rw [upd_other _ _ _ _ e]
              have : (i < k + 1) = (i < k) := by simp; omega
              simp only [this])
          go_wp2_with fail
          refine (upTo_any len a len cap (nat f) k _ h10 HG.out hK.row hlt).mono ?_
          rintro e w7 ⟨rfl, hb7⟩
          have HW7 : Hid (Below w5.heap.size w5 w7) := Below.then HWX.out hb7
          have HO7 : Hid (Own w7 pb len (fun i => if i < k then ctp (nat f) len i else 0)) := HOW.out.keep hb7 hlo
          have hlo7 : pb < w7.heap.size := HO7.out.lt hlt
          clear hb7 HWX HOW hK k0 k1 hlo
          go_wp2_with fail
          refine (place_n l pa q pc (ctp (nat f) len k) (upto (nat f) k) _ HQ.out HLL.out (HPR.out _ (Below.then H35.out HW7.out)) HRI.out hpl.1 hpl.2).mono ?_
          rintro e w8 ⟨rfl, hb8⟩
          have HW8 : Hid (Below w5.heap.size w5 w8) := Below.then HW7.out hb8
          have HO8 : Hid (Own w8 pb len (fun i => if i < k then ctp (nat f) len i else 0)) := HO7.out.keep hb8 hlo7
          have c8 := (HO8.out k hlt).1
          have f8 := (HO8.out k hlt).2
          have HO9 : Hid (Own (w8.setCell ⟨pb, k, none⟩ (.int .i64 (ctp (nat f) len k : Nat))) pb len (fun i => if i < k + 1 then ctp (nat f) len i else 0)) := HNX.out _ (HO8.out.set k _ hlt)
          have HW9 : Hid (Below w5.heap.size w5 (w8.setCell ⟨pb, k, none⟩ (.int .i64 (ctp (nat f) len k : Nat)))) := HW8.out.setCell (p := ⟨pb, k, none⟩) (Nat.le_of_eq HS45.out) _
          clear hb8 HW7 HO7 hlo7 HO8 HW8 hpl HNX
          go_wp2_with fail
          go_roundw
          case rel => exact ⟨k + 1, by omega, by go_num, HO9.out, HW9.out⟩
          case measure => simp [intOf]; omega
        · obtain rfl : k = len := by omega
          have hL := HL5.out.step HWX.out
          have p0 := hL.1
          have p1 := hL.2.1
          have p2 := hL.2.2
          obtain ⟨⟨d0, d1, d2⟩, f0, f1, f2⟩ := HZ5.out.step HWX.out
          have HOF : Hid (Own wr pb k (ctp (nat f) k)) := HOW.out.congr (fun i hi => by simp [hi])
          have HTF1 : Hid (Tb wr T1 0 q R1 (ctm (nat f) k)) := HT1.out.step HWX.out
          have HTF2 : Hid (Tb wr T2 0 q R2 (ctj (nat f) k)) := HT2.out.step HWX.out
          have HBF : Hid (Below w.heap.size w wr) := Below.then HB5.out HWX.out
          have HAPF : Hid (Apt wr q R1 R2) := HAP5.out.step HWX.out
          have hs5 := HS5.out
          have hs3 := HSZ3.out
          have hs45 := HS45.out
          have htt := HTT.out
          clear hL hK k0 k1 HOW HWX
          go_wp2_with fail
          refine bodyPost_ret (v := .tuple #[.agg #[.int .i64 (q : Int), .slice (some ⟨T1, 0, none⟩) q q, .slice (some ⟨T2, 0, none⟩) q q], .slice (some ⟨pb, 0, none⟩) k k, .int .i64 0]) ?_ rfl ⟨.inr ⟨⟨HC.out, by rw [← HLE.out, ← HQ.out]; exact h40⟩, T1, T2, R1, R2, pb, by rw [← HLE.out, ← HQ.out], ?_, ?_, ?_, ⟨by omega, by omega⟩, fun i hi => (by rw [← HLE.out, ← HQ.out] at hi; have := HRR.out i hi; exact ⟨by omega, by omega⟩), by omega, ?_⟩, ?_⟩
          · simp [results, Tryz.results11, go_sem, d0, d1, d2]
          · rw [← HLE.out, ← HQ.out]; exact HTF1.out.set3 _ _ _ (by omega) (fun x hx => by have := HRR.out x hx; omega)
          · rw [← HLE.out, ← HQ.out]; exact HTF2.out.set3 _ _ _ (by omega) (fun x hx => by have := HRR.out x hx; omega)
          · exact (HOF.out.set3 _ _ _ (by omega)).row
          · rw [← HLE.out, ← HQ.out]; exact ((HAPF.out.set _ _).set _ _).set _ _
          · exact set3B HBF.out (Nat.le_succ _)
end Go.Proofs.YthhnngmfbbljaaaGreat
