/-
  What quotient.Congruent answers, whatever it is handed. No condition but that slices read as slices of rows and of numbers.
  What quotient.Congruent answers, whatever it is handed. No condition but that slices read as slices of rows and of numbers.
-/
import Derived.Test.YtappekjkcgmheabQckP
import Derived.Test.YtappekjkcgmheabQuM
namespace Go.Proofs.Ytappekjkcgmheab
open Go.RowKit
set_option maxRecDepth 100000

/-- Are two of one class torn apart? -/
def tornB (c : Nat → Nat) (m j : Nat → Nat → Nat) (x y z : Nat) : Bool := (c x == c y) && (!(c (m x z) == c (m y z)) || !(c (j x z) == c (j y z)))
theorem ent_congruent1 : Ent 24 := fun _ _ => rfl
theorem int_bne {a b : Nat} {v : Bool} (h : (a == b) = v) : (((a : Nat) : Int) != ((b : Nat) : Int)) = !v := by
  rw [← h, ← int_beq]; rfl

set_option maxHeartbeats 8000000 in
theorem congruent1_any (n kb lb b off ca b' off' cb p o cm : Nat) (R R' : Nat → Nat × Nat × Nat) (m j : Nat → Nat → Nat) (c : Nat → Nat) (w : World) (_ : n ≤ 40) (hm : Inn n m) (hj : Inn n j)
    (hc : w.cell? ⟨kb, 0, none⟩ = some (.slice (some ⟨p, o, none⟩) n cm)) (hl : LB w lb n (some ⟨b, off, none⟩) n ca (some ⟨b', off', none⟩) n cb) (ht : Tb w b off n R m) (ho : Tb w b' off' n R' j) (hr : ∀ i, i < n → w.cell? ⟨p, o + i, none⟩ = some (.int .i64 (c i : Nat))) :
    Clo n 24 #[.pointer (some ⟨kb, 0, none⟩), .pointer (some ⟨lb, 0, none⟩)] (tornB c m j) w := fun x y z hx hy hz W hW => by
  show Calls Try.prog 24 #[.int .i64 (x : Nat), .int .i64 (y : Nat), .int .i64 (z : Nat), .pointer (some ⟨kb, 0, none⟩), .pointer (some ⟨lb, 0, none⟩)] W _
  have cT := cell_step hW hc
  have cM := cell_step hW hl.2.1
  have cJ := cell_step hW hl.2.2
  have hmx := hm x z hx hz
  have hmy := hm y z hy hz
  have hjx := hj x z hx hz
  have hjy := hj y z hy hz
  have r1 := ((ht.step hW) x hx).1
  have r2 := ((ht.step hW) y hy).1
  have r3 := ((ho.step hW) x hx).1
  have r4 := ((ho.step hW) y hy).1
  have e1 := ((ht.step hW) x hx).2 z hz
  have e2 := ((ht.step hW) y hy).2 z hz
  have e3 := ((ho.step hW) x hx).2 z hz
  have e4 := ((ho.step hW) y hy).2 z hz
  have f1 := cell_step hW (hr x hx)
  have f2 := cell_step hW (hr y hy)
  have f3 := cell_step hW (hr _ hmx)
  have f4 := cell_step hW (hr _ hmy)
  have f5 := cell_step hW (hr _ hjx)
  have f6 := cell_step hW (hr _ hjy)
  clear ht ho hc hl hm hj hW hr
  unfold tornB
  obtain ⟨v1, hv1⟩ : ∃ v, (c x == c y) = v := ⟨_, rfl⟩
  obtain ⟨v2, hv2⟩ : ∃ v, (c (m x z) == c (m y z)) = v := ⟨_, rfl⟩
  obtain ⟨v3, hv3⟩ : ∃ v, (c (j x z) == c (j y z)) = v := ⟨_, rfl⟩
  rw [hv1, hv2, hv3]
  have g2 := int_bne hv2
  have g3 := int_bne hv3
  rw [← int_beq] at hv1 hv2 hv3
  have ix : (x : Int) < (n : Int) := by omega
  have iy : (y : Int) < (n : Int) := by omega
  have iz : (z : Int) < (n : Int) := by omega
  have i1 : ((m x z : Nat) : Int) < (n : Int) := by omega
  have i2 : ((m y z : Nat) : Int) < (n : Int) := by omega
  have i3 : ((j x z : Nat) : Int) < (n : Int) := by omega
  have i4 : ((j y z : Nat) : Int) < (n : Int) := by omega
  have hKK : Hid (Below W.heap.size W W) := Below.refl _ _
  rcases v1 with _ | _
  · go_enter Try.func24, Try.ntmps24
    go_wp2
    try simp only [List.append_eq, List.cons_append, List.nil_append]
    go_big_quiet (fail)
    go_wp2
    go_ret
    exact ⟨rfl, below_drewN hKK.out _⟩
  · rcases v2 with _ | _
    · go_enter Try.func24, Try.ntmps24
      go_wp2
      try simp only [List.append_eq, List.cons_append, List.nil_append]
      go_big_quiet (fail)
      go_wp2
      go_ret
      exact ⟨rfl, below_drewN hKK.out _⟩
    · rcases v3 with _ | _
      · go_enter Try.func24, Try.ntmps24
        go_wp2
        try simp only [List.append_eq, List.cons_append, List.nil_append]
        go_big_quiet (fail)
        go_wp2
        go_ret
        exact ⟨rfl, below_drewN hKK.out _⟩
      · go_enter Try.func24, Try.ntmps24
        go_wp2
        try simp only [List.append_eq, List.cons_append, List.nil_append]
        go_big_quiet (fail)
        go_wp2
        go_ret
        exact ⟨rfl, below_drewN hKK.out _⟩
end Go.Proofs.Ytappekjkcgmheab
namespace Go.Proofs.Ytappekjkcgmheab
open Go.RowKit
set_option maxRecDepth 100000

theorem torn_con {n : Nat} {c : Nat → Nat} {m j : Nat → Nat → Nat} {l : List Nat} {ok : Bool} (h : First3 n (tornB c m j) l ok) : (!ok) = true ↔ Con n m j c := by
  rcases h with ⟨rfl, x, y, z, ⟨hx, hy, hz⟩, hp, _, _⟩ | ⟨rfl, _, hu⟩
  · constructor
    · intro h; cases h
    · intro hc
      unfold tornB at hp
      simp only [Bool.and_eq_true, beq_iff_eq, Bool.or_eq_true, Bool.not_eq_true', beq_eq_false_iff_ne] at hp
      have := hc x y z hx hy hz hp.1
      rcases hp.2 with h | h
      · exact absurd this.1 h
      · exact absurd this.2 h
  · constructor
    · intro _ x y z hx hy hz e
      have := hu x y z hx hy hz
      unfold tornB at this
      simp [e] at this
      exact this
    · intro _; rfl
/-- The classes as numbers. -/
def natF (f : Nat → Int) (i : Nat) : Nat := (f i).toNat
theorem QCk.good {n : Int} {la : Nat} {SA : Nat → Option Addr × Nat × Nat} {FA : Nat → Nat → Int} {lb : Nat} {SB : Nat → Option Addr × Nat × Nat} {FB : Nat → Nat → Int} {m : Nat} {f : Nat → Int} (h : QCk n la SA FA lb SB FB m f 0) : LCk n la SA FA lb SB FB 0 ∧ (m : Int) = n ∧ RisC f m := by
  rcases h with ⟨h, _⟩ | ⟨h1, ⟨h, _⟩ | ⟨h2, ⟨h, _⟩ | ⟨_, h3⟩⟩⟩
  · exact absurd rfl h
  · omega
  · omega
  · exact ⟨h1, h2, h3⟩

set_option maxHeartbeats 4000000 in
theorem congruent_any (n : Int) (a : Option Addr) (la ca : Nat) (SA : Nat → Option Addr × Nat × Nat) (FA : Nat → Nat → Int) (b : Option Addr) (lb cb : Nat) (SB : Nat → Option Addr × Nat × Nat) (FB : Nat → Nat → Int) (p : Option Addr) (m cm : Nat) (f : Nat → Int) (w : World) (hla : la ≤ maxLen) (hlb : lb ≤ maxLen) (hra : RR w a la SA FA) (hrb : RR w b lb SB FB) (hrp : Row w p m f) :
    Calls Try.prog 7 #[.agg #[.int .i64 n, .slice a la ca, .slice b lb cb], .slice p m cm] w fun e w' => (∃ c v, e = .returned (.tuple #[.bool v, .int .i64 c]) ∧ QCk n la SA FA lb SB FB m f c ∧ ((c ≠ 0 ∧ v = false) ∨ (c = 0 ∧ (v = true ↔ Con m (nat2 FA) (nat2 FB) (natF f))))) ∧ Below w.heap.size w w' := by
  have hb0 : Below w.heap.size w ((w.alloc (.cells #[.int .i64 n, .slice a la ca, .slice b lb cb] 24)).alloc (.cells #[.slice p m cm] 31)) := ((Below.refl _ _).alloc (Nat.le_refl _) _).alloc (by simp) _
  have HC := (show Hid _ from qCheck_any n a la ca SA FA b lb cb SB FB p m cm f _ hla hlb (hra.below hb0) (hrb.below hb0) (hrp.below hb0))
  have HB0 := (show Hid _ from hb0)
  have HK0 : Hid (LB ((w.alloc (.cells #[.int .i64 n, .slice a la ca, .slice b lb cb] 24)).alloc (.cells #[.slice p m cm] 31)) w.heap.size n a la ca b lb cb) := (LB.new w n a la ca b lb cb).step ((Below.refl _ _).alloc (Nat.le_refl _) _)
  have HC0 : Hid (((w.alloc (.cells #[.int .i64 n, .slice a la ca, .slice b lb cb] 24)).alloc (.cells #[.slice p m cm] 31)).cell? ⟨w.heap.size + 1, 0, none⟩ = some (.slice p m cm)) := by simp [Hid]
  have HRA : Hid (RR w a la SA FA) := hra
  have HRB : Hid (RR w b lb SB FB) := hrb
  have HRP : Hid (Row w p m f) := hrp
  clear hra hrb hrp hb0
  go_enter Try.func7, Try.ntmps7
  go_wp2_with fail
  refine Calls.mono HC.out ?_
  rintro e w1 ⟨⟨c, rfl, hc⟩, hb1⟩
  have HK1 : Hid (LB w1 w.heap.size n a la ca b lb cb) := HK0.out.step hb1
  have HC1 : Hid (w1.cell? ⟨w.heap.size + 1, 0, none⟩ = some (.slice p m cm)) := cell_step hb1 HC0.out
  have HB1 : Hid (Below w.heap.size w w1) := Below.then HB0.out hb1
  have HCK : Hid (QCk n la SA FA lb SB FB m f c) := hc
  clear hc hb1 HC HB0 HK0 HC0
  by_cases h0 : c = 0
  · subst h0
    obtain ⟨hlk, hmn, hri⟩ := HCK.out.good
    subst hmn
    obtain ⟨q, hq, h1, h40, rfl, rfl, hsa, hsb, hga, hgb, _⟩ := hlk.good
    obtain rfl : m = lb := by omega
    obtain ⟨bA, oA, rfl, hta, hia⟩ := HRA.out.tb h1 hsa hga
    obtain ⟨bB, oB, rfl, htb, hib⟩ := HRB.out.tb h1 hsb hgb
    obtain ⟨bp, op, rfl, hcc⟩ := (HRP.out.below HB1.out).at (show 0 < m by omega)
    have hnn : ∀ i, i < m → w1.cell? ⟨bp, op + i, none⟩ = some (.int .i64 (natF f i : Nat)) := fun i hi => by
      have hp : 0 ≤ f i ∧ f i < bgI f i + 1 := by simpa [pnt] using hri i hi
      rw [hcc i hi, show ((natF f i : Nat) : Int) = f i from Int.toNat_of_nonneg hp.1]
    have HQ := (show Hid _ from congruent1_any m (w.heap.size + 1) w.heap.size bA oA ca bB oB cb bp op cm _ _ (nat2 FA) (nat2 FB) (natF f) w1 h40 hia hib HC1.out HK1.out (Tb.step hta HB1.out) (Tb.step htb HB1.out) hnn)
    have k0 := HK1.out.1
    clear hlk hri hq hsa hsb hga hgb hta htb hia hib HRA HRB HRP hcc hnn HK1 HC1
    go_wp2_with fail
    refine (three_any m 24 _ _ _ h40 ent_congruent1 HQ.out).mono ?_
    rintro e w2 ⟨⟨v, l, ok, rfl, h3, _⟩, hb2⟩
    have HB2 : Hid (Below w.heap.size w w2) := Below.then HB1.out hb2
    have HT : Hid ((!ok) = true ↔ Con m (nat2 FA) (nat2 FB) (natF f)) := torn_con h3
    clear h3 hb2 HQ HB1 k0
    go_wp2_with fail
    go_ret2
    exact ⟨⟨_, _, rfl, HCK.out, .inr ⟨rfl, HT.out⟩⟩, HB2.out⟩
  · have hne : (c != 0) = true := by simp [h0]
    clear HRA HRB HRP HK1 HC1
    go_wp2_with fail
    go_ret2
    exact ⟨⟨_, _, rfl, HCK.out, .inl ⟨h0, rfl⟩⟩, HB1.out⟩
end Go.Proofs.Ytappekjkcgmheab
