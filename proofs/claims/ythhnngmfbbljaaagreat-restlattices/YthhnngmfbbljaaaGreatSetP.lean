/-
  What ideal.upTo and ideal.Set answer. Conditions: of Set none but that slices read as slices of rows.
-/
import Derived.Test.YthhnngmfbbljaaaGreatIrr
namespace Go.Proofs.YthhnngmfbbljaaaGreat
set_option maxRecDepth 100000
open Go.RowKit

/-- The set of those of a list, by their places, that are x or below it. -/
def psB (m : Nat → Nat → Nat) (p : List Nat) (x k : Nat) : Nat := setBy (fun i => leB m (nth p i) x) k
theorem nth_filt_lt {P : Nat → Bool} {n k : Nat} (hk : k < (filt P n).length) : nth (filt P n) k < n ∧ P (nth (filt P n) k) = true := by
  have : nth (filt P n) k ∈ filt P n := by
    unfold nth; rw [List.getD_eq_getElem?_getD, List.getElem?_eq_getElem hk]; exact List.getElem_mem hk
  exact (filt_mem P n _).1 this

set_option maxHeartbeats 2000000 in
theorem upToL_any (n b1 o1 ca : Nat) (b2 : Option Addr) (lb cb : Nat) (R1 : Nat → Nat × Nat × Nat) (m : Nat → Nat → Nat) (p : List Nat) (pa : Option Addr) (pc x : Nat) (w : World) (_h40 : n ≤ 40) (hp10 : p.length ≤ 10) (hpn : ∀ k, k < p.length → nth p k < n) (hx : x < n) (ht1 : Tb w b1 o1 n R1 m) (hr : Row w pa p.length (fun k => (nth p k : Nat))) :
    Calls Tryz.prog 49 #[.agg #[.int .i64 (n : Int), .slice (some ⟨b1, o1, none⟩) n ca, .slice b2 lb cb], .slice pa p.length pc, .int .i64 (x : Nat)] w fun e w' => e = .returned (.int .i64 (psB m p x p.length : Nat)) ∧ Below w.heap.size w w' := by
  obtain ⟨W, HWE⟩ : ∃ W, Hid (W = w.alloc (.cells #[.int .i64 (n : Int), .slice (some ⟨b1, o1, none⟩) n ca, .slice b2 lb cb] 27)) := ⟨_, rfl⟩
  have B1 : Below w.heap.size w W := by rw [HWE.out]; exact (Below.refl _ _).alloc (Nat.le_refl _) _
  have L0 : LB W w.heap.size (n : Int) (some ⟨b1, o1, none⟩) n ca b2 lb cb := by rw [HWE.out]; exact LB.new w _ _ _ _ _ _ _
  have HT1 : Hid (∀ wx, Below W.heap.size W wx → Tb wx b1 o1 n R1 m) := fun wx h => (ht1.step B1).step h
  have HL : Hid (∀ wx, Below W.heap.size W wx → LB wx w.heap.size (n : Int) (some ⟨b1, o1, none⟩) n ca b2 lb cb) := fun wx h => L0.step h
  obtain ⟨q, HQ⟩ : ∃ q, Hid (q = p.length) := ⟨_, rfl⟩
  have HR : Hid (∀ wx, Below W.heap.size W wx → Row wx pa q (fun k => (nth p k : Nat))) := fun wx h => by rw [HQ.out]; exact (hr.below B1).below h
  have HPN : Hid (∀ k, k < q → nth p k < n) := by rw [HQ.out]; exact hpn
  have hq10 : q ≤ 10 := by rw [HQ.out]; exact hp10
  have HB0 : Hid (Below w.heap.size w W) := B1
  rw [← HQ.out]
  clear ht1 hr B1 L0 hpn hp10 HQ
  go_enter Tryz.func49, Tryz.ntmps49
  go_wp2_with fail
  rw [← HWE.out]
  go_wp2_with fail
  clear HWE
  go_loopw [7, 12] (fun v i wx => ∃ k : Nat, k ≤ q ∧ i = .int .i64 k ∧ v = .int .i64 (psB m p x k : Nat) ∧ Hid (Below W.heap.size W wx)) (fun _ i _ => q - (intOf i).toNat)
  case atStart => exact ⟨0, Nat.zero_le _, rfl, rfl, Below.refl _ _⟩
  case round =>
    obtain ⟨k, hk, rfl, rfl, HW⟩ := hrel
    by_cases hlt : k < q
    · obtain ⟨b, off, rfl, hc⟩ := HR.out _ HW.out k hlt
      obtain ⟨l0, l1, l2⟩ := HL.out _ HW.out
      have hpk := HPN.out k hlt
      have i1 : (k : Int) < (q : Int) := by omega
      rcases hb : leB m (nth p k) x with _ | _
      · have HE : Hid (psB m p x (k + 1) = psB m p x k) := setBy_no hb
        go_wp2_with fail
        refine (isUpTo_any n b1 o1 ca b2 lb cb R1 m (nth p k) x _ false hb (HT1.out _ HW.out) hpk hx).mono ?_
        rintro e w2 ⟨rfl, hb2⟩
        have HW2 : Hid (Below W.heap.size W w2) := Below.then HW.out hb2
        clear hb2 HW l0 l1 l2 hc
        go_wp2_with fail
        go_roundw
        case rel => exact ⟨k + 1, by omega, by go_num, by rw [HE.out], HW2⟩
        case measure => simp [intOf]; omega
      · have HE : Hid (psB m p x (k + 1) = psB m p x k + pw k) := setBy_yes hb
        have hlk : psB m p x k < pw k := setBy_lt _ k
        have hp2 : pw k ≤ 1024 := pw_le k (by omega)
        have HV : Hid (bits .or .i64 ((psB m p x k : Nat) : Int) (wrap64 (2 ^ k)) = ((psB m p x k + pw k : Nat) : Int)) := by
          rw [wrap_pow k (by omega)]
          refine (i64_or _ _ (by omega) (by omega)).trans ?_
          rw [or_pw_add hlk]
        go_wp2_with fail
        refine (isUpTo_any n b1 o1 ca b2 lb cb R1 m (nth p k) x _ true hb (HT1.out _ HW.out) hpk hx).mono ?_
        rintro e w2 ⟨rfl, hb2⟩
        have HW2 : Hid (Below W.heap.size W w2) := Below.then HW.out hb2
        clear hb2 HW l0 l1 l2 hc
        go_wp2_with fail
        go_roundw
        case rel => exact ⟨k + 1, by omega, by go_num, by rw [HE.out, ← HV.out], HW2⟩
        case measure => simp [intOf]; omega
    · obtain rfl : k = q := by omega
      go_wp2_with fail
      go_ret
      exact ⟨rfl, Below.then HB0.out HW.out⟩

/-- What the errno must be for a lattice of k such elements and a number. -/
def ICk (n x : Int) (k : Nat) (c0 c : Int) : Prop := (c0 ≠ 0 ∧ c = c0) ∨ (c0 = 0 ∧ ((c = 3 ∧ ¬ (0 ≤ x ∧ x < n)) ∨ ((0 ≤ x ∧ x < n) ∧ ((c = 2 ∧ 10 < k) ∨ (c = 0 ∧ k ≤ 10)))))
theorem ICk.one {n x : Int} {k : Nat} {c0 c d : Int} (h : ICk n x k c0 c) (h' : ICk n x k c0 d) : c = d := by
  rcases h with ⟨h0, rfl⟩ | ⟨h0, ⟨rfl, h⟩ | ⟨h1, ⟨rfl, h⟩ | ⟨rfl, h⟩⟩⟩ <;> rcases h' with ⟨h0', rfl⟩ | ⟨h0', ⟨rfl, h'⟩ | ⟨h1', ⟨rfl, h'⟩ | ⟨rfl, h'⟩⟩⟩ <;> first | rfl | (exfalso; omega) | (exfalso; exact h (by assumption)) | (exfalso; exact h' (by assumption)) | (exfalso; contradiction)
def SetPost (n : Int) (la : Nat) (SA : Nat → Option Addr × Nat × Nat) (FA : Nat → Nat → Int) (lb : Nat) (SB : Nat → Option Addr × Nat × Nat) (FB : Nat → Nat → Int) (x : Int) (e : Ending) : Prop :=
  ∃ c0 c v : Int, LCk n la SA FA lb SB FB c0 ∧ ICk n x (irrs (nat2 FA) (nat2 FB) n.toNat).length c0 c ∧ e = .returned (.tuple #[.int .i64 v, .int .i64 c]) ∧ ((c ≠ 0 ∧ v = 0) ∨ (c = 0 ∧ v = ((psB (nat2 FA) (irrs (nat2 FA) (nat2 FB) n.toNat) x.toNat (irrs (nat2 FA) (nat2 FB) n.toNat).length : Nat) : Int)))
theorem isCount_as (n : Int) (w : World) (v : Bool) (h : cnt n = v) : Calls Tryz.prog 48 #[.int .i64 n] w fun e w' => e = .returned (.bool v) ∧ w = w' := by
  rw [← h]; exact isCount_any n w

set_option maxHeartbeats 4000000 in
theorem setL_any (n : Int) (a : Option Addr) (la ca : Nat) (SA : Nat → Option Addr × Nat × Nat) (FA : Nat → Nat → Int) (b : Option Addr) (lb cb : Nat) (SB : Nat → Option Addr × Nat × Nat) (FB : Nat → Nat → Int) (x : Int) (w : World) (hla : la ≤ maxLen) (hlb : lb ≤ maxLen) (hra : RR w a la SA FA) (hrb : RR w b lb SB FB) :
    Calls Tryz.prog 19 #[.agg #[.int .i64 n, .slice a la ca, .slice b lb cb], .int .i64 x] w fun e w' => SetPost n la SA FA lb SB FB x e ∧ Below w.heap.size w w' := by
  have B1 : Below w.heap.size w (w.alloc (.cells #[.int .i64 n, .slice a la ca, .slice b lb cb] 27)) := (Below.refl _ _).alloc (Nat.le_refl _) _
  have L0 := LB.new w n a la ca b lb cb
  have HB1 : Hid (Below w.heap.size w (w.alloc (.cells #[.int .i64 n, .slice a la ca, .slice b lb cb] 27))) := B1
  have HRA : Hid (RR _ a la SA FA) := hra.below HB1.out
  have HRB : Hid (RR _ b lb SB FB) := hrb.below HB1.out
  clear hra hrb B1
  have l0 := L0.1
  have l1 := L0.2.1
  have l2 := L0.2.2
  go_enter Tryz.func19, Tryz.ntmps19
  go_wp2_with fail
  refine (irr_any n a la ca SA FA b lb cb SB FB _ hla hlb HRA.out HRB.out).mono ?_
  rintro e w1 ⟨⟨c, v, hc, rfl, hv⟩, hb1⟩
  have HB2 : Hid (Below w.heap.size w w1) := Below.then HB1.out hb1
  have L1 := L0.step hb1
  have k0 := L1.1
  have k1 := L1.2.1
  have k2 := L1.2.2
  have HC : Hid (LCk n la SA FA lb SB FB c) := hc
  rcases hv with ⟨h0, rfl⟩ | ⟨rfl, pa, pc, rfl, hpr⟩
  · have hne : (c != 0) = true := by simpa using h0
    have HO : Hid (ICk n x (irrs (nat2 FA) (nat2 FB) n.toNat).length c c) := .inl ⟨h0, rfl⟩
    clear hc hb1 HB1 L0 l0 l1 l2
    go_wp2_with fail
    go_ret2
    exact ⟨⟨c, c, 0, HC.out, HO.out, rfl, .inl ⟨h0, rfl⟩⟩, HB2.out⟩
  · obtain ⟨p, hp⟩ : ∃ p, pnt x n = p := ⟨_, rfl⟩
    rcases p with _ | _
    · have HO : Hid (ICk n x (irrs (nat2 FA) (nat2 FB) n.toNat).length 0 3) := .inr ⟨rfl, .inl ⟨rfl, by simp [pnt] at hp; omega⟩⟩
      clear hc hb1 HB1 L0 l0 l1 l2 hpr
      go_wp2_with (go_at_call 47; refine (isPoint_as _ _ _ _ hp).mono ?_; rintro e w' ⟨rfl, hww⟩; subst hww)
      go_ret2
      exact ⟨⟨0, 3, 0, HC.out, HO.out, rfl, .inl ⟨by decide, rfl⟩⟩, HB2.out⟩
    · have hx : 0 ≤ x ∧ x < n := by simp [pnt] at hp; exact hp
      obtain ⟨q, HQ⟩ : ∃ q, Hid (q = (irrs (nat2 FA) (nat2 FB) n.toNat).length) := ⟨_, rfl⟩
      by_cases hq : q ≤ 10
      · have hcn : cnt (q : Int) = true := by simp [cnt]; omega
        have HO : Hid (ICk n x (irrs (nat2 FA) (nat2 FB) n.toNat).length 0 0) := .inr ⟨rfl, .inr ⟨hx, .inr ⟨rfl, by rw [← HQ.out]; exact hq⟩⟩⟩
        obtain ⟨s, rfl, h1, h40, e1, e2, hs1, hs2, hg1, hg2, hlat⟩ := hc.good
        obtain rfl := e1.symm
        obtain rfl := e2.symm
        obtain ⟨b1, o1, rfl, ht1, _⟩ := (HRA.out.below hb1).tb h1 hs1 hg1
        obtain ⟨y, rfl⟩ := Int.eq_ofNat_of_zero_le hx.1
        have hys : y < s := by omega
        have HCALL : Hid (∀ W, Below w1.heap.size w1 W → Calls Tryz.prog 49 #[.agg #[.int .i64 (s : Int), .slice (some ⟨b1, o1, none⟩) s ca, .slice b s cb], .slice pa (irrs (nat2 FA) (nat2 FB) (s : Int).toNat).length pc, .int .i64 (y : Nat)] W fun e w' => e = .returned (.int .i64 (psB (nat2 FA) (irrs (nat2 FA) (nat2 FB) (s : Int).toNat) y (irrs (nat2 FA) (nat2 FB) (s : Int).toNat).length : Nat)) ∧ Below W.heap.size W w') := fun W hW =>
          upToL_any s b1 o1 ca b s cb _ (nat2 FA) (irrs (nat2 FA) (nat2 FB) (s : Int).toNat) pa pc y W h40 (by rw [← HQ.out]; exact hq) (fun k hk => (nth_filt_lt hk).1) hys (ht1.step hW) (hpr.below hW)
        rw [← HQ.out]
        rw [← HQ.out] at HCALL
        clear hc hb1 HB1 L0 l0 l1 l2 hpr hs1 hs2 hg1 hg2 hlat ht1 hx
        go_wp2_with (first
          | (go_at_call 47; refine (isPoint_as _ _ _ _ hp).mono ?_; rintro e w' ⟨rfl, hww⟩; subst hww)
          | (go_at_call 48; refine (isCount_as _ _ _ hcn).mono ?_; rintro e w' ⟨rfl, hww⟩; subst hww))
        refine (HCALL.out _ (Below.refl _ _)).mono ?_
        rintro e w3 ⟨rfl, hb3⟩
        have HB3 : Hid (Below w.heap.size w w3) := Below.then HB2.out hb3
        clear hb3 HB2 HCALL
        go_wp2_with fail
        go_ret2
        exact ⟨⟨0, 0, _, HC.out, HO.out, rfl, .inr ⟨rfl, by rw [← HQ.out]; rfl⟩⟩, HB3.out⟩
      · have hcn : cnt (q : Int) = false := by simp [cnt]; omega
        have HO : Hid (ICk n x (irrs (nat2 FA) (nat2 FB) n.toNat).length 0 2) := .inr ⟨rfl, .inr ⟨hx, .inl ⟨rfl, by rw [← HQ.out]; omega⟩⟩⟩
        rw [← HQ.out]
        clear hc hb1 HB1 L0 l0 l1 l2 hpr
        go_wp2_with (first
          | (go_at_call 47; refine (isPoint_as _ _ _ _ hp).mono ?_; rintro e w' ⟨rfl, hww⟩; subst hww)
          | (go_at_call 48; refine (isCount_as _ _ _ hcn).mono ?_; rintro e w' ⟨rfl, hww⟩; subst hww))
        go_ret2
        exact ⟨⟨0, 2, 0, HC.out, HO.out, rfl, .inl ⟨by decide, rfl⟩⟩, HB2.out⟩
end Go.Proofs.YthhnngmfbbljaaaGreat
