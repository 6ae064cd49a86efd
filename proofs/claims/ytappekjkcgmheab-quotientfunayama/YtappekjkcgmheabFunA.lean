/-
  What lattice.Distributive and the reference's IsDistributive answer. No condition but that slices read as slices of rows.
  The congruence of single elements; how many congruences that are apart find room in a list of all; sorted lists have none twice. Plain facts on numbers.
-/
import Derived.Deep.RegionHeld3
import Derived.Test.YtappekjkcgmheabTogM
import Derived.Test.YtappekjkcgmheabAlways
import Derived.BigQuiet
import Derived.Test.YtappekjkcgmheabSrtP
import Derived.Test.YtappekjkcgmheabSrtL
import Derived.Test.YtappekjkcgmheabAllM
namespace Go.Proofs.Ytappekjkcgmheab
set_option maxRecDepth 100000
open Go.RowKit

theorem ent_dis : Ent 26 := fun _ _ => rfl
set_option maxHeartbeats 4000000 in
theorem dis1_any (n B b off cap b' off' cap' : Nat) (R R' : Nat → Nat × Nat × Nat) (m j : Nat → Nat → Nat) (w : World) (hm : Inn n m) (hj : Inn n j)
    (hc : w.cell? ⟨B, 1, none⟩ = some (.slice (some ⟨b, off, none⟩) n cap)) (hd : w.cell? ⟨B, 2, none⟩ = some (.slice (some ⟨b', off', none⟩) n cap')) (ht : Tb w b off n R m) (ho : Tb w b' off' n R' j) :
    Clo n 26 #[.pointer (some ⟨B, 0, none⟩)] (disB m j) w := fun x y z hx hy hz W hW => by
  show Calls Try.prog 26 #[.int .i64 (x : Nat), .int .i64 (y : Nat), .int .i64 (z : Nat), .pointer (some ⟨B, 0, none⟩)] W _
  have cT := cell_step hW hc
  have cO := cell_step hW hd
  have HT := ht.step hW
  have HO := ho.step hW
  have hxy := hm x y hx hy
  have hxz := hm x z hx hz
  have hyz := hj y z hy hz
  have r1 := (HT x hx).1
  have r2 := (HO y hy).1
  have r3 := (HO _ hxy).1
  have e1 := (HO y hy).2 z hz
  have e2 := (HT x hx).2 _ hyz
  have e3 := (HT x hx).2 y hy
  have e4 := (HT x hx).2 z hz
  have e5 := (HO _ hxy).2 _ hxz
  have ix : (x : Int) < (n : Int) := by omega
  have iy : (y : Int) < (n : Int) := by omega
  have iz : (z : Int) < (n : Int) := by omega
  have i4 : ((m x y : Nat) : Int) < (n : Int) := by omega
  have i5 : ((m x z : Nat) : Int) < (n : Int) := by omega
  have i6 : ((j y z : Nat) : Int) < (n : Int) := by omega
  clear HT HO ht ho hc hd hm hj hW
  have hKK : Hid (Below W.heap.size W W) := Below.refl _ _
  unfold disB
  obtain ⟨v0, hv0⟩ : ∃ v, (m x (j y z) == j (m x y) (m x z)) = v := ⟨_, rfl⟩
  rw [hv0]
  rw [← int_beq] at hv0
  rcases v0 with _ | _
  · go_enter Try.func26, Try.ntmps26
    go_wp2
    go_big_quiet (fail)
    go_wp2
    go_ret
    exact ⟨rfl, below_drewN hKK.out _⟩
  · go_enter Try.func26, Try.ntmps26
    go_wp2
    go_big_quiet (fail)
    go_wp2
    go_ret
    exact ⟨rfl, below_drewN hKK.out _⟩
set_option maxHeartbeats 2000000 in
theorem distr_any (n : Int) (a : Option Addr) (la ca : Nat) (SA : Nat → Option Addr × Nat × Nat) (FA : Nat → Nat → Int) (b : Option Addr) (lb cb : Nat) (SB : Nat → Option Addr × Nat × Nat) (FB : Nat → Nat → Int) (w : World) (hla : la ≤ maxLen) (hlb : lb ≤ maxLen) (hra : RR w a la SA FA) (hrb : RR w b lb SB FB) :
    Calls Try.prog 11 #[.agg #[.int .i64 n, .slice a la ca, .slice b lb cb]] w fun e w' => LawPost disB n la SA FA lb SB FB e ∧ Below w.heap.size w w' := by
  have B1 : Below w.heap.size w (w.alloc (.cells #[.int .i64 n, .slice a la ca, .slice b lb cb] 24)) := (Below.refl _ _).alloc (Nat.le_refl _) _
  have L0 := LB.new w n a la ca b lb cb
  have HRA : Hid (RR (w.alloc (.cells #[.int .i64 n, .slice a la ca, .slice b lb cb] 24)) a la SA FA) := hra.below B1
  have HRB : Hid (RR (w.alloc (.cells #[.int .i64 n, .slice a la ca, .slice b lb cb] 24)) b lb SB FB) := hrb.below B1
  have HB1 : Hid (Below w.heap.size w (w.alloc (.cells #[.int .i64 n, .slice a la ca, .slice b lb cb] 24))) := B1
  clear hra hrb B1
  go_enter Try.func11, Try.ntmps11
  go_wp2_with fail
  refine (lCheck_any n a la ca SA FA b lb cb SB FB _ hla hlb HRA.out HRB.out).mono ?_
  rintro e w1 ⟨⟨c, rfl, hc⟩, hb1⟩
  have HB2 : Hid (Below w.heap.size w w1) := Below.then HB1.out hb1
  have L1 := L0.step hb1
  have l0 := L1.1
  have l1 := L1.2.1
  have l2 := L1.2.2
  have HC : Hid (LCk n la SA FA lb SB FB c) := hc
  by_cases h0 : c = 0
  · subst h0
    obtain ⟨q, rfl, h1, h40, e1, e2, hs1, hs2, hg1, hg2, hlat⟩ := hc.good
    obtain rfl := e1.symm
    obtain rfl := e2.symm
    obtain ⟨b1, o1, rfl, ht1, _⟩ := (HRA.out.below hb1).tb h1 hs1 hg1
    obtain ⟨b2, o2, rfl, ht2, _⟩ := (HRB.out.below hb1).tb h1 hs2 hg2
    have HQ := (show Hid _ from dis1_any q w.heap.size b1 o1 ca b2 o2 cb _ _ (nat2 FA) (nat2 FB) w1 hlat.im hlat.ij l1 l2 ht1 ht2)
    clear hs1 hs2 hg1 hg2 hlat ht1 ht2 hb1 HB1 hc L0
    go_wp2_with fail
    refine (always_any q 26 _ _ _ h40 ent_dis HQ.out).mono ?_
    rintro e w2 ⟨⟨v, rfl, hv⟩, hb2⟩
    have HB3 : Hid (Below w.heap.size w w2) := Below.then HB2.out hb2
    have HV : Hid (v = true ↔ All3 (q : Int).toNat (disB (nat2 FA) (nat2 FB))) := hv
    clear hb2 hv HB2
    go_wp2_with fail
    go_ret2
    exact ⟨⟨0, v, HC.out, rfl, .inr ⟨rfl, HV.out⟩⟩, HB3.out⟩
  · have hne : (c != 0) = true := by simpa using h0
    clear hb1 HB1 hc L0
    go_wp2_with fail
    go_ret2
    exact ⟨⟨c, false, HC.out, rfl, .inl ⟨h0, rfl⟩⟩, HB2.out⟩
end Go.Proofs.Ytappekjkcgmheab
namespace Go.Proofs.Ytappekjkcgmheab
open Go.RowKit
set_option maxRecDepth 100000

theorem cls_id (k : Nat) : clsN (fun x => x) k = k := by
  induction k with
  | zero => rfl
  | succ k ih =>
    have hf : frst (fun x => x) k = true := frst_iff.2 fun i hi e => by have e2 : i = k := e; omega
    have h : clsN (fun x => x) (k + 1) = clsN (fun x => x) k + 1 := cntB_yes hf
    rw [h, ih]
theorem nbr_id (k : Nat) : nbr (fun x => x) k = k := by
  have hf : frst (fun x => x) k = true := frst_iff.2 fun i hi e => by have e2 : i = k := e; omega
  rw [nbr_new hf, cls_id]
theorem con_id (q : Nat) (m j : Nat → Nat → Nat) : Con q m j (fun x => x) := fun x y z _ _ _ e => by
  obtain rfl : x = y := e
  exact ⟨rfl, rfl⟩
theorem php : ∀ {k n : Nat} {f : Nat → Nat}, (∀ a, a < n → f a < k) → (∀ a b, a < b → b < n → f a ≠ f b) → n ≤ k
  | 0, n, f, h, _ => by
    rcases Nat.eq_zero_or_pos n with h0 | h0
    · omega
    · exact absurd (h 0 h0) (Nat.not_lt_zero _)
  | k + 1, n, f, h, hd => by
    by_cases hk : ∃ a, a < n ∧ f a = k
    · obtain ⟨a, ha, e⟩ := hk
      have ih := php (k := k) (n := n - 1) (f := fun b => if b < a then f b else f (b + 1)) (fun b hb => by
        by_cases hba : b < a
        · simp only [hba, if_true]
          have h1 := h b (by omega)
          have h2 := hd b a hba ha
          omega
        · simp only [hba, if_false]
          have h1 := h (b + 1) (by omega)
          have h2 := hd a (b + 1) (by omega) (by omega)
          omega) (fun b c hbc hc => by
        by_cases hba : b < a
        · by_cases hca : c < a
          · simp only [hba, hca, if_true]; exact hd b c hbc (by omega)
          · simp only [hba, hca, if_true, if_false]; exact hd b (c + 1) (by omega) (by omega)
        · have hca : ¬ c < a := by omega
          simp only [hba, hca, if_false]; exact hd (b + 1) (c + 1) (by omega) (by omega))
      omega
    · exact Nat.le_succ_of_le (php (k := k) (n := n) (f := f) (fun a ha => by
        have h1 := h a ha
        have h2 : f a ≠ k := fun e => hk ⟨a, ha, e⟩
        omega) hd)
/-- As many that are apart find room in what has all. -/
theorem few_of {q : Nat} {m j : Nat → Nat → Nat} {n k : Nat} {G H : Nat → Nat → Nat} (hc : ∀ a, a < n → Cg q m j (G a)) (hd : ∀ a b, a < b → b < n → ¬ ∀ i, i < q → G a i = G b i) (hall : ∀ d, Con q m j d → ∃ a, a < k ∧ ∀ i, i < q → H a i = nbr d i) : n ≤ k := by
  have key : ∀ a, ∃ b, a < n → b < k ∧ ∀ i, i < q → H b i = G a i := fun a => by
    by_cases ha : a < n
    · obtain ⟨c, h1, h2⟩ := hc a ha
      obtain ⟨b, hb, e⟩ := hall c h1
      exact ⟨b, fun _ => ⟨hb, fun i hi => by rw [e i hi, h2 i hi]⟩⟩
    · exact ⟨0, fun h => absurd h ha⟩
  obtain ⟨f, hf⟩ := Classical.axiomOfChoice key
  exact php (f := f) (fun a ha => (hf a ha).1) (fun a b hab hb e => hd a b hab hb (fun i hi => by rw [← (hf a (by omega)).2 i hi, ← (hf b hb).2 i hi, e]))
theorem srt_diff {q n : Nat} {G : Nat → Nat → Nat} (hs : ∀ a b, a < b → b < n → cmpF (G a) (G b) q 0 < 0) : ∀ a b, a < b → b < n → ¬ ∀ i, i < q → G a i = G b i := fun a b hab hb e =>
  cmp_irr (G b) q (cmp_congr e (fun _ _ => rfl) (hs a b hab hb))
end Go.Proofs.Ytappekjkcgmheab
