/-
  What the reference's LeastOf and OthersOf answer of a lattice. Conditions: at most forty elements.
-/
import Derived.Test.YtcngjmbiinifnaaDoorRefDia
import Derived.Test.YtcngjmbiinifnaaDoorTruth
import Derived.Test.YtcngjmbiinifnaaDoorOth
namespace Go.Proofs.YtcngjmbiinifnaaDoor
open Go.RowKit

/-- The reference's search of the least and of the greatest element. -/
def lsA (m : Nat → Nat → Nat) : Nat → Nat
  | 0 => 0
  | k + 1 => if (m k (lsA m k) == k) = true then k else lsA m k
def lsB (m : Nat → Nat → Nat) : Nat → Nat
  | 0 => 0
  | k + 1 => if (m (lsB m k) k == lsB m k) = true then k else lsB m k
theorem lsA_lt {n : Nat} (m : Nat → Nat → Nat) (h1 : 1 ≤ n) : ∀ k, k ≤ n → lsA m k < n
  | 0, _ => by show 0 < n; omega
  | k + 1, hk => by
    have := lsA_lt m h1 k (by omega)
    unfold lsA; split <;> omega
theorem lsB_lt {n : Nat} (m : Nat → Nat → Nat) (h1 : 1 ≤ n) : ∀ k, k ≤ n → lsB m k < n
  | 0, _ => by show 0 < n; omega
  | k + 1, hk => by
    have := lsB_lt m h1 k (by omega)
    unfold lsB; split <;> omega
/-- All come together below all. -/
theorem en_low {n : Nat} {m j : Nat → Nat → Nat} (hL : Lat n m j) (h1 : 1 ≤ n) : ∀ k, k ≤ n → ∀ x, x < k → m (en m k) x = en m k
  | 0, _, x, hx => absurd hx (Nat.not_lt_zero _)
  | k + 1, hk, x, hx => by
    have he := en_lt h1 hL.im k (by omega)
    have hk' : k < n := by omega
    have hx' : x < n := by omega
    show m (m (en m k) k) x = m (en m k) k
    by_cases e : x = k
    · subst e
      rw [← (hL.lm.at he hx' hx').2.2.1, (hL.lm.at hx' hx' hx').1]
    · have ih := en_low hL h1 k (by omega) x (by omega)
      rw [← (hL.lm.at he hk' hx').2.2.1, (hL.lm.at hk' hx' hx').2.1, (hL.lm.at he hx' hk').2.2.1, ih]
theorem low_all {n : Nat} {m j : Nat → Nat → Nat} (hL : Lat n m j) (h1 : 1 ≤ n) {x : Nat} (hx : x < n) : m (en m n) x = en m n := en_low hL h1 n (Nat.le_refl _) x hx
theorem lsA_is {n : Nat} {m j : Nat → Nat → Nat} (hL : Lat n m j) (h1 : 1 ≤ n) : lsA m n = en m n := by
  have hb := en_lt h1 hL.im n (Nat.le_refl _)
  have key : ∀ k, k ≤ n → en m n < k → lsA m k = en m n := fun k => by
    induction k with
    | zero => intro _ h; exact absurd h (Nat.not_lt_zero _)
    | succ k ih =>
      intro hk h
      have hA := lsA_lt m h1 k (by omega)
      have hkn : k < n := by omega
      unfold lsA
      by_cases e : en m n = k
      · have : m k (lsA m k) = k := by have h := low_all hL h1 hA; rw [e] at h; exact h
        rw [if_pos (by rw [this]; simp), e]
      · rw [ih (by omega) (by omega)]
        have : m k (en m n) = en m n := by rw [(hL.lm.at hkn hb hb).2.1]; exact low_all hL h1 hkn
        rw [if_neg (by rw [this]; simpa using e)]
  exact key n (Nat.le_refl _) hb
theorem lsB_is {n : Nat} {m j : Nat → Nat → Nat} (hL : Lat n m j) (h1 : 1 ≤ n) : lsB m n = en j n := by
  have ht := en_lt h1 hL.ij n (Nat.le_refl _)
  have up : ∀ x, x < n → m x (en j n) = x := fun x hx => by
    have h := low_all hL.turn h1 hx
    have h2 := (hL.lm.at hx ht hx).2.2.2
    rw [(hL.lj.at hx ht hx).2.1, h] at h2
    exact h2
  have key : ∀ k, k ≤ n → en j n < k → lsB m k = en j n := fun k => by
    induction k with
    | zero => intro _ h; exact absurd h (Nat.not_lt_zero _)
    | succ k ih =>
      intro hk h
      have hB := lsB_lt m h1 k (by omega)
      have hkn : k < n := by omega
      unfold lsB
      by_cases e : en j n = k
      · have : m (lsB m k) k = lsB m k := by have h := up _ hB; rw [e] at h; exact h
        rw [if_pos (by rw [this]; simp), e]
      · rw [ih (by omega) (by omega)]
        have : m (en j n) k = k := by rw [(hL.lm.at ht hkn ht).2.1]; exact up k hkn
        rw [if_neg (by rw [this]; simpa using fun h => e h.symm)]
  exact key n (Nat.le_refl _) ht

set_option maxHeartbeats 2000000 in
theorem leastOf_any (q b off cap : Nat) (b' : Option Addr) (lb cb : Nat) (R : Nat → Nat × Nat × Nat) (m : Nat → Nat → Nat) (w : World) (h1 : 1 ≤ q) (h40 : q ≤ 40) (ht : Tb w b off q R m) :
    Calls Tryd.prog 37 #[.agg #[.int .i64 (q : Nat), .slice (some ⟨b, off, none⟩) q cap, .slice b' lb cb]] w fun e w' => e = .returned (.tuple #[.int .i64 (lsA m q : Nat), .int .i64 (lsB m q : Nat)]) ∧ Below w.heap.size w w' := by
  have B1 : Below w.heap.size w (w.alloc (.cells #[.int .i64 (q : Nat), .slice (some ⟨b, off, none⟩) q cap, .slice b' lb cb] 24)) := (Below.refl _ _).alloc (Nat.le_refl _) _
  have HB1 : Hid (Below w.heap.size w (w.alloc (.cells #[.int .i64 (q : Nat), .slice (some ⟨b, off, none⟩) q cap, .slice b' lb cb] 24))) := B1
  have HL0 : Hid (LB (w.alloc (.cells #[.int .i64 (q : Nat), .slice (some ⟨b, off, none⟩) q cap, .slice b' lb cb] 24)) w.heap.size (q : Nat) (some ⟨b, off, none⟩) q cap b' lb cb) := LB.new w (q : Nat) (some ⟨b, off, none⟩) q cap b' lb cb
  have HT0 : Hid (Tb (w.alloc (.cells #[.int .i64 (q : Nat), .slice (some ⟨b, off, none⟩) q cap, .slice b' lb cb] 24)) b off q R m) := ht.step B1
  have HLA : Hid (∀ k, k ≤ q → lsA m k < q) := lsA_lt m h1
  have HLB : Hid (∀ k, k ≤ q → lsB m k < q) := lsB_lt m h1
  clear B1 ht
  go_enter Tryd.func37, Tryd.ntmps37
  go_wp2_with fail
  generalize w.alloc (.cells #[.int .i64 (q : Nat), .slice (some ⟨b, off, none⟩) q cap, .slice b' lb cb] 24) = W at *
  go_loopw [4, 5, 6] (fun x y i wx => ∃ k : Nat, k ≤ q ∧ i = .int .i64 k ∧ x = .int .i64 (lsA m k : Nat) ∧ y = .int .i64 (lsB m k : Nat) ∧ Hid (Below W.heap.size W wx)) (fun _ _ i _ => q - (intOf i).toNat)
  case atStart => exact ⟨0, Nat.zero_le _, rfl, rfl, rfl, Below.refl _ _⟩
  case round =>
    obtain ⟨k, hk, rfl, rfl, rfl, HW⟩ := hrel
    have L1 := HL0.out.step HW.out
    have l0 := L1.1
    by_cases hlt : k < q
    · have l1 := L1.2.1
      have l2 := L1.2.2
      have hA := HLA.out k hk
      have hB := HLB.out k hk
      obtain ⟨v1, hv1⟩ : ∃ v, (m k (lsA m k) == k) = v := ⟨_, rfl⟩
      obtain ⟨v2, hv2⟩ : ∃ v, (m (lsB m k) k == lsB m k) = v := ⟨_, rfl⟩
      have HA : Hid (lsA m (k + 1) = if v1 = true then k else lsA m k) := by rw [← hv1]; rfl
      have HB : Hid (lsB m (k + 1) = if v2 = true then k else lsB m k) := by rw [← hv2]; rfl
      have HU1 := under_as q b off cap b' lb cb R m k (lsA m k) v1 wr hv1 (HT0.out.step HW.out) hlt hA
      rcases v1 with _ | _
      · have HN1 : Hid (lsA m (k + 1) = lsA m k) := by rw [HA.out]; rfl
        go_wp2_with fail
        refine HU1.mono ?_
        rintro e w2 ⟨rfl, hb2⟩
        have HW2 : Hid (Below W.heap.size W w2) := Below.then HW.out hb2
        have L2 := L1.step hb2
        have q0 := L2.1
        have q1 := L2.2.1
        have q2 := L2.2.2
        have HU2 := under_as q b off cap b' lb cb R m (lsB m k) k v2 w2 hv2 (HT0.out.step HW2.out) hB hlt
        clear hb2 HU1 l0 l1 l2 L1 HA hv1
        rcases v2 with _ | _
        · have HN2 : Hid (lsB m (k + 1) = lsB m k) := by rw [HB.out]; rfl
          go_wp2_with fail
          refine HU2.mono ?_
          rintro e w3 ⟨rfl, hb3⟩
          have HW3 : Hid (Below W.heap.size W w3) := Below.then HW2.out hb3
          clear hb3 HU2 q0 q1 q2 L2 HB hv2
          go_wp2_with fail
          go_roundw
          case rel => exact ⟨k + 1, by omega, by go_num, by rw [HN1.out], by rw [HN2.out], HW3.out⟩
          case measure => simp [intOf]; omega
        · have HN2 : Hid (lsB m (k + 1) = k) := by rw [HB.out]; rfl
          go_wp2_with fail
          refine HU2.mono ?_
          rintro e w3 ⟨rfl, hb3⟩
          have HW3 : Hid (Below W.heap.size W w3) := Below.then HW2.out hb3
          clear hb3 HU2 q0 q1 q2 L2 HB hv2
          go_wp2_with fail
          go_roundw
          case rel => exact ⟨k + 1, by omega, by go_num, by rw [HN1.out], by rw [HN2.out], HW3.out⟩
          case measure => simp [intOf]; omega
      · have HN1 : Hid (lsA m (k + 1) = k) := by rw [HA.out]; rfl
        go_wp2_with fail
        refine HU1.mono ?_
        rintro e w2 ⟨rfl, hb2⟩
        have HW2 : Hid (Below W.heap.size W w2) := Below.then HW.out hb2
        have L2 := L1.step hb2
        have q0 := L2.1
        have q1 := L2.2.1
        have q2 := L2.2.2
        have HU2 := under_as q b off cap b' lb cb R m (lsB m k) k v2 w2 hv2 (HT0.out.step HW2.out) hB hlt
        clear hb2 HU1 l0 l1 l2 L1 HA hv1
        rcases v2 with _ | _
        · have HN2 : Hid (lsB m (k + 1) = lsB m k) := by rw [HB.out]; rfl
          go_wp2_with fail
          refine HU2.mono ?_
          rintro e w3 ⟨rfl, hb3⟩
          have HW3 : Hid (Below W.heap.size W w3) := Below.then HW2.out hb3
          clear hb3 HU2 q0 q1 q2 L2 HB hv2
          go_wp2_with fail
          go_roundw
          case rel => exact ⟨k + 1, by omega, by go_num, by rw [HN1.out], by rw [HN2.out], HW3.out⟩
          case measure => simp [intOf]; omega
        · have HN2 : Hid (lsB m (k + 1) = k) := by rw [HB.out]; rfl
          go_wp2_with fail
          refine HU2.mono ?_
          rintro e w3 ⟨rfl, hb3⟩
          have HW3 : Hid (Below W.heap.size W w3) := Below.then HW2.out hb3
          clear hb3 HU2 q0 q1 q2 L2 HB hv2
          go_wp2_with fail
          go_roundw
          case rel => exact ⟨k + 1, by omega, by go_num, by rw [HN1.out], by rw [HN2.out], HW3.out⟩
          case measure => simp [intOf]; omega
    · obtain rfl : k = q := by omega
      go_wp2_with fail
      go_ret2
      exact ⟨rfl, Below.then HB1.out HW.out⟩

set_option maxHeartbeats 4000000 in
theorem othersOf_any (q b off cap b' off' cap' : Nat) (R R' : Nat → Nat × Nat × Nat) (m j : Nat → Nat → Nat) (x : Nat) (w : World) (h1 : 1 ≤ q) (h40 : q ≤ 40) (hx : x < q) (hL : Lat q m j) (ht : Tb w b off q R m) (ho : Tb w b' off' q R' j) :
    Calls Tryd.prog 15 #[.agg #[.int .i64 (q : Nat), .slice (some ⟨b, off, none⟩) q cap, .slice (some ⟨b', off', none⟩) q cap'], .int .i64 (x : Nat)] w fun e w' => (∃ v, e = .returned v ∧ NSl w' v (oths q m j x q)) ∧ Below w.heap.size w w' := by
  obtain ⟨i0, hi, hz0, hz1, hz2⟩ := info_parts Tryd.info3
  have B1 : Below w.heap.size w (w.alloc (.cells #[.int .i64 (q : Nat), .slice (some ⟨b, off, none⟩) q cap, .slice (some ⟨b', off', none⟩) q cap'] 24)) := (Below.refl _ _).alloc (Nat.le_refl _) _
  have HB1 : Hid (Below w.heap.size w (w.alloc (.cells #[.int .i64 (q : Nat), .slice (some ⟨b, off, none⟩) q cap, .slice (some ⟨b', off', none⟩) q cap'] 24))) := B1
  have L0 := LB.new w (q : Nat) (some ⟨b, off, none⟩) q cap (some ⟨b', off', none⟩) q cap'
  have T1 := ht.step B1
  have T2 := ho.step B1
  have l0 := L0.1
  have l1 := L0.2.1
  have l2 := L0.2.2
  have HTR : Hid (∀ k, othB q m j x k = (m x k == lsA m q && j x k == lsB m q)) := fun k => by unfold othB; rw [lsA_is hL h1, lsB_is hL h1]
  clear B1 ht ho hL
  go_enter Tryd.func15, Tryd.ntmps15
  go_wp2_with fail
  refine (leastOf_any q b off cap (some ⟨b', off', none⟩) q cap' R m _ h1 h40 T1).mono ?_
  rintro e w1 ⟨rfl, hb1⟩
  have HB2 : Hid (Below w.heap.size w w1) := Below.then HB1.out hb1
  have HL1 : Hid (LB w1 w.heap.size (q : Nat) (some ⟨b, off, none⟩) q cap (some ⟨b', off', none⟩) q cap') := L0.step hb1
  have HT1 : Hid (Tb w1 b off q R m) := T1.step hb1
  have HT2 : Hid (Tb w1 b' off' q R' j) := T2.step hb1
  clear hb1 HB1 L0 T1 T2 l0 l1 l2
  generalize lsA m q = lo at *
  generalize lsB m q = hi' at *
  go_wp2_with fail
  go_loopw [7, 8] (fun v i wx => ∃ k : Nat, k ≤ q ∧ i = .int .i64 k ∧ Hid (wx.ownsRow w1.heap.size 3 1 v (oths q m j x k).length (natVals (oths q m j x k))) ∧ Hid (Below w1.heap.size w1 wx)) (fun _ i _ => q - (intOf i).toNat)
  case atStart => exact ⟨0, Nat.zero_le _, rfl, World.ownsRow_nil _ _ _ _, Below.refl _ _⟩
  case round =>
    obtain ⟨k, hk, rfl, HOW, HW⟩ := hrel
    have L1 := HL1.out.step HW.out
    have l0 := L1.1
    by_cases hlt : k < q
    · have l1 := L1.2.1
      have l2 := L1.2.2
      have T1 := HT1.out.step HW.out
      have T2 := HT2.out.step HW.out
      have r1 := (T1 x hx).1
      have r2 := (T2 x hx).1
      have d1 := (T1 x hx).2 k hlt
      have d2 := (T2 x hx).2 k hlt
      have ix : (x : Int) < (q : Int) := by omega
      have ik : (k : Int) < (q : Int) := by omega
      have hlen := oths_len q m j x k
      have htr := HTR.out k
      obtain ⟨v1, hv1⟩ : ∃ v, (m x k == lo) = v := ⟨_, rfl⟩
      obtain ⟨v2, hv2⟩ : ∃ v, (j x k == hi') = v := ⟨_, rfl⟩
      rw [hv1, hv2] at htr
      rw [← int_beq] at hv1 hv2
      clear T1 T2 L1
      by_cases hb : (v1 && v2) = true
      · obtain ⟨rfl, rfl⟩ : v1 = true ∧ v2 = true := by simpa using hb
        have HN : Hid (oths q m j x (k + 1) = oths q m j x k ++ [k]) := oths_yes htr
        have hown := HOW.out
        have hsz := HW.out.size
        clear htr hb
        generalize oths q m j x k = P at *
        go_wp2_with (at_builtin; refine wpList_append_own _ rfl _ _ 25 rfl w1.heap.size 3 i0 (.int .i64 0) 1 8 Tryd.underlying25 hi hz0 hz1 hz2 rfl (by decide) _ _ _ rfl (hown.alloc _) ⟨wr.heap.size, 0, none⟩ 1 1 [.int .i64 (k : Nat)] rfl rfl ?c1 ?c2 ?c3 ?c4 ?c5 ?_)
        case c1 =>
          intro j u hj
          match j, hj with
          | 0, hj => simp at hj; subst hj; simp [Addr.add]
        case c2 => intro u hu; simp at hu; subst hu; rfl
        case c3 => unfold maxLen; omega
        case c4 => omega
        case c5 => simp; omega
        intro v' w6 hown' hgrow _
        have HW6 : Hid (Below w1.heap.size w1 w6) := (HW.out.alloc hsz _).grown hgrow (by simp; omega) (owns_block hown)
        have HO6 : Hid (w6.ownsRow w1.heap.size 3 1 v' (P ++ [k]).length (natVals (P ++ [k]))) := by
          rw [natVals_append, List.length_append]; exact hown'
        clear hown' hgrow hown HOW HW
        go_wp2_with fail
        go_roundw
        case rel => exact ⟨k + 1, by omega, by go_num, by rw [HN.out]; exact HO6.out, HW6.out⟩
        case measure => simp [intOf]; omega
      · have hb' : (v1 && v2) = false := by simpa using hb
        have HN : Hid (oths q m j x (k + 1) = oths q m j x k) := oths_no (htr.trans hb')
        clear htr hb
        rcases v1 with _ | _
        · go_wp2_with fail
          go_roundw
          case rel => exact ⟨k + 1, by omega, by go_num, by rw [HN.out]; exact HOW.out, HW.out⟩
          case measure => simp [intOf]; omega
        · obtain rfl : v2 = false := by simpa using hb'
          go_wp2_with fail
          go_roundw
          case rel => exact ⟨k + 1, by omega, by go_num, by rw [HN.out]; exact HOW.out, HW.out⟩
          case measure => simp [intOf]; omega
    · obtain rfl : k = q := by omega
      have HF : Hid (NSl wr u7 (oths k m j x k)) := owns_nats HOW.out
      clear HOW
      go_wp2_with fail
      go_ret
      exact ⟨⟨_, rfl, HF.out⟩, Below.then HB2.out HW.out⟩
end Go.Proofs.YtcngjmbiinifnaaDoor
