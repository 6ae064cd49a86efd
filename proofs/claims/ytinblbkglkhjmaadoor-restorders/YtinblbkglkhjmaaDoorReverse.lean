/-
  A turned order out of two rows that say an order. Plain facts: no Go text here. Conditions: an order of at most seven points.
  What slices.Reverse does to a slice of the caller's own: it reads the other way round. Conditions: a slice of numbers that begins at its block's head.
-/
import Derived.Test.YtinblbkglkhjmaaDoorRzD
import Derived.Test.YtinblbkglkhjmaaDoorNthM
import Derived.Handy
namespace Go.Proofs.YtinblbkglkhjmaaDoor
open Go.RowKit

theorem once_inj {f : Nat → Int} {n i j : Nat} (h : Once f n n) (hi : i < n) (hj : j < n) (e : f i = f j) : i = j := by
  rcases Nat.lt_trichotomy i j with q | q | q
  · exact absurd e ((h j hj).2 i q)
  · exact q
  · exact absurd e.symm ((h i hi).2 j q)

/-- h has two points below one another just where g has not. -/
def Tnd (g : Nat → Nat) (n : Nat) (h : Nat → Nat) : Prop := Sm n n h ∧ Ord n h ∧ ∀ x y, x < n → y < n → x ≠ y → (apt (ltU g n) n x y = true ↔ apt (ltU h n) n x y = false)
theorem Tnd.cnj {g h : Nat → Nat} {n : Nat} (hn : n ≤ 10) (ht : Tnd g n h) : Cnj n (apt (ltU g n) n) (fun x y => ltU h n x y = true) := by
  have hs := ltU_srd hn ht.1 ht.2.1
  refine ⟨fun p q hl => ?_, fun p q ha => ?_, fun p q h1 h2 => ?_, fun p q r => hs.tr p q r⟩
  · obtain ⟨hp, hq⟩ := hs.inn p q hl
    have hne : p ≠ q := fun e => by rw [e, hs.irr] at hl; cases hl
    refine (ht.2.2 p q hp hq hne).2 ?_
    rw [Bool.eq_false_iff]; intro h
    rw [(apt_iff.1 h).2.2.2.1] at hl; cases hl
  · obtain ⟨hp, hq, hne, _⟩ := apt_iff.1 ha
    have := (ht.2.2 p q hp hq hne).1 ha
    refine Classical.byContradiction fun hno => ?_
    rw [apt_iff.2 ⟨hp, hq, hne, by rw [Bool.eq_false_iff]; exact fun h => hno (.inl h), by rw [Bool.eq_false_iff]; exact fun h => hno (.inr h)⟩] at this
    cases this
  · rw [hs.asy h1] at h2; cases h2
/-- The other way round. -/
def rvF (n : Nat) (f : Nat → Int) (j : Nat) : Int := f (n - 1 - j)
theorem once_rv {f : Nat → Int} {n : Nat} (h : Once f n n) : Once (rvF n f) n n := by
  rw [once_all] at h ⊢
  intro i hi
  obtain ⟨j, hj, e⟩ := (sn_iff n).1 (h i hi)
  exact (sn_iff n).2 ⟨n - 1 - j, by omega, by unfold rvF; rw [show n - 1 - (n - 1 - j) = j by omega]; exact e⟩
theorem bf_rv {f : Nat → Int} {n a b : Nat} (h : Once f n n) (ha : a < n) (hb : b < n) : (bf (rvF n f) n n b).testBit a = true ↔ (bf f n n a).testBit b = true := by
  obtain ⟨r, h1, _, h3⟩ := once_rank h
  obtain ⟨r', h1', _, h3'⟩ := once_rank (once_rv h)
  have e : ∀ p, p < n → r p = n - 1 - r' p := fun p hp => by
    have a1 := (h1 p hp).2
    have a2 := (h1' p hp).2
    have a3 := (h1 p hp).1
    have a4 := (h1' p hp).1
    exact once_inj h a3 (by omega) (a1.trans a2.symm)
  rw [h3' a b ha hb, h3 b a hb ha, e a ha, e b hb]
  have := (h1' a ha).1
  have := (h1' b hb).1
  omega
/-- The two rows that Of is handed. -/
def tF (g : Nat → Nat) (n : Nat) (l : List Nat) (i : Nat) : Nat → Int := if i = 0 then (fun j => ((nP g n (ix l 0) j : Nat) : Int)) else rvF n (fun j => ((nP g n (ix l (l.length - 1)) j : Nat) : Int))
theorem Cov.tnd {g : Nat → Nat} {n : Nat} (h7 : n ≤ 7) (hu : Sm n n g) {l : List Nat} (h : Cov g n l) (hl : 0 < l.length) (h2 : l.length ≤ 2) : (∀ k, k < 2 → Once (tF g n l k) n n) ∧ Tnd g n (acc (tF g n l) n 2) := by
  have m0 : ix l 0 ∈ l := ix_mem hl
  have m1 : ix l (l.length - 1) ∈ l := ix_mem (by omega)
  have o0 := nP_once (u := g) (n := n) (h.1 _ m0)
  have o1 := nP_once (u := g) (n := n) (h.1 _ m1)
  have onc : ∀ k, k < 2 → Once (tF g n l k) n n := fun k hk => by
    unfold tF
    by_cases e : k = 0
    · rw [if_pos e]; exact o0
    · rw [if_neg e]; exact once_rv o1
  obtain ⟨r0, x0, y0⟩ := row_rank (by omega) hu (h.1 _ m0)
  obtain ⟨r1, x1, y1⟩ := row_rank (by omega) hu (h.1 _ m1)
  have bit : ∀ x y, x < n → y < n → ((acc (tF g n l) n 2 y).testBit x = true ↔ r0 x < r0 y ∧ r1 y < r1 x) := fun x y hx hy => by
    rw [acc_bit _ n y x hx 2, allTo_iff]
    have e0 : (bf (tF g n l 0) n n y).testBit x = true ↔ r0 x < r0 y := y0 x y hx hy
    have e1 : (bf (tF g n l 1) n n y).testBit x = true ↔ r1 y < r1 x := by
      rw [show tF g n l 1 = rvF n (fun j => ((nP g n (ix l (l.length - 1)) j : Nat) : Int)) from rfl, bf_rv o1 hx hy]
      exact y1 y x hy hx
    constructor
    · intro hh; exact ⟨e0.1 (hh 0 (by omega)), e1.1 (hh 1 (by omega))⟩
    · rintro ⟨p0, p1⟩ j hj
      match j, hj with
      | 0, _ => exact e0.2 p0
      | 1, _ => exact e1.2 p1
  have sm : Sm n n (acc (tF g n l) n 2) := fun y _ => acc_lt _ _ _ _
  refine ⟨onc, sm, fun p hp => ⟨?_, fun q hq hb => ?_⟩, fun x y hx hy hne => ?_⟩
  · rw [Bool.eq_false_iff]; intro hb
    have := (bit p p hp hp).1 hb; omega
  · have hpn := pw_le n (by omega)
    have s1 := sm p hp; have s2 := sm q hq
    refine (lack_zero _ _ (by omega) (by omega)).2 fun i hi => ?_
    have hin : i < n := bit_of_lt s2 hi
    have a1 := (bit i q hin hq).1 hi
    have a2 := (bit q p hq hp).1 hb
    exact (bit i p hin hp).2 ⟨by omega, by omega⟩
  · have two : ∀ i, i ∈ l → i = ix l 0 ∨ i = ix l (l.length - 1) := fun i hi => by
      obtain ⟨j, hj, rfl⟩ := mem_ix hi
      by_cases e : j = 0
      · rw [e]; exact .inl rfl
      · rw [show j = l.length - 1 by omega]; exact .inr rfl
    constructor
    · intro ha
      obtain ⟨i, hi, e⟩ := h.2 x y ha
      obtain ⟨hx, hy, hne, b1, b2⟩ := apt_ltU.1 ha
      obtain ⟨j, hj, e2⟩ := h.2 y x (apt_ltU.2 ⟨hy, hx, fun e => hne e.symm, b2, b1⟩)
      have dis : (r0 x < r0 y ∧ r1 y < r1 x) ∨ (r0 y < r0 x ∧ r1 x < r1 y) := by
        rcases two i hi with rfl | rfl <;> rcases two j hj with rfl | rfl
        · have := (y0 x y hx hy).1 e; have := (y0 y x hy hx).1 e2; omega
        · have := (y0 x y hx hy).1 e; have := (y1 y x hy hx).1 e2; omega
        · have := (y1 x y hx hy).1 e; have := (y0 y x hy hx).1 e2; omega
        · have := (y1 x y hx hy).1 e; have := (y1 y x hy hx).1 e2; omega
      rw [Bool.eq_false_iff]; intro hh
      obtain ⟨_, _, _, c1, c2⟩ := apt_ltU.1 hh
      rcases dis with d | d
      · rw [(bit x y hx hy).2 d] at c1; cases c1
      · rw [(bit y x hy hx).2 d] at c2; cases c2
    · intro hh
      refine Classical.byContradiction fun hno => ?_
      have cmp : ltU g n x y = true ∨ ltU g n y x = true := by
        refine Classical.byContradiction fun hc => hno (apt_iff.2 ⟨hx, hy, hne, ?_, ?_⟩)
        · rw [Bool.eq_false_iff]; exact fun h => hc (.inl h)
        · rw [Bool.eq_false_iff]; exact fun h => hc (.inr h)
      have : apt (ltU (acc (tF g n l) n 2) n) n x y = true := by
        refine apt_ltU.2 ⟨hx, hy, hne, ?_, ?_⟩
        · rw [Bool.eq_false_iff]; intro hb
          have := (bit x y hx hy).1 hb
          rcases cmp with c | c
          · have := x1.up x y hx hy c; omega
          · have := x0.up y x hy hx c; omega
        · rw [Bool.eq_false_iff]; intro hb
          have := (bit y x hy hx).1 hb
          rcases cmp with c | c
          · have := x0.up x y hx hy c; omega
          · have := x1.up y x hy hx c; omega
      rw [this] at hh; cases hh
end Go.Proofs.YtinblbkglkhjmaaDoor
namespace Go.Proofs.YtinblbkglkhjmaaDoor
open Go.RowKit

/-- The other way round, as far as the first k pairs go. -/
def rvTo (g : Nat → Nat) (n k j : Nat) : Nat := if j < k ∨ n - k ≤ j then g (n - 1 - j) else g j
theorem rvTo_zero (g : Nat → Nat) (n : Nat) : ∀ j, j < n → rvTo g n 0 j = g j := fun j hj => by
  unfold rvTo; rw [if_neg (by omega)]
theorem rvTo_end {g : Nat → Nat} {n k : Nat} (h : n ≤ 2 * k + 1) (hk : 2 * k ≤ n) : ∀ j, j < n → rvTo g n k j = g (n - 1 - j) := fun j hj => by
  unfold rvTo
  split
  · rfl
  · rw [show n - 1 - j = j by omega]
theorem rvTo_next {g : Nat → Nat} {n k : Nat} (h : 2 * k + 1 < n) : ∀ j, j < n → rvTo g n (k + 1) j = upd (upd (rvTo g n k) k (rvTo g n k (n - 1 - k))) (n - 1 - k) (rvTo g n k k) j := fun j hj => by
  by_cases e1 : j = n - 1 - k
  · subst e1
    rw [upd_same]
    unfold rvTo
    rw [if_pos (by omega), if_neg (by omega)]
    congr 1; omega
  · rw [upd_other _ _ _ _ e1]
    by_cases e2 : j = k
    · subst e2
      rw [upd_same]
      unfold rvTo
      rw [if_pos (by omega), if_neg (by omega)]
    · rw [upd_other _ _ _ _ e2]
      unfold rvTo
      by_cases e3 : j < k ∨ n - k ≤ j
      · rw [if_pos (by omega), if_pos e3]
      · rw [if_neg (by omega), if_neg e3]

set_option maxHeartbeats 1000000 in
theorem reverse_any (b n cap : Nat) (g : Nat → Nat) (base : Nat) (w0 w : World) (hn : n ≤ 10) (hO : Own w b n g) (hB : Below base w0 w) (hb : base ≤ b) :
    Calls Tryd.prog 35 #[.slice (some ⟨b, 0, none⟩) n cap] w fun e w' => (∃ v, e = .returned v) ∧ Own w' b n (fun k => g (n - 1 - k)) ∧ Below base w0 w' := by
  go_enter Tryd.func35, Tryd.ntmps35
  go_wp2_with fail
  have HO : Hid (Own w b n (rvTo g n 0)) := hO.congr (fun k hk => (rvTo_zero g n k hk).symm)
  have HB0 : Hid (Below base w0 w) := hB
  clear hO hB
  go_loopw [2, 3] (fun i j wx => ∃ k : Nat, 2 * k ≤ n + 1 ∧ k ≤ n ∧ i = .int .i64 k ∧ j = .int .i64 ((n : Int) - 1 - k) ∧ Hid (Own wx b n (rvTo g n k)) ∧ Hid (Below base w0 wx)) (fun i _ _ => n - (intOf i).toNat)
  case atStart => exact ⟨0, by omega, Nat.zero_le _, rfl, by go_num, HO.out, HB0.out⟩
  case round =>
    clear HO HB0
    obtain ⟨k, hk, hkn, rfl, rfl, HO, HB⟩ := hrel
    by_cases hlt : 2 * k + 1 < n
    · have hd : decide ((k : Int) < (n : Int) - 1 - (k : Int)) = true := by simp; omega
      obtain ⟨m, hm⟩ : ∃ m : Nat, m = n - 1 - k := ⟨_, rfl⟩
      have hme : (n : Int) - 1 - (k : Int) = (m : Int) := by omega
      have c1 := (HO.out k (by omega))
      have c2 := (HO.out m (by omega))
      have HN : Hid (∀ j, j < n → rvTo g n (k + 1) j = upd (upd (rvTo g n k) k (rvTo g n k m)) m (rvTo g n k k) j) := by rw [hm]; exact rvTo_next hlt
      have c1a := c1.1
      have c1b := c1.2
      have c2a := c2.1
      have c2b := c2.2
      clear hd
      rw [hme]
      generalize rvTo g n k k = X at *
      generalize rvTo g n k m = Y at *
      have hkm : (k : Int) < (n : Int) := by omega
      have hmm : (m : Int) < (n : Int) := by omega
      have hkm' : k ≠ m := by omega
      have hlt2 : (k : Int) < (m : Int) := by omega
      have hlt3 : k < m := by omega
      have hm1 : m < n := by omega
      have HM : Hid (m + k + 1 = n) := by
        have h : m + k + 1 = n := by omega
        exact h
      have HLT : Hid (2 * k + 1 < n) := hlt
      clear c1 c2 hm hme hlt hk
      go_wp2_with fail
      have HS : Hid (Own (((wr.drew).setCell ⟨b, k, none⟩ (.int .i64 (Y : Nat))).setCell ⟨b, m, none⟩ (.int .i64 (X : Nat))) b n (rvTo g n (k + 1))) :=
        (((HO.out.drewN 1).set k Y (by omega)).set m X hm1).congr (fun j hj => (HN.out j hj).symm)
      have HBS : Hid (Below base w0 (((wr.drew).setCell ⟨b, k, none⟩ (.int .i64 (Y : Nat))).setCell ⟨b, m, none⟩ (.int .i64 (X : Nat)))) :=
        Below.setCell (p := ⟨b, m, none⟩) (Below.setCell (p := ⟨b, k, none⟩) (HB.out.drew) hb _) hb _
      go_region
      go_wp2
      go_roundw
      case rel =>
        refine ⟨k + 1, ?_, ?_, by go_num, ?_, ?_, ?_⟩
        · have := HLT.out; omega
        · have := HLT.out; omega
        · have := HM.out
          go_num
        · exact HS.out
        · exact HBS.out
      case measure => have := HLT.out; simp [intOf]; omega
    · have hd : decide ((k : Int) < (n : Int) - 1 - (k : Int)) = false := by simp; omega
      have HE : Hid (Own wr b n (fun k => g (n - 1 - k))) := HO.out.congr (fun j hj => by
        by_cases e : 2 * k ≤ n
        · exact rvTo_end (by omega) e j hj
        · unfold rvTo; rw [if_pos (by omega)])
      go_wp2_with fail
      first | go_returns | (refine bodyPost_end rfl rfl ?_) | (refine bodyPost_ret rfl rfl ?_)
      exact ⟨⟨_, rfl⟩, HE.out, HB.out⟩
theorem reverse_none (a : Option Addr) (cap : Nat) (w : World) :
    Calls Tryd.prog 35 #[.slice a 0 cap] w fun e w' => (∃ v, e = .returned v) ∧ w = w' := by
  go_enter Tryd.func35, Tryd.ntmps35
  go_wp2_with fail
  go_loopw [2, 3] (fun i j wx => i = .int .i64 0 ∧ j = .int .i64 (-1) ∧ w = wx) (fun _ _ _ => 0)
  case atStart => exact ⟨rfl, by go_num, rfl⟩
  case round =>
    obtain ⟨rfl, rfl, rfl⟩ := hrel
    go_wp2_with fail
    go_end0
    exact ⟨⟨_, rfl⟩, rfl⟩
end Go.Proofs.YtinblbkglkhjmaaDoor
