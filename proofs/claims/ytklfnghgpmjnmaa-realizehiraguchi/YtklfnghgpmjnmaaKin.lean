/-
  The widest antichain; what chain.isFree and chain.relatives answer. Conditions: at most ten points where that is said.
-/
import Derived.Test.YtklfnghgpmjnmaaPairs
import Derived.Test.YtklfnghgpmjnmaaWoU
import Derived.Test.YtklfnghgpmjnmaaBegun
namespace Go.Proofs.Ytklfnghgpmjnmaa
open Go.RowKit

/-- Is a set an antichain? -/
def Ant (g : Nat → Nat) (n S : Nat) : Prop := ∀ i, i < n → ∀ k, k < n → S.testBit i = true → S.testBit k = true → (g k).testBit i = false
def antB (g : Nat → Nat) (n S : Nat) : Bool := decide (∀ i, i < n → ∀ k, k < n → S.testBit i = true → S.testBit k = true → (g k).testBit i = false)
theorem antB_iff (g : Nat → Nat) (n S : Nat) : antB g n S = true ↔ Ant g n S := by unfold antB Ant; exact decide_eq_true_iff
/-- Of the sets below k the first that is a widest antichain. -/
def wid (g : Nat → Nat) (n : Nat) : Nat → Nat
  | 0 => 0
  | k + 1 => if pc (wid g n k) < pc k ∧ antB g n k = true then k else wid g n k
theorem wid_yes {g : Nat → Nat} {n k : Nat} (h1 : pc (wid g n k) < pc k) (h2 : antB g n k = true) : wid g n (k + 1) = k := by rw [wid, if_pos ⟨h1, h2⟩]
theorem wid_small {g : Nat → Nat} {n k : Nat} (h1 : pc k ≤ pc (wid g n k)) : wid g n (k + 1) = wid g n k := by rw [wid, if_neg (fun h => by omega)]
theorem wid_no {g : Nat → Nat} {n k : Nat} (h2 : antB g n k = false) : wid g n (k + 1) = wid g n k := by rw [wid, if_neg (fun h => by rw [h2] at h; cases h.2)]
theorem wid_lt (g : Nat → Nat) (n : Nat) {P : Nat} (hP : 0 < P) : ∀ k, k ≤ P → wid g n k < P
  | 0, _ => hP
  | k + 1, h => by
    have ih := wid_lt g n hP k (by omega)
    rw [wid]; split <;> omega
theorem ant_none (g : Nat → Nat) (n : Nat) : Ant g n 0 := fun i _ k _ h => by simp at h
theorem wid_ant (g : Nat → Nat) (n : Nat) : ∀ k, antB g n (wid g n k) = true
  | 0 => (antB_iff g n 0).2 (ant_none g n)
  | k + 1 => by
    have ih := wid_ant g n k
    rw [wid]
    split
    · rename_i h; exact h.2
    · exact ih
theorem wid_max (g : Nat → Nat) (n : Nat) : ∀ k S, S < k → antB g n S = true → pc S ≤ pc (wid g n k)
  | 0, S, h, _ => absurd h (Nat.not_lt_zero _)
  | k + 1, S, h, ha => by
    rcases Nat.lt_or_ge S k with h1 | h1
    · have ih := wid_max g n k S h1 ha
      rw [wid]
      split
      · rename_i h2; omega
      · exact ih
    · have hS : S = k := by omega
      subst hS
      rw [wid]
      split
      · exact Nat.le_refl _
      · rename_i h2
        rcases Nat.lt_or_ge (pc (wid g n S)) (pc S) with h3 | h3
        · exact absurd ⟨h3, ha⟩ h2
        · exact h3

theorem trn_bit (g : Nat → Nat) (n l x : Nat) : (trn g n l).testBit x = (decide (x < n) && (g x).testBit l) := by rw [trn, setBy_bit]
theorem trn_sm (g : Nat → Nat) (n : Nat) : Sm n n (trn g n) := fun k _ => by rw [trn]; exact setBy_lt _ n
def kin (g : Nat → Nat) (n k : Nat) : Nat := g k ||| trn g n k
theorem kin_lt {g : Nat → Nat} {n : Nat} (hg : Sm n n g) : Sm n n (kin g n) := fun k hk => Nat.or_lt_two_pow (hg k hk) (trn_sm g n k hk)
/-- Has no point of a set a foe in it? -/
def freeB (F : Nat → Nat) (m s : Nat) : Bool := decide (∀ p, p < m → s.testBit p = true → s &&& F p = 0)
theorem freeB_iff (F : Nat → Nat) (m s : Nat) : freeB F m s = true ↔ ∀ p, p < m → s.testBit p = true → s &&& F p = 0 := by unfold freeB; exact decide_eq_true_iff
theorem and_zero_iff (a b : Nat) : a &&& b = 0 ↔ ∀ i, a.testBit i = true → b.testBit i = false := by
  constructor
  · intro h i hi
    have := congrArg (fun x => x.testBit i) h
    simp only [Nat.testBit_and, hi, Bool.true_and, Nat.zero_testBit] at this
    exact this
  · intro h
    refine Nat.eq_of_testBit_eq fun i => ?_
    rw [Nat.testBit_and, Nat.zero_testBit]
    cases ha : a.testBit i
    · rfl
    · rw [h i ha]; rfl
theorem kin_bit (g : Nat → Nat) {n p q : Nat} (hq : q < n) : (kin g n p).testBit q = ((g p).testBit q || (g q).testBit p) := by
  rw [kin, Nat.testBit_or, trn_bit]; simp [hq]
theorem free_ant {g : Nat → Nat} {n s : Nat} (hs : s < pw n) : freeB (kin g n) n s = antB g n s := by
  rw [Bool.eq_iff_iff, freeB_iff, antB_iff]
  constructor
  · intro h i hi k hk h1 h2
    have := (and_zero_iff _ _).1 (h k hk h2) i h1
    rw [kin_bit g hi] at this
    cases hb : (g k).testBit i
    · rfl
    · rw [hb] at this; simp at this
  · intro h p hp h1
    refine (and_zero_iff _ _).2 fun q hq => ?_
    have hqn : q < n := bit_of_lt hs hq
    rw [kin_bit g hqn, h q hqn p hp hq h1, h p hp q hqn h1 hq]; rfl

theorem isFree_any (m : Nat) (a : Option Addr) (cap : Nat) (F : Nat → Nat) (s : Nat) (w : World) (hm : m ≤ 10) (hF : ∀ k, k < m → F k < 1024) (hs : s < 1024) (hr : Row w a m (fun k => (F k : Nat))) :
    Calls Try.prog 43 #[.int .i64 s, .slice a m cap] w fun e w' => e = .returned (.bool (freeB F m s)) ∧ w = w' := by
  have HR : Hid (Row w a m (fun k => (F k : Nat))) := hr
  have HF : Hid (∀ k, k < m → F k < 1024) := hF
  have HY : Hid ((∀ p, p < m → s.testBit p = true → s &&& F p = 0) → freeB F m s = true) := (freeB_iff F m s).2
  have HN : Hid (∀ p, p < m → s.testBit p = true → s &&& F p ≠ 0 → freeB F m s = false) := fun p hp h1 h2 => by
    cases hb : freeB F m s
    · rfl
    · exact absurd ((freeB_iff F m s).1 hb p hp h1) h2
  clear hr hF
  generalize freeB F m s = V at *
  go_enter Try.func43, Try.ntmps43
  go_wp2_with fail
  go_loop [9] (fun x => ∃ k : Nat, k ≤ m ∧ x = .int .i64 k ∧ Hid (∀ p, p < k → s.testBit p = true → s &&& F p = 0)) (fun x => m - (intOf x).toNat)
  case atStart => exact ⟨0, Nat.zero_le _, rfl, upto_zero⟩
  case round =>
    obtain ⟨k, hk, rfl, hok⟩ := hrel
    by_cases hlt : k < m
    · obtain ⟨b, off, rfl, hc⟩ := HR.out.at hlt
      have hck := hc k hlt
      have hlt' : (k : Int) < (m : Int) := by omega
      have hFk := HF.out k hlt
      have hand := i64_and s (F k) (by omega) (by omega)
      cases hb : s.testBit k
      · have HO : Hid (∀ p, p < k + 1 → s.testBit p = true → s &&& F p = 0) := upto_succ hok.out (fun h => by rw [hb] at h; cases h)
        clear hc hok
        go_wp2_with (go_at_call 46; refine (has_as s k _ false hb (by omega) (by omega)).mono ?_; rintro e w' ⟨rfl, rfl⟩)
        go_round
        case rel => exact ⟨k + 1, by omega, by go_num, HO.out⟩
        case measure => simp [intOf]; omega
      · by_cases hz : s &&& F k = 0
        · have HO : Hid (∀ p, p < k + 1 → s.testBit p = true → s &&& F p = 0) := upto_succ hok.out (fun _ => hz)
          have hq : ((((s &&& F k : Nat) : Int)) != 0) = false := by simp [hz]
          clear hc hok hz
          go_wp2_with (go_at_call 46; refine (has_as s k _ true hb (by omega) (by omega)).mono ?_; rintro e w' ⟨rfl, rfl⟩)
          go_round
          case rel => exact ⟨k + 1, by omega, by go_num, HO.out⟩
          case measure => simp [intOf]; omega
        · have HV : Hid (V = false) := HN.out k hlt hb hz
          have hq : ((((s &&& F k : Nat) : Int)) != 0) = true := by simp; omega
          clear hc hok hz
          go_wp2_with (go_at_call 46; refine (has_as s k _ true hb (by omega) (by omega)).mono ?_; rintro e w' ⟨rfl, rfl⟩)
          go_ret
          exact ⟨ret_bool HV.out.symm, rfl⟩
    · have hkn : k = m := by omega
      have HV : Hid (V = true) := HY.out (by rw [← hkn]; exact hok.out)
      clear hok
      go_wp2_with fail
      go_ret
      exact ⟨ret_bool HV.out.symm, rfl⟩
def RelPost (n : Int) (len : Nat) (f : Nat → Int) (B : Nat) (e : Ending) (w' : World) : Prop :=
  ∃ c : Int, Chk n len f c ∧ ((c ≠ 0 ∧ e = .returned (.tuple #[.slice none 0 0, .int .i64 c])) ∨
    (c = 0 ∧ ∃ b, e = .returned (.tuple #[.slice (some ⟨b, 0, none⟩) len len, .int .i64 0]) ∧ Own w' b len (kin (nat f) len) ∧ B ≤ b))
def kinTo (g : Nat → Nat) (n u i : Nat) : Nat := if i < u then kin g n i else 0
theorem kinTo_zero (g : Nat → Nat) (n : Nat) : kinTo g n 0 = fun _ => 0 := by funext i; simp [kinTo]
theorem kinTo_succ (g : Nat → Nat) (n u : Nat) : kinTo g n (u + 1) = upd (kinTo g n u) u (kin g n u) := by
  funext i
  by_cases e : i = u
  · subst e; rw [upd_same]; simp [kinTo]
  · rw [upd_other _ _ _ _ e]
    have : (i < u + 1) = (i < u) := by simp; omega
    simp only [kinTo, this]

set_option maxHeartbeats 1000000 in
theorem relatives_any (n : Int) (a : Option Addr) (len cap : Nat) (f : Nat → Int) (w : World) (hl : len ≤ maxLen) (hr : Row w a len f) :
    Calls Try.prog 41 #[.agg #[.int .i64 n, .slice a len cap]] w fun e w' => RelPost n len f w.heap.size e w' ∧ Below w.heap.size w w' := by
  have K0 : Held (w.alloc (.cells #[.int .i64 n, .slice a len cap] 25)) w.heap.size n a len cap f := Held.box hr
  have HB0 : Hid (Below w.heap.size w (w.alloc (.cells #[.int .i64 n, .slice a len cap] 25))) := (Below.refl _ _).alloc (Nat.le_refl _) _
  clear hr
  go_enter Try.func41, Try.ntmps41
  go_wp2_with fail
  refine (dual_any n a len cap f _ hl K0.row).mono ?_
  rintro e w2 ⟨⟨c, x, hc, rfl, hx⟩, hb⟩
  have K2 := K0.step hb
  have HB2 : Hid (Below w.heap.size w w2) := Below.then HB0.out hb
  clear hb K0 HB0
  by_cases h0 : c = 0
  · subst h0
    obtain ⟨rfl, h10, hrng, hord⟩ := hc.good
    rcases hx with ⟨h, _⟩ | ⟨_, a', cap', rfl, hrow⟩
    · exact absurd rfl h
    have HC : Hid (Chk (len : Int) len f 0) := hc
    obtain ⟨g, HGF⟩ : ∃ g, Hid (g = nat f) := ⟨_, rfl⟩
    have HFIN : Hid (∀ (wx : World) b, Own wx b len (kin g len) → w.heap.size ≤ b → RelPost len len f w.heap.size (.returned (.tuple #[.slice (some ⟨b, 0, none⟩) len len, .int .i64 0])) wx) := fun wx b h1 h2 => by
      rw [HGF.out] at h1
      exact ⟨0, HC.out, .inr ⟨rfl, b, rfl, h1, h2⟩⟩
    have hsm := hrng.small
    have hrg := hrng.row K2.row
    rw [← HGF.out] at hrow hsm hrg
    have bW := (Below.refl w2.heap.size w2).alloc (Nat.le_refl _) (.cells #[.int .i64 (len : Int), .slice a' len cap'] 25)
    have HGS : Hid (∀ k, k < len → g k < 1024 ∧ trn g len k < 1024) := fun k hk => by
      have h1 := hsm k hk
      have h2 := trn_sm g len k hk
      have h3 := pw_le len h10
      exact ⟨by omega, by omega⟩
    obtain ⟨X0, HX0⟩ : ∃ X0, Hid (X0 = w2.alloc (.cells #[.int .i64 (len : Int), .slice a' len cap'] 25)) := ⟨_, rfl⟩
    have HXB : Hid (Box X0 w2.heap.size (len : Int) a' len cap') := by rw [HX0.out]; exact Box.new w2 (len : Int) a' len cap'
    have HXK : Hid (Held X0 w.heap.size len a len cap (fun k => (g k : Nat))) := by rw [HX0.out]; exact (show Held w2 w.heap.size len a len cap (fun k => (g k : Nat)) from ⟨K2.c0, K2.c1, hrg⟩).step bW
    have HXR : Hid (Row X0 a' len (fun k => (trn g len k : Nat))) := by rw [HX0.out]; exact hrow.below bW
    have HXW : Hid (Below w.heap.size w X0) := by rw [HX0.out]; exact Below.then HB2.out bW
    have d0 := (K2.step bW).c0
    obtain ⟨i0, hi, hz0, hz1, hz2⟩ := info_parts Try.info3
    clear hc hrng hord hsm hrg hrow bW K2 HB2 HGF
    go_wp2_with (at_make; rw [← HX0.out]; refine wpList_make_full _ rfl _ _ 23 rfl X0.heap.size 3 i0 (.int .i64 0) 1 Try.underlying23 hi hz0 hz1 .i64 .i64 _ _ len rfl rfl rfl rfl (by rw [hz2]; omega) (by unfold maxLen; omega) (Nat.le_refl _) ?_; intro w3 hown3 hgrow3)
    have HB3 : Hid (Below X0.heap.size X0 w3) := (Below.refl _ _).grown hgrow3 (Nat.le_refl _) (by simp)
    have HO3 : Hid (Own w3 X0.heap.size len (kinTo g len 0)) := by rw [kinTo_zero]; exact own_made hown3
    clear hown3 hgrow3 hi hz0 hz1 hz2 d0 HX0
    go_loopw [21] (fun x wx => ∃ u : Nat, u ≤ len ∧ x = .int .i64 u ∧ Hid (Own wx X0.heap.size len (kinTo g len u)) ∧ Hid (Below X0.heap.size X0 wx)) (fun x _ => len - (intOf x).toNat)
    case atStart => exact ⟨0, Nat.zero_le _, rfl, HO3.out, HB3.out⟩
    case round =>
      clear HO3 HB3
      obtain ⟨u, hu, rfl, hO, hB⟩ := hrel
      by_cases hul : u < len
      · have hH := HXK.out.step hB.out
        have c1 := hH.c1
        obtain ⟨_, q1⟩ := HXB.out.step hB.out
        obtain ⟨b1, o1, rfl, hc1⟩ := hH.row.at hul
        obtain ⟨b2, o2, rfl, hc2⟩ := (HXR.out.below hB.out).at hul
        have r1 := hc1 u hul
        have r2 := hc2 u hul
        have hcI := (hO.out u hul).1
        have hfI := (hO.out u hul).2
        have hul' : (u : Int) < (len : Int) := by omega
        obtain ⟨hg1, hg2⟩ := HGS.out u hul
        have hor := i64_or (g u) (trn g len u) (by omega) (by omega)
        have HNX : Hid (kinTo g len (u + 1) = upd (kinTo g len u) u (g u ||| trn g len u)) := kinTo_succ g len u
        clear hc1 hc2 hH
        generalize g u = A1 at *
        generalize trn g len u = A2 at *
        generalize kinTo g len u u = A3 at *
        go_wp2_with fail
        go_region
        all_goals go_wp2_with fail
        all_goals go_roundw
        case rel => exact ⟨u + 1, by omega, by go_num, by rw [HNX.out]; exact Own.set hO.out u _ hul, Below.drew (Below.setCell (p := ⟨X0.heap.size, u, none⟩) hB.out (Nat.le_refl _) _)⟩
        case measure => simp [intOf]; omega
      · have hun : u = len := by omega
        have HO4 : Hid (Own wr X0.heap.size len (kin g len)) := hO.out.congr (fun i hi => by simp [kinTo, hun, hi])
        have HZ := HFIN.out wr _ HO4.out HXW.out.size
        clear hO HO4
        go_wp2_with fail
        go_ret2
        exact ⟨HZ, Below.then HXW.out hB.out⟩
  · have hne : (c != 0) = true := by simpa using h0
    rcases hx with ⟨_, rfl⟩ | ⟨h, _⟩
    · have HC : Hid (Chk n len f c) := hc
      clear hc K2
      unfold noOrder
      go_wp2_with fail
      go_ret2
      exact ⟨⟨c, HC.out, .inl ⟨h0, rfl⟩⟩, HB2.out.alloc HB2.out.size _⟩
    · exact absurd h h0
end Go.Proofs.Ytklfnghgpmjnmaa
