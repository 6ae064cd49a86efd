/-
  What the reference's Together, Common and Place and hasselaw.choose answer. Conditions: as each theorem says.
-/
import Derived.Test.YtomoodpgmkjacabClB
import Derived.Test.YtomoodpgmkjacabIdeals
import Derived.Deep.QuietTactic
import Derived.BigQuiet
namespace Go.Proofs.Ytomoodpgmkjacab
open Go.RowKit

theorem tog_end {a b k : Nat} (h1 : hv a k = 0) (h2 : hv b k = 0) : setBy (fun i => a.testBit i || b.testBit i) k = a ||| b := by
  apply Nat.eq_of_testBit_eq
  intro i
  rw [setBy_bit, Nat.testBit_or]
  by_cases hi : i < k
  · simp [hi]
  · rw [hv_bits h1 i (by omega), hv_bits h2 i (by omega)]; simp
theorem hv_ten {a k : Nat} (ha : a < 1024) (h : 0 < hv a k) : k < 10 := by
  unfold hv at h
  rcases Nat.lt_or_ge k 10 with h1 | h1
  · exact h1
  · have h2 : 2 ^ 10 ≤ 2 ^ k := Nat.pow_le_pow_right (by decide) h1
    have h3 : a / 2 ^ k = 0 := Nat.div_eq_of_lt (by omega)
    omega
theorem together_any (a b : Nat) (w : World) (ha : a < 1024) (hb : b < 1024) :
    Calls Try.prog 14 #[.int .i64 a, .int .i64 b] w fun e w' => e = .returned (.int .i64 ((a ||| b : Nat) : Int)) ∧ w = w' := by
  obtain ⟨P, HP⟩ : ∃ P, Hid (P = fun i => a.testBit i || b.testBit i) := ⟨_, rfl⟩
  obtain ⟨Q, HQ⟩ : ∃ Q, Hid (Q = (a ||| b)) := ⟨_, rfl⟩
  rw [← HQ.out]
  go_enter Try.func14, Try.ntmps14
  go_wp2
  go_loop [0, 1, 5, 6] (fun s t o u => ∃ k : Nat, k ≤ 10 ∧ s = .int .i64 (hv a k : Nat) ∧ t = .int .i64 (hv b k : Nat) ∧ o = .int .i64 (setBy P k : Nat) ∧ u = .int .i64 (pw k : Nat)) (fun s t _ _ => (intOf s).toNat + (intOf t).toNat)
  case atStart => exact ⟨0, by omega, by rw [hv_zero], by rw [hv_zero], rfl, rfl⟩
  case round =>
    obtain ⟨k, hk, rfl, rfl, rfl, rfl⟩ := hrel
    have hl := hv_le a k
    have hl2 := hv_le b k
    have hp1 := pw_le k hk
    have hs1 := setBy_lt P k
    have h1 : (((hv a k : Nat) : Int) % 2 == 1) = a.testBit k := by rw [hv_bit, Bool.eq_iff_iff]; simp; omega
    have h2 : (((hv b k : Nat) : Int) % 2 == 1) = b.testBit k := by rw [hv_bit, Bool.eq_iff_iff]; simp; omega
    have HA : Hid (hv a (k + 1) = hv a k / 2) := hv_succ a k
    have HB : Hid (hv b (k + 1) = hv b k / 2) := hv_succ b k
    have HW : Hid (pw (k + 1) = 2 * pw k) := pw_succ k
    have HTA : Hid (0 < hv a k → k < 10) := hv_ten ha
    have HTB : Hid (0 < hv b k → k < 10) := hv_ten hb
    have HPK : Hid (P k = (a.testBit k || b.testBit k)) := by rw [Hid, HP.out]
    by_cases hp : 0 < hv a k
    · have hk2 := HTA.out hp
      cases ba : a.testBit k
      · cases bb : b.testBit k
        · rw [ba] at h1
          rw [bb] at h2
          have HS : Hid (setBy P (k + 1) = setBy P k) := setBy_no (by rw [HPK.out, ba, bb]; rfl)
          go_wp2
          go_round
          case rel => exact ⟨k + 1, by omega, by rw [HA.out]; simp, by rw [HB.out]; simp, by rw [HS.out], by rw [HW.out]; simp; omega⟩
          case measure => simp [intOf]; omega
        · rw [ba] at h1
          rw [bb] at h2
          have HS : Hid (setBy P (k + 1) = setBy P k + pw k) := setBy_yes (by rw [HPK.out, ba, bb]; rfl)
          go_wp2
          go_round
          case rel => exact ⟨k + 1, by omega, by rw [HA.out]; simp, by rw [HB.out]; simp, by rw [HS.out]; simp, by rw [HW.out]; simp; omega⟩
          case measure => simp [intOf]; omega
      · rw [ba] at h1
        have HS : Hid (setBy P (k + 1) = setBy P k + pw k) := setBy_yes (by rw [HPK.out, ba]; rfl)
        clear h2
        go_wp2
        go_round
        case rel => exact ⟨k + 1, by omega, by rw [HA.out]; simp, by rw [HB.out]; simp, by rw [HS.out]; simp, by rw [HW.out]; simp; omega⟩
        case measure => simp [intOf]; omega
    · by_cases hq : 0 < hv b k
      · have hk2 := HTB.out hq
        cases ba : a.testBit k
        · cases bb : b.testBit k
          · rw [ba] at h1
            rw [bb] at h2
            have HS : Hid (setBy P (k + 1) = setBy P k) := setBy_no (by rw [HPK.out, ba, bb]; rfl)
            go_wp2
            go_round
            case rel => exact ⟨k + 1, by omega, by rw [HA.out]; simp, by rw [HB.out]; simp, by rw [HS.out], by rw [HW.out]; simp; omega⟩
            case measure => simp [intOf]; omega
          · rw [ba] at h1
            rw [bb] at h2
            have HS : Hid (setBy P (k + 1) = setBy P k + pw k) := setBy_yes (by rw [HPK.out, ba, bb]; rfl)
            go_wp2
            go_round
            case rel => exact ⟨k + 1, by omega, by rw [HA.out]; simp, by rw [HB.out]; simp, by rw [HS.out]; simp, by rw [HW.out]; simp; omega⟩
            case measure => simp [intOf]; omega
        · rw [ba] at h1
          have HS : Hid (setBy P (k + 1) = setBy P k + pw k) := setBy_yes (by rw [HPK.out, ba]; rfl)
          clear h2
          go_wp2
          go_round
          case rel => exact ⟨k + 1, by omega, by rw [HA.out]; simp, by rw [HB.out]; simp, by rw [HS.out]; simp, by rw [HW.out]; simp; omega⟩
          case measure => simp [intOf]; omega
      · have HE : Hid (setBy P k = Q) := by rw [Hid, HP.out, HQ.out]; exact tog_end (by omega) (by omega)
        clear h1 h2
        go_wp2
        go_ret
        exact ⟨ret_int (by rw [HE.out]), rfl⟩
theorem add_or_and : ∀ (k a b : Nat), a < 2 ^ k → b < 2 ^ k → a + b = (a ||| b) + (a &&& b)
  | 0, a, b, ha, hb => by
    obtain rfl : a = 0 := by omega
    obtain rfl : b = 0 := by omega
    rfl
  | k + 1, a, b, ha, hb => by
    have ih := add_or_and k (a / 2) (b / 2) (by rw [Nat.pow_succ] at ha; omega) (by rw [Nat.pow_succ] at hb; omega)
    have e1 : (a ||| b) / 2 = a / 2 ||| b / 2 := Nat.or_div_two
    have e2 : (a &&& b) / 2 = a / 2 &&& b / 2 := Nat.and_div_two
    have m1 : (a ||| b) % 2 = 1 ↔ a % 2 = 1 ∨ b % 2 = 1 := Nat.or_mod_two_eq_one
    have m2 : (a &&& b) % 2 = 1 ↔ a % 2 = 1 ∧ b % 2 = 1 := Nat.and_mod_two_eq_one
    omega
theorem common_any (a b : Nat) (w : World) (ha : a < 1024) (hb : b < 1024) :
    Calls Try.prog 15 #[.int .i64 a, .int .i64 b] w fun e w' => e = .returned (.int .i64 ((a &&& b : Nat) : Int)) ∧ w = w' := by
  have HE : Hid (a + b = (a ||| b) + (a &&& b)) := add_or_and 10 a b ha hb
  have hor : a ||| b < 1024 := Nat.or_lt_two_pow (n := 10) ha hb
  obtain ⟨Q, HQ⟩ : ∃ Q, Hid (Q = (a &&& b)) := ⟨_, rfl⟩
  rw [← HQ.out]
  go_enter Try.func15, Try.ntmps15
  go_wp2_with (go_at_call 14; refine (together_any a b _ ha hb).mono ?_; rintro e w' ⟨rfl, rfl⟩)
  go_ret
  exact ⟨ret_int (by have h1 := HE.out; have h2 := HQ.out; omega), rfl⟩
/-- Where x stands first; or nowhere. -/
def PlaceAt (f : Nat → Int) (m : Nat) (x : Nat) (r : Int) : Prop := (∃ j : Nat, j < m ∧ r = j ∧ f j = x ∧ ∀ i, i < j → f i ≠ x) ∨ (r = -1 ∧ ∀ j, j < m → f j ≠ x)
theorem placeR_any (a : Option Addr) (m cap : Nat) (f : Nat → Int) (x : Nat) (w : World) (hm : m ≤ maxLen) (hr : Row w a m f) :
    Calls Try.prog 13 #[.slice a m cap, .int .i64 x] w fun e w' => (∃ r : Int, e = .returned (.int .i64 r) ∧ PlaceAt f m x r) ∧ w = w' := by
  unfold maxLen at hm
  have HR : Hid (Row w a m f) := hr
  clear hr
  go_enter Try.func13, Try.ntmps13
  go_wp2_with fail
  go_loopw [5] (fun i wx => ∃ k : Nat, k ≤ m ∧ i = .int .i64 k ∧ wx = w ∧ Hid (∀ j, j < k → f j ≠ x)) (fun i _ => m - (intOf i).toNat)
  case atStart => exact ⟨0, Nat.zero_le _, rfl, rfl, fun j hj => absurd hj (Nat.not_lt_zero _)⟩
  case round =>
    obtain ⟨k, hk, rfl, rfl, HN⟩ := hrel
    by_cases hlt : k < m
    · obtain ⟨b, off, rfl, hc⟩ := HR.out k hlt
      by_cases he : f k = x
      · have he' : (f k == (x : Int)) = true := by rw [he]; simp
        have HE : Hid (PlaceAt f m x k) := .inl ⟨k, hlt, rfl, he, HN.out⟩
        generalize f k = X at *
        clear HN he
        go_wp2_with fail
        go_ret
        exact ⟨⟨_, rfl, HE.out⟩, rfl⟩
      · have he' : (f k == (x : Int)) = false := by simpa using he
        have HN2 : Hid (∀ j, j < k + 1 → f j ≠ x) := fun j hj => by
          by_cases e : j = k
          · subst e; exact he
          · exact HN.out j (by omega)
        generalize f k = X at *
        clear HN he
        go_wp2_with fail
        go_roundw
        case rel => exact ⟨k + 1, by omega, by go_num, by first | rfl | trivial, HN2.out⟩
        case measure => simp [intOf]; omega
    · obtain rfl : k = m := by omega
      have HE : Hid (PlaceAt f k x (-1)) := .inr ⟨rfl, HN.out⟩
      clear HN
      go_wp2_with fail
      go_ret
      exact ⟨⟨_, rfl, HE.out⟩, rfl⟩
/-- The number that is chosen. -/
def chv (c : Int) (n : Nat) : Nat := if c < 0 then ((-(c + 1)) % n).toNat else (c % n).toNat
theorem chv_lt (c : Int) {n : Nat} (hn : 0 < n) : chv c n < n := by
  have hz : ((n : Nat) : Int) ≠ 0 := by omega
  unfold chv
  split
  · have g1 := Int.emod_nonneg (-(c + 1)) hz
    have g2 := Int.emod_lt_of_pos (-(c + 1)) (show (0 : Int) < n by omega)
    omega
  · have g1 := Int.emod_nonneg c hz
    have g2 := Int.emod_lt_of_pos c (show (0 : Int) < n by omega)
    omega
theorem choose_is (c : Int) (n : Nat) (w : World) (hn : 0 < n) (hn2 : n ≤ 10000000000) (h1 : -9223372036854775808 ≤ c) (h2 : c ≤ 9223372036854775807) :
    Calls Try.prog 11 #[.int .i64 c, .int .i64 (n : Nat)] w fun e w' => e = .returned (.int .i64 (chv c n : Nat)) ∧ w' = w := by
  have hz : ((n : Nat) : Int) ≠ 0 := by omega
  by_cases hc : c < 0
  · have HQ : Hid (-(c + 1).tmod n = (chv c n : Nat)) := by
      have e : -(c + 1).tmod n = (-(c + 1)) % n := by rw [← Int.neg_tmod, Int.tmod_eq_emod_of_nonneg (by omega)]
      have g1 := Int.emod_nonneg (-(c + 1)) hz
      show _ = _
      unfold chv
      rw [if_pos hc]
      omega
    go_enter Try.func11, Try.ntmps11
    go_wp2_with fail
    go_ret
    exact ⟨ret_int HQ.out, rfl⟩
  · have HQ : Hid (c % n = (chv c n : Nat)) := by
      have g1 := Int.emod_nonneg c hz
      show _ = _
      unfold chv
      rw [if_neg hc]
      omega
    go_enter Try.func11, Try.ntmps11
    go_wp2_with fail
    go_ret
    exact ⟨ret_int HQ.out, rfl⟩
theorem fil_mem (I : Nat → Bool) : ∀ P x, x ∈ fil I P ↔ x < P ∧ I x = true
  | 0, x => by simp [fil]
  | P + 1, x => by
    cases h : I P
    · rw [fil_no h, fil_mem I P x]
      constructor
      · rintro ⟨h1, h2⟩; exact ⟨by omega, h2⟩
      · rintro ⟨h1, h2⟩
        refine ⟨?_, h2⟩
        rcases Nat.lt_or_ge x P with h3 | h3
        · exact h3
        · rw [show x = P by omega, h] at h2; cases h2
    · rw [fil_yes h, List.mem_append, fil_mem I P x, List.mem_singleton]
      constructor
      · rintro (⟨h1, h2⟩ | rfl)
        · exact ⟨by omega, h2⟩
        · exact ⟨by omega, h⟩
      · rintro ⟨h1, h2⟩
        rcases Nat.lt_or_ge x P with h3 | h3
        · exact .inl ⟨h3, h2⟩
        · exact .inr (by omega)
theorem in_q (s p : Nat) (b : Bool) (w : World) (h : s.testBit p = b) (hs : s < 9223372036854775808) (hp : p < 63) :
    Calls Try.prog 12 #[.int .i64 s, .int .i64 p] w fun e w' => e = .returned (.bool b) ∧ w' = w :=
  (in_any s p w hs hp).mono fun _ _ ⟨h1, h2⟩ => ⟨by rw [← h]; exact h1, h2.symm⟩
theorem nth_memL {l : List Nat} {k : Nat} (h : k < l.length) : nth l k ∈ l := by
  simp only [nth, List.getD_eq_getElem?_getD, List.getElem?_eq_getElem h]
  exact List.getElem_mem h
theorem idl_at {g : Nat → Nat} {n k : Nat} (h : k < (idls g n).length) : nth (idls g n) k < pw n ∧ idlTo g (nth (idls g n) k) n = true := (fil_mem _ _ _).1 (nth_memL h)
/-- Of a message that is received in a cut the send is in it. -/
theorem recv_in {W : Int} {E : Nat → Int × Int × Int} {n x i k : Nat} (hn : n ≤ 10) (hev : ∀ j, j < n → EvIs W E j 0) (hx : x < pw n) (hid : idlTo (ahd E n) x n = true) (hi : i < n) (hk : k < n) (hxi : x.testBit i = true) (h3 : (E i).1 = 3) (h2 : (E k).1 = 2) (hm : (E k).2.2 = (E i).2.2) : x.testBit k = true := by
  obtain ⟨_, _, _, h4⟩ := (hev i hi).good
  obtain ⟨j, hj, j1, j2⟩ := h4 h3
  have e : k = j := by
    rcases Nat.lt_trichotomy k j with h | h | h
    · obtain ⟨_, _, h5, _⟩ := (hev j (by omega)).good
      rcases h5 with h5 | h5
      · omega
      · exact absurd ⟨k, h, by rw [h2, j1], by rw [hm, j2]⟩ h5
    · exact h
    · obtain ⟨_, _, h5, _⟩ := (hev k hk).good
      rcases h5 with h5 | h5
      · omega
      · exact absurd ⟨j, h, by rw [h2, j1], by rw [hm, j2]⟩ h5
  subst e
  have hl : (ahd E n i).testBit k = true := ahd_lead ⟨hi, hj, by simp [leadB, h2, h3, hm]⟩
  have hp := pw_le n hn
  have h6 := (idlTo_iff (ahd E n) x n).1 hid i hi hxi
  exact (lack_zero _ _ (by have := ahd_sm E n i hi; omega) (by omega)).1 h6 k hl
theorem idl_or {g : Nat → Nat} {n x y : Nat} (hn : n ≤ 10) (hg : Sm n n g) (hx : x < pw n) (hy : y < pw n) (h1 : idlTo g x n = true) (h2 : idlTo g y n = true) : (x ||| y) ∈ idls g n := by
  have hp := pw_le n hn
  have ho : x ||| y < pw n := Nat.or_lt_two_pow hx hy
  refine (fil_mem _ _ _).2 ⟨ho, (idlTo_iff g _ n).2 fun p hpn hb => ?_⟩
  have hgp := hg p hpn
  refine (lack_zero _ _ (by omega) (by omega)).2 fun i hi => ?_
  rw [Nat.testBit_or, Bool.or_eq_true] at hb ⊢
  rcases hb with hb | hb
  · exact .inl ((lack_zero _ _ (by omega) (by omega)).1 ((idlTo_iff g x n).1 h1 p hpn hb) i hi)
  · exact .inr ((lack_zero _ _ (by omega) (by omega)).1 ((idlTo_iff g y n).1 h2 p hpn hb) i hi)
theorem idl_and {g : Nat → Nat} {n x y : Nat} (hn : n ≤ 10) (hg : Sm n n g) (hx : x < pw n) (hy : y < pw n) (h1 : idlTo g x n = true) (h2 : idlTo g y n = true) : (x &&& y) ∈ idls g n := by
  have hp := pw_le n hn
  have ho : x &&& y < pw n := Nat.lt_of_le_of_lt Nat.and_le_left hx
  refine (fil_mem _ _ _).2 ⟨ho, (idlTo_iff g _ n).2 fun p hpn hb => ?_⟩
  have hgp := hg p hpn
  refine (lack_zero _ _ (by omega) (by omega)).2 fun i hi => ?_
  rw [Nat.testBit_and, Bool.and_eq_true] at hb ⊢
  exact ⟨(lack_zero _ _ (by omega) (by omega)).1 ((idlTo_iff g x n).1 h1 p hpn hb.1) i hi, (lack_zero _ _ (by omega) (by omega)).1 ((idlTo_iff g y n).1 h2 p hpn hb.2) i hi⟩
theorem idl_pos {g : Nat → Nat} {n : Nat} : 0 < (idls g n).length :=
  List.length_pos_of_mem ((fil_mem _ _ _).2 ⟨pw_pos n, (idlTo_iff g 0 n).2 fun p _ h => by simp at h⟩)
theorem place_ge {L : List Nat} {x : Nat} {r : Int} (h : PlaceAt (fun k => ((nth L k : Nat) : Int)) L.length x r) (hm : x ∈ L) : 0 ≤ r := by
  rcases h with ⟨j, _, rfl, _⟩ | ⟨_, h⟩
  · omega
  · obtain ⟨j, hj, e⟩ := List.getElem_of_mem hm
    exact absurd (by simp [nth, hj, e]) (h j hj)
end Go.Proofs.Ytomoodpgmkjacab
