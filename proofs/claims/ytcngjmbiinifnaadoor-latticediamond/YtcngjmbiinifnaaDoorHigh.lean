/-
  What lattice.upTo and lattice.highest answer. Conditions: the library's table lies in its variable; an order of at most ten points.
-/
import Derived.Test.YtcngjmbiinifnaaDoorPoints
import Derived.Test.YtcngjmbiinifnaaDoorLChk
namespace Go.Proofs.YtcngjmbiinifnaaDoor
open Go.RowKit

theorem small63 {a : Nat} (h : a < 1024) : a < 9223372036854775808 := by omega
theorem small64 {a : Nat} (h : a < 1024) : a < 18446744073709551616 := by omega
/-- A point and what is below it. -/
def up (g : Nat → Nat) (x : Nat) : Nat := g x ||| pw x
theorem up_lt {g : Nat → Nat} {x : Nat} (hg : g x < 1024) (hx : x < 10) : up g x < 1024 := by
  have : pw x < 2 ^ 10 := Nat.pow_lt_pow_right (by decide) hx
  exact Nat.or_lt_two_pow (n := 10) hg this

theorem hasAll_any (s p : Nat) (w : World) (hs : s < 9223372036854775808) (hp : p < 9223372036854775808) :
    Calls Tryd.prog 62 #[.int .i64 s, .int .i64 p] w fun e w' => e = .returned (.bool (lack p s == 0)) ∧ w = w' := by
  have h := i64_andNot p s hp hs
  go_enter Tryd.func62, Tryd.ntmps62
  go_wp2
  go_ret
  refine ⟨ret_bool ?_, rfl⟩
  rw [Bool.eq_iff_iff]
  simp
set_option maxHeartbeats 1000000 in
theorem upTo_any (n : Int) (a : Option Addr) (len cap : Nat) (g : Nat → Nat) (x : Nat) (w : World) (h10 : len ≤ 10) (hg : ∀ k, k < len → g k < 1024) (hr : Row w a len (fun k => (g k : Nat))) (hx : x < len) :
    Calls Tryd.prog 54 #[.agg #[.int .i64 n, .slice a len cap], .int .i64 (x : Nat)] w fun e w' => e = .returned (.int .i64 (up g x : Nat)) ∧ Below w.heap.size w w' := by
  have HB0 : Hid (Below w.heap.size w (w.alloc (.cells #[.int .i64 n, .slice a len cap] 40))) := (Below.refl _ _).alloc (Nat.le_refl _) _
  obtain ⟨b, off, rfl, hc⟩ := hr x hx
  have c1 : (w.alloc (.cells #[.int .i64 n, .slice (some ⟨b, off, none⟩) len cap] 40)).cell? ⟨b, off + x, none⟩ = some (.int .i64 (g x : Nat)) := cell_step HB0.out hc
  have hx' : (x : Int) < (len : Int) := by omega
  have HV : Hid (bits .or .i64 ((g x : Nat) : Int) (wrap64 (2 ^ x)) = ((up g x : Nat) : Int)) := by
    rw [wrap_pow x (by omega)]
    refine i64_or _ _ ?_ ?_
    · have := hg x hx; omega
    · have : pw x < 2 ^ 10 := Nat.pow_lt_pow_right (by decide) (by omega)
      omega
  clear hr hc hg
  go_enter Tryd.func54, Tryd.ntmps54
  go_wp2
  go_big_quiet (fail)
  go_wp2
  go_ret
  exact ⟨by rw [← HV.out]; rfl, below_drewN HB0.out _⟩

theorem pts_mem (s : Nat) : ∀ k i, i ∈ pts s k ↔ i < k ∧ s.testBit i = true
  | 0, i => by simp [pts]
  | k + 1, i => by
    cases hb : s.testBit k
    · rw [pts_no hb, pts_mem s k i]
      constructor
      · rintro ⟨h1, h2⟩; exact ⟨by omega, h2⟩
      · rintro ⟨h1, h2⟩
        refine ⟨?_, h2⟩
        by_cases e : i = k
        · subst e; rw [hb] at h2; cases h2
        · omega
    · rw [pts_yes hb, List.mem_append, pts_mem s k i, List.mem_singleton]
      constructor
      · rintro (⟨h1, h2⟩ | rfl)
        · exact ⟨by omega, h2⟩
        · exact ⟨by omega, hb⟩
      · rintro ⟨h1, h2⟩
        by_cases e : i = k
        · exact .inr e
        · exact .inl ⟨by omega, h2⟩
/-- The point of a set that all others of it are below. -/
def Hi (g : Nat → Nat) (s p : Nat) : Prop := s.testBit p = true ∧ ∀ k, s.testBit k = true → (up g p).testBit k = true
def HiIs (g : Nat → Nat) (s : Nat) (v : Nat) (ok : Bool) : Prop := (ok = true ∧ Hi g s v) ∨ (ok = false ∧ v = 0 ∧ ∀ p, ¬ Hi g s p)

set_option maxHeartbeats 1000000 in
theorem highest_any (n : Int) (a : Option Addr) (len cap : Nat) (g : Nat → Nat) (s : Nat) (w : World) (h10 : len ≤ 10) (hg : ∀ k, k < len → g k < 1024) (hr : Row w a len (fun k => (g k : Nat))) (hs : s < pw len) (hT : Tab w) :
    Calls Tryd.prog 53 #[.agg #[.int .i64 n, .slice a len cap], .int .i64 (s : Nat)] w fun e w' => (∃ (v : Nat) (ok : Bool), e = .returned (.tuple #[.int .i64 (v : Nat), .bool ok]) ∧ HiIs g s v ok) ∧ Below w.heap.size w w' := by
  have HG : Hid (∀ k, k < len → g k < 1024) := hg
  have K0 : Held (w.alloc (.cells #[.int .i64 n, .slice a len cap] 40)) w.heap.size n a len cap (fun k => (g k : Nat)) := Held.box hr
  have HB0 : Hid (Below w.heap.size w (w.alloc (.cells #[.int .i64 n, .slice a len cap] 40))) := (Below.refl _ _).alloc (Nat.le_refl _) _
  have hs1024 : s < 1024 := Nat.lt_of_lt_of_le hs (pw_le len h10)
  have HS : Hid (s < pw len) := hs
  have HT0 : Hid (Tab (w.alloc (.cells #[.int .i64 n, .slice a len cap] 40))) := hT.step HB0.out
  clear hr hT hs hg
  go_enter Tryd.func53, Tryd.ntmps53
  go_wp2_with fail
  refine (members_any s _ hs1024 HT0.out).mono ?_
  rintro e w1 ⟨⟨v, rfl, hv⟩, hb1⟩
  have K1 := K0.step hb1
  have HB1 : Hid (Below w.heap.size w w1) := Below.then HB0.out hb1
  obtain ⟨a1, cap1, rfl, hr1⟩ := hv
  have HR1 : Hid (Row w1 a1 (pts s 10).length (fun k => (nth (pts s 10) k : Nat))) := hr1
  have hpl := pts_len s 10
  have HPM : Hid (∀ i, i ∈ pts s 10 ↔ i < 10 ∧ s.testBit i = true) := fun i => pts_mem s 10 i
  clear hb1 HB0 K0 HT0 hr1
  generalize pts s 10 = P at *
  obtain ⟨m, HM⟩ : ∃ m, Hid (m = P.length) := ⟨_, rfl⟩
  have hpl' : m ≤ 10 := by rw [HM.out]; exact hpl
  rw [← HM.out] at HR1
  rw [← HM.out]
  clear hpl
  go_wp2_with fail
  go_loopw [11] (fun i wx => ∃ k : Nat, k ≤ m ∧ i = .int .i64 k ∧ Hid (Below w1.heap.size w1 wx) ∧ Hid (∀ j, j < k → ¬ Hi g s (nth P j))) (fun i _ => m - (intOf i).toNat)
  case atStart => exact ⟨0, Nat.zero_le _, rfl, Below.refl _ _, fun j hj => absurd hj (Nat.not_lt_zero _)⟩
  case round =>
    obtain ⟨k, hk, rfl, HW, HK⟩ := hrel
    have K2 := K1.step HW.out
    have k0 := K2.c0
    have k1 := K2.c1
    by_cases hlt : k < m
    · obtain ⟨b, off, rfl, hc⟩ := (HR1.out.below HW.out) k hlt
      have hin : nth P k ∈ P := by
        have hk' : k < P.length := by rw [← HM.out]; exact hlt
        have e : nth P k = P[k] := by simp [nth, hk']
        rw [e]; exact List.getElem_mem hk'
      have hb := (HPM.out _).1 hin
      have hpn : nth P k < len := bit_of_lt HS.out hb.2
      have hk' : (k : Int) < (m : Int) := by omega
      have hc2 : wr.cell? ⟨b, off + k, none⟩ = some (.int .i64 (nth P k : Nat)) := hc
      clear hc
      generalize hp : nth P k = p at *
      have hup : up g p < 1024 := up_lt (HG.out p hpn) (by omega)
      have hlz := lack_zero s (up g p) (small64 hs1024) (small64 hup)
      have HPE : Hid (nth P k = p) := hp
      clear hin hp
      by_cases hz : lack s (up g p) = 0
      · have HE : Hid (HiIs g s p true) := .inl ⟨rfl, hb.2, hlz.1 hz⟩
        have hz' : (lack s (up g p) == 0) = true := by rw [hz]; rfl
        clear hb hlz hz
        go_wp2_with fail
        refine (upTo_any n a len cap g p _ h10 HG.out K2.row hpn).mono ?_
        rintro e w' ⟨rfl, hbw⟩
        have HB2 : Hid (Below w.heap.size w w') := Below.then HB1.out (Below.then HW.out hbw)
        clear hbw
        go_wp2_with fail
        refine (hasAll_any (up g p) s _ (small63 hup) (small63 hs1024)).mono ?_
        rintro e w2 ⟨rfl, rfl⟩
        rw [hz']
        go_wp2_with fail
        go_ret2
        exact ⟨⟨p, true, rfl, HE.out⟩, HB2.out⟩
      · have hz' : (lack s (up g p) == 0) = false := by simpa using hz
        have HN : Hid (∀ j, j < k + 1 → ¬ Hi g s (nth P j)) := fun j hj => by
          by_cases e : j = k
          · subst e
            rw [HPE.out]
            intro h
            exact hz (hlz.2 h.2)
          · exact HK.out j (by omega)
        clear hb hlz HK
        go_wp2_with fail
        refine (upTo_any n a len cap g p _ h10 HG.out K2.row hpn).mono ?_
        rintro e w' ⟨rfl, hbw⟩
        have HW2 : Hid (Below w1.heap.size w1 w') := Below.then HW.out hbw
        clear hbw
        go_wp2_with fail
        refine (hasAll_any (up g p) s _ (small63 hup) (small63 hs1024)).mono ?_
        rintro e w2 ⟨rfl, rfl⟩
        rw [hz']
        go_wp2_with fail
        go_roundw
        case rel => exact ⟨k + 1, by omega, by go_num, HW2.out, HN.out⟩
        case measure => simp [intOf]; omega
    · obtain rfl : k = m := by omega
      have HE : Hid (HiIs g s 0 false) := .inr ⟨rfl, rfl, fun p h => by
        have hp := h.1
        have hpn : p < len := bit_of_lt HS.out hp
        obtain ⟨j, hj, e⟩ := List.getElem_of_mem ((HPM.out p).2 ⟨by omega, hp⟩)
        refine HK.out j (by rw [HM.out]; exact hj) ?_
        have e2 : nth P j = p := by simp [nth, hj, e]
        rw [e2]; exact h⟩
      clear HK
      go_wp2_with fail
      go_ret2
      exact ⟨⟨0, false, rfl, HE.out⟩, Below.then HB1.out HW.out⟩
end Go.Proofs.YtcngjmbiinifnaaDoor
