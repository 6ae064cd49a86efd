/-
  What level.Heights answers. No condition but that a slice reads as a slice of numbers.
-/
import Derived.Test.YtomoodpgmkjacabDoorLevels
namespace Go.Proofs.YtomoodpgmkjacabDoor
open Go.RowKit

/-- Of those below k what they are, else nothing. -/
def hk (F : Nat → Nat) (k i : Nat) : Nat := if F i < k then F i else 0
def hx (F : Nat → Nat) (k p i : Nat) : Nat := if i < p then hk F (k + 1) i else hk F k i
theorem hx_zero (F : Nat → Nat) (k : Nat) : hx F k 0 = hk F k := by funext i; simp [hx]
theorem hx_yes {F : Nat → Nat} {k p : Nat} (h : F p = k) : hx F k (p + 1) = upd (hx F k p) p k := by
  funext i
  by_cases e : i = p
  · subst e
    rw [upd_same]
    simp [hx, hk, h]
  · rw [upd_other _ _ _ _ e]
    have : (i < p + 1) = (i < p) := by simp; omega
    simp only [hx, this]
theorem hx_no {F : Nat → Nat} {k p : Nat} (h : F p ≠ k) : hx F k (p + 1) = hx F k p := by
  funext i
  by_cases e : i = p
  · subst e
    have : (F i < k + 1) = (F i < k) := by simp; omega
    simp only [hx, hk, this, Nat.lt_succ_self, if_true, Nat.lt_irrefl, if_false]
  · have : (i < p + 1) = (i < p) := by simp; omega
    simp only [hx, this]
theorem hts_nth (g : Nat → Nat) (n k : Nat) (hk : k < n) : nth (hts g n) k = ht g n k := by simp [nth, hts, mapTo, hk]
theorem levs_nth (g : Nat → Nat) (n k : Nat) (hk : k < tops g n) : nth (levs g n) k = lvS g n k := by simp [nth, levs, levTo, hk]
theorem levs_len (g : Nat → Nat) (n : Nat) : (levs g n).length = tops g n := levTo_len g n _
theorem lvS_bit {g : Nat → Nat} {n h i : Nat} (hi : i < n) : (lvS g n h).testBit i = (ht g n i == h) := by rw [lvS, setBy_bit]; simp [hi]
theorem own_hts {w : World} {b n : Nat} {g : Nat → Nat} (h : Own w b n (ht g n)) : NSl w (.slice (some ⟨b, 0, none⟩) n n) (hts g n) :=
  ⟨some ⟨b, 0, none⟩, n, by rw [hts, mapTo_len], fun k hk => by
    rw [hts, mapTo_len] at hk
    have := h.row k hk
    simp only [hts_nth g n k hk]; exact this⟩

/-- What Heights answers: the heights, in a new row. -/
def HtsPost (K : Nat) (n : Int) (len : Nat) (f : Nat → Int) (e : Ending) (w' : World) : Prop :=
  ∃ (c : Int) (v : Value), Chk n len f c ∧ e = .returned (.tuple #[v, .int .i64 c]) ∧ ((c ≠ 0 ∧ v = .slice none 0 0) ∨ (c = 0 ∧ ∃ b, K ≤ b ∧ v = .slice (some ⟨b, 0, none⟩) len len ∧ Own w' b len (ht (nat f) len)))

set_option maxHeartbeats 1000000 in
theorem heights_any (n : Int) (a : Option Addr) (len cap : Nat) (f : Nat → Int) (w : World) (hl : len ≤ maxLen) (hr : Row w a len f) :
    Calls Tryd.prog 17 #[.agg #[.int .i64 n, .slice a len cap]] w fun e w' => HtsPost w.heap.size n len f e w' ∧ Below w.heap.size w w' := by
  have K0 : Held (w.alloc (.cells #[.int .i64 n, .slice a len cap] 26)) w.heap.size n a len cap f := Held.box hr
  have HB0 : Hid (Below w.heap.size w (w.alloc (.cells #[.int .i64 n, .slice a len cap] 26))) := (Below.refl _ _).alloc (Nat.le_refl _) _
  clear hr
  go_enter Tryd.func17, Tryd.ntmps17
  go_wp2_with fail
  refine (levels_any n a len cap f _ hl K0.row).mono ?_
  rintro e w1 ⟨⟨c, v, hc, rfl, he⟩, hb⟩
  have K1 := K0.step hb
  have HB1 : Hid (Below w.heap.size w w1) := Below.then HB0.out hb
  clear hb K0 HB0
  rcases he with ⟨h0, rfl⟩ | ⟨rfl, hv⟩
  · have hne : (c != 0) = true := by simpa using h0
    have HC : Hid (Chk n len f c) := hc
    clear hc
    go_wp2_with fail
    go_ret2
    exact ⟨⟨c, _, HC.out, rfl, .inl ⟨h0, rfl⟩⟩, HB1.out⟩
  · obtain ⟨rfl, h10, hrng, hord⟩ := hc.good
    have HC : Hid (Chk (len : Int) len f 0) := hc
    obtain ⟨g, HGF⟩ : ∃ g, Hid (g = nat f) := ⟨_, rfl⟩
    have HEQ : Hid (∀ (wx : World) (b : Nat), Own wx b len (ht g len) → Own wx b len (ht (nat f) len)) := fun wx v h => by rw [← HGF.out]; exact h
    rw [← HGF.out] at hv
    obtain ⟨a2, cap2, rfl, hrow2⟩ := hv
    rw [levs_len] at hrow2 ⊢
    have HR2 : Hid (Row w1 a2 (tops g len) (fun k => (lvS g len k : Nat))) := fun k hk => by
      have := hrow2 k hk
      simp only [levs_nth g len k hk] at this
      exact this
    have H1 : Hid (Held w1 w.heap.size len a len cap f) := K1
    have k0 := K1.c0
    have HTL : Hid (tops g len ≤ 1025) := tops_le g h10
    have HLV : Hid (∀ h, lvS g len h < pw len) := fun h => lvS_lt g len h
    have HLB : Hid (∀ h i, i < len → (lvS g len h).testBit i = (ht g len i == h)) := fun h i hi => lvS_bit hi
    have HFT : Hid (∀ i, i < len → ht g len i < tops g len) := fun i hi => ht_lt_tops hi
    have hpw := pw_le len h10
    obtain ⟨F, HF⟩ : ∃ F, Hid (F = ht g len) := ⟨_, rfl⟩
    have HFIN : Hid (∀ (wx : World) (b : Nat), Own wx b len F → Own wx b len (ht g len)) := fun wx b h => by rw [HF.out] at h; exact h
    rw [← HF.out] at HLB HFT
    generalize tops g len = T at *
    obtain ⟨V, HV⟩ : ∃ V, Hid (V = lvS g len) := ⟨_, rfl⟩
    rw [← HV.out] at HR2 HLV HLB
    clear hrow2 hc hrng hord K1 HV HF HGF
    obtain ⟨i0, hi, hz0, hz1, hz2⟩ := info_parts Tryd.info3
    go_wp2_with (at_make; refine wpList_make_full _ rfl _ _ 24 rfl w1.heap.size 3 i0 (.int .i64 0) 1 Tryd.underlying24 hi hz0 hz1 .i64 .i64 _ _ len rfl rfl rfl rfl (by rw [hz2]; omega) (by unfold maxLen; omega) (Nat.le_refl _) ?_; intro w2 hown2 hgrow2)
    have HB2 : Hid (Below w1.heap.size w1 w2) := (Below.refl _ _).grown hgrow2 (Nat.le_refl _) (by simp)
    have HO2 : Hid (Own w2 w1.heap.size len (hk F 0)) := own_made hown2
    clear hown2 hgrow2 hi hz0 hz1 hz2 k0
    go_loopw [23] (fun x wx => ∃ k : Nat, k ≤ T ∧ x = .int .i64 k ∧ Hid (Own wx w1.heap.size len (hk F k)) ∧ Hid (Below w1.heap.size w1 wx)) (fun x _ => T - (intOf x).toNat)
    case atStart => exact ⟨0, Nat.zero_le _, rfl, HO2.out, HB2.out⟩
    case round =>
      clear HO2 HB2
      obtain ⟨k, hkT, rfl, hO, hB⟩ := hrel
      have hTL := HTL.out
      by_cases hlt : k < T
      · obtain ⟨b, off, rfl, hcc⟩ := (HR2.out.below hB.out).at hlt
        have hck := hcc k hlt
        have hH := H1.out.step hB.out
        have c0 := hH.c0
        have hVk := HLV.out k
        have HO1 : Hid (Own wr w1.heap.size len (hx F k 0)) := by rw [hx_zero]; exact hO.out
        clear hcc hH hO
        go_wp2_with fail
        clear c0 hck
        go_loopw [30] (fun x wx => ∃ p : Nat, p ≤ len ∧ x = .int .i64 p ∧ Hid (Own wx w1.heap.size len (hx F k p)) ∧ Hid (Below w1.heap.size w1 wx)) (fun x _ => len - (intOf x).toNat)
        case atStart => exact ⟨0, Nat.zero_le _, rfl, HO1.out, hB.out⟩
        case round =>
          clear HO1 hB
          obtain ⟨p, hp, rfl, hO, hB⟩ := hrel
          by_cases hpl : p < len
          · have hlb := HLB.out k p hpl
            by_cases he : F p = k
            · have hbt : (V k).testBit p = true := by rw [hlb]; simp [he]
              have HY : Hid (hx F k (p + 1) = upd (hx F k p) p k) := hx_yes he
              have hcp := (hO.out p hpl).1
              have hfp := (hO.out p hpl).2
              clear hlb he
              go_wp2_with (go_at_call 28; refine (has_as _ _ _ _ hbt (by omega) (by omega)).mono ?_; rintro e w' ⟨rfl, rfl⟩)
              go_roundw
              case rel => exact ⟨p + 1, by omega, by go_num, by rw [HY.out]; exact Own.set hO.out p _ hpl, Below.setCell (p := ⟨w1.heap.size, p, none⟩) hB.out (Nat.le_refl _) _⟩
              case measure => simp [intOf]; omega
            · have hbt : (V k).testBit p = false := by rw [hlb]; simpa using he
              have HY : Hid (hx F k (p + 1) = hx F k p) := hx_no he
              clear hlb he
              go_wp2_with (go_at_call 28; refine (has_as _ _ _ _ hbt (by omega) (by omega)).mono ?_; rintro e w' ⟨rfl, rfl⟩)
              go_roundw
              case rel => exact ⟨p + 1, by omega, by go_num, by rw [HY.out]; exact hO.out, hB.out⟩
              case measure => simp [intOf]; omega
          · have hpn : p = len := by omega
            have HO1 : Hid (Own wr w1.heap.size len (hk F (k + 1))) := hO.out.congr (fun i hi => by simp [hx, hpn, hi])
            clear hO
            go_wp2_with fail
            go_roundw
            case rel => exact ⟨k + 1, by omega, by go_num, HO1.out, hB.out⟩
            case measure => simp [intOf]; omega
      · have hkn : k = T := by omega
        have HO1 : Hid (Own wr w1.heap.size len F) := hO.out.congr (fun i hi => by simp [hk, hkn, HFT.out i hi])
        clear hO
        go_wp2_with fail
        go_ret2
        exact ⟨⟨0, _, HC.out, rfl, .inr ⟨rfl, w1.heap.size, HB1.out.size, rfl, HEQ.out _ _ (HFIN.out _ _ HO1.out)⟩⟩, Below.then HB1.out hB.out⟩
end Go.Proofs.YtomoodpgmkjacabDoor
