/-
  What the reference's CheckClasses answers, whatever it is handed: what Check must. No condition but that slices read as slices of rows and of numbers.
  Plain facts on the end of a table: to what all elements come together; on the others of an element. No condition.
-/
import Derived.Test.YtappekjkcgmheaaQckP
import Derived.Test.YtappekjkcgmheaaRefLat
import Derived.Test.YtappekjkcgmheaaTriM
namespace Go.Proofs.Ytappekjkcgmheaa
open Go.RowKit
set_option maxRecDepth 100000

theorem QCk.one {n : Int} {la : Nat} {SA : Nat → Option Addr × Nat × Nat} {FA : Nat → Nat → Int} {lb : Nat} {SB : Nat → Option Addr × Nat × Nat} {FB : Nat → Nat → Int} {m : Nat} {f : Nat → Int} {c d : Int} (h : QCk n la SA FA lb SB FB m f c) (h' : QCk n la SA FA lb SB FB m f d) : c = d := by
  rcases h with ⟨h0, h⟩ | ⟨h, hh⟩ <;> rcases h' with ⟨h0', h'⟩ | ⟨h', hh'⟩
  · exact h.one h'
  · exact absurd (h.one h') h0
  · exact absurd (h'.one h) h0'
  · rcases hh with ⟨rfl, e⟩ | ⟨e, ⟨rfl, k⟩ | ⟨rfl, k⟩⟩ <;> rcases hh' with ⟨rfl, e'⟩ | ⟨e', ⟨rfl, k'⟩ | ⟨rfl, k'⟩⟩ <;> first | rfl | exact absurd e e' | exact absurd e' e | exact absurd k k' | exact absurd k' k
theorem bgI_yes {f : Nat → Int} {k : Nat} (h : bgI f k - 1 < f k) : bgI f (k + 1) = f k + 1 := by rw [bgI, if_pos (by omega)]
theorem bgI_no {f : Nat → Int} {k : Nat} (h : ¬ bgI f k - 1 < f k) : bgI f (k + 1) = bgI f k := by rw [bgI, if_neg (by omega)]

set_option maxHeartbeats 4000000 in
theorem checkClasses_any (n : Int) (a : Option Addr) (la ca : Nat) (SA : Nat → Option Addr × Nat × Nat) (FA : Nat → Nat → Int) (b : Option Addr) (lb cb : Nat) (SB : Nat → Option Addr × Nat × Nat) (FB : Nat → Nat → Int) (p : Option Addr) (m cm : Nat) (f : Nat → Int) (w : World) (hla : la ≤ maxLen) (hlb : lb ≤ maxLen) (hra : RR w a la SA FA) (hrb : RR w b lb SB FB) (hrp : Row w p m f) :
    Calls Try.prog 9 #[.agg #[.int .i64 n, .slice a la ca, .slice b lb cb], .slice p m cm] w fun e w' => (∃ c, e = .returned (.int .i64 c) ∧ QCk n la SA FA lb SB FB m f c) ∧ Below w.heap.size w w' := by
  have hb0 : Below w.heap.size w (w.alloc (.cells #[.int .i64 n, .slice a la ca, .slice b lb cb] 24)) := (Below.refl _ _).alloc (Nat.le_refl _) _
  have HC := (show Hid _ from checkLattice_any n a la ca SA FA b lb cb SB FB _ hla hlb (hra.below hb0) (hrb.below hb0))
  have HB0 : Hid (Below w.heap.size w (w.alloc (.cells #[.int .i64 n, .slice a la ca, .slice b lb cb] 24))) := hb0
  have HK0 : Hid (LB (w.alloc (.cells #[.int .i64 n, .slice a la ca, .slice b lb cb] 24)) w.heap.size n a la ca b lb cb) := LB.new _ _ _ _ _ _ _ _
  have HRP : Hid (Row w p m f) := hrp
  clear hra hrb hrp hb0
  go_enter Try.func9, Try.ntmps9
  go_wp2_with fail
  refine Calls.mono HC.out ?_
  rintro e w1 ⟨⟨c, rfl, hc⟩, hb1⟩
  have k0 := (HK0.out.step hb1).1
  have HB1 : Hid (Below w.heap.size w w1) := Below.then HB0.out hb1
  have HR1 : Hid (Row w1 p m f) := HRP.out.below HB1.out
  have HCK : Hid (LCk n la SA FA lb SB FB c) := hc
  clear hc hb1 HC HB0 HK0 HRP
  by_cases h0 : c = 0
  · subst h0
    by_cases hmn : (m : Int) = n
    · subst hmn
      obtain ⟨q, hq, h1, h40, hrest⟩ := HCK.out.good
      clear hrest
      obtain rfl : m = q := by omega
      have HQ : Hid (∀ c, ((c = 3 ∧ ¬ RisC f m) ∨ (c = 0 ∧ RisC f m)) → QCk (m : Int) la SA FA lb SB FB m f c) := fun c h => .inr ⟨HCK.out, .inr ⟨rfl, h⟩⟩
      clear HCK hq
      go_wp2_with fail
      go_loopw [7, 6] (fun i s wx => ∃ k : Nat, k ≤ m ∧ i = .int .i64 k ∧ s = .int .i64 (bgI f k - 1) ∧ Hid (RisC f k) ∧ w1 = wx) (fun i _ _ => m - (intOf i).toNat)
      case atStart => exact ⟨0, Nat.zero_le _, rfl, rfl, fun i hi => absurd hi (Nat.not_lt_zero _), rfl⟩
      case round =>
        obtain ⟨k, hk, rfl, rfl, HRK, rfl⟩ := hrel
        have hg := bgI_range HRK.out
        by_cases hlt : k < m
        · have hlk : (k : Int) < (m : Int) := by omega
          obtain ⟨bp, op, rfl, hcc⟩ := HR1.out.at hlt
          have ck := hcc k hlt
          clear hcc
          have HS : Hid (∀ e : pnt (f k) (bgI f k + 1) = true, RisC f (k + 1)) := fun e => HRK.out.succ e
          have HY : Hid (bgI f k - 1 < f k → bgI f (k + 1) = f k + 1) := bgI_yes
          have HNO : Hid (¬ bgI f k - 1 < f k → bgI f (k + 1) = bgI f k) := bgI_no
          have HF : Hid (pnt (f k) (bgI f k + 1) = false → QCk (m : Int) la SA FA lb SB FB m f 3) := fun hp => HQ.out 3 (.inl ⟨rfl, fun h => by rw [h k hlt] at hp; cases hp⟩)
          have HP : Hid (pnt (f k) (bgI f k + 1) = true ↔ 0 ≤ f k ∧ f k < bgI f k + 1) := by simp [pnt, Hid]
          clear HRK
          obtain ⟨G2, hG2⟩ : ∃ G, bgI f (k + 1) = G := ⟨_, rfl⟩
          rw [hG2] at HY HNO
          have HG2 : Hid (bgI f (k + 1) = G2) := hG2
          clear hG2
          generalize bgI f k = G at *
          generalize f k = X at *
          by_cases hX : X < 0
          · have g1 : decide (X < 0) = true := by simpa using hX
            have HF2 := HF.out (by
              cases hp : pnt X (G + 1)
              · rfl
              · have := HP.out.1 hp; omega)
            have HF3 : Hid (QCk (m : Int) la SA FA lb SB FB m f 3) := HF2
            clear HF HF2 HY HNO HS HP
            go_wp2_with fail
            go_ret
            exact ⟨⟨_, rfl, HF3.out⟩, HB1.out⟩
          · have g1 : decide (X < 0) = false := by simpa using hX
            by_cases hG : G < X
            · have HF2 := HF.out (by
                cases hp : pnt X (G + 1)
                · rfl
                · have := HP.out.1 hp; omega)
              have HF3 : Hid (QCk (m : Int) la SA FA lb SB FB m f 3) := HF2
              clear HF HF2 HY HNO HS HP
              go_wp2_with fail
              go_ret
              exact ⟨⟨_, rfl, HF3.out⟩, HB1.out⟩
            · have HRS : Hid (RisC f (k + 1)) := HS.out (HP.out.2 (by omega))
              clear HF HS HP
              by_cases hgt : G - 1 < X
              · have HE := HY.out hgt
                have HE2 : Hid (G2 - 1 = X) := by unfold Hid; omega
                clear HE HY HNO
                go_wp2_with fail
                go_roundw
                case rel => exact ⟨k + 1, by omega, by go_num, by rw [HG2.out, HE2.out], HRS.out, by trivial⟩
                case measure => simp [intOf]; omega
              · have HE := HNO.out hgt
                have HE2 : Hid (G2 - 1 = G - 1) := by unfold Hid; omega
                clear HE HY HNO
                go_wp2_with fail
                go_roundw
                case rel => exact ⟨k + 1, by omega, by go_num, by rw [HG2.out, HE2.out], HRS.out, by trivial⟩
                case measure => simp [intOf]; omega
        · obtain rfl : m = k := by omega
          have HF : Hid (QCk (m : Int) la SA FA lb SB FB m f 0) := HQ.out 0 (.inr ⟨rfl, HRK.out⟩)
          clear HRK HQ
          go_wp2_with fail
          go_ret
          exact ⟨⟨_, rfl, HF.out⟩, HB1.out⟩
    · have hne : ((m : Int) != n) = true := by simp [hmn]
      have HF : Hid (QCk n la SA FA lb SB FB m f 1) := .inr ⟨HCK.out, .inl ⟨rfl, hmn⟩⟩
      clear HCK HR1
      go_wp2_with fail
      go_ret
      exact ⟨⟨_, rfl, HF.out⟩, HB1.out⟩
  · have hne : (c != 0) = true := by simp [h0]
    have HF : Hid (QCk n la SA FA lb SB FB m f c) := .inl ⟨h0, HCK.out⟩
    clear HCK HR1
    go_wp2_with fail
    go_ret
    exact ⟨⟨_, rfl, HF.out⟩, HB1.out⟩
end Go.Proofs.Ytappekjkcgmheaa
namespace Go.Proofs.Ytappekjkcgmheaa

/-- Where the first k elements come together. -/
def en (m : Nat → Nat → Nat) : Nat → Nat
  | 0 => 0
  | k + 1 => m (en m k) k
theorem en_lt {n : Nat} {m : Nat → Nat → Nat} (h1 : 1 ≤ n) (h : Inn n m) : ∀ k, k ≤ n → en m k < n
  | 0, _ => by show 0 < n; omega
  | k + 1, hk => h _ _ (en_lt h1 h k (by omega)) (by omega)
/-- Is y an other one of x? -/
def othB (n : Nat) (m j : Nat → Nat → Nat) (x y : Nat) : Bool := m x y == en m n && j x y == en j n
def oths (n : Nat) (m j : Nat → Nat → Nat) (x : Nat) : Nat → List Nat
  | 0 => []
  | k + 1 => if othB n m j x k = true then oths n m j x k ++ [k] else oths n m j x k
theorem oths_yes {n : Nat} {m j : Nat → Nat → Nat} {x k : Nat} (h : othB n m j x k = true) : oths n m j x (k + 1) = oths n m j x k ++ [k] := by simp [oths, h]
theorem oths_no {n : Nat} {m j : Nat → Nat → Nat} {x k : Nat} (h : othB n m j x k = false) : oths n m j x (k + 1) = oths n m j x k := by simp [oths, h]
theorem oths_len (n : Nat) (m j : Nat → Nat → Nat) (x : Nat) : ∀ k, (oths n m j x k).length ≤ k
  | 0 => by simp [oths]
  | k + 1 => by
    have ih := oths_len n m j x k
    cases h : othB n m j x k
    · rw [oths_no h]; omega
    · rw [oths_yes h, List.length_append]; simp; exact ih
theorem oths_mem (n : Nat) (m j : Nat → Nat → Nat) (x : Nat) : ∀ k y, y ∈ oths n m j x k ↔ y < k ∧ othB n m j x y = true
  | 0, y => by simp [oths]
  | k + 1, y => by
    cases hb : othB n m j x k
    · rw [oths_no hb, oths_mem n m j x k y]
      constructor
      · rintro ⟨h1, h2⟩; exact ⟨by omega, h2⟩
      · rintro ⟨h1, h2⟩
        refine ⟨?_, h2⟩
        by_cases e : y = k
        · subst e; rw [hb] at h2; cases h2
        · omega
    · rw [oths_yes hb, List.mem_append, oths_mem n m j x k y, List.mem_singleton]
      constructor
      · rintro (⟨h1, h2⟩ | rfl)
        · exact ⟨by omega, h2⟩
        · exact ⟨by omega, hb⟩
      · rintro ⟨h1, h2⟩
        by_cases e : y = k
        · exact .inr e
        · exact .inl ⟨by omega, h2⟩
/-- Each is an other one of its others. -/
theorem oth_back {n : Nat} {m j : Nat → Nat → Nat} (hL : Lat n m j) {x y : Nat} (hx : x < n) (hy : y < n) (h : othB n m j x y = true) : othB n m j y x = true := by
  unfold othB at *
  rw [(hL.lm.at hy hx hy).2.1, (hL.lj.at hy hx hy).2.1]; exact h
/-- Two members at most one: a rising list whose members are all the same. -/
theorem oths_one {n : Nat} {m j : Nat → Nat → Nat} {x : Nat} (h : ∀ y z, y < n → z < n → othB n m j x y = true → othB n m j x z = true → y = z) : ∀ k, k ≤ n → (oths n m j x k).length ≤ 1
  | 0, _ => by simp [oths]
  | k + 1, hk => by
    cases hb : othB n m j x k
    · rw [oths_no hb]; exact oths_one h k (by omega)
    · rw [oths_yes hb]
      have e : oths n m j x k = [] := by
        apply List.eq_nil_iff_forall_not_mem.2
        intro y hy
        have := (oths_mem n m j x k y).1 hy
        have := h y k (by omega) (by omega) this.2 hb
        omega
      rw [e]; simp
end Go.Proofs.Ytappekjkcgmheaa
