/-
  What hasselaw.finer answers: whether one list has only pairs that another one has. Conditions: slices of as many numbers.
  hasselaw.QuotientSmallest returns true for every lattice, two numbers and list. No condition but that slices read as slices of rows and of numbers.
-/
import Derived.Test.YtappekjkcgmheaaQuM
import Derived.Test.YtappekjkcgmheaaLRows
import Derived.Test.YtappekjkcgmheaaLFrame
import Derived.Test.YtappekjkcgmheaaShkM
namespace Go.Proofs.Ytappekjkcgmheaa
open Go.RowKit
set_option maxRecDepth 100000

set_option maxHeartbeats 4000000 in
theorem finer_any (b off b' off' q ca cb : Nat) (g f : Nat → Nat) (w : World) (hq : q ≤ maxLen) (ha : Row w (some ⟨b, off, none⟩) q (fun k => (g k : Nat))) (hb : Row w (some ⟨b', off', none⟩) q (fun k => (f k : Nat))) :
    Calls Try.prog 28 #[.slice (some ⟨b, off, none⟩) q ca, .slice (some ⟨b', off', none⟩) q cb] w fun e w' => BIs e (Ker q g f) ∧ Below w.heap.size w w' := by
  unfold maxLen at hq
  have HA : Hid (∀ wx, Below w.heap.size w wx → ∀ i, i < q → wx.cell? ⟨b, off + i, none⟩ = some (.int .i64 (g i : Nat))) := fun wx h i hi => by
    obtain ⟨b1, o1, e, hc⟩ := (ha.below h) i hi
    cases e
    exact hc
  have HB : Hid (∀ wx, Below w.heap.size w wx → ∀ i, i < q → wx.cell? ⟨b', off' + i, none⟩ = some (.int .i64 (f i : Nat))) := fun wx h i hi => by
    obtain ⟨b1, o1, e, hc⟩ := (hb.below h) i hi
    cases e
    exact hc
  clear ha hb
  go_enter Try.func28, Try.ntmps28
  go_wp2_with fail
  go_loopw [5] (fun i wx => ∃ x : Nat, x ≤ q ∧ i = .int .i64 x ∧ Hid (Below w.heap.size w wx) ∧ Hid (∀ s, s < x → ∀ t, t < s → g s = g t → f s = f t)) (fun i _ => q - (intOf i).toNat)
  case atStart => exact ⟨0, Nat.zero_le _, rfl, Below.refl _ _, fun s hs => absurd hs (Nat.not_lt_zero _)⟩
  case round =>
    obtain ⟨x, hx, rfl, HW, HX⟩ := hrel
    by_cases hxl : x < q
    · have hxi : (x : Int) < (q : Int) := by omega
      go_wp2_with fail
      go_loopw [6] (fun i wx => ∃ y : Nat, y ≤ x ∧ i = .int .i64 y ∧ Hid (Below w.heap.size w wx) ∧ Hid (∀ t, t < y → g x = g t → f x = f t)) (fun i _ => x - (intOf i).toNat)
      case atStart => exact ⟨0, Nat.zero_le _, rfl, HW.out, fun s hs => absurd hs (Nat.not_lt_zero _)⟩
      case round =>
        clear HW
        obtain ⟨y, hy, rfl, HW, HY⟩ := hrel
        by_cases hyl : y < x
        · have hyi : (y : Int) < (x : Int) := by omega
          have hyq : (y : Int) < (q : Int) := by omega
          have c1 := HA.out _ HW.out x hxl
          have c2 := HA.out _ HW.out y (by omega)
          have c3 := HB.out _ HW.out x hxl
          have c4 := HB.out _ HW.out y (by omega)
          by_cases e1 : g x = g y
          · have g1 : (((g x : Nat) : Int) == ((g y : Nat) : Int)) = true := by rw [e1]; simp
            by_cases e2 : f x = f y
            · have g2 : (((f x : Nat) : Int) != ((f y : Nat) : Int)) = false := by rw [e2]; simp
              have HN : Hid (∀ t, t < y + 1 → g x = g t → f x = f t) := fun t ht => by
                by_cases e : t = y
                · subst e; exact fun _ => e2
                · exact HY.out t (by omega)
              clear HY e1 e2
              go_wp2_with fail
              go_big_quiet (fail)
              go_wp2_with fail
              go_roundw
              case rel => exact ⟨y + 1, by omega, by go_num, below_drewN HW.out _, HN.out⟩
              case measure => simp [intOf]; omega
            · have g2 : (((f x : Nat) : Int) != ((f y : Nat) : Int)) = true := by simp; omega
              have HN : Hid (¬ Ker q g f) := fun h => e2 (h x y hxl (by omega) e1)
              clear HY e1 e2
              go_wp2_with fail
              go_big_quiet (fail)
              go_wp2_with fail
              go_ret
              exact ⟨⟨_, rfl, ⟨(fun h => by cases h), fun h => absurd h HN.out⟩⟩, below_drewN HW.out _⟩
          · have g1 : (((g x : Nat) : Int) == ((g y : Nat) : Int)) = false := by simp; omega
            have HN : Hid (∀ t, t < y + 1 → g x = g t → f x = f t) := fun t ht => by
              by_cases e : t = y
              · subst e; exact fun h => absurd h e1
              · exact HY.out t (by omega)
            clear HY e1
            go_wp2_with fail
            go_big_quiet (fail)
            go_wp2_with fail
            go_roundw
            case rel => exact ⟨y + 1, by omega, by go_num, below_drewN HW.out _, HN.out⟩
            case measure => simp [intOf]; omega
        · obtain rfl : y = x := by omega
          have HN : Hid (∀ s, s < y + 1 → ∀ t, t < s → g s = g t → f s = f t) := fun s hs => by
            by_cases e : s = y
            · subst e; exact HY.out
            · exact HX.out s (by omega)
          clear HX HY
          go_wp2_with fail
          go_roundw
          case rel => exact ⟨y + 1, by omega, by go_num, HW.out, HN.out⟩
          case measure => simp [intOf]; omega
    · obtain rfl : x = q := by omega
      have HN : Hid (Ker x g f) := fun u v hu hv e => by
        rcases Nat.lt_trichotomy u v with hl | rfl | hl
        · exact (HX.out v hv u hl e.symm).symm
        · rfl
        · exact HX.out u hu v hl e
      clear HX
      go_wp2_with fail
      go_ret
      exact ⟨⟨_, rfl, ⟨fun _ => HN.out, fun _ => rfl⟩⟩, HW.out⟩
end Go.Proofs.Ytappekjkcgmheaa
namespace Go.Proofs.Ytappekjkcgmheaa
open Go.RowKit
set_option maxRecDepth 100000

set_option maxHeartbeats 8000000 in
theorem quotientSmallest_any (n : Int) (a : Option Addr) (la ca : Nat) (SA : Nat → Option Addr × Nat × Nat) (FA : Nat → Nat → Int) (b : Option Addr) (lb cb : Nat) (SB : Nat → Option Addr × Nat × Nat) (FB : Nat → Nat → Int) (x y : Int) (p : Option Addr) (m cm : Nat) (f : Nat → Int) (w : World) (hla : la ≤ maxLen) (hlb : lb ≤ maxLen) (hml : m ≤ maxLen) (hra : RR w a la SA FA) (hrb : RR w b lb SB FB) (hrp : Row w p m f) :
    Calls Try.prog 8 #[.agg #[.int .i64 n, .slice a la ca, .slice b lb cb], .int .i64 x, .int .i64 y, .slice p m cm] w fun e w' => e = .returned (.bool true) ∧ Below w.heap.size w w' := by
  have HB0 : Hid (Below w.heap.size w (w.alloc (.cells #[.int .i64 n, .slice a la ca, .slice b lb cb] 24))) := (Below.refl _ _).alloc (Nat.le_refl _) _
  have HS : Hid (QS n a la ca SA FA b lb cb SB FB p m f w.heap.size (w.alloc (.cells #[.int .i64 n, .slice a la ca, .slice b lb cb] 24))) := QS.new hra hrb hrp
  clear hra hrb hrp
  go_enter Try.func8, Try.ntmps8
  go_wp2_with fail
  refine (quotientBegun_any _).mono ?_
  rintro e w1 ⟨rfl, hb1⟩
  have HB1 : Hid (Below w.heap.size w w1) := Below.then HB0.out hb1
  have HS1 : Hid (QS n a la ca SA FA b lb cb SB FB p m f w.heap.size w1) := HS.out.step hb1
  clear hb1 HB0 HS
  obtain ⟨k0, k1, k2⟩ := HS1.out.bx
  go_wp2_with fail
  refine (least_any n a la ca SA FA b lb cb SB FB x y _ hla hlb HS1.out.ra HS1.out.rb).mono ?_
  rintro e w2 ⟨⟨c, v, rfl, hc⟩, hb2⟩
  have HB2 : Hid (Below w.heap.size w w2) := Below.then HB1.out hb2
  have HS2 : Hid (QS n a la ca SA FA b lb cb SB FB p m f w.heap.size w2) := HS1.out.step hb2
  have HL : Hid (LsIs n la SA FA lb SB FB x y w1.heap.size w2 c v) := hc
  clear hc hb2 HB1 HS1 k0 k1 k2
  obtain ⟨k0, k1, k2⟩ := HS2.out.bx
  go_wp2_with fail
  refine (congruent_any n a la ca SA FA b lb cb SB FB p m cm f _ hla hlb HS2.out.ra HS2.out.rb HS2.out.rp).mono ?_
  rintro e w3 ⟨⟨d, u, rfl, hd, hu⟩, hb3⟩
  have HB3 : Hid (Below w.heap.size w w3) := Below.then HB2.out hb3
  have HRP : Hid (Row w3 p m f) := HS2.out.rp.below hb3
  have HBB : Hid (Below w2.heap.size w2 w3) := hb3
  have HQ : Hid (QCk n la SA FA lb SB FB m f d) := hd
  have HU : Hid ((d ≠ 0 ∧ u = false) ∨ (d = 0 ∧ (u = true ↔ Con m (nat2 FA) (nat2 FB) (natF f)))) := hu
  clear hd hu hb3 HB2 HS2 k0 k1 k2
  by_cases c0 : c = 0
  rotate_left
  · skip
    have g1 : (c != 0) = true := by simpa using c0
    go_wp2_with fail
    go_big_quiet (fail)
    go_wp2_with fail
    go_ret
    exact ⟨rfl, below_drewN HB3.out _⟩
  subst c0
  by_cases d0 : d = 0
  rotate_left
  · skip
    have g1 : (d != 0) = true := by simpa using d0
    go_wp2_with fail
    go_big_quiet (fail)
    go_wp2_with fail
    go_ret
    exact ⟨rfl, below_drewN HB3.out _⟩
  subst d0
  have HUU : Hid (u = true ↔ Con m (nat2 FA) (nat2 FB) (natF f)) := by
    rcases HU.out with ⟨h, _⟩ | ⟨_, h⟩
    · exact absurd rfl h
    · exact h
  clear HU
  cases u
  · clear HUU
    go_wp2_with fail
    go_big_quiet (fail)
    go_wp2_with fail
    go_ret
    exact ⟨rfl, below_drewN HB3.out _⟩
  · have HCON : Hid (Con m (nat2 FA) (nat2 FB) (natF f)) := HUU.out.1 rfl
    obtain ⟨hlk, hmn, hri⟩ := HQ.out.good
    subst hmn
    rcases HL.out with ⟨h, _⟩ | ⟨_, ⟨h, _⟩ | ⟨_, ⟨hx, hy⟩, B, cc, rfl, hlc, how, hB⟩⟩
    · exact absurd rfl h
    · cases h
    have px : 0 ≤ x ∧ x < (m : Int) := by simpa [pnt] using hx
    have py : 0 ≤ y ∧ y < (m : Int) := by simpa [pnt] using hy
    obtain ⟨X, rfl⟩ := Int.eq_ofNat_of_zero_le px.1
    obtain ⟨Y, rfl⟩ := Int.eq_ofNat_of_zero_le py.1
    have hX : X < m := by omega
    have hY : Y < m := by omega
    obtain ⟨bp, op, rfl, hcc⟩ := HRP.out.at (show 0 < m by omega)
    have hnn : ∀ i, i < m → w3.cell? ⟨bp, op + i, none⟩ = some (.int .i64 (natF f i : Nat)) := fun i hi => by
      have hp : 0 ≤ f i ∧ f i < bgI f i + 1 := by simpa [pnt] using hri i hi
      rw [hcc i hi, show ((natF f i : Nat) : Int) = f i from Int.toNat_of_nonneg hp.1]
    have c1 := hnn X hX
    have c2 := hnn Y hY
    have HRN : Hid (Row w3 (some ⟨bp, op, none⟩) m (fun k => (natF f k : Nat))) := fun i hi => ⟨bp, op, rfl, hnn i hi⟩
    have HLC : Hid (LeastC m (nat2 FA) (nat2 FB) [(X, Y)] cc) := hlc
    have HOW : Hid (Row w3 (some ⟨B, 0, none⟩) m (fun k => (nbr cc k : Nat))) := (show Row w2 (some ⟨B, 0, none⟩) m (fun k => (nbr cc k : Nat)) from how.row).below HBB.out
    have hXi : (X : Int) < (m : Int) := px.2
    have hYi : (Y : Int) < (m : Int) := py.2
    simp only [Int.toNat_natCast]
    clear HL HUU HQ HRP hlk hri hx hy px py hlc how hB hcc hnn HBB
    by_cases e : natF f X = natF f Y
    · have g1 : (((natF f X : Nat) : Int) != ((natF f Y : Nat) : Int)) = false := by rw [e]; simp
      have HK : Hid (Ker m (nbr cc) (natF f)) := fun i k hi hk e' => HLC.out.2.2 (natF f) HCON.out (fun p hp => by obtain rfl := List.mem_singleton.1 hp; exact e) i k hi hk (nbr_ker.1 e')
      clear e HLC HCON
      go_wp2_with fail
      go_big_quiet (fail)
      have HR1 : Hid (Row (w3.drewN nq) (some ⟨B, 0, none⟩) m (fun k => (nbr cc k : Nat))) := HOW.out
      have HR2 : Hid (Row (w3.drewN nq) (some ⟨bp, op, none⟩) m (fun k => (natF f k : Nat))) := HRN.out
      have HB4 : Hid (Below w.heap.size w (w3.drewN nq)) := below_drewN HB3.out _
      clear HOW HRN HB3 c1 c2
      generalize w3.drewN nq = w4 at *
      go_wp2_with fail
      refine (finer_any B 0 bp op m m cm (nbr cc) (natF f) w4 hml HR1.out HR2.out).mono ?_
      rintro e w5 ⟨⟨v, rfl, hv⟩, hb5⟩
      obtain rfl : v = true := hv.2 HK.out
      have HB5 : Hid (Below w.heap.size w w5) := Below.then HB4.out hb5
      clear hv hb5
      go_wp2_with fail
      go_ret
      exact ⟨rfl, HB5.out⟩
    · have g1 : (((natF f X : Nat) : Int) != ((natF f Y : Nat) : Int)) = true := by simp; omega
      clear e
      go_wp2_with fail
      go_big_quiet (fail)
      go_wp2_with fail
      go_ret
      exact ⟨rfl, below_drewN HB3.out _⟩
end Go.Proofs.Ytappekjkcgmheaa
