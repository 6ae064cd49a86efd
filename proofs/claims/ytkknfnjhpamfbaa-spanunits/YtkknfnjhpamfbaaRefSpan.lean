/-
  What the reference's SpanOrder answers, whatever list of pairs it is handed. No condition but that a slice reads as a slice of pairs.
-/
import Derived.Test.YtkknfnjhpamfbaaSpOf
import Derived.Test.YtkknfnjhpamfbaaOfSpan
namespace Go.Proofs.Ytkknfnjhpamfbaa
open Go.RowKit

set_option maxHeartbeats 1000000 in
theorem spanFun_any (B : Nat) (a : Option Addr) (len cap : Nat) (p : Nat → Int × Int) (x y : Nat) (w : World) (hx : x < len) (hy : y < len) (hB : w.cell? ⟨B, 0, none⟩ = some (.slice a len cap)) (hr : PRow w a len p) :
    Calls Try.prog 28 #[.int .i64 x, .int .i64 y, .pointer (some ⟨B, 0, none⟩)] w fun e w' => e = .returned (.bool (decide ((p x).2 < (p y).1))) ∧ Below w.heap.size w w' := by
  obtain ⟨b, off, rfl, _, c1⟩ := hr x hx
  obtain ⟨b', off', e, c2, _⟩ := hr y hy
  simp only [Option.some.injEq, Addr.mk.injEq, and_true] at e
  obtain ⟨rfl, rfl⟩ := e
  have hb : Hid (Below w.heap.size w w.drew) := (Below.refl _ _).drew
  clear hr
  generalize (p x).2 = X at *
  generalize (p y).1 = Y at *
  go_enter Try.func28, Try.ntmps28
  go_wp2_with fail
  go_region
  all_goals go_wp2
  all_goals go_ret
  all_goals exact ⟨by simp [*], hb.out⟩

set_option maxHeartbeats 2000000 in
theorem spanOrder_any (a : Option Addr) (len cap : Nat) (p : Nat → Int × Int) (w : World) (hl : len ≤ maxLen) (hr : PRow w a len p) :
    Calls Try.prog 10 #[.slice a len cap] w fun e w' => (∃ c x, e = .returned (.tuple #[x, .int .i64 c]) ∧ SCk len p c ∧ OrdErr c len len (fun k => (sp p len k : Nat)) x w') ∧ Below w.heap.size w w' := by
  unfold maxLen at hl
  have HR := (show Hid (PRow w a len p) from hr)
  clear hr
  have HZ : Hid (Below w.heap.size w ((w.alloc (.cells #[.slice a len cap] 22)).alloc (.cells #[.int .i64 0, .slice none 0 0] 25))) := ((Below.refl _ _).alloc (Nat.le_refl _) _).alloc (by simp) _
  have Z2 : ZBox ((w.alloc (.cells #[.slice a len cap] 22)).alloc (.cells #[.int .i64 0, .slice none 0 0] 25)) (w.heap.size + 1) := by
    have := ZBox.new (w.alloc (.cells #[.slice a len cap] 22))
    rwa [World.size_alloc] at this
  by_cases h10 : 10 < len
  · have h10' : (10 : Int) < (len : Int) := by omega
    have HM : Hid (SCk len p 2) := .inl ⟨rfl, h10⟩
    go_enter Try.func10, Try.ntmps10
    go_wp2_with fail
    obtain ⟨r0, r1, r2, r3⟩ := Z2
    exact bodyPost_ret (v := .tuple #[noOrder, .int .i64 2]) (by simp [results, Try.results10, go_sem, noOrder]) rfl ⟨⟨2, noOrder, rfl, HM.out, .inl ⟨by decide, rfl⟩⟩, HZ.out⟩
  · have h10' : ¬ (10 : Int) < (len : Int) := by omega
    have hc0 : ((w.alloc (.cells #[.slice a len cap] 22)).alloc (.cells #[.int .i64 0, .slice none 0 0] 25)).cell? ⟨w.heap.size, 0, none⟩ = some (.slice a len cap) := by simp
    have hs0 : w.heap.size + 2 ≤ ((w.alloc (.cells #[.slice a len cap] 22)).alloc (.cells #[.int .i64 0, .slice none 0 0] 25)).heap.size := by simp
    have HP0 : Hid (PRow ((w.alloc (.cells #[.slice a len cap] 22)).alloc (.cells #[.int .i64 0, .slice none 0 0] 25)) a len p) := HR.out.below HZ.out
    have HZ2 : Hid (ZBox ((w.alloc (.cells #[.slice a len cap] 22)).alloc (.cells #[.int .i64 0, .slice none 0 0] 25)) (w.heap.size + 1)) := Z2
    clear Z2
    go_enter Try.func10, Try.ntmps10
    go_wp2_with fail
    generalize (w.alloc (.cells #[.slice a len cap] 22)).alloc (.cells #[.int .i64 0, .slice none 0 0] 25) = W2 at *
    go_loopw [4] (fun i wx => ∃ y : Nat, y ≤ len ∧ i = .int .i64 y ∧ wx.cell? ⟨w.heap.size, 0, none⟩ = some (.slice a len cap) ∧ w.heap.size + 2 ≤ wx.heap.size ∧ Hid (∀ j, j < y → (p j).1 ≤ (p j).2) ∧ Hid (PRow wx a len p) ∧ Hid (ZBox wx (w.heap.size + 1)) ∧ Hid (Below w.heap.size w wx)) (fun i _ => len - (intOf i).toNat)
    case atStart => exact ⟨0, Nat.zero_le _, rfl, hc0, hs0, fun j hj => absurd hj (Nat.not_lt_zero _), HP0.out, HZ2.out, HZ.out⟩
    case round =>
      clear hc0 hs0 HP0 HZ2 HZ
      obtain ⟨y, hy, rfl, hc, hs, Hok, HP, HZ, HB⟩ := hrel
      by_cases hlt : y < len
      · obtain ⟨b, off, rfl, c1, c2⟩ := HP.out y hlt
        obtain ⟨L0, HL0⟩ : ∃ L, Hid ((p y).1 = L) := ⟨_, rfl⟩
        obtain ⟨L1, HL1⟩ : ∃ L, Hid ((p y).2 = L) := ⟨_, rfl⟩
        rw [HL0.out] at c1
        rw [HL1.out] at c2
        have HBd : Hid (Below w.heap.size w wr.drew) := HB.out.drew
        by_cases hbad : L1 < L0
        · have HM : Hid (SCk len p 3) := .inr (.inl ⟨rfl, by omega, y, hlt, by rw [HL0.out, HL1.out]; exact hbad⟩)
          obtain ⟨r0, r1, r2, r3⟩ := HZ.out
          clear Hok HP HZ HB HL0 HL1
          go_wp2_with fail
          go_region
          go_wp2_with fail
          exact bodyPost_ret (v := .tuple #[noOrder, .int .i64 3]) (by simp [results, Try.results10, go_sem, noOrder, r0, r1]) rfl ⟨⟨3, noOrder, rfl, HM.out, .inl ⟨by decide, rfl⟩⟩, set2B HBd.out (by omega)⟩
        · have hok2 : L0 ≤ L1 := by omega
          have Hok2 : Hid (∀ j, j < y + 1 → (p j).1 ≤ (p j).2) := fun j hj => by
            by_cases e : j = y
            · subst e; rw [HL0.out, HL1.out]; exact hok2
            · exact Hok.out j (by omega)
          have HPd : Hid (PRow wr.drew (some ⟨b, off, none⟩) len p) := HP.out
          have HZd : Hid (ZBox wr.drew (w.heap.size + 1)) := HZ.out
          clear Hok HP HZ HB HL0 HL1
          go_wp2_with fail
          go_region
          go_wp2_with fail
          go_roundw
          case rel => exact ⟨y + 1, by omega, by go_num, hc, hs, Hok2.out, HPd.out, HZd.out, HBd.out⟩
          case measure => simp [intOf]; omega
      · obtain rfl : y = len := by omega
        have HM : Hid (SCk y p 0) := .inr (.inr ⟨rfl, by omega, Hok.out⟩)
        have hcc : Hid (wr.cell? ⟨w.heap.size, 0, none⟩ = some (.slice a y cap)) := hc
        have hbl : w.heap.size < wr.heap.size := by omega
        clear Hok
        go_wp2_with fail
        refine (orderOf_span y w.heap.size (fun x z => decide ((p x).2 < (p z).1)) _ (by omega) (fun x z wx hx hz hb => spanFun_any w.heap.size a y cap p x z wx hx hz ((hb.cell (p := ⟨w.heap.size, 0, none⟩) hbl).trans hcc.out) (HP.out.below hb))).mono ?_
        rintro e w1 ⟨⟨a', cap', rfl, hrow, hfr⟩, hb⟩
        obtain ⟨r0, r1, r2, r3⟩ := HZ.out.step hb
        have HB1 : Hid (Below w.heap.size w w1) := Below.then HB.out hb
        have HR1 : Hid (Row w1 a' y (fun k => (sp p y k : Nat))) := hrow
        have HF1 : Hid (Fresh (w.heap.size + 1 + 1) a' y) := hfr.mono (by omega)
        clear hb hrow hfr HZ HB HP
        go_wp2_with fail
        exact bodyPost_ret (v := .tuple #[.agg #[.int .i64 (y : Int), .slice a' y cap'], .int .i64 0]) (by simp [results, Try.results10, go_sem, r0, r1]) rfl ⟨⟨0, _, rfl, HM.out, .inr ⟨rfl, a', cap', rfl, row_set2 HR1.out HF1.out⟩⟩, set2B HB1.out (by omega)⟩
end Go.Proofs.Ytkknfnjhpamfbaa
