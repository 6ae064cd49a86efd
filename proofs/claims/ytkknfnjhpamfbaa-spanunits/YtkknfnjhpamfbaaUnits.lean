/-
  What span.Units answers, whatever order it is handed: numbers and a step that say it, if there are any. No condition but that a slice reads as a slice of numbers.
-/
import Derived.Test.YtkknfnjhpamfbaaRaise
import Derived.Test.YtkknfnjhpamfbaaCheck
import Derived.Test.YtkknfnjhpamfbaaKept
namespace Go.Proofs.Ytkknfnjhpamfbaa
open Go.RowKit

/-- What Units must answer. -/
def UnitsPost (n : Int) (len : Nat) (f : Nat → Int) (e : Ending) (w' : World) : Prop :=
  ∃ c v s ok, Chk n len f c ∧ e = .returned (.tuple #[v, .int .i64 s, .bool ok, .int .i64 c]) ∧
    ((c ≠ 0 ∧ v = .slice none 0 0 ∧ s = 0 ∧ ok = false) ∨ (c = 0 ∧ ((ok = true ∧ s = (len : Int) ∧ ∃ a cap u, v = .slice a len cap ∧ Row w' a len (fun k => (u k : Nat)) ∧ Feas (nat f) len u ∧ ∀ z, z < len → u z ≤ 50000) ∨ (ok = false ∧ v = .slice none 0 0 ∧ s = 0 ∧ ¬ ∃ P, Feas (nat f) len P))))

theorem RI.feas {g : Nat → Nat} {n M : Nat} {v0 v : Nat → Nat} (h : RI g n M v0 v false n 0) : Feas g n v :=
  ⟨fun x y hx hy hb => by have a1 := h.up x y hx hy (.inl hx) hb; have a2 := h.no rfl y hy; omega, fun x y hx hy hb hb' => by have a1 := h.ap x y hx hy (.inl hx) hb hb'; have a2 := h.no rfl y hy; omega⟩

set_option maxHeartbeats 4000000 in
theorem units_any (n : Int) (a : Option Addr) (len cap : Nat) (f : Nat → Int) (w : World) (hl : len ≤ maxLen) (hr : Row w a len f) :
    Calls Try.prog 22 #[.agg #[.int .i64 n, .slice a len cap]] w fun e w' => UnitsPost n len f e w' ∧ Below w.heap.size w w' := by
  have K0 : Held (w.alloc (.cells #[.int .i64 n, .slice a len cap] 25)) w.heap.size n a len cap f := Held.box hr
  have HB0 : Hid (Below w.heap.size w (w.alloc (.cells #[.int .i64 n, .slice a len cap] 25))) := (Below.refl _ _).alloc (Nat.le_refl _) _
  clear hr
  go_enter Try.func22, Try.ntmps22
  go_wp2_with fail
  refine (check_any n a len cap f _ hl K0.row).mono ?_
  rintro e w1 ⟨⟨c, rfl, hc⟩, hb⟩
  have K1 := K0.step hb
  have HB1 : Hid (Below w.heap.size w w1) := Below.then HB0.out hb
  clear hb K0 HB0
  by_cases h0 : c = 0
  · subst h0
    obtain ⟨rfl, h10, hrng, hord⟩ := hc.good
    have HC : Hid (Chk (len : Int) len f 0) := hc
    obtain ⟨g, HGF⟩ : ∃ g, Hid (g = nat f) := ⟨_, rfl⟩
    have HG0 : Hid (∀ k, k < len → f k = (g k : Nat)) := fun k hk => by rw [HGF.out]; unfold nat; have := hrng k hk; omega
    have hpl := pw_le len h10
    have HG : Hid (∀ k, k < len → g k < 1024) := fun k hk => by rw [HGF.out]; unfold nat; have := hrng k hk; omega
    have HR1 : Hid (Row w1 a len (fun k => (g k : Nat))) := fun k hk => by
      have := K1.row k hk
      rw [HG0.out k hk] at this
      exact this
    have HAB : Hid (∀ bb off, a = some ⟨bb, off, none⟩ → 0 < len → bb ≠ w1.heap.size) := fun bb off e h => by
      obtain ⟨b', off', e', hcc⟩ := HR1.out 0 h
      rw [e] at e'
      simp only [Option.some.injEq, Addr.mk.injEq, and_true] at e'
      obtain ⟨rfl, rfl⟩ := e'
      exact Nat.ne_of_lt (World.block_lt_of_cell? _ _ hcc)
    have k0 := K1.c0
    have k1 := K1.c1
    have HK1 : Hid (Held w1 w.heap.size len a len cap f) := K1
    clear hc hrng hord K1
    obtain ⟨i0, hi, hz0, hz1, hz2⟩ := info_parts Try.info3
    go_wp2_with (at_make; refine wpList_make_full _ rfl _ _ 23 rfl w1.heap.size 3 i0 (.int .i64 0) 1 Try.underlying23 hi hz0 hz1 .i64 .i64 _ _ len rfl rfl rfl rfl (by rw [hz2]; omega) (by unfold maxLen; omega) (Nat.le_refl _) ?_; intro w2 hown2 hgrow2; have hB2 : Below w1.heap.size w1 w2 := (Below.refl _ _).grown hgrow2 (Nat.le_refl _) (by simp); obtain ⟨k20, k21, _⟩ := HK1.out.step hB2; have HO2 : Hid (Own w2 w1.heap.size len (fun _ => 0)) := own_made hown2; have HB2 : Hid (Below w1.heap.size w1 w2) := hB2; clear hown2 hgrow2)
    clear k0 k1 k20 k21
    go_loopw [22] (fun i wx => ∃ (r : Nat) (v : Nat → Nat), r ≤ len + 1 ∧ i = .int .i64 r ∧ Hid (Own wx w1.heap.size len v) ∧ Hid (∀ z, z < len → v z ≤ 2000 * r) ∧ Hid (∀ d, Least g len d → (∀ z, z < len → v z ≤ d z) ∧ r ≤ fin d v len) ∧ Hid (Below w1.heap.size w1 wx)) (fun i _ => len + 1 - (intOf i).toNat)
    case atStart => exact ⟨0, fun _ => 0, Nat.zero_le _, rfl, HO2.out, fun _ _ => Nat.zero_le _, fun _ _ => ⟨fun _ _ => Nat.zero_le _, Nat.zero_le _⟩, HB2.out⟩
    case round =>
      clear HO2 HB2 hB2
      obtain ⟨r, v, hr, rfl, HO, HM, HD, HB⟩ := hrel
      obtain ⟨c0, c1, _⟩ := HK1.out.step HB.out
      by_cases hlt : r < len + 1
      · have hlt' : (r : Int) < (len : Int) + 1 := by omega
        have HC2 := raise_any len a cap g w1.heap.size len (2000 * r) v w1.heap.size w1 wr h10 (by omega) HG.out (HR1.out.below HB.out) HAB.out HO.out HM.out HB.out (Nat.le_refl _) HB.out.size
        go_wp2_with fail
        refine HC2.mono ?_
        rintro e w3 ⟨⟨v1, rr, rfl, hO3, hRI⟩, hB3⟩
        clear HC2
        rcases rr with _ | _
        · have HF : Hid (Feas (nat f) len v1) := by rw [← HGF.out]; exact hRI.feas
          have HU : Hid (∀ z, z < len → v1 z ≤ 50000) := fun z hz => by have := hRI.bd z hz; omega
          have HR3 : Hid (Row w3 (some ⟨w1.heap.size, 0, none⟩) len (fun k => (v1 k : Nat))) := hO3.row
          have HB3 : Hid (Below w.heap.size w w3) := Below.then HB1.out hB3
          clear hRI hO3 hB3 HO HM HD HB c0 c1
          go_wp2_with fail
          exact bodyPost_ret (v := .tuple #[.slice (some ⟨w1.heap.size, 0, none⟩) len len, .int .i64 (len : Int), .bool true, .int .i64 0]) (by simp [results, Try.results22, go_sem]) rfl ⟨⟨0, _, _, _, HC.out, rfl, .inr ⟨rfl, .inl ⟨rfl, rfl, _, _, v1, rfl, HR3.out, HF.out, HU.out⟩⟩⟩, HB3.out⟩
        · have HM3 : Hid (∀ z, z < len → v1 z ≤ 2000 * (r + 1)) := fun z hz => by have := hRI.bd z hz; omega
          have HD3 : Hid (∀ d, Least g len d → (∀ z, z < len → v1 z ≤ d z) ∧ r + 1 ≤ fin d v1 len) := fun d hd => by
            obtain ⟨a1, a2⟩ := HD.out d hd
            have a3 := raised_fin hd hRI.done a1 (hRI.yes rfl)
            exact ⟨hRI.least d hd.feas a1, by omega⟩
          have HO3 : Hid (Own w3 w1.heap.size len v1) := hO3
          have HB3 : Hid (Below w1.heap.size w1 w3) := hB3
          clear hRI hO3 hB3 HO HM HD HB c0 c1
          go_wp2_with fail
          go_roundw
          case rel => exact ⟨r + 1, v1, by omega, by go_num, HO3.out, HM3.out, HD3.out, HB3.out⟩
          case measure => simp [intOf]; omega
      · obtain rfl : r = len + 1 := by omega
        have hge : ¬ ((len + 1 : Nat) : Int) < (len : Int) + 1 := by omega
        have HNO : Hid (¬ ∃ P, Feas (nat f) len P) := fun ⟨P, hP⟩ => by
          rw [← HGF.out] at hP
          obtain ⟨d, hd⟩ := least_of _ P (Nat.le_refl _) hP
          have a1 := (HD.out d hd).2
          have a2 := fin_le d v len
          omega
        have HBE : Hid (Below w.heap.size w wr) := Below.then HB1.out HB.out
        clear HO HM HD HB c0 c1
        go_wp2_with fail
        exact bodyPost_ret (v := .tuple #[.slice none 0 0, .int .i64 0, .bool false, .int .i64 0]) (by simp [results, Try.results22, go_sem]) rfl ⟨⟨0, _, _, _, HC.out, rfl, .inr ⟨rfl, .inr ⟨rfl, rfl, rfl, HNO.out⟩⟩⟩, HBE.out⟩
  · have hne : (c != 0) = true := by simpa using h0
    have HC : Hid (Chk n len f c) := hc
    clear hc
    go_wp2_with fail
    exact bodyPost_ret (v := .tuple #[.slice none 0 0, .int .i64 0, .bool false, .int .i64 c]) (by simp [results, Try.results22, go_sem]) rfl ⟨⟨c, _, _, _, HC.out, rfl, .inl ⟨h0, rfl, rfl, rfl⟩⟩, HB1.out⟩
end Go.Proofs.Ytkknfnjhpamfbaa
