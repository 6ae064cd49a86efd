/-
  What marks.list, convex.Ideals and convex.Ends answer. Conditions: as each theorem says.
-/
import Derived.Test.YtjoklkbfcobfeabDoorAccs
import Derived.Test.YtjoklkbfcobfeabDoorIdealsL
import Derived.Deep.RegionHeld3
namespace Go.Proofs.YtjoklkbfcobfeabDoor
open Go.RowKit

set_option maxHeartbeats 1000000 in
theorem mlist_any (b m : Nat) (M : Nat → Bool) (w : World) (hm : m ≤ 1024) (hM : BOwn w b m M) :
    Calls Tryd.prog 23 #[.slice (some ⟨b, 0, none⟩) m m] w fun e w' => (∃ v, e = .returned v ∧ NSl w' v (fil M m) ∧ NewV w.heap.size v) ∧ Below w.heap.size w w' := by
  have HM : Hid (BOwn w b m M) := hM
  obtain ⟨i0, hi, hz0, hz1, hz2⟩ := info_parts Tryd.info3
  clear hM
  go_enter Tryd.func23, Tryd.ntmps23
  go_wp2_with fail
  go_loopw [3, 8] (fun v i wx => ∃ s : Nat, s ≤ m ∧ i = .int .i64 s ∧ wx.ownsRow w.heap.size 3 1 v (fil M s).length (natVals (fil M s)) ∧ Hid (Below w.heap.size w wx)) (fun _ i _ => m - (intOf i).toNat)
  case atStart => exact ⟨0, Nat.zero_le _, rfl, World.ownsRow_nil _ _ _ _, Below.refl _ _⟩
  case round =>
    obtain ⟨s, hs, rfl, hown, hB⟩ := hrel
    by_cases hlt : s < m
    · have hlt' : (s : Int) < (m : Int) := by omega
      have hcm := ((HM.out.step hB.out) s hlt).1
      rcases (Bool.eq_false_or_eq_true (M s)).symm with hb | hb
      · rw [hb] at hcm
        have HE : Hid (fil M (s + 1) = fil M s) := fil_no hb
        go_wp2_with fail
        go_roundw
        case rel => exact ⟨s + 1, by omega, by go_num, by rw [HE.out]; exact hown, hB⟩
        case measure => simp [intOf]; omega
      · rw [hb] at hcm
        have HE : Hid (fil M (s + 1) = fil M s ++ [s]) := fil_yes hb
        have hlen := fil_len M s
        have hsz := hB.out.size
        obtain ⟨L, HL⟩ : ∃ L, Hid (L = fil M s) := ⟨_, rfl⟩
        rw [← HL.out] at hown hlen
        go_wp2_with (at_builtin; refine wpList_append_own _ rfl _ _ 22 rfl w.heap.size 3 i0 (.int .i64 0) 1 8 Tryd.underlying22 hi hz0 hz1 hz2 rfl (by decide) _ _ _ rfl (hown.alloc _) ⟨wr.heap.size, 0, none⟩ 1 1 [.int .i64 (s : Nat)] rfl rfl ?c1 ?c2 ?c3 ?c4 ?c5 ?_)
        case c1 =>
          intro j u hj
          match j, hj with
          | 0, hj => simp at hj; subst hj; simp [Addr.add]
        case c2 => intro u hu; simp at hu; subst hu; rfl
        case c3 => unfold maxLen; omega
        case c4 => omega
        case c5 => simp; omega
        intro v' w2 hown' hgrow _
        have HB5 : Hid (Below w.heap.size w w2) := below_append3 hB.out hown hgrow
        have HO5 : Hid (w2.ownsRow w.heap.size 3 1 v' (fil M (s + 1)).length (natVals (fil M (s + 1)))) := by
          rw [HE.out, ← HL.out, natVals_append, List.length_append]; exact hown'
        clear hown' hgrow hown hB hlen hsz HL
        go_wp2_with fail
        go_roundw
        case rel => exact ⟨s + 1, by omega, by go_num, HO5.out, HB5.out⟩
        case measure => simp [intOf]; omega
    · obtain rfl : s = m := by omega
      have HF : Hid (NSl wr u3 (fil M s) ∧ NewV w.heap.size u3) := ⟨owns_nats hown, owns_block hown⟩
      clear hown
      go_wp2_with fail
      go_ret
      exact ⟨⟨_, rfl, HF.out.1, HF.out.2⟩, hB.out⟩

/-- A family behind an error, or that of the sets L of len points. -/
def FamIs (len : Nat) (L : List Nat) (c : Int) (x : Value) (w : World) : Prop :=
  (c ≠ 0 ∧ x = .agg #[.int .i64 0, .slice none 0 0]) ∨ (c = 0 ∧ ∃ a cap, x = .agg #[.int .i64 (len : Nat), .slice a L.length cap] ∧ Row w a L.length (fun k => (nth L k : Nat)))
def FamPost (n : Int) (len : Nat) (f : Nat → Int) (L : List Nat) (e : Ending) (w' : World) : Prop :=
  ∃ (c : Int) (x : Value), Chk n len f c ∧ e = .returned (.tuple #[x, .int .i64 c]) ∧ FamIs len L c x w'
theorem ZBox.newF (w : World) : ZBox (w.alloc (.cells #[.int .i64 0, .slice none 0 0] 24)) w.heap.size :=
  ⟨by simp, by simp, World.frozen?_alloc_at _ _ _ _ rfl, World.frozen?_alloc_at _ _ _ _ rfl⟩
theorem row_new {X : World} {B m cap : Nat} {a : Option Addr} {F : Nat → Int} {u v : Value} (h : Row X a m F) (hn : NewV (B + 1) (.slice a m cap)) :
    Row ((X.setCell ⟨B, 0, none⟩ u).setCell ⟨B, 1, none⟩ v) a m F := by
  refine row_set2 h (fun hm => ?_)
  obtain ⟨b, off, rfl, _⟩ := h 0 hm
  exact ⟨b, off, rfl, hn b rfl⟩

set_option maxHeartbeats 1000000 in
theorem cIdeals_any (n : Int) (a : Option Addr) (len cap : Nat) (f : Nat → Int) (w : World) (hl : len ≤ maxLen) (hr : Row w a len f) :
    Calls Tryd.prog 11 #[.agg #[.int .i64 n, .slice a len cap]] w fun e w' => FamPost n len f (idls (nat f) len) e w' ∧ Below w.heap.size w w' := by
  obtain ⟨W0, HW0⟩ : ∃ W0, Hid (W0 = (w.alloc (.cells #[.int .i64 n, .slice a len cap] 35)).alloc (.cells #[.int .i64 0, .slice none 0 0] 24)) := ⟨_, rfl⟩
  have HB0 : Hid (Below w.heap.size w W0) := by rw [HW0.out]; exact ((Below.refl _ _).alloc (Nat.le_refl _) _).alloc (by simp) _
  have K0 : Held W0 w.heap.size n a len cap f := by rw [HW0.out]; exact (Held.box hr).step ((Below.refl _ _).alloc (Nat.le_refl _) _)
  have Z0 : ZBox W0 (w.heap.size + 1) := by rw [HW0.out]; have := ZBox.newF (w.alloc (.cells #[.int .i64 n, .slice a len cap] 35)); rw [World.size_alloc] at this; exact this
  have HS0 : Hid (w.heap.size + 1 < W0.heap.size) := World.block_lt_of_cell? _ _ Z0.1
  have k0 := K0.c0
  have k1 := K0.c1
  clear hr
  go_enter Tryd.func11, Tryd.ntmps11
  go_wp2_with fail
  rw [← HW0.out]
  refine (ideals_any n a len cap f W0 hl K0.row).mono ?_
  rintro e w1 ⟨⟨c, v, hc, rfl, hv⟩, hb1⟩
  have HB1 : Hid (Below w.heap.size w w1) := Below.then HB0.out hb1
  have K1 := K0.step hb1
  have Z1 := Z0.step hb1
  clear hb1 k0 k1
  have k0 := K1.c0
  obtain ⟨r0, r1, r2, r3⟩ := Z1
  have HC : Hid (Chk n len f c) := hc
  rcases hv with ⟨h0, rfl⟩ | ⟨rfl, ⟨a1, cap1, rfl, hr1⟩, hnew⟩
  · have hne : (c != 0) = true := by simpa using h0
    clear hc
    go_wp2_with fail
    exact bodyPost_ret (v := .tuple #[.agg #[.int .i64 0, .slice none 0 0], .int .i64 c]) (by simp [results, Tryd.results11, go_sem, r0, r1]) rfl ⟨⟨c, _, HC.out, rfl, .inl ⟨h0, rfl⟩⟩, set2B HB1.out (by omega)⟩
  · obtain ⟨rfl, h10, _, _⟩ := hc.good
    have HRR : Hid (Row ((w1.setCell ⟨w.heap.size + 1, 0, none⟩ (.int .i64 (len : Int))).setCell ⟨w.heap.size + 1, 1, none⟩ (.slice a1 (idls (nat f) len).length cap1)) a1 (idls (nat f) len).length (fun k => (nth (idls (nat f) len) k : Nat))) := row_new hr1 (fun k hk => by have h1 := hnew k hk; have h2 := HS0.out; omega)
    clear hc hr1 hnew
    go_wp2_with fail
    exact bodyPost_ret (v := .tuple #[.agg #[.int .i64 (len : Nat), .slice a1 (idls (nat f) len).length cap1], .int .i64 0]) (by simp [results, Tryd.results11, go_sem, r0, r1]) rfl ⟨⟨0, _, HC.out, rfl, .inr ⟨rfl, _, _, rfl, HRR.out⟩⟩, set2B HB1.out (by omega)⟩
end Go.Proofs.YtjoklkbfcobfeabDoor
