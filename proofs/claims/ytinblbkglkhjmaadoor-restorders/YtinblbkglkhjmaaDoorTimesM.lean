/-
  What order.Over answers, whatever it is handed. Conditions: slices read as slices of numbers; a nil one has no room.
  Pairs of points: the set of pairs up to one of them, as order.pairsUpTo makes it, and as the document says it. Plain facts: no Go text here. Conditions: as each theorem says.
-/
import Derived.Test.YtinblbkglkhjmaaDoorBeside
import Derived.Test.YtinblbkglkhjmaaDoorWoU
namespace Go.Proofs.YtinblbkglkhjmaaDoor
open Go.RowKit

theorem o5_step {w w1 w2 : World} {b0 b1 : Nat} {u0 u1 u2 u3 : Value}
    (h : w1.cell? ⟨b0, 0, none⟩ = some u0 ∧ w1.cell? ⟨b0, 1, none⟩ = some u1 ∧ w1.cell? ⟨b1, 0, none⟩ = some u2 ∧ w1.cell? ⟨b1, 1, none⟩ = some u3 ∧ Below w.heap.size w w1)
    (hb : Below w1.heap.size w1 w2) :
    w2.cell? ⟨b0, 0, none⟩ = some u0 ∧ w2.cell? ⟨b0, 1, none⟩ = some u1 ∧ w2.cell? ⟨b1, 0, none⟩ = some u2 ∧ w2.cell? ⟨b1, 1, none⟩ = some u3 ∧ Below w.heap.size w w2 := by
  obtain ⟨h1, h2, h3, h4, h6⟩ := h
  exact ⟨(hb.cell (World.block_lt_of_cell? _ _ h1)).trans h1, (hb.cell (World.block_lt_of_cell? _ _ h2)).trans h2, (hb.cell (World.block_lt_of_cell? _ _ h3)).trans h3, (hb.cell (World.block_lt_of_cell? _ _ h4)).trans h4, Below.then h6 hb⟩
theorem o5_below {w w1 : World} {b0 b1 : Nat} {u0 u1 u2 u3 : Value}
    (h : w1.cell? ⟨b0, 0, none⟩ = some u0 ∧ w1.cell? ⟨b0, 1, none⟩ = some u1 ∧ w1.cell? ⟨b1, 0, none⟩ = some u2 ∧ w1.cell? ⟨b1, 1, none⟩ = some u3 ∧ Below w.heap.size w w1) : Below w.heap.size w w1 := h.2.2.2.2
theorem o5_set2 {w w1 : World} {u0 u1 u2 u3 x y : Value}
    (h : w1.cell? ⟨w.heap.size, 0, none⟩ = some u0 ∧ w1.cell? ⟨w.heap.size, 1, none⟩ = some u1 ∧ w1.cell? ⟨w.heap.size + 1, 0, none⟩ = some u2 ∧ w1.cell? ⟨w.heap.size + 1, 1, none⟩ = some u3 ∧ Below w.heap.size w w1) :
    ((w1.setCell ⟨w.heap.size + 1 + 1, 0, none⟩ x).setCell ⟨w.heap.size + 1 + 1, 1, none⟩ y).cell? ⟨w.heap.size, 0, none⟩ = some u0 ∧ ((w1.setCell ⟨w.heap.size + 1 + 1, 0, none⟩ x).setCell ⟨w.heap.size + 1 + 1, 1, none⟩ y).cell? ⟨w.heap.size, 1, none⟩ = some u1 ∧ ((w1.setCell ⟨w.heap.size + 1 + 1, 0, none⟩ x).setCell ⟨w.heap.size + 1 + 1, 1, none⟩ y).cell? ⟨w.heap.size + 1, 0, none⟩ = some u2 ∧ ((w1.setCell ⟨w.heap.size + 1 + 1, 0, none⟩ x).setCell ⟨w.heap.size + 1 + 1, 1, none⟩ y).cell? ⟨w.heap.size + 1, 1, none⟩ = some u3 ∧ Below w.heap.size w ((w1.setCell ⟨w.heap.size + 1 + 1, 0, none⟩ x).setCell ⟨w.heap.size + 1 + 1, 1, none⟩ y) := by
  have key : ∀ (b o : Nat), b < w.heap.size + 2 → ((w1.setCell ⟨w.heap.size + 1 + 1, 0, none⟩ x).setCell ⟨w.heap.size + 1 + 1, 1, none⟩ y).cell? ⟨b, o, none⟩ = w1.cell? ⟨b, o, none⟩ := fun b o hb => by
    rw [World.cell?_setCell_other _ _ _ _ (fun e => by injection e with e1; omega), World.cell?_setCell_other _ _ _ _ (fun e => by injection e with e1; omega)]
  obtain ⟨h1, h2, h3, h4, h6⟩ := h
  exact ⟨(key _ _ (by omega)).trans h1, (key _ _ (by omega)).trans h2, (key _ _ (by omega)).trans h3, (key _ _ (by omega)).trans h4, set2B h6 (by omega)⟩
theorem OrdErr.set2 {c n : Int} {len : Nat} {F : Nat → Int} {x : Value} {X : World} {B : Nat} {u v : Value} (h : OrdErr c n len F x X) (hf : OrdFresh (B + 1) x) : OrdErr c n len F x ((X.setCell ⟨B, 0, none⟩ u).setCell ⟨B, 1, none⟩ v) := by
  rcases h with h | ⟨h0, a, cap, hx, hr⟩
  · exact .inl h
  · exact .inr ⟨h0, a, cap, hx, row_set2 hr (hf _ _ _ _ hx)⟩
theorem ordErr_form {c n : Int} {len : Nat} {F : Nat → Int} {x : Value} {w : World} (h : OrdErr c n len F x w) : ∃ n' a l cap, x = .agg #[.int .i64 n', .slice a l cap] := by
  rcases h with ⟨_, rfl⟩ | ⟨_, a, cap, rfl, _⟩
  · exact ⟨0, none, 0, 0, rfl⟩
  · exact ⟨n, a, len, cap, rfl⟩

set_option maxHeartbeats 2000000 in
theorem over_any (n1 : Int) (a1 : Option Addr) (len1 cap1 : Nat) (f1 : Nat → Int) (n2 : Int) (a2 : Option Addr) (len2 cap2 : Nat) (f2 : Nat → Int) (w : World) (hl1 : len1 ≤ maxLen) (hl2 : len2 ≤ maxLen)
    (hz : a1 = none → len1 = 0 ∧ cap1 = 0) (hr1 : Row w a1 len1 f1) (hr2 : Row w a2 len2 f2) :
    Calls Tryd.prog 9 #[.agg #[.int .i64 n1, .slice a1 len1 cap1], .agg #[.int .i64 n2, .slice a2 len2 cap2]] w fun e w' => BesidePost w.heap.size (fun m => pw m - 1) n1 len1 f1 n2 len2 f2 e w' ∧ Below w.heap.size w w' := by
  obtain ⟨W3, HW⟩ : ∃ W3, Hid (W3 = ((w.alloc (.cells #[.int .i64 n1, .slice a1 len1 cap1] 24)).alloc (.cells #[.int .i64 n2, .slice a2 len2 cap2] 24)).alloc (.cells #[.int .i64 0, .slice none 0 0] 24)) := ⟨_, rfl⟩
  have b1 := (Below.refl w.heap.size w).alloc (Nat.le_refl _) (.cells #[.int .i64 n1, .slice a1 len1 cap1] 24)
  have X3 := ((Box.new w n1 a1 len1 cap1).step ((Below.refl _ _).alloc (Nat.le_refl _) (.cells #[.int .i64 n2, .slice a2 len2 cap2] 24))).step ((Below.refl _ _).alloc (Nat.le_refl _) (.cells #[.int .i64 0, .slice none 0 0] 24))
  have Y3 := (Box.new (w.alloc (.cells #[.int .i64 n1, .slice a1 len1 cap1] 24)) n2 a2 len2 cap2).step ((Below.refl _ _).alloc (Nat.le_refl _) (.cells #[.int .i64 0, .slice none 0 0] 24))
  have Z3 := ZBox.new ((w.alloc (.cells #[.int .i64 n1, .slice a1 len1 cap1] 24)).alloc (.cells #[.int .i64 n2, .slice a2 len2 cap2] 24))
  simp only [World.size_alloc] at Y3 Z3
  have hbw : Below w.heap.size w W3 := by rw [HW.out]; exact (b1.alloc (by simp) _).alloc (by simp; omega) _
  rw [← HW.out] at X3 Y3 Z3
  have hsz : w.heap.size + 3 = W3.heap.size := by rw [HW.out]; simp
  have bW := (Below.refl W3.heap.size W3).alloc (Nat.le_refl _) (.cells #[.int .i64 n1, .slice a1 len1 cap1, .int .i64 n2, .slice a2 len2 cap2] 24)
  have R1 := (hr1.below hbw).below bW
  have R2 := (hr2.below hbw).below bW
  have T4 := two_new W3 n1 a1 len1 cap1 n2 a2 len2 cap2
  have X4 := X3.step bW
  have Y4 := Y3.step bW
  have Z4 := Z3.step bW
  have HB4 : Hid (Below w.heap.size w (W3.alloc (.cells #[.int .i64 n1, .slice a1 len1 cap1, .int .i64 n2, .slice a2 len2 cap2] 24))) := hbw.alloc hbw.size _
  obtain ⟨x30, x31⟩ := X3
  obtain ⟨y30, y31⟩ := Y3
  clear b1 bW hbw Z3
  go_enter Tryd.func9, Tryd.ntmps9
  go_wp2_with fail
  rw [← HW.out]
  refine (checkAll_any n1 a1 len1 cap1 f1 n2 a2 len2 cap2 f2 W3.heap.size _ hl1 hl2 T4 R1 R2).mono ?_
  rintro e w5 ⟨⟨c, rfl, hc⟩, hb⟩
  have X5 := X4.step hb
  have Y5 := Y4.step hb
  have Z5 := Z4.step hb
  have Q1 := R1.below hb
  have Q2 := R2.below hb
  have HB5 : Hid (Below w.heap.size w w5) := Below.then HB4.out hb
  clear hb X4 Y4 Z4 R1 R2 T4 HB4 x30 x31 y30 y31 HW
  by_cases h0 : c = 0
  · subst h0
    obtain ⟨g1, g2⟩ := hc.good
    obtain ⟨rfl, h10, hrng1, _⟩ := g1.good
    obtain ⟨rfl, h20, hrng2, _⟩ := g2.good
    have HC : Hid (Chk2 (len1 : Int) len1 f1 (len2 : Int) len2 f2 0) := hc
    have KK : w5.drew.cell? ⟨w.heap.size, 0, none⟩ = some (.int .i64 (len1 : Int)) ∧ w5.drew.cell? ⟨w.heap.size, 1, none⟩ = some (.slice a1 len1 cap1) ∧ w5.drew.cell? ⟨w.heap.size + 1, 0, none⟩ = some (.int .i64 (len2 : Int)) ∧ w5.drew.cell? ⟨w.heap.size + 1, 1, none⟩ = some (.slice a2 len2 cap2) ∧ Below w.heap.size w w5.drew := ⟨X5.1, X5.2, Y5.1, Y5.2, HB5.out.drew⟩
    have HR1 : Hid (Row w a1 len1 (fun k => (nat f1 k : Nat))) := hrng1.row hr1
    have HR2 : Hid (Row w a2 len2 (fun k => (nat f2 k : Nat))) := hrng2.row hr2
    have HZ5 : Hid (ZBox w5.drew (w.heap.size + 2)) := Z5
    have hl6 : w.heap.size + 2 < w5.heap.size := World.block_lt_of_cell? _ _ Z5.1
    have HS2 : Hid (∀ k, k < len2 → nat f2 k < pw len2) := hrng2.small
    have HPP : Hid (pw len1 - 1 < pw len1) := Nat.sub_lt (pw_pos len1) (by decide)
    have HPI : Hid (((pw len1 : Nat) : Int) - 1 = ((pw len1 - 1 : Nat) : Int)) := by have := pw_pos len1; show ((pw len1 : Nat) : Int) - 1 = ((pw len1 - 1 : Nat) : Int); omega
    clear hc g1 g2 X5 Y5 Z5 Q1 Q2 hrng1 hrng2 HB5 hr1 hr2
    go_wp2_with fail
    go_region_held3 (fun w' => w'.cell? ⟨w.heap.size, 0, none⟩ = some (.int .i64 (len1 : Int)) ∧ w'.cell? ⟨w.heap.size, 1, none⟩ = some (.slice a1 len1 cap1) ∧ w'.cell? ⟨w.heap.size + 1, 0, none⟩ = some (.int .i64 (len2 : Int)) ∧ w'.cell? ⟨w.heap.size + 1, 1, none⟩ = some (.slice a2 len2 cap2) ∧ Below w.heap.size w w')
      (first | exact KK | assumption | exact o5_step (by assumption) (by assumption) | exact o5_set2 (by assumption))
      (first
        | (go_at_call 25; refine (all_any len1 _ h10).mono ?_; rintro e w' ⟨rfl, rfl⟩; rw [HPI.out])
        | (go_at_call 24; refine (join_any a1 len1 cap1 (nat f1) a2 len2 cap2 (nat f2) (pw len1 - 1) _ h10 h20 HS2.out HPP.out hz (HR1.out.below (o5_below (by assumption))) (HR2.out.below (o5_below (by assumption)))).mono ?_; rintro e w6 ⟨⟨c6, x6, rfl, hc6, hx6, hf6, hw6⟩, hb⟩; obtain ⟨r0, r1, r2, r3⟩ := HZ5.out.step hb; obtain ⟨n6, a6, l6, cap6, hx6e⟩ := ordErr_form hx6; subst hx6e))
    all_goals go_wp2
    refine bodyPost_ret (v := .tuple #[.agg #[.int .i64 n6, .slice a6 l6 cap6], .int .i64 c6]) ?_ rfl ⟨⟨c6, _, .inr ⟨HC.out, hc6⟩, rfl, hx6.set2 ?_, ?_⟩, ?_⟩
    · simp [results, Tryd.results9, go_sem, r0, r1]
    · exact fun n a len cap e => (hf6 n a len cap e).mono hl6
    · exact wrb_set2 (wrb_mono hw6 (Nat.le_trans (Nat.le_add_right _ 3) hl6))
    · exact o5_below (by assumption)
  · have hne : (c != 0) = true := by simpa using h0
    obtain ⟨r0, r1, r2, r3⟩ := Z5
    have HJ : Hid (JChk n1 len1 f1 n2 len2 f2 c) := .inl ⟨h0, hc⟩
    clear hc
    go_wp2_with fail
    exact bodyPost_ret (v := .tuple #[noOrder, .int .i64 c]) (by simp [results, Tryd.results9, go_sem, noOrder, r0, r1]) rfl ⟨⟨c, _, HJ.out, rfl, .inl ⟨h0, rfl⟩, wrb_set2 (wrb_no _ _)⟩, set2B HB5.out (by omega)⟩
end Go.Proofs.YtinblbkglkhjmaaDoor
namespace Go.Proofs.YtinblbkglkhjmaaDoor
open Go.RowKit

theorem pw_add (a b : Nat) : pw (a + b) = pw a * pw b := Nat.pow_add 2 a b
theorem pts_mem (s : Nat) : ∀ k i, i ∈ pts s k ↔ i < k ∧ s.testBit i = true
  | 0, i => by simp [pts]
  | k + 1, i => by
    have ih := pts_mem s k i
    cases hb : s.testBit k
    · rw [pts_no hb, ih]
      constructor
      · rintro ⟨h1, h2⟩; exact ⟨by omega, h2⟩
      · rintro ⟨h1, h2⟩
        refine ⟨?_, h2⟩
        by_cases e : i = k
        · subst e; rw [hb] at h2; cases h2
        · omega
    · rw [pts_yes hb, List.mem_append, ih]
      constructor
      · rintro (⟨h1, h2⟩ | h)
        · exact ⟨by omega, h2⟩
        · simp at h; subst h; exact ⟨by omega, hb⟩
      · rintro ⟨h1, h2⟩
        by_cases e : i = k
        · subst e; exact .inr (by simp)
        · exact .inl ⟨by omega, h2⟩
theorem nth_mem {l : List Nat} {q : Nat} : q ∈ l ↔ ∃ j, j < l.length ∧ nth l j = q := by
  constructor
  · intro h
    obtain ⟨j, hj, e⟩ := List.getElem_of_mem h
    exact ⟨j, hj, by simp [nth, hj, e]⟩
  · rintro ⟨j, hj, e⟩
    have : nth l j = l[j] := by simp [nth, hj]
    rw [← e, this]
    exact List.getElem_mem hj

def prsTo (row n2 : Nat) (L : List Nat) : Nat → Nat
  | 0 => 0
  | k + 1 => prsTo row n2 L k ||| row * pw (nth L k * n2)
theorem shift_bit (row q z : Nat) : (row * pw q).testBit z = (decide (q ≤ z) && row.testBit (z - q)) := Nat.testBit_mul_two_pow row z q
theorem prsTo_bit (row n2 : Nat) (L : List Nat) (z : Nat) : ∀ k, (prsTo row n2 L k).testBit z = true ↔ ∃ j, j < k ∧ nth L j * n2 ≤ z ∧ row.testBit (z - nth L j * n2) = true
  | 0 => by simp [prsTo]
  | k + 1 => by
    rw [prsTo, Nat.testBit_or, Bool.or_eq_true, prsTo_bit row n2 L z k, shift_bit, Bool.and_eq_true, decide_eq_true_eq]
    constructor
    · rintro (⟨j, hj, h⟩ | h)
      · exact ⟨j, by omega, h⟩
      · exact ⟨k, by omega, h⟩
    · rintro ⟨j, hj, h⟩
      by_cases e : j = k
      · subst e; exact .inr h
      · exact .inl ⟨j, by omega, h⟩
theorem shift_lt {row n1 n2 q : Nat} (hr : row < pw n2) (hq : q < n1) : row * pw (q * n2) < pw (n1 * n2) := by
  have h1 : row * pw (q * n2) < pw n2 * pw (q * n2) := Nat.mul_lt_mul_of_pos_right hr (pw_pos _)
  have h2 : pw n2 * pw (q * n2) = pw (n2 + q * n2) := (pw_add _ _).symm
  have h3 : n2 + q * n2 ≤ n1 * n2 := by
    have : (q + 1) * n2 ≤ n1 * n2 := Nat.mul_le_mul_right _ hq
    rw [Nat.succ_mul] at this
    omega
  have h4 : pw (n2 + q * n2) ≤ pw (n1 * n2) := Nat.pow_le_pow_right (by decide) h3
  rw [h2] at h1
  exact Nat.lt_of_lt_of_le h1 h4
theorem prsTo_lt {row n1 n2 : Nat} {L : List Nat} (hr : row < pw n2) (hL : ∀ j, j < L.length → nth L j < n1) : ∀ k, k ≤ L.length → prsTo row n2 L k < pw (n1 * n2)
  | 0, _ => pw_pos _
  | k + 1, hk => Nat.or_lt_two_pow (prsTo_lt hr hL k (by omega)) (shift_lt hr (hL k (by omega)))

def upB (g : Nat → Nat) (a b : Nat) : Bool := (a == b) || (g b).testBit a
def tmP (g1 g2 : Nat → Nat) (n2 z t : Nat) : Bool := (z != t) && upB g1 (z / n2) (t / n2) && upB g2 (z % n2) (t % n2)
/-- The set of the pair t, as the document says it. -/
def tms (g1 g2 : Nat → Nat) (n1 n2 t : Nat) : Nat := setBy (fun z => tmP g1 g2 n2 z t) (n1 * n2)
/-- The set of the pair t, as the program makes it. -/
def tmq (g1 g2 : Nat → Nat) (n2 t : Nat) : Nat := lack (prsTo (g2 (t % n2) ||| pw (t % n2)) n2 (pts (g1 (t / n2) ||| pw (t / n2)) 10) (pts (g1 (t / n2) ||| pw (t / n2)) 10).length) (pw t)
theorem up_bit (g : Nat → Nat) (a b : Nat) : (g b ||| pw b).testBit a = upB g a b := by
  rw [Nat.testBit_or, pw_bit, upB, Bool.or_comm]
  congr 1
  rw [Bool.eq_iff_iff]; simp; exact eq_comm
theorem tm_eq {g1 g2 : Nat → Nat} {n1 n2 t : Nat} (hN : n1 * n2 ≤ 10) (h1 : ∀ k, k < n1 → g1 k < pw n1) (h2 : ∀ k, k < n2 → g2 k < pw n2) (hn1 : n1 ≤ 10) (ht : t < n1 * n2) : tmq g1 g2 n2 t = tms g1 g2 n1 n2 t := by
  have hn2 : 0 < n2 := by
    rcases Nat.eq_zero_or_pos n2 with h | h
    · rw [h, Nat.mul_zero] at ht; omega
    · exact h
  have hx : t / n2 < n1 := Nat.div_lt_of_lt_mul (by rw [Nat.mul_comm]; exact ht)
  have hy : t % n2 < n2 := Nat.mod_lt _ hn2
  have hs : g1 (t / n2) ||| pw (t / n2) < pw n1 := Nat.or_lt_two_pow (h1 _ hx) (Nat.pow_lt_pow_right (by decide) hx)
  have hr : g2 (t % n2) ||| pw (t % n2) < pw n2 := Nat.or_lt_two_pow (h2 _ hy) (Nat.pow_lt_pow_right (by decide) hy)
  have hb1 := up_bit g1 (b := t / n2)
  have hb2 := up_bit g2 (b := t % n2)
  unfold tmq tms
  generalize g1 (t / n2) ||| pw (t / n2) = s at *
  generalize g2 (t % n2) ||| pw (t % n2) = row at *
  have hL : ∀ j, j < (pts s 10).length → nth (pts s 10) j < n1 := fun j hj => by
    have := (pts_mem s 10 _).1 (nth_mem.2 ⟨j, hj, rfl⟩)
    exact bit_of_lt hs this.2
  have hP := prsTo_lt (n1 := n1) hr hL _ (Nat.le_refl _)
  have hpt : pw t < pw (n1 * n2) := Nat.pow_lt_pow_right (by decide) ht
  have hpN := pw_le (n1 * n2) hN
  refine eq_of_bits (n := n1 * n2) (Nat.lt_of_le_of_lt (lack_le _ _) hP) (setBy_lt _ _) fun z hz => ?_
  rw [lack_bit _ _ _ (by omega) (by omega), setBy_bit, pw_bit, Bool.eq_iff_iff]
  have hzq : z / n2 < n1 := Nat.div_lt_of_lt_mul (by rw [Nat.mul_comm]; exact hz)
  have key : (prsTo row n2 (pts s 10) (pts s 10).length).testBit z = true ↔ s.testBit (z / n2) = true ∧ row.testBit (z % n2) = true := by
    rw [prsTo_bit]
    constructor
    · rintro ⟨j, hj, hle, hb⟩
      have hlt := bit_of_lt hr hb
      have hq : z / n2 = nth (pts s 10) j := by
        rw [Nat.div_eq_iff hn2]
        have e := Nat.mul_comm (nth (pts s 10) j) n2
        omega
      have hm : z % n2 = z - nth (pts s 10) j * n2 := by
        have := Nat.div_add_mod z n2
        rw [hq, Nat.mul_comm] at this
        omega
      rw [hq, hm]
      exact ⟨((pts_mem s 10 _).1 (nth_mem.2 ⟨j, hj, rfl⟩)).2, hb⟩
    · rintro ⟨k1, k2⟩
      obtain ⟨j, hj, e⟩ := nth_mem.1 ((pts_mem s 10 (z / n2)).2 ⟨by omega, k1⟩)
      have := Nat.div_add_mod z n2
      rw [Nat.mul_comm] at this
      refine ⟨j, hj, by rw [e]; omega, ?_⟩
      rw [e, show z - z / n2 * n2 = z % n2 by omega]
      exact k2
  simp only [Bool.and_eq_true, Bool.not_eq_true', decide_eq_false_iff_not, decide_eq_true_eq, tmP, bne_iff_ne, ne_eq]
  rw [key, hb1, hb2]
  constructor
  · rintro ⟨⟨k1, k2⟩, k3⟩
    exact ⟨hz, ⟨fun e => k3 e.symm, k1⟩, k2⟩
  · rintro ⟨_, ⟨k3, k1⟩, k2⟩
    exact ⟨⟨k1, k2⟩, fun e => k3 e.symm⟩
end Go.Proofs.YtinblbkglkhjmaaDoor
