/-
  What space.Turns answers, whatever it is handed: the document's X2. Condition: the table of the least bits.
-/
import Derived.Test.YtggngpnenbjidaaDoorTurP
namespace Go.Proofs.YtggngpnenbjidaaDoor
open Go.RowKit Go.Maps

/-- As many as come of it. -/
def TrnIs (g : Nat → Nat) (len s : Nat) (x : Int) : Prop :=
  ∃ M : Nat → Bool, (∀ y, M y = true ↔ Rch (clo g) (rst len) s y) ∧ (∀ y, M y = true → y < pw len) ∧ x = ((cntT M (pw len) : Nat) : Int)
def TrnPost (n : Int) (len : Nat) (f : Nat → Int) (s : Int) (e : Ending) : Prop :=
  ∃ c x : Int, e = .returned (.tuple #[.int .i64 x, .int .i64 c]) ∧ SCk n len f s c ∧ ((c ≠ 0 ∧ x = 0) ∨ (c = 0 ∧ TrnIs (nat f) len s.toNat x))

theorem bel_one (w : World) (o : Obj) : Below w.heap.size w (w.alloc o) := (Below.refl _ _).alloc (Nat.le_refl _) _
theorem newAt (w : World) (v : Value) (t : TypeId) : (w.alloc (.cells #[v] t)).cell? ⟨w.heap.size, 0, none⟩ = some v := by simp

set_option maxHeartbeats 2000000 in
theorem turns_any (n : Int) (a : Option Addr) (len cap : Nat) (f : Nat → Int) (s : Int) (w : World) (hl : len ≤ maxLen) (hr : Row w a len f) (hT : Tab w) :
    Calls Tryd.prog 24 #[.agg #[.int .i64 n, .slice a len cap], .int .i64 s] w fun e w' => TrnPost n len f s e ∧ Below w.heap.size w w' := by
  have HB0 : Hid (Below w.heap.size w (w.alloc (.cells #[.int .i64 n, .slice a len cap] 24))) := (Below.refl _ _).alloc (Nat.le_refl _) _
  have K0 : Hid (Held (w.alloc (.cells #[.int .i64 n, .slice a len cap] 24)) w.heap.size n a len cap f) := Held.box hr
  have HT0 : Hid (Tab (w.alloc (.cells #[.int .i64 n, .slice a len cap] 24))) := hT.step HB0.out
  clear hr hT
  have k0 := K0.out.c0
  have k1 := K0.out.c1
  have hmm := @run_makeMap Tryd.prog
  go_enter Tryd.func24, Tryd.ntmps24
  go_wp2_with fail
  refine (sCheck_any n a len cap f s _ hl K0.out.row).mono ?_
  rintro e w1 ⟨⟨c, rfl, hc⟩, hb1⟩
  have HB1 : Hid (Below w.heap.size w w1) := Below.then HB0.out hb1
  have K1 : Hid (Held w1 w.heap.size n a len cap f) := K0.out.step hb1
  have HT1 : Hid (Tab w1) := HT0.out.step hb1
  have HC : Hid (SCk n len f s c) := hc
  clear hb1 HB0 K0 k0 k1 HT0
  by_cases h0 : c = 0
  · subst h0
    obtain ⟨hck, x, rfl, hx⟩ := hc.good
    obtain ⟨rfl, h10, hrng, hord⟩ := hck.good
    have HK : Hid (Held w1 w.heap.size len a len cap (fun k => ((nat f k : Nat) : Int))) := ⟨K1.out.c0, K1.out.c1, hrng.row K1.out.row⟩
    have HS : Hid (∀ k, k < len → nat f k < pw len) := hrng.small
    clear hc hck hrng hord
    have hbm : Below w1.heap.size w1 (w1.alloc (.map #[] 0)) := bel_one w1 _
    have hb7 : Below (w1.alloc (.map #[] 0)).heap.size (w1.alloc (.map #[] 0)) ((w1.alloc (.map #[] 0)).alloc (.cells #[.map (some w1.heap.size)] 65)) := bel_one _ _
    have hb8 := bel_one ((w1.alloc (.map #[] 0)).alloc (.cells #[.map (some w1.heap.size)] 65)) (.cells #[.func (.func 51) #[] #[.pointer (some ⟨w1.heap.size + 1, 0, none⟩), .pointer (some ⟨w1.heap.size + 1 + 1, 0, none⟩), .pointer (some ⟨w.heap.size, 0, none⟩)]] 66)
    have HTK := (show Hid (TOk (pw len) _ _ _ _ _) from ((TOk.made (pw len) w1).below2 hb7).below2 hb8)
    have HBX := (show Hid (Below w1.heap.size w1 _) from Below.then (Below.then hbm hb7) hb8)
    have HC7 : Hid ((((w1.alloc (.map #[] 0)).alloc (.cells #[.map (some w1.heap.size)] 65)).alloc (.cells #[.func (.func 51) #[] #[.pointer (some ⟨w1.heap.size + 1, 0, none⟩), .pointer (some ⟨w1.heap.size + 1 + 1, 0, none⟩), .pointer (some ⟨w.heap.size, 0, none⟩)]] 66)).cell? ⟨w1.heap.size + 1, 0, none⟩ = some (.map (some w1.heap.size))) := by
      have h := newAt (w1.alloc (.map #[] 0)) (.map (some w1.heap.size)) 65
      rw [World.size_alloc] at h
      exact (hb8.cell (World.block_lt_of_cell? _ _ h)).trans h
    have HC8 : Hid ((((w1.alloc (.map #[] 0)).alloc (.cells #[.map (some w1.heap.size)] 65)).alloc (.cells #[.func (.func 51) #[] #[.pointer (some ⟨w1.heap.size + 1, 0, none⟩), .pointer (some ⟨w1.heap.size + 1 + 1, 0, none⟩), .pointer (some ⟨w.heap.size, 0, none⟩)]] 66)).cell? ⟨w1.heap.size + 1 + 1, 0, none⟩ = some (.func (.func 51) #[] #[.pointer (some ⟨w1.heap.size + 1, 0, none⟩), .pointer (some ⟨w1.heap.size + 1 + 1, 0, none⟩), .pointer (some ⟨w.heap.size, 0, none⟩)])) := by
      have h := newAt ((w1.alloc (.map #[] 0)).alloc (.cells #[.map (some w1.heap.size)] 65)) (.func (.func 51) #[] #[.pointer (some ⟨w1.heap.size + 1, 0, none⟩), .pointer (some ⟨w1.heap.size + 1 + 1, 0, none⟩), .pointer (some ⟨w.heap.size, 0, none⟩)]) 66
      rw [World.size_alloc, World.size_alloc] at h
      exact h
    have HSZ : Hid (w.heap.size ≤ w1.heap.size) := HB1.out.size
    clear hbm hb7 hb8
    go_wp2_with fail
    generalize ((w1.alloc (.map #[] 0)).alloc (.cells #[.map (some w1.heap.size)] 65)).alloc (.cells #[.func (.func 51) #[] #[.pointer (some ⟨w1.heap.size + 1, 0, none⟩), .pointer (some ⟨w1.heap.size + 1 + 1, 0, none⟩), .pointer (some ⟨w.heap.size, 0, none⟩)]] 66) = W3 at *
    have hpl := pw_le len h10
    refine (turn1_any a len cap (nat f) w.heap.size (w1.heap.size + 1) (w1.heap.size + 1 + 1) w1.heap.size h10 HS.out (pw len) (fun _ => false) _ 0 x W3 (by omega) hx HTK.out (by rw [cntT_none]; omega) (HK.out.step HBX.out) HC8.out HC7.out (HT1.out.step HBX.out)).mono ?_
    rintro e w4 ⟨rfl, M', D', t', hk', _, hmet, hbut⟩
    have HB4 : Hid (Below w.heap.size w w4) := hbut.belowOf (Below.then HB1.out HBX.out) HSZ.out (Nat.le_trans HSZ.out HBX.out.size)
    have c7 := hbut.keep HTK.out HC7.out
    have hown := hk'.own
    have hcnt := hk'.cnt
    have HI : Hid (TrnIs (nat f) len x ((cntT M' (pw len) : Nat) : Int)) := ⟨M', hmet.all, hmet.small, rfl⟩
    clear hk' hmet hbut HTK HBX HC7 HC8 HK HT1 K1 HB1
    go_wp2_with (at_len; refine wpList_len_own _ rfl _ 65 rfl 3 3 Tryd.underlying65 _ w1.heap.size _ D' rfl hown ?_; rw [hcnt])
    go_ret2
    exact ⟨⟨_, _, rfl, HC.out, .inr ⟨rfl, HI.out⟩⟩, HB4.out⟩
  · have hne : (c != 0) = true := by simpa using h0
    have H0 : Hid (c ≠ 0) := h0
    clear hc h0
    go_wp2_with fail
    go_ret2
    exact ⟨⟨_, _, rfl, HC.out, .inl ⟨H0.out, rfl⟩⟩, HB1.out⟩
end Go.Proofs.YtggngpnenbjidaaDoor
