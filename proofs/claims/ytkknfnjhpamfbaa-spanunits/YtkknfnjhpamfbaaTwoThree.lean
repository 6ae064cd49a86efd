/-
  What span.Two and span.Three answer, and the reference's TwoChains and ThreeAlone, whatever order they are handed. No condition but that a slice reads as a slice of numbers.
-/
import Derived.Laws.EntriesVeiled
import Derived.Test.YtkknfnjhpamfbaaFour3
import Derived.Test.YtkknfnjhpamfbaaFFour
import Derived.Test.YtkknfnjhpamfbaaTwoC
import Derived.Test.YtkknfnjhpamfbaaThreeC
import Derived.Test.YtkknfnjhpamfbaaRefFour3
namespace Go.Proofs.Ytkknfnjhpamfbaa
open Go.RowKit

/-- What a call answers that looks for the first four points of which P is so. -/
def FourPost (P : (Nat → Nat) → Nat → Nat → Nat → Nat → Bool) (n : Int) (len : Nat) (f : Nat → Int) (e : Ending) (w' : World) : Prop :=
  ∃ c v l ok, Chk n len f c ∧ e = .returned (.tuple #[v, .bool ok, .int .i64 c]) ∧ ((c ≠ 0 ∧ v = .slice none 0 0 ∧ ok = false) ∨ (c = 0 ∧ First len (P (nat f)) l ok ∧ NSl w' v l))
/-- The same without an errno. -/
def FourRes (P : (Nat → Nat) → Nat → Nat → Nat → Nat → Bool) (g : Nat → Nat) (len : Nat) (e : Ending) (w' : World) : Prop :=
  ∃ v l ok, e = .returned (.tuple #[v, .bool ok]) ∧ First len (P g) l ok ∧ NSl w' v l

theorem ent_two1 : Ent 44 := fun _ _ => rfl
theorem ent_three2 : Ent 47 := fun _ _ => rfl
set_option maxHeartbeats 2000000 in
theorem two_any (n : Int) (a : Option Addr) (len cap : Nat) (f : Nat → Int) (w : World) (hl : len ≤ maxLen) (hr : Row w a len f) :
    Calls Try.prog 18 #[.agg #[.int .i64 n, .slice a len cap]] w fun e w' => FourPost twoP n len f e w' ∧ Below w.heap.size w w' := by
  have K0 : Held (w.alloc (.cells #[.int .i64 n, .slice a len cap] 25)) w.heap.size n a len cap f := Held.box hr
  have HB0 : Hid (Below w.heap.size w (w.alloc (.cells #[.int .i64 n, .slice a len cap] 25))) := (Below.refl _ _).alloc (Nat.le_refl _) _
  clear hr
  go_enter Try.func18, Try.ntmps18
  go_wp2_with fail
  refine (check_any n a len cap f _ hl K0.row).mono ?_
  rintro e w1 ⟨⟨c, rfl, hc⟩, hb⟩
  have K1 := K0.step hb
  have HB1 : Hid (Below w.heap.size w w1) := Below.then HB0.out hb
  clear hb K0 HB0
  by_cases h0 : c = 0
  · subst h0
    obtain ⟨rfl, h10, hrng, hord⟩ := hc.good
    have HC : Hid (Chk (len : Int) len f 0) := hc
    obtain ⟨g, HGF⟩ : ∃ g, Hid (g = nat f) := ⟨_, rfl⟩
    have HG0 : Hid (∀ k, k < len → f k = (g k : Nat)) := fun k hk => by rw [HGF.out]; unfold nat; have := hrng k hk; omega
    have hpl := pw_le len h10
    have HG : Hid (∀ k, k < len → g k < 1024) := fun k hk => by rw [HGF.out]; unfold nat; have := hrng k hk; omega
    have HR1 : Hid (Row w1 a len (fun k => (g k : Nat))) := fun k hk => by
      have := K1.row k hk
      rw [HG0.out k hk] at this
      exact this
    have k0 := K1.c0
    have k1 := K1.c1
    have hbl : w.heap.size < w1.heap.size := World.block_lt_of_cell? _ _ k0
    have HE : Hid (∀ l ok, First len (twoP g) l ok → First len (twoP (nat f)) l ok) := fun l ok h => by rw [← HGF.out]; exact h
    have hu : (((w1.alloc (.cells #[.int .i64 (len : Int), .slice a len cap] 25)).alloc (.cells #[askV w1.heap.size] 51))).cell? ⟨w1.heap.size + 1, 0, none⟩ = some (askV w1.heap.size) := by simp
    have HH3 : Hid (Held ((w1.alloc (.cells #[.int .i64 (len : Int), .slice a len cap] 25)).alloc (.cells #[askV w1.heap.size] 51)) w1.heap.size len a len cap (fun k => (g k : Nat))) := (Held.box HR1.out).step ((Below.refl _ _).alloc (Nat.le_refl _) _)
    have HB3 : Hid (Below w1.heap.size w1 ((w1.alloc (.cells #[.int .i64 (len : Int), .slice a len cap] 25)).alloc (.cells #[askV w1.heap.size] 51))) := ((Below.refl _ _).alloc (Nat.le_refl _) _).alloc (by simp) _
    have HQ : Hid (Clo4 len 44 #[.pointer (some ⟨w1.heap.size + 1, 0, none⟩)] (twoP g) ((w1.alloc (.cells #[.int .i64 (len : Int), .slice a len cap] 25)).alloc (.cells #[askV w1.heap.size] 51))) := fun x y z t hx hy hz ht W hW => by
      show Calls Try.prog 44 #[.int .i64 (x : Nat), .int .i64 (y : Nat), .int .i64 (z : Nat), .int .i64 (t : Nat), .pointer (some ⟨w1.heap.size + 1, 0, none⟩)] W _
      exact (two1_any w1.heap.size (w1.heap.size + 1) len a len cap g x y z t W h10 HG.out hx hy hz ht (HH3.out.step hW) (cellS hW hu)).mono fun _ _ h => ⟨h.1, by rw [← h.2]; exact Below.refl _ _⟩
    clear hc hrng hord K1
    go_wp2_with (go_at_call 42; refine (asked_any len a len cap _).mono ?_; rintro e w2 ⟨rfl, rfl⟩; unfold askV)
    refine (four_any len 44 _ (twoP g) _ h10 ent_two1 HQ.out).mono ?_
    rintro e w5 ⟨⟨v, l, ok, rfl, hf, hn⟩, hb5⟩
    have HF : Hid (First len (twoP (nat f)) l ok) := HE.out l ok hf
    have HN : Hid (NSl w5 v l) := hn
    have HB5 : Hid (Below w.heap.size w w5) := Below.then HB1.out (Below.then HB3.out hb5)
    clear hf hn hb5
    go_wp2_with fail
    go_ret3
    exact ⟨⟨0, v, l, ok, HC.out, rfl, .inr ⟨rfl, HF.out, HN.out⟩⟩, HB5.out⟩
  · have hne : (c != 0) = true := by simpa using h0
    have HC : Hid (Chk n len f c) := hc
    clear hc
    go_wp2_with fail
    go_ret3
    exact ⟨⟨c, _, [], _, HC.out, rfl, .inl ⟨h0, rfl, rfl⟩⟩, HB1.out⟩

set_option maxHeartbeats 2000000 in
theorem spThree_any (n : Int) (a : Option Addr) (len cap : Nat) (f : Nat → Int) (w : World) (hl : len ≤ maxLen) (hr : Row w a len f) :
    Calls Try.prog 20 #[.agg #[.int .i64 n, .slice a len cap]] w fun e w' => FourPost threeP n len f e w' ∧ Below w.heap.size w w' := by
  have K0 : Held (w.alloc (.cells #[.int .i64 n, .slice a len cap] 25)) w.heap.size n a len cap f := Held.box hr
  have HB0 : Hid (Below w.heap.size w (w.alloc (.cells #[.int .i64 n, .slice a len cap] 25))) := (Below.refl _ _).alloc (Nat.le_refl _) _
  clear hr
  go_enter Try.func20, Try.ntmps20
  go_wp2_with fail
  refine (check_any n a len cap f _ hl K0.row).mono ?_
  rintro e w1 ⟨⟨c, rfl, hc⟩, hb⟩
  have K1 := K0.step hb
  have HB1 : Hid (Below w.heap.size w w1) := Below.then HB0.out hb
  clear hb K0 HB0
  by_cases h0 : c = 0
  · subst h0
    obtain ⟨rfl, h10, hrng, hord⟩ := hc.good
    have HC : Hid (Chk (len : Int) len f 0) := hc
    obtain ⟨g, HGF⟩ : ∃ g, Hid (g = nat f) := ⟨_, rfl⟩
    have HG0 : Hid (∀ k, k < len → f k = (g k : Nat)) := fun k hk => by rw [HGF.out]; unfold nat; have := hrng k hk; omega
    have hpl := pw_le len h10
    have HG : Hid (∀ k, k < len → g k < 1024) := fun k hk => by rw [HGF.out]; unfold nat; have := hrng k hk; omega
    have HR1 : Hid (Row w1 a len (fun k => (g k : Nat))) := fun k hk => by
      have := K1.row k hk
      rw [HG0.out k hk] at this
      exact this
    have k0 := K1.c0
    have k1 := K1.c1
    have hbl : w.heap.size < w1.heap.size := World.block_lt_of_cell? _ _ k0
    have HE : Hid (∀ l ok, First len (threeP g) l ok → First len (threeP (nat f)) l ok) := fun l ok h => by rw [← HGF.out]; exact h
    have hu : (((w1.alloc (.cells #[.int .i64 (len : Int), .slice a len cap] 25)).alloc (.cells #[askV w1.heap.size] 51)).alloc (.cells #[strV (w1.heap.size + 1)] 51)).cell? ⟨w1.heap.size + 1, 0, none⟩ = some (askV w1.heap.size) := (World.cell?_alloc_old _ _ _ (by simp)).trans (by simp)
    have ht' : (((w1.alloc (.cells #[.int .i64 (len : Int), .slice a len cap] 25)).alloc (.cells #[askV w1.heap.size] 51)).alloc (.cells #[strV (w1.heap.size + 1)] 51)).cell? ⟨w1.heap.size + 1 + 1, 0, none⟩ = some (strV (w1.heap.size + 1)) := by rw [World.cell?_alloc_at _ _ _ _ (by simp)]; rfl
    have HH3 : Hid (Held (((w1.alloc (.cells #[.int .i64 (len : Int), .slice a len cap] 25)).alloc (.cells #[askV w1.heap.size] 51)).alloc (.cells #[strV (w1.heap.size + 1)] 51)) w1.heap.size len a len cap (fun k => (g k : Nat))) := ((Held.box HR1.out).step ((Below.refl _ _).alloc (Nat.le_refl _) _)).step ((Below.refl _ _).alloc (Nat.le_refl _) _)
    have HB3 : Hid (Below w1.heap.size w1 (((w1.alloc (.cells #[.int .i64 (len : Int), .slice a len cap] 25)).alloc (.cells #[askV w1.heap.size] 51)).alloc (.cells #[strV (w1.heap.size + 1)] 51))) := Below.then (((Below.refl _ _).alloc (Nat.le_refl _) _).alloc (by simp) _) ((Below.refl _ _).alloc (Nat.le_refl _) _)
    have hw0 := (HB3.out.cell (p := ⟨w.heap.size, 0, none⟩) hbl).trans k0
    unfold askV strV at hw0
    have HQ : Hid (Clo4 len 47 #[.pointer (some ⟨w1.heap.size + 1, 0, none⟩), .pointer (some ⟨w1.heap.size + 1 + 1, 0, none⟩)] (threeP g) (((w1.alloc (.cells #[.int .i64 (len : Int), .slice a len cap] 25)).alloc (.cells #[askV w1.heap.size] 51)).alloc (.cells #[strV (w1.heap.size + 1)] 51))) := fun x y z t hx hy hz ht W hW => by
      show Calls Try.prog 47 #[.int .i64 (x : Nat), .int .i64 (y : Nat), .int .i64 (z : Nat), .int .i64 (t : Nat), .pointer (some ⟨w1.heap.size + 1, 0, none⟩), .pointer (some ⟨w1.heap.size + 1 + 1, 0, none⟩)] W _
      exact (three2_any w1.heap.size (w1.heap.size + 1) (w1.heap.size + 1 + 1) len a len cap g x y z t W h10 HG.out hx hy hz ht (HH3.out.step hW) (cellS hW hu) (cellS hW ht')).mono fun _ _ h => ⟨h.1, by rw [← h.2]; exact Below.refl _ _⟩
    clear hc hrng hord K1
    go_wp2_with (go_at_call 42; refine (asked_any len a len cap _).mono ?_; rintro e w2 ⟨rfl, rfl⟩; unfold askV)
    refine (four_any len 47 _ (threeP g) _ h10 ent_three2 HQ.out).mono ?_
    rintro e w5 ⟨⟨v, l, ok, rfl, hf, hn⟩, hb5⟩
    have HF : Hid (First len (threeP (nat f)) l ok) := HE.out l ok hf
    have HN : Hid (NSl w5 v l) := hn
    have HB5 : Hid (Below w.heap.size w w5) := Below.then HB1.out (Below.then HB3.out hb5)
    clear hf hn hb5
    go_wp2_with fail
    go_ret3
    exact ⟨⟨0, v, l, ok, HC.out, rfl, .inr ⟨rfl, HF.out, HN.out⟩⟩, HB5.out⟩
  · have hne : (c != 0) = true := by simpa using h0
    have HC : Hid (Chk n len f c) := hc
    clear hc
    go_wp2_with fail
    go_ret3
    exact ⟨⟨c, _, [], _, HC.out, rfl, .inl ⟨h0, rfl, rfl⟩⟩, HB1.out⟩

set_option maxHeartbeats 2000000 in
theorem twoChains_any (a : Option Addr) (len cap : Nat) (g : Nat → Nat) (w : World) (h10 : len ≤ 10) (hsm : Sm len len g) (ho : Ord len g) (hr : Row w a len (fun k => (g k : Nat))) :
    Calls Try.prog 15 #[.agg #[.int .i64 len, .slice a len cap]] w fun e w' => FourRes twoP g len e w' ∧ Below w.heap.size w w' := by
  have HK : Hid (Held (w.alloc (.cells #[.int .i64 (len : Int), .slice a len cap] 25)) w.heap.size len a len cap (fun k => (g k : Nat))) := Held.box hr
  have HB0 : Hid (Below w.heap.size w (w.alloc (.cells #[.int .i64 (len : Int), .slice a len cap] 25))) := (Below.refl _ _).alloc (Nat.le_refl _) _
  have hpl := pw_le len h10
  have HG : Hid (∀ k, k < len → g k < 1024) := fun k hk => Nat.lt_of_lt_of_le (hsm k hk) hpl
  have HE : Hid (∀ l ok, First len (fun a b c d => diff a b c d && twoP g a b c d) l ok → First len (twoP g) l ok) := fun l ok h => First.congr (fun a b c d ha hb hc hd => by
    cases e : twoP g a b c d
    · rw [Bool.and_false]
    · rw [two_diff h10 hsm ho ha hb hc hd e]; rfl) h
  clear hr hsm ho
  go_enter Try.func15, Try.ntmps15
  go_wp2_with fail
  refine (fourPoints_two len w.heap.size (twoP g) _ h10 (fun x y z t L wx hx hy hz ht hdf hb c0 c1 c2 c3 => twoC1_any w.heap.size L a len cap g x y z t wx h10 HG.out hx hy hz ht hdf (HK.out.step hb) c0 c1 c2 c3)).mono ?_
  rintro e w5 ⟨⟨v, l, ok, rfl, hf, hn⟩, hb5⟩
  have HF : Hid (First len (twoP g) l ok) := HE.out l ok hf
  have HN : Hid (NSl w5 v l) := hn
  have HB5 : Hid (Below w.heap.size w w5) := Below.then HB0.out hb5
  clear hf hn hb5
  go_wp2_with fail
  go_ret2
  exact ⟨⟨v, l, ok, rfl, HF.out, HN.out⟩, HB5.out⟩

set_option maxHeartbeats 2000000 in
theorem threeAlone_any (a : Option Addr) (len cap : Nat) (g : Nat → Nat) (w : World) (h10 : len ≤ 10) (hsm : Sm len len g) (ho : Ord len g) (hr : Row w a len (fun k => (g k : Nat))) :
    Calls Try.prog 21 #[.agg #[.int .i64 len, .slice a len cap]] w fun e w' => FourRes threeP g len e w' ∧ Below w.heap.size w w' := by
  have HK : Hid (Held (w.alloc (.cells #[.int .i64 (len : Int), .slice a len cap] 25)) w.heap.size len a len cap (fun k => (g k : Nat))) := Held.box hr
  have HB0 : Hid (Below w.heap.size w (w.alloc (.cells #[.int .i64 (len : Int), .slice a len cap] 25))) := (Below.refl _ _).alloc (Nat.le_refl _) _
  have hpl := pw_le len h10
  have HG : Hid (∀ k, k < len → g k < 1024) := fun k hk => Nat.lt_of_lt_of_le (hsm k hk) hpl
  have HE : Hid (∀ l ok, First len (fun a b c d => diff a b c d && threeP g a b c d) l ok → First len (threeP g) l ok) := fun l ok h => First.congr (fun a b c d ha hb hc hd => by
    cases e : threeP g a b c d
    · rw [Bool.and_false]
    · rw [three_diff h10 hsm ho ha hb hc e]; rfl) h
  clear hr hsm ho
  go_enter Try.func21, Try.ntmps21
  go_wp2_with fail
  refine (fourPoints_three len w.heap.size (threeP g) _ h10 (fun x y z t L wx hx hy hz ht hdf hb c0 c1 c2 c3 => threeC1_any w.heap.size L a len cap g x y z t wx h10 HG.out hx hy hz ht hdf (HK.out.step hb) c0 c1 c2 c3)).mono ?_
  rintro e w5 ⟨⟨v, l, ok, rfl, hf, hn⟩, hb5⟩
  have HF : Hid (First len (threeP g) l ok) := HE.out l ok hf
  have HN : Hid (NSl w5 v l) := hn
  have HB5 : Hid (Below w.heap.size w w5) := Below.then HB0.out hb5
  clear hf hn hb5
  go_wp2_with fail
  go_ret2
  exact ⟨⟨v, l, ok, rfl, HF.out, HN.out⟩, HB5.out⟩
end Go.Proofs.Ytkknfnjhpamfbaa
