/-
  What series.Zig answers, and the reference's ZigOf, whatever order they are handed. No condition but that a slice reads as a slice of numbers.
-/
import Derived.Test.YtjhpegjcknaioaaDoorZigC
import Derived.Test.YtjhpegjcknaioaaDoorZigR
import Derived.Test.YtjhpegjcknaioaaDoorRefFour
namespace Go.Proofs.YtjhpegjcknaioaaDoor
set_option maxRecDepth 100000
open Go.RowKit

/-- The first zig, or none. -/
def zgQ (g : Nat → Nat) (a b c d : Nat) : Bool := diff a b c d && zigP g a b c d
/-- What a call answers that looks for the first four points of which P is so. -/
def FourPost (P : (Nat → Nat) → Nat → Nat → Nat → Nat → Bool) (n : Int) (len : Nat) (f : Nat → Int) (e : Ending) (w' : World) : Prop :=
  ∃ c v l ok, Chk n len f c ∧ e = .returned (.tuple #[v, .bool ok, .int .i64 c]) ∧ ((c ≠ 0 ∧ v = .slice none 0 0 ∧ ok = false) ∨ (c = 0 ∧ First len (P (nat f)) l ok ∧ NSl w' v l))
/-- The same without an errno. -/
def FourRes (P : (Nat → Nat) → Nat → Nat → Nat → Nat → Bool) (g : Nat → Nat) (len : Nat) (e : Ending) (w' : World) : Prop :=
  ∃ v l ok, e = .returned (.tuple #[v, .bool ok]) ∧ First len (P g) l ok ∧ NSl w' v l
theorem ent_zig1 : Ent 40 := fun _ _ => rfl
set_option maxHeartbeats 2000000 in
theorem zig_any (n : Int) (a : Option Addr) (len cap : Nat) (f : Nat → Int) (w : World) (hl : len ≤ maxLen) (hr : Row w a len f) :
    Calls Tryd.prog 17 #[.agg #[.int .i64 n, .slice a len cap]] w fun e w' => FourPost zgQ n len f e w' ∧ Below w.heap.size w w' := by
  have K0 : Held (w.alloc (.cells #[.int .i64 n, .slice a len cap] 24)) w.heap.size n a len cap f := Held.box hr
  have HB0 : Hid (Below w.heap.size w (w.alloc (.cells #[.int .i64 n, .slice a len cap] 24))) := (Below.refl _ _).alloc (Nat.le_refl _) _
  clear hr
  go_enter Tryd.func17, Tryd.ntmps17
  go_wp2_with fail
  refine (check_any n a len cap f _ hl K0.row).mono ?_
  rintro e w1 ⟨⟨c, rfl, hc⟩, hb⟩
  have K1 := K0.step hb
  have HB1 : Hid (Below w.heap.size w w1) := Below.then HB0.out hb
  clear hb K0 HB0
  by_cases h0 : c = 0
  · subst h0
    obtain ⟨rfl, h10, hrng, hord⟩ := hc.good
    have HC : Hid (Chk (len : Int) len f 0) := hc
    obtain ⟨g, HGF⟩ : ∃ g, Hid (g = nat f) := ⟨_, rfl⟩
    have HG0 : Hid (∀ k, k < len → f k = (g k : Nat)) := fun k hk => by rw [HGF.out]; unfold nat; have := hrng k hk; omega
    have hpl := pw_le len h10
    have HG : Hid (∀ k, k < len → g k < 1024) := fun k hk => by rw [HGF.out]; unfold nat; have := hrng k hk; omega
    have HSM : Sm len len g := fun k hk => by rw [HGF.out]; unfold nat; have := hrng k hk; omega
    have HO : Ord len g := by rw [HGF.out]; exact hord
    have HK : Hid (Held w1 w.heap.size len a len cap (fun k => (g k : Nat))) := ⟨K1.c0, K1.c1, fun k hk => by
      have := K1.row k hk
      rw [HG0.out k hk] at this
      exact this⟩
    have k0 := K1.c0
    have HE : Hid (∀ l ok, First len (pzig g) l ok → First len (zgQ (nat f)) l ok) := fun l ok h => by
      rw [← HGF.out]
      exact First.congr (fun a b c d ha hb hc hd => pzig_eq HO h10 HSM ha hb hc hd) h
    have HQ : Hid (Clo4 len 40 #[.pointer (some ⟨w.heap.size, 0, none⟩)] (pzig g) w1) := fun x y z t hx hy hz ht W hW => by
      show Calls Tryd.prog 40 #[.int .i64 (x : Nat), .int .i64 (y : Nat), .int .i64 (z : Nat), .int .i64 (t : Nat), .pointer (some ⟨w.heap.size, 0, none⟩)] W _
      exact zig1_any w.heap.size len a len cap g x y z t W h10 HG.out hx hy hz ht (HK.out.step hW)
    clear hc hrng hord K1 HSM HO
    go_wp2_with fail
    refine (four_any len 40 _ (pzig g) _ h10 ent_zig1 HQ.out).mono ?_
    rintro e w5 ⟨⟨v, l, ok, rfl, hf, hn⟩, hb5⟩
    have HF : Hid (First len (zgQ (nat f)) l ok) := HE.out l ok hf
    have HN : Hid (NSl w5 v l) := hn
    have HB5 : Hid (Below w.heap.size w w5) := Below.then HB1.out hb5
    clear hf hn hb5
    go_wp2_with fail
    go_ret3
    exact ⟨⟨0, v, l, ok, HC.out, rfl, .inr ⟨rfl, HF.out, HN.out⟩⟩, HB5.out⟩
  · have hne : (c != 0) = true := by simpa using h0
    have HC : Hid (Chk n len f c) := hc
    clear hc
    go_wp2_with fail
    go_ret3
    exact ⟨⟨c, _, [], _, HC.out, rfl, .inl ⟨h0, rfl, rfl⟩⟩, HB1.out⟩
set_option maxHeartbeats 2000000 in
theorem zigOf_any (a : Option Addr) (len cap : Nat) (g : Nat → Nat) (w : World) (h10 : len ≤ 10) (hsm : Sm len len g) (hr : Row w a len (fun k => (g k : Nat))) :
    Calls Tryd.prog 9 #[.agg #[.int .i64 len, .slice a len cap]] w fun e w' => FourRes zgQ g len e w' ∧ Below w.heap.size w w' := by
  have HK : Hid (Held (w.alloc (.cells #[.int .i64 (len : Int), .slice a len cap] 24)) w.heap.size len a len cap (fun k => (g k : Nat))) := Held.box hr
  have HB0 : Hid (Below w.heap.size w (w.alloc (.cells #[.int .i64 (len : Int), .slice a len cap] 24))) := (Below.refl _ _).alloc (Nat.le_refl _) _
  have hpl := pw_le len h10
  have HG : Hid (∀ k, k < len → g k < 1024) := fun k hk => Nat.lt_of_lt_of_le (hsm k hk) hpl
  clear hr hsm
  go_enter Tryd.func9, Tryd.ntmps9
  go_wp2_with fail
  refine (fourPoints_zig len w.heap.size (zigP g) _ h10 (fun x y z t L wx hx hy hz ht hdf hb c0 c1 c2 c3 => zigC1_any w.heap.size L a len cap g x y z t wx h10 HG.out hx hy hz ht hdf (HK.out.step hb) c0 c1 c2 c3)).mono ?_
  rintro e w5 ⟨⟨v, l, ok, rfl, hf, hn⟩, hb5⟩
  have HF : Hid (First len (zgQ g) l ok) := hf
  have HN : Hid (NSl w5 v l) := hn
  have HB5 : Hid (Below w.heap.size w w5) := Below.then HB0.out hb5
  clear hf hn hb5
  go_wp2_with fail
  go_ret2
  exact ⟨⟨v, l, ok, rfl, HF.out, HN.out⟩, HB5.out⟩
end Go.Proofs.YtjhpegjcknaioaaDoor
