/-
  Lattices and a list as they come in, one name each; what sets.CheckMap and the reference's Mapped answer; tables.IsUpTo. No condition but that slices read as slices of rows and of numbers.
-/
import Derived.Test.YtfkkjebgccnlnaaIrr
import Derived.Test.YtfkkjebgccnlnaaPairM
import Derived.Test.YtfkkjebgccnlnaaHeyM
namespace Go.Proofs.Ytfkkjebgccnlnaa
set_option maxRecDepth 100000
open Go.RowKit

/-- A lattice as it comes in. -/
structure LA where
  n : Int
  a : Option Addr
  la : Nat
  ca : Nat
  SA : Nat → Option Addr × Nat × Nat
  FA : Nat → Nat → Int
  b : Option Addr
  lb : Nat
  cb : Nat
  SB : Nat → Option Addr × Nat × Nat
  FB : Nat → Nat → Int
def LA.v (L : LA) : Value := .agg #[.int .i64 L.n, .slice L.a L.la L.ca, .slice L.b L.lb L.cb]
def LA.In (L : LA) (w : World) : Prop := L.la ≤ maxLen ∧ L.lb ≤ maxLen ∧ RR w L.a L.la L.SA L.FA ∧ RR w L.b L.lb L.SB L.FB
theorem LA.In.step {L : LA} {w w' : World} (h : L.In w) (hb : Below w.heap.size w w') : L.In w' := ⟨h.1, h.2.1, h.2.2.1.below hb, h.2.2.2.below hb⟩
def LA.Ck (L : LA) (c : Int) : Prop := LCk L.n L.la L.SA L.FA L.lb L.SB L.FB c
def LA.q (L : LA) : Nat := L.n.toNat
def LA.m (L : LA) : Nat → Nat → Nat := nat2 L.FA
def LA.j (L : LA) : Nat → Nat → Nat := nat2 L.FB
/-- A list as it comes in. -/
structure MA where
  a : Option Addr
  la : Nat
  ca : Nat
  F : Nat → Int
def MA.v (f : MA) : Value := .slice f.a f.la f.ca
def MA.In (f : MA) (w : World) : Prop := f.la ≤ maxLen ∧ Row w f.a f.la f.F
theorem MA.In.step {f : MA} {w w' : World} (h : f.In w) (hb : Below w.heap.size w w') : f.In w' := ⟨h.1, h.2.below hb⟩
def MA.f (f : MA) : Nat → Nat := nat f.F

/-- What is wrong with a map of n to n' elements. -/
def MCk (n n' : Int) (la : Nat) (F : Nat → Int) (c : Int) : Prop :=
  (c = 1 ∧ ¬ (la : Int) = n) ∨ ((la : Int) = n ∧ ((c = 3 ∧ ¬ (∀ k, k < la → 0 ≤ F k ∧ F k < n')) ∨ (c = 0 ∧ ∀ k, k < la → 0 ≤ F k ∧ F k < n')))
theorem MCk.one {n n' : Int} {la : Nat} {F : Nat → Int} {c d : Int} (h : MCk n n' la F c) (h' : MCk n n' la F d) : c = d := by
  rcases h with ⟨rfl, h⟩ | ⟨h1, ⟨rfl, h⟩ | ⟨rfl, h⟩⟩ <;> rcases h' with ⟨rfl, h'⟩ | ⟨h1', ⟨rfl, h'⟩ | ⟨rfl, h'⟩⟩ <;> first | rfl | exact absurd (by assumption) h | exact absurd (by assumption) h'
/-- What is wrong with two lattices and a map from the one to the other. -/
def GCk (A B : LA) (f : MA) (c : Int) : Prop := (c ≠ 0 ∧ A.Ck c) ∨ (A.Ck 0 ∧ ((c ≠ 0 ∧ B.Ck c) ∨ (B.Ck 0 ∧ MCk A.n B.n f.la f.F c)))
theorem GCk.one {A B : LA} {f : MA} {c d : Int} (h : GCk A B f c) (h' : GCk A B f d) : c = d := by
  rcases h with ⟨h0, h⟩ | ⟨h, ⟨h0, h1⟩ | ⟨h1, h2⟩⟩ <;> rcases h' with ⟨h0', h'⟩ | ⟨h', ⟨h0', h1'⟩ | ⟨h1', h2'⟩⟩ <;>
    first
    | exact LCk.one h h' | exact absurd (LCk.one h h') h0 | exact absurd (LCk.one h' h) h0' | exact LCk.one h1 h1' | exact absurd (LCk.one h1 h1') h0 | exact absurd (LCk.one h1' h1) h0' | exact MCk.one h2 h2'
/-- What two lattices and a map are that are right. -/
structure GG (A B : LA) (f : MA) : Prop where
  a1 : 1 ≤ A.q
  a40 : A.q ≤ 40
  la : Lat A.q A.m A.j
  b1 : 1 ≤ B.q
  b40 : B.q ≤ 40
  lb : Lat B.q B.m B.j
  ln : f.la = A.q
  mp : Mp A.q B.q f.f
theorem LCk.open {n : Int} {la : Nat} {SA : Nat → Option Addr × Nat × Nat} {FA : Nat → Nat → Int} {lb : Nat} {SB : Nat → Option Addr × Nat × Nat} {FB : Nat → Nat → Int} {a b : Option Addr} {w : World} (hc : LCk n la SA FA lb SB FB 0) (hra : RR w a la SA FA) (hrb : RR w b lb SB FB) :
    ∃ q b1 o1 b2 o2 : Nat, n = (q : Nat) ∧ a = some ⟨b1, o1, none⟩ ∧ q = la ∧ b = some ⟨b2, o2, none⟩ ∧ q = lb ∧ 1 ≤ q ∧ q ≤ 40 ∧ Lat q (nat2 FA) (nat2 FB) ∧ Tb w b1 o1 q (fun x => rAt (SA x)) (nat2 FA) ∧ Tb w b2 o2 q (fun x => rAt (SB x)) (nat2 FB) := by
  obtain ⟨q, rfl, h1, h40, rfl, rfl, hs1, hs2, hg1, hg2, hlat⟩ := hc.good
  obtain ⟨b1, o1, rfl, ht1, _⟩ := hra.tb h1 hs1 hg1
  obtain ⟨b2, o2, rfl, ht2, _⟩ := hrb.tb h1 hs2 hg2
  exact ⟨_, b1, o1, b2, o2, rfl, rfl, rfl, rfl, rfl, h1, h40, hlat, ht1, ht2⟩
theorem LA.Ck.lat {A : LA} (h : A.Ck 0) : 1 ≤ A.q ∧ A.q ≤ 40 ∧ Lat A.q A.m A.j ∧ A.n = (A.q : Nat) := by
  obtain ⟨q, e, h1, h40, _, _, _, _, _, _, hlat⟩ := LCk.good h
  have e2 : A.q = q := by unfold LA.q; omega
  rw [e2]
  exact ⟨h1, h40, hlat, e⟩
theorem MCk.map {A B : LA} {f : MA} (hA : A.Ck 0) (hB : B.Ck 0) (h : MCk A.n B.n f.la f.F 0) : f.la = A.q ∧ Mp A.q B.q f.f ∧ ∀ k, k < f.la → f.F k = (f.f k : Nat) := by
  have eA := hA.lat.2.2.2
  have eB := hB.lat.2.2.2
  rcases h with ⟨h, _⟩ | ⟨h1, ⟨h, _⟩ | ⟨_, h⟩⟩
  · omega
  · omega
  · refine ⟨by omega, fun x hx => ?_, fun k hk => ?_⟩
    · have := h x (by omega)
      unfold MA.f nat; omega
    · have := h k hk
      unfold MA.f nat; omega
theorem GCk.gg {A B : LA} {f : MA} (h : GCk A B f 0) : GG A B f ∧ A.Ck 0 ∧ B.Ck 0 ∧ ∀ k, k < f.la → f.F k = (f.f k : Nat) := by
  rcases h with ⟨h, _⟩ | ⟨hA, ⟨h, _⟩ | ⟨hB, hM⟩⟩
  · exact absurd rfl h
  · exact absurd rfl h
  · have a := hA.lat
    have b := hB.lat
    have m := hM.map hA hB
    exact ⟨⟨a.1, a.2.1, a.2.2.1, b.1, b.2.1, b.2.2.1, m.1, m.2.1⟩, hA, hB, m.2.2⟩

set_option maxHeartbeats 1000000 in
theorem checkMap_any (f : MA) (n n' : Int) (w : World) (hf : f.In w) :
    Calls Try.prog 32 #[f.v, .int .i64 n, .int .i64 n'] w fun e w' => (∃ c, e = .returned (.int .i64 c) ∧ MCk n n' f.la f.F c) ∧ w = w' := by
  obtain ⟨a, la, ca, F⟩ := f
  obtain ⟨hl, hr⟩ := hf
  simp only [MA.v] at *
  have HR : Hid (Row w a la F) := hr
  clear hr
  unfold maxLen at hl
  by_cases hn : (la : Int) = n
  · subst hn
    go_enter Try.func32, Try.ntmps32
    go_wp2_with fail
    go_loopw [15] (fun i wx => ∃ k : Nat, k ≤ la ∧ i = .int .i64 k ∧ wx = w ∧ Hid (∀ j, j < k → 0 ≤ F j ∧ F j < n')) (fun i _ => la - (intOf i).toNat)
    case atStart => exact ⟨0, Nat.zero_le _, rfl, rfl, fun j hj => absurd hj (Nat.not_lt_zero _)⟩
    case round =>
      obtain ⟨k, hk, rfl, rfl, HK⟩ := hrel
      by_cases hlt : k < la
      · obtain ⟨b, off, rfl, hc⟩ := HR.out k hlt
        obtain ⟨p, hp⟩ : ∃ p, pnt (F k) n' = p := ⟨_, rfl⟩
        rcases p with _ | _
        · have HN : Hid (MCk (la : Int) n' la F 3) := .inr ⟨rfl, .inl ⟨rfl, fun h => by
            have := h k hlt
            simp [pnt] at hp; omega⟩⟩
          go_wp2_with (go_at_call 17; refine (isPoint_as _ _ _ _ hp).mono ?_; rintro e w' ⟨rfl, hww⟩; subst hww)
          go_ret
          exact ⟨⟨_, rfl, HN.out⟩, rfl⟩
        · have HN : Hid (∀ j, j < k + 1 → 0 ≤ F j ∧ F j < n') := fun j hj => by
            by_cases e : j = k
            · subst e; simp [pnt] at hp; exact hp
            · exact HK.out j (by omega)
          go_wp2_with (go_at_call 17; refine (isPoint_as _ _ _ _ hp).mono ?_; rintro e w' ⟨rfl, hww⟩; subst hww)
          go_roundw
          case rel => exact ⟨k + 1, by omega, by go_num, by first | rfl | trivial, HN.out⟩
          case measure => simp [intOf]; omega
      · obtain rfl : k = la := by omega
        have HN : Hid (MCk (k : Int) n' k F 0) := .inr ⟨rfl, .inr ⟨rfl, HK.out⟩⟩
        go_wp2_with fail
        go_ret
        exact ⟨⟨_, rfl, HN.out⟩, rfl⟩
  · have hn' : ((la : Int) != n) = true := by simpa using hn
    have HN : Hid (MCk n n' la F 1) := .inl ⟨rfl, hn⟩
    go_enter Try.func32, Try.ntmps32
    go_wp2_with fail
    go_ret
    exact ⟨⟨_, rfl, HN.out⟩, rfl⟩

set_option maxHeartbeats 1000000 in
theorem isUpTo_any (n b1 o1 ca : Nat) (b2 : Option Addr) (lb cb : Nat) (R1 : Nat → Nat × Nat × Nat) (m : Nat → Nat → Nat) (x y : Nat) (w : World) (v : Bool) (hv : leB m x y = v) (ht1 : Tb w b1 o1 n R1 m) (hx : x < n) (hy : y < n) :
    Calls Try.prog 50 #[.agg #[.int .i64 (n : Int), .slice (some ⟨b1, o1, none⟩) n ca, .slice b2 lb cb], .int .i64 (x : Nat), .int .i64 (y : Nat)] w fun e w' => e = .returned (.bool v) ∧ Below w.heap.size w w' := by
  have B1 : Below w.heap.size w (w.alloc (.cells #[.int .i64 (n : Int), .slice (some ⟨b1, o1, none⟩) n ca, .slice b2 lb cb] 24)) := (Below.refl _ _).alloc (Nat.le_refl _) _
  have ht := ht1.step B1
  have HB : Hid (Below w.heap.size w (w.alloc (.cells #[.int .i64 (n : Int), .slice (some ⟨b1, o1, none⟩) n ca, .slice b2 lb cb] 24))) := B1
  have r1 := (ht x hx).1
  have r2 := (ht x hx).2 y hy
  have i1 : (x : Int) < (n : Int) := by omega
  have i2 : (y : Int) < (n : Int) := by omega
  have hq : (((m x y : Nat) : Int) == ((x : Nat) : Int)) = v := by rw [int_beq]; exact hv
  clear ht ht1 B1 hv
  go_enter Try.func50, Try.ntmps50
  go_wp2_with fail
  go_ret
  exact ⟨rfl, HB.out⟩
end Go.Proofs.Ytfkkjebgccnlnaa
