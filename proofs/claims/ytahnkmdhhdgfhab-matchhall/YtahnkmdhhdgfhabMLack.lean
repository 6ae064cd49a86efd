/-
  What match.Lack and the reference's Lack answer: the least set on the left that has too few. No condition but that a slice reads as a slice of numbers.
-/
import Derived.Test.YtahnkmdhhdgfhabMWith
namespace Go.Proofs.Ytahnkmdhhdgfhab
open Go.RowKit

/-- The first of the first n that P lets by. -/
def firstT (P : Nat → Bool) : Nat → Option Nat
  | 0 => none
  | k + 1 => match firstT P k with
    | some s => some s
    | none => if P k = true then some k else none
theorem firstT_none {P : Nat → Bool} {k : Nat} (h : firstT P k = none) (hp : P k = false) : firstT P (k + 1) = none := by simp [firstT, h, hp]
theorem firstT_hit {P : Nat → Bool} {k : Nat} (h : firstT P k = none) (hp : P k = true) : firstT P (k + 1) = some k := by simp [firstT, h, hp]
theorem firstT_keep {P : Nat → Bool} {k s : Nat} (h : firstT P k = some s) : ∀ d, firstT P (k + d) = some s
  | 0 => h
  | d + 1 => by rw [← Nat.add_assoc, firstT, firstT_keep h d]
theorem firstT_to {P : Nat → Bool} {k n : Nat} (h : firstT P k = none) (hp : P k = true) (hk : k < n) : firstT P n = some k := by
  have := firstT_keep (firstT_hit h hp) (n - (k + 1))
  rwa [show k + 1 + (n - (k + 1)) = n by omega] at this
/-- Has the set s too few? -/
def lks (t : Nat → Nat) (l s : Nat) : Bool := decide (pc (orTo t s l) < pc s)
def lkv (o : Option Nat) : Nat := o.getD 0
theorem GRng.row {w : World} {a : Option Addr} {l r : Nat} {f : Nat → Int} (hr : GRng l r f) (h : Row w a l f) : Row w a l (fun k => (nat f k : Nat)) := by
  intro j hj
  have := h j hj
  have e : f j = (nat f j : Nat) := by have := hr j hj; unfold nat; omega
  rw [e] at this
  exact this
theorem GRng.small {l r : Nat} {f : Nat → Int} (hr : GRng l r f) : Sm r l (nat f) := fun k hk => by
  have := hr k hk; unfold nat; omega
theorem pc_le (s : Nat) : pc s ≤ 10 := pcn_le s 10

def LackPost (L R : Int) (len : Nat) (f : Nat → Int) (e : Ending) : Prop :=
  ∃ c : Int, GChk L R len f c ∧ ((c ≠ 0 ∧ e = .returned (.tuple #[.int .i64 0, .bool false, .int .i64 c])) ∨
    (c = 0 ∧ e = .returned (.tuple #[.int .i64 (lkv (firstT (lks (nat f) len) (pw len)) : Nat), .bool (firstT (lks (nat f) len) (pw len)).isSome, .int .i64 0])))

set_option maxHeartbeats 1000000 in
theorem lack_any (L R : Int) (a : Option Addr) (len cap : Nat) (f : Nat → Int) (w : World) (hl : len ≤ maxLen) (hr : Row w a len f) :
    Calls Try.prog 6 #[.agg #[.int .i64 L, .int .i64 R, .slice a len cap]] w fun e w' => LackPost L R len f e ∧ Below w.heap.size w w' := by
  have K0 : GHeld (w.alloc (.cells #[.int .i64 L, .int .i64 R, .slice a len cap] 24)) w.heap.size L R a len cap f := GHeld.box hr
  have HB0 : Hid (Below w.heap.size w (w.alloc (.cells #[.int .i64 L, .int .i64 R, .slice a len cap] 24))) := (Below.refl _ _).alloc (Nat.le_refl _) _
  clear hr
  go_enter Try.func6, Try.ntmps6
  go_wp2_with fail
  refine (mcheck_any L R a len cap f _ hl K0.row).mono ?_
  rintro e w1 ⟨⟨c, rfl, hc⟩, hb⟩
  have K1 := K0.step hb
  have HB1 : Hid (Below w.heap.size w w1) := Below.then HB0.out hb
  clear hb K0 HB0
  by_cases h0 : c = 0
  · subst h0
    obtain ⟨r, rfl, rfl, h10, hr10, hrng⟩ := hc.good
    have HC : Hid (GChk (len : Int) (r : Int) len f 0) := hc
    have H1 : Hid (GHeld w1 w.heap.size len r a len cap (fun k => (nat f k : Nat))) := ⟨K1.c0, K1.c1, K1.c2, hrng.row K1.row⟩
    have HT : Hid (Sm r len (nat f)) := hrng.small
    have k0 := K1.c0
    have hsh := wrap_pow len (by omega)
    have hpw := pw_le len h10
    have hpr := pw_le r hr10
    have HOL : Hid (∀ s, orTo (nat f) s len < pw r) := fun s => orTo_lt hrng.small len (Nat.le_refl _)
    clear hc hrng K1
    obtain ⟨P, HP⟩ : ∃ P, Hid (P = lks (nat f) len) := ⟨_, rfl⟩
    have HPA : Hid (∀ s, P s = decide (pc (orTo (nat f) s len) < pc s)) := fun s => by rw [HP.out]; rfl
    have HFIN : Hid (∀ e, (∃ o, firstT P (pw len) = o ∧ e = .returned (.tuple #[.int .i64 (lkv o : Nat), .bool o.isSome, .int .i64 0])) → LackPost len r len f e) := fun e ⟨o, ho, he⟩ => ⟨0, HC.out, .inr ⟨rfl, by rw [← HP.out, ho]; exact he⟩⟩
    clear HP
    go_wp2_with fail
    rw [hsh]
    clear k0 hsh
    generalize pw len = N at *
    go_loopw [15] (fun i wx => ∃ s : Nat, s ≤ N ∧ i = .int .i64 s ∧ Hid (firstT P s = none) ∧ GHeld wx w.heap.size len r a len cap (fun k => (nat f k : Nat)) ∧ Hid (Below w.heap.size w wx)) (fun i _ => N - (intOf i).toNat)
    case atStart => exact ⟨0, Nat.zero_le _, rfl, rfl, H1.out, HB1.out⟩
    case round =>
      clear H1 HB1
      obtain ⟨s, hs, rfl, hno, hH, hB⟩ := hrel
      have c0 := hH.c0
      have c1 := hH.c1
      have c2 := hH.c2
      by_cases hlt : s < N
      · have hPs := HPA.out s
        have hO := HOL.out s
        have hp1 := pc_le (orTo (nat f) s len)
        have hp2 := pc_le s
        have hO2 : orTo (nat f) s len < 1024 := Nat.lt_of_lt_of_le hO hpr
        clear hO
        go_wp2_with fail
        refine (partners_any len r a cap (nat f) s _ h10 hr10 HT.out (by omega) hH.row).mono ?_
        rintro e w2 ⟨rfl, hb2⟩
        have H2 := hH.step hb2
        have HB2 : Hid (Below w.heap.size w w2) := Below.then hB.out hb2
        clear hb2 hH hB c0 c1 c2
        generalize orTo (nat f) s len = O at *
        generalize hpO : pc O = pO at *
        generalize hps : pc s = ps at *
        have HpO : Hid (pc O = pO) := hpO
        have Hps : Hid (pc s = ps) := hps
        clear hpO hps
        by_cases hd : pO < ps
        · have HT1 : Hid (firstT P N = some s) := firstT_to hno.out (by rw [hPs]; simpa using hd) hlt
          have hdi : decide ((pO : Int) < (ps : Int)) = true := by simpa using hd
          clear hPs
          go_wp2_with fail
          refine (size_any O _ hO2).mono ?_
          rintro e w3 ⟨rfl, rfl⟩
          rw [HpO.out]
          go_wp2_with fail
          refine (size_any s _ (by omega)).mono ?_
          rintro e w3 ⟨rfl, rfl⟩
          rw [Hps.out]
          go_wp2_with fail
          go_ret3
          exact ⟨HFIN.out _ ⟨_, HT1.out, rfl⟩, HB2.out⟩
        · have HT1 : Hid (firstT P (s + 1) = none) := firstT_none hno.out (by rw [hPs]; simpa using hd)
          have hdi : decide ((pO : Int) < (ps : Int)) = false := by simpa using hd
          clear hPs
          go_wp2_with fail
          refine (size_any O _ hO2).mono ?_
          rintro e w3 ⟨rfl, rfl⟩
          rw [HpO.out]
          go_wp2_with fail
          refine (size_any s _ (by omega)).mono ?_
          rintro e w3 ⟨rfl, rfl⟩
          rw [Hps.out]
          go_wp2_with fail
          go_roundw
          case rel => exact ⟨s + 1, by omega, by go_num, HT1.out, H2, HB2.out⟩
          case measure => simp [intOf]; omega
      · have hsn : s = N := by omega
        have HT1 : Hid (firstT P N = none) := by rw [← hsn]; exact hno.out
        clear hsn
        go_wp2_with fail
        go_ret3
        exact ⟨HFIN.out _ ⟨_, HT1.out, rfl⟩, hB.out⟩
  · have hne : (c != 0) = true := by simpa using h0
    have HC : Hid (GChk L R len f c) := hc
    clear hc
    go_wp2_with fail
    go_ret3
    exact ⟨⟨c, HC.out, .inl ⟨h0, rfl⟩⟩, HB1.out⟩

end Go.Proofs.Ytahnkmdhhdgfhab
