/-
  What sets.EachOnce and series.check answer. Conditions: the value reads as a term.
-/
import Derived.Test.YtjhpegjcknaioaaDoorTmD
namespace Go.Proofs.YtjhpegjcknaioaaDoor
set_option maxRecDepth 100000
open Go.RowKit

theorem has_as (s p : Nat) (b : Bool) (w : World) (h : s.testBit p = b) (hs : s < 9223372036854775808) (hp : p < 63) :
    Calls Tryd.prog 70 #[.int .i64 s, .int .i64 p] w fun e w' => e = .returned (.bool b) ∧ w = w' := by
  rw [← h]; exact has_any s p w hs hp
theorem pwW {x : Nat} (h : x < 10) : IntKind.i64.wrap ((2 : Int) ^ x) = ((pw x : Nat) : Int) := by
  have hq := pw_small x (by omega)
  rw [show ((2 : Int) ^ x) = ((pw x : Nat) : Int) by simp [pw]]
  exact wrap_i64_small _ (by omega) (by omega)
theorem isPoint_any (p n : Int) (w : World) :
    Calls Tryd.prog 77 #[.int .i64 p, .int .i64 n] w fun e w' => e = .returned (.bool (pnt p n)) ∧ w = w' := by
  by_cases h0 : 0 ≤ p
  · by_cases h1 : p < n
    · go_enter Tryd.func77, Tryd.ntmps77
      go_wp2
      go_ret
      exact ⟨ret_bool (by simp [pnt, h0, h1]), rfl⟩
    · go_enter Tryd.func77, Tryd.ntmps77
      go_wp2
      go_ret
      exact ⟨ret_bool (by simp [pnt, h1]), rfl⟩
  · have h0' : decide (0 ≤ p) = false := by simp; omega
    go_enter Tryd.func77, Tryd.ntmps77
    go_wp2
    go_ret
    exact ⟨ret_bool (by simp [pnt]; omega), rfl⟩
/-- The first i numbers are points of n, each once. -/
def onc (f : Nat → Int) (n i : Nat) : Prop := ∀ j, j < i → (0 ≤ f j ∧ f j < (n : Int)) ∧ ∀ l, l < j → f l ≠ f j
def metS (f : Nat → Int) : Nat → Nat
  | 0 => 0
  | i + 1 => metS f i ||| pw (f i).toNat
theorem metS_bit (f : Nat → Int) (p : Nat) : ∀ i, (metS f i).testBit p = true ↔ ∃ j, j < i ∧ (f j).toNat = p
  | 0 => by
    have e : metS f 0 = 0 := rfl
    rw [e]; simp
  | i + 1 => by
    rw [metS, Nat.testBit_or, Bool.or_eq_true, metS_bit f p i, pw_bit, decide_eq_true_eq]
    constructor
    · rintro (⟨j, h1, h2⟩ | h)
      · exact ⟨j, by omega, h2⟩
      · exact ⟨i, by omega, h⟩
    · rintro ⟨j, h1, h2⟩
      rcases Nat.lt_or_ge j i with k | k
      · exact .inl ⟨j, k, h2⟩
      · obtain rfl : j = i := by omega
        exact .inr h2
theorem metS_lt {f : Nat → Int} {n : Nat} (hn : n ≤ 10) : ∀ {i}, onc f n i → metS f i < 1024
  | 0, _ => by show 0 < 1024; omega
  | i + 1, h => by
    have h1 := (h i (by omega)).1
    exact Nat.or_lt_two_pow (n := 10) (metS_lt hn (fun j hj => h j (by omega))) (Nat.pow_lt_pow_right (by decide) (show (f i).toNat < 10 by omega))
theorem onc_next {f : Nat → Int} {n i : Nat} (h : onc f n i) (h1 : 0 ≤ f i) (h2 : f i < (n : Int)) (h3 : (metS f i).testBit (f i).toNat = false) : onc f n (i + 1) := fun j hj => by
  by_cases e : j = i
  · subst e
    refine ⟨⟨h1, h2⟩, fun l hl k => ?_⟩
    have := (metS_bit f (f j).toNat j).2 ⟨l, hl, by rw [k]⟩
    rw [h3] at this; cases this
  · exact h j (by omega)
theorem onc_twice {f : Nat → Int} {n i : Nat} (h : onc f n i) (h1 : 0 ≤ f i) (h3 : (metS f i).testBit (f i).toNat = true) (hi : i < n) : ¬ onc f n n := fun k => by
  obtain ⟨l, hl, e⟩ := (metS_bit f _ i).1 h3
  have := (h l hl).1
  exact (k i hi).2 l hl (by omega)
set_option maxHeartbeats 2000000 in
theorem eachOnce_any (a : Option Addr) (n cap : Nat) (f : Nat → Int) (w : World) (h10 : n ≤ 10) (hr : Row w a n f) :
    Calls Tryd.prog 65 #[.slice a n cap, .int .i64 n] w fun e w' => (∃ ok, e = .returned (.bool ok) ∧ (ok = true ↔ onc f n n)) ∧ w = w' := by
  have HR : Hid (Row w a n f) := hr
  clear hr
  go_enter Tryd.func65, Tryd.ntmps65
  go_wp2_with fail
  go_loopw [5, 14] (fun m t wx => ∃ i : Nat, i ≤ n ∧ t = .int .i64 i ∧ m = .int .i64 (metS f i : Nat) ∧ Hid (onc f n i) ∧ wx = w) (fun _ t _ => n - (intOf t).toNat)
  case atStart => exact ⟨0, Nat.zero_le _, rfl, rfl, fun j hj => absurd hj (Nat.not_lt_zero _), rfl⟩
  case round =>
    obtain ⟨i, hi, rfl, rfl, HO, rfl⟩ := hrel
    by_cases hlt : i < n
    · have hlI : (i : Int) < (n : Int) := by omega
      obtain ⟨b, off, rfl, q⟩ := HR.out i hlt
      have hml := metS_lt h10 HO.out
      rcases hp : pnt (f i) n with _ | _
      · have HN : Hid (¬ onc f n n) := fun k => by
          have := (k i hlt).1
          have hp' : ¬ (0 ≤ f i ∧ f i < (n : Int)) := by simpa [pnt] using hp
          exact hp' this
        go_wp2_with (go_at_call 77; refine (isPoint_any _ _ _).mono ?_; rintro e w' ⟨rfl, hww⟩; subst hww)
        go_ret
        exact ⟨⟨_, rfl, ⟨(fun k => by cases k), (fun k => absurd k HN.out)⟩⟩, rfl⟩
      · have hp' : 0 ≤ f i ∧ f i < (n : Int) := by simpa [pnt] using hp
        obtain ⟨p, hpn⟩ : ∃ p : Nat, f i = (p : Int) := ⟨(f i).toNat, by omega⟩
        have hpN : (f i).toNat = p := by omega
        have hp10 : p < 10 := by omega
        have hpw := pw_small p (by omega)
        have hwr := pwW (x := p) (by omega)
        rcases hv : (metS f i).testBit p with _ | _
        · have HO2 : Hid (onc f n (i + 1)) := onc_next HO.out hp'.1 hp'.2 (by rw [hpN]; exact hv)
          have HMS : Hid (metS f (i + 1) = metS f i ||| pw p) := by show metS f i ||| pw (f i).toNat = _; rw [hpN]
          have hor := i64_or (metS f i) (pw p) (by omega) (by omega)
          clear HO hp'
          rw [hpn] at q hp
          go_wp2_with (first | (go_at_call 77; refine (isPoint_any _ _ _).mono ?_; rintro e w' ⟨rfl, hww⟩; subst hww) | (go_at_call 70; refine (has_as (metS f i) p false _ hv (by omega) (by omega)).mono ?_; rintro e w' ⟨rfl, rfl⟩))
          go_roundw
          case rel => exact ⟨i + 1, by omega, by go_num, by rw [HMS.out], HO2.out, trivial⟩
          case measure => simp [intOf]; omega
        · have HN : Hid (¬ onc f n n) := onc_twice HO.out hp'.1 (by rw [hpN]; exact hv) hlt
          clear HO hp'
          rw [hpn] at q hp
          go_wp2_with (first | (go_at_call 77; refine (isPoint_any _ _ _).mono ?_; rintro e w' ⟨rfl, hww⟩; subst hww) | (go_at_call 70; refine (has_as (metS f i) p true _ hv (by omega) (by omega)).mono ?_; rintro e w' ⟨rfl, rfl⟩))
          go_ret
          exact ⟨⟨_, rfl, ⟨(fun k => by cases k), (fun k => absurd k HN.out)⟩⟩, rfl⟩
    · obtain rfl : i = n := by omega
      go_wp2_with fail
      go_ret
      exact ⟨⟨_, rfl, ⟨fun _ => HO.out, fun _ => rfl⟩⟩, rfl⟩
/-- The numbers of a list. -/
def nthI (l : List Int) (k : Nat) : Int := l.getD k 0
theorem owns_ints {w : World} {base : Nat} {v : Value} {l : List Int} (h : w.ownsRow base 3 1 v l.length (ivals l)) (h0 : 0 < l.length) : ∃ a cap, v = .slice a l.length cap ∧ Row w a l.length (nthI l) ∧ ∀ b off, a = some ⟨b, off, none⟩ → base ≤ b := by
  obtain ⟨g, cap, rfl⟩ := owns_form h h0
  refine ⟨_, cap, rfl, fun k hk => ⟨g, 0, rfl, ?_⟩, fun b off e => ?_⟩
  · rw [Nat.zero_add, h.cellAt _ (by omega)]
    simp [ivals, nthI, hk]
  · injection e with e
    injection e with e1 e2
    subst e1
    exact owns_block h g rfl
/-- Nothing is wrong with a term. -/
def GdT (T : TT) : Prop := (sz T ≤ 40 ∧ np T ≤ 10) ∧ Gd T ∧ onc (nthI (pl T)) (pl T).length (pl T).length
theorem pl_np : ∀ {T : TT}, Gd T → (pl T).length = np T := by
  intro T
  induction T using TT.ind with
  | leaf => exact fun h => h.elim
  | mk k x n kid IHK =>
    intro h
    rw [pl_eq, np_eq]
    rcases h with ⟨h, h2⟩ | ⟨h1, h2, _, h4⟩
    · subst h2; rw [if_pos h]; subst h; rfl
    · rw [if_neg (by omega)]
      have hK : ∀ i, i ≤ n → (plK kid i).length = npK k kid i := fun i => by
        induction i with
        | zero => intro _; show 0 = if k = 1 then 1 else 0; rw [if_neg (by omega)]
        | succ i ih => intro hi; rw [plK_succ, npK_succ, List.length_append, ih (by omega), IHK _ (h4 i (by omega))]
      exact hK n (Nat.le_refl _)
set_option maxHeartbeats 2000000 in
theorem tCheck_any (T : TT) (v : Value) (w : World) (hT : TRep 0 w T v) :
    Calls Tryd.prog 42 #[v] w fun e w' => (∃ c : Int, e = .returned (.int .i64 c) ∧ (c = 0 ↔ GdT T)) ∧ Below w.heap.size w w' := by
  obtain ⟨k, x, a, n, c, rfl⟩ : ∃ k x a n c, v = .agg #[.int .i64 k, .int .i64 x, .slice a n c] := by
    induction T using TT.ind with
    | leaf => exact hT.elim
    | mk k x n kid _ => obtain ⟨a, cap, rfl, _⟩ := hT; exact ⟨k, x, a, n, cap, rfl⟩
  obtain ⟨W, HWE⟩ : ∃ W, Hid (W = w.alloc (.cells #[.int .i64 k, .int .i64 x, .slice a n c] 27)) := ⟨_, rfl⟩
  have HB1 : Hid (Below w.heap.size w W) := by rw [HWE.out]; exact (Below.refl _ _).alloc (Nat.le_refl _) _
  have HX : Hid (∀ w', Below W.heap.size W w' → (w'.cell? ⟨w.heap.size, 0, none⟩ = some (.int .i64 k) ∧ w'.cell? ⟨w.heap.size, 1, none⟩ = some (.int .i64 x)) ∧ w'.cell? ⟨w.heap.size, 2, none⟩ = some (.slice a n c)) := fun w' h =>
    ⟨⟨cell_stp h (by rw [HWE.out]; simp), cell_stp h (by rw [HWE.out]; simp)⟩, cell_stp h (by rw [HWE.out]; simp)⟩
  have HTW : Hid (TRep 0 W T (.agg #[.int .i64 k, .int .i64 x, .slice a n c])) := TRep.step HB1.out _ _ hT
  have HTl : Hid (Tly (W.alloc (.cells #[.int .i64 0, .int .i64 0] 88)) W.heap.size 0 0) := by
    refine ⟨⟨?_, ?_⟩, World.frozen?_alloc_at _ _ _ _ (by simp), World.frozen?_alloc_at _ _ _ _ (by simp)⟩ <;> simp
  have HBY : Hid (Below W.heap.size W (W.alloc (.cells #[.int .i64 0, .int .i64 0] 88))) := (Below.refl _ _).alloc (Nat.le_refl _) _
  have HSW : Hid (W.heap.size = w.heap.size + 1) := by rw [Hid, HWE.out]; simp
  rw [HSW.out] at HTl
  have HCL := takes_any (w.heap.size + 1) W (by rw [HSW.out]; omega) T 0 0 _ _ (by omega) (by omega) HTW.out HBY.out HTl.out
  have HCL : Hid (Calls Tryd.prog 63 #[.pointer (some ⟨w.heap.size + 1, 0, none⟩), .agg #[.int .i64 k, .int .i64 x, .slice a n c]] ((w.alloc (.cells #[.int .i64 k, .int .i64 x, .slice a n c] 27)).alloc (.cells #[.int .i64 0, .int .i64 0] 88)) fun e w' => TkPost (w.heap.size + 1) T 0 0 W e w') := by rw [← HWE.out]; exact HCL
  clear hT
  go_enter Tryd.func42, Tryd.ntmps42
  go_wp2_with fail
  refine HCL.out.mono ?_
  rintro e w3 ⟨ok, rfl, hb3, hres⟩
  have HB3 : Hid (Below W.heap.size W w3) := hb3
  obtain ⟨⟨y0, y1⟩, y2⟩ := HX.out _ hb3
  clear hb3 HTl HBY HCL
  rcases hres with ⟨rfl, h1, h2, _⟩ | ⟨rfl, h1⟩
  · have HSZ : Hid (sz T ≤ 40 ∧ np T ≤ 10) := ⟨by omega, by omega⟩
    have HT3 : Hid (TRep 0 w3 T (.agg #[.int .i64 k, .int .i64 x, .slice a n c])) := TRep.step HB3.out _ _ HTW.out
    clear h1 h2
    go_wp2_with fail
    refine (checkForm_any T _ _ HT3.out).mono ?_
    rintro e w4 ⟨⟨c4, rfl, hc4⟩, hb4⟩
    have HB4 : Hid (Below W.heap.size W w4) := Below.then HB3.out hb4
    have HC4 : Hid (c4 = 0 ↔ Gd T) := hc4
    clear hb4 HB3 y0 y1 y2 HT3 hc4
    by_cases h0 : c4 = 0
    · subst h0
      have HG : Hid (Gd T) := HC4.out.1 rfl
      have HT4 : Hid (TRep 0 w4 T (.agg #[.int .i64 k, .int .i64 x, .slice a n c])) := TRep.step HB4.out _ _ HTW.out
      obtain ⟨⟨y0, y1⟩, y2⟩ := HX.out _ HB4.out
      clear HC4
      go_wp2_with fail
      refine (points_any T _ _ ⟨HG.out, HSZ.out.1⟩ HT4.out).mono ?_
      rintro e w5 ⟨⟨v5, rfl, hown⟩, hb5⟩
      have HB5 : Hid (Below W.heap.size W w5) := Below.then HB4.out hb5
      obtain ⟨a5, c5, rfl, hr5, _⟩ := owns_ints hown HG.out.pos
      have HR5 : Hid (Row w5 a5 (pl T).length (nthI (pl T))) := hr5
      have HL5 : Hid ((pl T).length ≤ 10) := by rw [Hid, pl_np HG.out]; exact HSZ.out.2
      have HGT : Hid (onc (nthI (pl T)) (pl T).length (pl T).length ↔ GdT T) := ⟨fun h => ⟨HSZ.out, HG.out, h⟩, fun h => h.2.2⟩
      clear hown hb5 hr5 y0 y1 y2 HT4 HB4
      generalize (pl T).length = m at *
      generalize nthI (pl T) = f at *
      go_wp2_with fail
      refine (eachOnce_any a5 m c5 f _ HL5.out HR5.out).mono ?_
      rintro e w6 ⟨⟨ok, rfl, hok⟩, rfl⟩
      have HOK : Hid (ok = true ↔ onc f m m) := hok
      clear hok
      rcases ok with _ | _
      · have HN : Hid (¬ GdT T) := fun h => by have := HOK.out.2 (HGT.out.2 h); cases this
        go_wp2_with fail
        go_ret
        exact ⟨⟨_, rfl, ⟨(fun k => by cases k), (fun k => absurd k HN.out)⟩⟩, Below.then HB1.out HB5.out⟩
      · have HN : Hid (GdT T) := HGT.out.1 (HOK.out.1 rfl)
        go_wp2_with fail
        go_ret
        exact ⟨⟨_, rfl, ⟨(fun _ => HN.out), (fun _ => rfl)⟩⟩, Below.then HB1.out HB5.out⟩
    · have hne : (c4 != 0) = true := by simpa using h0
      have HN : Hid (¬ GdT T) := fun h => h0 (HC4.out.2 h.2.1)
      clear HC4
      go_wp2_with fail
      go_ret
      exact ⟨⟨_, rfl, ⟨(fun k => absurd k h0), (fun k => absurd k HN.out)⟩⟩, Below.then HB1.out HB4.out⟩
  · have HN : Hid (¬ GdT T) := fun h => h1 ⟨by have := h.1.1; omega, by have := h.1.2; omega⟩
    clear h1
    go_wp2_with fail
    go_ret
    exact ⟨⟨_, rfl, ⟨(fun k => by cases k), (fun k => absurd k HN.out)⟩⟩, Below.then HB1.out HB3.out⟩
end Go.Proofs.YtjhpegjcknaioaaDoor
