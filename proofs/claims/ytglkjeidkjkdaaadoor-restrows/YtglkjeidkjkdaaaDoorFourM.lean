/-
  Terms in the memory: how a value reads as a term. No condition.
  What the reference's Same answers of two slices of numbers. No condition but that they read so.
  Plain facts on the first of four points of which something is so; what the reference's Less, Apart and hasselaw.numbersAre answer. Conditions: at most ten points.
-/
import Derived.Test.YtglkjeidkjkdaaaDoorTmM
import Derived.Test.YtglkjeidkjkdaaaDoorSpA
import Derived.Test.YtglkjeidkjkdaaaDoorBuild
import Derived.Deep.QuietTactic
import Derived.BigQuiet
import Derived.Test.YtglkjeidkjkdaaaDoorNats
namespace Go.Proofs.YtglkjeidkjkdaaaDoor
set_option maxRecDepth 100000
open Go.RowKit

/-- A value reads as a term whose blocks are K at least. -/
def TRep (K : Nat) (w : World) : TT → Value → Prop
  | .node none _, _ => False
  | .node (some (k, x, n)) kid, v => ∃ (a : Option Addr) (cap : Nat), v = .agg #[.int .i64 k, .int .i64 x, .slice a n cap] ∧ n ≤ maxLen ∧ ∀ i, i < n → ∃ b off, a = some ⟨b, off, none⟩ ∧ K ≤ b ∧ ∃ (k' x' : Int) (a' : Option Addr) (n' c' : Nat),
      (w.cell? ⟨b, off + i * 3, none⟩ = some (.int .i64 k') ∧ w.cell? ⟨b, off + i * 3 + 1, none⟩ = some (.int .i64 x') ∧ w.cell? ⟨b, off + i * 3 + 2, none⟩ = some (.slice a' n' c')) ∧ TRep K w (kid i rfl) (.agg #[.int .i64 k', .int .i64 x', .slice a' n' c'])
theorem cell_stp {w w' : World} {p : Addr} {v : Value} (hb : Below w.heap.size w w') (h : w.cell? p = some v) : w'.cell? p = some v := (hb.cell (World.block_lt_of_cell? _ _ h)).trans h
theorem TRep.step {K : Nat} {w w' : World} (hb : Below w.heap.size w w') (T : TT) : ∀ v, TRep K w T v → TRep K w' T v := by
  induction T using TT.ind with
  | leaf => exact fun _ h => h.elim
  | mk k x n kid ih =>
    intro v h
    obtain ⟨a, cap, rfl, hn, hk⟩ := h
    refine ⟨a, cap, rfl, hn, fun i hi => ?_⟩
    obtain ⟨b, off, e, hK, k', x', a', n', c', ⟨h1, h2, h3⟩, h4⟩ := hk i hi
    exact ⟨b, off, e, hK, k', x', a', n', c', ⟨cell_stp hb h1, cell_stp hb h2, cell_stp hb h3⟩, ih i _ h4⟩
theorem TRep.low {K K' : Nat} (hK' : K' ≤ K) {w : World} (T : TT) : ∀ v, TRep K w T v → TRep K' w T v := by
  induction T using TT.ind with
  | leaf => exact fun _ h => h.elim
  | mk k x n kid ih =>
    intro v h
    obtain ⟨a, cap, rfl, hn, hk⟩ := h
    refine ⟨a, cap, rfl, hn, fun i hi => ?_⟩
    obtain ⟨b, off, e, hK, k', x', a', n', c', h1, h4⟩ := hk i hi
    exact ⟨b, off, e, Nat.le_trans hK' hK, k', x', a', n', c', h1, ih i _ h4⟩
/-- A block below K is written: the term stays. -/
theorem TRep.set {K : Nat} {w : World} {B u : Nat} {z : Value} (hB : B < K) (T : TT) : ∀ v, TRep K w T v → TRep K (w.setCell ⟨B, u, none⟩ z) T v := by
  induction T using TT.ind with
  | leaf => exact fun _ h => h.elim
  | mk k x n kid ih =>
    intro v h
    obtain ⟨a, cap, rfl, hn, hk⟩ := h
    refine ⟨a, cap, rfl, hn, fun i hi => ?_⟩
    obtain ⟨b, off, e, hK, k', x', a', n', c', ⟨h1, h2, h3⟩, h4⟩ := hk i hi
    have ne : ∀ o, (w.setCell ⟨B, u, none⟩ z).cell? ⟨b, o, none⟩ = w.cell? ⟨b, o, none⟩ := fun o => World.cell?_setCell_other _ _ _ _ (fun e => by injection e with e1; omega)
    exact ⟨b, off, e, hK, k', x', a', n', c', ⟨(ne _).trans h1, (ne _).trans h2, (ne _).trans h3⟩, ih i _ h4⟩
end Go.Proofs.YtglkjeidkjkdaaaDoor
namespace Go.Proofs.YtglkjeidkjkdaaaDoor
open Go.RowKit

theorem same_any (a b : Option Addr) (la ca lb cb : Nat) (f g : Nat → Int) (w : World) (hl : la ≤ maxLen) (hl2 : lb ≤ maxLen) (ha : Row w a la f) (hb : Row w b lb g) :
    Calls Tryd.prog 17 #[.slice a la ca, .slice b lb cb] w fun e w' => Ans e (SameRows la lb f g) ∧ Below w.heap.size w w' := by
  unfold maxLen at hl hl2
  by_cases hlen : la = lb
  · subst hlen
    have HA := (show Hid _ from ha); have HB := (show Hid _ from hb); clear ha hb
    go_enter Tryd.func17, Tryd.ntmps17
    go_wp2
    go_loopw [5] (fun i wx => ∃ k : Nat, k ≤ la ∧ i = .int .i64 k ∧ Hid (∀ j, j < k → f j = g j) ∧ Row wx a la f ∧ Row wx b la g ∧ Hid (Below w.heap.size w wx)) (fun i _ => la - (intOf i).toNat)
    case atStart => exact ⟨0, Nat.zero_le _, rfl, upto_zero, HA.out, HB.out, Below.refl _ _⟩
    case round =>
      obtain ⟨k, hk, rfl, hok, hA, hB, hW⟩ := hrel
      clear HA HB
      by_cases hlt : k < la
      · obtain ⟨b1, o1, rfl, hc1⟩ := hA.at hlt
        obtain ⟨b2, o2, rfl, hc2⟩ := hB.at hlt
        have d1 := hc1 k hlt
        have d2 := hc2 k hlt
        clear hc1 hc2
        have hlt' : (k : Int) < (la : Int) := by omega
        by_cases he : f k = g k
        · have hne : (f k != g k) = false := by simpa using he
          have HE := (show Hid _ from he); clear he
          go_wp2
          go_quiet (fail)
          go_wp2
          go_roundw
          case rel => exact ⟨k + 1, by omega, by go_num, upto_succ hok.out HE.out, hA, hB, below_drewN hW.out _⟩
          case measure => simp [intOf]; omega
        · have hne : (f k != g k) = true := by simpa using he
          go_wp2
          go_quiet (fail)
          go_wp2
          go_ret
          exact ⟨Ans.no (fun h => he (h.2 k hlt)), below_drewN hW.out _⟩
      · have hkn : k = la := by omega
        subst hkn
        go_wp2
        go_ret
        exact ⟨Ans.yes ⟨rfl, hok.out⟩, hW.out⟩
  · have hne : ((la : Int) != (lb : Int)) = true := by simp; omega
    clear ha hb
    go_enter Tryd.func17, Tryd.ntmps17
    go_wp2
    go_ret
    exact ⟨Ans.no (fun h => hlen h.1), Below.refl _ _⟩
end Go.Proofs.YtglkjeidkjkdaaaDoor
namespace Go.Proofs.YtglkjeidkjkdaaaDoor
open Go.RowKit

theorem ord_tr {n : Nat} {g : Nat → Nat} (hn : n ≤ 10) (hg : Sm n n g) (h : Ord n g) {a b c : Nat} (hb : b < n) (hc : c < n) (h1 : (g b).testBit a = true) (h2 : (g c).testBit b = true) : (g c).testBit a = true := by
  have hl := pw_le n hn
  have e := (h c hc).2 b hb h2
  exact (lack_zero _ _ (by have := hg b hb; omega) (by have := hg c hc; omega)).1 e a h1

/-- Is neither of two points below the other one? -/
def apB (g : Nat → Nat) (i k : Nat) : Bool := !(g k).testBit i && !(g i).testBit k
theorem NSl.below {w w' : World} {v : Value} {l : List Nat} (h : NSl w v l) (hb : Below w.heap.size w w') : NSl w' v l := by
  obtain ⟨a, cap, rfl, hr⟩ := h
  exact ⟨a, cap, rfl, hr.below hb⟩

/-- The number of four points. -/
def idx (n a b c d : Nat) : Nat := ((a * n + b) * n + c) * n + d
/-- Something, asked of the four points with number k. -/
def P4 (n : Nat) (P : Nat → Nat → Nat → Nat → Bool) (k : Nat) : Bool := P (k / n / n / n) (k / n / n % n) (k / n % n) (k % n)
theorem div_of {X n d : Nat} (h : d < n) : (X * n + d) / n = X := by
  rw [Nat.mul_comm, Nat.mul_add_div (by omega), Nat.div_eq_of_lt h, Nat.add_zero]
theorem mod_of {X n d : Nat} (h : d < n) : (X * n + d) % n = d := by
  rw [Nat.mul_comm, Nat.mul_add_mod, Nat.mod_eq_of_lt h]
theorem idx_dig {n a b c d : Nat} (hb : b < n) (hc : c < n) (hd : d < n) : idx n a b c d / n / n / n = a ∧ idx n a b c d / n / n % n = b ∧ idx n a b c d / n % n = c ∧ idx n a b c d % n = d := by
  unfold idx
  rw [div_of hd, div_of hc, div_of hb, mod_of hb, mod_of hc, mod_of hd]
  exact ⟨rfl, rfl, rfl, rfl⟩
theorem P4_idx {n a b c d : Nat} (P : Nat → Nat → Nat → Nat → Bool) (hb : b < n) (hc : c < n) (hd : d < n) : P4 n P (idx n a b c d) = P a b c d := by
  obtain ⟨h1, h2, h3, h4⟩ := idx_dig (a := a) hb hc hd
  unfold P4; rw [h1, h2, h3, h4]
theorem idx_d (n a b c : Nat) : idx n a b c n = idx n a b (c + 1) 0 := by
  simp only [idx, Nat.add_mul, Nat.one_mul, Nat.add_zero, Nat.add_assoc]
theorem idx_c (n a b : Nat) : idx n a b n 0 = idx n a (b + 1) 0 0 := by
  simp only [idx, Nat.add_mul, Nat.one_mul, Nat.add_zero, Nat.add_assoc]
theorem idx_b (n a : Nat) : idx n a n 0 0 = idx n (a + 1) 0 0 0 := by
  simp only [idx, Nat.add_mul, Nat.one_mul, Nat.add_zero]
theorem idx_a (n : Nat) : idx n n 0 0 0 = n * n * n * n := by simp [idx]
/-- Not so of any of the first t. -/
def Upto (n : Nat) (P : Nat → Nat → Nat → Nat → Bool) (t : Nat) : Prop := ∀ j, j < t → P4 n P j = false
theorem Upto.zero (n : Nat) (P : Nat → Nat → Nat → Nat → Bool) : Upto n P 0 := fun _ hj => absurd hj (Nat.not_lt_zero _)
theorem Upto.next {n t : Nat} {P : Nat → Nat → Nat → Nat → Bool} (h : Upto n P t) (h1 : P4 n P t = false) : Upto n P (t + 1) := fun j hj => by
  by_cases e : j = t
  · subst e; exact h1
  · exact h j (by omega)
/-- The first four points of which it is so; or there are none. -/
def First (n : Nat) (P : Nat → Nat → Nat → Nat → Bool) (l : List Nat) (ok : Bool) : Prop :=
  (ok = true ∧ ∃ k, k < n * n * n * n ∧ P4 n P k = true ∧ Upto n P k ∧ l = [k / n / n / n, k / n / n % n, k / n % n, k % n]) ∨ (ok = false ∧ l = [] ∧ Upto n P (n * n * n * n))
theorem First.one {n : Nat} {P : Nat → Nat → Nat → Nat → Bool} {l l' : List Nat} {ok ok' : Bool} (h : First n P l ok) (h' : First n P l' ok') : l = l' ∧ ok = ok' := by
  rcases h with ⟨rfl, k, hk, hp, hu, rfl⟩ | ⟨rfl, rfl, hu⟩ <;> rcases h' with ⟨rfl, k', hk', hp', hu', rfl⟩ | ⟨rfl, rfl, hu'⟩
  · have : k = k' := by
      rcases Nat.lt_trichotomy k k' with h | h | h
      · have := hu' k h; rw [hp] at this; cases this
      · exact h
      · have := hu k' h; rw [hp'] at this; cases this
    subst this; exact ⟨rfl, rfl⟩
  · have := hu' k hk; rw [hp] at this; cases this
  · have := hu k' hk'; rw [hp'] at this; cases this
  · exact ⟨rfl, rfl⟩
theorem dig_lt {n k : Nat} (hn : 0 < n) (hk : k < n * n * n * n) : k / n / n / n < n ∧ k / n / n % n < n ∧ k / n % n < n ∧ k % n < n := by
  refine ⟨?_, Nat.mod_lt _ hn, Nat.mod_lt _ hn, Nat.mod_lt _ hn⟩
  refine Nat.div_lt_of_lt_mul (Nat.div_lt_of_lt_mul (Nat.div_lt_of_lt_mul ?_))
  have e : n * (n * (n * n)) = n * n * n * n := by simp only [Nat.mul_assoc]
  rw [e]; exact hk
theorem First.congr {n : Nat} {P Q : Nat → Nat → Nat → Nat → Bool} (h : ∀ a b c d, a < n → b < n → c < n → d < n → P a b c d = Q a b c d) {l : List Nat} {ok : Bool} (hf : First n P l ok) : First n Q l ok := by
  have e : ∀ k, k < n * n * n * n → P4 n P k = P4 n Q k := fun k hk => by
    have hn : 0 < n := by
      rcases Nat.eq_zero_or_pos n with h0 | h0
      · subst h0; simp at hk
      · exact h0
    obtain ⟨h1, h2, h3, h4⟩ := dig_lt hn hk
    exact h _ _ _ _ h1 h2 h3 h4
  rcases hf with ⟨rfl, k, hk, hp, hu, rfl⟩ | ⟨rfl, rfl, hu⟩
  · exact .inl ⟨rfl, k, hk, (e k hk) ▸ hp, fun j hj => (e j (by omega)) ▸ hu j hj, rfl⟩
  · exact .inr ⟨rfl, rfl, fun j hj => (e j hj) ▸ hu j hj⟩
theorem idx_lt {n a b c d : Nat} (ha : a < n) (hb : b < n) (hc : c < n) (hd : d < n) : idx n a b c d < n * n * n * n := by
  have h1 : a * n + b + 1 ≤ n * n := by
    have := Nat.mul_le_mul_right n (show a + 1 ≤ n from ha)
    rw [Nat.add_mul, Nat.one_mul] at this; omega
  have h2 : (a * n + b) * n + c + 1 ≤ n * n * n := by
    have := Nat.mul_le_mul_right n h1
    rw [Nat.add_mul, Nat.one_mul] at this; omega
  have h3 := Nat.mul_le_mul_right n h2
  rw [Nat.add_mul, Nat.one_mul] at h3
  unfold idx; omega

/-- Two chains that know nothing of one another; three in a chain, and one apart. -/
def twoP (g : Nat → Nat) (a b c d : Nat) : Bool := (g b).testBit a && (g d).testBit c && !(g d).testBit a && !(g b).testBit c
def threeP (g : Nat → Nat) (a b c d : Nat) : Bool := (g b).testBit a && (g c).testBit b && apB g d a && apB g d b && apB g d c
/-- Four different points. -/
def diff (a b c d : Nat) : Bool := !(a == b) && !(a == c) && !(a == d) && !(b == c) && !(b == d) && !(c == d)
theorem diff_of {a b c d : Nat} (h1 : a ≠ b) (h2 : a ≠ c) (h3 : a ≠ d) (h4 : b ≠ c) (h5 : b ≠ d) (h6 : c ≠ d) : diff a b c d = true := by simp [diff, h1, h2, h3, h4, h5, h6]
theorem two_diff {n : Nat} {g : Nat → Nat} (hn : n ≤ 10) (hg : Sm n n g) (ho : Ord n g) {a b c d : Nat} (ha : a < n) (hb : b < n) (hc : c < n) (hd : d < n) (h : twoP g a b c d = true) : diff a b c d = true := by
  simp only [twoP, Bool.and_eq_true, Bool.not_eq_true'] at h
  obtain ⟨⟨⟨h1, h2⟩, h3⟩, h4⟩ := h
  refine diff_of ?_ ?_ ?_ ?_ ?_ ?_
  · rintro rfl; rw [(ho a ha).1] at h1; cases h1
  · rintro rfl; rw [h1] at h4; cases h4
  · rintro rfl; have := ord_tr hn hg ho ha hb h2 h1; rw [this] at h4; cases h4
  · rintro rfl; have := ord_tr hn hg ho hb hd h1 h2; rw [this] at h3; cases h3
  · rintro rfl; rw [h1] at h3; cases h3
  · rintro rfl; rw [(ho c hc).1] at h2; cases h2
theorem three_diff {n : Nat} {g : Nat → Nat} (hn : n ≤ 10) (hg : Sm n n g) (ho : Ord n g) {a b c d : Nat} (ha : a < n) (hb : b < n) (hc : c < n) (h : threeP g a b c d = true) : diff a b c d = true := by
  simp only [threeP, apB, Bool.and_eq_true, Bool.not_eq_true'] at h
  obtain ⟨⟨⟨⟨h1, h2⟩, h3, h4⟩, h5, h6⟩, h7, h8⟩ := h
  have h9 := ord_tr hn hg ho hb hc h1 h2
  refine diff_of ?_ ?_ ?_ ?_ ?_ ?_
  · rintro rfl; rw [(ho a ha).1] at h1; cases h1
  · rintro rfl; rw [(ho a ha).1] at h9; cases h9
  · rintro rfl; rw [h1] at h5; cases h5
  · rintro rfl; rw [(ho b hb).1] at h2; cases h2
  · rintro rfl; rw [h1] at h4; cases h4
  · rintro rfl; rw [h2] at h6; cases h6
end Go.Proofs.YtglkjeidkjkdaaaDoor
