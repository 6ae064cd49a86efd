/-
  What order.Check answers, whatever it is handed: the document's A1. No condition but that a slice reads as a slice of numbers.
  What the reference's Less and CheckOrder answer: CheckOrder the same as Check, whatever it is handed. No condition but that a slice reads as a slice of numbers.
  What order.reach does to a slice of the call's own: Warshall's rounds. Conditions: at most ten sets of so many points.
  What order.Make answers, whatever it is handed: the sets that Warshall's rounds come to. No condition but that a slice reads as a slice of pairs.
  Sets by a test on their points; what order.turn and order.bare answer. Conditions: at most ten sets of so many points.
-/
import Derived.Test.YthhnngmfbbljaaaGreatOrdered
import Derived.Deep.QuietTactic
import Derived.BigQuiet
namespace Go.Proofs.YthhnngmfbbljaaaGreat
set_option maxRecDepth 100000
open Go.RowKit

theorem Row.below {w w' : World} {a : Option Addr} {len : Nat} {f : Nat → Int} (h : Row w a len f) (hb : Below w.heap.size w w') : Row w' a len f := by
  intro k hk
  obtain ⟨b, off, rfl, hc⟩ := h k hk
  exact ⟨b, off, rfl, (hb.cell (World.block_lt_of_cell? _ _ hc)).trans hc⟩

def Rng (m : Nat) (f : Nat → Int) : Prop := ∀ k, k < m → 0 ≤ f k ∧ f k < (pw m : Nat)
def nat (f : Nat → Int) (k : Nat) : Nat := (f k).toNat
/-- What Check must answer. -/
def Chk (n : Int) (len : Nat) (f : Nat → Int) (c : Int) : Prop :=
  (c = 2 ∧ ¬ (0 ≤ n ∧ n ≤ 10)) ∨
  ∃ m : Nat, n = m ∧ m ≤ 10 ∧ ((c = 1 ∧ len ≠ m) ∨
    (len = m ∧ ((c = 3 ∧ ¬ Rng m f) ∨ (Rng m f ∧ ((c = 4 ∧ ¬ Ord m (nat f)) ∨ (c = 0 ∧ Ord m (nat f)))))))
theorem Chk.unique {n : Int} {len : Nat} {f : Nat → Int} {c c' : Int} (h : Chk n len f c) (h' : Chk n len f c') : c = c' := by
  rcases h with ⟨rfl, h⟩ | ⟨m, rfl, hm, h⟩
  · rcases h' with ⟨rfl, _⟩ | ⟨m, rfl, hm, _⟩
    · rfl
    · exact absurd ⟨by omega, by omega⟩ h
  · rcases h' with ⟨rfl, h'⟩ | ⟨m', hm', _, h'⟩
    · exact absurd ⟨by omega, by omega⟩ h'
    · have e : m' = m := by omega
      subst e
      rcases h with ⟨rfl, h⟩ | ⟨hl, h⟩
      · rcases h' with ⟨rfl, _⟩ | ⟨hl', _⟩
        · rfl
        · exact absurd hl' h
      · rcases h' with ⟨rfl, h'⟩ | ⟨_, h'⟩
        · exact absurd hl h'
        · rcases h with ⟨rfl, h⟩ | ⟨hr, h⟩
          · rcases h' with ⟨rfl, _⟩ | ⟨hr', _⟩
            · rfl
            · exact absurd hr' h
          · rcases h' with ⟨rfl, h'⟩ | ⟨_, h'⟩
            · exact absurd hr h'
            · rcases h with ⟨rfl, h⟩ | ⟨rfl, h⟩ <;> rcases h' with ⟨rfl, h'⟩ | ⟨rfl, h'⟩ <;> first | rfl | (exact absurd h h') | (exact absurd h' h)

theorem check_any (n : Int) (a : Option Addr) (len cap : Nat) (f : Nat → Int) (w : World) (hl : len ≤ maxLen) (hr : Row w a len f) :
    Calls Tryz.prog 50 #[.agg #[.int .i64 n, .slice a len cap]] w fun e w' => (∃ c : Int, e = .returned (.int .i64 c) ∧ Chk n len f c) ∧ Below w.heap.size w w' := by
  unfold maxLen at hl
  have HR := (show Hid (Row w a len f) from hr)
  clear hr
  have hB : ∀ o, Below w.heap.size w (w.alloc o) := fun o => (Below.refl _ _).alloc (Nat.le_refl _) o
  have HB := (show Hid _ from hB)
  clear hB
  by_cases hn : 0 ≤ n ∧ n ≤ 10
  · obtain ⟨m, rfl⟩ := Int.eq_ofNat_of_zero_le hn.1
    have hm : m ≤ 10 := by omega
    by_cases hlen : len = m
    · subst hlen
      have hd : cnt (len : Int) = true := by simpa [cnt] using hn
      clear hn
      go_enter Tryz.func50, Tryz.ntmps50
      go_wp2_with (go_at_call 48; refine (isCount_any _ _).mono ?_; rintro e w' ⟨rfl, rfl⟩)
      go_loop [18] (fun i => ∃ k : Nat, k ≤ len ∧ i = .int .i64 k ∧ Hid (∀ j, j < k → 0 ≤ f j ∧ f j < (pw len : Nat))) (fun i => len - (intOf i).toNat)
      case atStart => exact ⟨0, Nat.zero_le _, rfl, upto_zero⟩
      case round =>
        obtain ⟨k, hk, rfl, hok⟩ := hrel
        by_cases hlt : k < len
        · obtain ⟨b, off, rfl, hc⟩ := HR.out.at hlt
          have hck := hc k hlt
          have hbk : b < w.heap.size := World.block_lt_of_cell? _ _ hck
          clear hc
          by_cases hs : 0 ≤ f k ∧ f k < (pw len : Nat)
          · have hsd : sts (f k) len = true := by simpa [sts] using hs
            have HS := (show Hid _ from hs); clear hs
            go_wp2_with (go_at_call 51; refine (isSet_any _ _ _ hm).mono ?_; rintro e w' ⟨rfl, rfl⟩)
            go_round
            case rel => exact ⟨k + 1, by omega, by go_num, upto_succ hok.out HS.out⟩
            case measure => simp [intOf]; omega
          · have hsd : sts (f k) len = false := by simpa [sts] using hs
            have HS := (show Hid _ from hs); clear hs
            go_wp2_with (go_at_call 51; refine (isSet_any _ _ _ hm).mono ?_; rintro e w' ⟨rfl, rfl⟩)
            go_ret
            exact ⟨⟨_, rfl, .inr ⟨len, rfl, hm, .inr ⟨rfl, .inl ⟨rfl, fun h => HS.out (h k hlt)⟩⟩⟩⟩, HB.out _⟩
        · have hkn : k = len := by omega
          subst hkn
          have hg : ∀ j, j < k → f j = (nat f j : Nat) := fun j hj => by have := hok.out j hj; unfold nat; omega
          have hp := pw_le k hm
          have hg2 : ∀ j, j < k → nat f j < 1024 := fun j hj => by have := hok.out j hj; unfold nat; omega
          have hrow : ∀ o, Row (w.alloc o) a k (fun j => (nat f j : Nat)) := fun o j hj => by
            have := HR.out.below (HB.out o) j hj
            rw [hg j hj] at this; exact this
          have HG := (show Hid _ from hg); clear hg
          have HG2 := (show Hid _ from hg2); clear hg2
          have HW := (show Hid _ from hrow); clear hrow
          go_wp2_with fail
          refine (isOrdered_any k (nat f) a cap _ hm HG2.out (HW.out _)).mono ?_
          rintro e w' ⟨⟨b, rfl, hb⟩, rfl⟩
          cases b
          · have HN : Hid (¬ Ord k (nat f)) := fun h => by have := hb.2 h; cases this
            clear hb
            go_wp2
            go_ret
            exact ⟨⟨_, rfl, .inr ⟨k, rfl, hm, .inr ⟨rfl, .inr ⟨hok.out, .inl ⟨rfl, HN.out⟩⟩⟩⟩⟩, HB.out _⟩
          · have HN : Hid (Ord k (nat f)) := hb.1 rfl
            clear hb
            go_wp2
            go_ret
            exact ⟨⟨_, rfl, .inr ⟨k, rfl, hm, .inr ⟨rfl, .inr ⟨hok.out, .inr ⟨rfl, HN.out⟩⟩⟩⟩⟩, HB.out _⟩
    · have hd : cnt (m : Int) = true := by simpa [cnt] using hn
      have hne : ((len : Int) != (m : Int)) = true := by simp; omega
      clear hn
      go_enter Tryz.func50, Tryz.ntmps50
      go_wp2_with (go_at_call 48; refine (isCount_any _ _).mono ?_; rintro e w' ⟨rfl, rfl⟩)
      go_ret
      exact ⟨⟨_, rfl, .inr ⟨m, rfl, hm, .inl ⟨rfl, hlen⟩⟩⟩, HB.out _⟩
  · have hd : cnt n = false := by simpa [cnt] using hn
    have HN := (show Hid _ from hn); clear hn
    go_enter Tryz.func50, Tryz.ntmps50
    go_wp2_with (go_at_call 48; refine (isCount_any _ _).mono ?_; rintro e w' ⟨rfl, rfl⟩)
    go_ret
    exact ⟨⟨_, rfl, .inl ⟨rfl, HN.out⟩⟩, HB.out _⟩
end Go.Proofs.YthhnngmfbbljaaaGreat
namespace Go.Proofs.YthhnngmfbbljaaaGreat
set_option maxRecDepth 100000
open Go.RowKit

/-- The reference's law: who is below somebody below i is below i; and i is not below i. -/
def RefAt (n : Nat) (g : Nat → Nat) (i : Nat) : Prop :=
  (∀ j, j < n → ∀ k, k < n → ¬ ((g k).testBit j = true ∧ (g i).testBit k = true ∧ (g i).testBit j = false)) ∧ (g i).testBit i = false
theorem refAt_iff (n : Nat) (g : Nat → Nat) (i : Nat) (hn : n ≤ 10) (hg : ∀ k, k < n → g k < pw n) (hi : i < n) : RefAt n g i ↔ OrdAt n g i := by
  have hp := pw_le n hn
  have hb : ∀ k, k < n → g k < 18446744073709551616 := fun k hk => by have := hg k hk; omega
  constructor
  · rintro ⟨h1, h2⟩
    refine ⟨h2, fun p hp hb1 => (lack_zero _ _ (hb p hp) (hb i hi)).2 fun j hj => ?_⟩
    have hjn : j < n := bit_of_lt (hg p hp) hj
    cases h : (g i).testBit j
    · exact absurd ⟨hj, hb1, h⟩ (h1 j hjn p hp)
    · rfl
  · rintro ⟨h1, h2⟩
    refine ⟨fun j hj k hk ⟨c1, c2, c3⟩ => ?_, h1⟩
    have := (lack_zero _ _ (hb k hk) (hb i hi)).1 (h2 k hk c2) j c1
    rw [c3] at this
    cases this

/-- An order lies in block b0, its sets are the row f. -/
def Held (w : World) (b0 : Nat) (n : Int) (a : Option Addr) (len cap : Nat) (f : Nat → Int) : Prop :=
  w.cell? ⟨b0, 0, none⟩ = some (.int .i64 n) ∧ w.cell? ⟨b0, 1, none⟩ = some (.slice a len cap) ∧ Row w a len f
theorem Held.c0 {w : World} {b0 : Nat} {n : Int} {a : Option Addr} {len cap : Nat} {f : Nat → Int} (h : Held w b0 n a len cap f) : w.cell? ⟨b0, 0, none⟩ = some (.int .i64 n) := h.1
theorem Held.c1 {w : World} {b0 : Nat} {n : Int} {a : Option Addr} {len cap : Nat} {f : Nat → Int} (h : Held w b0 n a len cap f) : w.cell? ⟨b0, 1, none⟩ = some (.slice a len cap) := h.2.1
theorem Held.row {w : World} {b0 : Nat} {n : Int} {a : Option Addr} {len cap : Nat} {f : Nat → Int} (h : Held w b0 n a len cap f) : Row w a len f := h.2.2
theorem Held.step {w w' : World} {b0 : Nat} {n : Int} {a : Option Addr} {len cap : Nat} {f : Nat → Int} (h : Held w b0 n a len cap f) (hb : Below w.heap.size w w') : Held w' b0 n a len cap f :=
  ⟨(hb.cell (World.block_lt_of_cell? _ _ h.1)).trans h.1, (hb.cell (World.block_lt_of_cell? _ _ h.2.1)).trans h.2.1, h.2.2.below hb⟩
theorem Held.box {w : World} {n : Int} {a : Option Addr} {len cap : Nat} {f : Nat → Int} (h : Row w a len f) : Held (w.alloc (.cells #[.int .i64 n, .slice a len cap] 24)) w.heap.size n a len cap f :=
  ⟨by simp, by simp, h.below ((Below.refl _ _).alloc (Nat.le_refl _) _)⟩
theorem below_drewN {B : Nat} {a w : World} (h : Below B a w) (n : Nat) : Below B a (w.drewN n) := h.trans ⟨rfl, rfl, rfl, Nat.le_refl _, fun _ _ => rfl⟩
theorem Below.then {w w1 w2 : World} (h : Below w.heap.size w w1) (k : Below w1.heap.size w1 w2) : Below w.heap.size w w2 := h.trans (k.mono h.size)

end Go.Proofs.YthhnngmfbbljaaaGreat
namespace Go.Proofs.YthhnngmfbbljaaaGreat
set_option maxRecDepth 100000
open Go.RowKit

/-- A slice of the call's own at the head of block b: the numbers g. -/
def Own (w : World) (b n : Nat) (g : Nat → Nat) : Prop := ∀ k, k < n → w.cell? ⟨b, k, none⟩ = some (.int .i64 (g k : Nat)) ∧ w.frozen? ⟨b, k, none⟩ = false
def upd (g : Nat → Nat) (u v k : Nat) : Nat := if k = u then v else g k
theorem upd_same (g : Nat → Nat) (u v : Nat) : upd g u v u = v := by simp [upd]
theorem upd_other (g : Nat → Nat) (u v k : Nat) (h : k ≠ u) : upd g u v k = g k := by simp [upd, h]
theorem Own.row {w : World} {b n : Nat} {g : Nat → Nat} (h : Own w b n g) : Row w (some ⟨b, 0, none⟩) n (fun k => (g k : Nat)) :=
  fun k hk => ⟨b, 0, rfl, by rw [Nat.zero_add]; exact (h k hk).1⟩
theorem Own.set {w : World} {b n : Nat} {g : Nat → Nat} (h : Own w b n g) (u v : Nat) (hu : u < n) : Own (w.setCell ⟨b, u, none⟩ (.int .i64 (v : Nat))) b n (upd g u v) := by
  intro k hk
  refine ⟨?_, by rw [World.frozen?_setCell]; exact (h k hk).2⟩
  by_cases e : k = u
  · subst e; rw [upd_same]; exact World.cell?_setCell_same _ _ _ (h k hk).1
  · rw [upd_other _ _ _ _ e, World.cell?_setCell_other _ _ _ _ (fun e2 => e (by injection e2 with _ h2; exact h2.symm))]; exact (h k hk).1
theorem Own.lt {w : World} {b n : Nat} {g : Nat → Nat} (h : Own w b n g) {k : Nat} (hk : k < n) : b < w.heap.size := World.block_lt_of_cell? _ _ (h k hk).1
theorem Own.keep {w w' : World} {b n B : Nat} {g : Nat → Nat} (h : Own w b n g) (hB : Below B w w') (hb : b < B) : Own w' b n g :=
  fun k hk => ⟨(hB.cell (p := ⟨b, k, none⟩) hb).trans (h k hk).1, (hB.frozen (p := ⟨b, k, none⟩) hb).trans (h k hk).2⟩
theorem Own.alloc {w : World} {b n : Nat} {g : Nat → Nat} (h : Own w b n g) (o : Obj) : Own (w.alloc o) b n g :=
  fun k hk => (h.keep ((Below.refl w.heap.size w).alloc (Nat.le_refl _) o) (h.lt hk)) k hk
theorem Own.drewN {w : World} {b n : Nat} {g : Nat → Nat} (h : Own w b n g) (m : Nat) : Own (w.drewN m) b n g := h

/-- All sets are sets of m points. -/
def Sm (m n : Nat) (g : Nat → Nat) : Prop := ∀ k, k < n → g k < pw m
theorem Sm.upd_or {m n : Nat} {g : Nat → Nat} (h : Sm m n g) {u x y : Nat} (hx : x < pw m) (hy : y < pw m) : Sm m n (upd g u (x ||| y)) := by
  intro k hk
  unfold upd
  split
  · exact Nat.or_lt_two_pow hx hy
  · exact h k hk

def reachIn (g : Nat → Nat) (t low : Nat) : Nat → Nat → Nat
  | 0 => g
  | k + 1 => if (reachIn g t low k k).testBit t = true then upd (reachIn g t low k) k (reachIn g t low k k ||| low) else reachIn g t low k
def reachOut (g : Nat → Nat) (n : Nat) : Nat → Nat → Nat
  | 0 => g
  | t + 1 => reachIn (reachOut g n t) t (reachOut g n t t) n
theorem reachIn_yes {g : Nat → Nat} {t low k : Nat} (h : (reachIn g t low k k).testBit t = true) : reachIn g t low (k + 1) = upd (reachIn g t low k) k (reachIn g t low k k ||| low) := by
  funext j; simp [reachIn, h]
theorem reachIn_no {g : Nat → Nat} {t low k : Nat} (h : (reachIn g t low k k).testBit t = false) : reachIn g t low (k + 1) = reachIn g t low k := by
  funext j; simp [reachIn, h]
theorem reachIn_sm {m n : Nat} {g : Nat → Nat} (h : Sm m n g) {t low : Nat} (hl : low < pw m) : ∀ k, k ≤ n → Sm m n (reachIn g t low k)
  | 0, _ => h
  | k + 1, hk => by
    have ih := reachIn_sm h (t := t) hl k (by omega)
    cases hb : (reachIn g t low k k).testBit t
    · rw [reachIn_no hb]; exact ih
    · rw [reachIn_yes hb]; exact ih.upd_or (ih k (by omega)) hl
theorem reachOut_sm {m n : Nat} {g : Nat → Nat} (h : Sm m n g) : ∀ t, t ≤ n → Sm m n (reachOut g n t)
  | 0, _ => h
  | t + 1, ht => by
    have ih := reachOut_sm h t (by omega)
    exact reachIn_sm ih (ih t (by omega)) n (Nat.le_refl _)

end Go.Proofs.YthhnngmfbbljaaaGreat
namespace Go.Proofs.YthhnngmfbbljaaaGreat
set_option maxRecDepth 100000
open Go.RowKit

theorem Tryz.info3 : (Tryz.prog.info? 3).map (fun i => (i.zero, i.size, i.bytes)) = some (some (.int .i64 0), 1, 8) := by kernel_rfl

/-- A slice of len pairs. -/
def PRow (w : World) (a : Option Addr) (len : Nat) (p : Nat → Int × Int) : Prop :=
  ∀ k, k < len → ∃ b off, a = some ⟨b, off, none⟩ ∧ w.cell? ⟨b, off + k * 2, none⟩ = some (.int .i64 (p k).1) ∧ w.cell? ⟨b, off + k * 2 + 1, none⟩ = some (.int .i64 (p k).2)
theorem PRow.below {w w' : World} {a : Option Addr} {len : Nat} {p : Nat → Int × Int} (h : PRow w a len p) (hb : Below w.heap.size w w') : PRow w' a len p := by
  intro k hk
  obtain ⟨b, off, rfl, hc, hd⟩ := h k hk
  exact ⟨b, off, rfl, (hb.cell (World.block_lt_of_cell? _ _ hc)).trans hc, (hb.cell (World.block_lt_of_cell? _ _ hd)).trans hd⟩

theorem own_made {w : World} {base b m : Nat} (h : w.ownsRow base 3 1 (.slice (some ⟨b, 0, none⟩) m m) m (madeCells (Value.int .i64 0).cells (m * 1)).toList) : Own w b m (fun _ => 0) := by
  intro k hk
  refine ⟨?_, h.frozenAt k⟩
  rw [h.cellAt k (by omega)]
  have e : (Value.int .i64 0).cells = #[Value.int .i64 0] := rfl
  rw [e, toList_madeCells_one]
  simp [hk]

theorem or_pw {x m b : Nat} (hm : m ≤ 10) (hx : x < pw m) (hb : b < m) : bits .or .i64 (x : Int) ((pw b : Nat) : Int) = ((x ||| pw b : Nat) : Int) := by
  have h1 := pw_le m hm
  have h2 := pw_le b (by omega)
  generalize pw m = P at *
  generalize pw b = Q at *
  exact i64_or x Q (by omega) (by omega)
def mk (p : Nat → Int × Int) : Nat → Nat → Nat
  | 0 => fun _ => 0
  | k + 1 => upd (mk p k) (p k).2.toNat (mk p k (p k).2.toNat ||| pw (p k).1.toNat)
def PIn (n : Int) (p : Nat → Int × Int) (k : Nat) : Prop := (0 ≤ (p k).1 ∧ (p k).1 < n) ∧ (0 ≤ (p k).2 ∧ (p k).2 < n)
theorem mk_sm {n : Nat} {p : Nat → Int × Int} : ∀ k, (∀ j, j < k → PIn n p j) → Sm n n (mk p k)
  | 0, _ => fun _ _ => pw_pos n
  | k + 1, h => by
    have ih := mk_sm (n := n) k (fun j hj => h j (by omega))
    obtain ⟨⟨h1, h2⟩, h3, h4⟩ := h k (by omega)
    refine ih.upd_or (ih _ (by omega)) ?_
    exact Nat.pow_lt_pow_right (by decide) (by omega)
/-- What Make must answer. -/
def Mk (n : Int) (len : Nat) (p : Nat → Int × Int) (c : Int) : Prop :=
  (c = 2 ∧ ¬ (0 ≤ n ∧ n ≤ 10)) ∨
  ∃ m : Nat, n = m ∧ m ≤ 10 ∧ ((c = 3 ∧ ¬ ∀ k, k < len → PIn m p k) ∨
    ((∀ k, k < len → PIn m p k) ∧ ((c = 4 ∧ ¬ Ord m (reachOut (mk p len) m m)) ∨ (c = 0 ∧ Ord m (reachOut (mk p len) m m)))))
def noOrder : Value := .agg #[.int .i64 0, .slice none 0 0]
def Made (n : Int) (len : Nat) (p : Nat → Int × Int) (w : World) (e : Ending) (w' : World) : Prop :=
  (∃ c, c ≠ 0 ∧ Mk n len p c ∧ e = .returned (.tuple #[noOrder, .int .i64 c])) ∨
  ∃ (m b : Nat), Mk n len p 0 ∧ n = m ∧ m ≤ 10 ∧ w.heap.size ≤ b ∧ e = .returned (.tuple #[.agg #[.int .i64 n, .slice (some ⟨b, 0, none⟩) m m], .int .i64 0]) ∧ Own w' b m (reachOut (mk p len) m m)

theorem resbox {w X : World} (h : Below (w.heap.size + 1) (w.alloc (.cells #[.int .i64 0, .slice none 0 0] 24)) X) :
    X.cell? ⟨w.heap.size, 0, none⟩ = some (.int .i64 0) ∧ X.cell? ⟨w.heap.size, 1, none⟩ = some (.slice none 0 0) ∧ X.frozen? ⟨w.heap.size, 0, none⟩ = false ∧ X.frozen? ⟨w.heap.size, 1, none⟩ = false :=
  ⟨(h.cell (p := ⟨w.heap.size, 0, none⟩) (Nat.lt_succ_self _)).trans (by simp), (h.cell (p := ⟨w.heap.size, 1, none⟩) (Nat.lt_succ_self _)).trans (by simp),
   (h.frozen (p := ⟨w.heap.size, 0, none⟩) (Nat.lt_succ_self _)).trans (by simp [World.frozen?_alloc_at]), (h.frozen (p := ⟨w.heap.size, 1, none⟩) (Nat.lt_succ_self _)).trans (by simp [World.frozen?_alloc_at])⟩
theorem out_below {w X : World} {o : Obj} (h : Below (w.heap.size + 1) (w.alloc o) X) : Below w.heap.size w X :=
  ((Below.refl _ _).alloc (Nat.le_refl _) o).trans (h.mono (Nat.le_succ _))

theorem set2 {w X : World} {u v : Value} (h : Below w.heap.size w X) : Below w.heap.size w ((X.setCell ⟨w.heap.size, 0, none⟩ u).setCell ⟨w.heap.size, 1, none⟩ v) :=
  (h.setCell (p := ⟨w.heap.size, 0, none⟩) (Nat.le_refl _) _).setCell (p := ⟨w.heap.size, 1, none⟩) (Nat.le_refl _) _
theorem Own.set2 {w X : World} {m : Nat} {g : Nat → Nat} {u v : Value} (h : Own X (w.heap.size + 1) m g) : Own ((X.setCell ⟨w.heap.size, 0, none⟩ u).setCell ⟨w.heap.size, 1, none⟩ v) (w.heap.size + 1) m g := by
  intro k hk
  refine ⟨?_, by rw [World.frozen?_setCell, World.frozen?_setCell]; exact (h k hk).2⟩
  rw [World.cell?_setCell_other _ _ _ _ (fun e => by injection e with e1; omega), World.cell?_setCell_other _ _ _ _ (fun e => by injection e with e1; omega)]
  exact (h k hk).1

end Go.Proofs.YthhnngmfbbljaaaGreat
namespace Go.Proofs.YthhnngmfbbljaaaGreat
set_option maxRecDepth 100000
open Go.RowKit

/-- The set of those of the first k points that P lets by. -/
def setBy (P : Nat → Bool) : Nat → Nat
  | 0 => 0
  | k + 1 => if P k = true then setBy P k + pw k else setBy P k
theorem setBy_yes {P : Nat → Bool} {k : Nat} (h : P k = true) : setBy P (k + 1) = setBy P k + pw k := by simp [setBy, h]
theorem setBy_no {P : Nat → Bool} {k : Nat} (h : P k = false) : setBy P (k + 1) = setBy P k := by simp [setBy, h]
theorem setBy_lt (P : Nat → Bool) : ∀ k, setBy P k < pw k
  | 0 => by simp [setBy, pw]
  | k + 1 => by
    have := setBy_lt P k
    rw [pw_succ]
    cases h : P k
    · rw [setBy_no h]; omega
    · rw [setBy_yes h]; omega
theorem setBy_congr {P Q : Nat → Bool} : ∀ k, (∀ i, i < k → P i = Q i) → setBy P k = setBy Q k
  | 0, _ => rfl
  | k + 1, h => by
    have ih := setBy_congr k (fun i hi => h i (by omega))
    have hk := h k (by omega)
    simp only [setBy, hk, ih]
theorem or_pw_add {x k : Nat} (h : x < pw k) : x ||| pw k = x + pw k := by
  have e := Nat.two_pow_add_eq_or_of_lt (show x < 2 ^ k from h) 1
  rw [Nat.mul_one] at e
  show x ||| 2 ^ k = x + 2 ^ k
  rw [Nat.or_comm, ← e]; omega
theorem pw_bit (k i : Nat) : (pw k).testBit i = decide (k = i) := Nat.testBit_two_pow
theorem setBy_bit (P : Nat → Bool) : ∀ k i, (setBy P k).testBit i = (decide (i < k) && P i)
  | 0, i => by simp [setBy]
  | k + 1, i => by
    have ih := setBy_bit P k i
    cases h : P k
    · rw [setBy_no h, ih]
      by_cases e : i = k
      · subst e; simp [h]
      · have : decide (i < k + 1) = decide (i < k) := by simp; omega
        rw [this]
    · rw [setBy_yes h, ← or_pw_add (setBy_lt P k), Nat.testBit_or, ih, pw_bit]
      by_cases e : i = k
      · subst e; simp [h]
      · have : decide (i < k + 1) = decide (i < k) := by simp; omega
        rw [this]
        have : decide (k = i) = false := by simp; omega
        simp [this]
theorem eq_of_bits {x y n : Nat} (hx : x < pw n) (hy : y < pw n) (h : ∀ i, i < n → x.testBit i = y.testBit i) : x = y := by
  apply Nat.eq_of_testBit_eq
  intro i
  by_cases hi : i < n
  · exact h i hi
  · have h1 : x.testBit i = false := by
      cases e : x.testBit i
      · rfl
      · exact absurd (bit_of_lt hx e) hi
    have h2 : y.testBit i = false := by
      cases e : y.testBit i
      · rfl
      · exact absurd (bit_of_lt hy e) hi
    rw [h1, h2]

/-- Those of the first u points above l. -/
def trn (g : Nat → Nat) (u l : Nat) : Nat := setBy (fun x => (g x).testBit l) u
def mix (g : Nat → Nat) (u k l : Nat) : Nat := if l < k then trn g (u + 1) l else trn g u l
theorem mix_zero (g : Nat → Nat) (u : Nat) : mix g u 0 = trn g u := by funext l; simp [mix]
theorem mix_same (g : Nat → Nat) (u k : Nat) : mix g u k k = trn g u k := by simp [mix]
theorem mix_yes {g : Nat → Nat} {u k : Nat} (h : (g u).testBit k = true) : mix g u (k + 1) = upd (mix g u k) k (trn g u k ||| pw u) := by
  funext l
  by_cases e : l = k
  · subst e
    rw [upd_same, or_pw_add (show trn g u l < pw u from setBy_lt _ u)]
    simp only [mix, Nat.lt_succ_self, if_true]
    exact setBy_yes h
  · rw [upd_other _ _ _ _ e]
    have : (l < k + 1) = (l < k) := by simp; omega
    simp only [mix, this]
theorem mix_no {g : Nat → Nat} {u k : Nat} (h : (g u).testBit k = false) : mix g u (k + 1) = mix g u k := by
  funext l
  by_cases e : l = k
  · subst e
    simp only [mix, Nat.lt_succ_self, if_true, Nat.lt_irrefl, if_false]
    exact setBy_no h
  · have : (l < k + 1) = (l < k) := by simp; omega
    simp only [mix, this]
theorem Own.congr {w : World} {b n : Nat} {g h : Nat → Nat} (ho : Own w b n g) (e : ∀ k, k < n → g k = h k) : Own w b n h :=
  fun k hk => by rw [← e k hk]; exact ho k hk
theorem trn_small (g : Nat → Nat) (u l m : Nat) (h : u ≤ m) : trn g u l < pw m := Nat.lt_of_lt_of_le (setBy_lt _ u) (Nat.pow_le_pow_right (by decide) h)

end Go.Proofs.YthhnngmfbbljaaaGreat
