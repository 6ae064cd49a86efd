/-
  What concept.Check and the reference's CheckGraph answer, whatever they are handed: the document's O1. No condition but that a slice reads as a slice of numbers.
  What concept.marksOf, thingsWith and checkSet answer, and Marks and Things. Conditions: of the last two none but that a slice reads as a slice of numbers.
-/
import Derived.Test.YthhnngmfbbljaaaGreatFilM
import Derived.Deep.LoopGhost
import Derived.Deep.QuietTactic
import Derived.BigQuiet
import Derived.Test.YthhnngmfbbljaaaGreatNxtM
namespace Go.Proofs.YthhnngmfbbljaaaGreat
set_option maxRecDepth 100000
open Go.RowKit

def GRng (l r : Nat) (f : Nat → Int) : Prop := ∀ k, k < l → 0 ≤ f k ∧ f k < (pw r : Nat)
/-- What Check must answer of a context. -/
def GChk (L R : Int) (len : Nat) (f : Nat → Int) (c : Int) : Prop :=
  (c = 2 ∧ ¬ ((0 ≤ L ∧ L ≤ 10) ∧ (0 ≤ R ∧ R ≤ 10))) ∨
  ∃ l r : Nat, L = l ∧ R = r ∧ l ≤ 10 ∧ r ≤ 10 ∧ ((c = 1 ∧ len ≠ l) ∨ (len = l ∧ ((c = 3 ∧ ¬ GRng l r f) ∨ (c = 0 ∧ GRng l r f))))
theorem GChk.unique {L R : Int} {len : Nat} {f : Nat → Int} {c c' : Int} (h : GChk L R len f c) (h' : GChk L R len f c') : c = c' := by
  rcases h with ⟨rfl, h⟩ | ⟨l, r, rfl, rfl, hl, hr, h⟩
  · rcases h' with ⟨rfl, _⟩ | ⟨l, r, rfl, rfl, hl, hr, _⟩
    · rfl
    · exact absurd ⟨⟨by omega, by omega⟩, by omega, by omega⟩ h
  · rcases h' with ⟨rfl, h'⟩ | ⟨l', r', e1, e2, _, _, h'⟩
    · exact absurd ⟨⟨by omega, by omega⟩, by omega, by omega⟩ h'
    · obtain rfl : l' = l := by omega
      obtain rfl : r' = r := by omega
      rcases h with ⟨rfl, h⟩ | ⟨hl, ⟨rfl, h⟩ | ⟨rfl, h⟩⟩ <;> rcases h' with ⟨rfl, h'⟩ | ⟨hl', ⟨rfl, h'⟩ | ⟨rfl, h'⟩⟩ <;> first | rfl | (exact absurd hl' h) | (exact absurd hl h') | (exact absurd h h') | (exact absurd h' h)
theorem GChk.good {L R : Int} {len : Nat} {f : Nat → Int} (h : GChk L R len f 0) : ∃ r : Nat, L = (len : Int) ∧ R = (r : Int) ∧ len ≤ 10 ∧ r ≤ 10 ∧ GRng len r f := by
  rcases h with ⟨h, _⟩ | ⟨l, r, rfl, rfl, hl, hr, ⟨h, _⟩ | ⟨rfl, ⟨h, _⟩ | ⟨_, h⟩⟩⟩
  · cases h
  · cases h
  · cases h
  · exact ⟨r, rfl, rfl, hl, hr, h⟩

/-- A context lies in block b0, its sets are the row f. -/
def GHeld (w : World) (b0 : Nat) (L R : Int) (a : Option Addr) (len cap : Nat) (f : Nat → Int) : Prop :=
  w.cell? ⟨b0, 0, none⟩ = some (.int .i64 L) ∧ w.cell? ⟨b0, 1, none⟩ = some (.int .i64 R) ∧ w.cell? ⟨b0, 2, none⟩ = some (.slice a len cap) ∧ Row w a len f
theorem GHeld.c0 {w : World} {b0 : Nat} {L R : Int} {a : Option Addr} {len cap : Nat} {f : Nat → Int} (h : GHeld w b0 L R a len cap f) : w.cell? ⟨b0, 0, none⟩ = some (.int .i64 L) := h.1
theorem GHeld.c1 {w : World} {b0 : Nat} {L R : Int} {a : Option Addr} {len cap : Nat} {f : Nat → Int} (h : GHeld w b0 L R a len cap f) : w.cell? ⟨b0, 1, none⟩ = some (.int .i64 R) := h.2.1
theorem GHeld.c2 {w : World} {b0 : Nat} {L R : Int} {a : Option Addr} {len cap : Nat} {f : Nat → Int} (h : GHeld w b0 L R a len cap f) : w.cell? ⟨b0, 2, none⟩ = some (.slice a len cap) := h.2.2.1
theorem GHeld.row {w : World} {b0 : Nat} {L R : Int} {a : Option Addr} {len cap : Nat} {f : Nat → Int} (h : GHeld w b0 L R a len cap f) : Row w a len f := h.2.2.2
theorem GHeld.step {w w' : World} {b0 : Nat} {L R : Int} {a : Option Addr} {len cap : Nat} {f : Nat → Int} (h : GHeld w b0 L R a len cap f) (hb : Below w.heap.size w w') : GHeld w' b0 L R a len cap f :=
  ⟨(hb.cell (World.block_lt_of_cell? _ _ h.1)).trans h.1, (hb.cell (World.block_lt_of_cell? _ _ h.2.1)).trans h.2.1, (hb.cell (World.block_lt_of_cell? _ _ h.2.2.1)).trans h.2.2.1, h.2.2.2.below hb⟩
/-- The box of a context. -/
def gbox (w : World) (L R : Int) (a : Option Addr) (len cap : Nat) : World := w.alloc (.cells #[.int .i64 L, .int .i64 R, .slice a len cap] 29)
theorem GHeld.box {w : World} {L R : Int} {a : Option Addr} {len cap : Nat} {f : Nat → Int} (h : Row w a len f) : GHeld (w.alloc (.cells #[.int .i64 L, .int .i64 R, .slice a len cap] 29)) w.heap.size L R a len cap f :=
  ⟨by simp, by simp, by simp, h.below ((Below.refl _ _).alloc (Nat.le_refl _) _)⟩

theorem ccheck_any (L R : Int) (a : Option Addr) (len cap : Nat) (f : Nat → Int) (w : World) (hl : len ≤ maxLen) (hr : Row w a len f) :
    Calls Tryz.prog 40 #[.agg #[.int .i64 L, .int .i64 R, .slice a len cap]] w fun e w' => (∃ c : Int, e = .returned (.int .i64 c) ∧ GChk L R len f c) ∧ Below w.heap.size w w' := by
  unfold maxLen at hl
  have HR : Hid (Row w a len f) := hr
  clear hr
  have HB : Hid (∀ o, Below w.heap.size w (w.alloc o)) := fun o => (Below.refl _ _).alloc (Nat.le_refl _) o
  by_cases hn : 0 ≤ L ∧ L ≤ 10
  · have hdL : cnt L = true := by simpa [cnt] using hn
    by_cases hn2 : 0 ≤ R ∧ R ≤ 10
    · have hdR : cnt R = true := by simpa [cnt] using hn2
      obtain ⟨l, rfl⟩ := Int.eq_ofNat_of_zero_le hn.1
      obtain ⟨r, rfl⟩ := Int.eq_ofNat_of_zero_le hn2.1
      have hm : l ≤ 10 := by omega
      have hm2 : r ≤ 10 := by omega
      clear hn hn2
      by_cases hlen : len = l
      · subst hlen
        go_enter Tryz.func40, Tryz.ntmps40
        go_wp2_with (go_at_call 48; refine (isCount_any _ _).mono ?_; rintro e w' ⟨rfl, rfl⟩)
        go_loop [24] (fun i => ∃ k : Nat, k ≤ len ∧ i = .int .i64 k ∧ Hid (∀ j, j < k → 0 ≤ f j ∧ f j < (pw r : Nat))) (fun i => len - (intOf i).toNat)
        case atStart => exact ⟨0, Nat.zero_le _, rfl, upto_zero⟩
        case round =>
          obtain ⟨k, hk, rfl, hok⟩ := hrel
          by_cases hlt : k < len
          · obtain ⟨b, off, rfl, hc⟩ := HR.out.at hlt
            have hck := hc k hlt
            have hbk : b < w.heap.size := World.block_lt_of_cell? _ _ hck
            clear hc
            by_cases hs : 0 ≤ f k ∧ f k < (pw r : Nat)
            · have hsd : sts (f k) r = true := by simpa [sts] using hs
              have HS := (show Hid _ from hs); clear hs
              go_wp2_with (go_at_call 51; refine (isSet_any _ _ _ hm2).mono ?_; rintro e w' ⟨rfl, rfl⟩)
              go_round
              case rel => exact ⟨k + 1, by omega, by go_num, upto_succ hok.out HS.out⟩
              case measure => simp [intOf]; omega
            · have hsd : sts (f k) r = false := by simpa [sts] using hs
              have HS := (show Hid _ from hs); clear hs
              go_wp2_with (go_at_call 51; refine (isSet_any _ _ _ hm2).mono ?_; rintro e w' ⟨rfl, rfl⟩)
              go_ret
              exact ⟨⟨_, rfl, .inr ⟨len, r, rfl, rfl, hm, hm2, .inr ⟨rfl, .inl ⟨rfl, fun h => HS.out (h k hlt)⟩⟩⟩⟩, HB.out _⟩
          · have hkn : k = len := by omega
            subst hkn
            go_wp2
            go_ret
            exact ⟨⟨_, rfl, .inr ⟨k, r, rfl, rfl, hm, hm2, .inr ⟨rfl, .inr ⟨rfl, hok.out⟩⟩⟩⟩, HB.out _⟩
      · have hne : ((len : Int) != (l : Int)) = true := by simp; omega
        go_enter Tryz.func40, Tryz.ntmps40
        go_wp2_with (go_at_call 48; refine (isCount_any _ _).mono ?_; rintro e w' ⟨rfl, rfl⟩)
        go_ret
        exact ⟨⟨_, rfl, .inr ⟨l, r, rfl, rfl, hm, hm2, .inl ⟨rfl, hlen⟩⟩⟩, HB.out _⟩
    · have hdR : cnt R = false := by simpa [cnt] using hn2
      go_enter Tryz.func40, Tryz.ntmps40
      go_wp2_with (go_at_call 48; refine (isCount_any _ _).mono ?_; rintro e w' ⟨rfl, rfl⟩)
      go_ret
      exact ⟨⟨_, rfl, .inl ⟨rfl, fun h => hn2 h.2⟩⟩, HB.out _⟩
  · have hdL : cnt L = false := by simpa [cnt] using hn
    go_enter Tryz.func40, Tryz.ntmps40
    go_wp2_with (go_at_call 48; refine (isCount_any _ _).mono ?_; rintro e w' ⟨rfl, rfl⟩)
    go_ret
    exact ⟨⟨_, rfl, .inl ⟨rfl, fun h => hn h.1⟩⟩, HB.out _⟩

end Go.Proofs.YthhnngmfbbljaaaGreat
namespace Go.Proofs.YthhnngmfbbljaaaGreat
set_option maxRecDepth 100000
open Go.RowKit

theorem hasAll_any (s p : Nat) (w : World) (hs : s < 9223372036854775808) (hp : p < 9223372036854775808) :
    Calls Tryz.prog 92 #[.int .i64 s, .int .i64 p] w fun e w' => e = .returned (.bool (lack p s == 0)) ∧ w = w' := by
  have h := i64_andNot p s hp hs
  go_enter Tryz.func92, Tryz.ntmps92
  go_wp2
  go_ret
  refine ⟨ret_bool ?_, rfl⟩
  rw [Bool.eq_iff_iff]
  simp

theorem marksOf_any (a : Option Addr) (n m cap : Nat) (h : Nat → Nat) (s : Nat) (w : World) (h10 : n ≤ 10) (m10 : m ≤ 10) (hh : ∀ k, k < n → h k < 1024) (hr : Row w a n (fun k => (h k : Nat))) (hs : s < 1024) :
    Calls Tryz.prog 53 #[.agg #[.int .i64 (n : Int), .int .i64 (m : Int), .slice a n cap], .int .i64 (s : Nat)] w fun e w' => e = .returned (.int .i64 (mks h n m s : Nat)) ∧ Below w.heap.size w w' := by
  have HG : Hid (∀ k, k < n → h k < 1024) := hh
  have K0 : Hid (GHeld (w.alloc (.cells #[.int .i64 (n : Int), .int .i64 (m : Int), .slice a n cap] 29)) w.heap.size n m a n cap (fun k => (h k : Nat))) := GHeld.box hr
  have HB0 : Hid (Below w.heap.size w (w.alloc (.cells #[.int .i64 (n : Int), .int .i64 (m : Int), .slice a n cap] 29))) := (Below.refl _ _).alloc (Nat.le_refl _) _
  have hpos := pw_pos m
  have HL0 : Hid (((pw m : Nat) : Int) - 1 = ((mko h m s 0 : Nat) : Int)) := by show _ = ((pw m - 1 : Nat) : Int); omega
  clear hr hh hpos
  go_enter Tryz.func53, Tryz.ntmps53
  go_wp2_with (go_at_call 76; refine (all_any m _ m10).mono ?_; rintro e w' ⟨rfl, rfl⟩)
  go_loopw [5, 14] (fun p i wx => ∃ k : Nat, k ≤ n ∧ i = .int .i64 k ∧ p = .int .i64 (mko h m s k : Nat) ∧ Hid (GHeld wx w.heap.size n m a n cap (fun k => (h k : Nat))) ∧ Hid (Below w.heap.size w wx)) (fun _ i _ => n - (intOf i).toNat)
  case atStart => exact ⟨0, Nat.zero_le _, rfl, by rw [← HL0.out], K0, HB0⟩
  case round =>
    obtain ⟨k, hk, rfl, rfl, hH, hB⟩ := hrel
    clear K0 HB0
    have k0 := hH.out.c0
    have k1 := hH.out.c1
    by_cases hlt : k < n
    · obtain ⟨b, off, rfl, hc⟩ := hH.out.row k hlt
      have hlt' : (k : Int) < (n : Int) := by omega
      rcases (Bool.eq_false_or_eq_true (s.testBit k)).symm with hb | hb
      · have HE : Hid (mko h m s (k + 1) = mko h m s k) := mko_no hb
        go_wp2_with (go_at_call 65; refine (has_any _ _ _ (by omega) (by omega)).mono ?_; rintro e w' ⟨rfl, rfl⟩)
        go_roundw
        case rel => exact ⟨k + 1, by omega, by go_num, by rw [HE.out], hH, hB⟩
        case measure => simp [intOf]; omega
      · have HE : Hid (mko h m s (k + 1) = mko h m s k &&& h k) := mko_yes hb
        have hl1 : mko h m s k < 1024 := Nat.lt_of_lt_of_le (mko_lt h m s k) (pw_le m m10)
        have hl2 : h k < 1024 := HG.out k hlt
        have HV : Hid (bits .and .i64 ((mko h m s k : Nat) : Int) ((h k : Nat) : Int) = ((mko h m s k &&& h k : Nat) : Int)) := i64_and _ _ (by omega) (by omega)
        go_wp2_with (go_at_call 65; refine (has_any _ _ _ (by omega) (by omega)).mono ?_; rintro e w' ⟨rfl, rfl⟩)
        go_roundw
        case rel => exact ⟨k + 1, by omega, by go_num, by rw [HE.out, ← HV.out], hH, hB⟩
        case measure => simp [intOf]; omega
    · have hkn : k = n := by omega
      subst hkn
      clear k0 k1
      go_wp2
      go_ret
      exact ⟨rfl, hB.out⟩

theorem thingsWith_any (a : Option Addr) (n m cap : Nat) (h : Nat → Nat) (M : Nat) (w : World) (h10 : n ≤ 10) (hh : ∀ k, k < n → h k < 1024) (hr : Row w a n (fun k => (h k : Nat))) (hM : M < 1024) :
    Calls Tryz.prog 69 #[.agg #[.int .i64 (n : Int), .int .i64 (m : Int), .slice a n cap], .int .i64 (M : Nat)] w fun e w' => e = .returned (.int .i64 (ths h n M : Nat)) ∧ Below w.heap.size w w' := by
  have HG : Hid (∀ k, k < n → h k < 1024) := hh
  have K0 : Hid (GHeld (w.alloc (.cells #[.int .i64 (n : Int), .int .i64 (m : Int), .slice a n cap] 29)) w.heap.size n m a n cap (fun k => (h k : Nat))) := GHeld.box hr
  have HB0 : Hid (Below w.heap.size w (w.alloc (.cells #[.int .i64 (n : Int), .int .i64 (m : Int), .slice a n cap] 29))) := (Below.refl _ _).alloc (Nat.le_refl _) _
  clear hr hh
  go_enter Tryz.func69, Tryz.ntmps69
  go_wp2_with fail
  go_loopw [5, 11] (fun p i wx => ∃ k : Nat, k ≤ n ∧ i = .int .i64 k ∧ p = .int .i64 (setBy (hasA h M) k : Nat) ∧ Hid (GHeld wx w.heap.size n m a n cap (fun k => (h k : Nat))) ∧ Hid (Below w.heap.size w wx)) (fun _ i _ => n - (intOf i).toNat)
  case atStart => exact ⟨0, Nat.zero_le _, rfl, rfl, K0, HB0⟩
  case round =>
    obtain ⟨k, hk, rfl, rfl, hH, hB⟩ := hrel
    clear K0 HB0
    have k0 := hH.out.c0
    have k1 := hH.out.c1
    by_cases hlt : k < n
    · obtain ⟨b, off, rfl, hc⟩ := hH.out.row k hlt
      have hlt' : (k : Int) < (n : Int) := by omega
      have hl2 : h k < 1024 := HG.out k hlt
      rcases (Bool.eq_false_or_eq_true (hasA h M k)).symm with hb | hb
      · have HE : Hid (setBy (hasA h M) (k + 1) = setBy (hasA h M) k) := setBy_no hb
        have hq : (lack M (h k) == 0) = false := hb
        go_wp2_with (go_at_call 92; refine (hasAll_any _ _ _ (by omega) (by omega)).mono ?_; rintro e w' ⟨rfl, rfl⟩)
        go_roundw
        case rel => exact ⟨k + 1, by omega, by go_num, by rw [HE.out], hH, hB⟩
        case measure => simp [intOf]; omega
      · have HE : Hid (setBy (hasA h M) (k + 1) = setBy (hasA h M) k ||| pw k) := (setBy_yes hb).trans (or_pw_add (setBy_lt _ _)).symm
        have hq : (lack M (h k) == 0) = true := hb
        have hl1 : setBy (hasA h M) k < 1024 := Nat.lt_of_lt_of_le (setBy_lt _ k) (pw_le k (by omega))
        have HV : Hid (bits .or .i64 ((setBy (hasA h M) k : Nat) : Int) (wrap64 (2 ^ k)) = ((setBy (hasA h M) k ||| pw k : Nat) : Int)) := by
          rw [wrap_pow k (by omega)]
          exact i64_or _ _ (by omega) (by have := pw_le k (by omega); omega)
        go_wp2_with (go_at_call 92; refine (hasAll_any _ _ _ (by omega) (by omega)).mono ?_; rintro e w' ⟨rfl, rfl⟩)
        go_roundw
        case rel => exact ⟨k + 1, by omega, by go_num, by rw [HE.out, ← HV.out], hH, hB⟩
        case measure => simp [intOf]; omega
    · have hkn : k = n := by omega
      subst hkn
      clear k0 k1
      go_wp2
      go_ret
      exact ⟨rfl, hB.out⟩
end Go.Proofs.YthhnngmfbbljaaaGreat
