/-
  What order.reach does to a slice of the call's own: Warshall's rounds. Conditions: at most ten sets of so many points.
-/
import Derived.Test.YtomoodpgmkjacabDoorRefCheck
namespace Go.Proofs.YtomoodpgmkjacabDoor
open Go.RowKit

/-- A slice of the call's own at the head of block b: the numbers g. -/
def Own (w : World) (b n : Nat) (g : Nat → Nat) : Prop := ∀ k, k < n → w.cell? ⟨b, k, none⟩ = some (.int .i64 (g k : Nat)) ∧ w.frozen? ⟨b, k, none⟩ = false
def upd (g : Nat → Nat) (u v k : Nat) : Nat := if k = u then v else g k
theorem upd_same (g : Nat → Nat) (u v : Nat) : upd g u v u = v := by simp [upd]
theorem upd_other (g : Nat → Nat) (u v k : Nat) (h : k ≠ u) : upd g u v k = g k := by simp [upd, h]
theorem Own.row {w : World} {b n : Nat} {g : Nat → Nat} (h : Own w b n g) : Row w (some ⟨b, 0, none⟩) n (fun k => (g k : Nat)) :=
  fun k hk => ⟨b, 0, rfl, by rw [Nat.zero_add]; exact (h k hk).1⟩
theorem Own.set {w : World} {b n : Nat} {g : Nat → Nat} (h : Own w b n g) (u v : Nat) (hu : u < n) : Own (w.setCell ⟨b, u, none⟩ (.int .i64 (v : Nat))) b n (upd g u v) := by
  intro k hk
  refine ⟨?_, by rw [World.frozen?_setCell]; exact (h k hk).2⟩
  by_cases e : k = u
  · subst e; rw [upd_same]; exact World.cell?_setCell_same _ _ _ (h k hk).1
  · rw [upd_other _ _ _ _ e, World.cell?_setCell_other _ _ _ _ (fun e2 => e (by injection e2 with _ h2; exact h2.symm))]; exact (h k hk).1
theorem Own.lt {w : World} {b n : Nat} {g : Nat → Nat} (h : Own w b n g) {k : Nat} (hk : k < n) : b < w.heap.size := World.block_lt_of_cell? _ _ (h k hk).1
theorem Own.keep {w w' : World} {b n B : Nat} {g : Nat → Nat} (h : Own w b n g) (hB : Below B w w') (hb : b < B) : Own w' b n g :=
  fun k hk => ⟨(hB.cell (p := ⟨b, k, none⟩) hb).trans (h k hk).1, (hB.frozen (p := ⟨b, k, none⟩) hb).trans (h k hk).2⟩
theorem Own.alloc {w : World} {b n : Nat} {g : Nat → Nat} (h : Own w b n g) (o : Obj) : Own (w.alloc o) b n g :=
  fun k hk => (h.keep ((Below.refl w.heap.size w).alloc (Nat.le_refl _) o) (h.lt hk)) k hk
theorem Own.drewN {w : World} {b n : Nat} {g : Nat → Nat} (h : Own w b n g) (m : Nat) : Own (w.drewN m) b n g := h

/-- All sets are sets of m points. -/
def Sm (m n : Nat) (g : Nat → Nat) : Prop := ∀ k, k < n → g k < pw m
theorem Sm.upd_or {m n : Nat} {g : Nat → Nat} (h : Sm m n g) {u x y : Nat} (hx : x < pw m) (hy : y < pw m) : Sm m n (upd g u (x ||| y)) := by
  intro k hk
  unfold upd
  split
  · exact Nat.or_lt_two_pow hx hy
  · exact h k hk

def reachIn (g : Nat → Nat) (t low : Nat) : Nat → Nat → Nat
  | 0 => g
  | k + 1 => if (reachIn g t low k k).testBit t = true then upd (reachIn g t low k) k (reachIn g t low k k ||| low) else reachIn g t low k
def reachOut (g : Nat → Nat) (n : Nat) : Nat → Nat → Nat
  | 0 => g
  | t + 1 => reachIn (reachOut g n t) t (reachOut g n t t) n
theorem reachIn_yes {g : Nat → Nat} {t low k : Nat} (h : (reachIn g t low k k).testBit t = true) : reachIn g t low (k + 1) = upd (reachIn g t low k) k (reachIn g t low k k ||| low) := by
  funext j; simp [reachIn, h]
theorem reachIn_no {g : Nat → Nat} {t low k : Nat} (h : (reachIn g t low k k).testBit t = false) : reachIn g t low (k + 1) = reachIn g t low k := by
  funext j; simp [reachIn, h]
theorem reachIn_sm {m n : Nat} {g : Nat → Nat} (h : Sm m n g) {t low : Nat} (hl : low < pw m) : ∀ k, k ≤ n → Sm m n (reachIn g t low k)
  | 0, _ => h
  | k + 1, hk => by
    have ih := reachIn_sm h (t := t) hl k (by omega)
    cases hb : (reachIn g t low k k).testBit t
    · rw [reachIn_no hb]; exact ih
    · rw [reachIn_yes hb]; exact ih.upd_or (ih k (by omega)) hl
theorem reachOut_sm {m n : Nat} {g : Nat → Nat} (h : Sm m n g) : ∀ t, t ≤ n → Sm m n (reachOut g n t)
  | 0, _ => h
  | t + 1, ht => by
    have ih := reachOut_sm h t (by omega)
    exact reachIn_sm ih (ih t (by omega)) n (Nat.le_refl _)

set_option maxHeartbeats 400000 in
theorem reach_any (n : Nat) (g : Nat → Nat) (b cap : Nat) (w : World) (hn : n ≤ 10) (hg : Sm n n g) (ho : Own w b n g) :
    Calls Tryd.prog 23 #[.slice (some ⟨b, 0, none⟩) n cap] w fun e w' => e = .returned (.tuple #[]) ∧ Own w' b n (reachOut g n n) ∧ Below b w w' := by
  have hpw := pw_le n hn
  go_enter Tryd.func23, Tryd.ntmps23
  go_wp2
  go_loopw [8] (fun i wx => ∃ t : Nat, t ≤ n ∧ i = .int .i64 t ∧ Own wx b n (reachOut g n t) ∧ Below b w wx) (fun i _ => n - (intOf i).toNat)
  case atStart => exact ⟨0, Nat.zero_le _, rfl, ho, Below.refl _ _⟩
  case round =>
    obtain ⟨t, ht, rfl, hown, hB⟩ := hrel
    clear ho
    by_cases hlt : t < n
    · obtain ⟨G, HG⟩ : ∃ G, Hid (G = reachOut g n t) := ⟨_, rfl⟩
      have hsm : Sm n n G := by rw [HG.out]; exact reachOut_sm hg t (by omega)
      rw [← HG.out] at hown
      have hct := (hown t hlt).1
      go_wp2
      have HOWN := (show Hid _ from hown); clear hown hct
      go_loopw [15] (fun i wy => ∃ k : Nat, k ≤ n ∧ i = .int .i64 k ∧ Own wy b n (reachIn G t (G t) k) ∧ Below b w wy) (fun i _ => n - (intOf i).toNat)
      case atStart => exact ⟨0, Nat.zero_le _, rfl, HOWN.out, hB⟩
      case round =>
        obtain ⟨k, hk, rfl, hown, hBy⟩ := hrel
        clear HOWN
        by_cases hkl : k < n
        · have hGt := hsm t hlt
          have hsk := reachIn_sm hsm (t := t) hGt k hk
          obtain ⟨h, HH⟩ : ∃ h, Hid (h = reachIn G t (G t) k) := ⟨_, rfl⟩
          rw [← HH.out] at hown hsk
          have hck := (hown k hkl).1
          have hfk := (hown k hkl).2
          have hhk := hsk k hkl
          have hor := i64_or (h k) (G t) (by omega) (by omega)
          rcases (Bool.eq_false_or_eq_true ((h k).testBit t)).symm with hb | hb
          · go_wp2_with (go_at_call 28; refine (has_any _ _ _ (by omega) (by omega)).mono ?_; rintro e w' ⟨rfl, rfl⟩)
            go_roundw
            case rel => exact ⟨k + 1, by omega, by go_num, by rw [reachIn_no (by rw [← HH.out]; exact hb), ← HH.out]; exact hown, hBy⟩
            case measure => simp [intOf]; omega
          · go_wp2_with (go_at_call 28; refine (has_any _ _ _ (by omega) (by omega)).mono ?_; rintro e w' ⟨rfl, rfl⟩)
            go_roundw
            case rel => exact ⟨k + 1, by omega, by go_num, by rw [reachIn_yes (by rw [← HH.out]; exact hb), ← HH.out]; exact hown.set k _ hkl, hBy.setCell (Nat.le_refl _) _⟩
            case measure => simp [intOf]; omega
        · have hkn : k = n := by omega
          subst hkn
          go_wp2
          go_roundw
          case rel => exact ⟨t + 1, by omega, by go_num, by rw [HG.out] at hown; exact hown, hBy⟩
          case measure => simp [intOf]; omega
    · have htn : t = n := by omega
      subst htn
      go_wp2
      go_end0
      exact ⟨rfl, hown, hB⟩
end Go.Proofs.YtomoodpgmkjacabDoor
