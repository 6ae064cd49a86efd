/-
  What embed.differing and Lighter answer. Conditions: as each theorem says; of Lighter none but that slices read as slices of numbers, and the table of the least bits.
-/
import Derived.Test.YtimpgcmkdcmhkabDoorEmU
namespace Go.Proofs.YtimpgcmkdcmhkabDoor
set_option maxRecDepth 100000
open Go.RowKit

/-- A slice of the call's own at the head of block b: the numbers g, which may be negative. -/
def OwnI (w : World) (b n : Nat) (g : Nat → Int) : Prop := ∀ k, k < n → w.cell? ⟨b, k, none⟩ = some (.int .i64 (g k)) ∧ w.frozen? ⟨b, k, none⟩ = false
def updI (g : Nat → Int) (u : Nat) (v : Int) (k : Nat) : Int := if k = u then v else g k
theorem OwnI.set {w : World} {b n : Nat} {g : Nat → Int} (h : OwnI w b n g) (u : Nat) (v : Int) (hu : u < n) : OwnI (w.setCell ⟨b, u, none⟩ (.int .i64 v)) b n (updI g u v) := by
  intro k hk
  refine ⟨?_, by rw [World.frozen?_setCell]; exact (h k hk).2⟩
  by_cases e : k = u
  · subst e; rw [updI, if_pos rfl]; exact World.cell?_setCell_same _ _ _ (h k hk).1
  · rw [updI, if_neg e, World.cell?_setCell_other _ _ _ _ (fun e2 => e (by injection e2 with _ h2; exact h2.symm))]; exact (h k hk).1
theorem OwnI.congr {w : World} {b n : Nat} {g h : Nat → Int} (ho : OwnI w b n g) (e : ∀ k, k < n → g k = h k) : OwnI w b n h := fun k hk => by rw [← e k hk]; exact ho k hk
theorem tms_succ (l : Nat) (f : Nat → Nat) (x : Nat) : tms (l + 1) f x = tms l f x + (if f l = x then 1 else 0) := by
  unfold tms; rw [cntT]; simp
theorem tms_le (l : Nat) (f : Nat → Nat) (x : Nat) : tms l f x ≤ l := cntT_le _ _
theorem up_tms (k : Nat) (f : Nat → Nat) (x : Nat) : updI (fun x => ((tms k f x : Nat) : Int)) (f k) (((tms k f (f k) : Nat) : Int) + 1) x = ((tms (k + 1) f x : Nat) : Int) := by
  rw [tms_succ, updI]
  by_cases e : x = f k
  · subst e; simp
  · rw [if_neg e, if_neg (fun h => e h.symm)]; simp
theorem down_tms (A : Nat → Nat) (k : Nat) (f : Nat → Nat) (x : Nat) : updI (fun x => ((A x : Nat) : Int) - ((tms k f x : Nat) : Int)) (f k) (((A (f k) : Nat) : Int) - ((tms k f (f k) : Nat) : Int) - 1) x = ((A x : Nat) : Int) - ((tms (k + 1) f x : Nat) : Int) := by
  rw [tms_succ, updI]
  by_cases e : x = f k
  · subst e; simp; omega
  · rw [if_neg e, if_neg (fun h => e h.symm)]; simp
/-- The letters below k of which there are more. -/
def morT (A B : Nat → Nat) (k : Nat) : Nat := setBy (fun x => decide (B x < A x)) k
theorem mor_yes {A B : Nat → Nat} {k : Nat} (h : B k < A k) : mor A B (k + 1) = mor A B k ||| pw k := by
  unfold mor; rw [setBy_yes (by simpa using h), or_pw_add (setBy_lt _ _)]
theorem mor_no {A B : Nat → Nat} {k : Nat} (h : ¬ B k < A k) : mor A B (k + 1) = mor A B k := by
  unfold mor; rw [setBy_no (by simpa using h)]
theorem or_small {m k : Nat} (hm : m < 1024) (hk : k < 10) : bits .or .i64 (m : Int) ((pw k : Nat) : Int) = ((m ||| pw k : Nat) : Int) := by
  have h2 := pw_small k (by omega)
  exact i64_or _ _ (by omega) (by omega)

set_option maxHeartbeats 4000000 in
theorem differing_any (n : Nat) (a : Option Addr) (la ca : Nat) (fa : Nat → Nat) (b : Option Addr) (lb cb : Nat) (fb : Nat → Nat) (w : World) (hn : n ≤ 10) (hla : la ≤ 12) (hlb : lb ≤ 12)
    (ha : Row w a la (fun k => (fa k : Nat))) (hb : Row w b lb (fun k => (fb k : Nat))) (hfa : ∀ i, i < la → fa i < n) (hfb : ∀ i, i < lb → fb i < n) :
    Calls Tryd.prog 25 #[.int .i64 (n : Nat), .slice a la ca, .slice b lb cb] w fun e w' => e = .returned (.tuple #[.int .i64 (mor (tms la fa) (tms lb fb) n : Nat), .int .i64 (mor (tms lb fb) (tms la fa) n : Nat)]) ∧ Below w.heap.size w w' := by
  have HA : Hid (Row w a la (fun k => (fa k : Nat))) := ha
  have HB : Hid (Row w b lb (fun k => (fb k : Nat))) := hb
  have HFA : Hid (∀ i, i < la → fa i < n) := hfa
  have HFB : Hid (∀ i, i < lb → fb i < n) := hfb
  clear ha hb hfa hfb
  obtain ⟨i0, hi, hz0, hz1, hz2⟩ := info_parts Tryd.info3
  go_enter Tryd.func25, Tryd.ntmps25
  go_wp2_with (at_make; refine wpList_make_full _ rfl _ _ 22 rfl w.heap.size 3 i0 (.int .i64 0) 1 Tryd.underlying22 hi hz0 hz1 .i64 .i64 _ _ n rfl rfl rfl rfl (by rw [hz2]; omega) (by unfold maxLen; omega) (Nat.le_refl _) ?_; intro w1 hown1 hgrow1)
  have HB1 : Hid (Below w.heap.size w w1) := (Below.refl _ _).grown hgrow1 (Nat.le_refl _) (by simp)
  have HO1 : Hid (OwnI w1 w.heap.size n (fun x => ((tms 0 fa x : Nat) : Int))) := own_made hown1
  clear hown1 hgrow1 hi hz0 hz1 hz2
  go_loopw [19] (fun i wx => ∃ k : Nat, k ≤ la ∧ i = .int .i64 k ∧ Hid (OwnI wx w.heap.size n (fun x => ((tms k fa x : Nat) : Int))) ∧ Hid (Below w.heap.size w wx)) (fun i _ => la - (intOf i).toNat)
  case atStart => exact ⟨0, Nat.zero_le _, rfl, HO1.out, HB1.out⟩
  case round =>
    obtain ⟨k, hk, rfl, hO, hB⟩ := hrel
    clear HO1 HB1
    by_cases hlt : k < la
    · obtain ⟨b1, o1, rfl, hc⟩ := HA.out.below hB.out k hlt
      have hx := HFA.out k hlt
      obtain ⟨hck, hfk⟩ := hO.out (fa k) hx
      have HN : Hid (∀ x, x < n → updI (fun x => ((tms k fa x : Nat) : Int)) (fa k) (((tms k fa (fa k) : Nat) : Int) + 1) x = ((tms (k + 1) fa x : Nat) : Int)) := fun x _ => up_tms k fa x
      have ht := tms_le k fa (fa k)
      generalize hgx : fa k = x at *
      generalize hgt : tms k fa x = t at *
      go_wp2_with fail
      go_roundw
      case rel => exact ⟨k + 1, by omega, by go_num, (hO.out.set x _ hx).congr HN.out, Below.setCell (p := ⟨w.heap.size, x, none⟩) hB.out (Nat.le_refl _) _⟩
      case measure => simp [intOf]; omega
    · obtain rfl : k = la := by omega
      have HO2 : Hid (OwnI wr w.heap.size n (fun x => ((tms k fa x : Nat) : Int) - ((tms 0 fb x : Nat) : Int))) := hO.out.congr (fun x _ => by simp [tms, cntT])
      have HB2 : Hid (Below w.heap.size w wr) := hB.out
      clear hO hB
      go_wp2_with fail
      go_loopw [32] (fun i wx => ∃ q : Nat, q ≤ lb ∧ i = .int .i64 q ∧ Hid (OwnI wx w.heap.size n (fun x => ((tms k fa x : Nat) : Int) - ((tms q fb x : Nat) : Int))) ∧ Hid (Below w.heap.size w wx)) (fun i _ => lb - (intOf i).toNat)
      case atStart => exact ⟨0, Nat.zero_le _, rfl, HO2.out, HB2.out⟩
      case round =>
        obtain ⟨q, hq, rfl, hO, hB⟩ := hrel
        clear HO2 HB2
        by_cases hlt : q < lb
        · obtain ⟨b1, o1, rfl, hc⟩ := HB.out.below hB.out q hlt
          have hx := HFB.out q hlt
          obtain ⟨hck, hfk⟩ := hO.out (fb q) hx
          have HN : Hid (∀ x, x < n → updI (fun x => ((tms k fa x : Nat) : Int) - ((tms q fb x : Nat) : Int)) (fb q) (((tms k fa (fb q) : Nat) : Int) - ((tms q fb (fb q) : Nat) : Int) - 1) x = ((tms k fa x : Nat) : Int) - ((tms (q + 1) fb x : Nat) : Int)) := fun x _ => down_tms (tms k fa) q fb x
          have ht := tms_le q fb (fb q)
          have ht2 := tms_le k fa (fb q)
          generalize hgx : fb q = x at *
          generalize hgt : tms k fa x = t at *
          generalize hgs : tms q fb x = s at *
          go_wp2_with fail
          go_roundw
          case rel => exact ⟨q + 1, by omega, by go_num, (hO.out.set x _ hx).congr HN.out, Below.setCell (p := ⟨w.heap.size, x, none⟩) hB.out (Nat.le_refl _) _⟩
          case measure => simp [intOf]; omega
        · obtain rfl : q = lb := by omega
          go_wp2_with fail
          go_loopw [45, 6, 7] (fun i u v wx => ∃ z : Nat, z ≤ n ∧ i = .int .i64 z ∧ u = .int .i64 (mor (tms k fa) (tms q fb) z : Nat) ∧ v = .int .i64 (mor (tms q fb) (tms k fa) z : Nat) ∧ wx = wr) (fun i _ _ _ => n - (intOf i).toNat)
          case atStart => exact ⟨0, Nat.zero_le _, rfl, rfl, rfl, rfl⟩
          case round =>
            obtain ⟨z, hz, rfl, rfl, rfl, rfl⟩ := hrel
            by_cases hlt : z < n
            · have hck : wr.cell? ⟨w.heap.size, z, none⟩ = some (.int .i64 (((tms k fa z : Nat) : Int) - ((tms q fb z : Nat) : Int))) := (hO.out z hlt).1
              have hsh := wrap_pow z (by omega)
              have h1 := tms_le k fa z
              have h2 := tms_le q fb z
              have m1 : mor (tms k fa) (tms q fb) z < 1024 := mor_lt (by omega)
              have m2 : mor (tms q fb) (tms k fa) z < 1024 := mor_lt (by omega)
              have o1 := or_small (k := z) m1 (by omega)
              have o2 := or_small (k := z) m2 (by omega)
              rcases Nat.lt_trichotomy (tms q fb z) (tms k fa z) with h | h | h
              · have N1 : Hid (mor (tms k fa) (tms q fb) (z + 1) = mor (tms k fa) (tms q fb) z ||| pw z) := mor_yes h
                have N2 : Hid (mor (tms q fb) (tms k fa) (z + 1) = mor (tms q fb) (tms k fa) z) := mor_no (by omega)
                generalize mor (tms k fa) (tms q fb) z = x1 at *
                generalize mor (tms q fb) (tms k fa) z = x2 at *
                generalize tms k fa z = t at *
                generalize tms q fb z = s at *
                have c1 : (0 : Int) < (t : Int) - (s : Int) := by omega
                go_wp2_with fail
                go_roundw
                case rel => exact ⟨z + 1, by omega, by go_num, by rw [N1.out], by rw [N2.out], by first | rfl | trivial⟩
                case measure => simp [intOf]; omega
              · have N1 : Hid (mor (tms k fa) (tms q fb) (z + 1) = mor (tms k fa) (tms q fb) z) := mor_no (by omega)
                have N2 : Hid (mor (tms q fb) (tms k fa) (z + 1) = mor (tms q fb) (tms k fa) z) := mor_no (by omega)
                generalize mor (tms k fa) (tms q fb) z = x1 at *
                generalize mor (tms q fb) (tms k fa) z = x2 at *
                generalize tms k fa z = t at *
                generalize tms q fb z = s at *
                subst h
                have c1 : (s : Int) - (s : Int) = 0 := by omega
                rw [c1] at hck
                go_wp2_with fail
                go_roundw
                case rel => exact ⟨z + 1, by omega, by go_num, by rw [N1.out], by rw [N2.out], by first | rfl | trivial⟩
                case measure => simp [intOf]; omega
              · have N1 : Hid (mor (tms k fa) (tms q fb) (z + 1) = mor (tms k fa) (tms q fb) z) := mor_no (by omega)
                have N2 : Hid (mor (tms q fb) (tms k fa) (z + 1) = mor (tms q fb) (tms k fa) z ||| pw z) := mor_yes h
                generalize mor (tms k fa) (tms q fb) z = x1 at *
                generalize mor (tms q fb) (tms k fa) z = x2 at *
                generalize tms k fa z = t at *
                generalize tms q fb z = s at *
                have c1 : (t : Int) - (s : Int) < 0 := by omega
                go_wp2_with fail
                go_roundw
                case rel => exact ⟨z + 1, by omega, by go_num, by rw [N1.out], by rw [N2.out], by first | rfl | trivial⟩
                case measure => simp [intOf]; omega
            · obtain rfl : z = n := by omega
              go_wp2_with fail
              go_ret2
              exact ⟨rfl, hB.out⟩
end Go.Proofs.YtimpgcmkdcmhkabDoor
