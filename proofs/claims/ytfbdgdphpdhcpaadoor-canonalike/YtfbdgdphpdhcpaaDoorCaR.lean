/-
  What the reference's Same answers; that hasselaw.orderBegun answers true. Conditions: slices read as slices of numbers.
  What the reference's SameOrder and hasselaw.given answer. Conditions: slices read as slices of numbers.
  For every order that is handed in, hasselaw.OrderChecks returns true, and writes nothing that was there. No condition.
  What a good order gives. No condition.
  The order that a list of points makes of an order (out of re/Part). No condition.
  What canon.renumbered answers: what is below each point when the list's points are numbered by their places. Conditions: at most ten points; the list's numbers are points.
-/
import Derived.Test.YtfbdgdphpdhcpaaDoorBuild
import Derived.Deep.RegionHeld3
import Derived.Test.YtfbdgdphpdhcpaaDoorCaM
import Derived.Test.YtfbdgdphpdhcpaaDoorCaS
namespace Go.Proofs.YtfbdgdphpdhcpaaDoor
open Go.RowKit

theorem Row.drewN {w : World} {a : Option Addr} {len : Nat} {f : Nat → Int} (h : Row w a len f) (m : Nat) : Row (w.drewN m) a len f := h

def SameRows (la lb : Nat) (f g : Nat → Int) : Prop := la = lb ∧ ∀ k, k < la → f k = g k
theorem same_any (a b : Option Addr) (la ca lb cb : Nat) (f g : Nat → Int) (w : World) (hl : la ≤ maxLen) (hl2 : lb ≤ maxLen) (ha : Row w a la f) (hb : Row w b lb g) :
    Calls Tryd.prog 14 #[.slice a la ca, .slice b lb cb] w fun e w' => Ans e (SameRows la lb f g) ∧ Below w.heap.size w w' := by
  unfold maxLen at hl hl2
  by_cases hlen : la = lb
  · subst hlen
    have HA := (show Hid _ from ha); have HB := (show Hid _ from hb); clear ha hb
    go_enter Tryd.func14, Tryd.ntmps14
    go_wp2
    go_loopw [5] (fun i wx => ∃ k : Nat, k ≤ la ∧ i = .int .i64 k ∧ Hid (∀ j, j < k → f j = g j) ∧ Row wx a la f ∧ Row wx b la g ∧ Hid (Below w.heap.size w wx)) (fun i _ => la - (intOf i).toNat)
    case atStart => exact ⟨0, Nat.zero_le _, rfl, upto_zero, HA.out, HB.out, Below.refl _ _⟩
    case round =>
      obtain ⟨k, hk, rfl, hok, hA, hB, hW⟩ := hrel
      clear HA HB
      by_cases hlt : k < la
      · obtain ⟨b1, o1, rfl, hc1⟩ := hA.at hlt
        obtain ⟨b2, o2, rfl, hc2⟩ := hB.at hlt
        have d1 := hc1 k hlt
        have d2 := hc2 k hlt
        clear hc1 hc2
        have hlt' : (k : Int) < (la : Int) := by omega
        by_cases he : f k = g k
        · have hne : (f k != g k) = false := by simpa using he
          have HE := (show Hid _ from he); clear he
          go_wp2
          go_quiet (fail)
          go_wp2
          go_roundw
          case rel => exact ⟨k + 1, by omega, by go_num, upto_succ hok.out HE.out, hA, hB, below_drewN hW.out _⟩
          case measure => simp [intOf]; omega
        · have hne : (f k != g k) = true := by simpa using he
          go_wp2
          go_quiet (fail)
          go_wp2
          go_ret
          exact ⟨Ans.no (fun h => he (h.2 k hlt)), below_drewN hW.out _⟩
      · have hkn : k = la := by omega
        subst hkn
        go_wp2
        go_ret
        exact ⟨Ans.yes ⟨rfl, hok.out⟩, hW.out⟩
  · have hne : ((la : Int) != (lb : Int)) = true := by simp; omega
    clear ha hb
    go_enter Tryd.func14, Tryd.ntmps14
    go_wp2
    go_ret
    exact ⟨Ans.no (fun h => hlen h.1), Below.refl _ _⟩

def pBegun (k : Nat) : Int × Int := if k = 0 then (0, 1) else (1, 2)
def gBegun (k : Nat) : Nat := if k = 0 then 0 else if k = 1 then 1 else 3
theorem begun_sets : ∀ k, k < 3 → reachOut (mk pBegun 2) 3 3 k = gBegun k := by decide +kernel
theorem begun_ord : Ord 3 (reachOut (mk pBegun 2) 3 3) := by
  unfold Ord OrdAt; decide +kernel
theorem begun_pin : ∀ k, k < 2 → PIn ((3 : Nat) : Int) pBegun k := by
  unfold PIn; decide +kernel
theorem begun_mk {c : Int} (h : Mk 3 2 pBegun c) : c = 0 := by
  rcases h with ⟨_, h⟩ | ⟨m, hm, _, ⟨_, h⟩ | ⟨_, ⟨_, h⟩ | ⟨h, _⟩⟩⟩
  · exact absurd ⟨by decide, by decide⟩ h
  · have : m = 3 := by omega
    subst this; exact absurd begun_pin h
  · have : m = 3 := by omega
    subst this; exact absurd begun_ord h
  · exact h

end Go.Proofs.YtfbdgdphpdhcpaaDoor
namespace Go.Proofs.YtfbdgdphpdhcpaaDoor
open Go.RowKit

def SameOrders (n n' : Int) (la lb : Nat) (f g : Nat → Int) : Prop := n = n' ∧ SameRows la lb f g
theorem sameOrder_any (n n' : Int) (a b : Option Addr) (la ca lb cb : Nat) (f g : Nat → Int) (w : World) (hl : la ≤ maxLen) (hl2 : lb ≤ maxLen) (ha : Row w a la f) (hb : Row w b lb g) :
    Calls Tryd.prog 17 #[.agg #[.int .i64 n, .slice a la ca], .agg #[.int .i64 n', .slice b lb cb]] w fun e w' => Ans e (SameOrders n n' la lb f g) ∧ Below w.heap.size w w' := by
  have HB2 : Hid (Below w.heap.size w ((w.alloc (.cells #[.int .i64 n, .slice a la ca] 24)).alloc (.cells #[.int .i64 n', .slice b lb cb] 24))) := ((Below.refl _ _).alloc (Nat.le_refl _) _).alloc (by simp) _
  have HA : Hid (Row w a la f) := ha
  have HB : Hid (Row w b lb g) := hb
  clear ha hb
  by_cases hn : n = n'
  · subst hn
    go_enter Tryd.func17, Tryd.ntmps17
    go_wp2_with fail
    refine (same_any a b la ca lb cb f g _ hl hl2 (HA.out.below HB2.out) (HB.out.below HB2.out)).mono ?_
    rintro e w1 ⟨⟨b, rfl, hb⟩, hB⟩
    have HBE : Hid (Below w.heap.size w w1) := Below.then HB2.out hB
    have HY : Hid (b = true ↔ SameRows la lb f g) := hb
    clear hB hb HB2
    go_wp2_with fail
    go_ret
    exact ⟨⟨_, rfl, HY.out.trans ⟨fun h => ⟨rfl, h⟩, fun h => h.2⟩⟩, HBE.out⟩
  · have hd : (n == n') = false := by simpa using hn
    have HN : Hid (¬ n = n') := hn
    clear hn
    go_enter Tryd.func17, Tryd.ntmps17
    go_wp2_with fail
    go_ret
    exact ⟨Ans.no (fun h => HN.out h.1), HB2.out⟩

/-- What a call answers that hands back an order and an errno. -/
def OrdErr (c : Int) (n : Int) (len : Nat) (F : Nat → Int) (x : Value) (w : World) : Prop :=
  (c ≠ 0 ∧ x = noOrder) ∨ (c = 0 ∧ ∃ a cap, x = .agg #[.int .i64 n, .slice a len cap] ∧ Row w a len F)
theorem OrdErr.step {c n : Int} {len : Nat} {F : Nat → Int} {x : Value} {w w' : World} (h : OrdErr c n len F x w) (hb : Below w.heap.size w w') : OrdErr c n len F x w' := by
  rcases h with h | ⟨h0, a, cap, hx, hr⟩
  · exact .inl h
  · exact .inr ⟨h0, a, cap, hx, hr.below hb⟩

end Go.Proofs.YtfbdgdphpdhcpaaDoor
namespace Go.Proofs.YtfbdgdphpdhcpaaDoor
open Go.RowKit

theorem kept_step {w0 w1 w2 : World} {n : Int} {a : Option Addr} {len cap : Nat} {f : Nat → Int}
    (h : w1.cell? ⟨w0.heap.size, 0, none⟩ = some (.int .i64 n) ∧ w1.cell? ⟨w0.heap.size, 1, none⟩ = some (.slice a len cap) ∧ Row w1 a len f ∧ Below w0.heap.size w0 w1)
    (hb : Below w1.heap.size w1 w2) :
    w2.cell? ⟨w0.heap.size, 0, none⟩ = some (.int .i64 n) ∧ w2.cell? ⟨w0.heap.size, 1, none⟩ = some (.slice a len cap) ∧ Row w2 a len f ∧ Below w0.heap.size w0 w2 := by
  obtain ⟨h1, h2, h3, h4⟩ := h
  obtain ⟨k1, k2, k3⟩ := Held.step ⟨h1, h2, h3⟩ hb
  exact ⟨k1, k2, k3, Below.then h4 hb⟩
theorem kept_row {w0 w1 : World} {n : Int} {a : Option Addr} {len cap : Nat} {f : Nat → Int}
    (h : w1.cell? ⟨w0.heap.size, 0, none⟩ = some (.int .i64 n) ∧ w1.cell? ⟨w0.heap.size, 1, none⟩ = some (.slice a len cap) ∧ Row w1 a len f ∧ Below w0.heap.size w0 w1) : Row w1 a len f := h.2.2.1
theorem kept_below {w0 w1 : World} {n : Int} {a : Option Addr} {len cap : Nat} {f : Nat → Int}
    (h : w1.cell? ⟨w0.heap.size, 0, none⟩ = some (.int .i64 n) ∧ w1.cell? ⟨w0.heap.size, 1, none⟩ = some (.slice a len cap) ∧ Row w1 a len f ∧ Below w0.heap.size w0 w1) : Below w0.heap.size w0 w1 := h.2.2.2
theorem kept_first {w0 : World} {n : Int} {a : Option Addr} {len cap : Nat} {f : Nat → Int} (hr : Row w0 a len f) :
    (w0.alloc (.cells #[.int .i64 n, .slice a len cap] 24)).drew.cell? ⟨w0.heap.size, 0, none⟩ = some (.int .i64 n) ∧ (w0.alloc (.cells #[.int .i64 n, .slice a len cap] 24)).drew.cell? ⟨w0.heap.size, 1, none⟩ = some (.slice a len cap) ∧ Row (w0.alloc (.cells #[.int .i64 n, .slice a len cap] 24)).drew a len f ∧ Below w0.heap.size w0 (w0.alloc (.cells #[.int .i64 n, .slice a len cap] 24)).drew := by
  obtain ⟨k1, k2, k3⟩ := Held.box (n := n) (cap := cap) hr
  exact ⟨k1, k2, k3, ((Below.refl _ _).alloc (Nat.le_refl _) _).drew⟩

end Go.Proofs.YtfbdgdphpdhcpaaDoor
namespace Go.Proofs.YtfbdgdphpdhcpaaDoor
open Go.RowKit

theorem Chk.good {n : Int} {len : Nat} {f : Nat → Int} (h : Chk n len f 0) : n = (len : Int) ∧ len ≤ 10 ∧ Rng len f ∧ Ord len (nat f) := by
  rcases h with ⟨h, _⟩ | ⟨m, hm, h10, ⟨h, _⟩ | ⟨rfl, ⟨h, _⟩ | ⟨hr, ⟨h, _⟩ | ⟨_, ho⟩⟩⟩⟩
  · cases h
  · cases h
  · cases h
  · cases h
  · exact ⟨hm, h10, hr, ho⟩
theorem Rng.row {w : World} {a : Option Addr} {len : Nat} {f : Nat → Int} (hr : Rng len f) (h : Row w a len f) : Row w a len (fun k => (nat f k : Nat)) := by
  intro j hj
  have := h j hj
  have e : f j = (nat f j : Nat) := by have := hr j hj; unfold nat; omega
  rw [e] at this
  exact this
theorem Rng.small {len : Nat} {f : Nat → Int} (hr : Rng len f) : ∀ k, k < len → nat f k < pw len := fun k hk => by
  have := hr k hk; unfold nat; omega
theorem Rng.small2 {len : Nat} {f : Nat → Int} (hr : Rng len f) (hl : len ≤ 10) : ∀ k, k < len → nat f k < 1024 := fun k hk =>
  Nat.lt_of_lt_of_le (hr.small k hk) (pw_le len hl)

end Go.Proofs.YtfbdgdphpdhcpaaDoor
namespace Go.Proofs.YtfbdgdphpdhcpaaDoor
open Go.RowKit

/-- The part's sets. -/
def prt (g : Nat → Nat) (L : List Nat) (i : Nat) : Nat := setBy (fun k => (g (nth L i)).testBit (nth L k)) L.length
def prtTo (g : Nat → Nat) (L : List Nat) (i k j : Nat) : Nat := if j < i then prt g L j else if j = i then setBy (fun t => (g (nth L i)).testBit (nth L t)) k else 0
theorem prtTo_zero (g : Nat → Nat) (L : List Nat) : prtTo g L 0 0 = fun _ => 0 := by funext j; simp [prtTo, setBy]
theorem prtTo_same (g : Nat → Nat) (L : List Nat) (i k : Nat) : prtTo g L i k i = setBy (fun t => (g (nth L i)).testBit (nth L t)) k := by simp [prtTo]
theorem prtTo_yes {g : Nat → Nat} {L : List Nat} {i k : Nat} (h : (g (nth L i)).testBit (nth L k) = true) : prtTo g L i (k + 1) = upd (prtTo g L i k) i (setBy (fun t => (g (nth L i)).testBit (nth L t)) k ||| pw k) := by
  funext j
  by_cases e : j = i
  · subst e; rw [upd_same, prtTo_same, or_pw_add (setBy_lt _ k)]; exact setBy_yes (P := fun t => (g (nth L j)).testBit (nth L t)) h
  · rw [upd_other _ _ _ _ e]; simp [prtTo, e]
theorem prtTo_no {g : Nat → Nat} {L : List Nat} {i k : Nat} (h : (g (nth L i)).testBit (nth L k) = false) : prtTo g L i (k + 1) = prtTo g L i k := by
  funext j
  by_cases e : j = i
  · subst e; rw [prtTo_same, prtTo_same]; exact setBy_no (P := fun t => (g (nth L j)).testBit (nth L t)) h
  · simp [prtTo, e]
theorem prtTo_next (g : Nat → Nat) (L : List Nat) (i : Nat) : prtTo g L i L.length = prtTo g L (i + 1) 0 := by
  funext j
  by_cases e : j = i
  · subst e; rw [prtTo_same]; simp [prtTo, prt]
  · by_cases e2 : j < i
    · have : j < i + 1 := by omega
      simp [prtTo, e2, this]
    · have : ¬ j < i + 1 := by omega
      simp [prtTo, e, e2, this, setBy]
theorem prtTo_end (g : Nat → Nat) (L : List Nat) (j : Nat) (h : j < L.length) : prtTo g L L.length 0 j = prt g L j := by simp [prtTo, h]
end Go.Proofs.YtfbdgdphpdhcpaaDoor
namespace Go.Proofs.YtfbdgdphpdhcpaaDoor
open Go.RowKit
set_option maxRecDepth 100000

set_option maxHeartbeats 4000000 in
theorem renumbered_any (n : Nat) (a : Option Addr) (cap : Nat) (g : Nat → Nat) (a2 : Option Addr) (cap2 : Nat) (L : List Nat) (w : World) (h10 : n ≤ 10) (hg : ∀ k, k < n → g k < 1024) (hL : L.length = n) (hLn : ∀ k, k < n → nth L k < n)
    (hr : Row w a n (fun k => (g k : Nat))) (hr2 : Row w a2 n (fun k => (nth L k : Nat))) :
    Calls Tryd.prog 34 #[.agg #[.int .i64 (n : Nat), .slice a n cap], .slice a2 n cap2] w fun e w' => (∃ b, e = .returned (.slice (some ⟨b, 0, none⟩) n n) ∧ Own w' b n (prt g L) ∧ w.heap.size ≤ b ∧ b < w'.heap.size ∧ Szd w' b n) ∧ Below w.heap.size w w' := by
  obtain ⟨w2, HW2⟩ : ∃ w2, Hid (w2 = w.alloc (.cells #[.int .i64 (n : Nat), .slice a n cap] 24)) := ⟨_, rfl⟩
  have hb0 : Below w.heap.size w w2 := by rw [HW2.out]; exact (Below.refl _ _).alloc (Nat.le_refl _) _
  have H2 : Hid (Held w2 w.heap.size n a n cap (fun k => (g k : Nat))) := by rw [HW2.out]; exact Held.box hr
  have HB2 : Hid (Below w.heap.size w w2) := hb0
  have HR2 : Hid (Row w2 a2 n (fun k => (nth L k : Nat))) := hr2.below hb0
  have HG2 : Hid (∀ k, k < n → g k < 1024) := hg
  have HLT : Hid (∀ k, k < n → nth L k < n) := hLn
  have HM : Hid (n = L.length) := hL.symm
  have hsz2 : w.heap.size < w2.heap.size := by rw [HW2.out]; simp
  have HSZ2 : Hid (w.heap.size ≤ w2.heap.size) := by show _ ≤ _; omega
  obtain ⟨i0, hi, hz0, hz1, hz2⟩ := info_parts Tryd.info3
  clear hb0 hr hr2 hg hLn hL
  go_enter Tryd.func34, Tryd.ntmps34
  go_wp2_with (at_make; rw [← HW2.out]; refine wpList_make_full _ rfl _ _ 22 rfl w2.heap.size 3 i0 (.int .i64 0) 1 Tryd.underlying22 hi hz0 hz1 .i64 .i64 _ _ n rfl rfl rfl rfl (by rw [hz2]; omega) (by unfold maxLen; omega) (Nat.le_refl _) ?_; intro w3 hown3 hgrow3)
  clear HW2 hsz2
  have HB3 : Hid (Below w2.heap.size w2 w3) := (Below.refl _ _).grown hgrow3 (Nat.le_refl _) (by simp)
  have HO3 : Hid (Own w3 w2.heap.size n (prtTo g L 0 0)) := by rw [prtTo_zero]; exact own_made hown3
  have HLT3 : Hid (w2.heap.size < w3.heap.size ∧ Szd w3 w2.heap.size n) := ⟨(hown3.lt w2.heap.size rfl).2, szd_made hown3⟩
  clear hown3 hgrow3 hi hz0 hz1 hz2
  go_loopw [15] (fun t wx => ∃ i : Nat, i ≤ n ∧ t = .int .i64 i ∧ Own wx w2.heap.size n (prtTo g L i 0) ∧ Hid (Below w2.heap.size w2 wx) ∧ Hid (w2.heap.size < wx.heap.size ∧ Szd wx w2.heap.size n)) (fun t _ => n - (intOf t).toNat)
  case atStart => exact ⟨0, Nat.zero_le _, rfl, HO3.out, HB3.out, HLT3.out⟩
  case round =>
    obtain ⟨i, hi, rfl, hO, hBx, hLx⟩ := hrel
    clear HO3 HB3 HLT3
    by_cases hlt : i < n
    · obtain ⟨b2, o2, rfl, hc2⟩ := (HR2.out.below hBx.out).at hlt
      have hci := hc2 i hlt
      clear hc2
      have hlt' : (i : Int) < (n : Int) := by omega
      go_wp2
      have HO1 : Hid (Own wr w2.heap.size n (prtTo g L i 0)) := hO
      clear hO hci
      go_loopw [22] (fun t wx => ∃ k : Nat, k ≤ n ∧ t = .int .i64 k ∧ Own wx w2.heap.size n (prtTo g L i k) ∧ Hid (Below w2.heap.size w2 wx) ∧ Hid (w2.heap.size < wx.heap.size ∧ Szd wx w2.heap.size n)) (fun t _ => n - (intOf t).toNat)
      case atStart => exact ⟨0, Nat.zero_le _, rfl, HO1.out, hBx.out, hLx.out⟩
      case round =>
        obtain ⟨k, hk, rfl, hO, hBy, hLy⟩ := hrel
        clear HO1
        by_cases hkl : k < n
        · obtain ⟨b2', o2', e2, hc2⟩ := (HR2.out.below hBy.out).at hkl
          simp at e2
          obtain ⟨rfl, rfl⟩ := e2
          have hck := hc2 k hkl
          clear hc2
          have hkl' : (k : Int) < (n : Int) := by omega
          have hHy := H2.out.step hBy.out
          have c0 := hHy.c0
          have c1 := hHy.c1
          have hni := HLT.out i hlt
          have hnk := HLT.out k hkl
          obtain ⟨b3, o3, rfl, hc3⟩ := hHy.row.at hni
          have hcc := hc3 _ hni
          have hgi := HG2.out _ hni
          clear hc3 hHy
          have hni' : ((nth L i : Nat) : Int) < (n : Int) := by omega
          rcases (Bool.eq_false_or_eq_true ((g (nth L i)).testBit (nth L k))).symm with hb | hb
          · have HE : Hid (prtTo g L i (k + 1) = prtTo g L i k) := prtTo_no hb
            go_wp2_with (go_at_call 48; refine (has_any _ _ _ (by omega) (by omega)).mono ?_; rintro e w' ⟨rfl, rfl⟩)
            go_roundw
            case rel => exact ⟨k + 1, by omega, by go_num, by rw [HE.out]; exact hO, hBy, hLy⟩
            case measure => simp [intOf]; omega
          · have HE := prtTo_yes hb
            have HE2 : Hid (prtTo g L i (k + 1) = upd (prtTo g L i k) i (setBy (fun t => (g (nth L i)).testBit (nth L t)) k ||| pw k)) := HE
            have hcO := (hO i hlt).1
            have hfO := (hO i hlt).2
            rw [prtTo_same] at hcO
            have hsh := wrap_pow k (Nat.lt_of_lt_of_le hkl (Nat.le_trans h10 (by decide)))
            have hlt2 : setBy (fun t => (g (nth L i)).testBit (nth L t)) k < pw n := Nat.lt_of_lt_of_le (setBy_lt _ k) (Nat.pow_le_pow_right (by decide) hk)
            have hor := or_pw (b := k) h10 hlt2 hkl
            have HOY : Hid (Own wr w2.heap.size n (prtTo g L i k)) := hO
            clear hO HE hlt2
            generalize setBy (fun t => (g (nth L i)).testBit (nth L t)) k = S at *
            go_wp2_with (go_at_call 48; refine (has_any _ _ _ (by omega) (by omega)).mono ?_; rintro e w' ⟨rfl, rfl⟩)
            go_region
            all_goals go_wp2
            all_goals go_roundw
            case rel => exact ⟨k + 1, by omega, by go_num, by rw [HE2.out]; exact Own.set HOY.out i _ hlt, Below.drew (Below.setCell (p := ⟨w2.heap.size, i, none⟩) hBy.out (Nat.le_refl _) _), (by have := hLy.out; exact ⟨by simpa using this.1, this.2.set _ _⟩)⟩
            case measure => simp [intOf]; omega
        · have hkm : k = n := by omega
          have HNX : Hid (prtTo g L i k = prtTo g L (i + 1) 0) := by rw [hkm, HM.out]; exact prtTo_next g L i
          subst hkm
          go_wp2
          go_roundw
          case rel => exact ⟨i + 1, by omega, by go_num, by rw [← HNX.out]; exact hO, hBy, hLy⟩
          case measure => simp [intOf]; omega
    · have him : i = n := by omega
      have HOE : Hid (Own wr w2.heap.size n (prt g L)) := hO.congr (fun j hj => by rw [him, HM.out]; exact prtTo_end g L j (by rw [← HM.out]; exact hj))
      subst him
      have HBE : Hid (Below w.heap.size w wr) := Below.then HB2.out hBx.out
      clear hO hBx
      go_wp2
      go_ret
      exact ⟨⟨_, rfl, HOE.out, HSZ2.out, hLx.out⟩, HBE.out⟩
end Go.Proofs.YtfbdgdphpdhcpaaDoor
