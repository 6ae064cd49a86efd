/-
  For every number, rules and rule that are handed in, hasselaw.ImplyFollows returns true, and writes nothing that was there. Conditions: the table of the least bits.
-/
import Derived.Test.YtankimgomfhfjaaDoorClsL
import Derived.Test.YtankimgomfhfjaaDoorFol
namespace Go.Proofs.YtankimgomfhfjaaDoor
open Go.RowKit

theorem truthIs_any (b want : Bool) (c : Int) (w : World) (h : (c ≠ 0 ∧ b = false) ∨ (c = 0 ∧ b = want)) :
    Calls Tryd.prog 21 #[.bool b, .int .i64 c, .int .i64 c, .bool want] w fun e w' => e = .returned (.bool true) ∧ w = w' := by
  rcases h with ⟨h0, rfl⟩ | ⟨rfl, rfl⟩
  · have hne : (c == 0) = false := by simpa using h0
    cases want
    · go_enter Tryd.func21, Tryd.ntmps21
      go_wp2
      go_ret
      exact ⟨rfl, rfl⟩
    · go_enter Tryd.func21, Tryd.ntmps21
      go_wp2
      go_ret
      exact ⟨rfl, rfl⟩
  · cases b
    · go_enter Tryd.func21, Tryd.ntmps21
      go_wp2
      go_ret
      exact ⟨rfl, rfl⟩
    · go_enter Tryd.func21, Tryd.ntmps21
      go_wp2
      go_ret
      exact ⟨rfl, rfl⟩
/-- Does x obey r, if it obeys the rules? -/
def folB (R : List (Nat × Nat)) (r : Nat × Nat) (x : Nat) : Bool := !(R.all (obe x)) || obe x r
theorem fol_is {R : List (Nat × Nat)} {n : Nat} {r : Nat × Nat} (h10 : n ≤ 10) (hR : RIn n R) (h1 : r.1 < pw n) (h2 : r.2 < pw n) : obe (clo R n r.1) r = true ↔ ∀ x, x < pw n → folB R r x = true := by
  rw [obe_iff (set_1024 h10 clo_lt) (set_1024 h10 h1) (set_1024 h10 h2), follows_iff h10 hR h1]
  constructor
  · intro h x hx
    unfold folB
    cases e : R.all (obe x)
    · rfl
    · rw [(obe_iff (set_1024 h10 hx) (set_1024 h10 h1) (set_1024 h10 h2)).2 (h x hx ((obeA_dec n R h10 hR x hx).1 e))]; rfl
  · intro h x hx ho
    have := h x hx
    unfold folB at this
    rw [(obeA_dec n R h10 hR x hx).2 ho] at this
    exact (obe_iff (set_1024 h10 hx) (set_1024 h10 h1) (set_1024 h10 h2)).1 (by simpa using this)

set_option maxHeartbeats 2000000 in
theorem implyFollows_any (N : Int) (a : Option Addr) (len cap : Nat) (p : Nat → Int × Int) (X Y : Int) (w : World) (hl : len ≤ maxLen) (hr : PRow w a len p) (hT : Tab w) :
    Calls Tryd.prog 5 #[.int .i64 N, .slice a len cap, .agg #[.int .i64 X, .int .i64 Y]] w fun e w' => e = .returned (.bool true) ∧ Below w.heap.size w w' := by
  obtain ⟨W0, HW0⟩ : ∃ W0, Hid (W0 = w.alloc (.cells #[.int .i64 X, .int .i64 Y] 34)) := ⟨_, rfl⟩
  have B0 : Below w.heap.size w W0 := by rw [HW0.out]; exact (Below.refl _ _).alloc (Nat.le_refl _) _
  have HB0 : Hid (Below w.heap.size w W0) := B0
  have HR : Hid (∀ w', Below w.heap.size w w' → PRow w' a len p) := fun w' h => hr.below h
  have HT : Hid (Tab w) := hT
  have d0 : W0.cell? ⟨w.heap.size, 0, none⟩ = some (.int .i64 X) := by rw [HW0.out]; simp
  have d1 : W0.cell? ⟨w.heap.size, 1, none⟩ = some (.int .i64 Y) := by rw [HW0.out]; simp
  have HD0 : Hid (∀ w', Below W0.heap.size W0 w' → w'.cell? ⟨w.heap.size, 0, none⟩ = some (.int .i64 X)) := fun w' h => (h.cell (World.block_lt_of_cell? _ _ d0)).trans d0
  have HD1 : Hid (∀ w', Below W0.heap.size W0 w' → w'.cell? ⟨w.heap.size, 1, none⟩ = some (.int .i64 Y)) := fun w' h => (h.cell (World.block_lt_of_cell? _ _ d1)).trans d1
  clear hr d0 d1 B0 hT
  go_enter Tryd.func5, Tryd.ntmps5
  go_wp2_with fail
  rw [← HW0.out]
  clear HW0
  refine (follows_any N a len cap p X Y _ hl (HR.out _ HB0.out)).mono ?_
  rintro e w1 ⟨he, hb1⟩
  have H01 : Hid (Below W0.heap.size W0 w1) := hb1
  have HCK : Hid (Calls Tryd.prog 11 #[.int .i64 N, .slice a len cap] w1 _) := checkRules_any N a len cap p w1 hl (HR.out _ (Below.then HB0.out hb1))
  clear hb1
  rcases he with ⟨c, h0, hc, rfl⟩ | ⟨n, rfl, hc, h10, h60, hri, ⟨hs, rfl⟩ | ⟨x, y, rfl, rfl, hx, hy, rfl⟩⟩
  · have hne : (c == 0) = false := by simpa using h0
    have HC : Hid (RChk N len p c) := hc
    clear hc
    go_wp2_with fail
    refine HCK.out.mono ?_
    rintro e w2 ⟨⟨c', rfl, hc'⟩, hb2⟩
    obtain rfl := hc'.unique HC.out
    have H02 : Hid (Below W0.heap.size W0 w2) := Below.then H01.out hb2
    clear hc' hb2 HCK
    go_wp2_with fail
    go_loop [10, 11] (fun v i => v = .bool false ∧ i = .int .i64 0) (fun _ _ => 0)
    case atStart => exact ⟨rfl, rfl⟩
    case round =>
      obtain ⟨rfl, rfl⟩ := hrel
      go_wp2_with fail
      refine (implyBegun_any _ (HT.out.step (Below.then HB0.out H02.out))).mono ?_
      rintro e w3 ⟨rfl, hb3⟩
      have HB3 : Hid (Below w.heap.size w w3) := Below.then (Below.then HB0.out H02.out) hb3
      clear hb3
      go_wp2_with fail
      refine (truthIs_any _ _ _ _ (.inl ⟨h0, rfl⟩)).mono ?_
      rintro e w' ⟨rfl, rfl⟩
      go_wp2_with fail
      go_ret
      exact ⟨rfl, HB3.out⟩
  · have HC : Hid (RChk (n : Int) len p 0) := hc
    clear hc hri
    go_wp2_with fail
    refine HCK.out.mono ?_
    rintro e w2 ⟨⟨c', rfl, hc'⟩, hb2⟩
    obtain rfl := hc'.unique HC.out
    have H02 : Hid (Below W0.heap.size W0 w2) := Below.then H01.out hb2
    have c0 := HD0.out _ H02.out
    have c1 := HD1.out _ H02.out
    clear hc' hb2 HCK
    go_wp2_with fail
    refine (wrongRule_any n X Y _ h10).mono ?_
    rintro e w4 ⟨rfl, hb4⟩
    rw [hs, Bool.not_false]
    have H04 : Hid (Below W0.heap.size W0 w4) := Below.then H02.out hb4
    clear hb4 c0 c1
    go_wp2_with fail
    go_loop [10, 11] (fun v i => v = .bool false ∧ i = .int .i64 0) (fun _ _ => 0)
    case atStart => exact ⟨rfl, rfl⟩
    case round =>
      obtain ⟨rfl, rfl⟩ := hrel
      go_wp2_with fail
      refine (implyBegun_any _ (HT.out.step (Below.then HB0.out H04.out))).mono ?_
      rintro e w3 ⟨rfl, hb3⟩
      have HB3 : Hid (Below w.heap.size w w3) := Below.then (Below.then HB0.out H04.out) hb3
      clear hb3
      go_wp2_with fail
      refine (truthIs_any _ _ _ _ (.inl ⟨by decide, rfl⟩)).mono ?_
      rintro e w' ⟨rfl, rfl⟩
      go_wp2_with fail
      go_ret
      exact ⟨rfl, HB3.out⟩
  · have HC : Hid (RChk (n : Int) len p 0) := hc
    have HRI : Hid (RIs n len p) := hri
    have hs : riB (x : Int) (y : Int) n = true := riB_iff.2 ⟨⟨by omega, by omega⟩, by omega, by omega⟩
    obtain ⟨R, HRE⟩ : ∃ R, Hid (R = rls p len) := ⟨_, rfl⟩
    have HFO : Hid (obe (clo R n x) (x, y) = true ↔ ∀ z, z < pw n → folB R (x, y) z = true) := by rw [HRE.out]; exact fol_is h10 hri.rin hx hy
    have HOA : Hid (∀ z w', z < 1024 → Below w.heap.size w w' → Calls Tryd.prog 19 #[.int .i64 (z : Nat), .slice a len cap] w' fun e w'' => e = .returned (.bool (R.all (obe z))) ∧ Below w'.heap.size w' w'') := fun z w' hz h => by
      rw [HRE.out]
      exact obeysAll_any z (rls p len) a len cap w' hz (rls_len p len).symm h60 (HRI.out.bound h10) (HRI.out.row' (HR.out w' h))
    have hx1 := set_1024 h10 hx
    have hy1 := set_1024 h10 hy
    have hpw := pw_le n h10
    rw [← HRE.out]
    obtain ⟨OK, HOK⟩ : ∃ b, Hid (b = obe (clo R n x) (x, y)) := ⟨_, rfl⟩
    rw [← HOK.out] at HFO ⊢
    clear hc hri
    go_wp2_with fail
    refine HCK.out.mono ?_
    rintro e w2 ⟨⟨c', rfl, hc'⟩, hb2⟩
    obtain rfl := hc'.unique HC.out
    have H02 : Hid (Below W0.heap.size W0 w2) := Below.then H01.out hb2
    have c0 := HD0.out _ H02.out
    have c1 := HD1.out _ H02.out
    clear hc' hb2 HCK
    go_wp2_with fail
    refine (wrongRule_any n x y _ h10).mono ?_
    rintro e w4 ⟨rfl, hb4⟩
    rw [hs, Bool.not_true]
    have H04 : Hid (Below W0.heap.size W0 w4) := Below.then H02.out hb4
    clear hb4 c0 c1 H02
    go_wp2_with fail
    go_loopw [10, 11] (fun v i wx => ∃ (b : Bool) (k : Nat), k ≤ pw n ∧ v = .bool b ∧ i = .int .i64 k ∧ Hid (b = true → ∀ j, j < k → folB R (x, y) j = true) ∧ Hid (b = false → ¬ ∀ j, j < pw n → folB R (x, y) j = true) ∧ Hid (Below W0.heap.size W0 wx)) (fun _ i _ => pw n - (intOf i).toNat)
    case atStart => exact ⟨true, 0, Nat.zero_le _, rfl, rfl, fun _ => upto_zero, (fun h => by cases h), H04⟩
    case round =>
      clear H04
      obtain ⟨b, k, hk, rfl, rfl, hT1, hF1, hB⟩ := hrel
      rcases b with _ | _
      · have HE : Hid (OK = false) := by
          cases e : OK
          · rfl
          · exact absurd (HFO.out.1 e) (hF1.out rfl)
        go_wp2_with fail
        refine (implyBegun_any _ (HT.out.step (Below.then HB0.out hB.out))).mono ?_
        rintro e w3 ⟨rfl, hb3⟩
        have HB3 : Hid (Below w.heap.size w w3) := Below.then (Below.then HB0.out hB.out) hb3
        clear hb3
        go_wp2_with fail
        refine (truthIs_any _ _ _ _ (.inr ⟨rfl, HE.out⟩)).mono ?_
        rintro e w' ⟨rfl, rfl⟩
        go_wp2_with fail
        go_ret
        exact ⟨rfl, HB3.out⟩
      · by_cases hlt : k < pw n
        · have hlt' : (k : Int) < ((pw n : Nat) : Int) := by omega
          have HFB : Hid (∀ b', folB R (x, y) k = b' → Hid (b' = true → ∀ j, j < k + 1 → folB R (x, y) j = true) ∧ Hid (b' = false → ¬ ∀ j, j < pw n → folB R (x, y) j = true)) := fun b' hb' =>
            ⟨fun h => upto_succ (hT1.out rfl) (by rw [hb', h]), fun h hall => by have := hall k hlt; rw [hb', h] at this; cases this⟩
          go_wp2_with fail
          refine (bit_any n _ (by omega)).mono ?_
          rintro e w' ⟨rfl, rfl⟩
          go_wp2_with fail
          refine (HOA.out k _ (by omega) (Below.then HB0.out hB.out)).mono ?_
          rintro e w5 ⟨rfl, hb5⟩
          have H05 : Hid (Below W0.heap.size W0 w5) := Below.then hB.out hb5
          clear hb5 hB
          rcases (Bool.eq_false_or_eq_true (R.all (obe k))).symm with h1 | h1
          · have HFE : Hid (folB R (x, y) k = true) := by unfold folB; rw [Hid, h1]; rfl
            rw [h1]
            go_wp2_with fail
            go_roundw
            case rel => exact ⟨true, k + 1, by omega, rfl, by go_num, (HFB.out true HFE.out).1, (HFB.out true HFE.out).2, H05⟩
            case measure => simp [intOf]; omega
          · have HFE : Hid (folB R (x, y) k = obe k (x, y)) := by unfold folB; rw [Hid, h1]; rfl
            have c0 := HD0.out _ H05.out
            have c1 := HD1.out _ H05.out
            rw [h1]
            go_wp2_with fail
            refine (obeysR_any k x y _ (by omega) hx1 hy1).mono ?_
            rintro e w6 ⟨rfl, hb6⟩
            have H06 : Hid (Below W0.heap.size W0 w6) := Below.then H05.out hb6
            clear hb6 c0 c1
            go_wp2_with fail
            go_roundw
            case rel => exact ⟨obe k (x, y), k + 1, by omega, rfl, by go_num, (HFB.out _ HFE.out).1, (HFB.out _ HFE.out).2, H06⟩
            case measure => simp [intOf]; omega
        · have HE : Hid (OK = true) := HFO.out.2 (fun j hj => hT1.out rfl j (by omega))
          have hle : ((pw n : Nat) : Int) ≤ (k : Int) := by omega
          go_wp2_with fail
          refine (bit_any n _ (by omega)).mono ?_
          rintro e w' ⟨rfl, rfl⟩
          go_wp2_with fail
          refine (implyBegun_any _ (HT.out.step (Below.then HB0.out hB.out))).mono ?_
          rintro e w3 ⟨rfl, hb3⟩
          have HB3 : Hid (Below w.heap.size w w3) := Below.then (Below.then HB0.out hB.out) hb3
          clear hb3
          go_wp2_with fail
          refine (truthIs_any _ _ _ _ (.inr ⟨rfl, HE.out⟩)).mono ?_
          rintro e w' ⟨rfl, rfl⟩
          go_wp2_with fail
          go_ret
          exact ⟨rfl, HB3.out⟩
end Go.Proofs.YtankimgomfhfjaaDoor
