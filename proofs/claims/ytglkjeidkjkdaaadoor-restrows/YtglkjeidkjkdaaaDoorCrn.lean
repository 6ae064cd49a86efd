/-
  What convex.Corners answers, whatever it is handed. Condition: the table of the least bits.
-/
import Derived.Test.YtglkjeidkjkdaaaDoorHul
namespace Go.Proofs.YtglkjeidkjkdaaaDoor
set_option maxRecDepth 100000
open Go.RowKit

theorem wrap_pow2 (n : Nat) (h : n < 62) : IntKind.i64.wrap (2 ^ n) = ((pw n : Nat) : Int) := by
  have := pw_small n h
  rw [show ((2 : Int) ^ n) = ((pw n : Nat) : Int) by simp [pw]]
  generalize pw n = m at *
  exact wrap_i64_small _ (by omega) (by omega)
theorem chas_as (s p : Nat) (v : Bool) (w : World) (hs : s < 9223372036854775808) (hp : p < 63) (h : s.testBit p = v) :
    Calls Tryd.prog 31 #[.int .i64 s, .int .i64 p] w fun e w' => e = .returned (.bool v) ∧ w' = w :=
  (has_any s p w hs hp).mono fun _ _ ⟨h1, h2⟩ => ⟨by rw [h1, h], h2.symm⟩
/-- The points of the first k of a list that Q lets by. -/
def cca (Q : Nat → Bool) (P : List Nat) : Nat → Nat
  | 0 => 0
  | k + 1 => if Q (nth P k) = true then cca Q P k ||| pw (nth P k) else cca Q P k
theorem cca_yes {Q : Nat → Bool} {P : List Nat} {k : Nat} (h : Q (nth P k) = true) : cca Q P (k + 1) = cca Q P k ||| pw (nth P k) := by rw [cca, if_pos h]
theorem cca_no {Q : Nat → Bool} {P : List Nat} {k : Nat} (h : Q (nth P k) = false) : cca Q P (k + 1) = cca Q P k := by rw [cca, if_neg (by rw [h]; decide)]
theorem cca_bit {Q : Nat → Bool} {P : List Nat} {i : Nat} : ∀ {k : Nat}, (cca Q P k).testBit i = true ↔ ∃ j, j < k ∧ nth P j = i ∧ Q i = true
  | 0 => by simp [cca]
  | k + 1 => by
    cases h : Q (nth P k)
    · rw [cca_no h, cca_bit]
      constructor
      · rintro ⟨j, h1, h2⟩; exact ⟨j, by omega, h2⟩
      · rintro ⟨j, h1, h2, h3⟩
        by_cases e : j = k
        · subst e; rw [h2, h3] at h; cases h
        · exact ⟨j, by omega, h2, h3⟩
    · rw [cca_yes h, Nat.testBit_or, pw_bit, Bool.or_eq_true, cca_bit]
      constructor
      · rintro (⟨j, h1, h2⟩ | h2)
        · exact ⟨j, by omega, h2⟩
        · have e : nth P k = i := by simpa using h2
          exact ⟨k, by omega, e, by rw [← e]; exact h⟩
      · rintro ⟨j, h1, h2, h3⟩
        by_cases e : j = k
        · subst e; exact .inr (by simpa using h2)
        · exact .inl ⟨j, by omega, h2, h3⟩
theorem cca_lt {Q : Nat → Bool} {P : List Nat} : ∀ k, (∀ j, j < k → nth P j < 10) → cca Q P k < 1024
  | 0, _ => by simp [cca]
  | k + 1, h => by
    have ih := cca_lt (Q := Q) k (fun j hj => h j (by omega))
    have hp : pw (nth P k) < 1024 := Nat.lt_of_lt_of_le (Nat.pow_lt_pow_right (by decide) (h k (by omega))) (Nat.le_refl (2 ^ 10))
    cases e : Q (nth P k)
    · rw [cca_no e]; exact ih
    · rw [cca_yes e]; exact or_1024 ih hp
theorem crn_is {g : Nat → Nat} {len n s : Nat} (h10 : n ≤ 10) (hs : s < pw n) : cca (fun p => !(hul g len n (s - pw p)).testBit p) (pts s 10) (pts s 10).length = crn g len n s := by
  apply Nat.eq_of_testBit_eq
  intro i
  refine eq_of_iff ?_
  rw [cca_bit, crn_bit]
  constructor
  · rintro ⟨j, h1, h2, h3⟩
    have h4 := pts_all h1
    rw [h2] at h4
    have h5 := bit_of_lt hs h4.2
    simp [h5, h4.2] at h3 ⊢
    exact h3
  · intro h
    simp at h
    obtain ⟨h1, h2, h3⟩ := h
    obtain ⟨j, hj, e⟩ := pts_at (s := s) (i := i) (by omega) h2
    exact ⟨j, hj, e, by simp [h3]⟩

set_option maxHeartbeats 2000000 in
theorem corners_any (N : Int) (a : Option Addr) (len cap : Nat) (f : Nat → Int) (S : Int) (w : World) (hl : len ≤ maxLen) (hr : Row w a len f) (hT : Tab w) :
    Calls Tryd.prog 23 #[.agg #[.int .i64 N, .slice a len cap], .int .i64 S] w fun e w' => NumIs N len f S (crn (nat f) len) e ∧ Below w.heap.size w w' := by
  obtain ⟨W0, HW0⟩ : ∃ W0, Hid (W0 = w.alloc (.cells #[.int .i64 N, .slice a len cap] 36)) := ⟨_, rfl⟩
  have HB0 : Hid (Below w.heap.size w W0) := by rw [HW0.out]; exact (Below.refl _ _).alloc (Nat.le_refl _) _
  have K0 : Held W0 w.heap.size N a len cap f := by rw [HW0.out]; exact Fam.box hr
  have HT0 : Hid (Tab W0) := hT.step HB0.out
  have HCK := (show Hid (Calls Tryd.prog 44 #[.agg #[.int .i64 N, .slice a len cap], .int .i64 S] W0 _) from checkSet_any N a len cap f S W0 hl K0.row HT0.out)
  have k0 := K0.c0
  have k1 := K0.c1
  clear hr hT
  go_enter Tryd.func23, Tryd.ntmps23
  go_wp2_with fail
  rw [← HW0.out]
  refine HCK.out.mono ?_
  rintro e w1 ⟨⟨c, rfl, hc⟩, hb1⟩
  have HB1 : Hid (Below W0.heap.size W0 w1) := hb1
  clear HCK k0 k1 hb1
  have HC : Hid (SCk N len f S c) := hc
  by_cases h0 : c = 0
  · subst h0
    obtain ⟨n, s, rfl, rfl, h10, hs, hin, hris, hw⟩ := hc.good
    have HF : Hid (FIn n len f ∧ FRis len f ∧ Whl n len f) := ⟨hin, hris, hw⟩
    have hpn := pw_le n h10
    have hs1 : s < 1024 := by omega
    have HMEM := (show Hid (Calls Tryd.prog 47 #[.int .i64 (s : Nat)] w1 _) from members_any s w1 hs1 (HT0.out.step HB1.out))
    have HCR : Hid (cca (fun p => !(hul (nat f) len n (s - pw p)).testBit p) (pts s 10) (pts s 10).length = crn (nat f) len n s) := crn_is h10 hs
    have HHL : Hid (∀ x, hul (nat f) len n x < pw n) := fun x => hul_lt _ _ _ _
    obtain ⟨H, HH⟩ : ∃ H : Nat → Nat, Hid (H = hul (nat f) len n) := ⟨_, rfl⟩
    rw [← HH.out] at HCR HHL
    obtain ⟨Q, HQ⟩ : ∃ Q : Nat → Bool, Hid (Q = fun p => !(H (s - pw p)).testBit p) := ⟨_, rfl⟩
    have HQA : Hid (∀ p, Q p = !(H (s - pw p)).testBit p) := fun p => by rw [HQ.out]
    rw [← HQ.out] at HCR
    clear hc hin hris hw HQ
    go_wp2_with fail
    refine HMEM.out.mono ?_
    rintro e w2 ⟨⟨v, rfl, hv⟩, hb2⟩
    obtain ⟨a1, cap1, rfl, hr1⟩ := hv
    have HB2 : Hid (Below W0.heap.size W0 w2) := Below.then HB1.out hb2
    have HHA : Hid (∀ w' x, x < 1024 → Below w2.heap.size w2 w' → Calls Tryd.prog 45 #[.agg #[.int .i64 (n : Nat), .slice a len cap], .int .i64 (x : Nat)] w' fun e w'' => e = .returned (.int .i64 (hul (nat f) len n x : Nat)) ∧ Below w'.heap.size w' w'') := fun w' x hx h => hull_any n a len cap (nat f) x w' h10 hl HF.out.1.small hx (HF.out.1.row (K0.step (Below.then HB2.out h)).row)
    have hc0 : ∀ w', Below w2.heap.size w2 w' → w'.cell? ⟨w.heap.size, 0, none⟩ = some (.int .i64 (n : Nat)) := fun w' h => (K0.step (Below.then HB2.out h)).c0
    have hc1 : ∀ w', Below w2.heap.size w2 w' → w'.cell? ⟨w.heap.size, 1, none⟩ = some (.slice a len cap) := fun w' h => (K0.step (Below.then HB2.out h)).c1
    rw [← HH.out] at HHA
    have HR1 : Hid (Row w2 a1 (pts s 10).length (fun k => (nth (pts s 10) k : Nat))) := hr1
    have hpl := pts_len s 10
    have HPA : Hid (∀ k, k < (pts s 10).length → nth (pts s 10) k < 10 ∧ s.testBit (nth (pts s 10) k) = true) := fun k hk => pts_all hk
    clear hb2 hr1 HMEM HB1 K0
    generalize pts s 10 = P at *
    obtain ⟨m, HM⟩ : ∃ m, Hid (m = P.length) := ⟨_, rfl⟩
    rw [← HM.out] at hpl HR1 HPA HCR ⊢
    have HCL : Hid (∀ k, k ≤ m → cca Q P k < 1024) := fun k hk => cca_lt k (fun j hj => (HPA.out j (by omega)).1)
    go_wp2_with fail
    go_loopw [7, 19] (fun c i wx => ∃ k : Nat, k ≤ m ∧ i = .int .i64 k ∧ c = .int .i64 (cca Q P k : Nat) ∧ Hid (Below w2.heap.size w2 wx)) (fun _ i _ => m - (intOf i).toNat)
    case atStart => exact ⟨0, Nat.zero_le _, rfl, rfl, Below.refl _ _⟩
    case round =>
      obtain ⟨k, hk, rfl, rfl, HBx⟩ := hrel
      have hcl := HCL.out k hk
      by_cases hlt : k < m
      · obtain ⟨b2, off, rfl, hcc⟩ := (HR1.out.below HBx.out) k hlt
        have hlt' : (k : Int) < (m : Int) := by omega
        obtain ⟨hp, hb⟩ := HPA.out k hlt
        have hc2 : wr.cell? ⟨b2, off + k, none⟩ = some (.int .i64 (nth P k : Nat)) := hcc
        obtain ⟨p, HP⟩ : ∃ p, Hid (nth P k = p) := ⟨_, rfl⟩
        rw [HP.out] at hp hb hc2
        have han := and_not_pw hs1 hp hb
        have hsub := sub_lt' hs1 hp hb
        obtain ⟨d, hd⟩ : ∃ d, s - pw p = d := ⟨_, rfl⟩
        have HHU := (show Hid _ from fun w' => HHA.out w' d (by omega))
        have hQ := HQA.out p
        rw [hd] at han hsub hQ
        obtain ⟨h, hhd⟩ : ∃ h, H d = h := ⟨_, rfl⟩
        have hh := HHL.out d
        rw [hhd] at HHU hQ hh
        have hsh := wrap_pow p (by omega)
        have hsw := wrap_pow2 p (by omega)
        rw [hsh] at han
        have hpw : pw p < 1024 := Nat.lt_of_lt_of_le (Nat.pow_lt_pow_right (by decide) hp) (Nat.le_refl (2 ^ 10))
        clear hcc hd hhd
        cases hv : h.testBit p
        · rw [hv] at hQ
          have HE : Hid (cca Q P (k + 1) = cca Q P k ||| pw p) := by rw [Hid, ← HP.out]; exact cca_yes (by rw [HP.out]; exact hQ)
          have hor := i64_or (cca Q P k) (pw p) (by omega) (by omega)
          obtain ⟨x, HX⟩ : ∃ x, Hid (cca Q P k = x) := ⟨_, rfl⟩
          rw [HX.out] at hor hcl HE
          rw [HX.out]
          clear hQ
          go_wp2_with fail
          refine wp_region_held_drew (S := (fun w' => Below w2.heap.size w2 w')) (by kernel_rfl) (HBx.out.drew) (fun hHeld => ?_)
          refine wpAnyH_take (i := 0) (oi := { dst := some 23, op := Go.Op.load 36 (Go.Operand.tmp 2), type := 36, pos := "convex.go:60", after := #[], guard := none }) (v := ?_) rfl (by kernel_rfl) (by kernel_rfl) (by kernel_rfl) (fun _ _ _ h => h) (Or.inl ⟨by rfl, ?hy⟩) (by assumption) ?_
          case hy => (intro w9 hSw; (try dsimp only at hSw); go_simp; try with_reducible rfl)
          try simp only [Act.put, List.setIfInBounds_toArray, List.set_cons_zero, List.set_cons_succ]
          refine wpAnyH_take (i := 1) (oi := { dst := some 24, op := Go.Op.move (Go.Operand.tmp 1), type := 3, pos := "convex.go:60", after := #[], guard := none }) (v := ?_) rfl (by kernel_rfl) (by kernel_rfl) (by kernel_rfl) (fun _ _ _ h => h) (Or.inl ⟨by rfl, ?hy⟩) (by assumption) ?_
          case hy => (intro w9 hSw; (try dsimp only at hSw); go_simp; try with_reducible rfl)
          try simp only [Act.put, List.setIfInBounds_toArray, List.set_cons_zero, List.set_cons_succ]
          refine wpAnyH_take (i := 2) (oi := { dst := some 25, op := Go.Op.move (Go.Operand.tmp 9), type := 3, pos := "convex.go:60", after := #[], guard := none }) (v := ?_) rfl (by kernel_rfl) (by kernel_rfl) (by kernel_rfl) (fun _ _ _ h => h) (Or.inl ⟨by rfl, ?hy⟩) (by assumption) ?_
          case hy => (intro w9 hSw; (try dsimp only at hSw); go_simp; try with_reducible rfl)
          try simp only [Act.put, List.setIfInBounds_toArray, List.set_cons_zero, List.set_cons_succ]
          refine wpAnyH_take (i := 3) (oi := { dst := some 26, op := Go.Op.binOp Go.BinOp.shl 3 (Go.Operand.const (Go.Value.int Go.IntKind.i64 1)) (Go.Operand.tmp 25) 3, type := 3, pos := "convex.go:60", after := #[{ on := 2, ground := Go.Ground.data }], guard := none }) (v := .int .i64 ((pw p : Nat) : Int)) rfl (by kernel_rfl) (by kernel_rfl) (by kernel_rfl) (fun _ _ _ h => h) (Or.inl ⟨by rfl, ?hy⟩) (by assumption) ?_
          case hy => (intro w9 hSw; (try dsimp only at hSw); go_simp <;> (first | with_reducible rfl | (simp; omega) | omega))
          try simp only [Act.put, List.setIfInBounds_toArray, List.set_cons_zero, List.set_cons_succ]
          refine wpAnyH_take (i := 4) (oi := { dst := some 27, op := Go.Op.binOp Go.BinOp.andNot 3 (Go.Operand.tmp 24) (Go.Operand.tmp 26) 3, type := 3, pos := "convex.go:60", after := #[{ on := 1, ground := Go.Ground.data }, { on := 3, ground := Go.Ground.data }], guard := none }) (v := .int .i64 ((d : Nat) : Int)) rfl (by kernel_rfl) (by kernel_rfl) (by kernel_rfl) (fun _ _ _ h => h) (Or.inl ⟨by rfl, ?hy⟩) (by assumption) ?_
          case hy => (intro w9 hSw; (try dsimp only at hSw); go_simp <;> (first | with_reducible rfl | (simp; omega) | omega))
          try simp only [Act.put, List.setIfInBounds_toArray, List.set_cons_zero, List.set_cons_succ]
          refine wpAnyH_take (i := 6) (oi := { dst := some 29, op := Go.Op.move (Go.Operand.tmp 9), type := 3, pos := "convex.go:60", after := #[], guard := none }) (v := ?_) rfl (by kernel_rfl) (by kernel_rfl) (by kernel_rfl) (fun _ _ _ h => h) (Or.inl ⟨by rfl, ?hy⟩) (by assumption) ?_
          case hy => (intro w9 hSw; (try dsimp only at hSw); go_simp; try with_reducible rfl)
          try simp only [Act.put, List.setIfInBounds_toArray, List.set_cons_zero, List.set_cons_succ]
          refine wpAnyH_ready (rs := [5]) (by kernel_rfl) (by simp) ?_
          refine AllReadyH.cons (o := { dst := some 28, op := Go.Op.call { callee := Go.Callee.value (Go.Operand.func 45), args := #[Go.Operand.tmp 23, Go.Operand.tmp 27], argTypes := #[36, 3] }, type := 3, pos := "convex.go:60", after := #[{ on := 0, ground := Go.Ground.data }, { on := 4, ground := Go.Ground.data }], guard := none }) rfl (fun K hK => ?_) AllReadyH.nil
          go_simp
          refine (HHU.out _ hHeld).mono ?_
          rintro e w7 ⟨rfl, hb7⟩
          refine hK.out _ _ ?_ (fun hHeld => ?_)
          · first | assumption | exact Below.then (by assumption) (by assumption)
          clear hK K
          try simp only [Act.put, List.setIfInBounds_toArray, List.set_cons_zero, List.set_cons_succ]
          refine wpAnyH_ready (rs := [7]) (by kernel_rfl) (by simp) ?_
          refine AllReadyH.cons (o := { dst := some 30, op := Go.Op.call { callee := Go.Callee.value (Go.Operand.func 31), args := #[Go.Operand.tmp 28, Go.Operand.tmp 29], argTypes := #[3, 3] }, type := 4, pos := "convex.go:60", after := #[{ on := 5, ground := Go.Ground.data }, { on := 6, ground := Go.Ground.data }, { on := 5, ground := Go.Ground.chain }], guard := none }) rfl (fun K hK => ?_) AllReadyH.nil
          go_simp
          refine (chas_as h p false _ (by omega) (by omega) hv).mono ?_
          rintro e w8 ⟨rfl, hw8⟩
          subst hw8
          refine hK.out _ _ ?_ (fun hHeld => ?_)
          · first | assumption | exact Below.then (by assumption) (by assumption)
          clear hK K
          try simp only [Act.put, List.setIfInBounds_toArray, List.set_cons_zero, List.set_cons_succ]
          refine wpAnyH_take (i := 8) (oi := { dst := some 31, op := Go.Op.unOp Go.UnOp.not 4 (Go.Operand.tmp 30), type := 4, pos := "convex.go:60", after := #[{ on := 7, ground := Go.Ground.data }], guard := none }) (v := ?_) rfl (by kernel_rfl) (by kernel_rfl) (by kernel_rfl) (fun _ _ _ h => h) (Or.inl ⟨by rfl, ?hy⟩) (by assumption) ?_
          case hy => (intro w9 hSw; (try dsimp only at hSw); go_simp; try with_reducible rfl)
          try simp only [Act.put, List.setIfInBounds_toArray, List.set_cons_zero, List.set_cons_succ]
          refine wpAnyH_done (by kernel_rfl) ?_ _
          try simp only [Act.put, List.setIfInBounds_toArray, List.set_cons_zero, List.set_cons_succ]
          have HB7 := (show Hid (Below w2.heap.size w2 w8) from hHeld)
          clear hHeld
          go_wp2_with (first | rw [hor] | rw [hsh])
          go_roundw
          case rel => exact ⟨k + 1, by omega, by go_num, by rw [HE.out], HB7⟩
          case measure => simp [intOf]; omega
        · rw [hv] at hQ
          have HE : Hid (cca Q P (k + 1) = cca Q P k) := cca_no (by rw [HP.out]; exact hQ)
          clear hQ
          go_wp2_with fail
          refine wp_region_held_drew (S := (fun w' => Below w2.heap.size w2 w')) (by kernel_rfl) (HBx.out.drew) (fun hHeld => ?_)
          refine wpAnyH_take (i := 0) (oi := { dst := some 23, op := Go.Op.load 36 (Go.Operand.tmp 2), type := 36, pos := "convex.go:60", after := #[], guard := none }) (v := ?_) rfl (by kernel_rfl) (by kernel_rfl) (by kernel_rfl) (fun _ _ _ h => h) (Or.inl ⟨by rfl, ?hy⟩) (by assumption) ?_
          case hy => (intro w9 hSw; (try dsimp only at hSw); go_simp; try with_reducible rfl)
          try simp only [Act.put, List.setIfInBounds_toArray, List.set_cons_zero, List.set_cons_succ]
          refine wpAnyH_take (i := 1) (oi := { dst := some 24, op := Go.Op.move (Go.Operand.tmp 1), type := 3, pos := "convex.go:60", after := #[], guard := none }) (v := ?_) rfl (by kernel_rfl) (by kernel_rfl) (by kernel_rfl) (fun _ _ _ h => h) (Or.inl ⟨by rfl, ?hy⟩) (by assumption) ?_
          case hy => (intro w9 hSw; (try dsimp only at hSw); go_simp; try with_reducible rfl)
          try simp only [Act.put, List.setIfInBounds_toArray, List.set_cons_zero, List.set_cons_succ]
          refine wpAnyH_take (i := 2) (oi := { dst := some 25, op := Go.Op.move (Go.Operand.tmp 9), type := 3, pos := "convex.go:60", after := #[], guard := none }) (v := ?_) rfl (by kernel_rfl) (by kernel_rfl) (by kernel_rfl) (fun _ _ _ h => h) (Or.inl ⟨by rfl, ?hy⟩) (by assumption) ?_
          case hy => (intro w9 hSw; (try dsimp only at hSw); go_simp; try with_reducible rfl)
          try simp only [Act.put, List.setIfInBounds_toArray, List.set_cons_zero, List.set_cons_succ]
          refine wpAnyH_take (i := 3) (oi := { dst := some 26, op := Go.Op.binOp Go.BinOp.shl 3 (Go.Operand.const (Go.Value.int Go.IntKind.i64 1)) (Go.Operand.tmp 25) 3, type := 3, pos := "convex.go:60", after := #[{ on := 2, ground := Go.Ground.data }], guard := none }) (v := .int .i64 ((pw p : Nat) : Int)) rfl (by kernel_rfl) (by kernel_rfl) (by kernel_rfl) (fun _ _ _ h => h) (Or.inl ⟨by rfl, ?hy⟩) (by assumption) ?_
          case hy => (intro w9 hSw; (try dsimp only at hSw); go_simp <;> (first | with_reducible rfl | (simp; omega) | omega))
          try simp only [Act.put, List.setIfInBounds_toArray, List.set_cons_zero, List.set_cons_succ]
          refine wpAnyH_take (i := 4) (oi := { dst := some 27, op := Go.Op.binOp Go.BinOp.andNot 3 (Go.Operand.tmp 24) (Go.Operand.tmp 26) 3, type := 3, pos := "convex.go:60", after := #[{ on := 1, ground := Go.Ground.data }, { on := 3, ground := Go.Ground.data }], guard := none }) (v := .int .i64 ((d : Nat) : Int)) rfl (by kernel_rfl) (by kernel_rfl) (by kernel_rfl) (fun _ _ _ h => h) (Or.inl ⟨by rfl, ?hy⟩) (by assumption) ?_
          case hy => (intro w9 hSw; (try dsimp only at hSw); go_simp <;> (first | with_reducible rfl | (simp; omega) | omega))
          try simp only [Act.put, List.setIfInBounds_toArray, List.set_cons_zero, List.set_cons_succ]
          refine wpAnyH_take (i := 6) (oi := { dst := some 29, op := Go.Op.move (Go.Operand.tmp 9), type := 3, pos := "convex.go:60", after := #[], guard := none }) (v := ?_) rfl (by kernel_rfl) (by kernel_rfl) (by kernel_rfl) (fun _ _ _ h => h) (Or.inl ⟨by rfl, ?hy⟩) (by assumption) ?_
          case hy => (intro w9 hSw; (try dsimp only at hSw); go_simp; try with_reducible rfl)
          try simp only [Act.put, List.setIfInBounds_toArray, List.set_cons_zero, List.set_cons_succ]
          refine wpAnyH_ready (rs := [5]) (by kernel_rfl) (by simp) ?_
          refine AllReadyH.cons (o := { dst := some 28, op := Go.Op.call { callee := Go.Callee.value (Go.Operand.func 45), args := #[Go.Operand.tmp 23, Go.Operand.tmp 27], argTypes := #[36, 3] }, type := 3, pos := "convex.go:60", after := #[{ on := 0, ground := Go.Ground.data }, { on := 4, ground := Go.Ground.data }], guard := none }) rfl (fun K hK => ?_) AllReadyH.nil
          go_simp
          refine (HHU.out _ hHeld).mono ?_
          rintro e w7 ⟨rfl, hb7⟩
          refine hK.out _ _ ?_ (fun hHeld => ?_)
          · first | assumption | exact Below.then (by assumption) (by assumption)
          clear hK K
          try simp only [Act.put, List.setIfInBounds_toArray, List.set_cons_zero, List.set_cons_succ]
          refine wpAnyH_ready (rs := [7]) (by kernel_rfl) (by simp) ?_
          refine AllReadyH.cons (o := { dst := some 30, op := Go.Op.call { callee := Go.Callee.value (Go.Operand.func 31), args := #[Go.Operand.tmp 28, Go.Operand.tmp 29], argTypes := #[3, 3] }, type := 4, pos := "convex.go:60", after := #[{ on := 5, ground := Go.Ground.data }, { on := 6, ground := Go.Ground.data }, { on := 5, ground := Go.Ground.chain }], guard := none }) rfl (fun K hK => ?_) AllReadyH.nil
          go_simp
          refine (chas_as h p true _ (by omega) (by omega) hv).mono ?_
          rintro e w8 ⟨rfl, hw8⟩
          subst hw8
          refine hK.out _ _ ?_ (fun hHeld => ?_)
          · first | assumption | exact Below.then (by assumption) (by assumption)
          clear hK K
          try simp only [Act.put, List.setIfInBounds_toArray, List.set_cons_zero, List.set_cons_succ]
          refine wpAnyH_take (i := 8) (oi := { dst := some 31, op := Go.Op.unOp Go.UnOp.not 4 (Go.Operand.tmp 30), type := 4, pos := "convex.go:60", after := #[{ on := 7, ground := Go.Ground.data }], guard := none }) (v := ?_) rfl (by kernel_rfl) (by kernel_rfl) (by kernel_rfl) (fun _ _ _ h => h) (Or.inl ⟨by rfl, ?hy⟩) (by assumption) ?_
          case hy => (intro w9 hSw; (try dsimp only at hSw); go_simp; try with_reducible rfl)
          try simp only [Act.put, List.setIfInBounds_toArray, List.set_cons_zero, List.set_cons_succ]
          refine wpAnyH_done (by kernel_rfl) ?_ _
          try simp only [Act.put, List.setIfInBounds_toArray, List.set_cons_zero, List.set_cons_succ]
          have HB7 := (show Hid (Below w2.heap.size w2 w8) from hHeld)
          clear hHeld
          go_wp2_with fail
          go_roundw
          case rel => exact ⟨k + 1, by omega, by go_num, by rw [HE.out], HB7⟩
          case measure => simp [intOf]; omega
      · obtain rfl : k = m := by omega
        rw [HCR.out]
        go_wp2_with fail
        go_ret2
        exact ⟨.inr ⟨n, s, rfl, rfl, h10, hs, HC.out, HF.out.1, HF.out.2.1, HF.out.2.2, rfl⟩, Below.then HB0.out (Below.then HB2.out HBx.out)⟩
  · have hne : (c != 0) = true := by simpa using h0
    clear hc
    go_wp2_with fail
    go_ret2
    exact ⟨.inl ⟨c, h0, HC.out, rfl⟩, Below.then HB0.out HB1.out⟩
end Go.Proofs.YtglkjeidkjkdaaaDoor
