/-
  What sets.UpTo, complete.lower, Lower, Upper and cut answer. Conditions: as each theorem says; of Lower and Upper none but that a slice reads as a slice of numbers.
  What complete.Lower, Upper and cut answer. Conditions: none of Lower and Upper but that a slice reads as a slice of numbers; of cut an order and its dual.
  What complete.cut, allCuts and Cuts answer. Conditions: of Cuts none but that a slice reads as a slice of numbers.
-/
import Derived.Test.YthhnngmfbbljaaaGreatDualT
import Derived.Deep.RegionHeld3
import Derived.Test.YthhnngmfbbljaaaGreatFilM
namespace Go.Proofs.YthhnngmfbbljaaaGreat
set_option maxRecDepth 100000
open Go.RowKit

theorem upto_lt {g : Nat → Nat} {x : Nat} (hg : g x < 1024) (hx : x < 10) : upto g x < 1024 := by
  have : pw x < 2 ^ 10 := Nat.pow_lt_pow_right (by decide) hx
  exact Nat.or_lt_two_pow (n := 10) hg this
set_option maxHeartbeats 1000000 in
theorem upTo_any (n : Int) (a : Option Addr) (len cap : Nat) (g : Nat → Nat) (x : Nat) (w : World) (h10 : len ≤ 10) (hg : ∀ k, k < len → g k < 1024) (hr : Row w a len (fun k => (g k : Nat))) (hx : x < len) :
    Calls Tryz.prog 39 #[.agg #[.int .i64 n, .slice a len cap], .int .i64 (x : Nat)] w fun e w' => e = .returned (.int .i64 (upto g x : Nat)) ∧ Below w.heap.size w w' := by
  have HB0 : Hid (Below w.heap.size w (w.alloc (.cells #[.int .i64 n, .slice a len cap] 24))) := (Below.refl _ _).alloc (Nat.le_refl _) _
  obtain ⟨b, off, rfl, hc⟩ := hr x hx
  have c1 : (w.alloc (.cells #[.int .i64 n, .slice (some ⟨b, off, none⟩) len cap] 24)).cell? ⟨b, off + x, none⟩ = some (.int .i64 (g x : Nat)) := (HB0.out.cell (World.block_lt_of_cell? _ _ hc)).trans hc
  have hx' : (x : Int) < (len : Int) := by omega
  have HV : Hid (bits .or .i64 ((g x : Nat) : Int) (wrap64 (2 ^ x)) = ((upto g x : Nat) : Int)) := by
    rw [wrap_pow x (by omega)]
    refine i64_or _ _ ?_ ?_
    · have := hg x hx; omega
    · have : pw x < 2 ^ 10 := Nat.pow_lt_pow_right (by decide) (by omega)
      omega
  clear hr hc hg
  go_enter Tryz.func39, Tryz.ntmps39
  go_wp2
  go_big_quiet (fail)
  go_wp2
  go_ret
  exact ⟨by rw [← HV.out]; rfl, below_drewN HB0.out _⟩

set_option maxHeartbeats 1000000 in
theorem lower_any (a : Option Addr) (n cap : Nat) (g : Nat → Nat) (s : Nat) (w : World) (h10 : n ≤ 10) (hg : ∀ k, k < n → g k < 1024) (hr : Row w a n (fun k => (g k : Nat))) (hs : s < 1024) :
    Calls Tryz.prog 52 #[.agg #[.int .i64 (n : Int), .slice a n cap], .int .i64 (s : Nat)] w fun e w' => e = .returned (.int .i64 (low g n s : Nat)) ∧ Below w.heap.size w w' := by
  have HG : Hid (∀ k, k < n → g k < 1024) := hg
  have K0 : Hid (Held (w.alloc (.cells #[.int .i64 (n : Int), .slice a n cap] 24)) w.heap.size n a n cap (fun k => (g k : Nat))) := Held.box hr
  have HB0 : Hid (Below w.heap.size w (w.alloc (.cells #[.int .i64 (n : Int), .slice a n cap] 24))) := (Below.refl _ _).alloc (Nat.le_refl _) _
  have hpos := pw_pos n
  have HL0 : Hid (((pw n : Nat) : Int) - 1 = ((lwr g n s 0 : Nat) : Int)) := by show _ = ((pw n - 1 : Nat) : Int); omega
  clear hr hg hpos
  go_enter Tryz.func52, Tryz.ntmps52
  go_wp2_with (go_at_call 76; refine (all_any n _ h10).mono ?_; rintro e w' ⟨rfl, rfl⟩)
  go_loopw [5, 12] (fun p i wx => ∃ k : Nat, k ≤ n ∧ i = .int .i64 k ∧ p = .int .i64 (lwr g n s k : Nat) ∧ Hid (Held wx w.heap.size n a n cap (fun k => (g k : Nat))) ∧ Hid (Below w.heap.size w wx)) (fun _ i _ => n - (intOf i).toNat)
  case atStart => exact ⟨0, Nat.zero_le _, rfl, by rw [← HL0.out], K0, HB0⟩
  case round =>
    obtain ⟨k, hk, rfl, rfl, hH, hB⟩ := hrel
    clear K0 HB0
    have k0 := hH.out.c0
    have k1 := hH.out.c1
    by_cases hlt : k < n
    · rcases (Bool.eq_false_or_eq_true (s.testBit k)).symm with hb | hb
      · have HE : Hid (lwr g n s (k + 1) = lwr g n s k) := lwr_no hb
        go_wp2_with (go_at_call 65; refine (has_any _ _ _ (by omega) (by omega)).mono ?_; rintro e w' ⟨rfl, rfl⟩)
        go_roundw
        case rel => exact ⟨k + 1, by omega, by go_num, by rw [HE.out], hH, hB⟩
        case measure => simp [intOf]; omega
      · have HE : Hid (lwr g n s (k + 1) = lwr g n s k &&& upto g k) := lwr_yes hb
        have hl1 : lwr g n s k < 1024 := Nat.lt_of_lt_of_le (lwr_lt g n s k) (pw_le n h10)
        have hl2 : upto g k < 1024 := upto_lt (HG.out k hlt) (by omega)
        have HV : Hid (bits .and .i64 ((lwr g n s k : Nat) : Int) ((upto g k : Nat) : Int) = ((lwr g n s k &&& upto g k : Nat) : Int)) := i64_and _ _ (by omega) (by omega)
        go_wp2_with (go_at_call 65; refine (has_any _ _ _ (by omega) (by omega)).mono ?_; rintro e w' ⟨rfl, rfl⟩)
        refine (upTo_any n a n cap g k _ h10 HG.out hH.out.row hlt).mono ?_
        rintro e w1 ⟨rfl, hb1⟩
        have HH1 : Hid (Held w1 w.heap.size n a n cap (fun k => (g k : Nat))) := hH.out.step hb1
        have HB1 : Hid (Below w.heap.size w w1) := Below.then hB.out hb1
        clear hb1 hH hB k0 k1
        go_wp2_with fail
        go_roundw
        case rel => exact ⟨k + 1, by omega, by go_num, by rw [HE.out, ← HV.out], HH1, HB1⟩
        case measure => simp [intOf]; omega
    · have hkn : k = n := by omega
      subst hkn
      clear k0 k1
      go_wp2
      go_ret
      exact ⟨rfl, hB.out⟩
end Go.Proofs.YthhnngmfbbljaaaGreat
namespace Go.Proofs.YthhnngmfbbljaaaGreat
set_option maxRecDepth 100000
open Go.RowKit

/-- What the errno must be for an order and a set. -/
def SCk (n : Int) (len : Nat) (f : Nat → Int) (s : Int) (c : Int) : Prop :=
  (c ≠ 0 ∧ Chk n len f c) ∨ (Chk n len f 0 ∧ ((c = 3 ∧ sts s len = false) ∨ (c = 0 ∧ sts s len = true)))
theorem SCk.unique {n : Int} {len : Nat} {f : Nat → Int} {s : Int} {c c' : Int} (h : SCk n len f s c) (h' : SCk n len f s c') : c = c' := by
  rcases h with ⟨h0, h⟩ | ⟨h, k⟩
  · rcases h' with ⟨_, h'⟩ | ⟨h', _⟩
    · exact h.unique h'
    · exact absurd (h.unique h') h0
  · rcases h' with ⟨h0, h'⟩ | ⟨_, k'⟩
    · exact absurd (h'.unique h) h0
    · rcases k with ⟨rfl, k⟩ | ⟨rfl, k⟩ <;> rcases k' with ⟨rfl, k'⟩ | ⟨rfl, k'⟩ <;> first | rfl | (rw [k] at k'; cases k')
/-- What a call answers that hands back a number and an errno. -/
def NumPost (c : Int) (x : Nat) (e : Ending) : Prop := ∃ v : Int, e = .returned (.tuple #[.int .i64 v, .int .i64 c]) ∧ ((c ≠ 0 ∧ v = 0) ∨ (c = 0 ∧ v = (x : Nat)))
theorem sts_nat {s : Int} {n : Nat} (h : sts s n = true) : ∃ k : Nat, s = k ∧ k < pw n := by
  simp only [sts, decide_eq_true_eq] at h
  exact ⟨s.toNat, by omega, by omega⟩

set_option maxHeartbeats 1000000 in
theorem lowerX_any (n : Int) (a : Option Addr) (len cap : Nat) (f : Nat → Int) (s : Int) (w : World) (hl : len ≤ maxLen) (hr : Row w a len f) :
    Calls Tryz.prog 24 #[.agg #[.int .i64 n, .slice a len cap], .int .i64 s] w fun e w' => (∃ c, SCk n len f s c ∧ NumPost c (low (nat f) len s.toNat) e) ∧ Below w.heap.size w w' := by
  have K0 : Held (w.alloc (.cells #[.int .i64 n, .slice a len cap] 24)) w.heap.size n a len cap f := Held.box hr
  have HB0 : Hid (Below w.heap.size w (w.alloc (.cells #[.int .i64 n, .slice a len cap] 24))) := (Below.refl _ _).alloc (Nat.le_refl _) _
  clear hr
  go_enter Tryz.func24, Tryz.ntmps24
  go_wp2_with fail
  refine (check_any n a len cap f _ hl K0.row).mono ?_
  rintro e w1 ⟨⟨c, rfl, hc⟩, hb⟩
  have K1 := K0.step hb
  have k0 := K1.c0
  have k1 := K1.c1
  have HB1 : Hid (Below w.heap.size w w1) := Below.then HB0.out hb
  clear hb K0 HB0
  by_cases h0 : c = 0
  · subst h0
    obtain ⟨rfl, h10, hrng, _⟩ := hc.good
    have HC : Hid (Chk (len : Int) len f 0) := hc
    have HK : Hid (Held w1 w.heap.size (len : Int) a len cap f) := K1
    clear hc K1
    rcases (Bool.eq_false_or_eq_true (sts s len)).symm with hs | hs
    · go_wp2_with (go_at_call 51; refine (isSet_any s len _ h10).mono ?_; rintro e w' ⟨rfl, rfl⟩; rw [hs])
      go_ret2
      exact ⟨⟨3, .inr ⟨HC.out, .inl ⟨rfl, hs⟩⟩, _, rfl, .inl ⟨by decide, rfl⟩⟩, HB1.out⟩
    · obtain ⟨t, rfl, ht⟩ := sts_nat hs
      have HS : Hid (sts ((t : Nat) : Int) len = true) := hs
      have ht2 : t < 1024 := Nat.lt_of_lt_of_le ht (pw_le len h10)
      go_wp2_with (go_at_call 51; refine (isSet_any t len _ h10).mono ?_; rintro e w' ⟨rfl, rfl⟩; rw [HS.out])
      refine (lower_any a len cap (nat f) t _ h10 (hrng.small2 h10) (hrng.row HK.out.row) ht2).mono ?_
      rintro e w2 ⟨rfl, hb2⟩
      have HB2 : Hid (Below w.heap.size w w2) := Below.then HB1.out hb2
      clear hb2 HB1
      go_wp2_with fail
      go_ret2
      exact ⟨⟨0, .inr ⟨HC.out, .inr ⟨rfl, HS.out⟩⟩, _, rfl, .inr ⟨rfl, rfl⟩⟩, HB2.out⟩
  · have hne : (c != 0) = true := by simpa using h0
    have HC : Hid (Chk n len f c) := hc
    clear hc
    go_wp2_with fail
    go_ret2
    exact ⟨⟨c, .inl ⟨h0, HC.out⟩, _, rfl, .inl ⟨h0, rfl⟩⟩, HB1.out⟩

set_option maxHeartbeats 1000000 in
theorem upperX_any (n : Int) (a : Option Addr) (len cap : Nat) (f : Nat → Int) (s : Int) (w : World) (hl : len ≤ maxLen) (hr : Row w a len f) :
    Calls Tryz.prog 22 #[.agg #[.int .i64 n, .slice a len cap], .int .i64 s] w fun e w' => (∃ c, SCk n len f s c ∧ NumPost c (low (trn (nat f) len) len s.toNat) e) ∧ Below w.heap.size w w' := by
  have K0 : Held (w.alloc (.cells #[.int .i64 n, .slice a len cap] 24)) w.heap.size n a len cap f := Held.box hr
  have HB0 : Hid (Below w.heap.size w (w.alloc (.cells #[.int .i64 n, .slice a len cap] 24))) := (Below.refl _ _).alloc (Nat.le_refl _) _
  clear hr
  go_enter Tryz.func22, Tryz.ntmps22
  go_wp2_with fail
  refine (dual_any n a len cap f _ hl K0.row).mono ?_
  rintro e w1 ⟨⟨c, x, hc, rfl, hx⟩, hb⟩
  have HB1 : Hid (Below w.heap.size w w1) := Below.then HB0.out hb
  clear hb K0 HB0
  rcases hx with ⟨h0, rfl⟩ | ⟨rfl, a', cap', rfl, hr'⟩
  · have hne : (c != 0) = true := by simpa using h0
    have HC : Hid (Chk n len f c) := hc
    clear hc
    unfold noOrder
    go_wp2_with fail
    go_ret2
    exact ⟨⟨c, .inl ⟨h0, HC.out⟩, _, rfl, .inl ⟨h0, rfl⟩⟩, (HB1.out.alloc HB1.out.size _)⟩
  · obtain ⟨rfl, h10, hrng, ho⟩ := hc.good
    have HC : Hid (Chk (len : Int) len f 0) := hc
    have HD : Hid (Chk (len : Int) len (fun k => ((trn (nat f) len k : Nat) : Int)) 0) := trn_chk h10 hrng.small ho
    have HR : Hid (Row w1 a' len (fun k => ((trn (nat f) len k : Nat) : Int))) := hr'
    clear hc hr' ho hrng
    go_wp2_with fail
    refine (lowerX_any len a' len cap' (fun k => ((trn (nat f) len k : Nat) : Int)) s _ hl (HR.out.below ((Below.refl _ _).alloc (Nat.le_refl _) _))).mono ?_
    rintro e w2 ⟨⟨c', hc', v, rfl, hv⟩, hb2⟩
    have HS : Hid (SCk len len f s c') := by
      rcases hc' with ⟨h0, h⟩ | ⟨_, h⟩
      · exact absurd (h.unique HD.out) h0
      · exact .inr ⟨HC.out, h⟩
    have HV : Hid ((c' ≠ 0 ∧ v = 0) ∨ (c' = 0 ∧ v = ((low (trn (nat f) len) len s.toNat : Nat) : Int))) := by
      rw [show nat (fun k => ((trn (nat f) len k : Nat) : Int)) = trn (nat f) len from by funext k; simp [nat]] at hv
      exact hv
    have HB2 : Hid (Below w.heap.size w w2) := Below.then (HB1.out.alloc HB1.out.size _) hb2
    clear hc' hv hb2 HB1
    go_wp2_with fail
    go_ret2
    exact ⟨⟨c', HS.out, v, rfl, HV.out⟩, HB2.out⟩
end Go.Proofs.YthhnngmfbbljaaaGreat
namespace Go.Proofs.YthhnngmfbbljaaaGreat
set_option maxRecDepth 100000
open Go.RowKit

theorem trn_1024 (g : Nat → Nat) {n : Nat} (h10 : n ≤ 10) : ∀ k, k < n → trn g n k < 1024 := fun k _ => Nat.lt_of_lt_of_le (trn_lt g n k) (pw_le n h10)
theorem low_1024 (g : Nat → Nat) {n : Nat} (h10 : n ≤ 10) (s : Nat) : low g n s < 1024 := Nat.lt_of_lt_of_le (low_lt g n s) (pw_le n h10)

set_option maxHeartbeats 2000000 in
theorem cut_any (a a' : Option Addr) (n cap cap' : Nat) (g : Nat → Nat) (s : Nat) (w : World) (h10 : n ≤ 10) (hg : ∀ k, k < n → g k < 1024) (hr : Row w a n (fun k => (g k : Nat))) (hr' : Row w a' n (fun k => (trn g n k : Nat))) (hs : s < 1024) :
    Calls Tryz.prog 37 #[.agg #[.int .i64 (n : Int), .slice a n cap], .agg #[.int .i64 (n : Int), .slice a' n cap'], .int .i64 (s : Nat)] w fun e w' => e = .returned (.int .i64 (cutW g n s : Nat)) ∧ Below w.heap.size w w' := by
  have HG : Hid (∀ k, k < n → g k < 1024) := hg
  have HGD : Hid (∀ k, k < n → trn g n k < 1024) := trn_1024 g h10
  have hl : low (trn g n) n s < 1024 := low_1024 _ h10 _
  obtain ⟨W, HW⟩ : ∃ W, Hid (W = (w.alloc (.cells #[.int .i64 (n : Int), .slice a n cap] 24)).alloc (.cells #[.int .i64 (n : Int), .slice a' n cap'] 24)) := ⟨_, rfl⟩
  have B0 : Below w.heap.size w W := by rw [HW.out]; exact ((Below.refl _ _).alloc (Nat.le_refl _) _).alloc (by simp) _
  have H0 : Held W w.heap.size n a n cap (fun k => (g k : Nat)) := by rw [HW.out]; exact (Held.box hr).step ((Below.refl _ _).alloc (Nat.le_refl _) _)
  have H1 : Held W (w.heap.size + 1) n a' n cap' (fun k => (trn g n k : Nat)) := by
    rw [HW.out]
    have := Held.box (n := (n : Int)) (cap := cap') (Row.below hr' ((Below.refl w.heap.size w).alloc (Nat.le_refl _) (.cells #[.int .i64 (n : Int), .slice a n cap] 24)))
    rw [World.size_alloc] at this; exact this
  have l0 : ∀ w', Below W.heap.size W w' → w'.cell? ⟨w.heap.size, 0, none⟩ = some (.int .i64 (n : Int)) := fun w' h => (H0.step h).c0
  have l1 : ∀ w', Below W.heap.size W w' → w'.cell? ⟨w.heap.size, 1, none⟩ = some (.slice a n cap) := fun w' h => (H0.step h).c1
  have l2 : ∀ w', Below W.heap.size W w' → w'.cell? ⟨w.heap.size + 1, 0, none⟩ = some (.int .i64 (n : Int)) := fun w' h => (H1.step h).c0
  have l3 : ∀ w', Below W.heap.size W w' → w'.cell? ⟨w.heap.size + 1, 1, none⟩ = some (.slice a' n cap') := fun w' h => (H1.step h).c1
  have HR : Hid (∀ w', Below W.heap.size W w' → Row w' a n (fun k => (g k : Nat))) := fun w' h => (H0.step h).row
  have HRD : Hid (∀ w', Below W.heap.size W w' → Row w' a' n (fun k => (trn g n k : Nat))) := fun w' h => (H1.step h).row
  have HB0 : Hid (Below w.heap.size w W) := B0
  clear hg hr hr' B0 H0 H1
  go_enter Tryz.func37, Tryz.ntmps37
  have KK : Below W.heap.size W W.drew := (Below.refl _ _).drew
  go_wp2_with fail
  rw [← HW.out]
  refine wp_region_held_drew (S := (fun w' => Below W.heap.size W w')) (by kernel_rfl) (KK) (fun hHeld => ?_)
  refine wpAnyH_take (i := 0) (oi := { dst := some 7, op := Go.Op.load 24 (Go.Operand.tmp 3), type := 24, pos := "complete.go:70", after := #[], guard := none }) (v := ?_) rfl (by kernel_rfl) (by kernel_rfl) (by kernel_rfl) (fun _ _ _ h => h) (Or.inl ⟨by rfl, ?hy⟩) (by assumption) ?_
  case hy => (intro w9 hSw; (try dsimp only at hSw); go_simp; try with_reducible rfl)
  try simp only [Act.put, List.setIfInBounds_toArray, List.set_cons_zero, List.set_cons_succ]
  refine wpAnyH_take (i := 1) (oi := { dst := some 8, op := Go.Op.load 24 (Go.Operand.tmp 4), type := 24, pos := "complete.go:70", after := #[], guard := none }) (v := ?_) rfl (by kernel_rfl) (by kernel_rfl) (by kernel_rfl) (fun _ _ _ h => h) (Or.inl ⟨by rfl, ?hy⟩) (by assumption) ?_
  case hy => (intro w9 hSw; (try dsimp only at hSw); go_simp; try with_reducible rfl)
  try simp only [Act.put, List.setIfInBounds_toArray, List.set_cons_zero, List.set_cons_succ]
  refine wpAnyH_take (i := 2) (oi := { dst := some 9, op := Go.Op.move (Go.Operand.tmp 2), type := 3, pos := "complete.go:70", after := #[], guard := none }) (v := ?_) rfl (by kernel_rfl) (by kernel_rfl) (by kernel_rfl) (fun _ _ _ h => h) (Or.inl ⟨by rfl, ?hy⟩) (by assumption) ?_
  case hy => (intro w9 hSw; (try dsimp only at hSw); go_simp; try with_reducible rfl)
  try simp only [Act.put, List.setIfInBounds_toArray, List.set_cons_zero, List.set_cons_succ]
  refine wpAnyH_ready (rs := [3]) (by kernel_rfl) (by simp) ?_
  refine AllReadyH.cons (o := { dst := some 10, op := Go.Op.call { callee := Go.Callee.value (Go.Operand.func 52), args := #[Go.Operand.tmp 8, Go.Operand.tmp 9], argTypes := #[24, 3] }, type := 3, pos := "complete.go:70", after := #[{ on := 1, ground := Go.Ground.data }, { on := 2, ground := Go.Ground.data }], guard := none }) rfl (fun K hK => ?_) AllReadyH.nil
  go_simp
  refine (lower_any a' n cap' (trn g n) s _ h10 HGD.out (HRD.out _ (by assumption)) hs).mono ?_
  rintro e w1 ⟨rfl, hb1⟩
  refine hK.out _ _ ?_ (fun hHeld => ?_)
  · first | assumption | exact Below.then (by assumption) (by assumption)
  clear hK K
  try simp only [Act.put, List.setIfInBounds_toArray, List.set_cons_zero, List.set_cons_succ]
  refine wpAnyH_ready (rs := [4]) (by kernel_rfl) (by simp) ?_
  refine AllReadyH.cons (o := { dst := some 11, op := Go.Op.call { callee := Go.Callee.value (Go.Operand.func 52), args := #[Go.Operand.tmp 7, Go.Operand.tmp 10], argTypes := #[24, 3] }, type := 3, pos := "complete.go:70", after := #[{ on := 0, ground := Go.Ground.data }, { on := 3, ground := Go.Ground.data }, { on := 3, ground := Go.Ground.chain }], guard := none }) rfl (fun K hK => ?_) AllReadyH.nil
  go_simp
  refine (lower_any a n cap g (low (trn g n) n s) _ h10 HG.out (HR.out _ (by assumption)) hl).mono ?_
  rintro e w2 ⟨rfl, hb2⟩
  refine hK.out _ _ ?_ (fun hHeld => ?_)
  · first | assumption | exact Below.then (by assumption) (by assumption)
  clear hK K
  try simp only [Act.put, List.setIfInBounds_toArray, List.set_cons_zero, List.set_cons_succ]
  refine wpAnyH_take (i := 5) (oi := { dst := some 6, op := Go.Op.assign (Go.Operand.tmp 11), type := 3, pos := "complete.go:70", after := #[{ on := 4, ground := Go.Ground.data }, { on := 4, ground := Go.Ground.chain }, { on := 0, ground := Go.Ground.phase }, { on := 1, ground := Go.Ground.phase }, { on := 2, ground := Go.Ground.phase }, { on := 3, ground := Go.Ground.phase }, { on := 4, ground := Go.Ground.phase }], guard := none }) (v := ?_) rfl (by kernel_rfl) (by kernel_rfl) (by kernel_rfl) (fun _ _ _ h => h) (Or.inl ⟨by rfl, ?hy⟩) (by assumption) ?_
  case hy => (intro w9 hSw; (try dsimp only at hSw); go_simp; try with_reducible rfl)
  try simp only [Act.put, List.setIfInBounds_toArray, List.set_cons_zero, List.set_cons_succ]
  refine wpAnyH_done (by kernel_rfl) ?_ _
  try simp only [Act.put, List.setIfInBounds_toArray, List.set_cons_zero, List.set_cons_succ]
  have hb8 : Below W.heap.size W w2 := by first | assumption | exact hHeld
  have HB8 : Hid (Below w.heap.size w w2) := Below.then HB0.out hb8
  clear hb8
  go_wp2_with fail
  go_ret
  exact ⟨rfl, HB8.out⟩

def cuts (g : Nat → Nat) (n : Nat) : List Nat := fil (isCut g n) (pw n)

set_option maxHeartbeats 2000000 in
theorem allCuts_any (a a' : Option Addr) (n cap cap' : Nat) (g : Nat → Nat) (w : World) (h10 : n ≤ 10) (hg : ∀ k, k < n → g k < 1024) (hr : Row w a n (fun k => (g k : Nat))) (hr' : Row w a' n (fun k => (trn g n k : Nat))) :
    Calls Tryz.prog 35 #[.agg #[.int .i64 (n : Int), .slice a n cap], .agg #[.int .i64 (n : Int), .slice a' n cap']] w fun e w' => (∃ v, e = .returned v ∧ NSl w' v (cuts g n)) ∧ Below w.heap.size w w' := by
  have HG : Hid (∀ k, k < n → g k < 1024) := hg
  obtain ⟨W, HW⟩ : ∃ W, Hid (W = (w.alloc (.cells #[.int .i64 (n : Int), .slice a n cap] 24)).alloc (.cells #[.int .i64 (n : Int), .slice a' n cap'] 24)) := ⟨_, rfl⟩
  have B0 : Below w.heap.size w W := by rw [HW.out]; exact ((Below.refl _ _).alloc (Nat.le_refl _) _).alloc (by simp) _
  have H0 : Held W w.heap.size n a n cap (fun k => (g k : Nat)) := by rw [HW.out]; exact (Held.box hr).step ((Below.refl _ _).alloc (Nat.le_refl _) _)
  have H1 : Held W (w.heap.size + 1) n a' n cap' (fun k => (trn g n k : Nat)) := by
    rw [HW.out]
    have := Held.box (n := (n : Int)) (cap := cap') (Row.below hr' ((Below.refl w.heap.size w).alloc (Nat.le_refl _) (.cells #[.int .i64 (n : Int), .slice a n cap] 24)))
    rw [World.size_alloc] at this; exact this
  have HH0 : Hid (∀ w', Below W.heap.size W w' → Held w' w.heap.size n a n cap (fun k => (g k : Nat))) := fun w' h => H0.step h
  have HH1 : Hid (∀ w', Below W.heap.size W w' → Held w' (w.heap.size + 1) n a' n cap' (fun k => (trn g n k : Nat))) := fun w' h => H1.step h
  have HB0 : Hid (Below w.heap.size w W) := B0
  have hpw := pw_le n h10
  have hsh := wrap_pow n (by omega)
  obtain ⟨i0, hi, hz0, hz1, hz2⟩ := info_parts Tryz.info3
  obtain ⟨I, HI⟩ : ∃ I, Hid (I = isCut g n) := ⟨_, rfl⟩
  have HIA : Hid (∀ s, (cutW g n s == s) = I s) := fun s => by rw [HI.out]; simp only [isCut]; rw [Bool.eq_iff_iff]; simp
  have HCV : Hid (cuts g n = fil I (pw n)) := by rw [HI.out]; rfl
  have k0 := H0.c0
  clear hg hr hr' B0 H0 H1
  go_enter Tryz.func35, Tryz.ntmps35
  go_wp2_with fail
  rw [← HW.out]
  go_wp2_with fail
  clear HW k0
  try rw [hsh]
  clear hsh
  go_loopw [5, 10] (fun v i wx => ∃ s : Nat, s ≤ pw n ∧ i = .int .i64 s ∧ wx.ownsRow W.heap.size 3 1 v (fil I s).length (natVals (fil I s)) ∧ Hid (Below W.heap.size W wx)) (fun _ i _ => pw n - (intOf i).toNat)
  case atStart => exact ⟨0, Nat.zero_le _, rfl, World.ownsRow_nil _ _ _ _, Below.refl _ _⟩
  case round =>
    obtain ⟨s, hs, rfl, hown, hB⟩ := hrel
    have hH0 := HH0.out _ hB.out
    have hH1 := HH1.out _ hB.out
    have c0 := hH0.c0
    have c1 := hH0.c1
    have d0 := hH1.c0
    have d1 := hH1.c1
    by_cases hlt : s < pw n
    · rcases (Bool.eq_false_or_eq_true (I s)).symm with hb | hb
      · have HE : Hid (fil I (s + 1) = fil I s) := fil_no hb
        have HQ : Hid ((((cutW g n s : Nat) : Int) == ((s : Nat) : Int)) = false) := by
          have := HIA.out s; rw [hb] at this
          have h2 : cutW g n s ≠ s := by simpa using this
          exact beq_false_of_ne (by omega)
        go_wp2_with fail
        refine (cut_any a a' n cap cap' g s _ h10 HG.out hH0.row hH1.row (by omega)).mono ?_
        rintro e w1 ⟨rfl, hb1⟩
        have hq := HQ.out
        have HB2 : Hid (Below W.heap.size W w1) := Below.then hB.out hb1
        have hown2 := owns_below hown hb1
        clear hown hb1 hH0 hH1 c0 c1 d0 d1 hB HQ
        go_wp2_with fail
        go_roundw
        case rel => exact ⟨s + 1, by omega, by go_num, by rw [HE.out]; exact hown2, HB2⟩
        case measure => simp [intOf]; omega
      · have HE : Hid (fil I (s + 1) = fil I s ++ [s]) := fil_yes hb
        have HQ : Hid ((((cutW g n s : Nat) : Int) == ((s : Nat) : Int)) = true) := by
          have := HIA.out s; rw [hb] at this
          have h2 : cutW g n s = s := by simpa using this
          rw [h2]; exact beq_self_eq_true _
        have hlen := fil_len I s
        go_wp2_with fail
        refine (cut_any a a' n cap cap' g s _ h10 HG.out hH0.row hH1.row (by omega)).mono ?_
        rintro e w1 ⟨rfl, hb1⟩
        have hq := HQ.out
        have HB2 : Hid (Below W.heap.size W w1) := Below.then hB.out hb1
        have hown2 := owns_below hown hb1
        have hsz : W.heap.size ≤ w1.heap.size := HB2.out.size
        clear hown hb1 hH0 hH1 c0 c1 d0 d1 hB HQ
        obtain ⟨L, HL⟩ : ∃ L, Hid (L = fil I s) := ⟨_, rfl⟩
        rw [← HL.out] at hown2 hlen
        go_wp2_with (at_builtin; refine wpList_append_own _ rfl _ _ 22 rfl W.heap.size 3 i0 (.int .i64 0) 1 8 Tryz.underlying22 hi hz0 hz1 hz2 rfl (by decide) _ _ _ rfl (hown2.alloc _) ⟨w1.heap.size, 0, none⟩ 1 1 [.int .i64 (s : Nat)] rfl rfl ?c1 ?c2 ?c3 ?c4 ?c5 ?_)
        case c1 =>
          intro j u hj
          match j, hj with
          | 0, hj => simp at hj; subst hj; simp [Addr.add]
        case c2 => intro u hu; simp at hu; subst hu; rfl
        case c3 => unfold maxLen; omega
        case c4 => omega
        case c5 => simp; omega
        intro v' w2 hown' hgrow _
        have HB3 : Hid (Below W.heap.size W w2) := below_append3 HB2.out hown2 hgrow
        have HO3 : Hid (w2.ownsRow W.heap.size 3 1 v' (fil I (s + 1)).length (natVals (fil I (s + 1)))) := by
          rw [HE.out, ← HL.out, natVals_append, List.length_append]; exact hown'
        clear hown' hgrow hown2 HB2 hlen hsz HL hq
        go_wp2_with fail
        go_roundw
        case rel => exact ⟨s + 1, by omega, by go_num, HO3.out, HB3⟩
        case measure => simp [intOf]; omega
    · have hsn : s = pw n := by omega
      have HF : Hid (NSl wr u5 (cuts g n)) := by rw [HCV.out, ← hsn]; exact owns_nats hown
      have hle : ((pw n : Nat) : Int) ≤ (s : Int) := by omega
      clear hown hH0 hH1 c0 c1 d0 d1 hsn hlt
      go_wp2_with fail
      go_ret
      exact ⟨⟨_, rfl, HF.out⟩, Below.then HB0.out hB.out⟩
end Go.Proofs.YthhnngmfbbljaaaGreat
