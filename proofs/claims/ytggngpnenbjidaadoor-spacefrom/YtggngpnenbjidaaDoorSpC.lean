/-
  What space.closure, rest, inside and check answer, and Closure and Inside: the document's X2. Conditions: of the first three a good order; the table of the least bits.
-/
import Derived.Deep.RegionHeld3
import Derived.Test.YtggngpnenbjidaaDoorSpM
namespace Go.Proofs.YtggngpnenbjidaaDoor
open Go.RowKit

set_option maxHeartbeats 1000000 in
theorem closure_any (a : Option Addr) (len cap : Nat) (g : Nat → Nat) (s : Nat) (w : World) (h10 : len ≤ 10) (hg : ∀ k, k < len → g k < pw len) (hr : Row w a len (fun k => (g k : Nat))) (hs : s < pw len) (hT : Tab w) :
    Calls Tryd.prog 47 #[.agg #[.int .i64 (len : Int), .slice a len cap], .int .i64 (s : Nat)] w fun e w' => e = .returned (.int .i64 (clo g s : Nat)) ∧ Below w.heap.size w w' := by
  have hpl := pw_le len h10
  have HB0 : Hid (Below w.heap.size w (w.alloc (.cells #[.int .i64 (len : Int), .slice a len cap] 24))) := (Below.refl _ _).alloc (Nat.le_refl _) _
  have K0 : Hid (Held (w.alloc (.cells #[.int .i64 (len : Int), .slice a len cap] 24)) w.heap.size len a len cap (fun k => (g k : Nat))) := Held.box hr
  have HT0 : Hid (Tab (w.alloc (.cells #[.int .i64 (len : Int), .slice a len cap] 24))) := hT.step HB0.out
  have HG : Hid (∀ k, k < len → g k < pw len) := hg
  have HG2 : Hid (∀ k, k < len → g k < 1024) := fun k hk => by have := hg k hk; omega
  have HP : Hid (∀ p, p ∈ pts s 10 → p < len) := fun p hp => bit_of_lt hs ((pts_mem 10).1 hp).2
  have HL : Hid ((pts s 10).length ≤ 10) := pts_len s 10
  have HO : Hid (∀ j, j ≤ (pts s 10).length → orT g (pts s 10) j < pw len) := fun j hj => orT_lt j fun t ht => upto_pw hg (HP.out _ (nth_mem (by omega)))
  have HE : Hid (clo g s = orT g (pts s 10) (pts s 10).length) := rfl
  rw [HE.out]
  clear hr hT hg HE
  generalize hl : pts s 10 = l at *
  go_enter Tryd.func47, Tryd.ntmps47
  go_wp2_with fail
  refine (members_new s _ (by omega) HT0.out).mono ?_
  rintro e w1 ⟨⟨v, rfl, ⟨b, mc, rfl, hrow⟩, _⟩, hb1⟩
  rw [hl] at hrow ⊢
  have HB1 : Hid (Below w.heap.size w w1) := Below.then HB0.out hb1
  have K1 : Hid (Held w1 w.heap.size len a len cap (fun k => (g k : Nat))) := K0.out.step hb1
  have HM : Hid (Row w1 b l.length (fun k => (nth l k : Nat))) := hrow
  clear hb1 hrow HB0 K0 HT0
  have hl10 := HL.out
  go_wp2_with fail
  go_loopw [5, 11] (fun c i wx => ∃ k : Nat, k ≤ l.length ∧ c = .int .i64 (orT g l k : Nat) ∧ i = .int .i64 k ∧ Hid (Held wx w.heap.size len a len cap (fun k => (g k : Nat))) ∧ Hid (Row wx b l.length (fun k => (nth l k : Nat))) ∧ Hid (Below w.heap.size w wx)) (fun _ i _ => l.length - (intOf i).toNat)
  case atStart => exact ⟨0, Nat.zero_le _, rfl, rfl, K1.out, HM.out, HB1.out⟩
  case round =>
    clear K1 HM HB1
    obtain ⟨k, hk, rfl, rfl, K1, HM, HB1⟩ := hrel
    by_cases hlt : k < l.length
    · have k0 := K1.out.c0
      have k1 := K1.out.c1
      obtain ⟨b2, off2, rfl, c2⟩ := HM.out k hlt
      have hp := HP.out _ (nth_mem hlt)
      have hlt' : (k : Int) < (l.length : Int) := by omega
      have h1 := HO.out k hk
      have h2 : upto g (nth l k) < pw len := upto_pw HG.out hp
      have hor := i64_or (orT g l k) (upto g (nth l k)) (by omega) (by omega)
      have HN : Hid (orT g l (k + 1) = orT g l k ||| upto g (nth l k)) := rfl
      go_wp2_with fail
      refine (upTo_any len a len cap g (nth l k) _ h10 HG2.out K1.out.row hp).mono ?_
      rintro e w2 ⟨rfl, hb2⟩
      have HB2 : Hid (Below w.heap.size w w2) := Below.then HB1.out hb2
      have K2 : Hid (Held w2 w.heap.size len a len cap (fun k => (g k : Nat))) := K1.out.step hb2
      have HM2 := (show Hid (Row w2 _ l.length (fun k => (nth l k : Nat))) from HM.out.below hb2)
      clear hb2 HB1 K1 HM c2 k0 k1
      go_wp2_with fail
      go_roundw
      case rel => exact ⟨k + 1, by omega, by rw [HN.out, ← hor], by go_num, K2, HM2, HB2⟩
      case measure => simp [intOf]; omega
    · obtain rfl : k = l.length := by omega
      go_wp2_with fail
      go_ret
      exact ⟨rfl, HB1.out⟩
theorem rest_any (a : Option Addr) (len cap : Nat) (g : Nat → Nat) (s : Nat) (w : World) (h10 : len ≤ 10) (hs : s < pw len) (_ : Row w a len (fun k => (g k : Nat))) :
    Calls Tryd.prog 52 #[.agg #[.int .i64 (len : Int), .slice a len cap], .int .i64 (s : Nat)] w fun e w' => e = .returned (.int .i64 (rst len s : Nat)) ∧ Below w.heap.size w w' := by
  have hpl := pw_le len h10
  have hpp := pw_pos len
  have HB0 : Hid (Below w.heap.size w (w.alloc (.cells #[.int .i64 (len : Int), .slice a len cap] 24))) := (Below.refl _ _).alloc (Nat.le_refl _) _
  have h := i64_andNot (pw len - 1) s (by omega) (by omega)
  have e1 : ((pw len - 1 : Nat) : Int) = ((pw len : Nat) : Int) - 1 := by omega
  rw [e1] at h
  have HE : Hid (((lack (pw len - 1) s : Nat) : Int) = ((rst len s : Nat) : Int)) := rfl
  go_enter Tryd.func52, Tryd.ntmps52
  go_wp2_with (go_at_call 54; refine (all_any len _ h10).mono ?_; rintro e w' ⟨rfl, rfl⟩)
  go_ret
  exact ⟨by rw [← HE.out, ← h]; rfl, HB0.out⟩

set_option maxHeartbeats 2000000 in
theorem inside_good (a : Option Addr) (len cap : Nat) (g : Nat → Nat) (s : Nat) (w : World) (h10 : len ≤ 10) (hg : ∀ k, k < len → g k < pw len) (hr : Row w a len (fun k => (g k : Nat))) (hs : s < pw len) (hT : Tab w) :
    Calls Tryd.prog 48 #[.agg #[.int .i64 (len : Int), .slice a len cap], .int .i64 (s : Nat)] w fun e w' => e = .returned (.int .i64 (rst len (clo g (rst len s)) : Nat)) ∧ Below w.heap.size w w' := by
  have HB0 : Hid (Below w.heap.size w (w.alloc (.cells #[.int .i64 (len : Int), .slice a len cap] 24))) := (Below.refl _ _).alloc (Nat.le_refl _) _
  have K0 : Held (w.alloc (.cells #[.int .i64 (len : Int), .slice a len cap] 24)) w.heap.size len a len cap (fun k => (g k : Nat)) := Held.box hr
  have HT0 : Tab (w.alloc (.cells #[.int .i64 (len : Int), .slice a len cap] 24)) := hT.step HB0.out
  have HG : Hid (∀ k, k < len → g k < pw len) := hg
  have HCL : Hid (clo g (rst len s) < pw len) := clo_lt hg rst_lt
  clear hr hT hg
  go_enter Tryd.func48, Tryd.ntmps48
  generalize hC : Code.region 1 _ true = C
  go_wp2_with fail
  generalize w.alloc (.cells #[.int .i64 (len : Int), .slice a len cap] 24) = W at *
  generalize hB : w.heap.size = B at *
  have HR : Hid (∀ w', Below W.heap.size W w' → Row w' a len (fun k => ((g k : Nat) : Int))) := fun w' h => (K0.step h).row
  have HT : Hid (∀ w', Below W.heap.size W w' → Tab w') := fun w' h => HT0.step h
  have l0 : ∀ w', Below W.heap.size W w' → w'.cell? ⟨B, 0, none⟩ = some (.int .i64 (len : Int)) := fun w' h => (K0.step h).c0
  have l1 : ∀ w', Below W.heap.size W w' → w'.cell? ⟨B, 1, none⟩ = some (.slice a len cap) := fun w' h => (K0.step h).c1
  have KK : Below W.heap.size W W.drew := (Below.refl _ _).drew
  clear K0 HT0
  rw [← hC]
  clear hC C
  go_wp2_with fail
  refine wp_region_held_drew (S := (fun w' => Below W.heap.size W w')) (by kernel_rfl) (KK) (fun hHeld => ?_)
  refine wpAnyH_take (i := 0) (oi := { dst := some 5, op := Go.Op.load 24 (Go.Operand.tmp 2), type := 24, pos := "space.go:138", after := #[], guard := none }) (v := ?_) rfl (by kernel_rfl) (by kernel_rfl) (by kernel_rfl) (fun _ _ _ h => h) (Or.inl ⟨by rfl, ?hy⟩) (by assumption) ?_
  case hy => (intro w9 hSw; (try dsimp only at hSw); go_simp; try with_reducible rfl)
  try simp only [Act.put, List.setIfInBounds_toArray, List.set_cons_zero, List.set_cons_succ]
  refine wpAnyH_take (i := 1) (oi := { dst := some 6, op := Go.Op.load 24 (Go.Operand.tmp 2), type := 24, pos := "space.go:138", after := #[], guard := none }) (v := ?_) rfl (by kernel_rfl) (by kernel_rfl) (by kernel_rfl) (fun _ _ _ h => h) (Or.inl ⟨by rfl, ?hy⟩) (by assumption) ?_
  case hy => (intro w9 hSw; (try dsimp only at hSw); go_simp; try with_reducible rfl)
  try simp only [Act.put, List.setIfInBounds_toArray, List.set_cons_zero, List.set_cons_succ]
  refine wpAnyH_take (i := 2) (oi := { dst := some 7, op := Go.Op.load 24 (Go.Operand.tmp 2), type := 24, pos := "space.go:138", after := #[], guard := none }) (v := ?_) rfl (by kernel_rfl) (by kernel_rfl) (by kernel_rfl) (fun _ _ _ h => h) (Or.inl ⟨by rfl, ?hy⟩) (by assumption) ?_
  case hy => (intro w9 hSw; (try dsimp only at hSw); go_simp; try with_reducible rfl)
  try simp only [Act.put, List.setIfInBounds_toArray, List.set_cons_zero, List.set_cons_succ]
  refine wpAnyH_take (i := 3) (oi := { dst := some 8, op := Go.Op.move (Go.Operand.tmp 1), type := 3, pos := "space.go:138", after := #[], guard := none }) (v := ?_) rfl (by kernel_rfl) (by kernel_rfl) (by kernel_rfl) (fun _ _ _ h => h) (Or.inl ⟨by rfl, ?hy⟩) (by assumption) ?_
  case hy => (intro w9 hSw; (try dsimp only at hSw); go_simp; try with_reducible rfl)
  try simp only [Act.put, List.setIfInBounds_toArray, List.set_cons_zero, List.set_cons_succ]
  refine wpAnyH_ready (rs := [4]) (by kernel_rfl) (by simp) ?_
  refine AllReadyH.cons (o := { dst := some 9, op := Go.Op.call { callee := Go.Callee.value (Go.Operand.func 52), args := #[Go.Operand.tmp 7, Go.Operand.tmp 8], argTypes := #[24, 3] }, type := 3, pos := "space.go:138", after := #[{ on := 2, ground := Go.Ground.data }, { on := 3, ground := Go.Ground.data }], guard := none }) rfl (fun K hK => ?_) AllReadyH.nil
  go_simp
  refine (rest_any a len cap g s _ h10 hs (HR.out _ (by assumption))).mono ?_
  rintro e w1 ⟨rfl, hb1⟩
  refine hK.out _ _ ?_ (fun hHeld => ?_)
  · first | assumption | exact Below.then (by assumption) (by assumption)
  clear hK K
  try simp only [Act.put, List.setIfInBounds_toArray, List.set_cons_zero, List.set_cons_succ]
  refine wpAnyH_ready (rs := [5]) (by kernel_rfl) (by simp) ?_
  refine AllReadyH.cons (o := { dst := some 10, op := Go.Op.call { callee := Go.Callee.value (Go.Operand.func 47), args := #[Go.Operand.tmp 6, Go.Operand.tmp 9], argTypes := #[24, 3] }, type := 3, pos := "space.go:138", after := #[{ on := 1, ground := Go.Ground.data }, { on := 4, ground := Go.Ground.data }, { on := 4, ground := Go.Ground.chain }], guard := none }) rfl (fun K hK => ?_) AllReadyH.nil
  go_simp
  refine (closure_any a len cap g (rst len s) _ h10 HG.out (HR.out _ (by assumption)) rst_lt (HT.out _ (by assumption))).mono ?_
  rintro e w2 ⟨rfl, hb2⟩
  refine hK.out _ _ ?_ (fun hHeld => ?_)
  · first | assumption | exact Below.then (by assumption) (by assumption)
  clear hK K
  try simp only [Act.put, List.setIfInBounds_toArray, List.set_cons_zero, List.set_cons_succ]
  refine wpAnyH_ready (rs := [6]) (by kernel_rfl) (by simp) ?_
  refine AllReadyH.cons (o := { dst := some 11, op := Go.Op.call { callee := Go.Callee.value (Go.Operand.func 52), args := #[Go.Operand.tmp 5, Go.Operand.tmp 10], argTypes := #[24, 3] }, type := 3, pos := "space.go:138", after := #[{ on := 0, ground := Go.Ground.data }, { on := 5, ground := Go.Ground.data }, { on := 5, ground := Go.Ground.chain }], guard := none }) rfl (fun K hK => ?_) AllReadyH.nil
  go_simp
  refine (rest_any a len cap g (clo g (rst len s)) _ h10 HCL.out (HR.out _ (by assumption))).mono ?_
  rintro e w3 ⟨rfl, hb3⟩
  refine hK.out _ _ ?_ (fun hHeld => ?_)
  · first | assumption | exact Below.then (by assumption) (by assumption)
  clear hK K
  try simp only [Act.put, List.setIfInBounds_toArray, List.set_cons_zero, List.set_cons_succ]
  refine wpAnyH_take (i := 7) (oi := { dst := some 4, op := Go.Op.assign (Go.Operand.tmp 11), type := 3, pos := "space.go:138", after := #[{ on := 6, ground := Go.Ground.data }, { on := 6, ground := Go.Ground.chain }, { on := 0, ground := Go.Ground.phase }, { on := 1, ground := Go.Ground.phase }, { on := 2, ground := Go.Ground.phase }, { on := 3, ground := Go.Ground.phase }, { on := 4, ground := Go.Ground.phase }, { on := 5, ground := Go.Ground.phase }, { on := 6, ground := Go.Ground.phase }], guard := none }) (v := ?_) rfl (by kernel_rfl) (by kernel_rfl) (by kernel_rfl) (fun _ _ _ h => h) (Or.inl ⟨by rfl, ?hy⟩) (by assumption) ?_
  case hy => (intro w9 hSw; (try dsimp only at hSw); go_simp; try with_reducible rfl)
  try simp only [Act.put, List.setIfInBounds_toArray, List.set_cons_zero, List.set_cons_succ]
  refine wpAnyH_done (by kernel_rfl) ?_ _
  try simp only [Act.put, List.setIfInBounds_toArray, List.set_cons_zero, List.set_cons_succ]
  go_wp2_with fail
  go_ret
  exact ⟨rfl, Below.then (by rw [hB]; exact HB0.out) hHeld⟩
/-- What check of an order and a set must answer. -/
def SCk (n : Int) (len : Nat) (f : Nat → Int) (s c : Int) : Prop :=
  (c ≠ 0 ∧ Chk n len f c) ∨ (Chk n len f 0 ∧ ((c = 3 ∧ ¬ (0 ≤ s ∧ s < (pw len : Nat))) ∨ (c = 0 ∧ 0 ≤ s ∧ s < (pw len : Nat))))
theorem SCk.unique {n : Int} {len : Nat} {f : Nat → Int} {s c c' : Int} (h : SCk n len f s c) (h' : SCk n len f s c') : c = c' := by
  rcases h with ⟨h0, h⟩ | ⟨h0, h⟩ <;> rcases h' with ⟨h0', h'⟩ | ⟨h0', h'⟩
  · exact h.unique h'
  · exact absurd (h.unique h0') h0
  · exact absurd (h'.unique h0) h0'
  · rcases h with ⟨rfl, h⟩ | ⟨rfl, h⟩ <;> rcases h' with ⟨rfl, h'⟩ | ⟨rfl, h'⟩ <;> first | rfl | (exact absurd h h') | (exact absurd h' h)
theorem SCk.good {n : Int} {len : Nat} {f : Nat → Int} {s : Int} (h : SCk n len f s 0) : Chk n len f 0 ∧ ∃ x : Nat, s = x ∧ x < pw len := by
  rcases h with ⟨h0, _⟩ | ⟨h0, ⟨h, _⟩ | ⟨_, h1, h2⟩⟩
  · exact absurd rfl h0
  · cases h
  · exact ⟨h0, s.toNat, by omega, by omega⟩

set_option maxHeartbeats 1000000 in
theorem sCheck_any (n : Int) (a : Option Addr) (len cap : Nat) (f : Nat → Int) (s : Int) (w : World) (hl : len ≤ maxLen) (hr : Row w a len f) :
    Calls Tryd.prog 46 #[.agg #[.int .i64 n, .slice a len cap], .int .i64 s] w fun e w' => (∃ c : Int, e = .returned (.int .i64 c) ∧ SCk n len f s c) ∧ Below w.heap.size w w' := by
  have HB0 : Hid (Below w.heap.size w (w.alloc (.cells #[.int .i64 n, .slice a len cap] 24))) := (Below.refl _ _).alloc (Nat.le_refl _) _
  have K0 : Hid (Held (w.alloc (.cells #[.int .i64 n, .slice a len cap] 24)) w.heap.size n a len cap f) := Held.box hr
  clear hr
  have k0 := K0.out.c0
  have k1 := K0.out.c1
  go_enter Tryd.func46, Tryd.ntmps46
  go_wp2_with fail
  refine (check_any n a len cap f _ hl K0.out.row).mono ?_
  rintro e w1 ⟨⟨c, rfl, hc⟩, hb1⟩
  have HB1 : Hid (Below w.heap.size w w1) := Below.then HB0.out hb1
  have K1 : Hid (Held w1 w.heap.size n a len cap f) := K0.out.step hb1
  have HC : Hid (Chk n len f c) := hc
  clear hb1 HB0 K0 k0 k1
  have k0 := K1.out.c0
  have k1 := K1.out.c1
  by_cases h0 : c = 0
  · subst h0
    obtain ⟨rfl, h10, _, _⟩ := hc.good
    clear hc
    rcases (Bool.eq_false_or_eq_true (sts s len)).symm with hs | hs
    · have HN : Hid (SCk (len : Int) len f s 3) := .inr ⟨HC.out, .inl ⟨rfl, by simpa [sts] using hs⟩⟩
      go_wp2_with fail
      refine (isSet_any s len _ h10).mono ?_
      rintro e w2 ⟨rfl, rfl⟩
      rw [hs]
      go_wp2_with fail
      go_ret
      exact ⟨⟨_, rfl, HN.out⟩, HB1.out⟩
    · have HN : Hid (SCk (len : Int) len f s 0) := .inr ⟨HC.out, .inr ⟨rfl, by simpa [sts] using hs⟩⟩
      go_wp2_with fail
      refine (isSet_any s len _ h10).mono ?_
      rintro e w2 ⟨rfl, rfl⟩
      rw [hs]
      go_wp2_with fail
      go_ret
      exact ⟨⟨_, rfl, HN.out⟩, HB1.out⟩
  · have hne : (c != 0) = true := by simpa using h0
    have HN : Hid (SCk n len f s c) := .inl ⟨h0, hc⟩
    clear hc h0
    go_wp2_with fail
    go_ret
    exact ⟨⟨_, rfl, HN.out⟩, HB1.out⟩
/-- What a call answers that checks an order and a set, and answers v of them if they are good. -/
def NumPost (n : Int) (len : Nat) (f : Nat → Int) (s : Int) (v : Nat → Nat) (e : Ending) : Prop :=
  ∃ c x : Int, e = .returned (.tuple #[.int .i64 x, .int .i64 c]) ∧ SCk n len f s c ∧ ((c ≠ 0 ∧ x = 0) ∨ (c = 0 ∧ x = ((v s.toNat : Nat) : Int)))

set_option maxHeartbeats 1000000 in
theorem closure_call (n : Int) (a : Option Addr) (len cap : Nat) (f : Nat → Int) (s : Int) (w : World) (hl : len ≤ maxLen) (hr : Row w a len f) (hT : Tab w) :
    Calls Tryd.prog 18 #[.agg #[.int .i64 n, .slice a len cap], .int .i64 s] w fun e w' => NumPost n len f s (fun x => clo (nat f) x) e ∧ Below w.heap.size w w' := by
  have HB0 : Hid (Below w.heap.size w (w.alloc (.cells #[.int .i64 n, .slice a len cap] 24))) := (Below.refl _ _).alloc (Nat.le_refl _) _
  have K0 : Hid (Held (w.alloc (.cells #[.int .i64 n, .slice a len cap] 24)) w.heap.size n a len cap f) := Held.box hr
  have HT0 : Hid (Tab (w.alloc (.cells #[.int .i64 n, .slice a len cap] 24))) := hT.step HB0.out
  clear hr hT
  have k0 := K0.out.c0
  have k1 := K0.out.c1
  go_enter Tryd.func18, Tryd.ntmps18
  go_wp2_with fail
  refine (sCheck_any n a len cap f s _ hl K0.out.row).mono ?_
  rintro e w1 ⟨⟨c, rfl, hc⟩, hb1⟩
  have HB1 : Hid (Below w.heap.size w w1) := Below.then HB0.out hb1
  have K1 : Hid (Held w1 w.heap.size n a len cap f) := K0.out.step hb1
  have HT1 : Hid (Tab w1) := HT0.out.step hb1
  have HC : Hid (SCk n len f s c) := hc
  clear hb1 HB0 K0 k0 k1 HT0
  have k0 := K1.out.c0
  have k1 := K1.out.c1
  by_cases h0 : c = 0
  · subst h0
    obtain ⟨hck, x, rfl, hx⟩ := hc.good
    obtain ⟨rfl, h10, hrng, hord⟩ := hck.good
    have HR : Hid (Row w1 a len (fun k => ((nat f k : Nat) : Int))) := hrng.row K1.out.row
    have HS : Hid (∀ k, k < len → nat f k < pw len) := hrng.small
    clear hc hck hrng hord
    go_wp2_with fail
    refine (closure_any a len cap (nat f) x _ h10 HS.out HR.out hx HT1.out).mono ?_
    rintro e w2 ⟨rfl, hb2⟩
    have HB2 : Hid (Below w.heap.size w w2) := Below.then HB1.out hb2
    clear hb2 HB1
    go_wp2_with fail
    go_ret2
    exact ⟨⟨_, _, rfl, HC.out, .inr ⟨rfl, rfl⟩⟩, HB2.out⟩
  · have hne : (c != 0) = true := by simpa using h0
    have H0 : Hid (c ≠ 0) := h0
    clear hc h0
    go_wp2_with fail
    go_ret2
    exact ⟨⟨_, _, rfl, HC.out, .inl ⟨H0.out, rfl⟩⟩, HB1.out⟩

set_option maxHeartbeats 1000000 in
theorem inside_call (n : Int) (a : Option Addr) (len cap : Nat) (f : Nat → Int) (s : Int) (w : World) (hl : len ≤ maxLen) (hr : Row w a len f) (hT : Tab w) :
    Calls Tryd.prog 19 #[.agg #[.int .i64 n, .slice a len cap], .int .i64 s] w fun e w' => NumPost n len f s (fun x => rst len (clo (nat f) (rst len x))) e ∧ Below w.heap.size w w' := by
  have HB0 : Hid (Below w.heap.size w (w.alloc (.cells #[.int .i64 n, .slice a len cap] 24))) := (Below.refl _ _).alloc (Nat.le_refl _) _
  have K0 : Hid (Held (w.alloc (.cells #[.int .i64 n, .slice a len cap] 24)) w.heap.size n a len cap f) := Held.box hr
  have HT0 : Hid (Tab (w.alloc (.cells #[.int .i64 n, .slice a len cap] 24))) := hT.step HB0.out
  clear hr hT
  have k0 := K0.out.c0
  have k1 := K0.out.c1
  go_enter Tryd.func19, Tryd.ntmps19
  go_wp2_with fail
  refine (sCheck_any n a len cap f s _ hl K0.out.row).mono ?_
  rintro e w1 ⟨⟨c, rfl, hc⟩, hb1⟩
  have HB1 : Hid (Below w.heap.size w w1) := Below.then HB0.out hb1
  have K1 : Hid (Held w1 w.heap.size n a len cap f) := K0.out.step hb1
  have HT1 : Hid (Tab w1) := HT0.out.step hb1
  have HC : Hid (SCk n len f s c) := hc
  clear hb1 HB0 K0 k0 k1 HT0
  have k0 := K1.out.c0
  have k1 := K1.out.c1
  by_cases h0 : c = 0
  · subst h0
    obtain ⟨hck, x, rfl, hx⟩ := hc.good
    obtain ⟨rfl, h10, hrng, hord⟩ := hck.good
    have HR : Hid (Row w1 a len (fun k => ((nat f k : Nat) : Int))) := hrng.row K1.out.row
    have HS : Hid (∀ k, k < len → nat f k < pw len) := hrng.small
    clear hc hck hrng hord
    go_wp2_with fail
    refine (inside_good a len cap (nat f) x _ h10 HS.out HR.out hx HT1.out).mono ?_
    rintro e w2 ⟨rfl, hb2⟩
    have HB2 : Hid (Below w.heap.size w w2) := Below.then HB1.out hb2
    clear hb2 HB1
    go_wp2_with fail
    go_ret2
    exact ⟨⟨_, _, rfl, HC.out, .inr ⟨rfl, rfl⟩⟩, HB2.out⟩
  · have hne : (c != 0) = true := by simpa using h0
    have H0 : Hid (c ≠ 0) := h0
    clear hc h0
    go_wp2_with fail
    go_ret2
    exact ⟨⟨_, _, rfl, HC.out, .inl ⟨H0.out, rfl⟩⟩, HB1.out⟩
end Go.Proofs.YtggngpnenbjidaaDoor
