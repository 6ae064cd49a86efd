/-
  What concept.checkSet, Marks, Things, Concepts and Next answer, whatever they are handed. No condition but that a slice reads as a slice of numbers.
-/
import Derived.Test.YtpmgengddnafeabConC
import Derived.Test.YtpmgengddnafeabPairs
namespace Go.Proofs.Ytpmgengddnafeab
open Go.RowKit

/-- What checkSet must answer of a context and a set of N. -/
def SChk (L R N : Int) (len : Nat) (f : Nat → Int) (S : Int) (c : Int) : Prop :=
  (c ≠ 0 ∧ GChk L R len f c) ∨ (GChk L R len f 0 ∧ ∃ k : Nat, N = k ∧ k ≤ 10 ∧ ((c = 3 ∧ ¬ (0 ≤ S ∧ S < (pw k : Nat))) ∨ (c = 0 ∧ 0 ≤ S ∧ S < (pw k : Nat))))
theorem SChk.unique {L R N : Int} {len : Nat} {f : Nat → Int} {S c c' : Int} (h : SChk L R N len f S c) (h' : SChk L R N len f S c') : c = c' := by
  rcases h with ⟨h0, h⟩ | ⟨h, k, rfl, hk, h2⟩
  · rcases h' with ⟨_, h'⟩ | ⟨h', _⟩
    · exact GChk.unique h h'
    · exact absurd (GChk.unique h h') h0
  · rcases h' with ⟨h0, h'⟩ | ⟨_, k', e, _, h2'⟩
    · exact absurd (GChk.unique h' h) h0
    · obtain rfl : k' = k := by omega
      rcases h2 with ⟨rfl, h2⟩ | ⟨rfl, h2⟩ <;> rcases h2' with ⟨rfl, h2'⟩ | ⟨rfl, h2'⟩ <;> first | rfl | (exact absurd h2 h2') | (exact absurd h2' h2)
theorem GRng.row {l r : Nat} {f : Nat → Int} {w : World} {a : Option Addr} (hr : GRng l r f) (h : Row w a l f) : Row w a l (fun k => (nat f k : Nat)) := fun k hk => by
  obtain ⟨b, off, e, hc⟩ := h k hk
  refine ⟨b, off, e, ?_⟩
  have := hr k hk
  rw [hc]
  show some (Value.int .i64 (f k)) = some (Value.int .i64 ((f k).toNat : Int))
  congr 2; omega
theorem GRng.small {l r : Nat} {f : Nat → Int} (hr : GRng l r f) : ∀ k, k < l → nat f k < pw r := fun k hk => by have := hr k hk; unfold nat; omega
theorem GRng.small2 {l r : Nat} {f : Nat → Int} (hr : GRng l r f) (h : r ≤ 10) : ∀ k, k < l → nat f k < 1024 := fun k hk => Nat.lt_of_lt_of_le (hr.small k hk) (pw_le r h)

theorem checkSet_any (L R N : Int) (a : Option Addr) (len cap : Nat) (f : Nat → Int) (S : Int) (w : World) (hl : len ≤ maxLen) (hr : Row w a len f) (hN : GChk L R len f 0 → ∃ k : Nat, N = k ∧ k ≤ 10) :
    Calls Try.prog 23 #[.agg #[.int .i64 L, .int .i64 R, .slice a len cap], .int .i64 S, .int .i64 N] w fun e w' => (∃ c : Int, e = .returned (.int .i64 c) ∧ SChk L R N len f S c) ∧ Below w.heap.size w w' := by
  have K0 : GHeld (w.alloc (.cells #[.int .i64 L, .int .i64 R, .slice a len cap] 24)) w.heap.size L R a len cap f := GHeld.box hr
  have HB0 : Hid (Below w.heap.size w (w.alloc (.cells #[.int .i64 L, .int .i64 R, .slice a len cap] 24))) := (Below.refl _ _).alloc (Nat.le_refl _) _
  have HN : Hid (GChk L R len f 0 → ∃ k : Nat, N = k ∧ k ≤ 10) := hN
  clear hr hN
  go_enter Try.func23, Try.ntmps23
  go_wp2_with fail
  refine (ccheck_any L R a len cap f _ hl K0.row).mono ?_
  rintro e w1 ⟨⟨c, rfl, hc⟩, hb⟩
  have HB1 : Hid (Below w.heap.size w w1) := Below.then HB0.out hb
  clear hb K0 HB0
  by_cases h0 : c = 0
  · subst h0
    obtain ⟨k, rfl, hk⟩ := HN.out hc
    have HC : Hid (GChk L R len f 0) := hc
    clear hc HN
    by_cases hs : 0 ≤ S ∧ S < (pw k : Nat)
    · have hsd : sts S k = true := by simpa [sts] using hs
      have HS : Hid (0 ≤ S ∧ S < (pw k : Nat)) := hs; clear hs
      go_wp2_with (go_at_call 39; refine (isSet_any _ _ _ hk).mono ?_; rintro e w' ⟨rfl, rfl⟩)
      go_ret
      exact ⟨⟨_, rfl, .inr ⟨HC.out, k, rfl, hk, .inr ⟨rfl, HS.out⟩⟩⟩, HB1.out⟩
    · have hsd : sts S k = false := by simpa [sts] using hs
      have HS : Hid (¬ (0 ≤ S ∧ S < (pw k : Nat))) := hs; clear hs
      go_wp2_with (go_at_call 39; refine (isSet_any _ _ _ hk).mono ?_; rintro e w' ⟨rfl, rfl⟩)
      go_ret
      exact ⟨⟨_, rfl, .inr ⟨HC.out, k, rfl, hk, .inl ⟨rfl, HS.out⟩⟩⟩, HB1.out⟩
  · have hne : (c != 0) = true := by simpa using h0
    have HC : Hid (GChk L R len f c) := hc
    clear hc HN
    go_wp2_with fail
    go_ret
    exact ⟨⟨_, rfl, .inl ⟨h0, HC.out⟩⟩, HB1.out⟩

theorem good_L {L R : Int} {len : Nat} {f : Nat → Int} (h : GChk L R len f 0) : ∃ k : Nat, L = k ∧ k ≤ 10 := by
  obtain ⟨r, e, _, h1, _⟩ := h.good
  exact ⟨len, e, h1⟩
theorem good_R {L R : Int} {len : Nat} {f : Nat → Int} (h : GChk L R len f 0) : ∃ k : Nat, R = k ∧ k ≤ 10 := by
  obtain ⟨r, _, e, _, h1, _⟩ := h.good
  exact ⟨r, e, h1⟩
/-- A number beside an errno: what F says of a good context and set. -/
def NumIs (L R N : Int) (len : Nat) (f : Nat → Int) (S : Int) (F : Nat → Nat → Nat → Nat → Prop) (e : Ending) : Prop :=
  (∃ c : Int, c ≠ 0 ∧ SChk L R N len f S c ∧ e = .returned (.tuple #[.int .i64 0, .int .i64 c])) ∨
  (∃ r s x : Nat, L = (len : Int) ∧ R = (r : Int) ∧ len ≤ 10 ∧ r ≤ 10 ∧ GRng len r f ∧ S = (s : Int) ∧ s < 1024 ∧ SChk L R N len f S 0 ∧ F len r s x ∧ e = .returned (.tuple #[.int .i64 (x : Nat), .int .i64 0]))

set_option maxHeartbeats 1000000 in
theorem marks_any (L R : Int) (a : Option Addr) (len cap : Nat) (f : Nat → Int) (S : Int) (w : World) (hl : len ≤ maxLen) (hr : Row w a len f) :
    Calls Try.prog 9 #[.agg #[.int .i64 L, .int .i64 R, .slice a len cap], .int .i64 S] w fun e w' => NumIs L R L len f S (fun n r s x => s < pw n ∧ x = mks (nat f) n r s) e ∧ Below w.heap.size w w' := by
  have K0 : GHeld (w.alloc (.cells #[.int .i64 L, .int .i64 R, .slice a len cap] 24)) w.heap.size L R a len cap f := GHeld.box hr
  have HB0 : Hid (Below w.heap.size w (w.alloc (.cells #[.int .i64 L, .int .i64 R, .slice a len cap] 24))) := (Below.refl _ _).alloc (Nat.le_refl _) _
  clear hr
  go_enter Try.func9, Try.ntmps9
  go_wp2_with fail
  refine (checkSet_any L R L a len cap f S _ hl K0.row good_L).mono ?_
  rintro e w1 ⟨⟨c, rfl, hc⟩, hb⟩
  have K1 := K0.step hb
  have HB1 : Hid (Below w.heap.size w w1) := Below.then HB0.out hb
  clear hb K0 HB0
  by_cases h0 : c = 0
  · subst h0
    have HC : Hid (SChk L R L len f S 0) := hc
    rcases hc with ⟨h, _⟩ | ⟨hg, k, e1, hk, ⟨h, _⟩ | ⟨_, hs0, hs1⟩⟩
    · exact absurd rfl h
    · cases h
    obtain ⟨r, rfl, rfl, h10, r10, hrng⟩ := hg.good
    obtain rfl : len = k := by omega
    obtain ⟨s, rfl⟩ := Int.eq_ofNat_of_zero_le hs0
    have hs : s < 1024 := by have := pw_le len h10; omega
    have hsp : s < pw len := by omega
    have HRG : Hid (GRng len r f) := hrng
    have HCALL : Hid (Calls Try.prog 22 #[.agg #[.int .i64 (len : Int), .int .i64 (r : Int), .slice a len cap], .int .i64 (s : Nat)] w1 _) := marksOf_any a len r cap (nat f) s w1 h10 r10 (hrng.small2 r10) (hrng.row K1.row) hs
    have k0 := K1.c0
    have k1 := K1.c1
    have k2 := K1.c2
    clear hrng hg K1 hs0 hs1 e1
    go_wp2_with fail
    refine HCALL.out.mono ?_
    rintro e w2 ⟨rfl, hb2⟩
    have HB2 : Hid (Below w.heap.size w w2) := Below.then HB1.out hb2
    clear hb2 HCALL k0 k1 k2
    go_wp2_with fail
    go_ret2
    exact ⟨.inr ⟨r, s, _, rfl, rfl, h10, r10, HRG.out, rfl, hs, HC.out, ⟨hsp, rfl⟩, rfl⟩, HB2.out⟩
  · have hne : (c != 0) = true := by simpa using h0
    have HC : Hid (SChk L R L len f S c) := hc
    clear hc K1
    go_wp2_with fail
    go_ret2
    exact ⟨.inl ⟨c, h0, HC.out, rfl⟩, HB1.out⟩
set_option maxHeartbeats 1000000 in
theorem things_any (L R : Int) (a : Option Addr) (len cap : Nat) (f : Nat → Int) (S : Int) (w : World) (hl : len ≤ maxLen) (hr : Row w a len f) :
    Calls Try.prog 8 #[.agg #[.int .i64 L, .int .i64 R, .slice a len cap], .int .i64 S] w fun e w' => NumIs L R R len f S (fun n r s x => s < pw r ∧ x = ths (nat f) n s) e ∧ Below w.heap.size w w' := by
  have K0 : GHeld (w.alloc (.cells #[.int .i64 L, .int .i64 R, .slice a len cap] 24)) w.heap.size L R a len cap f := GHeld.box hr
  have HB0 : Hid (Below w.heap.size w (w.alloc (.cells #[.int .i64 L, .int .i64 R, .slice a len cap] 24))) := (Below.refl _ _).alloc (Nat.le_refl _) _
  clear hr
  go_enter Try.func8, Try.ntmps8
  go_wp2_with fail
  refine (checkSet_any L R R a len cap f S _ hl K0.row good_R).mono ?_
  rintro e w1 ⟨⟨c, rfl, hc⟩, hb⟩
  have K1 := K0.step hb
  have HB1 : Hid (Below w.heap.size w w1) := Below.then HB0.out hb
  clear hb K0 HB0
  by_cases h0 : c = 0
  · subst h0
    have HC : Hid (SChk L R R len f S 0) := hc
    rcases hc with ⟨h, _⟩ | ⟨hg, k, e1, hk, ⟨h, _⟩ | ⟨_, hs0, hs1⟩⟩
    · exact absurd rfl h
    · cases h
    obtain ⟨r, rfl, rfl, h10, r10, hrng⟩ := hg.good
    obtain rfl : r = k := by omega
    obtain ⟨s, rfl⟩ := Int.eq_ofNat_of_zero_le hs0
    have hs : s < 1024 := by have := pw_le r r10; omega
    have hsp : s < pw r := by omega
    have HRG : Hid (GRng len r f) := hrng
    have HCALL : Hid (Calls Try.prog 24 #[.agg #[.int .i64 (len : Int), .int .i64 (r : Int), .slice a len cap], .int .i64 (s : Nat)] w1 _) := thingsWith_any a len r cap (nat f) s w1 h10 (hrng.small2 r10) (hrng.row K1.row) hs
    have k0 := K1.c0
    have k1 := K1.c1
    have k2 := K1.c2
    clear hrng hg K1 hs0 hs1 e1
    go_wp2_with fail
    refine HCALL.out.mono ?_
    rintro e w2 ⟨rfl, hb2⟩
    have HB2 : Hid (Below w.heap.size w w2) := Below.then HB1.out hb2
    clear hb2 HCALL k0 k1 k2
    go_wp2_with fail
    go_ret2
    exact ⟨.inr ⟨r, s, _, rfl, rfl, h10, r10, HRG.out, rfl, hs, HC.out, ⟨hsp, rfl⟩, rfl⟩, HB2.out⟩
  · have hne : (c != 0) = true := by simpa using h0
    have HC : Hid (SChk L R R len f S c) := hc
    clear hc K1
    go_wp2_with fail
    go_ret2
    exact ⟨.inl ⟨c, h0, HC.out, rfl⟩, HB1.out⟩

/-- What Next must answer. -/
def NextIs (L R : Int) (len : Nat) (f : Nat → Int) (S : Int) (e : Ending) : Prop :=
  (∃ c : Int, c ≠ 0 ∧ SChk L R R len f S c ∧ e = .returned (.tuple #[.int .i64 0, .int .i64 c])) ∨
  (∃ r s : Nat, L = (len : Int) ∧ R = (r : Int) ∧ len ≤ 10 ∧ r ≤ 10 ∧ GRng len r f ∧ S = (s : Int) ∧ s < pw r ∧ SChk L R R len f S 0 ∧
    ((nxt (clm (nat f) len r) s r = none ∧ e = .returned (.tuple #[.int .i64 0, .int .i64 5])) ∨ ∃ x, nxt (clm (nat f) len r) s r = some x ∧ e = .returned (.tuple #[.int .i64 (x : Nat), .int .i64 0])))
set_option maxHeartbeats 4000000 in
theorem next_any (L R : Int) (a : Option Addr) (len cap : Nat) (f : Nat → Int) (S : Int) (w : World) (hl : len ≤ maxLen) (hr : Row w a len f) :
    Calls Try.prog 10 #[.agg #[.int .i64 L, .int .i64 R, .slice a len cap], .int .i64 S] w fun e w' => NextIs L R len f S e ∧ Below w.heap.size w w' := by
  have K0 : GHeld (w.alloc (.cells #[.int .i64 L, .int .i64 R, .slice a len cap] 24)) w.heap.size L R a len cap f := GHeld.box hr
  have HB0 : Hid (Below w.heap.size w (w.alloc (.cells #[.int .i64 L, .int .i64 R, .slice a len cap] 24))) := (Below.refl _ _).alloc (Nat.le_refl _) _
  clear hr
  go_enter Try.func10, Try.ntmps10
  go_wp2_with fail
  refine (checkSet_any L R R a len cap f S _ hl K0.row good_R).mono ?_
  rintro e W ⟨⟨c, rfl, hc⟩, hb⟩
  have K1 := K0.step hb
  have HB1 : Hid (Below w.heap.size w W) := Below.then HB0.out hb
  clear hb K0 HB0
  by_cases h0 : c = 0
  · subst h0
    have HC : Hid (SChk L R R len f S 0) := hc
    rcases hc with ⟨h, _⟩ | ⟨hg, k, e1, hk, ⟨h, _⟩ | ⟨_, hs0, hs1⟩⟩
    · exact absurd rfl h
    · cases h
    obtain ⟨r, rfl, rfl, h10, r10, hrng⟩ := hg.good
    obtain rfl : r = k := by omega
    obtain ⟨s, rfl⟩ := Int.eq_ofNat_of_zero_le hs0
    have hs : s < 1024 := by have := pw_le r r10; omega
    have hsp : s < pw r := by omega
    have HRG : Hid (GRng len r f) := hrng
    have HG : Hid (∀ k, k < len → nat f k < 1024) := hrng.small2 r10
    have HCLT : Hid (∀ x, clm (nat f) len r x < 1024) := fun x => Nat.lt_of_lt_of_le (clm_lt _ _ _ _) (pw_le r r10)
    have l0 : ∀ w', Below W.heap.size W w' → w'.cell? ⟨w.heap.size, 0, none⟩ = some (.int .i64 (len : Int)) := fun w' h => (K1.step h).c0
    have l1 : ∀ w', Below W.heap.size W w' → w'.cell? ⟨w.heap.size, 1, none⟩ = some (.int .i64 (r : Int)) := fun w' h => (K1.step h).c1
    have l2 : ∀ w', Below W.heap.size W w' → w'.cell? ⟨w.heap.size, 2, none⟩ = some (.slice a len cap) := fun w' h => (K1.step h).c2
    have HR : Hid (∀ w', Below W.heap.size W w' → Row w' a len (fun k => (nat f k : Nat))) := fun w' h => hrng.row (K1.step h).row
    have KK : Below W.heap.size W W.drew := (Below.refl _ _).drew
    clear hrng hg K1 hs0 hs1 e1
    go_wp2_with fail
    refine wp_region_held_drew (S := (fun w' => Below W.heap.size W w')) (by kernel_rfl) (KK) (fun hHeld => ?_)
    refine wpAnyH_take (i := 0) (oi := { dst := some 18, op := Go.Op.fieldAddr 24 (Go.Operand.tmp 2) 1, type := 0, pos := "concept.go:67", after := #[], guard := none }) (v := ?_) rfl (by kernel_rfl) (by kernel_rfl) (by kernel_rfl) (fun _ _ _ h => h) (Or.inl ⟨by rfl, ?hy⟩) (by assumption) ?_
    case hy => (intro w9 hSw; (try dsimp only at hSw); go_simp; try with_reducible rfl)
    try simp only [Act.put, List.setIfInBounds_toArray, List.set_cons_zero, List.set_cons_succ]
    refine wpAnyH_take (i := 1) (oi := { dst := some 19, op := Go.Op.load 3 (Go.Operand.tmp 18), type := 3, pos := "concept.go:67", after := #[{ on := 0, ground := Go.Ground.data }], guard := none }) (v := ?_) rfl (by kernel_rfl) (by kernel_rfl) (by kernel_rfl) (fun _ _ _ h => h) (Or.inl ⟨by rfl, ?hy⟩) (by assumption) ?_
    case hy => (intro w9 hSw; (try dsimp only at hSw); go_simp; try with_reducible rfl)
    try simp only [Act.put, List.setIfInBounds_toArray, List.set_cons_zero, List.set_cons_succ]
    refine wpAnyH_take (i := 2) (oi := { dst := some 20, op := Go.Op.move (Go.Operand.tmp 1), type := 3, pos := "concept.go:67", after := #[], guard := none }) (v := ?_) rfl (by kernel_rfl) (by kernel_rfl) (by kernel_rfl) (fun _ _ _ h => h) (Or.inl ⟨by rfl, ?hy⟩) (by assumption) ?_
    case hy => (intro w9 hSw; (try dsimp only at hSw); go_simp; try with_reducible rfl)
    try simp only [Act.put, List.setIfInBounds_toArray, List.set_cons_zero, List.set_cons_succ]
    refine wpAnyH_take (i := 3) (oi := { dst := some 21, op := Go.Op.load 24 (Go.Operand.tmp 2), type := 24, pos := "concept.go:67", after := #[], guard := none }) (v := ?_) rfl (by kernel_rfl) (by kernel_rfl) (by kernel_rfl) (fun _ _ _ h => h) (Or.inl ⟨by rfl, ?hy⟩) (by assumption) ?_
    case hy => (intro w9 hSw; (try dsimp only at hSw); go_simp; try with_reducible rfl)
    try simp only [Act.put, List.setIfInBounds_toArray, List.set_cons_zero, List.set_cons_succ]
    refine wpAnyH_ready (rs := [4]) (by kernel_rfl) (by simp) ?_
    refine AllReadyH.cons (o := { dst := some 22, op := Go.Op.call { callee := Go.Callee.value (Go.Operand.func 26), args := #[Go.Operand.tmp 21], argTypes := #[24] }, type := 47, pos := "concept.go:67", after := #[{ on := 3, ground := Go.Ground.data }], guard := none }) rfl (fun K hK => ?_) AllReadyH.nil
    go_simp
    refine (marksClosing_any len r a cap (nat f) _ h10 r10 HG.out (HR.out _ (by assumption))).mono ?_
    rintro e w2 ⟨rfl, hcl, hb2⟩
    have HCL2 : Hid (Clo1 _ _ (clm (nat f) len r) w2) := hcl
    clear hcl
    refine hK.out _ _ ?_ (fun hHeld => ?_)
    · first | assumption | exact Below.then (by assumption) (by assumption)
    clear hK K
    try simp only [Act.put, List.setIfInBounds_toArray, List.set_cons_zero, List.set_cons_succ]
    refine wpAnyH_ready (rs := [5]) (by kernel_rfl) (by simp) ?_
    refine AllReadyH.cons (o := { dst := some 23, op := Go.Op.call { callee := Go.Callee.value (Go.Operand.func 25), args := #[Go.Operand.tmp 19, Go.Operand.tmp 20, Go.Operand.tmp 22], argTypes := #[3, 3, 47] }, type := 56, pos := "concept.go:67", after := #[{ on := 1, ground := Go.Ground.data }, { on := 2, ground := Go.Ground.data }, { on := 4, ground := Go.Ground.data }, { on := 4, ground := Go.Ground.chain }], guard := none }) rfl (fun K hK => ?_) AllReadyH.nil
    go_simp
    refine (firstBehind_any r s _ _ (clm (nat f) len r) _ r10 hs ent_mc HCL2.out HCLT.out).mono ?_
    rintro e w3 ⟨rfl, hb3⟩
    obtain ⟨y, hy⟩ : ∃ y, y = nxt (clm (nat f) len r) s r := ⟨_, rfl⟩
    rw [← hy]
    unfold fbv
    have HY : Hid (y = nxt (clm (nat f) len r) s r) := hy
    clear hy
    refine hK.out _ _ ?_ (fun hHeld => ?_)
    · first | assumption | exact Below.then (by assumption) (by assumption)
    clear hK K
    try simp only [Act.put, List.setIfInBounds_toArray, List.set_cons_zero, List.set_cons_succ]
    refine wpAnyH_take (i := 6) (oi := { dst := some 17, op := Go.Op.move (Go.Operand.tmp 23), type := 56, pos := "concept.go:67", after := #[{ on := 5, ground := Go.Ground.data }], guard := none }) (v := ?_) rfl (by kernel_rfl) (by kernel_rfl) (by kernel_rfl) (fun _ _ _ h => h) (Or.inl ⟨by rfl, ?hy⟩) (by assumption) ?_
    case hy => (intro w9 hSw; (try dsimp only at hSw); go_simp; try with_reducible rfl)
    try simp only [Act.put, List.setIfInBounds_toArray, List.set_cons_zero, List.set_cons_succ]
    refine wpAnyH_take (i := 7) (oi := { dst := some 24, op := Go.Op.extract (Go.Operand.tmp 17) 0, type := 3, pos := "concept.go:67", after := #[{ on := 6, ground := Go.Ground.data }], guard := none }) (v := ?_) rfl (by kernel_rfl) (by kernel_rfl) (by kernel_rfl) (fun _ _ _ h => h) (Or.inl ⟨by rfl, ?hy⟩) (by assumption) ?_
    case hy => (intro w9 hSw; (try dsimp only at hSw); go_simp; try with_reducible rfl)
    try simp only [Act.put, List.setIfInBounds_toArray, List.set_cons_zero, List.set_cons_succ]
    refine wpAnyH_take (i := 8) (oi := { dst := some 25, op := Go.Op.extract (Go.Operand.tmp 17) 1, type := 4, pos := "concept.go:67", after := #[{ on := 6, ground := Go.Ground.data }, { on := 9, ground := Go.Ground.gcOnly Go.Departure.lateStores }], guard := none }) (v := ?_) rfl (by kernel_rfl) (by kernel_rfl) (by kernel_rfl) (fun _ _ _ h => h) (Or.inl ⟨by rfl, ?hy⟩) (by assumption) ?_
    case hy => (intro w9 hSw; (try dsimp only at hSw); go_simp; try with_reducible rfl)
    try simp only [Act.put, List.setIfInBounds_toArray, List.set_cons_zero, List.set_cons_succ]
    refine wpAnyH_take (i := 9) (oi := { dst := some 7, op := Go.Op.assign (Go.Operand.tmp 24), type := 3, pos := "concept.go:67", after := #[{ on := 7, ground := Go.Ground.data }, { on := 5, ground := Go.Ground.chain }, { on := 0, ground := Go.Ground.phase }, { on := 1, ground := Go.Ground.phase }, { on := 2, ground := Go.Ground.phase }, { on := 3, ground := Go.Ground.phase }, { on := 4, ground := Go.Ground.phase }, { on := 5, ground := Go.Ground.phase }, { on := 6, ground := Go.Ground.phase }, { on := 7, ground := Go.Ground.phase }, { on := 8, ground := Go.Ground.textOnly Go.Departure.lateStores }], guard := none }) (v := ?_) rfl (by kernel_rfl) (by kernel_rfl) (by kernel_rfl) (fun _ _ _ h => h) (Or.inl ⟨by rfl, ?hy⟩) (by assumption) ?_
    case hy => (intro w9 hSw; (try dsimp only at hSw); go_simp; try with_reducible rfl)
    try simp only [Act.put, List.setIfInBounds_toArray, List.set_cons_zero, List.set_cons_succ]
    refine wpAnyH_take (i := 10) (oi := { dst := some 8, op := Go.Op.assign (Go.Operand.tmp 25), type := 4, pos := "concept.go:67", after := #[{ on := 8, ground := Go.Ground.data }, { on := 9, ground := Go.Ground.chain }, { on := 0, ground := Go.Ground.phase }, { on := 1, ground := Go.Ground.phase }, { on := 2, ground := Go.Ground.phase }, { on := 3, ground := Go.Ground.phase }, { on := 4, ground := Go.Ground.phase }, { on := 5, ground := Go.Ground.phase }, { on := 6, ground := Go.Ground.phase }, { on := 7, ground := Go.Ground.phase }, { on := 8, ground := Go.Ground.phase }, { on := 9, ground := Go.Ground.phase }], guard := none }) (v := ?_) rfl (by kernel_rfl) (by kernel_rfl) (by kernel_rfl) (fun _ _ _ h => h) (Or.inl ⟨by rfl, ?hy⟩) (by assumption) ?_
    case hy => (intro w9 hSw; (try dsimp only at hSw); go_simp; try with_reducible rfl)
    try simp only [Act.put, List.setIfInBounds_toArray, List.set_cons_zero, List.set_cons_succ]
    refine wpAnyH_done (by kernel_rfl) ?_ _
    try simp only [Act.put, List.setIfInBounds_toArray, List.set_cons_zero, List.set_cons_succ]
    have hb8 : Below W.heap.size W w3 := by first | assumption | exact hHeld
    have HB8 : Hid (Below w.heap.size w w3) := Below.then HB1.out hb8
    clear hb8
    rcases y with _ | y
    · simp only [Option.getD_none, Option.isSome_none]
      go_wp2_with fail
      go_ret2
      exact ⟨.inr ⟨r, s, rfl, rfl, h10, r10, HRG.out, rfl, hsp, HC.out, .inl ⟨HY.out.symm, rfl⟩⟩, HB8.out⟩
    · simp only [Option.getD_some, Option.isSome_some]
      go_wp2_with fail
      go_ret2
      exact ⟨.inr ⟨r, s, rfl, rfl, h10, r10, HRG.out, rfl, hsp, HC.out, .inr ⟨y, HY.out.symm, rfl⟩⟩, HB8.out⟩
  · have hne : (c != 0) = true := by simpa using h0
    have HC : Hid (SChk L R R len f S c) := hc
    clear hc K1
    go_wp2_with fail
    go_ret2
    exact ⟨.inl ⟨c, h0, HC.out, rfl⟩, HB1.out⟩
end Go.Proofs.Ytpmgengddnafeab
