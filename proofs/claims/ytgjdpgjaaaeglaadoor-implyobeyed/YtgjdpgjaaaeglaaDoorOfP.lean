/-
  What imply.byThings, its closure and imply.Of answer. Conditions: as each theorem says.
-/
import Derived.Test.YtgjdpgjaaaeglaaDoorRefCon
import Derived.Test.YtgjdpgjaaaeglaaDoorBasL2
import Derived.Deep.RegionHeld3
namespace Go.Proofs.YtgjdpgjaaaeglaaDoor
open Go.RowKit

theorem ent_bt : EntF 43 := fun _ _ => rfl
theorem NumIs.val {L R N : Int} {len : Nat} {f : Nat → Int} {S : Int} {F : Nat → Nat → Nat → Nat → Prop} {e : Ending} (hg : SChk L R N len f S 0) (h : NumIs L R N len f S F e) : ∃ r s x : Nat, R = (r : Int) ∧ S = (s : Int) ∧ F len r s x ∧ e = .returned (.tuple #[.int .i64 (x : Nat), .int .i64 0]) := by
  rcases h with ⟨c, h0, h, _⟩ | ⟨r, s, x, _, h2, _, _, _, h6, _, _, h9, h10⟩
  · exact absurd (h.unique hg) h0
  · exact ⟨r, s, x, h2, h6, h9, h10⟩
set_option maxHeartbeats 2000000 in
theorem bt_any (n m B : Nat) (a : Option Addr) (cap : Nat) (f : Nat → Int) (w : World) (hc : GChk n m n f 0) (hn : n ≤ 10) (hm : m ≤ 10) (hB : GHeld w B (n : Int) (m : Int) a n cap f) :
    CloN m 43 #[.pointer (some ⟨B, 0, none⟩)] (clm (nat f) n m) w := fun s hs W hW => by
  show Calls Tryd.prog 43 #[.int .i64 (s : Nat), .pointer (some ⟨B, 0, none⟩)] W _
  have K0 := hB.step hW
  have HC : Hid (GChk n m n f 0) := hc
  have HTH : Hid (∀ w', Below W.heap.size W w' → Calls Tryd.prog 44 #[.agg #[.int .i64 (n : Int), .int .i64 (m : Int), .slice a n cap], .int .i64 (s : Nat)] w' fun e w'' => e = .returned (.tuple #[.int .i64 (ths (nat f) n s : Nat), .int .i64 0]) ∧ Below w'.heap.size w' w'') := fun w' h =>
    (things_any n m a n cap f s w' (by unfold maxLen; omega) (K0.step h).row).mono fun e w'' ⟨he, hb⟩ => ⟨by
      obtain ⟨r, s', x, h1, h2, h3, h4⟩ := he.val (.inr ⟨HC.out, m, rfl, hm, .inr ⟨rfl, by omega⟩⟩)
      obtain rfl : r = m := by omega
      obtain rfl : s' = s := by omega
      rw [h4, h3.2], hb⟩
  have HMK : Hid (∀ w', Below W.heap.size W w' → Calls Tryd.prog 45 #[.agg #[.int .i64 (n : Int), .int .i64 (m : Int), .slice a n cap], .int .i64 (ths (nat f) n s : Nat)] w' fun e w'' => e = .returned (.tuple #[.int .i64 (clm (nat f) n m s : Nat), .int .i64 0]) ∧ Below w'.heap.size w' w'') := fun w' h =>
    (marks_any n m a n cap f (ths (nat f) n s : Nat) w' (by unfold maxLen; omega) (K0.step h).row).mono fun e w'' ⟨he, hb⟩ => ⟨by
      have hlt := ths_lt (nat f) n s
      obtain ⟨r, s', x, h1, h2, h3, h4⟩ := he.val (.inr ⟨HC.out, n, rfl, hn, .inr ⟨rfl, by omega⟩⟩)
      obtain rfl : r = m := by omega
      obtain rfl : s' = ths (nat f) n s := by omega
      rw [h4, h3.2]; rfl, hb⟩
  have k0 := K0.c0
  have k1 := K0.c1
  have k2 := K0.c2
  generalize ths (nat f) n s = t at *
  generalize clm (nat f) n m s = C at *
  go_enter Tryd.func43, Tryd.ntmps43
  go_wp2_with fail
  refine (HTH.out _ (Below.refl _ _)).mono ?_
  rintro e w1 ⟨rfl, hb1⟩
  have HB1 : Hid (Below W.heap.size W w1) := hb1
  clear hb1 k0 k1 k2
  have k0 := (K0.step HB1.out).c0
  have k1 := (K0.step HB1.out).c1
  have k2 := (K0.step HB1.out).c2
  go_wp2_with fail
  refine (HMK.out _ HB1.out).mono ?_
  rintro e w2 ⟨rfl, hb2⟩
  have HB2 : Hid (Below W.heap.size W w2) := Below.then HB1.out hb2
  clear hb2 k0 k1 k2
  go_wp2_with fail
  go_ret
  exact ⟨rfl, HB2.out⟩

theorem byThings_any (n m : Nat) (a : Option Addr) (cap : Nat) (f : Nat → Int) (w : World) (hc : GChk n m n f 0) (hn : n ≤ 10) (hm : m ≤ 10) (hr : Row w a n f) :
    Calls Tryd.prog 35 #[.agg #[.int .i64 (n : Int), .int .i64 (m : Int), .slice a n cap]] w fun e w' => (∃ B, e = .returned (.func (.func 43) #[] #[.pointer (some ⟨B, 0, none⟩)]) ∧ CloN m 43 #[.pointer (some ⟨B, 0, none⟩)] (clm (nat f) n m) w') ∧ Below w.heap.size w w' := by
  have HB0 : Hid (Below w.heap.size w (w.alloc (.cells #[.int .i64 (n : Int), .int .i64 (m : Int), .slice a n cap] 39))) := (Below.refl _ _).alloc (Nat.le_refl _) _
  have HC : Hid (CloN m 43 #[.pointer (some ⟨w.heap.size, 0, none⟩)] (clm (nat f) n m) (w.alloc (.cells #[.int .i64 (n : Int), .int .i64 (m : Int), .slice a n cap] 39))) := bt_any n m _ a cap f _ hc hn hm (GHeld.box hr)
  clear hr hc
  go_enter Tryd.func35, Tryd.ntmps35
  go_wp2
  go_ret
  exact ⟨⟨_, rfl, HC.out⟩, HB0.out⟩

/-- What Of must answer. -/
def OfIs (L R : Int) (len : Nat) (f : Nat → Int) (e : Ending) (w' : World) : Prop :=
  (∃ c : Int, c ≠ 0 ∧ GChk L R len f c ∧ e = .returned (.tuple #[.slice none 0 0, .int .i64 c])) ∨
  (∃ r : Nat, L = (len : Int) ∧ R = (r : Int) ∧ GChk L R len f 0 ∧ len ≤ 10 ∧ r ≤ 10 ∧ GRng len r f ∧ BasIs (bas (clm (nat f) len r) (pw r)) e w')
set_option maxHeartbeats 2000000 in
theorem of_any (L R : Int) (a : Option Addr) (len cap : Nat) (f : Nat → Int) (w : World) (hl : len ≤ maxLen) (hr : Row w a len f) :
    Calls Tryd.prog 18 #[.agg #[.int .i64 L, .int .i64 R, .slice a len cap]] w fun e w' => OfIs L R len f e w' ∧ Below w.heap.size w w' := by
  obtain ⟨W0, HW0⟩ : ∃ W0, Hid (W0 = w.alloc (.cells #[.int .i64 L, .int .i64 R, .slice a len cap] 39)) := ⟨_, rfl⟩
  have HB0 : Hid (Below w.heap.size w W0) := by rw [HW0.out]; exact (Below.refl _ _).alloc (Nat.le_refl _) _
  have K0 : GHeld W0 w.heap.size L R a len cap f := by rw [HW0.out]; exact GHeld.box hr
  have k0 := K0.c0
  have k1 := K0.c1
  have k2 := K0.c2
  clear hr
  go_enter Tryd.func18, Tryd.ntmps18
  go_wp2_with fail
  rw [← HW0.out]
  refine (ccheck_any L R a len cap f W0 hl K0.row).mono ?_
  rintro e w1 ⟨⟨c, rfl, hc⟩, hb1⟩
  have HB1 : Hid (Below W0.heap.size W0 w1) := hb1
  have HC : Hid (GChk L R len f c) := hc
  clear hb1 k0 k1 k2
  by_cases h0 : c = 0
  · subst h0
    obtain ⟨r, rfl, rfl, l10, r10, hrng⟩ := hc.good
    have HG : Hid (GRng len r f) := hrng
    have hc0 : ∀ w', Below W0.heap.size W0 w' → w'.cell? ⟨w.heap.size, 0, none⟩ = some (.int .i64 (len : Int)) := fun w' h => (K0.step h).c0
    have hc1 : ∀ w', Below W0.heap.size W0 w' → w'.cell? ⟨w.heap.size, 1, none⟩ = some (.int .i64 (r : Int)) := fun w' h => (K0.step h).c1
    have hc2 : ∀ w', Below W0.heap.size W0 w' → w'.cell? ⟨w.heap.size, 2, none⟩ = some (.slice a len cap) := fun w' h => (K0.step h).c2
    have HBT : Hid (∀ w', Below W0.heap.size W0 w' → Calls Tryd.prog 35 #[.agg #[.int .i64 (len : Int), .int .i64 (r : Int), .slice a len cap]] w' fun e w'' => (∃ B, e = .returned (.func (.func 43) #[] #[.pointer (some ⟨B, 0, none⟩)]) ∧ CloN r 43 #[.pointer (some ⟨B, 0, none⟩)] (clm (nat f) len r) w'') ∧ Below w'.heap.size w' w'') := fun w' h => byThings_any len r a cap f w' HC.out l10 r10 (K0.step h).row
    have HCM : Hid (∀ s, s < pw r → clm (nat f) len r s < 1024) := fun s _ => Nat.lt_of_lt_of_le (clm_lt _ _ _ _) (pw_le r r10)
    clear hc hrng
    go_wp2_with fail
    refine wp_region_held_drew (S := (fun w' => Below W0.heap.size W0 w')) (by kernel_rfl) (HB1.out.drew) (fun hHeld => ?_)
    refine wpAnyH_take (i := 0) (oi := { dst := some 10, op := Go.Op.fieldAddr 39 (Go.Operand.tmp 1) 1, type := 0, pos := "imply.go:66", after := #[], guard := none }) (v := ?_) rfl (by kernel_rfl) (by kernel_rfl) (by kernel_rfl) (fun _ _ _ h => h) (Or.inl ⟨by rfl, ?hy⟩) (by assumption) ?_
    case hy => (intro w9 hSw; (try dsimp only at hSw); go_simp; try with_reducible rfl)
    try simp only [Act.put, List.setIfInBounds_toArray, List.set_cons_zero, List.set_cons_succ]
    refine wpAnyH_take (i := 1) (oi := { dst := some 11, op := Go.Op.load 3 (Go.Operand.tmp 10), type := 3, pos := "imply.go:66", after := #[{ on := 0, ground := Go.Ground.data }], guard := none }) (v := ?_) rfl (by kernel_rfl) (by kernel_rfl) (by kernel_rfl) (fun _ _ _ h => h) (Or.inl ⟨by rfl, ?hy⟩) (by assumption) ?_
    case hy => (intro w9 hSw; (try dsimp only at hSw); go_simp; try with_reducible rfl)
    try simp only [Act.put, List.setIfInBounds_toArray, List.set_cons_zero, List.set_cons_succ]
    refine wpAnyH_take (i := 2) (oi := { dst := some 12, op := Go.Op.load 39 (Go.Operand.tmp 1), type := 39, pos := "imply.go:66", after := #[], guard := none }) (v := ?_) rfl (by kernel_rfl) (by kernel_rfl) (by kernel_rfl) (fun _ _ _ h => h) (Or.inl ⟨by rfl, ?hy⟩) (by assumption) ?_
    case hy => (intro w9 hSw; (try dsimp only at hSw); go_simp; try with_reducible rfl)
    try simp only [Act.put, List.setIfInBounds_toArray, List.set_cons_zero, List.set_cons_succ]
    refine wpAnyH_ready (rs := [3]) (by kernel_rfl) (by simp) ?_
    refine AllReadyH.cons (o := { dst := some 13, op := Go.Op.call { callee := Go.Callee.value (Go.Operand.func 35), args := #[Go.Operand.tmp 12], argTypes := #[39] }, type := 51, pos := "imply.go:66", after := #[{ on := 2, ground := Go.Ground.data }], guard := none }) rfl (fun K hK => ?_) AllReadyH.nil
    go_simp
    refine (HBT.out _ hHeld).mono ?_
    rintro e w6 ⟨⟨B6, rfl, hcl6⟩, hb6⟩
    have HCL6 : Hid (CloN r 43 #[.pointer (some ⟨B6, 0, none⟩)] (clm (nat f) len r) w6) := hcl6
    have HB6 : Hid (Below W0.heap.size W0 w6) := Below.then hHeld hb6
    clear hcl6 hb6
    refine hK.out _ _ ?_ (fun hHeld => ?_)
    · first | exact HB7.out | exact HB6.out
    clear hK K
    try simp only [Act.put, List.setIfInBounds_toArray, List.set_cons_zero, List.set_cons_succ]
    refine wpAnyH_ready (rs := [4]) (by kernel_rfl) (by simp) ?_
    refine AllReadyH.cons (o := { dst := some 14, op := Go.Op.call { callee := Go.Callee.value (Go.Operand.func 31), args := #[Go.Operand.tmp 11, Go.Operand.tmp 13], argTypes := #[3, 51] }, type := 34, pos := "imply.go:66", after := #[{ on := 1, ground := Go.Ground.data }, { on := 3, ground := Go.Ground.data }, { on := 3, ground := Go.Ground.chain }], guard := none }) rfl (fun K hK => ?_) AllReadyH.nil
    go_simp
    refine (base_any r 43 _ (clm (nat f) len r) _ r10 ent_bt HCL6.out HCM.out).mono ?_
    rintro e w7 ⟨hbas, hb7⟩
    obtain ⟨x7, k7, cp7, c7, he7⟩ := hbas.form
    subst he7
    have HBAS : Hid (BasIs (bas (clm (nat f) len r) (pw r)) (.returned (.tuple #[.slice x7 k7 cp7, .int .i64 c7])) w7) := hbas
    have HB7 : Hid (Below W0.heap.size W0 w7) := Below.then HB6.out hb7
    clear hbas hb7
    refine hK.out _ _ ?_ (fun hHeld => ?_)
    · first | exact HB7.out | exact HB6.out
    clear hK K
    try simp only [Act.put, List.setIfInBounds_toArray, List.set_cons_zero, List.set_cons_succ]
    refine wpAnyH_take (i := 5) (oi := { dst := some 15, op := Go.Op.extract (Go.Operand.tmp 14) 0, type := 22, pos := "imply.go:66", after := #[{ on := 4, ground := Go.Ground.data }], guard := none }) (v := ?_) rfl (by kernel_rfl) (by kernel_rfl) (by kernel_rfl) (fun _ _ _ h => h) (Or.inl ⟨by rfl, ?hy⟩) (by assumption) ?_
    case hy => (intro w9 hSw; (try dsimp only at hSw); go_simp; try with_reducible rfl)
    try simp only [Act.put, List.setIfInBounds_toArray, List.set_cons_zero, List.set_cons_succ]
    refine wpAnyH_take (i := 6) (oi := { dst := some 16, op := Go.Op.extract (Go.Operand.tmp 14) 1, type := 24, pos := "imply.go:66", after := #[{ on := 4, ground := Go.Ground.data }], guard := none }) (v := ?_) rfl (by kernel_rfl) (by kernel_rfl) (by kernel_rfl) (fun _ _ _ h => h) (Or.inl ⟨by rfl, ?hy⟩) (by assumption) ?_
    case hy => (intro w9 hSw; (try dsimp only at hSw); go_simp; try with_reducible rfl)
    try simp only [Act.put, List.setIfInBounds_toArray, List.set_cons_zero, List.set_cons_succ]
    refine wpAnyH_take (i := 7) (oi := { dst := some 2, op := Go.Op.assign (Go.Operand.tmp 15), type := 22, pos := "imply.go:66", after := #[{ on := 5, ground := Go.Ground.data }, { on := 4, ground := Go.Ground.chain }, { on := 0, ground := Go.Ground.phase }, { on := 1, ground := Go.Ground.phase }, { on := 2, ground := Go.Ground.phase }, { on := 3, ground := Go.Ground.phase }, { on := 4, ground := Go.Ground.phase }, { on := 5, ground := Go.Ground.phase }, { on := 6, ground := Go.Ground.phase }], guard := none }) (v := ?_) rfl (by kernel_rfl) (by kernel_rfl) (by kernel_rfl) (fun _ _ _ h => h) (Or.inl ⟨by rfl, ?hy⟩) (by assumption) ?_
    case hy => (intro w9 hSw; (try dsimp only at hSw); go_simp; try with_reducible rfl)
    try simp only [Act.put, List.setIfInBounds_toArray, List.set_cons_zero, List.set_cons_succ]
    refine wpAnyH_take (i := 8) (oi := { dst := some 3, op := Go.Op.assign (Go.Operand.tmp 16), type := 24, pos := "imply.go:66", after := #[{ on := 6, ground := Go.Ground.data }, { on := 7, ground := Go.Ground.chain }, { on := 0, ground := Go.Ground.phase }, { on := 1, ground := Go.Ground.phase }, { on := 2, ground := Go.Ground.phase }, { on := 3, ground := Go.Ground.phase }, { on := 4, ground := Go.Ground.phase }, { on := 5, ground := Go.Ground.phase }, { on := 6, ground := Go.Ground.phase }, { on := 7, ground := Go.Ground.phase }], guard := none }) (v := ?_) rfl (by kernel_rfl) (by kernel_rfl) (by kernel_rfl) (fun _ _ _ h => h) (Or.inl ⟨by rfl, ?hy⟩) (by assumption) ?_
    case hy => (intro w9 hSw; (try dsimp only at hSw); go_simp; try with_reducible rfl)
    try simp only [Act.put, List.setIfInBounds_toArray, List.set_cons_zero, List.set_cons_succ]
    refine wpAnyH_done (by kernel_rfl) ?_ _
    try simp only [Act.put, List.setIfInBounds_toArray, List.set_cons_zero, List.set_cons_succ]
    clear hHeld
    go_wp2_with fail
    go_ret2
    exact ⟨.inr ⟨r, rfl, rfl, HC.out, l10, r10, HG.out, HBAS.out⟩, Below.then HB0.out HB7.out⟩
  · have hne : (c != 0) = true := by simpa using h0
    clear hc
    go_wp2_with fail
    go_ret2
    exact ⟨.inl ⟨c, h0, HC.out, rfl⟩, Below.then HB0.out HB1.out⟩
end Go.Proofs.YtgjdpgjaaaeglaaDoor
