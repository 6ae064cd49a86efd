/-
  What the reference's Place and FillOf answer. Conditions: forty cuts at most.
-/
import Derived.Deep.RegionHeld3
import Derived.Test.YtkcogfjlpbfckaaLofB
import Derived.Test.YtkcogfjlpbfckaaFilP
import Derived.Test.YtkcogfjlpbfckaaInside
import Derived.Test.YtkcogfjlpbfckaaCutX
import Derived.Test.YtkcogfjlpbfckaaRefCuts
import Derived.Test.YtkcogfjlpbfckaaLaws
import Derived.Test.YtkcogfjlpbfckaaFillP
namespace Go.Proofs.Ytkcogfjlpbfckaa
open Go.RowKit

set_option maxHeartbeats 1000000 in
theorem rPlace_any (l : List Nat) (a : Option Addr) (n cap p s : Nat) (w : World) (hn : n = l.length) (hl : l.length ≤ 1024) (hr : Row w a l.length (fun k => (nth l k : Nat))) (hs : Rises l) (hp : p < l.length) (he : nth l p = s) :
    Calls Try.prog 45 #[.slice a n cap, .int .i64 (s : Nat)] w fun e w' => e = .returned (.int .i64 (p : Nat)) ∧ Below w.heap.size w w' := by
  subst hn
  obtain ⟨n, HN⟩ : ∃ n, Hid (n = l.length) := ⟨_, rfl⟩
  have HL : Hid (∀ k, k < n → (nth l k = s ↔ k = p)) := fun k hk => by
    rw [HN.out] at hk
    rw [← he]
    exact ⟨fun e => hs.one hk hp e, fun e => by rw [e]⟩
  rw [← HN.out] at hl hr hp ⊢
  obtain ⟨b, off, rfl, _⟩ := hr p hp
  have HR : Hid (∀ k, k < n → w.cell? ⟨b, off + k, none⟩ = some (.int .i64 (nth l k : Nat))) := fun k hk => by
    obtain ⟨b', off', e, h⟩ := hr k hk
    cases e; exact h
  clear hr HN he hs
  go_enter Try.func45, Try.ntmps45
  go_wp2
  go_loopw [5] (fun i wx => ∃ k : Nat, k ≤ p ∧ i = .int .i64 k ∧ Hid (wx = w)) (fun i _ => n - (intOf i).toNat)
  case atStart => exact ⟨0, Nat.zero_le _, rfl, rfl⟩
  case round =>
    obtain ⟨k, hk, rfl, HW⟩ := hrel
    have hww := HW.out.symm
    subst hww
    clear HW
    have hkn : k < n := by omega
    have hck := HR.out k hkn
    have i1 : (k : Int) < (n : Int) := by omega
    by_cases e : k = p
    · have hcmp : (((nth l k : Nat) : Int) == ((s : Nat) : Int)) = true := by rw [(HL.out k hkn).2 e]; exact beq_self_eq_true _
      subst e
      go_wp2_with fail
      go_ret
      exact ⟨rfl, Below.refl _ _⟩
    · have hcmp : (((nth l k : Nat) : Int) == ((s : Nat) : Int)) = false := by
        have : nth l k ≠ s := fun q => e ((HL.out k hkn).1 q)
        exact beq_false_of_ne (by omega)
      go_wp2_with fail
      go_roundw
      case rel => exact ⟨k + 1, by omega, by go_num, by first | rfl | trivial⟩
      case measure => simp [intOf]; omega

theorem ent_fo : Ent 44 := fun _ _ => rfl
set_option maxHeartbeats 2000000 in
theorem fo1_any (n C : Nat) (l : List Nat) (pa : Option Addr) (pc : Nat) (w : World) (hC : w.cell? ⟨C, 0, none⟩ = some (.slice pa n pc)) (hr : Row w pa n (fun k => (nth l k : Nat))) (hs : ∀ k, k < n → nth l k < 1024) :
    Clo2 n 44 #[.pointer (some ⟨C, 0, none⟩)] (insB l) w := fun x y hx hy W hW => by
  show Calls Try.prog 44 #[.int .i64 (x : Nat), .int .i64 (y : Nat), .pointer (some ⟨C, 0, none⟩)] W fun e w' => e = .returned (.bool (lack (nth l x) (nth l y) == 0)) ∧ Below W.heap.size W w'
  obtain ⟨rb, ro, rfl, hcx⟩ := hr.below hW x hx
  have hcy : W.cell? ⟨rb, ro + y, none⟩ = some (.int .i64 (nth l y : Nat)) := by
    obtain ⟨rb', ro', e, h⟩ := hr.below hW y hy
    cases e; exact h
  have hcC := cell_step hW hC
  have l3 : ∀ w', Below W.heap.size W w' → w'.cell? ⟨C, 0, none⟩ = some (.slice (some ⟨rb, ro, none⟩) n pc) := fun w' h => cell_step h hcC
  have l4 : ∀ w', Below W.heap.size W w' → w'.cell? ⟨rb, ro + x, none⟩ = some (.int .i64 (nth l x : Nat)) := fun w' h => cell_step h hcx
  have l5 : ∀ w', Below W.heap.size W w' → w'.cell? ⟨rb, ro + y, none⟩ = some (.int .i64 (nth l y : Nat)) := fun w' h => cell_step h hcy
  have sx := hs x hx
  have sy := hs y hy
  have ix : (x : Int) < (n : Int) := by omega
  have iy : (y : Int) < (n : Int) := by omega
  have KK : Below W.heap.size W W.drew := (Below.refl _ _).drew
  have HKK : Hid (Below W.heap.size W W.drew) := KK
  clear hW hC hr hs hcx hcy hcC
  go_enter Try.func44, Try.ntmps44
  go_wp2_with fail
  refine wp_region_held_drew (S := (fun w' => Below W.heap.size W w')) (by kernel_rfl) (KK) (fun hHeld => ?_)
  refine wpAnyH_take (i := 0) (oi := { dst := some 6, op := Go.Op.load 22 (Go.Operand.tmp 2), type := 22, pos := "lattice.go:566", after := #[], guard := none }) (v := ?_) rfl (by kernel_rfl) (by kernel_rfl) (by kernel_rfl) (fun _ _ _ h => h) (Or.inl ⟨by rfl, ?hy⟩) (by assumption) ?_
  case hy => (intro w9 hSw; (try dsimp only at hSw); go_simp; try with_reducible rfl)
  try simp only [Act.put, List.setIfInBounds_toArray, List.set_cons_zero, List.set_cons_succ]
  refine wpAnyH_take (i := 1) (oi := { dst := some 7, op := Go.Op.move (Go.Operand.tmp 0), type := 3, pos := "lattice.go:566", after := #[], guard := none }) (v := ?_) rfl (by kernel_rfl) (by kernel_rfl) (by kernel_rfl) (fun _ _ _ h => h) (Or.inl ⟨by rfl, ?hy⟩) (by assumption) ?_
  case hy => (intro w9 hSw; (try dsimp only at hSw); go_simp; try with_reducible rfl)
  try simp only [Act.put, List.setIfInBounds_toArray, List.set_cons_zero, List.set_cons_succ]
  refine wpAnyH_take (i := 2) (oi := { dst := some 8, op := Go.Op.indexAddr 22 (Go.Operand.tmp 6) (Go.Operand.tmp 7), type := 0, pos := "lattice.go:566", after := #[{ on := 0, ground := Go.Ground.data }, { on := 1, ground := Go.Ground.data }], guard := none }) (v := ?_) rfl (by kernel_rfl) (by kernel_rfl) (by kernel_rfl) (fun _ _ _ h => h) (Or.inl ⟨by rfl, ?hy⟩) (by assumption) ?_
  case hy => (intro w9 hSw; (try dsimp only at hSw); go_simp; try with_reducible rfl)
  try simp only [Act.put, List.setIfInBounds_toArray, List.set_cons_zero, List.set_cons_succ]
  refine wpAnyH_take (i := 3) (oi := { dst := some 9, op := Go.Op.load 3 (Go.Operand.tmp 8), type := 3, pos := "lattice.go:566", after := #[{ on := 2, ground := Go.Ground.data }], guard := none }) (v := ?_) rfl (by kernel_rfl) (by kernel_rfl) (by kernel_rfl) (fun _ _ _ h => h) (Or.inl ⟨by rfl, ?hy⟩) (by assumption) ?_
  case hy => (intro w9 hSw; (try dsimp only at hSw); go_simp; try with_reducible rfl)
  try simp only [Act.put, List.setIfInBounds_toArray, List.set_cons_zero, List.set_cons_succ]
  refine wpAnyH_take (i := 4) (oi := { dst := some 10, op := Go.Op.load 22 (Go.Operand.tmp 2), type := 22, pos := "lattice.go:566", after := #[], guard := none }) (v := ?_) rfl (by kernel_rfl) (by kernel_rfl) (by kernel_rfl) (fun _ _ _ h => h) (Or.inl ⟨by rfl, ?hy⟩) (by assumption) ?_
  case hy => (intro w9 hSw; (try dsimp only at hSw); go_simp; try with_reducible rfl)
  try simp only [Act.put, List.setIfInBounds_toArray, List.set_cons_zero, List.set_cons_succ]
  refine wpAnyH_take (i := 5) (oi := { dst := some 11, op := Go.Op.move (Go.Operand.tmp 1), type := 3, pos := "lattice.go:566", after := #[], guard := none }) (v := ?_) rfl (by kernel_rfl) (by kernel_rfl) (by kernel_rfl) (fun _ _ _ h => h) (Or.inl ⟨by rfl, ?hy⟩) (by assumption) ?_
  case hy => (intro w9 hSw; (try dsimp only at hSw); go_simp; try with_reducible rfl)
  try simp only [Act.put, List.setIfInBounds_toArray, List.set_cons_zero, List.set_cons_succ]
  refine wpAnyH_take (i := 6) (oi := { dst := some 12, op := Go.Op.indexAddr 22 (Go.Operand.tmp 10) (Go.Operand.tmp 11), type := 0, pos := "lattice.go:566", after := #[{ on := 4, ground := Go.Ground.data }, { on := 5, ground := Go.Ground.data }], guard := none }) (v := ?_) rfl (by kernel_rfl) (by kernel_rfl) (by kernel_rfl) (fun _ _ _ h => h) (Or.inl ⟨by rfl, ?hy⟩) (by assumption) ?_
  case hy => (intro w9 hSw; (try dsimp only at hSw); go_simp; try with_reducible rfl)
  try simp only [Act.put, List.setIfInBounds_toArray, List.set_cons_zero, List.set_cons_succ]
  refine wpAnyH_take (i := 7) (oi := { dst := some 13, op := Go.Op.load 3 (Go.Operand.tmp 12), type := 3, pos := "lattice.go:566", after := #[{ on := 6, ground := Go.Ground.data }], guard := none }) (v := ?_) rfl (by kernel_rfl) (by kernel_rfl) (by kernel_rfl) (fun _ _ _ h => h) (Or.inl ⟨by rfl, ?hy⟩) (by assumption) ?_
  case hy => (intro w9 hSw; (try dsimp only at hSw); go_simp; try with_reducible rfl)
  try simp only [Act.put, List.setIfInBounds_toArray, List.set_cons_zero, List.set_cons_succ]
  refine wpAnyH_ready (rs := [8]) (by kernel_rfl) (by simp) ?_
  refine AllReadyH.cons (o := { dst := some 14, op := Go.Op.call { callee := Go.Callee.value (Go.Operand.func 28), args := #[Go.Operand.tmp 9, Go.Operand.tmp 13], argTypes := #[3, 3] }, type := 4, pos := "lattice.go:566", after := #[{ on := 3, ground := Go.Ground.data }, { on := 7, ground := Go.Ground.data }], guard := none }) rfl (fun K hK => ?_) AllReadyH.nil
  go_simp
  refine (inside_any (nth l x) (nth l y) _ (by omega) (by omega)).mono ?_
  rintro e w2 ⟨rfl, hw2⟩
  subst hw2
  refine hK.out _ _ ?_ (fun hHeld => ?_)
  · exact hHeld
  clear hK K
  try simp only [Act.put, List.setIfInBounds_toArray, List.set_cons_zero, List.set_cons_succ]
  refine wpAnyH_take (i := 9) (oi := { dst := some 5, op := Go.Op.assign (Go.Operand.tmp 14), type := 4, pos := "lattice.go:566", after := #[{ on := 8, ground := Go.Ground.data }, { on := 8, ground := Go.Ground.chain }, { on := 0, ground := Go.Ground.phase }, { on := 1, ground := Go.Ground.phase }, { on := 2, ground := Go.Ground.phase }, { on := 3, ground := Go.Ground.phase }, { on := 4, ground := Go.Ground.phase }, { on := 5, ground := Go.Ground.phase }, { on := 6, ground := Go.Ground.phase }, { on := 7, ground := Go.Ground.phase }, { on := 8, ground := Go.Ground.phase }], guard := none }) (v := ?_) rfl (by kernel_rfl) (by kernel_rfl) (by kernel_rfl) (fun _ _ _ h => h) (Or.inl ⟨by rfl, ?hy⟩) (by assumption) ?_
  case hy => (intro w9 hSw; (try dsimp only at hSw); go_simp; try with_reducible rfl)
  try simp only [Act.put, List.setIfInBounds_toArray, List.set_cons_zero, List.set_cons_succ]
  refine wpAnyH_done (by kernel_rfl) ?_ _
  try simp only [Act.put, List.setIfInBounds_toArray, List.set_cons_zero, List.set_cons_succ]
  go_wp2_with fail
  go_ret
  exact ⟨rfl, HKK.out⟩

theorem ctm_great {g : Nat → Nat} {n x y : Nat} (hn : n ≤ 10) (hx : x < (cuts g n).length) (hy : y < (cuts g n).length) : mZ (insB (cuts g n)) (cuts g n).length x y = (ctm g n x y : Nat) := by
  have hpw := pw_le n hn
  exact mZ_is (m := ctm g n) (fil_rises _ _) (fun k hk => by have := (cuts_at hk).1; omega) hx hy (ctm_is hx hy)
theorem ctj_least {g : Nat → Nat} {n x y : Nat} (hn : n ≤ 10) (hx : x < (cuts g n).length) (hy : y < (cuts g n).length) : jZ (insB (cuts g n)) (cuts g n).length x y = (ctj g n x y : Nat) := by
  have hpw := pw_le n hn
  obtain ⟨h1, h2⟩ := ctj_is (g := g) (n := n) (x := x) (y := y)
  have bx := (cuts_at hx).1
  have by' := (cuts_at hy).1
  refine jZ_is (fil_rises _ _) (fun k hk => by have := (cuts_at hk).1; omega) hx hy h1 (fun i hi => ?_) (fun k hk hs i hi => ?_)
  · rw [h2]
    refine cut_ext (Nat.or_lt_two_pow bx by') i ?_
    rw [Nat.testBit_or, Bool.or_eq_true]; exact hi
  · rw [h2] at hi
    have := cut_mono (g := g) (n := n) (s := nth (cuts g n) x ||| nth (cuts g n) y) (t := nth (cuts g n) k) (fun j hj => by rw [Nat.testBit_or, Bool.or_eq_true] at hj; exact hs j hj) i hi
    rw [(cuts_at hk).2] at this; exact this

theorem Row.set3 {X : World} {B : Nat} {a : Option Addr} {n : Nat} {f : Nat → Int} (h : Row X a n f) (u v y : Value) (hb : 0 < n → ∃ b off, a = some ⟨b, off, none⟩ ∧ b ≠ B) : Row (((X.setCell ⟨B, 0, none⟩ u).setCell ⟨B, 1, none⟩ v).setCell ⟨B, 2, none⟩ y) a n f := fun k hk => by
  obtain ⟨b, off, rfl, hc⟩ := h k hk
  obtain ⟨b', off', e, hne⟩ := hb (by omega)
  have e1 : b = b' := by injection e with e; injection e
  subst e1
  have ne : ∀ i : Nat, (⟨B, i, none⟩ : Addr) ≠ ⟨b, off + k, none⟩ := fun i e => hne (by injection e with e1 _; exact e1.symm)
  refine ⟨b, off, rfl, ?_⟩
  rw [World.cell?_setCell_other _ _ _ _ (ne _), World.cell?_setCell_other _ _ _ _ (ne _), World.cell?_setCell_other _ _ _ _ (ne _)]; exact hc
/-- What FillOf hands back. -/
def FoIs (q len B : Nat) (g : Nat → Nat) (e : Ending) (w' : World) : Prop :=
  ∃ T1 c1 T2 c2 R1 R2 pb pc, e = .returned (.tuple #[.agg #[.int .i64 (q : Int), .slice (some ⟨T1, 0, none⟩) q c1, .slice (some ⟨T2, 0, none⟩) q c2], .slice pb len pc]) ∧ Tb w' T1 0 q R1 (ctm g len) ∧ Tb w' T2 0 q R2 (ctj g len) ∧ ((B ≤ T1 ∧ B ≤ T2) ∧ ∀ k, k < q → B ≤ (R1 k).1 ∧ B ≤ (R2 k).1) ∧ Row w' pb len (fun k => (ctp g len k : Nat)) ∧ Fresh B pb len
set_option maxHeartbeats 8000000 in
theorem fillOf_any (a : Option Addr) (len cap : Nat) (g : Nat → Nat) (w : World) (h10 : len ≤ 10) (hg : ∀ k, k < len → g k < 1024) (hgp : ∀ k, k < len → g k < pw len) (hr : Row w a len (fun k => (g k : Nat))) (h40 : (cuts g len).length ≤ 40) :
    Calls Try.prog 19 #[.agg #[.int .i64 (len : Int), .slice a len cap]] w fun e w' => FoIs (cuts g len).length len w.heap.size g e w' ∧ Below w.heap.size w w' := by
  obtain ⟨W, HW⟩ : ∃ W, Hid (W = (w.alloc (.cells #[.int .i64 (len : Int), .slice a len cap] 24)).alloc (.cells #[.int .i64 0, .slice none 0 0, .slice none 0 0] 41)) := ⟨_, rfl⟩
  have B1 : Below w.heap.size w (w.alloc (.cells #[.int .i64 (len : Int), .slice a len cap] 24)) := (Below.refl _ _).alloc (Nat.le_refl _) _
  have B2 : Below w.heap.size w W := by rw [HW.out]; exact B1.alloc (by simp) _
  have K0 : Held W w.heap.size len a len cap (fun k => (g k : Nat)) := by rw [HW.out]; exact (Held.box hr).step ((Below.refl _ _).alloc (Nat.le_refl _) _)
  have Z0 : ZL W (w.heap.size + 1) := by
    rw [HW.out]
    have := ZL.new (w.alloc (.cells #[.int .i64 (len : Int), .slice a len cap] 24))
    rw [World.size_alloc] at this; exact this
  have HSZ : Hid (W.heap.size = w.heap.size + 2) := by rw [Hid, HW.out]; simp
  have HB0 : Hid (Below w.heap.size w W) := B2
  have HZ : Hid (ZL W (w.heap.size + 1)) := Z0
  have HK : Hid (Held W w.heap.size len a len cap (fun k => (g k : Nat))) := K0
  have HG : Hid (∀ k, k < len → g k < 1024) := hg
  have HGP : Hid (∀ k, k < len → g k < pw len) := hgp
  obtain ⟨l, HLE⟩ : ∃ l, Hid (l = cuts g len) := ⟨_, rfl⟩
  have hpw := pw_le len h10
  have HSS : Hid (∀ k, k < l.length → nth l k < 1024) := by rw [HLE.out]; exact fun k hk => by have := (cuts_at hk).1; omega
  have HM : Hid (∀ x y, x < l.length → y < l.length → mZ (insB l) l.length x y = (ctm g len x y : Nat)) := by rw [HLE.out]; exact fun x y hx hy => ctm_great h10 hx hy
  have HJ : Hid (∀ x y, x < l.length → y < l.length → jZ (insB l) l.length x y = (ctj g len x y : Nat)) := by rw [HLE.out]; exact fun x y hx hy => ctj_least h10 hx hy
  have HP1 : Hid (1 ≤ l.length) := by rw [HLE.out]; exact cuts_pos _ _
  have HLL : Hid (l.length ≤ 1024) := by rw [Hid, HLE.out]; omega
  have HRI : Hid (Rises l) := by rw [HLE.out]; exact fil_rises _ _
  have HPL : Hid (∀ p, p < len → ctp g len p < l.length ∧ nth l (ctp g len p) = upto g p) := fun p hp => by rw [HLE.out]; exact ctp_is HGP.out hp
  rw [← HLE.out] at h40 ⊢
  obtain ⟨q, HQ⟩ : ∃ q, Hid (q = l.length) := ⟨_, rfl⟩
  rw [← HQ.out] at h40 HM HJ HP1 HSS ⊢
  have k0 := K0.c0
  have k1 := K0.c1
  clear hr B1 B2 K0 Z0 hg hgp hpw
  go_enter Try.func19, Try.ntmps19
  go_wp2_with fail
  rw [← HW.out]
  go_wp2_with fail
  refine (cutsOf_any a len cap g _ h10 HG.out HK.out.row).mono ?_
  rintro e w1 ⟨⟨v, rfl, hv⟩, hb1⟩
  rw [← HLE.out] at hv
  obtain ⟨pa, pc, rfl, hpr⟩ := hv
  obtain ⟨w2, HW2⟩ : ∃ w2, Hid (w2 = w1.alloc (.cells #[.slice pa q pc] 22)) := ⟨_, rfl⟩
  have hb2 : Below w1.heap.size w1 w2 := by rw [HW2.out]; exact (Below.refl _ _).alloc (Nat.le_refl _) _
  have hc2 : w2.cell? ⟨w1.heap.size, 0, none⟩ = some (.slice pa q pc) := by rw [HW2.out]; simp
  have HC2 : Hid (w2.cell? ⟨w1.heap.size, 0, none⟩ = some (.slice pa q pc)) := hc2
  have HCL : Hid (Clo2 q 44 #[.pointer (some ⟨w1.heap.size, 0, none⟩)] (insB l) w2) := fo1_any q w1.heap.size l pa pc w2 hc2 (by rw [HQ.out]; exact hpr.below hb2) HSS.out
  have HPR2 : Hid (Row w2 pa l.length (fun k => ((nth l k : Nat) : Int))) := hpr.below hb2
  have HB2 : Hid (Below w.heap.size w w2) := Below.then (Below.then HB0.out hb1) hb2
  have HZ2 : Hid (ZL w2 (w.heap.size + 1)) := (HZ.out.step hb1).step hb2
  have HK2 : Hid (Held w2 w.heap.size len a len cap (fun k => (g k : Nat))) := (HK.out.step hb1).step hb2
  have HSZ2 : Hid (w.heap.size + 2 ≤ w2.heap.size) := by have h1 := hb1.size; have h2 := HSZ.out; have h3 := hb2.size; rw [Hid]; omega
  rw [← HQ.out]
  clear hb1 hb2 hpr HW k0 k1 hc2
  go_wp2_with fail
  rw [← HW2.out]
  clear HW2
  go_wp2_with fail
  refine (latticeOf_any q 44 _ (insB l) _ HP1.out h40 ent_fo HCL.out).mono ?_
  rintro e w3 ⟨ho, hb3⟩
  rcases ho with ⟨⟨x, y, hx, hy, hbad⟩, _⟩ | ⟨_, T1, c1, T2, c2, R1, R2, rfl, ht1, ht2, hT, hR⟩
  · rw [HM.out x y hx hy, HJ.out x y hx hy] at hbad; omega
  · obtain ⟨wb, HWB⟩ : ∃ wb, Hid (wb = w3.alloc (.cells #[.int .i64 (q : Int), .slice (some ⟨T1, 0, none⟩) q c1, .slice (some ⟨T2, 0, none⟩) q c2] 41)) := ⟨_, rfl⟩
    have hb4 : Below w3.heap.size w3 wb := by rw [HWB.out]; exact (Below.refl _ _).alloc (Nat.le_refl _) _
    have hb24 := Below.then hb3 hb4
    have HL4 : Hid (LB wb w3.heap.size (q : Int) (some ⟨T1, 0, none⟩) q c1 (some ⟨T2, 0, none⟩) q c2) := by rw [Hid, HWB.out]; exact LB.new _ _ _ _ _ _ _ _
    have HB4 : Hid (Below w.heap.size w wb) := Below.then HB2.out hb24
    have HZ4 : Hid (ZL wb (w.heap.size + 1)) := HZ2.out.step hb24
    have HK4 : Hid (Held wb w.heap.size len a len cap (fun k => (g k : Nat))) := HK2.out.step hb24
    have HC4 : Hid (wb.cell? ⟨w1.heap.size, 0, none⟩ = some (.slice pa q pc)) := cell_step hb24 HC2.out
    have HPR : Hid (∀ w', Below wb.heap.size wb w' → Row w' pa l.length (fun k => ((nth l k : Nat) : Int))) := fun w' h => (HPR2.out.below hb24).below h
    have HRB : Hid (∀ w', Below wb.heap.size wb w' → Row w' a len (fun k => ((g k : Nat) : Int))) := fun w' h => (HK4.out.step h).row
    have HT1 : Hid (Tb wb T1 0 q R1 (ctm g len)) := fun x hx => ⟨((ht1.step hb4) x hx).1, fun y hy => by have := ((ht1.step hb4) x hx).2 y hy; unfold mT at this; rw [HM.out x y hx hy] at this; exact this⟩
    have HT2 : Hid (Tb wb T2 0 q R2 (ctj g len)) := fun x hx => ⟨((ht2.step hb4) x hx).1, fun y hy => by have := ((ht2.step hb4) x hx).2 y hy; unfold jT at this; rw [HJ.out x y hx hy] at this; exact this⟩
    have HTT : Hid (w2.heap.size ≤ T1 ∧ w2.heap.size ≤ T2) := hT
    have HRR : Hid (∀ k, k < q → w2.heap.size ≤ (R1 k).1 ∧ w2.heap.size ≤ (R2 k).1) := hR
    have HSB : Hid (w.heap.size + 2 ≤ wb.heap.size) := by have h1 := hb24.size; have h2 := HSZ2.out; rw [Hid]; omega
    clear hb3 hb4 hb24 ht1 ht2 hT hR HCL HZ2 HK2 HC2 HPR2 HB2
    go_wp2_with fail
    rw [← HWB.out]
    clear HWB
    go_loopw [7, 8] (fun v i wx => ∃ k : Nat, k ≤ len ∧ i = .int .i64 k ∧ Hid (wx.ownsRow wb.heap.size 3 1 v k (rowVals (ctp g len) k)) ∧ Hid (Below wb.heap.size wb wx)) (fun _ i _ => len - (intOf i).toNat)
    case atStart => exact ⟨0, Nat.zero_le _, rfl, World.ownsRow_nil _ _ _ _, Below.refl _ _⟩
    case round =>
      obtain ⟨k, hk, rfl, HOW, HWX⟩ := hrel
      have hK := HK4.out.step HWX.out
      have k0 := hK.c0
      by_cases hlt : k < len
      · have hpl := HPL.out k hlt
        have hpk : pw k < 1024 := Nat.lt_of_lt_of_le (Nat.pow_lt_pow_right (by decide) hlt) (pw_le len h10)
        have HBP : Hid (bnd g len (pw k) false = upto g k) := bnd_point HGP.out hlt
        have l0 : ∀ w', Below wb.heap.size wb w' → w'.cell? ⟨w.heap.size, 0, none⟩ = some (.int .i64 (len : Int)) := fun w' h => (HK4.out.step h).c0
        have l1 : ∀ w', Below wb.heap.size wb w' → w'.cell? ⟨w.heap.size, 1, none⟩ = some (.slice a len cap) := fun w' h => (HK4.out.step h).c1
        have l2 : ∀ w', Below wb.heap.size wb w' → w'.cell? ⟨w1.heap.size, 0, none⟩ = some (.slice pa q pc) := fun w' h => cell_step h HC4.out
        clear hK
        go_wp2_with fail
        refine wp_lates (S := (fun w' => Below wb.heap.size wb w')) (late := (fun _ => false)) (by kernel_rfl) ?_
        have HOD : Hid (wr.drew.ownsRow wb.heap.size 3 1 u7 k (rowVals (ctp g len) k)) := owns_below HOW.out (Below.refl _ _).drew
        have HS : Hid (Below wb.heap.size wb wr.drew) := Below.then HWX.out (Below.refl _ _).drew
        refine lates_take (i := 0) (oi := { dst := some 24, op := Go.Op.move (Go.Operand.tmp 7), type := 22, pos := "lattice.go:569", after := #[], guard := none }) (v := ?_) rfl (by kernel_rfl) (by kernel_rfl) (by kernel_rfl) ⟨rfl, by kernel_rfl⟩ (fun _ _ _ h => h) (Or.inl ⟨by rfl, ?hy⟩) HS.out ?_
        case hy => (intro w9 hSw; skip; go_simp; try with_reducible rfl)
        try simp only [Act.put, List.setIfInBounds_toArray, List.set_cons_zero, List.set_cons_succ]
        refine lates_take (i := 1) (oi := { dst := some 25, op := Go.Op.load 22 (Go.Operand.tmp 4), type := 22, pos := "lattice.go:569", after := #[], guard := none }) (v := ?_) rfl (by kernel_rfl) (by kernel_rfl) (by kernel_rfl) ⟨rfl, by kernel_rfl⟩ (fun _ _ _ h => h) (Or.inl ⟨by rfl, ?hy⟩) HS.out ?_
        case hy => (intro w9 hSw; skip; go_simp; try with_reducible rfl)
        try simp only [Act.put, List.setIfInBounds_toArray, List.set_cons_zero, List.set_cons_succ]
        refine lates_take (i := 2) (oi := { dst := some 26, op := Go.Op.load 24 (Go.Operand.tmp 1), type := 24, pos := "lattice.go:569", after := #[], guard := none }) (v := ?_) rfl (by kernel_rfl) (by kernel_rfl) (by kernel_rfl) ⟨rfl, by kernel_rfl⟩ (fun _ _ _ h => h) (Or.inl ⟨by rfl, ?hy⟩) HS.out ?_
        case hy => (intro w9 hSw; skip; go_simp; try with_reducible rfl)
        try simp only [Act.put, List.setIfInBounds_toArray, List.set_cons_zero, List.set_cons_succ]
        refine lates_take (i := 3) (oi := { dst := some 27, op := Go.Op.move (Go.Operand.tmp 8), type := 3, pos := "lattice.go:569", after := #[], guard := none }) (v := ?_) rfl (by kernel_rfl) (by kernel_rfl) (by kernel_rfl) ⟨rfl, by kernel_rfl⟩ (fun _ _ _ h => h) (Or.inl ⟨by rfl, ?hy⟩) HS.out ?_
        case hy => (intro w9 hSw; skip; go_simp; try with_reducible rfl)
        try simp only [Act.put, List.setIfInBounds_toArray, List.set_cons_zero, List.set_cons_succ]
        refine lates_ready (rs := [4]) (by kernel_rfl) (by simp) ?_
        refine AllLate.cons (o := { dst := some 28, op := Go.Op.call { callee := Go.Callee.value (Go.Operand.func 26), args := #[Go.Operand.tmp 27], argTypes := #[3] }, type := 3, pos := "lattice.go:569", after := #[{ on := 3, ground := Go.Ground.data }], guard := none }) rfl (fun K hK => ?_) ?_
        · go_simp
          refine (bit_any k _ (by omega)).mono ?_
          rintro e w1 ⟨rfl, hww⟩
          subst hww
          refine hK.out _ _ (fun _ => ?_) ?_
          · exact HS.out

          clear hK K
          try simp only [Act.put, List.setIfInBounds_toArray, List.set_cons_zero, List.set_cons_succ]
          refine lates_ready (rs := [5]) (by kernel_rfl) (by simp) ?_
          refine AllLate.cons (o := { dst := some 29, op := Go.Op.call { callee := Go.Callee.value (Go.Operand.func 11), args := #[Go.Operand.tmp 26, Go.Operand.tmp 28, Go.Operand.const (Go.Value.bool false)], argTypes := #[24, 3, 4] }, type := 3, pos := "lattice.go:569", after := #[{ on := 2, ground := Go.Ground.data }, { on := 4, ground := Go.Ground.data }, { on := 4, ground := Go.Ground.chain }], guard := none }) rfl (fun K hK => ?_) ?_
          · go_simp
            refine (bound_any a len cap g (pw k) false _ h10 HG.out (HRB.out _ HS.out) hpk).mono ?_
            rintro e w2 ⟨rfl, hb2⟩
            rw [HBP.out]
            have HWw2 : Hid (Below wb.heap.size wb w2) := Below.then HS.out hb2
            have HO2 := (show Hid _ from owns_below HOD.out hb2)
            refine hK.out _ _ (fun _ => ?_) ?_
            · exact HWw2.out
            have HS : Hid (Below wb.heap.size wb w2) := HWw2.out
            clear hK K
            try simp only [Act.put, List.setIfInBounds_toArray, List.set_cons_zero, List.set_cons_succ]
            refine lates_ready (rs := [6]) (by kernel_rfl) (by simp) ?_
            refine AllLate.cons (o := { dst := some 30, op := Go.Op.call { callee := Go.Callee.value (Go.Operand.func 45), args := #[Go.Operand.tmp 25, Go.Operand.tmp 29], argTypes := #[22, 3] }, type := 3, pos := "lattice.go:569", after := #[{ on := 1, ground := Go.Ground.data }, { on := 5, ground := Go.Ground.data }, { on := 5, ground := Go.Ground.chain }], guard := none }) rfl (fun K hK => ?_) ?_
            · go_simp
              refine (rPlace_any l pa q pc (ctp g len k) (upto g k) _ HQ.out HLL.out (HPR.out _ HS.out) HRI.out hpl.1 hpl.2).mono ?_
              rintro e w3 ⟨rfl, hb3⟩
              have HWw3 : Hid (Below wb.heap.size wb w3) := Below.then HS.out hb3
              have HO3 := (show Hid _ from owns_below HO2.out hb3)
              refine hK.out _ _ (fun _ => ?_) ?_
              · exact HWw3.out
              have HS : Hid (Below wb.heap.size wb w3) := HWw3.out
              clear hK K
              try simp only [Act.put, List.setIfInBounds_toArray, List.set_cons_zero, List.set_cons_succ]
              refine lates_ready (rs := [7]) (by kernel_rfl) (by simp) ?_
              refine AllLate.cons (o := { dst := some 31, op := Go.Op.buildSlice 22 1 #[(0, Go.Operand.tmp 30)], type := 22, pos := "lattice.go:569", after := #[{ on := 6, ground := Go.Ground.data }], guard := none }) rfl (fun K hK => ?_) ?_
              · go_simp
                have HWw4 : Hid (Below wb.heap.size wb (w3.alloc (.cells #[.int .i64 (ctp g len k : Nat)] 3))) := HWw3.out.alloc HWw3.out.size _
                have HO4 := (show Hid _ from owns_below HO3.out ((Below.refl w3.heap.size w3).alloc (Nat.le_refl _) (.cells #[.int .i64 (ctp g len k : Nat)] 3)))
                have hcell : (w3.alloc (.cells #[.int .i64 (ctp g len k : Nat)] 3)).cell? ⟨w3.heap.size, 0, none⟩ = some (.int .i64 (ctp g len k : Nat)) := by simp
                refine hK.out _ _ (fun _ => ?_) ?_
                · exact HWw4.out
                have HS : Hid (Below wb.heap.size wb (w3.alloc (.cells #[.int .i64 (ctp g len k : Nat)] 3))) := HWw4.out
                clear hK K
                try simp only [Act.put, List.setIfInBounds_toArray, List.set_cons_zero, List.set_cons_succ]
                refine lates_ready (rs := [8]) (by kernel_rfl) (by simp) ?_
                refine AllLate.cons (o := { dst := some 32, op := Go.Op.call { callee := Go.Callee.builtin Go.Builtin.append, args := #[Go.Operand.tmp 24, Go.Operand.tmp 31], argTypes := #[22, 22] }, type := 22, pos := "lattice.go:569", after := #[{ on := 0, ground := Go.Ground.data }, { on := 7, ground := Go.Ground.data }, { on := 6, ground := Go.Ground.chain }], guard := none }) rfl (fun K hK => ?_) ?_
                · rw [if_pos (by rfl)]
                  refine wp_grow _ _ _ rfl wb.heap.size u7 k _ rfl HO4.out w3.heap.size _ rfl hcell (by omega) HWw4.out.size ?_
                  intro v5 w5 hown5 hgrow5 hblk5
                  have HWw5 : Hid (Below wb.heap.size wb w5) := HWw4.out.grown hgrow5 HWw4.out.size (owns_block HO4.out)
                  refine hK.out _ _ (fun _ => ?_) ?_
                  · exact HWw5.out
                  have HS : Hid (Below wb.heap.size wb w5) := HWw5.out
                  clear hK K
                  try simp only [Act.put, List.setIfInBounds_toArray, List.set_cons_zero, List.set_cons_succ]
                  refine lates_take (i := 9) (oi := { dst := some 7, op := Go.Op.assign (Go.Operand.tmp 32), type := 22, pos := "lattice.go:569", after := #[{ on := 8, ground := Go.Ground.data }, { on := 8, ground := Go.Ground.chain }, { on := 0, ground := Go.Ground.phase }, { on := 1, ground := Go.Ground.phase }, { on := 2, ground := Go.Ground.phase }, { on := 3, ground := Go.Ground.phase }, { on := 4, ground := Go.Ground.phase }, { on := 5, ground := Go.Ground.phase }, { on := 6, ground := Go.Ground.phase }, { on := 7, ground := Go.Ground.phase }, { on := 8, ground := Go.Ground.phase }], guard := none }) (v := ?_) rfl (by kernel_rfl) (by kernel_rfl) (by kernel_rfl) ⟨rfl, by kernel_rfl⟩ (fun _ _ _ h => h) (Or.inl ⟨by rfl, ?hy⟩) HS.out ?_
                  case hy => (intro w9 hSw; skip; go_simp; try with_reducible rfl)
                  try simp only [Act.put, List.setIfInBounds_toArray, List.set_cons_zero, List.set_cons_succ]
                  refine lates_done (by kernel_rfl) ?_ _
                  try simp only [Act.put, List.setIfInBounds_toArray, List.set_cons_zero, List.set_cons_succ]
                  have HO6 : Hid (w5.ownsRow wb.heap.size 3 1 v5 (k + 1) (rowVals (ctp g len) (k + 1))) := by rw [Hid, rowVals_succ]; exact hown5
                  clear hown5 hgrow5 hblk5 HO4 HO3 HO2 HOD HOW HWX l0 l1 l2 hpl hcell k0
                  go_wp2_with fail
                  go_roundw
                  case rel => exact ⟨k + 1, by omega, by go_num, HO6.out, HWw5.out⟩
                  case measure => simp [intOf]; omega
                exact AllLate.nil
              exact AllLate.nil
            exact AllLate.nil
          exact AllLate.nil
        exact AllLate.nil
      · obtain rfl : k = len := by omega
        obtain ⟨pb, pcc, rfl, hprow⟩ := owns_row HOW.out
        have hL := HL4.out.step HWX.out
        have p0 := hL.1
        have p1 := hL.2.1
        have p2 := hL.2.2
        obtain ⟨⟨d0, d1, d2⟩, f0, f1, f2⟩ := HZ4.out.step HWX.out
        have HTF1 : Hid (Tb wr T1 0 q R1 (ctm g k)) := HT1.out.step HWX.out
        have HTF2 : Hid (Tb wr T2 0 q R2 (ctj g k)) := HT2.out.step HWX.out
        have HBF : Hid (Below w.heap.size w wr) := Below.then HB4.out HWX.out
        have HPF : Hid (Fresh wb.heap.size pb k) := fun hk0 => by
          obtain ⟨bb, cc, e⟩ := owns_form HOW.out hk0
          have e2 : pb = some ⟨bb, 0, none⟩ := by injection e
          exact ⟨bb, 0, e2, owns_block HOW.out bb (by rw [e2]; rfl)⟩
        have HPW : Hid (Row wr pb k (fun i => ((ctp g k i : Nat) : Int))) := hprow
        have hs2 := HSZ2.out
        have hsb := HSB.out
        have htt := HTT.out
        clear hL hK HOW HWX hprow
        go_wp2_with fail
        refine bodyPost_ret (v := .tuple #[.agg #[.int .i64 (q : Int), .slice (some ⟨T1, 0, none⟩) q c1, .slice (some ⟨T2, 0, none⟩) q c2], .slice pb k pcc]) ?_ rfl ⟨⟨T1, c1, T2, c2, R1, R2, pb, pcc, rfl, ?_, ?_, ⟨⟨by omega, by omega⟩, fun i hi => by have := HRR.out i hi; exact ⟨by omega, by omega⟩⟩, ?_, HPF.out.mono (by omega)⟩, ?_⟩
        · simp [results, Try.results19, go_sem, d0, d1, d2]
        · exact HTF1.out.set3 _ _ _ (by omega) (fun x hx => by have := HRR.out x hx; omega)
        · exact HTF2.out.set3 _ _ _ (by omega) (fun x hx => by have := HRR.out x hx; omega)
        · exact HPW.out.set3 _ _ _ (fun hk0 => by
            obtain ⟨bb, off, e, hge⟩ := HPF.out hk0
            exact ⟨bb, off, e, by omega⟩)
        · exact set3B HBF.out (Nat.le_succ _)
end Go.Proofs.Ytkcogfjlpbfckaa
