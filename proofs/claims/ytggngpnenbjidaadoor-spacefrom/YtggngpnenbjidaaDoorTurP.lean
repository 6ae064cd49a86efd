/-
  What the function literal of space.Turns does, which calls itself: from what was met it goes on to all that comes of a set. Conditions: a good order; the table of the least bits.
-/
import Derived.Maps.OwnSet
import Derived.Maps.OwnOps
import Derived.Laws.EntriesVeiled
import Derived.Test.YtggngpnenbjidaaDoorTurM
import Derived.Test.YtggngpnenbjidaaDoorSpC
namespace Go.Proofs.YtggngpnenbjidaaDoor
open Go.RowKit Go.Maps

theorem keyedI : Keyed Tryd.prog 3 := int_keyed Tryd.underlying3
theorem zeroI (w : World) : (zeroValue 3).run Tryd.prog w = .ok (.int .i64 0) w := by kernel_rfl
/-- The key of a number. -/
def kI (x : Nat) : Lit := .int .i64 (x : Int)
theorem kI_ne {x y : Nat} (h : x ≠ y) : kI x ≠ kI y := by
  unfold kI; intro e
  simp only [Lit.int.injEq, true_and] at e
  omega
theorem kI_key (x : Nat) : WideAt.IsKeyLit (kI x) := trivial
theorem small_wf {n : Nat} (h : n ≤ 100000) : (Lit.int .i64 (n : Int)).wf = true := WalkArith.wf_i64 (by omega)
theorem owns_tight {W : World} {Bm k : Nat} {D : DataW Unit} (h : W.ownsMap Tryd.prog 3 (plainElem Tryd.prog 3) Bm k D) : W.ownsMap Tryd.prog 3 (plainElem Tryd.prog 3) Bm (Maps.size D) D := by
  obtain ⟨es, clock, hb, F, _, rfl⟩ := h
  exact ⟨es, clock, hb, F, by rw [size_eq, length_read]; exact Nat.le_refl _, rfl⟩
/-- All but the block A is as it was. -/
structure But (A : Nat) (w w' : World) : Prop where
  os : w'.os = w.os
  tape : w'.tape = w.tape
  output : w'.output = w.output
  size : w.heap.size ≤ w'.heap.size
  block : ∀ k, k < w.heap.size → k ≠ A → w'.heap[k]? = w.heap[k]?
theorem But.refl (A : Nat) (w : World) : But A w w := ⟨rfl, rfl, rfl, Nat.le_refl _, fun _ _ _ => rfl⟩
theorem But.trans {A : Nat} {a b c : World} (h : But A a b) (k : But A b c) : But A a c :=
  ⟨k.os.trans h.os, k.tape.trans h.tape, k.output.trans h.output, Nat.le_trans h.size k.size, fun i hi ha => (k.block i (Nat.lt_of_lt_of_le hi h.size) ha).trans (h.block i hi ha)⟩
theorem But.of {A : Nat} {w w' : World} (h : Below w.heap.size w w') : But A w w' := ⟨h.os, h.tape, h.output, h.size, fun k hk _ => h.block k hk⟩
theorem But.cell {A : Nat} {w w' : World} (h : But A w w') {p : Addr} (hp : p.block < w.heap.size) (ha : p.block ≠ A) : w'.cell? p = w.cell? p := World.cell?_of_block (w := w) (h.block p.block hp ha)
theorem But.drew (A : Nat) (w : World) : But A w w.drew := But.of ((Below.refl _ _).drew)
theorem But.grown {A : Nat} {w w' : World} (h : w.grownBy w' (some A)) : But A w w' := ⟨h.os, h.tape, h.output, h.size, fun k hk ha => h.block k hk (fun e => ha (by injection e))⟩
theorem But.belowOf {A B : Nat} {w0 w w' : World} (h : But A w w') (hb : Below B w0 w) (hA : B ≤ A) (hB : B ≤ w.heap.size) : Below B w0 w' := hb.trans ⟨h.os, h.tape, h.output, h.size, fun k hk => h.block k (by omega) (by omega)⟩
/-- What the map holds: M was met, no number in it is above t. -/
structure TOk (m Bm : Nat) (W : World) (D : DataW Unit) (M : Nat → Bool) (t : Nat) : Prop where
  own : W.ownsMap Tryd.prog 3 (plainElem Tryd.prog 3) Bm (Maps.size D) D
  cnt : Maps.size D = cntT M m
  has : ∀ v : Nat, Maps.has D (kI v) = true ↔ M v = true
  val : ∀ v : Nat, M v = true → ∃ c : Nat, D.atKey (kI v) (.lit (.int .i64 0)) = .lit (.int .i64 (c : Int)) ∧ 1 ≤ c ∧ c ≤ t
  non : ∀ v : Nat, M v = false → D.atKey (kI v) (.lit (.int .i64 0)) = .lit (.int .i64 0)
  small : ∀ v : Nat, M v = true → v < m
theorem TOk.below2 {m Bm : Nat} {W W' : World} {D : DataW Unit} {M : Nat → Bool} {t : Nat} (h : TOk m Bm W D M t) (hb : Below W.heap.size W W') : TOk m Bm W' D M t :=
  ⟨h.own.kept (row := none) ⟨hb.os, hb.tape, hb.output, hb.size, fun k hk _ => hb.block k hk⟩ (by simp), h.cnt, h.has, h.val, h.non, h.small⟩
theorem TOk.drew {m Bm : Nat} {W : World} {D : DataW Unit} {M : Nat → Bool} {t : Nat} (h : TOk m Bm W D M t) : TOk m Bm W.drew D M t := ⟨h.own.drew, h.cnt, h.has, h.val, h.non, h.small⟩
theorem cell_ne {m Bm : Nat} {W : World} {D : DataW Unit} {M : Nat → Bool} {t : Nat} (h : TOk m Bm W D M t) {p : Addr} {v : Value} (hc : W.cell? p = some v) : p.block ≠ Bm := by
  intro e
  obtain ⟨es, clock, hb, _⟩ := h.own
  unfold World.cell? at hc
  rw [e, hb] at hc
  simp at hc
theorem cntT_none : ∀ k, cntT (fun _ => false) k = 0
  | 0 => rfl
  | k + 1 => by unfold cntT; rw [cntT_none k]; rfl
theorem TOk.made (m : Nat) (w : World) : TOk m w.heap.size (w.alloc (.map #[] 0)) (.map []) (fun _ => false) 0 :=
  ⟨World.ownsMap_made _ _ _ _, (cntT_none m).symm, fun v => (by simp [has_eq]), fun v h => (by cases h), fun v _ => rfl, fun v h => (by cases h)⟩
theorem TOk.put {m Bm n c : Nat} {W W' : World} {D : DataW Unit} {M : Nat → Bool} {t s : Nat} (h : TOk m Bm W D M t) (hs : s < m) (hc1 : 1 ≤ c) (hc2 : c ≤ t + 1)
    (ho : W'.ownsMap Tryd.prog 3 (plainElem Tryd.prog 3) Bm n (D.put (kI s) (.lit (.int .i64 (c : Int))))) : TOk m Bm W' (D.put (kI s) (.lit (.int .i64 (c : Int)))) (putB M s) (t + 1) := by
  refine ⟨owns_tight ho, ?_, fun v => ?_, fun v hv => ?_, fun v hv => ?_, fun v hv => ?_⟩
  · rw [size_put (h.own.tidy keyedI), h.cnt]
    cases e : M s
    · have hh : Maps.has D (kI s) = false := by
        cases hb : Maps.has D (kI s)
        · rfl
        · rw [(h.has s).1 hb] at e; cases e
      rw [hh, cntT_put e m hs]; rfl
    · rw [(h.has s).2 e]
      exact cntT_congr m fun x _ => by
        unfold putB
        by_cases ex : x = s
        · subst ex; rw [e]; rfl
        · simp [ex]
  · by_cases e : v = s
    · subst e
      rw [has_put_same h.own.isMap (kI_key _)]
      simp [putB_self]
    · rw [has_put_other (kI_ne e), h.has]
      simp [putB, e]
  · by_cases e : v = s
    · subst e
      exact ⟨c, atKey_put_same h.own.isMap (kI_key _) _ _, hc1, hc2⟩
    · have hv' : M v = true := by
        rcases putB_iff.1 hv with h1 | h1
        · exact h1
        · exact absurd h1 e
      obtain ⟨c', h1, h2, h3⟩ := h.val v hv'
      exact ⟨c', by rw [atKey_put_other (kI_ne e)]; exact h1, h2, by omega⟩
  · have e : v ≠ s := fun e => by subst e; rw [putB_self] at hv; cases hv
    rw [atKey_put_other (kI_ne e)]
    refine h.non v ?_
    cases hm : M v
    · rfl
    · rw [putB_old hm] at hv; cases hv
  · rcases putB_iff.1 hv with h1 | rfl
    · exact h.small v h1
    · exact hs
theorem But.keep {m Bm : Nat} {W w' : World} {D : DataW Unit} {M : Nat → Bool} {t : Nat} (hb : But Bm W w') (h : TOk m Bm W D M t) {p : Addr} {v : Value} (hc : W.cell? p = some v) : w'.cell? p = some v :=
  (hb.cell (World.block_lt_of_cell? _ _ hc) (cell_ne h hc)).trans hc
theorem But.row {m Bm : Nat} {W w' : World} {D : DataW Unit} {M : Nat → Bool} {t : Nat} (hb : But Bm W w') (h : TOk m Bm W D M t) {a : Option Addr} {len : Nat} {f : Nat → Int} (hr : Row W a len f) : Row w' a len f := fun k hk => by
  obtain ⟨b, off, e, hc⟩ := hr k hk
  exact ⟨b, off, e, hb.keep h hc⟩
theorem But.held {m Bm : Nat} {W w' : World} {D : DataW Unit} {M : Nat → Bool} {t : Nat} (hb : But Bm W w') (h : TOk m Bm W D M t) {B : Nat} {n : Int} {a : Option Addr} {len cap : Nat} {f : Nat → Int} (hr : Held W B n a len cap f) : Held w' B n a len cap f :=
  ⟨hb.keep h hr.c0, hb.keep h hr.c1, hb.row h hr.row⟩
theorem But.tab {m Bm : Nat} {W w' : World} {D : DataW Unit} {M : Nat → Bool} {t : Nat} (hb : But Bm W w') (h : TOk m Bm W D M t) (hT : Tab W) : Tab w' := fun j hj => hb.keep h (hT j hj)
theorem ent_turn (args : Array Value) (w : World) : Sem.run Tryd.prog (callFunc 51 args) w = .ok (.enter 51 args) w := by kernel_rfl
/-- What the literal does. -/
def TurnPost (g : Nat → Nat) (len Bm : Nat) (s : Nat) (M : Nat → Bool) (t : Nat) (W : World) (w' : World) : Prop :=
  ∃ (M' : Nat → Bool) (D' : DataW Unit) (t' : Nat), TOk (pw len) Bm w' D' M' t' ∧ t' + 2 * cntT M (pw len) ≤ t + 1 + 2 * cntT M' (pw len) ∧ Met (clo g) (rst len) (pw len) s M M' ∧ But Bm W w'

/-- The literal's contract, where r sets at most were not met. -/
def TurnAt (a : Option Addr) (len cap : Nat) (g : Nat → Nat) (B2 B7 B8 Bm r : Nat) : Prop := ∀ (M : Nat → Bool) (D : DataW Unit) (t s : Nat) (w : World),
    pw len ≤ cntT M (pw len) + r → s < pw len → TOk (pw len) Bm w D M t → t + 2 * pw len + 1 ≤ 100000 + 2 * cntT M (pw len) → Held w B2 len a len cap (fun k => (g k : Nat)) →
    w.cell? ⟨B8, 0, none⟩ = some (.func (.func 51) #[] #[.pointer (some ⟨B7, 0, none⟩), .pointer (some ⟨B8, 0, none⟩), .pointer (some ⟨B2, 0, none⟩)]) → w.cell? ⟨B7, 0, none⟩ = some (.map (some Bm)) → Tab w →
    Calls Tryd.prog 51 #[.int .i64 (s : Nat), .pointer (some ⟨B7, 0, none⟩), .pointer (some ⟨B8, 0, none⟩), .pointer (some ⟨B2, 0, none⟩)] w fun e w' => e = .returned (.tuple #[]) ∧ TurnPost g len Bm s M t w w'

set_option maxHeartbeats 4000000 in
theorem turn_step (a : Option Addr) (len cap : Nat) (g : Nat → Nat) (B2 B7 B8 Bm : Nat) (h10 : len ≤ 10) (hg : ∀ k, k < len → g k < pw len) (r : Nat) (ih : ∀ r', r' + 1 = r → TurnAt a len cap g B2 B7 B8 Bm r') : TurnAt a len cap g B2 B7 B8 Bm r := by
  intro M D t s w hr hs hk ht hH cF cM hT
  have HG : Hid (∀ k, k < len → g k < pw len) := hg
  have hpl := pw_le len h10
  have hcl := cntT_le M (pw len)
  have hown := hk.own
  have hsz := hk.cnt
  have hkey : keyOf Tryd.prog 3 (.int .i64 ((s : Nat) : Int)) = some (kI s) := keyOf_int_mk Tryd.underlying3 (small_wf (by omega))
  have hsm : Maps.size D < maxLen := by rw [hsz]; unfold maxLen; omega
  obtain ⟨c, hva, hct, hc0⟩ : ∃ c : Nat, D.atKey (kI s) (.lit (.int .i64 0)) = .lit (.int .i64 (c : Int)) ∧ c ≤ t ∧ (1 ≤ c ↔ M s = true) := by
    cases e : M s
    · exact ⟨0, hk.non s e, Nat.zero_le _, by simp⟩
    · obtain ⟨c, h1, h2, h3⟩ := hk.val s e
      exact ⟨c, h1, h3, by simp [h2]⟩
  have hwf := small_wf (n := c + 1) (by omega)
  have hcc : ((c + 1 : Nat) : Int) = (c : Int) + 1 := by omega
  rw [hcc] at hwf
  have HPUT : Hid (∀ (W' : World) (n : Nat), W'.ownsMap Tryd.prog 3 (plainElem Tryd.prog 3) Bm n (D.put (kI s) (.lit (.int .i64 ((c : Int) + 1)))) → TOk (pw len) Bm W' (D.put (kI s) (.lit (.int .i64 ((c : Int) + 1)))) (putB M s) (t + 1)) := fun W' n h => by
    rw [← hcc] at h ⊢
    exact hk.put hs (by omega) (by omega) h
  have hput := atKey_put_same hown.isMap (kI_key s) (.lit (.int .i64 ((c : Int) + 1))) (.lit (.int .i64 0))
  have IH0 : Hid (∀ r', r' + 1 = r → TurnAt a len cap g B2 B7 B8 Bm r') := ih
  have HK : Hid (TOk (pw len) Bm w D M t) := hk
  have HH : Hid (Held w B2 len a len cap (fun k => (g k : Nat))) := hH
  have HT : Hid (Tab w) := hT
  clear ih hk hH hT
  go_enter Tryd.func51, Tryd.ntmps51
  generalize hC : Code.region 1 _ false = C
  go_wp2_with (first
    | (at_lookup; refine wpList_lookup_own_int _ rfl _ _ 65 rfl 3 3 .i64 keyedI Tryd.underlying65 Tryd.underlying3 (zeroI _) Bm _ _ rfl hown _ _ rfl hkey ?_; intro c0 hat hwc; rw [hva] at hat; simp only [DataW.lit.injEq, Lit.int.injEq, true_and] at hat; subst hat)
    | (at_mapUpdate; refine wpList_mapUpdate_own _ rfl _ _ _ 65 rfl 3 3 keyedI Tryd.underlying65 _ Bm _ _ rfl hown hsm _ _ _ rfl rfl hkey _ [] (plainElem_int Tryd.underlying3 hwf) ?_; intro W hown4 hgrow4))
  have HKW : Hid (TOk (pw len) Bm W (D.put (kI s) (.lit (.int .i64 ((c : Int) + 1)))) (putB M s) (t + 1)) := HPUT.out _ _ hown4
  have HK1 : Hid (TOk (pw len) Bm W.drew (D.put (kI s) (.lit (.int .i64 ((c : Int) + 1)))) (putB M s) (t + 1)) := HKW.out.drew
  have hbW : But Bm w W := But.grown hgrow4
  have HBW : Hid (But Bm w W) := hbW
  have HH1 : Hid (Held W B2 len a len cap (fun k => (g k : Nat))) := hbW.held HK.out HH.out
  have HT1' : Hid (Tab W) := hbW.tab HK.out HT.out
  have cF1 := hbW.keep HK.out cF
  have cM1 := hbW.keep HK.out cM
  clear HPUT hgrow4 hbW cF cM HH HT hown hwc
  rw [← hC]
  clear hC C
  cases hM : M s
  · obtain rfl : c = 0 := by
      rcases Nat.eq_zero_or_pos c with h | h
      · exact h
      · rw [hc0.1 h] at hM; cases hM
    have hcp := cntT_put hM (pw len) hs
    have hcp2 := cntT_le (putB M s) (pw len)
    obtain ⟨r', rfl⟩ : ∃ r', r = r' + 1 := ⟨r - 1, by omega⟩
    have IH : Hid (TurnAt a len cap g B2 B7 B8 Bm r') := IH0.out r' rfl
    have HR1 : Hid (pw len ≤ cntT (putB M s) (pw len) + r') := by show _ ≤ _; omega
    have HT1 : Hid (t + 1 + 2 * pw len + 1 ≤ 100000 + 2 * cntT (putB M s) (pw len)) := by show _ ≤ _; omega
    have HCP : Hid (cntT (putB M s) (pw len) = cntT M (pw len) + 1) := hcp
    have HTT : Hid (t + 2 * pw len + 1 ≤ 100000 + 2 * cntT M (pw len)) := ht
    have HRR : Hid (pw len ≤ cntT M (pw len) + (r' + 1)) := hr
    have LR : Hid (∀ w', But Bm W w' → Row w' a len (fun k => ((g k : Nat) : Int))) := fun w' h => h.row HKW.out HH1.out.row
    have LH : Hid (∀ w', But Bm W w' → Held w' B2 len a len cap (fun k => ((g k : Nat) : Int))) := fun w' h => h.held HKW.out HH1.out
    have LT : Hid (∀ w', But Bm W w' → Tab w') := fun w' h => h.tab HKW.out HT1'.out
    have lF : ∀ w', But Bm W w' → w'.cell? ⟨B8, 0, none⟩ = some (.func (.func 51) #[] #[.pointer (some ⟨B7, 0, none⟩), .pointer (some ⟨B8, 0, none⟩), .pointer (some ⟨B2, 0, none⟩)]) := fun w' h => h.keep HKW.out cF1
    have lM : ∀ w', But Bm W w' → w'.cell? ⟨B7, 0, none⟩ = some (.map (some Bm)) := fun w' h => h.keep HKW.out cM1
    have l0 : ∀ w', But Bm W w' → w'.cell? ⟨B2, 0, none⟩ = some (.int .i64 (len : Int)) := fun w' h => (LH.out w' h).c0
    have l1 : ∀ w', But Bm W w' → w'.cell? ⟨B2, 1, none⟩ = some (.slice a len cap) := fun w' h => (LH.out w' h).c1
    have KK : But Bm W W.drew := But.drew _ _
    clear hcp hcp2 ht hr hva hct hc0 hcc hM hsz hcl
    go_wp2_with (at_lookup; refine wpList_lookup_own_int _ rfl _ _ 65 rfl 3 3 .i64 keyedI Tryd.underlying65 Tryd.underlying3 (zeroI _) Bm _ _ rfl hown4 _ _ rfl hkey ?_; intro c0 hat hwc; rw [hput] at hat; simp only [DataW.lit.injEq, Lit.int.injEq, true_and] at hat; subst hat)
    clear hown4 hput hkey hwf hwc hsm
    refine wp_region_held_drew (S := (fun w' => But Bm W w')) (by kernel_rfl) (KK) (fun hHeld => ?_)
    refine wpAnyH_take (i := 0) (oi := { dst := some 13, op := Go.Op.load 66 (Go.Operand.tmp 2), type := 66, pos := "space.go:93", after := #[], guard := none }) (v := ?_) rfl (by kernel_rfl) (by kernel_rfl) (by kernel_rfl) (fun _ _ _ h => h) (Or.inl ⟨by rfl, ?hy⟩) (by assumption) ?_
    case hy => (intro w9 hSw; (try dsimp only at hSw); go_simp; try with_reducible rfl)
    try simp only [Act.put, List.setIfInBounds_toArray, List.set_cons_zero, List.set_cons_succ]
    refine wpAnyH_take (i := 1) (oi := { dst := some 14, op := Go.Op.load 24 (Go.Operand.tmp 3), type := 24, pos := "space.go:93", after := #[], guard := none }) (v := ?_) rfl (by kernel_rfl) (by kernel_rfl) (by kernel_rfl) (fun _ _ _ h => h) (Or.inl ⟨by rfl, ?hy⟩) (by assumption) ?_
    case hy => (intro w9 hSw; (try dsimp only at hSw); go_simp; try with_reducible rfl)
    try simp only [Act.put, List.setIfInBounds_toArray, List.set_cons_zero, List.set_cons_succ]
    refine wpAnyH_take (i := 2) (oi := { dst := some 15, op := Go.Op.move (Go.Operand.tmp 0), type := 3, pos := "space.go:93", after := #[], guard := none }) (v := ?_) rfl (by kernel_rfl) (by kernel_rfl) (by kernel_rfl) (fun _ _ _ h => h) (Or.inl ⟨by rfl, ?hy⟩) (by assumption) ?_
    case hy => (intro w9 hSw; (try dsimp only at hSw); go_simp; try with_reducible rfl)
    try simp only [Act.put, List.setIfInBounds_toArray, List.set_cons_zero, List.set_cons_succ]
    refine wpAnyH_ready (rs := [3]) (by kernel_rfl) (by simp) ?_
    refine AllReadyH.cons (o := { dst := some 16, op := Go.Op.call { callee := Go.Callee.value (Go.Operand.func 47), args := #[Go.Operand.tmp 14, Go.Operand.tmp 15], argTypes := #[24, 3] }, type := 3, pos := "space.go:93", after := #[{ on := 1, ground := Go.Ground.data }, { on := 2, ground := Go.Ground.data }], guard := none }) rfl (fun K hK => ?_) AllReadyH.nil
    go_simp
    refine (closure_any a len cap g s _ h10 HG.out (LR.out _ (by assumption)) hs (LT.out _ (by assumption))).mono ?_
    rintro e w5 ⟨rfl, hb5⟩
    refine hK.out _ _ ?_ (fun hHeld => ?_)
    · first | assumption | exact But.trans (by assumption) (But.of (by assumption)) | exact But.trans (by assumption) (by assumption)
    clear hK K
    try simp only [Act.put, List.setIfInBounds_toArray, List.set_cons_zero, List.set_cons_succ]
    refine wpAnyH_ready (rs := [4]) (by kernel_rfl) (by simp) ?_
    refine AllReadyH.cons (o := { dst := some 17, op := Go.Op.call { callee := Go.Callee.value (Go.Operand.tmp 13), args := #[Go.Operand.tmp 16], argTypes := #[3] }, type := 0, pos := "space.go:93", after := #[{ on := 0, ground := Go.Ground.data }, { on := 3, ground := Go.Ground.data }, { on := 3, ground := Go.Ground.chain }], guard := none }) rfl (fun K hK => ?_) AllReadyH.nil
    go_simp
    refine (IH.out _ _ _ (clo g s) w5 HR1.out (clo_lt HG.out hs) (HK1.out.below2 hb5) HT1.out (LH.out _ (by assumption)) (lF _ (by assumption)) (lM _ (by assumption)) (LT.out _ (by assumption))).mono ?_
    rintro e w6 ⟨rfl, M2, D2, t2, hk2, ht2, hmet2, hb6⟩
    refine hK.out _ _ ?_ (fun hHeld => ?_)
    · first | assumption | exact But.trans (by assumption) (But.of (by assumption)) | exact But.trans (by assumption) (by assumption)
    clear hK K
    try simp only [Act.put, List.setIfInBounds_toArray, List.set_cons_zero, List.set_cons_succ]
    refine wpAnyH_done (by kernel_rfl) ?_ _
    try simp only [Act.put, List.setIfInBounds_toArray, List.set_cons_zero, List.set_cons_succ]
    have HK2 : Hid (TOk (pw len) Bm w6.drew D2 M2 t2) := hk2.drew
    have HM2 : Hid (cntT (putB M s) (pw len) ≤ cntT M2 (pw len)) := cntT_sub _ fun x _ hx => hmet2.more x hx
    have HR2 : Hid (pw len ≤ cntT M2 (pw len) + r') := by have h1 := HM2.out; have h2 := HR1.out; show _ ≤ _; omega
    have HT2 : Hid (t2 + 2 * pw len + 1 ≤ 100000 + 2 * cntT M2 (pw len)) := by have h1 := HCP.out; have h2 := HTT.out; show _ ≤ _; omega
    have HME2 : Hid (Met (clo g) (rst len) (pw len) (clo g s) (putB M s) M2) := hmet2
    have HTE2 : Hid (t2 + 2 * cntT (putB M s) (pw len) ≤ t + 1 + 1 + 2 * cntT M2 (pw len)) := ht2
    clear hk2 hmet2 ht2 hb6 hb5
    go_wp2_with fail
    refine wp_region_held_drew (S := (fun w' => But Bm W w')) (by kernel_rfl) (But.trans (by assumption) (But.drew _ _)) (fun hHeld => ?_)
    refine wpAnyH_take (i := 0) (oi := { dst := some 18, op := Go.Op.load 66 (Go.Operand.tmp 2), type := 66, pos := "space.go:94", after := #[], guard := none }) (v := ?_) rfl (by kernel_rfl) (by kernel_rfl) (by kernel_rfl) (fun _ _ _ h => h) (Or.inl ⟨by rfl, ?hy⟩) (by assumption) ?_
    case hy => (intro w9 hSw; (try dsimp only at hSw); go_simp; try with_reducible rfl)
    try simp only [Act.put, List.setIfInBounds_toArray, List.set_cons_zero, List.set_cons_succ]
    refine wpAnyH_take (i := 1) (oi := { dst := some 19, op := Go.Op.load 24 (Go.Operand.tmp 3), type := 24, pos := "space.go:94", after := #[], guard := none }) (v := ?_) rfl (by kernel_rfl) (by kernel_rfl) (by kernel_rfl) (fun _ _ _ h => h) (Or.inl ⟨by rfl, ?hy⟩) (by assumption) ?_
    case hy => (intro w9 hSw; (try dsimp only at hSw); go_simp; try with_reducible rfl)
    try simp only [Act.put, List.setIfInBounds_toArray, List.set_cons_zero, List.set_cons_succ]
    refine wpAnyH_take (i := 2) (oi := { dst := some 20, op := Go.Op.move (Go.Operand.tmp 0), type := 3, pos := "space.go:94", after := #[], guard := none }) (v := ?_) rfl (by kernel_rfl) (by kernel_rfl) (by kernel_rfl) (fun _ _ _ h => h) (Or.inl ⟨by rfl, ?hy⟩) (by assumption) ?_
    case hy => (intro w9 hSw; (try dsimp only at hSw); go_simp; try with_reducible rfl)
    try simp only [Act.put, List.setIfInBounds_toArray, List.set_cons_zero, List.set_cons_succ]
    refine wpAnyH_ready (rs := [3]) (by kernel_rfl) (by simp) ?_
    refine AllReadyH.cons (o := { dst := some 21, op := Go.Op.call { callee := Go.Callee.value (Go.Operand.func 52), args := #[Go.Operand.tmp 19, Go.Operand.tmp 20], argTypes := #[24, 3] }, type := 3, pos := "space.go:94", after := #[{ on := 1, ground := Go.Ground.data }, { on := 2, ground := Go.Ground.data }], guard := none }) rfl (fun K hK => ?_) AllReadyH.nil
    go_simp
    refine (rest_any a len cap g s _ h10 hs (LR.out _ (by assumption))).mono ?_
    rintro e w7 ⟨rfl, hb7⟩
    refine hK.out _ _ ?_ (fun hHeld => ?_)
    · first | assumption | exact But.trans (by assumption) (But.of (by assumption)) | exact But.trans (by assumption) (by assumption)
    clear hK K
    try simp only [Act.put, List.setIfInBounds_toArray, List.set_cons_zero, List.set_cons_succ]
    refine wpAnyH_ready (rs := [4]) (by kernel_rfl) (by simp) ?_
    refine AllReadyH.cons (o := { dst := some 22, op := Go.Op.call { callee := Go.Callee.value (Go.Operand.tmp 18), args := #[Go.Operand.tmp 21], argTypes := #[3] }, type := 0, pos := "space.go:94", after := #[{ on := 0, ground := Go.Ground.data }, { on := 3, ground := Go.Ground.data }, { on := 3, ground := Go.Ground.chain }], guard := none }) rfl (fun K hK => ?_) AllReadyH.nil
    go_simp
    refine (IH.out _ _ _ (rst len s) w7 HR2.out rst_lt (HK2.out.below2 hb7) HT2.out (LH.out _ (by assumption)) (lF _ (by assumption)) (lM _ (by assumption)) (LT.out _ (by assumption))).mono ?_
    rintro e w8 ⟨rfl, M3, D3, t3, hk3, ht3, hmet3, hb8⟩
    refine hK.out _ _ ?_ (fun hHeld => ?_)
    · first | assumption | exact But.trans (by assumption) (But.of (by assumption)) | exact But.trans (by assumption) (by assumption)
    clear hK K
    try simp only [Act.put, List.setIfInBounds_toArray, List.set_cons_zero, List.set_cons_succ]
    refine wpAnyH_done (by kernel_rfl) ?_ _
    try simp only [Act.put, List.setIfInBounds_toArray, List.set_cons_zero, List.set_cons_succ]
    have HPOST : Hid (TurnPost g len Bm s M t w w8) := by
      refine ⟨M3, D3, t3, hk3, ?_, HME2.out.join hmet3, But.trans HBW.out (by assumption)⟩
      have h1 := HCP.out
      have h2 := HTE2.out
      omega
    clear hk3 hmet3 ht3
    go_wp2_with fail
    go_end0
    exact ⟨rfl, HPOST.out⟩
  · have hc1 := hc0.2 hM
    have hgt : 1 < (c : Int) + 1 := by omega
    have HPOST : Hid (TurnPost g len Bm s M t w W) := by
      have e : putB M s = M := by
        funext x
        unfold putB
        by_cases ex : x = s
        · subst ex; rw [hM]; rfl
        · simp [ex]
      have h1 := HKW.out
      rw [e] at h1
      exact ⟨M, _, t + 1, h1, by omega, Met.old hM HK.out.small, HBW.out⟩
    clear hc0 hM HK1 HKW HK HBW
    go_wp2_with (at_lookup; refine wpList_lookup_own_int _ rfl _ _ 65 rfl 3 3 .i64 keyedI Tryd.underlying65 Tryd.underlying3 (zeroI _) Bm _ _ rfl hown4 _ _ rfl hkey ?_; intro c0 hat hwc; rw [hput] at hat; simp only [DataW.lit.injEq, Lit.int.injEq, true_and] at hat; subst hat)
    first | (simp only [Exit.inBlock, Exit.then]; refine bodyPost_ret (results_none rfl _ _ _) rfl ?_) | refine bodyPost_ret (results_none rfl _ _ _) rfl ?_
    exact ⟨rfl, HPOST.out⟩
theorem turn1_any (a : Option Addr) (len cap : Nat) (g : Nat → Nat) (B2 B7 B8 Bm : Nat) (h10 : len ≤ 10) (hg : ∀ k, k < len → g k < pw len) : ∀ r, TurnAt a len cap g B2 B7 B8 Bm r
  | 0 => turn_step a len cap g B2 B7 B8 Bm h10 hg 0 fun r' h => by omega
  | r + 1 => turn_step a len cap g B2 B7 B8 Bm h10 hg (r + 1) fun r' h => by
    obtain rfl : r' = r := by omega
    exact turn1_any a len cap g B2 B7 B8 Bm h10 hg r'
end Go.Proofs.YtggngpnenbjidaaDoor
