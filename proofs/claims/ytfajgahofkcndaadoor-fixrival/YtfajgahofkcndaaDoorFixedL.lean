/-
  What fix.Monotone answers. No condition but that slices read as slices of numbers.
  What fix.fixed, fix.Fixed and the reference's FixedSet answer; hasselaw.FixFixed returns true for every order and list. Conditions: slices read as slices of numbers; the law: the library's table lies in its variable.
-/
import Derived.Deep.RegionHeld3
import Derived.Test.YtfajgahofkcndaaDoorCnt
import Derived.Test.YtfajgahofkcndaaDoorLat0
import Derived.Test.YtfajgahofkcndaaDoorFBegun
namespace Go.Proofs.YtfajgahofkcndaaDoor
open Go.RowKit

/-- Two orders boxed, and a list. -/
structure GO (A B : OA) (f : MA) (s : Nat) (w : World) : Prop where
  ia : A.In w
  ib : B.In w
  fi : f.In w
  xa : OB w s A.n A.a A.la A.ca
  xb : OB w (s + 1) B.n B.a B.la B.ca
theorem GO.step {A B : OA} {f : MA} {s : Nat} {w w' : World} (h : GO A B f s w) (hb : Below w.heap.size w w') : GO A B f s w' := ⟨h.ia.step hb, h.ib.step hb, h.fi.step hb, h.xa.step hb, h.xb.step hb⟩
theorem GO.new {A B : OA} {f : MA} {w : World} (hA : A.In w) (hB : B.In w) (hf : f.In w) : GO A B f w.heap.size (two w A B) := ⟨hA.step (two_below w A B), hB.step (two_below w A B), hf.step (two_below w A B), two_a w A B, two_b w A B⟩
def MoCk (A B : OA) (f : MA) (c : Int) : Prop := (c ≠ 0 ∧ Ck2 A B c) ∨ (Ck2 A B 0 ∧ MCk A.n B.n f.la f.F c)
theorem MoCk.one {A B : OA} {f : MA} {c d : Int} (h : MoCk A B f c) (h' : MoCk A B f d) : c = d := by
  rcases h with ⟨h0, h⟩ | ⟨h, h1⟩ <;> rcases h' with ⟨h0', h'⟩ | ⟨h', h1'⟩
  · exact h.one h'
  · exact absurd (h.one h') h0
  · exact absurd (h'.one h) h0'
  · exact MCk.one h1 h1'
def MonL (A B : OA) (f : MA) : Prop := MonP (upB A.g) (upB B.g) f.f A.q
def MoPost (A B : OA) (f : MA) (e : Ending) : Prop := ∃ c v, MoCk A B f c ∧ e = .returned (.tuple #[.bool v, .int .i64 c]) ∧ ((c ≠ 0 ∧ v = false) ∨ (c = 0 ∧ (v = true ↔ MonL A B f)))
/-- What is known of an order in which nothing is wrong. -/
theorem OA.open {A : OA} (h : A.Ck 0) : A.n = (A.q : Nat) ∧ A.la = A.q ∧ A.q ≤ 10 ∧ (∀ k, k < A.q → A.g k < 1024) ∧ ∀ w, A.In w → Row w A.a A.q (fun k => (A.g k : Nat)) := by
  obtain ⟨n, a, la, ca, F⟩ := A
  obtain ⟨en, h10, hrg, hord⟩ := Chk.good h
  have en' : n = (la : Nat) := en
  subst en'
  refine ⟨rfl, rfl, h10, fun k hk => Nat.lt_of_lt_of_le (hrg.small k hk) (pw_le la h10), fun w hw => hrg.row hw.2⟩
theorem MA.open {f : MA} {n n' : Nat} (h : MCk (n : Nat) (n' : Nat) f.la f.F 0) : f.la = n ∧ (∀ k, k < n → f.f k < n') ∧ ∀ w, f.In w → Row w f.a n (fun k => (f.f k : Nat)) := by
  have h2 : f.la = n ∧ ∀ k, k < f.la → 0 ≤ f.F k ∧ f.F k < (n' : Int) := by
    rcases h with ⟨h, _⟩ | ⟨h1, ⟨h, _⟩ | ⟨_, h⟩⟩
    · omega
    · omega
    · exact ⟨by omega, h⟩
  obtain ⟨e, h3⟩ := h2
  subst e
  refine ⟨rfl, fun k hk => by have := h3 k hk; unfold MA.f nat; omega, fun w hw k hk => ?_⟩
  obtain ⟨b, o, e1, e2⟩ := hw.2 k hk
  refine ⟨b, o, e1, ?_⟩
  rw [e2]
  have := h3 k hk
  exact congrArg (fun z => some (Value.int .i64 z)) (show f.F k = ((f.f k : Nat) : Int) by unfold MA.f nat; omega)
theorem inOrder_box (n : Int) (a : Option Addr) (la ca : Nat) (w : World) :
    Calls Tryd.prog 28 #[.agg #[.int .i64 n, .slice a la ca]] w fun e w' => e = .returned (.func (.func 40) #[] #[.pointer (some ⟨w.heap.size, 0, none⟩)]) ∧ OB w' w.heap.size n a la ca ∧ Below w.heap.size w w' :=
  (inOrder_any n a la ca w).mono fun e w' h => ⟨h.1, by rw [h.2]; exact OB.new _ _ _ _ _, by rw [h.2]; exact (Below.refl _ _).alloc (Nat.le_refl _) _⟩

set_option maxHeartbeats 8000000 in
theorem monotone_any (A B : OA) (f : MA) (w : World) (hA : A.In w) (hB : B.In w) (hf : f.In w) :
    Calls Tryd.prog 17 #[A.v, B.v, f.v] w fun e w' => MoPost A B f e ∧ Below w.heap.size w w' := by
  have HB1 : Hid (Below w.heap.size w (two w A B)) := two_below w A B
  have hG := GO.new hA hB hf
  have eW : Hid (two w A B = (w.alloc (.cells #[.int .i64 A.n, .slice A.a A.la A.ca] 24)).alloc (.cells #[.int .i64 B.n, .slice B.a B.la B.ca] 24)) := rfl
  generalize two w A B = W at *
  obtain ⟨X, hX⟩ : ∃ X, X = A := ⟨_, rfl⟩
  obtain ⟨Y, hY⟩ : ∃ Y, Y = B := ⟨_, rfl⟩
  obtain ⟨Z, hZ⟩ : ∃ Z, Z = f := ⟨_, rfl⟩
  have HG : Hid (GO X Y Z w.heap.size W) := by rw [hX, hY, hZ]; exact hG
  have HCB : Hid (∀ wx, GO X Y Z w.heap.size wx → Calls Tryd.prog 21 #[A.v, B.v] wx fun e w' => (∃ c, e = .returned (.int .i64 c) ∧ Ck2 X Y c) ∧ Below wx.heap.size wx w') := fun wx h => by
    rw [hX, hY, hZ] at h
    rw [hX, hY]
    exact checkBoth_any A B wx h.ia h.ib
  have HCM : Hid (∀ wx, GO X Y Z w.heap.size wx → Calls Tryd.prog 26 #[f.v, .int .i64 A.n, .int .i64 B.n] wx fun e w' => (∃ c, e = .returned (.int .i64 c) ∧ MCk X.n Y.n Z.la Z.F c) ∧ wx = w') := fun wx h => by
    rw [hX, hY, hZ] at h
    rw [hX, hY, hZ]
    exact checkMap_any f A.n B.n wx h.fi
  have HE : Hid (X = A ∧ Y = B ∧ Z = f) := ⟨hX, hY, hZ⟩
  have HX : Hid (∀ wx, GO X Y Z w.heap.size wx → OB wx w.heap.size A.n A.a A.la A.ca ∧ OB wx (w.heap.size + 1) B.n B.a B.la B.ca) := fun wx h => by
    rw [hX, hY, hZ] at h
    exact ⟨h.xa, h.xb⟩
  rw [← hX, ← hY, ← hZ]
  rw [show X.v = A.v by rw [hX], show Y.v = B.v by rw [hY], show Z.v = f.v by rw [hZ]]
  clear hX hY hZ hA hB hf hG
  obtain ⟨n0, a, la, ca, F⟩ := A
  obtain ⟨n1, a', la', ca', F'⟩ := B
  obtain ⟨fa, fl, fc, FF⟩ := f
  simp only [OA.v, MA.v] at *
  obtain ⟨⟨l0, l1⟩, k0, k1⟩ := HX.out _ HG.out
  go_enter Tryd.func17, Tryd.ntmps17
  go_wp2_with fail
  rw [← eW.out]
  go_wp2_with fail
  clear eW
  refine (HCB.out _ HG.out).mono ?_
  rintro e w1 ⟨⟨c, rfl, hc⟩, hb1⟩
  have HB2 : Hid (Below w.heap.size w w1) := Below.then HB1.out hb1
  have HG1 : Hid (GO X Y Z w.heap.size w1) := HG.out.step hb1
  clear hb1 HG HB1 HCB l0 l1 k0 k1
  by_cases h0 : c = 0
  · subst h0
    have HC : Hid (Ck2 X Y 0) := hc
    clear hc
    obtain ⟨⟨l0, l1⟩, k0, k1⟩ := HX.out _ HG1.out
    go_wp2_with fail
    refine (HCM.out _ HG1.out).mono ?_
    rintro e w2 ⟨⟨c, rfl, hc⟩, hw2⟩
    have hw2' := hw2.symm
    subst hw2'
    clear hw2
    by_cases h0 : c = 0
    · subst h0
      have HM : Hid (MCk X.n Y.n Z.la Z.F 0) := hc
      have hck : X.Ck 0 ∧ Y.Ck 0 := by
        rcases HC.out with ⟨h, _⟩ | h
        · exact absurd rfl h
        · exact h
      obtain ⟨en, el, h10, hg, hr1⟩ := OA.open hck.1
      obtain ⟨en', el', h10', hg', hr2⟩ := OA.open hck.2
      have hmm := HM.out
      rw [en, en'] at hmm
      obtain ⟨ef, hff, hr⟩ := MA.open hmm
      obtain ⟨q, HQ⟩ : ∃ q, Hid (q = X.q) := ⟨_, rfl⟩
      obtain ⟨q', HQ'⟩ : ∃ q', Hid (q' = Y.q) := ⟨_, rfl⟩
      obtain ⟨g, HGE⟩ : ∃ g, Hid (g = X.g) := ⟨_, rfl⟩
      obtain ⟨g', HGE'⟩ : ∃ g', Hid (g' = Y.g) := ⟨_, rfl⟩
      obtain ⟨f, HFE⟩ : ∃ f, Hid (f = Z.f) := ⟨_, rfl⟩
      rw [← HQ.out] at en el h10 hg hr1 ef hff hr
      rw [← HQ'.out] at en' el' h10' hg' hr2 hff
      rw [← HGE.out] at hg hr1
      rw [← HGE'.out] at hg' hr2
      rw [← HFE.out] at hff hr
      have HGG : Hid (∀ k, k < q → g k < 1024) := hg
      have HGG' : Hid (∀ k, k < q' → g' k < 1024) := hg'
      have HFF : Hid (∀ x, x < q → f x < q') := hff
      have HR1 : Hid (∀ wx, Below w2.heap.size w2 wx → Row wx a q (fun k => (g k : Nat))) := fun wx hx => by
        have := hr1 _ (HG1.out.ia.step hx)
        rw [HE.out.1] at this
        exact this
      have HR2 : Hid (∀ wx, Below w2.heap.size w2 wx → Row wx a' q' (fun k => (g' k : Nat))) := fun wx hx => by
        have := hr2 _ (HG1.out.ib.step hx)
        rw [HE.out.2.1] at this
        exact this
      have HR : Hid (∀ wx, Below w2.heap.size w2 wx → Row wx fa q (fun k => (f k : Nat))) := fun wx hx => by
        have := hr _ (HG1.out.fi.step hx)
        rw [HE.out.2.2] at this
        exact this
      have HO : Hid (MoCk X Y Z 0) := .inr ⟨HC.out, HM.out⟩
      have HML : Hid (MonP (upB g) (upB g') f q ↔ MonL X Y Z) := by
        rw [HQ.out, HGE.out, HGE'.out, HFE.out]; exact Iff.rfl
      rw [HE.out.1] at en el
      rw [HE.out.2.1] at en' el'
      rw [HE.out.2.2] at ef
      have e1 : n0 = (q : Nat) := en
      have e2 : q = la := el.symm
      have e3 : n1 = (q' : Nat) := en'
      have e4 : q' = la' := el'.symm
      have e5 : q = fl := ef.symm
      subst e1
      subst e2
      subst e3
      subst e4
      subst e5
      have a0 : ∀ w', Below w2.heap.size w2 w' → w'.cell? ⟨w.heap.size, 0, none⟩ = some (.int .i64 (q : Nat)) := fun w' h => cell_step h l0
      have a1 : ∀ w', Below w2.heap.size w2 w' → w'.cell? ⟨w.heap.size, 1, none⟩ = some (.slice a q ca) := fun w' h => cell_step h l1
      have b0 : ∀ w', Below w2.heap.size w2 w' → w'.cell? ⟨w.heap.size + 1, 0, none⟩ = some (.int .i64 (q' : Nat)) := fun w' h => cell_step h k0
      have b1 : ∀ w', Below w2.heap.size w2 w' → w'.cell? ⟨w.heap.size + 1, 1, none⟩ = some (.slice a' q' ca') := fun w' h => cell_step h k1
      have KK : Below w2.heap.size w2 w2.drew := (Below.refl _ _).drew
      clear hc hck hmm en el hg hr1 en' el' hg' hr2 ef hff hr HX HCM HE HG1 HC HM HQ HQ' HGE HGE' HFE
      go_wp2_with fail
      refine wp_region_held_drew (S := (fun w' => Below w2.heap.size w2 w')) (by kernel_rfl) (KK) (fun hHeld => ?_)
      refine wpAnyH_take (i := 0) (oi := { dst := some 25, op := Go.Op.move (Go.Operand.tmp 2), type := 22, pos := "fix.go:20", after := #[], guard := none }) (v := ?_) rfl (by kernel_rfl) (by kernel_rfl) (by kernel_rfl) (fun _ _ _ h => h) (Or.inl ⟨by rfl, ?hy⟩) (by assumption) ?_
      case hy => (intro w9 hSw; (try dsimp only at hSw); go_simp; try with_reducible rfl)
      try simp only [Act.put, List.setIfInBounds_toArray, List.set_cons_zero, List.set_cons_succ]
      refine wpAnyH_take (i := 1) (oi := { dst := some 26, op := Go.Op.load 24 (Go.Operand.tmp 3), type := 24, pos := "fix.go:20", after := #[], guard := none }) (v := ?_) rfl (by kernel_rfl) (by kernel_rfl) (by kernel_rfl) (fun _ _ _ h => h) (Or.inl ⟨by rfl, ?hy⟩) (by assumption) ?_
      case hy => (intro w9 hSw; (try dsimp only at hSw); go_simp; try with_reducible rfl)
      try simp only [Act.put, List.setIfInBounds_toArray, List.set_cons_zero, List.set_cons_succ]
      refine wpAnyH_take (i := 3) (oi := { dst := some 28, op := Go.Op.load 24 (Go.Operand.tmp 4), type := 24, pos := "fix.go:20", after := #[], guard := none }) (v := ?_) rfl (by kernel_rfl) (by kernel_rfl) (by kernel_rfl) (fun _ _ _ h => h) (Or.inl ⟨by rfl, ?hy⟩) (by assumption) ?_
      case hy => (intro w9 hSw; (try dsimp only at hSw); go_simp; try with_reducible rfl)
      try simp only [Act.put, List.setIfInBounds_toArray, List.set_cons_zero, List.set_cons_succ]
      refine wpAnyH_ready (rs := [2]) (by kernel_rfl) (by simp) ?_
      refine AllReadyH.cons (o := { dst := some 27, op := Go.Op.call { callee := Go.Callee.value (Go.Operand.func 28), args := #[Go.Operand.tmp 26], argTypes := #[24] }, type := 57, pos := "fix.go:20", after := #[{ on := 1, ground := Go.Ground.data }], guard := none }) rfl (fun K hK => ?_) AllReadyH.nil
      go_simp
      refine (inOrder_box (q : Nat) a q ca _).mono ?_
      rintro e w5 ⟨rfl, HL5, hb5⟩
      refine hK.out _ _ ?_ (fun hHeld => ?_)
      · first | assumption | exact Below.then (by assumption) (by assumption)
      clear hK K
      try simp only [Act.put, List.setIfInBounds_toArray, List.set_cons_zero, List.set_cons_succ]
      refine wpAnyH_ready (rs := [4]) (by kernel_rfl) (by simp) ?_
      refine AllReadyH.cons (o := { dst := some 29, op := Go.Op.call { callee := Go.Callee.value (Go.Operand.func 28), args := #[Go.Operand.tmp 28], argTypes := #[24] }, type := 57, pos := "fix.go:20", after := #[{ on := 3, ground := Go.Ground.data }, { on := 2, ground := Go.Ground.chain }], guard := none }) rfl (fun K hK => ?_) AllReadyH.nil
      go_simp
      refine (inOrder_box (q' : Nat) a' q' ca' _).mono ?_
      rintro e w6 ⟨rfl, HL6, hb6⟩
      have hW6 : Below w2.heap.size w2 w6 := Below.then (by assumption) hb6
      refine hK.out _ _ ?_ (fun hHeld => ?_)
      · first | assumption | exact Below.then (by assumption) (by assumption)
      clear hK K
      try simp only [Act.put, List.setIfInBounds_toArray, List.set_cons_zero, List.set_cons_succ]
      refine wpAnyH_ready (rs := [5]) (by kernel_rfl) (by simp) ?_
      refine AllReadyH.cons (o := { dst := some 30, op := Go.Op.call { callee := Go.Callee.value (Go.Operand.func 27), args := #[Go.Operand.tmp 25, Go.Operand.tmp 27, Go.Operand.tmp 29], argTypes := #[22, 57, 57] }, type := 4, pos := "fix.go:20", after := #[{ on := 0, ground := Go.Ground.data }, { on := 2, ground := Go.Ground.data }, { on := 4, ground := Go.Ground.data }, { on := 4, ground := Go.Ground.chain }], guard := none }) rfl (fun K hK => ?_) AllReadyH.nil
      go_simp
      refine (isMonotone_any q q q' 40 40 _ _ (upB g) (upB g') fa fc f w6 (by omega) (Nat.le_refl _) ent_inOrder1 ent_inOrder1 (inOrder1_any q _ a ca g w6 h10 HGG.out (HL5.step hb6).1 (HL5.step hb6).2 (HR1.out _ hW6)) (inOrder1_any q' _ a' ca' g' w6 h10' HGG'.out HL6.1 HL6.2 (HR2.out _ hW6)) HFF.out (HR.out _ hW6)).mono ?_
      rintro e w7 ⟨⟨vm, rfl, hvm⟩, hb7⟩
      refine hK.out _ _ ?_ (fun hHeld => ?_)
      · first | assumption | exact Below.then (by assumption) (by assumption)
      clear hK K
      try simp only [Act.put, List.setIfInBounds_toArray, List.set_cons_zero, List.set_cons_succ]
      refine wpAnyH_take (i := 6) (oi := { dst := some 6, op := Go.Op.assign (Go.Operand.tmp 30), type := 4, pos := "fix.go:20", after := #[{ on := 5, ground := Go.Ground.data }, { on := 5, ground := Go.Ground.chain }, { on := 0, ground := Go.Ground.phase }, { on := 1, ground := Go.Ground.phase }, { on := 2, ground := Go.Ground.phase }, { on := 3, ground := Go.Ground.phase }, { on := 4, ground := Go.Ground.phase }, { on := 5, ground := Go.Ground.phase }], guard := none }) (v := ?_) rfl (by kernel_rfl) (by kernel_rfl) (by kernel_rfl) (fun _ _ _ h => h) (Or.inl ⟨by rfl, ?hy⟩) (by assumption) ?_
      case hy => (intro w9 hSw; (try dsimp only at hSw); go_simp; try with_reducible rfl)
      try simp only [Act.put, List.setIfInBounds_toArray, List.set_cons_zero, List.set_cons_succ]
      refine wpAnyH_take (i := 7) (oi := { dst := some 7, op := Go.Op.assign (Go.Operand.const (Go.Value.int Go.IntKind.i64 0)), type := 26, pos := "fix.go:20", after := #[{ on := 6, ground := Go.Ground.chain }, { on := 0, ground := Go.Ground.phase }, { on := 1, ground := Go.Ground.phase }, { on := 2, ground := Go.Ground.phase }, { on := 3, ground := Go.Ground.phase }, { on := 4, ground := Go.Ground.phase }, { on := 5, ground := Go.Ground.phase }, { on := 6, ground := Go.Ground.phase }], guard := none }) (v := ?_) rfl (by kernel_rfl) (by kernel_rfl) (by kernel_rfl) (fun _ _ _ h => h) (Or.inl ⟨by rfl, ?hy⟩) (by assumption) ?_
      case hy => (intro w9 hSw; (try dsimp only at hSw); go_simp; try with_reducible rfl)
      try simp only [Act.put, List.setIfInBounds_toArray, List.set_cons_zero, List.set_cons_succ]
      refine wpAnyH_done (by kernel_rfl) ?_ _
      try simp only [Act.put, List.setIfInBounds_toArray, List.set_cons_zero, List.set_cons_succ]
      have HBV : Hid (Below w2.heap.size w2 w7) := by first | assumption | exact hHeld
      have HVM : Hid (vm = true ↔ MonL X Y Z) := hvm.trans HML.out
      clear HL5 HL6 hb5 hb6 hb7 hW6 a0 a1 b0 b1 KK hHeld hvm
      go_wp2_with fail
      go_ret2
      exact ⟨⟨0, vm, HO.out, rfl, .inr ⟨rfl, HVM.out⟩⟩, Below.then HB2.out HBV.out⟩
    · have hne : (c != 0) = true := by simpa using h0
      have HO : Hid (MoCk X Y Z c) := .inr ⟨HC.out, hc⟩
      clear hc
      go_wp2_with fail
      go_ret2
      exact ⟨⟨c, false, HO.out, rfl, .inl ⟨h0, rfl⟩⟩, HB2.out⟩
  · have hne : (c != 0) = true := by simpa using h0
    have HO : Hid (MoCk X Y Z c) := .inl ⟨h0, hc⟩
    clear hc
    go_wp2_with fail
    go_ret2
    exact ⟨⟨c, false, HO.out, rfl, .inl ⟨h0, rfl⟩⟩, HB2.out⟩


/-- Those that go to themselves. -/
def fxs (f : Nat → Nat) (k : Nat) : Nat := setBy (fun i => f i == i) k
theorem fxs_yes {f : Nat → Nat} {k : Nat} (h : f k = k) : fxs f (k + 1) = fxs f k + pw k := setBy_yes (by simpa using h)
theorem fxs_or {f : Nat → Nat} {k : Nat} (h : f k = k) : fxs f (k + 1) = fxs f k ||| pw k := (fxs_yes h).trans (or_pw_add (setBy_lt _ k)).symm
theorem fxs_no {f : Nat → Nat} {k : Nat} (h : f k ≠ k) : fxs f (k + 1) = fxs f k := setBy_no (by simpa using h)
theorem fxs_lt {f : Nat → Nat} {k : Nat} (h : k ≤ 10) : fxs f k < 1024 := Nat.lt_of_lt_of_le (setBy_lt _ k) (pw_le k h)
theorem pw_few {k : Nat} (h : k < 10) : pw k < 1024 := by
  have : pw k < 2 ^ 10 := Nat.pow_lt_pow_right (by decide) (by omega)
  omega

set_option maxHeartbeats 1000000 in
theorem fixed_any (q : Nat) (fa : Option Addr) (fc : Nat) (f : Nat → Nat) (w : World) (h10 : q ≤ 10) (hr : Row w fa q (fun k => (f k : Nat))) :
    Calls Tryd.prog 18 #[.slice fa q fc] w fun e w' => e = .returned (.int .i64 (fxs f q : Nat)) ∧ w = w' := by
  have HR : Hid (Row w fa q (fun k => (f k : Nat))) := hr
  clear hr
  go_enter Tryd.func18, Tryd.ntmps18
  go_wp2_with fail
  go_loopw [3, 8] (fun v i wx => ∃ k : Nat, k ≤ q ∧ i = .int .i64 k ∧ v = .int .i64 (fxs f k : Nat) ∧ wx = w) (fun _ i _ => q - (intOf i).toNat)
  case atStart => exact ⟨0, Nat.zero_le _, rfl, rfl, rfl⟩
  case round =>
    obtain ⟨k, hk, rfl, rfl, rfl⟩ := hrel
    by_cases hlt : k < q
    · obtain ⟨fb, fo, rfl, hc⟩ := HR.out k hlt
      have ik : (k : Int) < (q : Int) := by omega
      by_cases e : f k = k
      · have he : (((f k : Nat) : Int) == ((k : Nat) : Int)) = true := by rw [e]; simp
        have HE : Hid (fxs f (k + 1) = fxs f k ||| pw k) := fxs_or e
        have h1 : fxs f k < 1024 := fxs_lt (by omega)
        have h2 : pw k < 1024 := pw_few (by omega)
        have hor := i64_or (fxs f k) (pw k) (by omega) (by omega)
        have hsh := wrap_pow k (by omega)
        clear e
        go_wp2_with fail
        go_roundw
        case rel => exact ⟨k + 1, by omega, by go_num, by rw [HE.out], by first | rfl | trivial⟩
        case measure => simp [intOf]; omega
      · have he : (((f k : Nat) : Int) == ((k : Nat) : Int)) = false := by simp; omega
        have HE : Hid (fxs f (k + 1) = fxs f k) := fxs_no e
        clear e
        go_wp2_with fail
        go_roundw
        case rel => exact ⟨k + 1, by omega, by go_num, by rw [HE.out], by first | rfl | trivial⟩
        case measure => simp [intOf]; omega
    · obtain rfl : k = q := by omega
      go_wp2_with fail
      go_ret
      exact ⟨rfl, rfl⟩

/-- An order boxed, and a list. -/
structure GX (A : OA) (f : MA) (s : Nat) (w : World) : Prop where
  ia : A.In w
  fi : f.In w
  xa : OB w s A.n A.a A.la A.ca
theorem GX.step {A : OA} {f : MA} {s : Nat} {w w' : World} (h : GX A f s w) (hb : Below w.heap.size w w') : GX A f s w' := ⟨h.ia.step hb, h.fi.step hb, h.xa.step hb⟩
theorem GX.new {A : OA} {f : MA} {w : World} (hA : A.In w) (hf : f.In w) : GX A f w.heap.size (w.alloc (.cells #[.int .i64 A.n, .slice A.a A.la A.ca] 24)) :=
  ⟨hA.step ((Below.refl _ _).alloc (Nat.le_refl _) _), hf.step ((Below.refl _ _).alloc (Nat.le_refl _) _), OB.new _ _ _ _ _⟩
theorem MoCk.zero {X Y : OA} {Z : MA} (hc : MoCk X Y Z 0) : X.Ck 0 ∧ Y.Ck 0 ∧ MCk X.n Y.n Z.la Z.F 0 := by
  rcases hc with ⟨h, _⟩ | ⟨⟨h, _⟩ | h, hm⟩
  · exact absurd rfl h
  · exact absurd rfl h
  · exact ⟨h.1, h.2, hm⟩
/-- What the errno of Fixed must be. -/
def FxCk (A : OA) (f : MA) (c : Int) : Prop := ∃ c0, MoCk A A f c0 ∧ ((c0 ≠ 0 ∧ c = c0) ∨ (c0 = 0 ∧ ((c = 4 ∧ ¬ MonL A A f) ∨ (c = 0 ∧ MonL A A f))))
def FxPost (A : OA) (f : MA) (e : Ending) : Prop := ∃ c v, FxCk A f c ∧ e = .returned (.tuple #[.int .i64 v, .int .i64 c]) ∧ ((c ≠ 0 ∧ v = 0) ∨ (c = 0 ∧ v = (fxs f.f A.q : Nat)))
theorem FxCk.one {A : OA} {f : MA} {c d : Int} (h : FxCk A f c) (h' : FxCk A f d) : c = d := by
  obtain ⟨c0, h1, h2⟩ := h
  obtain ⟨d0, h1', h2'⟩ := h'
  obtain rfl := h1.one h1'
  rcases h2 with ⟨h0, rfl⟩ | ⟨h0, ⟨rfl, h3⟩ | ⟨rfl, h3⟩⟩ <;> rcases h2' with ⟨h0', rfl⟩ | ⟨h0', ⟨rfl, h3'⟩ | ⟨rfl, h3'⟩⟩ <;>
    first | rfl | exact absurd h0 h0' | exact absurd h0' h0 | exact absurd h3 h3' | exact absurd h3' h3
theorem fixedL_any {X : OA} {Z : MA} {wx : World} (hc : MoCk X X Z 0) (hf : Z.In wx) (F : Nat)
    (h : ∀ (q : Nat) (fa : Option Addr) (fc : Nat) (f : Nat → Nat) (w : World), q ≤ 10 → Row w fa q (fun k => (f k : Nat)) → Calls Tryd.prog F #[.slice fa q fc] w fun e w' => e = .returned (.int .i64 (fxs f q : Nat)) ∧ w = w') :
    Calls Tryd.prog F #[Z.v] wx fun e w' => e = .returned (.int .i64 (fxs Z.f X.q : Nat)) ∧ wx = w' := by
  obtain ⟨h1, _, h3⟩ := hc.zero
  obtain ⟨en, el, h10, hg, hr1⟩ := OA.open h1
  rw [en] at h3
  obtain ⟨ef, hff, hr⟩ := MA.open h3
  unfold MA.v
  rw [ef]
  exact h X.q Z.a Z.ca Z.f wx h10 (hr _ hf)

set_option maxHeartbeats 4000000 in
theorem fixFixed0_any (A : OA) (f : MA) (w : World) (hA : A.In w) (hf : f.In w) :
    Calls Tryd.prog 6 #[A.v, f.v] w fun e w' => FxPost A f e ∧ Below w.heap.size w w' := by
  obtain ⟨W, eW⟩ : ∃ W, Hid (W = w.alloc (.cells #[.int .i64 A.n, .slice A.a A.la A.ca] 24)) := ⟨_, rfl⟩
  have HB1 : Hid (Below w.heap.size w W) := by rw [eW.out]; exact (Below.refl _ _).alloc (Nat.le_refl _) _
  have hG : GX A f w.heap.size W := by rw [eW.out]; exact GX.new hA hf
  obtain ⟨X, hX⟩ : ∃ X, X = A := ⟨_, rfl⟩
  obtain ⟨Z, hZ⟩ : ∃ Z, Z = f := ⟨_, rfl⟩
  have HG : Hid (GX X Z w.heap.size W) := by rw [hX, hZ]; exact hG
  have Cm : Hid (∀ wx, GX X Z w.heap.size wx → Calls Tryd.prog 17 #[X.v, X.v, Z.v] wx fun e w' => MoPost X X Z e ∧ Below wx.heap.size wx w') := fun wx h => monotone_any X X Z wx h.ia h.ia h.fi
  have Cf : Hid (∀ wx, GX X Z w.heap.size wx → MoCk X X Z 0 → Calls Tryd.prog 18 #[Z.v] wx fun e w' => e = .returned (.int .i64 (fxs Z.f X.q : Nat)) ∧ wx = w') := fun wx h hc => fixedL_any hc h.fi _ fixed_any
  have HX : Hid (∀ wx, GX X Z w.heap.size wx → OB wx w.heap.size A.n A.a A.la A.ca) := fun wx h => by
    rw [hX] at h
    exact h.xa
  have HV : Hid (X.v = A.v ∧ Z.v = f.v) := by rw [hX, hZ]; exact ⟨rfl, rfl⟩
  rw [HV.out.1, HV.out.2] at Cm
  rw [HV.out.2] at Cf
  rw [← hX, ← hZ, HV.out.1, HV.out.2]
  clear hX hZ hA hf hG HV
  obtain ⟨n0, a, la, ca, F⟩ := A
  obtain ⟨fa, fl, fc, FF⟩ := f
  simp only [OA.v, MA.v] at *
  obtain ⟨l0, l1⟩ := HX.out _ HG.out
  go_enter Tryd.func6, Tryd.ntmps6
  go_wp2_with fail
  rw [← eW.out]
  go_wp2_with fail
  clear eW
  refine (Cm.out _ HG.out).mono ?_
  rintro e w1 ⟨⟨c, v, hc, rfl, hv⟩, hb1⟩
  have HB2 : Hid (Below w.heap.size w w1) := Below.then HB1.out hb1
  have HG1 : Hid (GX X Z w.heap.size w1) := HG.out.step hb1
  have HC : Hid (MoCk X X Z c) := hc
  clear hb1 HG HB1 l0 l1 hc Cm HX
  by_cases h0 : c = 0
  · subst h0
    have hvv : v = true ↔ MonL X X Z := by
      rcases hv with ⟨h, _⟩ | ⟨_, h⟩
      · exact absurd rfl h
      · exact h
    rcases v with _ | _
    · have HO : Hid (FxCk X Z 4) := ⟨0, HC.out, .inr ⟨rfl, .inl ⟨rfl, fun h => by cases hvv.2 h⟩⟩⟩
      clear hvv hv
      go_wp2_with fail
      go_ret2
      exact ⟨⟨4, 0, HO.out, rfl, .inl ⟨by decide, rfl⟩⟩, HB2.out⟩
    · have HO : Hid (FxCk X Z 0) := ⟨0, HC.out, .inr ⟨rfl, .inr ⟨rfl, hvv.1 rfl⟩⟩⟩
      clear hvv hv
      go_wp2_with fail
      refine (Cf.out _ HG1.out HC.out).mono ?_
      rintro e w2 ⟨rfl, hw2⟩
      have hw2' := hw2.symm
      subst hw2'
      clear hw2
      go_wp2_with fail
      go_ret2
      exact ⟨⟨0, _, HO.out, rfl, .inr ⟨rfl, rfl⟩⟩, HB2.out⟩
  · have hne : (c != 0) = true := by simpa using h0
    have HO : Hid (FxCk X Z c) := ⟨c, HC.out, .inl ⟨h0, rfl⟩⟩
    clear hv
    go_wp2_with fail
    go_ret2
    exact ⟨⟨c, 0, HO.out, rfl, .inl ⟨h0, rfl⟩⟩, HB2.out⟩

end Go.Proofs.YtfajgahofkcndaaDoor
