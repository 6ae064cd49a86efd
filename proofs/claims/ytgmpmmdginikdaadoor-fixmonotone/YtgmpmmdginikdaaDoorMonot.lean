/-
  What fix.Monotone answers. No condition but that slices read as slices of numbers.
-/
import Derived.Deep.RegionHeld3
import Derived.Test.YtgmpmmdginikdaaDoorCnt
import Derived.Test.YtgmpmmdginikdaaDoorLat0
namespace Go.Proofs.YtgmpmmdginikdaaDoor
open Go.RowKit

/-- Two orders boxed, and a list. -/
structure GO (A B : OA) (f : MA) (s : Nat) (w : World) : Prop where
  ia : A.In w
  ib : B.In w
  fi : f.In w
  xa : OB w s A.n A.a A.la A.ca
  xb : OB w (s + 1) B.n B.a B.la B.ca
theorem GO.step {A B : OA} {f : MA} {s : Nat} {w w' : World} (h : GO A B f s w) (hb : Below w.heap.size w w') : GO A B f s w' := ⟨h.ia.step hb, h.ib.step hb, h.fi.step hb, h.xa.step hb, h.xb.step hb⟩
theorem GO.new {A B : OA} {f : MA} {w : World} (hA : A.In w) (hB : B.In w) (hf : f.In w) : GO A B f w.heap.size (two w A B) := ⟨hA.step (two_below w A B), hB.step (two_below w A B), hf.step (two_below w A B), two_a w A B, two_b w A B⟩
def MoCk (A B : OA) (f : MA) (c : Int) : Prop := (c ≠ 0 ∧ Ck2 A B c) ∨ (Ck2 A B 0 ∧ MCk A.n B.n f.la f.F c)
theorem MoCk.one {A B : OA} {f : MA} {c d : Int} (h : MoCk A B f c) (h' : MoCk A B f d) : c = d := by
  rcases h with ⟨h0, h⟩ | ⟨h, h1⟩ <;> rcases h' with ⟨h0', h'⟩ | ⟨h', h1'⟩
  · exact h.one h'
  · exact absurd (h.one h') h0
  · exact absurd (h'.one h) h0'
  · exact MCk.one h1 h1'
def MonL (A B : OA) (f : MA) : Prop := MonP (upB A.g) (upB B.g) f.f A.q
def MoPost (A B : OA) (f : MA) (e : Ending) : Prop := ∃ c v, MoCk A B f c ∧ e = .returned (.tuple #[.bool v, .int .i64 c]) ∧ ((c ≠ 0 ∧ v = false) ∨ (c = 0 ∧ (v = true ↔ MonL A B f)))
/-- What is known of an order in which nothing is wrong. -/
theorem OA.open {A : OA} (h : A.Ck 0) : A.n = (A.q : Nat) ∧ A.la = A.q ∧ A.q ≤ 10 ∧ (∀ k, k < A.q → A.g k < 1024) ∧ ∀ w, A.In w → Row w A.a A.q (fun k => (A.g k : Nat)) := by
  obtain ⟨n, a, la, ca, F⟩ := A
  obtain ⟨en, h10, hrg, hord⟩ := Chk.good h
  have en' : n = (la : Nat) := en
  subst en'
  refine ⟨rfl, rfl, h10, fun k hk => Nat.lt_of_lt_of_le (hrg.small k hk) (pw_le la h10), fun w hw => hrg.row hw.2⟩
theorem MA.open {f : MA} {n n' : Nat} (h : MCk (n : Nat) (n' : Nat) f.la f.F 0) : f.la = n ∧ (∀ k, k < n → f.f k < n') ∧ ∀ w, f.In w → Row w f.a n (fun k => (f.f k : Nat)) := by
  have h2 : f.la = n ∧ ∀ k, k < f.la → 0 ≤ f.F k ∧ f.F k < (n' : Int) := by
    rcases h with ⟨h, _⟩ | ⟨h1, ⟨h, _⟩ | ⟨_, h⟩⟩
    · omega
    · omega
    · exact ⟨by omega, h⟩
  obtain ⟨e, h3⟩ := h2
  subst e
  refine ⟨rfl, fun k hk => by have := h3 k hk; unfold MA.f nat; omega, fun w hw k hk => ?_⟩
  obtain ⟨b, o, e1, e2⟩ := hw.2 k hk
  refine ⟨b, o, e1, ?_⟩
  rw [e2]
  have := h3 k hk
  exact congrArg (fun z => some (Value.int .i64 z)) (show f.F k = ((f.f k : Nat) : Int) by unfold MA.f nat; omega)
theorem inOrder_box (n : Int) (a : Option Addr) (la ca : Nat) (w : World) :
    Calls Tryd.prog 31 #[.agg #[.int .i64 n, .slice a la ca]] w fun e w' => e = .returned (.func (.func 53) #[] #[.pointer (some ⟨w.heap.size, 0, none⟩)]) ∧ OB w' w.heap.size n a la ca ∧ Below w.heap.size w w' :=
  (inOrder_any n a la ca w).mono fun e w' h => ⟨h.1, by rw [h.2]; exact OB.new _ _ _ _ _, by rw [h.2]; exact (Below.refl _ _).alloc (Nat.le_refl _) _⟩

set_option maxHeartbeats 8000000 in
theorem monotone_any (A B : OA) (f : MA) (w : World) (hA : A.In w) (hB : B.In w) (hf : f.In w) :
    Calls Tryd.prog 9 #[A.v, B.v, f.v] w fun e w' => MoPost A B f e ∧ Below w.heap.size w w' := by
  have HB1 : Hid (Below w.heap.size w (two w A B)) := two_below w A B
  have hG := GO.new hA hB hf
  have eW : Hid (two w A B = (w.alloc (.cells #[.int .i64 A.n, .slice A.a A.la A.ca] 24)).alloc (.cells #[.int .i64 B.n, .slice B.a B.la B.ca] 24)) := rfl
  generalize two w A B = W at *
  obtain ⟨X, hX⟩ : ∃ X, X = A := ⟨_, rfl⟩
  obtain ⟨Y, hY⟩ : ∃ Y, Y = B := ⟨_, rfl⟩
  obtain ⟨Z, hZ⟩ : ∃ Z, Z = f := ⟨_, rfl⟩
  have HG : Hid (GO X Y Z w.heap.size W) := by rw [hX, hY, hZ]; exact hG
  have HCB : Hid (∀ wx, GO X Y Z w.heap.size wx → Calls Tryd.prog 28 #[A.v, B.v] wx fun e w' => (∃ c, e = .returned (.int .i64 c) ∧ Ck2 X Y c) ∧ Below wx.heap.size wx w') := fun wx h => by
    rw [hX, hY, hZ] at h
    rw [hX, hY]
    exact checkBoth_any A B wx h.ia h.ib
  have HCM : Hid (∀ wx, GO X Y Z w.heap.size wx → Calls Tryd.prog 29 #[f.v, .int .i64 A.n, .int .i64 B.n] wx fun e w' => (∃ c, e = .returned (.int .i64 c) ∧ MCk X.n Y.n Z.la Z.F c) ∧ wx = w') := fun wx h => by
    rw [hX, hY, hZ] at h
    rw [hX, hY, hZ]
    exact checkMap_any f A.n B.n wx h.fi
  have HE : Hid (X = A ∧ Y = B ∧ Z = f) := ⟨hX, hY, hZ⟩
  have HX : Hid (∀ wx, GO X Y Z w.heap.size wx → OB wx w.heap.size A.n A.a A.la A.ca ∧ OB wx (w.heap.size + 1) B.n B.a B.la B.ca) := fun wx h => by
    rw [hX, hY, hZ] at h
    exact ⟨h.xa, h.xb⟩
  rw [← hX, ← hY, ← hZ]
  rw [show X.v = A.v by rw [hX], show Y.v = B.v by rw [hY], show Z.v = f.v by rw [hZ]]
  clear hX hY hZ hA hB hf hG
  obtain ⟨n0, a, la, ca, F⟩ := A
  obtain ⟨n1, a', la', ca', F'⟩ := B
  obtain ⟨fa, fl, fc, FF⟩ := f
  simp only [OA.v, MA.v] at *
  obtain ⟨⟨l0, l1⟩, k0, k1⟩ := HX.out _ HG.out
  go_enter Tryd.func9, Tryd.ntmps9
  go_wp2_with fail
  rw [← eW.out]
  go_wp2_with fail
  clear eW
  refine (HCB.out _ HG.out).mono ?_
  rintro e w1 ⟨⟨c, rfl, hc⟩, hb1⟩
  have HB2 : Hid (Below w.heap.size w w1) := Below.then HB1.out hb1
  have HG1 : Hid (GO X Y Z w.heap.size w1) := HG.out.step hb1
  clear hb1 HG HB1 HCB l0 l1 k0 k1
  by_cases h0 : c = 0
  · subst h0
    have HC : Hid (Ck2 X Y 0) := hc
    clear hc
    obtain ⟨⟨l0, l1⟩, k0, k1⟩ := HX.out _ HG1.out
    go_wp2_with fail
    refine (HCM.out _ HG1.out).mono ?_
    rintro e w2 ⟨⟨c, rfl, hc⟩, hw2⟩
    have hw2' := hw2.symm
    subst hw2'
    clear hw2
    by_cases h0 : c = 0
    · subst h0
      have HM : Hid (MCk X.n Y.n Z.la Z.F 0) := hc
      have hck : X.Ck 0 ∧ Y.Ck 0 := by
        rcases HC.out with ⟨h, _⟩ | h
        · exact absurd rfl h
        · exact h
      obtain ⟨en, el, h10, hg, hr1⟩ := OA.open hck.1
      obtain ⟨en', el', h10', hg', hr2⟩ := OA.open hck.2
      have hmm := HM.out
      rw [en, en'] at hmm
      obtain ⟨ef, hff, hr⟩ := MA.open hmm
      obtain ⟨q, HQ⟩ : ∃ q, Hid (q = X.q) := ⟨_, rfl⟩
      obtain ⟨q', HQ'⟩ : ∃ q', Hid (q' = Y.q) := ⟨_, rfl⟩
      obtain ⟨g, HGE⟩ : ∃ g, Hid (g = X.g) := ⟨_, rfl⟩
      obtain ⟨g', HGE'⟩ : ∃ g', Hid (g' = Y.g) := ⟨_, rfl⟩
      obtain ⟨f, HFE⟩ : ∃ f, Hid (f = Z.f) := ⟨_, rfl⟩
      rw [← HQ.out] at en el h10 hg hr1 ef hff hr
      rw [← HQ'.out] at en' el' h10' hg' hr2 hff
      rw [← HGE.out] at hg hr1
      rw [← HGE'.out] at hg' hr2
      rw [← HFE.out] at hff hr
      have HGG : Hid (∀ k, k < q → g k < 1024) := hg
      have HGG' : Hid (∀ k, k < q' → g' k < 1024) := hg'
      have HFF : Hid (∀ x, x < q → f x < q') := hff
      have HR1 : Hid (∀ wx, Below w2.heap.size w2 wx → Row wx a q (fun k => (g k : Nat))) := fun wx hx => by
        have := hr1 _ (HG1.out.ia.step hx)
        rw [HE.out.1] at this
        exact this
      have HR2 : Hid (∀ wx, Below w2.heap.size w2 wx → Row wx a' q' (fun k => (g' k : Nat))) := fun wx hx => by
        have := hr2 _ (HG1.out.ib.step hx)
        rw [HE.out.2.1] at this
        exact this
      have HR : Hid (∀ wx, Below w2.heap.size w2 wx → Row wx fa q (fun k => (f k : Nat))) := fun wx hx => by
        have := hr _ (HG1.out.fi.step hx)
        rw [HE.out.2.2] at this
        exact this
      have HO : Hid (MoCk X Y Z 0) := .inr ⟨HC.out, HM.out⟩
      have HML : Hid (MonP (upB g) (upB g') f q ↔ MonL X Y Z) := by
        rw [HQ.out, HGE.out, HGE'.out, HFE.out]; exact Iff.rfl
      rw [HE.out.1] at en el
      rw [HE.out.2.1] at en' el'
      rw [HE.out.2.2] at ef
      have e1 : n0 = (q : Nat) := en
      have e2 : q = la := el.symm
      have e3 : n1 = (q' : Nat) := en'
      have e4 : q' = la' := el'.symm
      have e5 : q = fl := ef.symm
      subst e1
      subst e2
      subst e3
      subst e4
      subst e5
      have a0 : ∀ w', Below w2.heap.size w2 w' → w'.cell? ⟨w.heap.size, 0, none⟩ = some (.int .i64 (q : Nat)) := fun w' h => cell_step h l0
      have a1 : ∀ w', Below w2.heap.size w2 w' → w'.cell? ⟨w.heap.size, 1, none⟩ = some (.slice a q ca) := fun w' h => cell_step h l1
      have b0 : ∀ w', Below w2.heap.size w2 w' → w'.cell? ⟨w.heap.size + 1, 0, none⟩ = some (.int .i64 (q' : Nat)) := fun w' h => cell_step h k0
      have b1 : ∀ w', Below w2.heap.size w2 w' → w'.cell? ⟨w.heap.size + 1, 1, none⟩ = some (.slice a' q' ca') := fun w' h => cell_step h k1
      have KK : Below w2.heap.size w2 w2.drew := (Below.refl _ _).drew
      clear hc hck hmm en el hg hr1 en' el' hg' hr2 ef hff hr HX HCM HE HG1 HC HM HQ HQ' HGE HGE' HFE
      go_wp2_with fail
      refine wp_region_held_drew (S := (fun w' => Below w2.heap.size w2 w')) (by kernel_rfl) (KK) (fun hHeld => ?_)
      refine wpAnyH_take (i := 0) (oi := { dst := some 25, op := Go.Op.move (Go.Operand.tmp 2), type := 22, pos := "fix.go:20", after := #[], guard := none }) (v := ?_) rfl (by kernel_rfl) (by kernel_rfl) (by kernel_rfl) (fun _ _ _ h => h) (Or.inl ⟨by rfl, ?hy⟩) (by assumption) ?_
      case hy => (intro w9 hSw; (try dsimp only at hSw); go_simp; try with_reducible rfl)
      try simp only [Act.put, List.setIfInBounds_toArray, List.set_cons_zero, List.set_cons_succ]
      refine wpAnyH_take (i := 1) (oi := { dst := some 26, op := Go.Op.load 24 (Go.Operand.tmp 3), type := 24, pos := "fix.go:20", after := #[], guard := none }) (v := ?_) rfl (by kernel_rfl) (by kernel_rfl) (by kernel_rfl) (fun _ _ _ h => h) (Or.inl ⟨by rfl, ?hy⟩) (by assumption) ?_
      case hy => (intro w9 hSw; (try dsimp only at hSw); go_simp; try with_reducible rfl)
      try simp only [Act.put, List.setIfInBounds_toArray, List.set_cons_zero, List.set_cons_succ]
      refine wpAnyH_take (i := 3) (oi := { dst := some 28, op := Go.Op.load 24 (Go.Operand.tmp 4), type := 24, pos := "fix.go:20", after := #[], guard := none }) (v := ?_) rfl (by kernel_rfl) (by kernel_rfl) (by kernel_rfl) (fun _ _ _ h => h) (Or.inl ⟨by rfl, ?hy⟩) (by assumption) ?_
      case hy => (intro w9 hSw; (try dsimp only at hSw); go_simp; try with_reducible rfl)
      try simp only [Act.put, List.setIfInBounds_toArray, List.set_cons_zero, List.set_cons_succ]
      refine wpAnyH_ready (rs := [2]) (by kernel_rfl) (by simp) ?_
      refine AllReadyH.cons (o := { dst := some 27, op := Go.Op.call { callee := Go.Callee.value (Go.Operand.func 31), args := #[Go.Operand.tmp 26], argTypes := #[24] }, type := 58, pos := "fix.go:20", after := #[{ on := 1, ground := Go.Ground.data }], guard := none }) rfl (fun K hK => ?_) AllReadyH.nil
      go_simp
      refine (inOrder_box (q : Nat) a q ca _).mono ?_
      rintro e w5 ⟨rfl, HL5, hb5⟩
      refine hK.out _ _ ?_ (fun hHeld => ?_)
      · first | assumption | exact Below.then (by assumption) (by assumption)
      clear hK K
      try simp only [Act.put, List.setIfInBounds_toArray, List.set_cons_zero, List.set_cons_succ]
      refine wpAnyH_ready (rs := [4]) (by kernel_rfl) (by simp) ?_
      refine AllReadyH.cons (o := { dst := some 29, op := Go.Op.call { callee := Go.Callee.value (Go.Operand.func 31), args := #[Go.Operand.tmp 28], argTypes := #[24] }, type := 58, pos := "fix.go:20", after := #[{ on := 3, ground := Go.Ground.data }, { on := 2, ground := Go.Ground.chain }], guard := none }) rfl (fun K hK => ?_) AllReadyH.nil
      go_simp
      refine (inOrder_box (q' : Nat) a' q' ca' _).mono ?_
      rintro e w6 ⟨rfl, HL6, hb6⟩
      have hW6 : Below w2.heap.size w2 w6 := Below.then (by assumption) hb6
      refine hK.out _ _ ?_ (fun hHeld => ?_)
      · first | assumption | exact Below.then (by assumption) (by assumption)
      clear hK K
      try simp only [Act.put, List.setIfInBounds_toArray, List.set_cons_zero, List.set_cons_succ]
      refine wpAnyH_ready (rs := [5]) (by kernel_rfl) (by simp) ?_
      refine AllReadyH.cons (o := { dst := some 30, op := Go.Op.call { callee := Go.Callee.value (Go.Operand.func 30), args := #[Go.Operand.tmp 25, Go.Operand.tmp 27, Go.Operand.tmp 29], argTypes := #[22, 58, 58] }, type := 4, pos := "fix.go:20", after := #[{ on := 0, ground := Go.Ground.data }, { on := 2, ground := Go.Ground.data }, { on := 4, ground := Go.Ground.data }, { on := 4, ground := Go.Ground.chain }], guard := none }) rfl (fun K hK => ?_) AllReadyH.nil
      go_simp
      refine (isMonotone_any q q q' 53 53 _ _ (upB g) (upB g') fa fc f w6 (by omega) (Nat.le_refl _) ent_inOrder1 ent_inOrder1 (inOrder1_any q _ a ca g w6 h10 HGG.out (HL5.step hb6).1 (HL5.step hb6).2 (HR1.out _ hW6)) (inOrder1_any q' _ a' ca' g' w6 h10' HGG'.out HL6.1 HL6.2 (HR2.out _ hW6)) HFF.out (HR.out _ hW6)).mono ?_
      rintro e w7 ⟨⟨vm, rfl, hvm⟩, hb7⟩
      refine hK.out _ _ ?_ (fun hHeld => ?_)
      · first | assumption | exact Below.then (by assumption) (by assumption)
      clear hK K
      try simp only [Act.put, List.setIfInBounds_toArray, List.set_cons_zero, List.set_cons_succ]
      refine wpAnyH_take (i := 6) (oi := { dst := some 6, op := Go.Op.assign (Go.Operand.tmp 30), type := 4, pos := "fix.go:20", after := #[{ on := 5, ground := Go.Ground.data }, { on := 5, ground := Go.Ground.chain }, { on := 0, ground := Go.Ground.phase }, { on := 1, ground := Go.Ground.phase }, { on := 2, ground := Go.Ground.phase }, { on := 3, ground := Go.Ground.phase }, { on := 4, ground := Go.Ground.phase }, { on := 5, ground := Go.Ground.phase }], guard := none }) (v := ?_) rfl (by kernel_rfl) (by kernel_rfl) (by kernel_rfl) (fun _ _ _ h => h) (Or.inl ⟨by rfl, ?hy⟩) (by assumption) ?_
      case hy => (intro w9 hSw; (try dsimp only at hSw); go_simp; try with_reducible rfl)
      try simp only [Act.put, List.setIfInBounds_toArray, List.set_cons_zero, List.set_cons_succ]
      refine wpAnyH_take (i := 7) (oi := { dst := some 7, op := Go.Op.assign (Go.Operand.const (Go.Value.int Go.IntKind.i64 0)), type := 25, pos := "fix.go:20", after := #[{ on := 6, ground := Go.Ground.chain }, { on := 0, ground := Go.Ground.phase }, { on := 1, ground := Go.Ground.phase }, { on := 2, ground := Go.Ground.phase }, { on := 3, ground := Go.Ground.phase }, { on := 4, ground := Go.Ground.phase }, { on := 5, ground := Go.Ground.phase }, { on := 6, ground := Go.Ground.phase }], guard := none }) (v := ?_) rfl (by kernel_rfl) (by kernel_rfl) (by kernel_rfl) (fun _ _ _ h => h) (Or.inl ⟨by rfl, ?hy⟩) (by assumption) ?_
      case hy => (intro w9 hSw; (try dsimp only at hSw); go_simp; try with_reducible rfl)
      try simp only [Act.put, List.setIfInBounds_toArray, List.set_cons_zero, List.set_cons_succ]
      refine wpAnyH_done (by kernel_rfl) ?_ _
      try simp only [Act.put, List.setIfInBounds_toArray, List.set_cons_zero, List.set_cons_succ]
      have HBV : Hid (Below w2.heap.size w2 w7) := by first | assumption | exact hHeld
      have HVM : Hid (vm = true ↔ MonL X Y Z) := hvm.trans HML.out
      clear HL5 HL6 hb5 hb6 hb7 hW6 a0 a1 b0 b1 KK hHeld hvm
      go_wp2_with fail
      go_ret2
      exact ⟨⟨0, vm, HO.out, rfl, .inr ⟨rfl, HVM.out⟩⟩, Below.then HB2.out HBV.out⟩
    · have hne : (c != 0) = true := by simpa using h0
      have HO : Hid (MoCk X Y Z c) := .inr ⟨HC.out, hc⟩
      clear hc
      go_wp2_with fail
      go_ret2
      exact ⟨⟨c, false, HO.out, rfl, .inl ⟨h0, rfl⟩⟩, HB2.out⟩
  · have hne : (c != 0) = true := by simpa using h0
    have HO : Hid (MoCk X Y Z c) := .inl ⟨h0, hc⟩
    clear hc
    go_wp2_with fail
    go_ret2
    exact ⟨⟨c, false, HO.out, rfl, .inl ⟨h0, rfl⟩⟩, HB2.out⟩
end Go.Proofs.YtgmpmmdginikdaaDoor
