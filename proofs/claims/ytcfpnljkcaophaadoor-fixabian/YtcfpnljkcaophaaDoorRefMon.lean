/-
  What fix.Monotone answers. No condition but that slices read as slices of numbers.
  What the reference's IsMonotone answers of two orders and a map. Conditions: both are orders, the map goes from the one to the other.
-/
import Derived.Deep.RegionHeld3
import Derived.Test.YtcfpnljkcaophaaDoorCnt
import Derived.Test.YtcfpnljkcaophaaDoorLat0
import Derived.Test.YtcfpnljkcaophaaDoorRefCheck
namespace Go.Proofs.YtcfpnljkcaophaaDoor
open Go.RowKit

/-- Two orders boxed, and a list. -/
structure GO (A B : OA) (f : MA) (s : Nat) (w : World) : Prop where
  ia : A.In w
  ib : B.In w
  fi : f.In w
  xa : OB w s A.n A.a A.la A.ca
  xb : OB w (s + 1) B.n B.a B.la B.ca
theorem GO.step {A B : OA} {f : MA} {s : Nat} {w w' : World} (h : GO A B f s w) (hb : Below w.heap.size w w') : GO A B f s w' := ⟨h.ia.step hb, h.ib.step hb, h.fi.step hb, h.xa.step hb, h.xb.step hb⟩
theorem GO.new {A B : OA} {f : MA} {w : World} (hA : A.In w) (hB : B.In w) (hf : f.In w) : GO A B f w.heap.size (two w A B) := ⟨hA.step (two_below w A B), hB.step (two_below w A B), hf.step (two_below w A B), two_a w A B, two_b w A B⟩
def MoCk (A B : OA) (f : MA) (c : Int) : Prop := (c ≠ 0 ∧ Ck2 A B c) ∨ (Ck2 A B 0 ∧ MCk A.n B.n f.la f.F c)
theorem MoCk.one {A B : OA} {f : MA} {c d : Int} (h : MoCk A B f c) (h' : MoCk A B f d) : c = d := by
  rcases h with ⟨h0, h⟩ | ⟨h, h1⟩ <;> rcases h' with ⟨h0', h'⟩ | ⟨h', h1'⟩
  · exact h.one h'
  · exact absurd (h.one h') h0
  · exact absurd (h'.one h) h0'
  · exact MCk.one h1 h1'
def MonL (A B : OA) (f : MA) : Prop := MonP (upB A.g) (upB B.g) f.f A.q
def MoPost (A B : OA) (f : MA) (e : Ending) : Prop := ∃ c v, MoCk A B f c ∧ e = .returned (.tuple #[.bool v, .int .i64 c]) ∧ ((c ≠ 0 ∧ v = false) ∨ (c = 0 ∧ (v = true ↔ MonL A B f)))
/-- What is known of an order in which nothing is wrong. -/
theorem OA.open {A : OA} (h : A.Ck 0) : A.n = (A.q : Nat) ∧ A.la = A.q ∧ A.q ≤ 10 ∧ (∀ k, k < A.q → A.g k < 1024) ∧ ∀ w, A.In w → Row w A.a A.q (fun k => (A.g k : Nat)) := by
  obtain ⟨n, a, la, ca, F⟩ := A
  obtain ⟨en, h10, hrg, hord⟩ := Chk.good h
  have en' : n = (la : Nat) := en
  subst en'
  refine ⟨rfl, rfl, h10, fun k hk => Nat.lt_of_lt_of_le (hrg.small k hk) (pw_le la h10), fun w hw => hrg.row hw.2⟩
theorem MA.open {f : MA} {n n' : Nat} (h : MCk (n : Nat) (n' : Nat) f.la f.F 0) : f.la = n ∧ (∀ k, k < n → f.f k < n') ∧ ∀ w, f.In w → Row w f.a n (fun k => (f.f k : Nat)) := by
  have h2 : f.la = n ∧ ∀ k, k < f.la → 0 ≤ f.F k ∧ f.F k < (n' : Int) := by
    rcases h with ⟨h, _⟩ | ⟨h1, ⟨h, _⟩ | ⟨_, h⟩⟩
    · omega
    · omega
    · exact ⟨by omega, h⟩
  obtain ⟨e, h3⟩ := h2
  subst e
  refine ⟨rfl, fun k hk => by have := h3 k hk; unfold MA.f nat; omega, fun w hw k hk => ?_⟩
  obtain ⟨b, o, e1, e2⟩ := hw.2 k hk
  refine ⟨b, o, e1, ?_⟩
  rw [e2]
  have := h3 k hk
  exact congrArg (fun z => some (Value.int .i64 z)) (show f.F k = ((f.f k : Nat) : Int) by unfold MA.f nat; omega)
theorem inOrder_box (n : Int) (a : Option Addr) (la ca : Nat) (w : World) :
    Calls Tryd.prog 25 #[.agg #[.int .i64 n, .slice a la ca]] w fun e w' => e = .returned (.func (.func 36) #[] #[.pointer (some ⟨w.heap.size, 0, none⟩)]) ∧ OB w' w.heap.size n a la ca ∧ Below w.heap.size w w' :=
  (inOrder_any n a la ca w).mono fun e w' h => ⟨h.1, by rw [h.2]; exact OB.new _ _ _ _ _, by rw [h.2]; exact (Below.refl _ _).alloc (Nat.le_refl _) _⟩

set_option maxHeartbeats 8000000 in
theorem monotone_any (A B : OA) (f : MA) (w : World) (hA : A.In w) (hB : B.In w) (hf : f.In w) :
    Calls Tryd.prog 13 #[A.v, B.v, f.v] w fun e w' => MoPost A B f e ∧ Below w.heap.size w w' := by
  have HB1 : Hid (Below w.heap.size w (two w A B)) := two_below w A B
  have hG := GO.new hA hB hf
  have eW : Hid (two w A B = (w.alloc (.cells #[.int .i64 A.n, .slice A.a A.la A.ca] 24)).alloc (.cells #[.int .i64 B.n, .slice B.a B.la B.ca] 24)) := rfl
  generalize two w A B = W at *
  obtain ⟨X, hX⟩ : ∃ X, X = A := ⟨_, rfl⟩
  obtain ⟨Y, hY⟩ : ∃ Y, Y = B := ⟨_, rfl⟩
  obtain ⟨Z, hZ⟩ : ∃ Z, Z = f := ⟨_, rfl⟩
  have HG : Hid (GO X Y Z w.heap.size W) := by rw [hX, hY, hZ]; exact hG
  have HCB : Hid (∀ wx, GO X Y Z w.heap.size wx → Calls Tryd.prog 16 #[A.v, B.v] wx fun e w' => (∃ c, e = .returned (.int .i64 c) ∧ Ck2 X Y c) ∧ Below wx.heap.size wx w') := fun wx h => by
    rw [hX, hY, hZ] at h
    rw [hX, hY]
    exact checkBoth_any A B wx h.ia h.ib
  have HCM : Hid (∀ wx, GO X Y Z w.heap.size wx → Calls Tryd.prog 23 #[f.v, .int .i64 A.n, .int .i64 B.n] wx fun e w' => (∃ c, e = .returned (.int .i64 c) ∧ MCk X.n Y.n Z.la Z.F c) ∧ wx = w') := fun wx h => by
    rw [hX, hY, hZ] at h
    rw [hX, hY, hZ]
    exact checkMap_any f A.n B.n wx h.fi
  have HE : Hid (X = A ∧ Y = B ∧ Z = f) := ⟨hX, hY, hZ⟩
  have HX : Hid (∀ wx, GO X Y Z w.heap.size wx → OB wx w.heap.size A.n A.a A.la A.ca ∧ OB wx (w.heap.size + 1) B.n B.a B.la B.ca) := fun wx h => by
    rw [hX, hY, hZ] at h
    exact ⟨h.xa, h.xb⟩
  rw [← hX, ← hY, ← hZ]
  rw [show X.v = A.v by rw [hX], show Y.v = B.v by rw [hY], show Z.v = f.v by rw [hZ]]
  clear hX hY hZ hA hB hf hG
  obtain ⟨n0, a, la, ca, F⟩ := A
  obtain ⟨n1, a', la', ca', F'⟩ := B
  obtain ⟨fa, fl, fc, FF⟩ := f
  simp only [OA.v, MA.v] at *
  obtain ⟨⟨l0, l1⟩, k0, k1⟩ := HX.out _ HG.out
  go_enter Tryd.func13, Tryd.ntmps13
  go_wp2_with fail
  rw [← eW.out]
  go_wp2_with fail
  clear eW
  refine (HCB.out _ HG.out).mono ?_
  rintro e w1 ⟨⟨c, rfl, hc⟩, hb1⟩
  have HB2 : Hid (Below w.heap.size w w1) := Below.then HB1.out hb1
  have HG1 : Hid (GO X Y Z w.heap.size w1) := HG.out.step hb1
  clear hb1 HG HB1 HCB l0 l1 k0 k1
  by_cases h0 : c = 0
  · subst h0
    have HC : Hid (Ck2 X Y 0) := hc
    clear hc
    obtain ⟨⟨l0, l1⟩, k0, k1⟩ := HX.out _ HG1.out
    go_wp2_with fail
    refine (HCM.out _ HG1.out).mono ?_
    rintro e w2 ⟨⟨c, rfl, hc⟩, hw2⟩
    have hw2' := hw2.symm
    subst hw2'
    clear hw2
    by_cases h0 : c = 0
    · subst h0
      have HM : Hid (MCk X.n Y.n Z.la Z.F 0) := hc
      have hck : X.Ck 0 ∧ Y.Ck 0 := by
        rcases HC.out with ⟨h, _⟩ | h
        · exact absurd rfl h
        · exact h
      obtain ⟨en, el, h10, hg, hr1⟩ := OA.open hck.1
      obtain ⟨en', el', h10', hg', hr2⟩ := OA.open hck.2
      have hmm := HM.out
      rw [en, en'] at hmm
      obtain ⟨ef, hff, hr⟩ := MA.open hmm
      obtain ⟨q, HQ⟩ : ∃ q, Hid (q = X.q) := ⟨_, rfl⟩
      obtain ⟨q', HQ'⟩ : ∃ q', Hid (q' = Y.q) := ⟨_, rfl⟩
      obtain ⟨g, HGE⟩ : ∃ g, Hid (g = X.g) := ⟨_, rfl⟩
      obtain ⟨g', HGE'⟩ : ∃ g', Hid (g' = Y.g) := ⟨_, rfl⟩
      obtain ⟨f, HFE⟩ : ∃ f, Hid (f = Z.f) := ⟨_, rfl⟩
      rw [← HQ.out] at en el h10 hg hr1 ef hff hr
      rw [← HQ'.out] at en' el' h10' hg' hr2 hff
      rw [← HGE.out] at hg hr1
      rw [← HGE'.out] at hg' hr2
      rw [← HFE.out] at hff hr
      have HGG : Hid (∀ k, k < q → g k < 1024) := hg
      have HGG' : Hid (∀ k, k < q' → g' k < 1024) := hg'
      have HFF : Hid (∀ x, x < q → f x < q') := hff
      have HR1 : Hid (∀ wx, Below w2.heap.size w2 wx → Row wx a q (fun k => (g k : Nat))) := fun wx hx => by
        have := hr1 _ (HG1.out.ia.step hx)
        rw [HE.out.1] at this
        exact this
      have HR2 : Hid (∀ wx, Below w2.heap.size w2 wx → Row wx a' q' (fun k => (g' k : Nat))) := fun wx hx => by
        have := hr2 _ (HG1.out.ib.step hx)
        rw [HE.out.2.1] at this
        exact this
      have HR : Hid (∀ wx, Below w2.heap.size w2 wx → Row wx fa q (fun k => (f k : Nat))) := fun wx hx => by
        have := hr _ (HG1.out.fi.step hx)
        rw [HE.out.2.2] at this
        exact this
      have HO : Hid (MoCk X Y Z 0) := .inr ⟨HC.out, HM.out⟩
      have HML : Hid (MonP (upB g) (upB g') f q ↔ MonL X Y Z) := by
        rw [HQ.out, HGE.out, HGE'.out, HFE.out]; exact Iff.rfl
      rw [HE.out.1] at en el
      rw [HE.out.2.1] at en' el'
      rw [HE.out.2.2] at ef
      have e1 : n0 = (q : Nat) := en
      have e2 : q = la := el.symm
      have e3 : n1 = (q' : Nat) := en'
      have e4 : q' = la' := el'.symm
      have e5 : q = fl := ef.symm
      subst e1
      subst e2
      subst e3
      subst e4
      subst e5
      have a0 : ∀ w', Below w2.heap.size w2 w' → w'.cell? ⟨w.heap.size, 0, none⟩ = some (.int .i64 (q : Nat)) := fun w' h => cell_step h l0
      have a1 : ∀ w', Below w2.heap.size w2 w' → w'.cell? ⟨w.heap.size, 1, none⟩ = some (.slice a q ca) := fun w' h => cell_step h l1
      have b0 : ∀ w', Below w2.heap.size w2 w' → w'.cell? ⟨w.heap.size + 1, 0, none⟩ = some (.int .i64 (q' : Nat)) := fun w' h => cell_step h k0
      have b1 : ∀ w', Below w2.heap.size w2 w' → w'.cell? ⟨w.heap.size + 1, 1, none⟩ = some (.slice a' q' ca') := fun w' h => cell_step h k1
      have KK : Below w2.heap.size w2 w2.drew := (Below.refl _ _).drew
      clear hc hck hmm en el hg hr1 en' el' hg' hr2 ef hff hr HX HCM HE HG1 HC HM HQ HQ' HGE HGE' HFE
      go_wp2_with fail
      refine wp_region_held_drew (S := (fun w' => Below w2.heap.size w2 w')) (by kernel_rfl) (KK) (fun hHeld => ?_)
      refine wpAnyH_take (i := 0) (oi := { dst := some 25, op := Go.Op.move (Go.Operand.tmp 2), type := 22, pos := "fix.go:20", after := #[], guard := none }) (v := ?_) rfl (by kernel_rfl) (by kernel_rfl) (by kernel_rfl) (fun _ _ _ h => h) (Or.inl ⟨by rfl, ?hy⟩) (by assumption) ?_
      case hy => (intro w9 hSw; (try dsimp only at hSw); go_simp; try with_reducible rfl)
      try simp only [Act.put, List.setIfInBounds_toArray, List.set_cons_zero, List.set_cons_succ]
      refine wpAnyH_take (i := 1) (oi := { dst := some 26, op := Go.Op.load 24 (Go.Operand.tmp 3), type := 24, pos := "fix.go:20", after := #[], guard := none }) (v := ?_) rfl (by kernel_rfl) (by kernel_rfl) (by kernel_rfl) (fun _ _ _ h => h) (Or.inl ⟨by rfl, ?hy⟩) (by assumption) ?_
      case hy => (intro w9 hSw; (try dsimp only at hSw); go_simp; try with_reducible rfl)
      try simp only [Act.put, List.setIfInBounds_toArray, List.set_cons_zero, List.set_cons_succ]
      refine wpAnyH_take (i := 3) (oi := { dst := some 28, op := Go.Op.load 24 (Go.Operand.tmp 4), type := 24, pos := "fix.go:20", after := #[], guard := none }) (v := ?_) rfl (by kernel_rfl) (by kernel_rfl) (by kernel_rfl) (fun _ _ _ h => h) (Or.inl ⟨by rfl, ?hy⟩) (by assumption) ?_
      case hy => (intro w9 hSw; (try dsimp only at hSw); go_simp; try with_reducible rfl)
      try simp only [Act.put, List.setIfInBounds_toArray, List.set_cons_zero, List.set_cons_succ]
      refine wpAnyH_ready (rs := [2]) (by kernel_rfl) (by simp) ?_
      refine AllReadyH.cons (o := { dst := some 27, op := Go.Op.call { callee := Go.Callee.value (Go.Operand.func 25), args := #[Go.Operand.tmp 26], argTypes := #[24] }, type := 54, pos := "fix.go:20", after := #[{ on := 1, ground := Go.Ground.data }], guard := none }) rfl (fun K hK => ?_) AllReadyH.nil
      go_simp
      refine (inOrder_box (q : Nat) a q ca _).mono ?_
      rintro e w5 ⟨rfl, HL5, hb5⟩
      refine hK.out _ _ ?_ (fun hHeld => ?_)
      · first | assumption | exact Below.then (by assumption) (by assumption)
      clear hK K
      try simp only [Act.put, List.setIfInBounds_toArray, List.set_cons_zero, List.set_cons_succ]
      refine wpAnyH_ready (rs := [4]) (by kernel_rfl) (by simp) ?_
      refine AllReadyH.cons (o := { dst := some 29, op := Go.Op.call { callee := Go.Callee.value (Go.Operand.func 25), args := #[Go.Operand.tmp 28], argTypes := #[24] }, type := 54, pos := "fix.go:20", after := #[{ on := 3, ground := Go.Ground.data }, { on := 2, ground := Go.Ground.chain }], guard := none }) rfl (fun K hK => ?_) AllReadyH.nil
      go_simp
      refine (inOrder_box (q' : Nat) a' q' ca' _).mono ?_
      rintro e w6 ⟨rfl, HL6, hb6⟩
      have hW6 : Below w2.heap.size w2 w6 := Below.then (by assumption) hb6
      refine hK.out _ _ ?_ (fun hHeld => ?_)
      · first | assumption | exact Below.then (by assumption) (by assumption)
      clear hK K
      try simp only [Act.put, List.setIfInBounds_toArray, List.set_cons_zero, List.set_cons_succ]
      refine wpAnyH_ready (rs := [5]) (by kernel_rfl) (by simp) ?_
      refine AllReadyH.cons (o := { dst := some 30, op := Go.Op.call { callee := Go.Callee.value (Go.Operand.func 24), args := #[Go.Operand.tmp 25, Go.Operand.tmp 27, Go.Operand.tmp 29], argTypes := #[22, 54, 54] }, type := 4, pos := "fix.go:20", after := #[{ on := 0, ground := Go.Ground.data }, { on := 2, ground := Go.Ground.data }, { on := 4, ground := Go.Ground.data }, { on := 4, ground := Go.Ground.chain }], guard := none }) rfl (fun K hK => ?_) AllReadyH.nil
      go_simp
      refine (isMonotone_any q q q' 36 36 _ _ (upB g) (upB g') fa fc f w6 (by omega) (Nat.le_refl _) ent_inOrder1 ent_inOrder1 (inOrder1_any q _ a ca g w6 h10 HGG.out (HL5.step hb6).1 (HL5.step hb6).2 (HR1.out _ hW6)) (inOrder1_any q' _ a' ca' g' w6 h10' HGG'.out HL6.1 HL6.2 (HR2.out _ hW6)) HFF.out (HR.out _ hW6)).mono ?_
      rintro e w7 ⟨⟨vm, rfl, hvm⟩, hb7⟩
      refine hK.out _ _ ?_ (fun hHeld => ?_)
      · first | assumption | exact Below.then (by assumption) (by assumption)
      clear hK K
      try simp only [Act.put, List.setIfInBounds_toArray, List.set_cons_zero, List.set_cons_succ]
      refine wpAnyH_take (i := 6) (oi := { dst := some 6, op := Go.Op.assign (Go.Operand.tmp 30), type := 4, pos := "fix.go:20", after := #[{ on := 5, ground := Go.Ground.data }, { on := 5, ground := Go.Ground.chain }, { on := 0, ground := Go.Ground.phase }, { on := 1, ground := Go.Ground.phase }, { on := 2, ground := Go.Ground.phase }, { on := 3, ground := Go.Ground.phase }, { on := 4, ground := Go.Ground.phase }, { on := 5, ground := Go.Ground.phase }], guard := none }) (v := ?_) rfl (by kernel_rfl) (by kernel_rfl) (by kernel_rfl) (fun _ _ _ h => h) (Or.inl ⟨by rfl, ?hy⟩) (by assumption) ?_
      case hy => (intro w9 hSw; (try dsimp only at hSw); go_simp; try with_reducible rfl)
      try simp only [Act.put, List.setIfInBounds_toArray, List.set_cons_zero, List.set_cons_succ]
      refine wpAnyH_take (i := 7) (oi := { dst := some 7, op := Go.Op.assign (Go.Operand.const (Go.Value.int Go.IntKind.i64 0)), type := 26, pos := "fix.go:20", after := #[{ on := 6, ground := Go.Ground.chain }, { on := 0, ground := Go.Ground.phase }, { on := 1, ground := Go.Ground.phase }, { on := 2, ground := Go.Ground.phase }, { on := 3, ground := Go.Ground.phase }, { on := 4, ground := Go.Ground.phase }, { on := 5, ground := Go.Ground.phase }, { on := 6, ground := Go.Ground.phase }], guard := none }) (v := ?_) rfl (by kernel_rfl) (by kernel_rfl) (by kernel_rfl) (fun _ _ _ h => h) (Or.inl ⟨by rfl, ?hy⟩) (by assumption) ?_
      case hy => (intro w9 hSw; (try dsimp only at hSw); go_simp; try with_reducible rfl)
      try simp only [Act.put, List.setIfInBounds_toArray, List.set_cons_zero, List.set_cons_succ]
      refine wpAnyH_done (by kernel_rfl) ?_ _
      try simp only [Act.put, List.setIfInBounds_toArray, List.set_cons_zero, List.set_cons_succ]
      have HBV : Hid (Below w2.heap.size w2 w7) := by first | assumption | exact hHeld
      have HVM : Hid (vm = true ↔ MonL X Y Z) := hvm.trans HML.out
      clear HL5 HL6 hb5 hb6 hb7 hW6 a0 a1 b0 b1 KK hHeld hvm
      go_wp2_with fail
      go_ret2
      exact ⟨⟨0, vm, HO.out, rfl, .inr ⟨rfl, HVM.out⟩⟩, Below.then HB2.out HBV.out⟩
    · have hne : (c != 0) = true := by simpa using h0
      have HO : Hid (MoCk X Y Z c) := .inr ⟨HC.out, hc⟩
      clear hc
      go_wp2_with fail
      go_ret2
      exact ⟨⟨c, false, HO.out, rfl, .inl ⟨h0, rfl⟩⟩, HB2.out⟩
  · have hne : (c != 0) = true := by simpa using h0
    have HO : Hid (MoCk X Y Z c) := .inl ⟨h0, hc⟩
    clear hc
    go_wp2_with fail
    go_ret2
    exact ⟨⟨c, false, HO.out, rfl, .inl ⟨h0, rfl⟩⟩, HB2.out⟩


/-- What must be said of two orders. -/
def Chk2 (n1 : Int) (len1 : Nat) (f1 : Nat → Int) (n2 : Int) (len2 : Nat) (f2 : Nat → Int) (c : Int) : Prop := (c ≠ 0 ∧ Chk n1 len1 f1 c) ∨ (Chk n1 len1 f1 0 ∧ Chk n2 len2 f2 c)
theorem Chk2.unique {n1 : Int} {len1 : Nat} {f1 : Nat → Int} {n2 : Int} {len2 : Nat} {f2 : Nat → Int} {c c' : Int} (h : Chk2 n1 len1 f1 n2 len2 f2 c) (h' : Chk2 n1 len1 f1 n2 len2 f2 c') : c = c' := by
  rcases h with ⟨h0, h⟩ | ⟨h, k⟩ <;> rcases h' with ⟨h0', h'⟩ | ⟨h', k'⟩
  · exact h.unique h'
  · exact absurd (h.unique h') h0
  · exact absurd (h'.unique h) h0'
  · exact k.unique k'
/-- A slice of two orders at the head of block b. -/
def Two (w : World) (b : Nat) (n1 : Int) (a1 : Option Addr) (len1 cap1 : Nat) (n2 : Int) (a2 : Option Addr) (len2 cap2 : Nat) : Prop :=
  w.cell? ⟨b, 0, none⟩ = some (.int .i64 n1) ∧ w.cell? ⟨b, 1, none⟩ = some (.slice a1 len1 cap1) ∧ w.cell? ⟨b, 2, none⟩ = some (.int .i64 n2) ∧ w.cell? ⟨b, 3, none⟩ = some (.slice a2 len2 cap2)
theorem Two.step {w w' : World} {b : Nat} {n1 : Int} {a1 : Option Addr} {len1 cap1 : Nat} {n2 : Int} {a2 : Option Addr} {len2 cap2 : Nat} (h : Two w b n1 a1 len1 cap1 n2 a2 len2 cap2) (hb : Below w.heap.size w w') : Two w' b n1 a1 len1 cap1 n2 a2 len2 cap2 := by
  obtain ⟨h1, h2, h3, h4⟩ := h
  exact ⟨(hb.cell (World.block_lt_of_cell? _ _ h1)).trans h1, (hb.cell (World.block_lt_of_cell? _ _ h2)).trans h2, (hb.cell (World.block_lt_of_cell? _ _ h3)).trans h3, (hb.cell (World.block_lt_of_cell? _ _ h4)).trans h4⟩

set_option maxHeartbeats 1000000 in
theorem upto_any (n : Int) (a : Option Addr) (len cap : Nat) (g : Nat → Nat) (i j : Nat) (w : World) (v : Bool) (hv : upB g i j = v) (hl : len ≤ 10) (hg : ∀ k, k < len → g k < 1024) (hr : Row w a len (fun k => (g k : Nat))) (hi : i < 63) (hj : j < len) :
    Calls Tryd.prog 6 #[.agg #[.int .i64 n, .slice a len cap], .int .i64 i, .int .i64 j] w fun e w' => e = .returned (.bool v) ∧ Below w.heap.size w w' := by
  have HG : Hid (∀ k, k < len → g k < 1024) := hg
  have HR : Hid (Row w a len (fun k => (g k : Nat))) := hr
  clear hg hr
  by_cases hij : i = j
  · subst hij
    have hvt : v = true := by rw [← hv, upB_eq]; simp
    subst hvt
    clear hv
    go_enter Tryd.func6, Tryd.ntmps6
    go_wp2_with fail
    go_ret
    exact ⟨rfl, (Below.refl _ _).alloc (Nat.le_refl _) _⟩
  · have hne : ((i : Int) == (j : Int)) = false := by simp; omega
    have HV : Hid ((g j).testBit i = v) := by
      have e : upB g i j = (g j).testBit i := by rw [upB_eq]; simp; intro h; exact absurd h.symm hij
      exact e.symm.trans hv
    clear hv
    go_enter Tryd.func6, Tryd.ntmps6
    go_wp2_with fail
    refine (less_any n a len cap g i j _ hl HG.out (HR.out.below ((Below.refl _ _).alloc (Nat.le_refl _) _)) hi hj).mono ?_
    rintro e w1 ⟨rfl, hb⟩
    rw [HV.out]
    have HB : Hid (Below w.heap.size w w1) := Below.then ((Below.refl _ _).alloc (Nat.le_refl _) _) hb
    clear hb
    go_wp2_with fail
    go_ret
    exact ⟨rfl, HB.out⟩


theorem less_as (n : Int) (a : Option Addr) (len cap : Nat) (g : Nat → Nat) (i j : Nat) (w : World) (v : Bool) (hv : (g j).testBit i = v) (hl : len ≤ 10) (hg : ∀ k, k < len → g k < 1024) (hr : Row w a len (fun k => (g k : Nat))) (hi : i < 63) (hj : j < len) :
    Calls Tryd.prog 15 #[.agg #[.int .i64 n, .slice a len cap], .int .i64 i, .int .i64 j] w fun e w' => e = .returned (.bool v) ∧ Below w.heap.size w w' := by
  rw [← hv]; exact less_any n a len cap g i j w hl hg hr hi hj
theorem two_new (w : World) (n1 : Int) (a1 : Option Addr) (len1 cap1 : Nat) (n2 : Int) (a2 : Option Addr) (len2 cap2 : Nat) : Two (w.alloc (.cells #[.int .i64 n1, .slice a1 len1 cap1, .int .i64 n2, .slice a2 len2 cap2] 24)) w.heap.size n1 a1 len1 cap1 n2 a2 len2 cap2 := ⟨by simp, by simp, by simp, by simp⟩

/-- So far the reference has found nothing against it. -/
def MonV (g g' f : Nat → Nat) (q i k : Nat) : Prop := ∀ x y, x < q → y < q → (x < i ∨ (x = i ∧ y < k)) → (g y).testBit x = true → upB g' (f x) (f y) = true
theorem MonV.zero (g g' f : Nat → Nat) (q : Nat) : MonV g g' f q 0 0 := fun x y _ _ h => by omega
theorem MonV.next {g g' f : Nat → Nat} {q i k : Nat} (h : MonV g g' f q i k) (e : (g k).testBit i = true → upB g' (f i) (f k) = true) : MonV g g' f q i (k + 1) := fun x y hx hy z => by
  rcases (by omega : (x < i ∨ (x = i ∧ y < k)) ∨ (x = i ∧ y = k)) with h1 | ⟨rfl, rfl⟩
  · exact h x y hx hy h1
  · exact e
theorem MonV.row {g g' f : Nat → Nat} {q i : Nat} (h : MonV g g' f q i q) : MonV g g' f q (i + 1) 0 := fun x y hx hy z => h x y hx hy (by omega)
theorem MonV.all {g g' f : Nat → Nat} {q : Nat} (h : MonV g g' f q q 0) : MonP (upB g) (upB g') f q := fun y hy x hx e => by
  rw [upB_eq, Bool.or_eq_true, decide_eq_true_eq] at e
  rcases e with e | rfl
  · exact h x y hx hy (.inl hx) e
  · rw [upB_eq]; simp
theorem MonV.not {g g' f : Nat → Nat} {q i k : Nat} (hi : i < q) (hk : k < q) (h1 : (g k).testBit i = true) (h2 : upB g' (f i) (f k) = false) : ¬ MonP (upB g) (upB g') f q := fun h => by
  have := h k hk i hi (by rw [upB_eq, h1]; rfl)
  rw [h2] at this
  cases this

end Go.Proofs.YtcfpnljkcaophaaDoor
