/-
  What the reference's Under, LatticeMonotone and FixedEnd answer of a lattice and a map of its elements. Conditions: tables of at most forty elements; the map goes to elements.
  What fix.Monotone answers. No condition but that slices read as slices of numbers.
  For every lattice and list that are handed in, hasselaw.FixTarski returns true, and writes nothing that was there. Condition: the table of the least bits.
-/
import Derived.Deep.RegionHeld3
import Derived.Test.YthdklhpncjncfaaDoorFixF
import Derived.Test.YthdklhpncjncfaaDoorCnt
import Derived.Test.YthdklhpncjncfaaDoorLat0
import Derived.Test.YthdklhpncjncfaaDoorFBegun
import Derived.Test.YthdklhpncjncfaaDoorTarskiM
namespace Go.Proofs.YthdklhpncjncfaaDoor
open Go.RowKit

theorem int_beq' (a b : Nat) : (((a : Nat) : Int) == ((b : Nat) : Int)) = (a == b) := by
  rw [Bool.eq_iff_iff]; simp; omega
set_option maxHeartbeats 1000000 in
theorem under_any (n b1 o1 ca : Nat) (b2 : Option Addr) (lb cb : Nat) (R1 : Nat → Nat × Nat × Nat) (m : Nat → Nat → Nat) (x y : Nat) (w : World) (v : Bool) (hv : leB m x y = v) (ht1 : Tb w b1 o1 n R1 m) (hx : x < n) (hy : y < n) :
    Calls Tryd.prog 7 #[.agg #[.int .i64 (n : Int), .slice (some ⟨b1, o1, none⟩) n ca, .slice b2 lb cb], .int .i64 (x : Nat), .int .i64 (y : Nat)] w fun e w' => e = .returned (.bool v) ∧ Below w.heap.size w w' := by
  have B1 : Below w.heap.size w (w.alloc (.cells #[.int .i64 (n : Int), .slice (some ⟨b1, o1, none⟩) n ca, .slice b2 lb cb] 24)) := (Below.refl _ _).alloc (Nat.le_refl _) _
  have ht := ht1.step B1
  have HB : Hid (Below w.heap.size w (w.alloc (.cells #[.int .i64 (n : Int), .slice (some ⟨b1, o1, none⟩) n ca, .slice b2 lb cb] 24))) := B1
  have r1 := (ht x hx).1
  have r2 := (ht x hx).2 y hy
  have i1 : (x : Int) < (n : Int) := by omega
  have i2 : (y : Int) < (n : Int) := by omega
  have hq : (((m x y : Nat) : Int) == ((x : Nat) : Int)) = v := by rw [int_beq']; exact hv
  clear ht ht1 B1 hv
  go_enter Tryd.func7, Tryd.ntmps7
  go_wp2_with fail
  go_ret
  exact ⟨rfl, HB.out⟩


/-- So far the reference has found nothing against it. -/
def LaV (m : Nat → Nat → Nat) (f : Nat → Nat) (q i k : Nat) : Prop := ∀ x y, x < q → y < q → (x < i ∨ (x = i ∧ y < k)) → leB m x y = true → leB m (f x) (f y) = true
theorem LaV.zero (m : Nat → Nat → Nat) (f : Nat → Nat) (q : Nat) : LaV m f q 0 0 := fun x y _ _ h => by omega
theorem LaV.next {m : Nat → Nat → Nat} {f : Nat → Nat} {q i k : Nat} (h : LaV m f q i k) (e : leB m i k = true → leB m (f i) (f k) = true) : LaV m f q i (k + 1) := fun x y hx hy z => by
  rcases (by omega : (x < i ∨ (x = i ∧ y < k)) ∨ (x = i ∧ y = k)) with h1 | ⟨rfl, rfl⟩
  · exact h x y hx hy h1
  · exact e
theorem LaV.row {m : Nat → Nat → Nat} {f : Nat → Nat} {q i : Nat} (h : LaV m f q i q) : LaV m f q (i + 1) 0 := fun x y hx hy z => h x y hx hy (by omega)
theorem LaV.all {m : Nat → Nat → Nat} {f : Nat → Nat} {q : Nat} (h : LaV m f q q 0) : MonP (leB m) (leB m) f q := fun y hy x hx e => h x y hx hy (.inl hx) e
theorem LaV.not {m : Nat → Nat → Nat} {f : Nat → Nat} {q i k : Nat} (hi : i < q) (hk : k < q) (h1 : leB m i k = true) (h2 : leB m (f i) (f k) = false) : ¬ MonP (leB m) (leB m) f q := fun h => by
  have := h k hk i hi h1
  rw [h2] at this
  cases this



/-- Two orders boxed, and a list. -/
structure GO (A B : OA) (f : MA) (s : Nat) (w : World) : Prop where
  ia : A.In w
  ib : B.In w
  fi : f.In w
  xa : OB w s A.n A.a A.la A.ca
  xb : OB w (s + 1) B.n B.a B.la B.ca
theorem GO.step {A B : OA} {f : MA} {s : Nat} {w w' : World} (h : GO A B f s w) (hb : Below w.heap.size w w') : GO A B f s w' := ⟨h.ia.step hb, h.ib.step hb, h.fi.step hb, h.xa.step hb, h.xb.step hb⟩
theorem GO.new {A B : OA} {f : MA} {w : World} (hA : A.In w) (hB : B.In w) (hf : f.In w) : GO A B f w.heap.size (two w A B) := ⟨hA.step (two_below w A B), hB.step (two_below w A B), hf.step (two_below w A B), two_a w A B, two_b w A B⟩
def MoCk (A B : OA) (f : MA) (c : Int) : Prop := (c ≠ 0 ∧ Ck2 A B c) ∨ (Ck2 A B 0 ∧ MCk A.n B.n f.la f.F c)
theorem MoCk.one {A B : OA} {f : MA} {c d : Int} (h : MoCk A B f c) (h' : MoCk A B f d) : c = d := by
  rcases h with ⟨h0, h⟩ | ⟨h, h1⟩ <;> rcases h' with ⟨h0', h'⟩ | ⟨h', h1'⟩
  · exact h.one h'
  · exact absurd (h.one h') h0
  · exact absurd (h'.one h) h0'
  · exact MCk.one h1 h1'
def MonL (A B : OA) (f : MA) : Prop := MonP (upB A.g) (upB B.g) f.f A.q
def MoPost (A B : OA) (f : MA) (e : Ending) : Prop := ∃ c v, MoCk A B f c ∧ e = .returned (.tuple #[.bool v, .int .i64 c]) ∧ ((c ≠ 0 ∧ v = false) ∨ (c = 0 ∧ (v = true ↔ MonL A B f)))
/-- What is known of an order in which nothing is wrong. -/
theorem OA.open {A : OA} (h : A.Ck 0) : A.n = (A.q : Nat) ∧ A.la = A.q ∧ A.q ≤ 10 ∧ (∀ k, k < A.q → A.g k < 1024) ∧ ∀ w, A.In w → Row w A.a A.q (fun k => (A.g k : Nat)) := by
  obtain ⟨n, a, la, ca, F⟩ := A
  obtain ⟨en, h10, hrg, hord⟩ := Chk.good h
  have en' : n = (la : Nat) := en
  subst en'
  refine ⟨rfl, rfl, h10, fun k hk => Nat.lt_of_lt_of_le (hrg.small k hk) (pw_le la h10), fun w hw => hrg.row hw.2⟩
theorem MA.open {f : MA} {n n' : Nat} (h : MCk (n : Nat) (n' : Nat) f.la f.F 0) : f.la = n ∧ (∀ k, k < n → f.f k < n') ∧ ∀ w, f.In w → Row w f.a n (fun k => (f.f k : Nat)) := by
  have h2 : f.la = n ∧ ∀ k, k < f.la → 0 ≤ f.F k ∧ f.F k < (n' : Int) := by
    rcases h with ⟨h, _⟩ | ⟨h1, ⟨h, _⟩ | ⟨_, h⟩⟩
    · omega
    · omega
    · exact ⟨by omega, h⟩
  obtain ⟨e, h3⟩ := h2
  subst e
  refine ⟨rfl, fun k hk => by have := h3 k hk; unfold MA.f nat; omega, fun w hw k hk => ?_⟩
  obtain ⟨b, o, e1, e2⟩ := hw.2 k hk
  refine ⟨b, o, e1, ?_⟩
  rw [e2]
  have := h3 k hk
  exact congrArg (fun z => some (Value.int .i64 z)) (show f.F k = ((f.f k : Nat) : Int) by unfold MA.f nat; omega)
theorem inOrder_box (n : Int) (a : Option Addr) (la ca : Nat) (w : World) :
    Calls Tryd.prog 26 #[.agg #[.int .i64 n, .slice a la ca]] w fun e w' => e = .returned (.func (.func 41) #[] #[.pointer (some ⟨w.heap.size, 0, none⟩)]) ∧ OB w' w.heap.size n a la ca ∧ Below w.heap.size w w' :=
  (inOrder_any n a la ca w).mono fun e w' h => ⟨h.1, by rw [h.2]; exact OB.new _ _ _ _ _, by rw [h.2]; exact (Below.refl _ _).alloc (Nat.le_refl _) _⟩



theorem FCk.all {X : LA} {Z : MA} (h : FCk X Z 0) : X.Ck 0 ∧ MCk X.n X.n Z.la Z.F 0 ∧ Mono X.q X.m Z.f := by
  rcases h with ⟨h, _⟩ | ⟨h, ⟨h1, _⟩ | ⟨h1, ⟨h2, _⟩ | ⟨_, h2⟩⟩⟩
  · exact absurd rfl h
  · exact absurd rfl h1
  · cases h2
  · exact ⟨h, h1, h2⟩
theorem leB_of {m : Nat → Nat → Nat} {x y : Nat} (h : m x y = x) : leB m x y = true := by simpa [leB] using h
theorem le_of {m : Nat → Nat → Nat} {x y : Nat} (h : leB m x y = true) : m x y = x := by simpa [leB] using h

set_option maxHeartbeats 8000000 in
set_option maxRecDepth 100000 in
theorem fixTarski_any (n : Int) (a : Option Addr) (la ca : Nat) (SA : Nat → Option Addr × Nat × Nat) (FA : Nat → Nat → Int) (b : Option Addr) (lb cb : Nat) (SB : Nat → Option Addr × Nat × Nat) (FB : Nat → Nat → Int) (fa : Option Addr) (fl fc : Nat) (FF : Nat → Int) (w : World)
    (hla : la ≤ maxLen) (hlb : lb ≤ maxLen) (hl2 : fl ≤ maxLen) (hra : RR w a la SA FA) (hrb : RR w b lb SB FB) (hr2 : Row w fa fl FF) (hT : Tab w) :
    Calls Tryd.prog 3 #[.agg #[.int .i64 n, .slice a la ca, .slice b lb cb], .slice fa fl fc] w fun e w' => e = .returned (.bool true) ∧ Below w.heap.size w w' := by
  obtain ⟨W, eW⟩ : ∃ W, Hid (W = w.alloc (.cells #[.int .i64 n, .slice a la ca, .slice b lb cb] 24)) := ⟨_, rfl⟩
  have HB1 : Hid (Below w.heap.size w W) := by rw [eW.out]; exact (Below.refl _ _).alloc (Nat.le_refl _) _
  have HA : Hid (∀ wx, Below W.heap.size W wx → LA.In (LA.mk n a la ca SA FA b lb cb SB FB) wx) := fun wx h => ⟨hla, hlb, (hra.below HB1.out).below h, (hrb.below HB1.out).below h⟩
  have HM : Hid (∀ wx, Below W.heap.size W wx → MA.In (MA.mk fa fl fc FF) wx) := fun wx h => ⟨hl2, (hr2.below HB1.out).below h⟩
  have HOB : Hid (LB W w.heap.size n a la ca b lb cb) := by rw [eW.out]; exact LB.new _ _ _ _ _ _ _ _
  have HO : Hid (∀ wx, Below W.heap.size W wx → LB wx w.heap.size n a la ca b lb cb) := fun wx h => HOB.out.step h
  have HT : Hid (Tab W) := hT.step HB1.out
  have C1 : Hid (∀ wx, Below W.heap.size W wx → Calls Tryd.prog 5 #[.agg #[.int .i64 n, .slice a la ca, .slice b lb cb], .slice fa fl fc] wx fun e w' => FPost (LA.mk n a la ca SA FA b lb cb SB FB) (MA.mk fa fl fc FF) (LA.m (LA.mk n a la ca SA FA b lb cb SB FB)) e ∧ Below wx.heap.size wx w') := fun wx h => least_any (LA.mk n a la ca SA FA b lb cb SB FB) (MA.mk fa fl fc FF) wx (HA.out wx h) (HM.out wx h)
  have C2 : Hid (∀ wx, Below W.heap.size W wx → Calls Tryd.prog 6 #[.agg #[.int .i64 n, .slice a la ca, .slice b lb cb], .slice fa fl fc] wx fun e w' => FPost (LA.mk n a la ca SA FA b lb cb SB FB) (MA.mk fa fl fc FF) (LA.j (LA.mk n a la ca SA FA b lb cb SB FB)) e ∧ Below wx.heap.size wx w') := fun wx h => greatest_any (LA.mk n a la ca SA FA b lb cb SB FB) (MA.mk fa fl fc FF) wx (HA.out wx h) (HM.out wx h)
  clear hra hrb hr2 hT HOB hla hlb hl2
  go_enter Tryd.func3, Tryd.ntmps3
  go_wp2_with fail
  rw [← eW.out]
  refine (fixBegun_any _ HT.out).mono ?_
  rintro e w0 ⟨rfl, hb0⟩
  have HB0 : Hid (Below W.heap.size W w0) := hb0
  obtain ⟨l0, l1, l2⟩ := HO.out _ HB0.out
  clear hb0
  go_wp2_with fail
  refine (C1.out _ HB0.out).mono ?_
  rintro e w1 ⟨⟨c, v, hc, rfl, hv⟩, hb1⟩
  have HB2 : Hid (Below W.heap.size W w1) := Below.then HB0.out hb1
  have HC : Hid (FCk (LA.mk n a la ca SA FA b lb cb SB FB) (MA.mk fa fl fc FF) c) := hc
  have HV1 : Hid ((c ≠ 0 ∧ v = 0) ∨ (c = 0 ∧ ∃ x : Nat, v = (x : Nat) ∧ FixI (LA.q (LA.mk n a la ca SA FA b lb cb SB FB)) (LA.m (LA.mk n a la ca SA FA b lb cb SB FB)) (MA.f (MA.mk fa fl fc FF)) x ∧ MA.f (MA.mk fa fl fc FF) x = x)) := hv
  clear hb1 l0 l1 l2 hc hv C1 HB0
  obtain ⟨l0, l1, l2⟩ := HO.out _ HB2.out
  go_wp2_with fail
  refine (C2.out _ HB2.out).mono ?_
  rintro e w2 ⟨⟨c', v', hc', rfl, hv'⟩, hb2⟩
  have ecc : c = c' := HC.out.one hc'
  subst ecc
  have HB3 : Hid (Below W.heap.size W w2) := Below.then HB2.out hb2
  have HV2 : Hid ((c ≠ 0 ∧ v' = 0) ∨ (c = 0 ∧ ∃ x : Nat, v' = (x : Nat) ∧ FixI (LA.q (LA.mk n a la ca SA FA b lb cb SB FB)) (LA.j (LA.mk n a la ca SA FA b lb cb SB FB)) (MA.f (MA.mk fa fl fc FF)) x ∧ MA.f (MA.mk fa fl fc FF) x = x)) := hv'
  clear hb2 HB2 l0 l1 l2 hc' hv' C2
  by_cases h0 : c = 0
  · subst h0
    obtain ⟨x, rfl, hp⟩ : ∃ x : Nat, v = (x : Nat) ∧ FixI (LA.q (LA.mk n a la ca SA FA b lb cb SB FB)) (LA.m (LA.mk n a la ca SA FA b lb cb SB FB)) (MA.f (MA.mk fa fl fc FF)) x ∧ MA.f (MA.mk fa fl fc FF) x = x := by
      rcases HV1.out with ⟨h, _⟩ | ⟨_, h⟩
      · exact absurd rfl h
      · exact h
    obtain ⟨y, rfl, hq⟩ : ∃ x : Nat, v' = (x : Nat) ∧ FixI (LA.q (LA.mk n a la ca SA FA b lb cb SB FB)) (LA.j (LA.mk n a la ca SA FA b lb cb SB FB)) (MA.f (MA.mk fa fl fc FF)) x ∧ MA.f (MA.mk fa fl fc FF) x = x := by
      rcases HV2.out with ⟨h, _⟩ | ⟨_, h⟩
      · exact absurd rfl h
      · exact h
    obtain ⟨hck, hmc, hmono⟩ := HC.out.all
    obtain ⟨q, b1, o1, b2, o2, e1, e2, e3, e4, e5, h1, h40, hlat, ht1, ht2⟩ := LCk.open hck (HA.out w2 HB3.out).2.2.1 (HA.out w2 HB3.out).2.2.2
    have e1' : n = (q : Nat) := e1
    have e2' : a = some ⟨b1, o1, none⟩ := e2
    have e3' : q = la := e3
    have e4' : b = some ⟨b2, o2, none⟩ := e4
    have e5' : q = lb := e5
    have eq : LA.q (LA.mk n a la ca SA FA b lb cb SB FB) = q := by show n.toNat = q; omega
    have hmc' : MCk n n fl FF 0 := hmc
    rw [e1'] at hmc'
    obtain ⟨ef, hff, hrf⟩ := MA.open (f := (MA.mk fa fl fc FF)) hmc'
    have ef' : q = fl := Eq.symm ef
    rw [eq] at hp hq hmono
    have hp' : FixI q (nat2 FA) (MA.f (MA.mk fa fl fc FF)) x ∧ MA.f (MA.mk fa fl fc FF) x = x := hp
    have hq' : FixI q (nat2 FB) (MA.f (MA.mk fa fl fc FF)) y ∧ MA.f (MA.mk fa fl fc FF) y = y := hq
    have hmono' : Mono q (nat2 FA) (MA.f (MA.mk fa fl fc FF)) := hmono
    have HRF : Hid (∀ wx, Below w2.heap.size w2 wx → Row wx fa q (fun k => (MA.f (MA.mk fa fl fc FF) k : Nat))) := fun wx h => hrf wx (HM.out wx (Below.then HB3.out h))
    have HOX : Hid (∀ wx, Below w2.heap.size w2 wx → LB wx w.heap.size n a la ca b lb cb) := fun wx h => HO.out wx (Below.then HB3.out h)
    have ht1' : Tb w2 b1 o1 q (fun x => rAt (SA x)) (nat2 FA) := ht1
    have ht2' : Tb w2 b2 o2 q (fun x => rAt (SB x)) (nat2 FB) := ht2
    have hlat' : Lat q (nat2 FA) (nat2 FB) := hlat
    clear hp hq hmono hck hmc hmc' e1 e2 e3 e4 e5 ef hrf ht1 ht2 hlat HA HM HO HV1 HV2 HC eq
    generalize (fun x => rAt (SA x)) = R1 at *
    generalize (fun x => rAt (SB x)) = R2 at *
    generalize nat2 FA = m at *
    generalize nat2 FB = j at *
    generalize MA.f (MA.mk fa fl fc FF) = F at *
    subst e1' e2' e3' e4' e5' ef'
    have hx := hp'.1.1
    have hy := hq'.1.1
    have HX1 : Hid (∀ k, k < q → F k = k → leB m x k = true) := fun k hk h => leB_of (hp'.1.2.2 k hk h)
    have HY1 : Hid (∀ k, k < q → F k = k → leB m k y = true) := fun k hk h => leB_of ((hlat'.le_join hk hy).2 (by rw [hlat'.turn.comm hk hy]; exact hq'.1.2.2 k hk h))
    have HJ : Hid (∀ s t, s < q → t < q → j s t < q) := fun s t hs ht => hlat'.ij s t hs ht
    have HIL : Hid (∀ k z, z < q → itr F k z < q) := fun k z hz => itr_lt hff hz k
    have HI : Hid (∀ s t, s < q → t < q → F s = s → F t = t → F (itr F q (j s t)) = itr F q (j s t) ∧ leB m (j s t) (itr F q (j s t)) = true ∧ ∀ c, c < q → F c = c → leB m s c = true → leB m t c = true → leB m (itr F q (j s t)) c = true) := fun s t hs ht es et => by
      have hj := hlat'.ij s t hs ht
      have hu := join_up hlat' hff hmono' hs ht hj es et
      exact ⟨itr_fix hlat' hff hmono' hj hu, leB_of (itr_above hlat' hff hmono' hj hu q), fun c hc ec g1 g2 => leB_of (itr_below hff hmono' hj hc ec (hlat'.join_lub hs ht hc (le_of g1) (le_of g2)) q)⟩
    have HU : Hid (∀ i k v, i < q → k < q → leB m i k = v → ∀ wx, Below w2.heap.size w2 wx → Calls Tryd.prog 7 #[.agg #[.int .i64 (q : Nat), .slice (some ⟨b1, o1, none⟩) q ca, .slice (some ⟨b2, o2, none⟩) q cb], .int .i64 (i : Nat), .int .i64 (k : Nat)] wx fun e w' => e = .returned (.bool v) ∧ Below wx.heap.size wx w') := fun i k v hi hk hv wx h =>
      under_any q b1 o1 ca _ q cb R1 m i k wx v hv (ht1'.step h) hi hk
    have HT2 : Hid (∀ wx, Below w2.heap.size w2 wx → Tb wx b2 o2 q R2 j) := fun wx h => ht2'.step h
    obtain ⟨bf, off, rfl, cx⟩ := HRF.out w2 (Below.refl _ _) x hx
    have HF : Hid (∀ wx, Below w2.heap.size w2 wx → ∀ k, k < q → ∀ z : Nat, F k = z → wx.cell? ⟨bf, off + k, none⟩ = some (.int .i64 (z : Nat))) := fun wx h k hk z hz => by
      obtain ⟨bk, ok, ek, ck⟩ := HRF.out wx h k hk
      obtain ⟨rfl, rfl⟩ : bf = bk ∧ off = ok := by simp at ek; exact ek
      rw [ck]; exact congrArg (fun z : Nat => some (Value.int .i64 (z : Int))) hz
    have cx' := HF.out w2 (Below.refl _ _) x hx x hp'.2
    have cy' := HF.out w2 (Below.refl _ _) y hy y hq'.2
    obtain ⟨l0, l1, l2⟩ := HOX.out _ (Below.refl _ _)
    have x0 : ¬ ((x : Int) < 0) := by omega
    have y0 : ¬ ((y : Int) < 0) := by omega
    have xq : (x : Int) < (q : Int) := by omega
    have yq : (y : Int) < (q : Int) := by omega
    have xq' : ¬ ((q : Int) ≤ (x : Int)) := by omega
    have yq' : ¬ ((q : Int) ≤ (y : Int)) := by omega
    clear cx HRF hp' hq' hmono' hlat' ht1' ht2' hff
    go_wp2_with fail
    have nx0 : ¬ ((x : Int) < 0) := by omega
    have ny0 : ¬ ((y : Int) < 0) := by omega
    have nqx : ¬ q ≤ x := by omega
    have nqy : ¬ q ≤ y := by omega
    simp only [nx0, ny0, nqx, nqy, decide_false, Bool.or_false]
    clear x0 y0 xq' yq' cx' cy' l0 l1 l2 nx0 ny0 nqx nqy
    go_loopw [9] (fun i wx => ∃ k : Nat, k ≤ q ∧ i = .int .i64 k ∧ Hid (Below w2.heap.size w2 wx)) (fun i _ => q - (intOf i).toNat)
    case atStart => exact ⟨0, Nat.zero_le _, rfl, Below.refl _ _⟩
    case round =>
      obtain ⟨k, hk, rfl, HBx⟩ := hrel
      obtain ⟨l0, l1, l2⟩ := HOX.out _ HBx.out
      by_cases hlt : k < q
      · have hlt' : (k : Int) < (q : Int) := by omega
        by_cases hf : F k = k
        · have ck := HF.out _ HBx.out k hlt k hf
          have HU1 := (show Hid (Calls Tryd.prog 7 #[.agg #[.int .i64 (q : Nat), .slice (some ⟨b1, o1, none⟩) q ca, .slice (some ⟨b2, o2, none⟩) q cb], .int .i64 (x : Nat), .int .i64 (k : Nat)] wr fun e w' => e = .returned (.bool true) ∧ Below wr.heap.size wr w') from HU.out x k true hx hlt (HX1.out k hlt hf) wr HBx.out)
          go_wp2_with fail
          refine HU1.out.mono ?_
          rintro e w3 ⟨rfl, hb3⟩
          have HBy : Hid (Below w2.heap.size w2 w3) := Below.then HBx.out hb3
          clear hb3 l0 l1 l2 ck HU1
          obtain ⟨l0, l1, l2⟩ := HOX.out _ HBy.out
          have HU2 := (show Hid (Calls Tryd.prog 7 #[.agg #[.int .i64 (q : Nat), .slice (some ⟨b1, o1, none⟩) q ca, .slice (some ⟨b2, o2, none⟩) q cb], .int .i64 (k : Nat), .int .i64 (y : Nat)] w3 fun e w' => e = .returned (.bool true) ∧ Below w3.heap.size w3 w') from HU.out k y true hlt hy (HY1.out k hlt hf) w3 HBy.out)
          go_wp2_with fail
          refine HU2.out.mono ?_
          rintro e w4 ⟨rfl, hb4⟩
          have HBz : Hid (Below w2.heap.size w2 w4) := Below.then HBy.out hb4
          clear hb4 l0 l1 l2 HU2 HBy HBx
          go_wp2_with fail
          go_loopw [10] (fun i wx => ∃ t : Nat, t ≤ k ∧ i = .int .i64 t ∧ Hid (Below w2.heap.size w2 wx)) (fun i _ => k - (intOf i).toNat)
          case atStart => exact ⟨0, Nat.zero_le _, rfl, HBz⟩
          case round =>
            clear HBz
            obtain ⟨t, ht, rfl, HBx⟩ := hrel
            by_cases htk : t < k
            · have htk' : (t : Int) < (k : Int) := by omega
              have htq : t < q := by omega
              have htq' : (t : Int) < (q : Int) := by omega
              have ck := HF.out _ HBx.out k hlt k hf
              by_cases hft : F t = t
              · have ct := HF.out _ HBx.out t htq t hft
                obtain ⟨l0, l1, l2⟩ := HOX.out _ HBx.out
                obtain ⟨r1, r2⟩ := HT2.out _ HBx.out k hlt
                have r3 := r2 t htq
                obtain ⟨i1, i2, i3⟩ := HI.out k t hlt htq hf hft
                have HI3 : Hid (∀ c, c < q → F c = c → leB m k c = true → leB m t c = true → leB m (itr F q (j k t)) c = true) := i3
                have HI1 : Hid (F (itr F q (j k t)) = itr F q (j k t)) := i1
                have HI2 : Hid (leB m (j k t) (itr F q (j k t)) = true) := i2
                have hjl := HJ.out k t hlt htq
                have HIT : Hid (∀ i, itr F i (j k t) < q) := fun i => HIL.out i _ hjl
                have HJE : Hid (∀ wx, Below w2.heap.size w2 wx → wx.cell? ⟨(R2 k).1, (R2 k).2.1 + t, none⟩ = some (.int .i64 (j k t : Nat))) := fun wx h => (HT2.out wx h k hlt).2 t htq
                clear i1 i2 i3 r2
                generalize j k t = z at *
                go_wp2_with fail
                clear ck ct l0 l1 l2 r1 r3
                go_loopw [11, 12] (fun v i wx => ∃ d : Nat, d ≤ q ∧ i = .int .i64 d ∧ v = .int .i64 (itr F d z : Nat) ∧ Hid (Below w2.heap.size w2 wx)) (fun _ i _ => q - (intOf i).toNat)
                case atStart => exact ⟨0, Nat.zero_le _, rfl, rfl, HBx⟩
                case round =>
                  clear HBx
                  obtain ⟨d, hd, rfl, rfl, HBx⟩ := hrel
                  obtain ⟨l0, l1, l2⟩ := HOX.out _ HBx.out
                  by_cases hdq : d < q
                  · have hdq' : (d : Int) < (q : Int) := by omega
                    have hil := HIT.out d
                    have hil' : ((itr F d z : Nat) : Int) < (q : Int) := by omega
                    have ci := HF.out _ HBx.out (itr F d z) hil (itr F (d + 1) z) rfl
                    go_wp2_with fail
                    go_roundw
                    case rel => exact ⟨d + 1, by omega, by go_num, rfl, HBx⟩
                    case measure => simp [intOf]; omega
                  · have hdl : d = q := by omega
                    have hdl' : (q : Int) ≤ (d : Int) := by omega
                    rw [hdl]
                    have hal := HIT.out q
                    generalize itr F q z = at0 at *
                    go_wp2_with fail
                    clear l0 l1 l2
                    go_loopw [13] (fun i wx => ∃ c : Nat, c ≤ q ∧ i = .int .i64 c ∧ Hid (Below w2.heap.size w2 wx)) (fun i _ => q - (intOf i).toNat)
                    case atStart => exact ⟨0, Nat.zero_le _, rfl, HBx⟩
                    case round =>
                      clear HBx
                      obtain ⟨c, hcq, rfl, HBx⟩ := hrel
                      obtain ⟨l0, l1, l2⟩ := HOX.out _ HBx.out
                      by_cases hc : c < q
                      · have hc' : (c : Int) < (q : Int) := by omega
                        by_cases hfc : F c = c
                        · have cc := HF.out _ HBx.out c hc c hfc
                          rcases (Bool.eq_false_or_eq_true (leB m k c)).symm with u1 | u1
                          · have HU1 := (show Hid (Calls Tryd.prog 7 #[.agg #[.int .i64 (q : Nat), .slice (some ⟨b1, o1, none⟩) q ca, .slice (some ⟨b2, o2, none⟩) q cb], .int .i64 (k : Nat), .int .i64 (c : Nat)] wr fun e w' => e = .returned (.bool false) ∧ Below wr.heap.size wr w') from HU.out k c false hlt hc u1 wr HBx.out)
                            go_wp2_with fail
                            refine HU1.out.mono ?_
                            rintro e w5 ⟨rfl, hb5⟩
                            have HB5 : Hid (Below w2.heap.size w2 w5) := Below.then HBx.out hb5
                            clear hb5
                            go_wp2_with fail
                            go_roundw
                            case rel => exact ⟨c + 1, by omega, by go_num, HB5⟩
                            case measure => simp [intOf]; omega
                          · have HU1 := (show Hid (Calls Tryd.prog 7 #[.agg #[.int .i64 (q : Nat), .slice (some ⟨b1, o1, none⟩) q ca, .slice (some ⟨b2, o2, none⟩) q cb], .int .i64 (k : Nat), .int .i64 (c : Nat)] wr fun e w' => e = .returned (.bool true) ∧ Below wr.heap.size wr w') from HU.out k c true hlt hc u1 wr HBx.out)
                            go_wp2_with fail
                            refine HU1.out.mono ?_
                            rintro e w5 ⟨rfl, hb5⟩
                            have HB5 : Hid (Below w2.heap.size w2 w5) := Below.then HBx.out hb5
                            clear hb5 l0 l1 l2 HU1 HBx
                            obtain ⟨l0, l1, l2⟩ := HOX.out _ HB5.out
                            rcases (Bool.eq_false_or_eq_true (leB m t c)).symm with u2 | u2
                            · have HU1 := (show Hid (Calls Tryd.prog 7 #[.agg #[.int .i64 (q : Nat), .slice (some ⟨b1, o1, none⟩) q ca, .slice (some ⟨b2, o2, none⟩) q cb], .int .i64 (t : Nat), .int .i64 (c : Nat)] w5 fun e w' => e = .returned (.bool false) ∧ Below w5.heap.size w5 w') from HU.out t c false htq hc u2 w5 HB5.out)
                              go_wp2_with fail
                              refine HU1.out.mono ?_
                              rintro e w6 ⟨rfl, hb6⟩
                              have HB6 : Hid (Below w2.heap.size w2 w6) := Below.then HB5.out hb6
                              clear hb6
                              go_wp2_with fail
                              go_roundw
                              case rel => exact ⟨c + 1, by omega, by go_num, HB6⟩
                              case measure => simp [intOf]; omega
                            · have HU1 := (show Hid (Calls Tryd.prog 7 #[.agg #[.int .i64 (q : Nat), .slice (some ⟨b1, o1, none⟩) q ca, .slice (some ⟨b2, o2, none⟩) q cb], .int .i64 (t : Nat), .int .i64 (c : Nat)] w5 fun e w' => e = .returned (.bool true) ∧ Below w5.heap.size w5 w') from HU.out t c true htq hc u2 w5 HB5.out)
                              go_wp2_with fail
                              refine HU1.out.mono ?_
                              rintro e w6 ⟨rfl, hb6⟩
                              have HB6 : Hid (Below w2.heap.size w2 w6) := Below.then HB5.out hb6
                              clear hb6 l0 l1 l2 HU1 HB5
                              obtain ⟨l0, l1, l2⟩ := HOX.out _ HB6.out
                              have HU1 := (show Hid (Calls Tryd.prog 7 #[.agg #[.int .i64 (q : Nat), .slice (some ⟨b1, o1, none⟩) q ca, .slice (some ⟨b2, o2, none⟩) q cb], .int .i64 (at0 : Nat), .int .i64 (c : Nat)] w6 fun e w' => e = .returned (.bool true) ∧ Below w6.heap.size w6 w') from HU.out at0 c true hal hc (HI3.out c hc hfc u1 u2) w6 HB6.out)
                              go_wp2_with fail
                              refine HU1.out.mono ?_
                              rintro e w7 ⟨rfl, hb7⟩
                              have HB7 : Hid (Below w2.heap.size w2 w7) := Below.then HB6.out hb7
                              clear hb7
                              go_wp2_with fail
                              go_roundw
                              case rel => exact ⟨c + 1, by omega, by go_num, HB7⟩
                              case measure => simp [intOf]; omega
                        · obtain ⟨g, hg⟩ : ∃ g, F c = g := ⟨_, rfl⟩
                          have cc := HF.out _ HBx.out c hc g hg
                          have hgc : ((g : Int) == (c : Int)) = false := by simp; omega
                          have hgc' : ¬ ((g : Int) = (c : Int)) := by omega
                          go_wp2_with fail
                          go_roundw
                          case rel => exact ⟨c + 1, by omega, by go_num, HBx⟩
                          case measure => simp [intOf]; omega
                      · have hcl : (q : Int) ≤ (c : Int) := by omega
                        have hal' : (at0 : Int) < (q : Int) := by omega
                        have ca1 := HF.out _ HBx.out at0 hal at0 HI1.out
                        obtain ⟨r1, _⟩ := HT2.out _ HBx.out k hlt
                        have r3 := HJE.out _ HBx.out
                        have m0 : ∀ w' : World, Below wr.heap.size wr w' → w'.cell? ⟨w.heap.size, 0, none⟩ = some (.int .i64 (q : Nat)) := fun w' h => cell_step h l0
                        have m1 : ∀ w' : World, Below wr.heap.size wr w' → w'.cell? ⟨w.heap.size, 1, none⟩ = some (.slice (some ⟨b1, o1, none⟩) q ca) := fun w' h => cell_step h l1
                        have m2 : ∀ w' : World, Below wr.heap.size wr w' → w'.cell? ⟨w.heap.size, 2, none⟩ = some (.slice (some ⟨b2, o2, none⟩) q cb) := fun w' h => cell_step h l2
                        have m3 : ∀ w' : World, Below wr.heap.size wr w' → w'.cell? ⟨bf, off + at0, none⟩ = some (.int .i64 (at0 : Nat)) := fun w' h => cell_step h ca1
                        have m4 : ∀ w' : World, Below wr.heap.size wr w' → w'.cell? ⟨b2, o2 + k, none⟩ = some (.slice (some ⟨(R2 k).1, (R2 k).2.1, none⟩) q (R2 k).2.2) := fun w' h => cell_step h r1
                        have m5 : ∀ w' : World, Below wr.heap.size wr w' → w'.cell? ⟨(R2 k).1, (R2 k).2.1 + t, none⟩ = some (.int .i64 (z : Nat)) := fun w' h => cell_step h r3
                        have HUE : Hid (∀ wx, Below wr.heap.size wr wx → Calls Tryd.prog 7 #[.agg #[.int .i64 (q : Nat), .slice (some ⟨b1, o1, none⟩) q ca, .slice (some ⟨b2, o2, none⟩) q cb], .int .i64 (z : Nat), .int .i64 (at0 : Nat)] wx fun e w' => e = .returned (.bool true) ∧ Below wx.heap.size wx w') := fun wx h => HU.out z at0 true hjl hal HI2.out wx (Below.then HBx.out h)
                        go_wp2_with fail
                        refine wp_region_held_drew (S := (fun w' => Below wr.heap.size wr w')) (by kernel_rfl) ((Below.refl _ _).drew) (fun hHeld => ?_)
                        refine wpAnyH_take (i := 0) (oi := { dst := some 165, op := Go.Op.move (Go.Operand.tmp 1), type := 25, pos := "fix.go:142", after := #[], guard := none }) (v := ?_) rfl (by kernel_rfl) (by kernel_rfl) (by kernel_rfl) (fun _ _ _ h => h) (Or.inl ⟨by rfl, ?hy⟩) (by assumption) ?_
                        case hy => (intro w9 hSw; (try dsimp only at hSw); go_simp; try with_reducible rfl)
                        try simp only [Act.put, List.setIfInBounds_toArray, List.set_cons_zero, List.set_cons_succ]
                        refine wpAnyH_take (i := 1) (oi := { dst := some 166, op := Go.Op.move (Go.Operand.tmp 11), type := 3, pos := "fix.go:142", after := #[], guard := none }) (v := ?_) rfl (by kernel_rfl) (by kernel_rfl) (by kernel_rfl) (fun _ _ _ h => h) (Or.inl ⟨by rfl, ?hy⟩) (by assumption) ?_
                        case hy => (intro w9 hSw; (try dsimp only at hSw); go_simp; try with_reducible rfl)
                        try simp only [Act.put, List.setIfInBounds_toArray, List.set_cons_zero, List.set_cons_succ]
                        refine wpAnyH_take (i := 2) (oi := { dst := some 167, op := Go.Op.indexAddr 25 (Go.Operand.tmp 165) (Go.Operand.tmp 166), type := 0, pos := "fix.go:142", after := #[{ on := 0, ground := Go.Ground.data }, { on := 1, ground := Go.Ground.data }], guard := none }) (v := ?_) rfl (by kernel_rfl) (by kernel_rfl) (by kernel_rfl) (fun _ _ _ h => h) (Or.inl ⟨by rfl, ?hy⟩) (by assumption) ?_
                        case hy => (intro w9 hSw; (try dsimp only at hSw); go_simp; try with_reducible rfl)
                        try simp only [Act.put, List.setIfInBounds_toArray, List.set_cons_zero, List.set_cons_succ]
                        refine wpAnyH_take (i := 3) (oi := { dst := some 168, op := Go.Op.load 3 (Go.Operand.tmp 167), type := 3, pos := "fix.go:142", after := #[{ on := 2, ground := Go.Ground.data }], guard := none }) (v := ?_) rfl (by kernel_rfl) (by kernel_rfl) (by kernel_rfl) (fun _ _ _ h => h) (Or.inl ⟨by rfl, ?hy⟩) (by assumption) ?_
                        case hy => (intro w9 hSw; (try dsimp only at hSw); go_simp; try with_reducible rfl)
                        try simp only [Act.put, List.setIfInBounds_toArray, List.set_cons_zero, List.set_cons_succ]
                        refine wpAnyH_take (i := 4) (oi := { dst := some 169, op := Go.Op.move (Go.Operand.tmp 11), type := 3, pos := "fix.go:142", after := #[], guard := none }) (v := ?_) rfl (by kernel_rfl) (by kernel_rfl) (by kernel_rfl) (fun _ _ _ h => h) (Or.inl ⟨by rfl, ?hy⟩) (by assumption) ?_
                        case hy => (intro w9 hSw; (try dsimp only at hSw); go_simp; try with_reducible rfl)
                        try simp only [Act.put, List.setIfInBounds_toArray, List.set_cons_zero, List.set_cons_succ]
                        refine wpAnyH_take (i := 5) (oi := { dst := some 170, op := Go.Op.binOp Go.BinOp.neq 3 (Go.Operand.tmp 168) (Go.Operand.tmp 169) 3, type := 4, pos := "fix.go:142", after := #[{ on := 3, ground := Go.Ground.data }, { on := 4, ground := Go.Ground.data }], guard := none }) (v := ?_) rfl (by kernel_rfl) (by kernel_rfl) (by kernel_rfl) (fun _ _ _ h => h) (Or.inl ⟨by rfl, ?hy⟩) (by assumption) ?_
                        case hy => (intro w9 hSw; (try dsimp only at hSw); go_simp; try with_reducible rfl)
                        try simp only [Act.put, List.setIfInBounds_toArray, List.set_cons_zero, List.set_cons_succ]
                        refine wpAnyH_take (i := 6) (oi := { dst := some 171, op := Go.Op.move (Go.Operand.tmp 170), type := 4, pos := "fix.go:142", after := #[{ on := 5, ground := Go.Ground.data }], guard := none }) (v := ?_) rfl (by kernel_rfl) (by kernel_rfl) (by kernel_rfl) (fun _ _ _ h => h) (Or.inl ⟨by rfl, ?hy⟩) (by assumption) ?_
                        case hy => (intro w9 hSw; (try dsimp only at hSw); go_simp; try with_reducible rfl)
                        try simp only [Act.put, List.setIfInBounds_toArray, List.set_cons_zero, List.set_cons_succ]
                        refine wpAnyH_take (i := 7) (oi := { dst := some 172, op := Go.Op.load 24 (Go.Operand.tmp 2), type := 24, pos := "fix.go:142", after := #[{ on := 6, ground := Go.Ground.guard }], guard := some (6, false) }) (v := ?_) rfl (by kernel_rfl) (by kernel_rfl) (by kernel_rfl) (fun _ _ _ h => h) (Or.inl ⟨by rfl, ?hy⟩) (by assumption) ?_
                        case hy => (intro w9 hSw; (try dsimp only at hSw); go_simp; try with_reducible rfl)
                        try simp only [Act.put, List.setIfInBounds_toArray, List.set_cons_zero, List.set_cons_succ]
                        refine wpAnyH_take (i := 8) (oi := { dst := some 173, op := Go.Op.fieldAddr 24 (Go.Operand.tmp 2) 2, type := 0, pos := "fix.go:142", after := #[{ on := 6, ground := Go.Ground.guard }], guard := some (6, false) }) (v := ?_) rfl (by kernel_rfl) (by kernel_rfl) (by kernel_rfl) (fun _ _ _ h => h) (Or.inl ⟨by rfl, ?hy⟩) (by assumption) ?_
                        case hy => (intro w9 hSw; (try dsimp only at hSw); go_simp; try with_reducible rfl)
                        try simp only [Act.put, List.setIfInBounds_toArray, List.set_cons_zero, List.set_cons_succ]
                        refine wpAnyH_take (i := 9) (oi := { dst := some 174, op := Go.Op.load 22 (Go.Operand.tmp 173), type := 22, pos := "fix.go:142", after := #[{ on := 8, ground := Go.Ground.data }, { on := 6, ground := Go.Ground.guard }], guard := some (6, false) }) (v := ?_) rfl (by kernel_rfl) (by kernel_rfl) (by kernel_rfl) (fun _ _ _ h => h) (Or.inl ⟨by rfl, ?hy⟩) (by assumption) ?_
                        case hy => (intro w9 hSw; (try dsimp only at hSw); go_simp; try with_reducible rfl)
                        try simp only [Act.put, List.setIfInBounds_toArray, List.set_cons_zero, List.set_cons_succ]
                        refine wpAnyH_take (i := 10) (oi := { dst := some 175, op := Go.Op.move (Go.Operand.tmp 9), type := 3, pos := "fix.go:142", after := #[{ on := 6, ground := Go.Ground.guard }], guard := some (6, false) }) (v := ?_) rfl (by kernel_rfl) (by kernel_rfl) (by kernel_rfl) (fun _ _ _ h => h) (Or.inl ⟨by rfl, ?hy⟩) (by assumption) ?_
                        case hy => (intro w9 hSw; (try dsimp only at hSw); go_simp; try with_reducible rfl)
                        try simp only [Act.put, List.setIfInBounds_toArray, List.set_cons_zero, List.set_cons_succ]
                        refine wpAnyH_take (i := 11) (oi := { dst := some 176, op := Go.Op.indexAddr 22 (Go.Operand.tmp 174) (Go.Operand.tmp 175), type := 0, pos := "fix.go:142", after := #[{ on := 9, ground := Go.Ground.data }, { on := 10, ground := Go.Ground.data }, { on := 6, ground := Go.Ground.guard }], guard := some (6, false) }) (v := ?_) rfl (by kernel_rfl) (by kernel_rfl) (by kernel_rfl) (fun _ _ _ h => h) (Or.inl ⟨by rfl, ?hy⟩) (by assumption) ?_
                        case hy => (intro w9 hSw; (try dsimp only at hSw); go_simp; try with_reducible rfl)
                        try simp only [Act.put, List.setIfInBounds_toArray, List.set_cons_zero, List.set_cons_succ]
                        refine wpAnyH_take (i := 12) (oi := { dst := some 177, op := Go.Op.load 25 (Go.Operand.tmp 176), type := 25, pos := "fix.go:142", after := #[{ on := 11, ground := Go.Ground.data }, { on := 6, ground := Go.Ground.guard }], guard := some (6, false) }) (v := ?_) rfl (by kernel_rfl) (by kernel_rfl) (by kernel_rfl) (fun _ _ _ h => h) (Or.inl ⟨by rfl, ?hy⟩) (by assumption) ?_
                        case hy => (intro w9 hSw; (try dsimp only at hSw); go_simp; try with_reducible rfl)
                        try simp only [Act.put, List.setIfInBounds_toArray, List.set_cons_zero, List.set_cons_succ]
                        refine wpAnyH_take (i := 13) (oi := { dst := some 178, op := Go.Op.move (Go.Operand.tmp 10), type := 3, pos := "fix.go:142", after := #[{ on := 6, ground := Go.Ground.guard }], guard := some (6, false) }) (v := ?_) rfl (by kernel_rfl) (by kernel_rfl) (by kernel_rfl) (fun _ _ _ h => h) (Or.inl ⟨by rfl, ?hy⟩) (by assumption) ?_
                        case hy => (intro w9 hSw; (try dsimp only at hSw); go_simp; try with_reducible rfl)
                        try simp only [Act.put, List.setIfInBounds_toArray, List.set_cons_zero, List.set_cons_succ]
                        refine wpAnyH_take (i := 14) (oi := { dst := some 179, op := Go.Op.indexAddr 25 (Go.Operand.tmp 177) (Go.Operand.tmp 178), type := 0, pos := "fix.go:142", after := #[{ on := 12, ground := Go.Ground.data }, { on := 13, ground := Go.Ground.data }, { on := 6, ground := Go.Ground.guard }], guard := some (6, false) }) (v := ?_) rfl (by kernel_rfl) (by kernel_rfl) (by kernel_rfl) (fun _ _ _ h => h) (Or.inl ⟨by rfl, ?hy⟩) (by assumption) ?_
                        case hy => (intro w9 hSw; (try dsimp only at hSw); go_simp; try with_reducible rfl)
                        try simp only [Act.put, List.setIfInBounds_toArray, List.set_cons_zero, List.set_cons_succ]
                        refine wpAnyH_take (i := 15) (oi := { dst := some 180, op := Go.Op.load 3 (Go.Operand.tmp 179), type := 3, pos := "fix.go:142", after := #[{ on := 14, ground := Go.Ground.data }, { on := 6, ground := Go.Ground.guard }], guard := some (6, false) }) (v := ?_) rfl (by kernel_rfl) (by kernel_rfl) (by kernel_rfl) (fun _ _ _ h => h) (Or.inl ⟨by rfl, ?hy⟩) (by assumption) ?_
                        case hy => (intro w9 hSw; (try dsimp only at hSw); go_simp; try with_reducible rfl)
                        try simp only [Act.put, List.setIfInBounds_toArray, List.set_cons_zero, List.set_cons_succ]
                        refine wpAnyH_take (i := 16) (oi := { dst := some 181, op := Go.Op.move (Go.Operand.tmp 11), type := 3, pos := "fix.go:142", after := #[{ on := 6, ground := Go.Ground.guard }], guard := some (6, false) }) (v := ?_) rfl (by kernel_rfl) (by kernel_rfl) (by kernel_rfl) (fun _ _ _ h => h) (Or.inl ⟨by rfl, ?hy⟩) (by assumption) ?_
                        case hy => (intro w9 hSw; (try dsimp only at hSw); go_simp; try with_reducible rfl)
                        try simp only [Act.put, List.setIfInBounds_toArray, List.set_cons_zero, List.set_cons_succ]
                        refine wpAnyH_ready (rs := [17]) (by kernel_rfl) (by simp) ?_
                        refine AllReadyH.cons (o := { dst := some 182, op := Go.Op.call { callee := Go.Callee.value (Go.Operand.func 7), args := #[Go.Operand.tmp 172, Go.Operand.tmp 180, Go.Operand.tmp 181], argTypes := #[24, 3, 3] }, type := 4, pos := "fix.go:142", after := #[{ on := 7, ground := Go.Ground.data }, { on := 15, ground := Go.Ground.data }, { on := 16, ground := Go.Ground.data }, { on := 6, ground := Go.Ground.chain }, { on := 6, ground := Go.Ground.guard }], guard := some (6, false) }) rfl (fun K hK => ?_) AllReadyH.nil
                        go_simp
                        refine (HUE.out _ hHeld).mono ?_
                        rintro e w6 ⟨rfl, hb6⟩
                        refine hK.out _ _ ?_ (fun hHeld => ?_)
                        · first | assumption | exact Below.then (by assumption) (by assumption)
                        clear hK K
                        try simp only [Act.put, List.setIfInBounds_toArray, List.set_cons_zero, List.set_cons_succ]
                        refine wpAnyH_take (i := 18) (oi := { dst := some 183, op := Go.Op.unOp Go.UnOp.not 4 (Go.Operand.tmp 182), type := 4, pos := "fix.go:142", after := #[{ on := 17, ground := Go.Ground.data }, { on := 6, ground := Go.Ground.guard }], guard := some (6, false) }) (v := ?_) rfl (by kernel_rfl) (by kernel_rfl) (by kernel_rfl) (fun _ _ _ h => h) (Or.inl ⟨by rfl, ?hy⟩) (by assumption) ?_
                        case hy => (intro w9 hSw; (try dsimp only at hSw); go_simp; try with_reducible rfl)
                        try simp only [Act.put, List.setIfInBounds_toArray, List.set_cons_zero, List.set_cons_succ]
                        refine wpAnyH_take (i := 19) (oi := { dst := some 184, op := Go.Op.pick (Go.Operand.tmp 171) (Go.Operand.const (Go.Value.bool true)) (Go.Operand.tmp 183), type := 4, pos := "fix.go:142", after := #[{ on := 6, ground := Go.Ground.data }, { on := 18, ground := Go.Ground.data }], guard := none }) (v := ?_) rfl (by kernel_rfl) (by kernel_rfl) (by kernel_rfl) (fun _ _ _ h => h) (Or.inl ⟨by rfl, ?hy⟩) (by assumption) ?_
                        case hy => (intro w9 hSw; (try dsimp only at hSw); go_simp; try with_reducible rfl)
                        try simp only [Act.put, List.setIfInBounds_toArray, List.set_cons_zero, List.set_cons_succ]
                        refine wpAnyH_done (by kernel_rfl) ?_ _
                        try simp only [Act.put, List.setIfInBounds_toArray, List.set_cons_zero, List.set_cons_succ]
                        have HB6 : Hid (Below w2.heap.size w2 w6) := Below.then HBx.out (by assumption)
                        go_wp2_with fail
                        go_roundw
                        case rel => exact ⟨t + 1, by omega, by go_num, HB6⟩
                        case measure => simp [intOf]; omega
              · obtain ⟨g, hg⟩ : ∃ g, F t = g := ⟨_, rfl⟩
                have ct := HF.out _ HBx.out t htq g hg
                have hgc : ((g : Int) != (t : Int)) = true := by simp; omega
                have hgc' : ¬ ((g : Int) = (t : Int)) := by omega
                go_wp2_with fail
                go_roundw
                case rel => exact ⟨t + 1, by omega, by go_num, HBx⟩
                case measure => simp [intOf]; omega
            · have hle : (k : Int) ≤ (t : Int) := by omega
              go_wp2_with fail
              go_roundw
              case rel => exact ⟨k + 1, by omega, by go_num, HBx⟩
              case measure => simp [intOf]; omega
        · obtain ⟨g, hg⟩ : ∃ g, F k = g := ⟨_, rfl⟩
          have ck := HF.out _ HBx.out k hlt g hg
          have hgk : ((g : Int) == (k : Int)) = false := by simp; omega
          have hgk' : ¬ ((g : Int) = (k : Int)) := by omega
          have hgn : ((g : Int) != (k : Int)) = true := by simp; omega
          go_wp2_with fail
          clear ck l0 l1 l2
          go_loopw [10] (fun i wx => ∃ t : Nat, t ≤ k ∧ i = .int .i64 t ∧ Hid (Below w2.heap.size w2 wx)) (fun i _ => k - (intOf i).toNat)
          case atStart => exact ⟨0, Nat.zero_le _, rfl, HBx⟩
          case round =>
            clear HBx
            obtain ⟨t, ht, rfl, HBx⟩ := hrel
            by_cases htk : t < k
            · have htk' : (t : Int) < (k : Int) := by omega
              have ck := HF.out _ HBx.out k hlt g hg
              go_wp2_with fail
              go_roundw
              case rel => exact ⟨t + 1, by omega, by go_num, HBx⟩
              case measure => simp [intOf]; omega
            · have hle : (k : Int) ≤ (t : Int) := by omega
              go_wp2_with fail
              go_roundw
              case rel => exact ⟨k + 1, by omega, by go_num, HBx⟩
              case measure => simp [intOf]; omega
      · have hle : (q : Int) ≤ (k : Int) := by omega
        go_wp2_with fail
        go_ret
        exact ⟨rfl, Below.then HB1.out (Below.then HB3.out HBx.out)⟩
  · have hne : (c != 0) = true := by simpa using h0
    clear HV1 HV2
    go_wp2_with fail
    go_ret
    exact ⟨by simp, Below.then HB1.out HB3.out⟩
end Go.Proofs.YthdklhpncjncfaaDoor
