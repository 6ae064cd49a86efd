/-
  What fix.fixedFrom, Least and Greatest answer. No condition but that slices read as slices of rows and of numbers.
-/
import Derived.Deep.RegionHeld3
import Derived.Test.YtfajgahofkcndaaDoorLat0
import Derived.Test.YtfajgahofkcndaaDoorMon
namespace Go.Proofs.YtfajgahofkcndaaDoor
open Go.RowKit

/-- From the end on: below f of itself, and below all that go to themselves. -/
def FixI (q : Nat) (T : Nat → Nat → Nat) (f : Nat → Nat) (x : Nat) : Prop := x < q ∧ T x (f x) = x ∧ ∀ y, y < q → f y = y → T x y = x
def Mono (q : Nat) (T : Nat → Nat → Nat) (f : Nat → Nat) : Prop := ∀ x y, x < q → y < q → T x y = x → T (f x) (f y) = f x
theorem FixI.zero {q : Nat} {T T' : Nat → Nat → Nat} {f : Nat → Nat} (h : Lat q T T') (h1 : 1 ≤ q) (hf : ∀ x, x < q → f x < q) : FixI q T f (en T q) := by
  have he := en_lt h1 h.im q (Nat.le_refl _)
  exact ⟨he, h.least h1 (hf _ he), fun y hy _ => h.least h1 hy⟩
theorem FixI.next {q : Nat} {T T' : Nat → Nat → Nat} {f : Nat → Nat} (hm : Mono q T f) (hf : ∀ x, x < q → f x < q) {x : Nat} (h : FixI q T f x) (_ : Lat q T T') : FixI q T f (f x) :=
  ⟨hf x h.1, hm x (f x) h.1 (hf x h.1) h.2.1, fun y hy e => by have := hm x y h.1 hy (h.2.2 y hy e); rw [e] at this; exact this⟩
def Mp2 (q : Nat) (f : Nat → Nat) : Prop := ∀ x, x < q → f x < q
/-- How many are above. -/
def abv (q : Nat) (T : Nat → Nat → Nat) (x : Nat) : Nat := cntB (fun y => ltB T x y) q
theorem abv_lt {q : Nat} {T T' : Nat → Nat → Nat} {f : Nat → Nat} (h : Lat q T T') (hf : ∀ x, x < q → f x < q) {x : Nat} (hx : FixI q T f x) (hne : f x ≠ x) : abv q T (f x) < abv q T x := by
  have hfx := hf x hx.1
  refine cntB_lt q (fun y hy hp => ?_) ⟨f x, hfx, ?_, ?_⟩
  · obtain ⟨h1, h2⟩ := ltB_iff.1 hp
    refine ltB_iff.2 ⟨fun e => ?_, h.le_tr hx.1 hfx hy hx.2.1 h2⟩
    subst e
    exact hne (h.le_anti hfx hx.1 h2 hx.2.1)
  · simp [ltB]
  · exact ltB_iff.2 ⟨fun e => hne e.symm, hx.2.1⟩
theorem Mono.turn {q : Nat} {m j : Nat → Nat → Nat} {f : Nat → Nat} (h : Lat q m j) (hf : ∀ x, x < q → f x < q) (hm : Mono q m f) : Mono q j f := fun x y hx hy e => by
  have h1 : m y x = y := (h.le_join hy hx).2 (by rw [h.turn.comm hy hx]; exact e)
  have h2 := (h.le_join (hf y hy) (hf x hx)).1 (hm y x hy hx h1)
  rw [h.turn.comm (hf x hx) (hf y hy)]; exact h2
theorem mono_iff {q : Nat} {m : Nat → Nat → Nat} {f : Nat → Nat} : MonP (leB m) (leB m) f q ↔ Mono q m f := by
  unfold MonP Mono
  constructor
  · intro h x y hx hy e
    have := h y hy x hx (by simpa [leB] using e)
    simpa [leB] using this
  · intro h y hy x hx e
    have := h x y hx hy (by simpa [leB] using e)
    simpa [leB] using this

theorem inLattice_any (n : Int) (a : Option Addr) (la ca : Nat) (b : Option Addr) (lb cb : Nat) (w : World) :
    Calls Tryd.prog 35 #[.agg #[.int .i64 n, .slice a la ca, .slice b lb cb]] w fun e w' => e = .returned (.func (.func 46) #[] #[.pointer (some ⟨w.heap.size, 0, none⟩)]) ∧ LB w' w.heap.size n a la ca b lb cb ∧ Below w.heap.size w w' := by
  have HB : Hid (Below w.heap.size w (w.alloc (.cells #[.int .i64 n, .slice a la ca, .slice b lb cb] 39))) := (Below.refl _ _).alloc (Nat.le_refl _) _
  have HL : Hid (LB (w.alloc (.cells #[.int .i64 n, .slice a la ca, .slice b lb cb] 39)) w.heap.size n a la ca b lb cb) := LB.new _ _ _ _ _ _ _ _
  go_enter Tryd.func35, Tryd.ntmps35
  go_wp2
  go_ret
  exact ⟨rfl, HL.out, HB.out⟩
theorem ent_inLattice1 : Ent 46 := fun _ _ => rfl
set_option maxHeartbeats 1000000 in
theorem inLattice1_any (q u b1 o1 ca : Nat) (b2 : Option Addr) (lb cb : Nat) (R1 : Nat → Nat × Nat × Nat) (m : Nat → Nat → Nat) (w : World) (hL : LB w u (q : Nat) (some ⟨b1, o1, none⟩) q ca b2 lb cb) (ht : Tb w b1 o1 q R1 m) :
    Clo2 q 46 #[.pointer (some ⟨u, 0, none⟩)] (leB m) w := fun x y hx hy W hW => by
  show Calls Tryd.prog 46 #[.int .i64 (x : Nat), .int .i64 (y : Nat), .pointer (some ⟨u, 0, none⟩)] W _
  obtain ⟨l0, l1, l2⟩ := hL.step hW
  have HT : Hid (Tb W b1 o1 q R1 m) := ht.step hW
  clear hL ht hW
  go_enter Tryd.func46, Tryd.ntmps46
  go_wp2_with fail
  refine (isUpTo_any q b1 o1 ca b2 lb cb R1 m x y _ (leB m x y) rfl HT.out hx hy).mono ?_
  rintro e w1 ⟨rfl, hb1⟩
  have HB : Hid (Below W.heap.size W w1) := hb1
  clear hb1 l0 l1 l2 HT
  go_wp2_with fail
  go_ret
  exact ⟨rfl, HB.out⟩

/-- What the errno of Least and Greatest must be. -/
def FCk (L : LA) (f : MA) (c : Int) : Prop :=
  (c ≠ 0 ∧ L.Ck c) ∨ (L.Ck 0 ∧ ((c ≠ 0 ∧ MCk L.n L.n f.la f.F c) ∨ (MCk L.n L.n f.la f.F 0 ∧ ((c = 4 ∧ ¬ Mono L.q L.m f.f) ∨ (c = 0 ∧ Mono L.q L.m f.f)))))
theorem FCk.one {L : LA} {f : MA} {c d : Int} (h : FCk L f c) (h' : FCk L f d) : c = d := by
  rcases h with ⟨h0, h⟩ | ⟨h, ⟨h0, h1⟩ | ⟨h1, ⟨rfl, h2⟩ | ⟨rfl, h2⟩⟩⟩ <;> rcases h' with ⟨h0', h'⟩ | ⟨h', ⟨h0', h1'⟩ | ⟨h1', ⟨rfl, h2'⟩ | ⟨rfl, h2'⟩⟩⟩ <;>
    first
    | rfl | exact absurd h2 h2' | exact absurd h2' h2 | exact LCk.one h h' | exact absurd (LCk.one h h') h0 | exact absurd (LCk.one h' h) h0' | exact MCk.one h1 h1' | exact absurd (MCk.one h1 h1') h0 | exact absurd (MCk.one h1' h1) h0'
def FPost (L : LA) (f : MA) (T : Nat → Nat → Nat) (e : Ending) : Prop :=
  ∃ c v, FCk L f c ∧ e = .returned (.tuple #[.int .i64 v, .int .i64 c]) ∧ ((c ≠ 0 ∧ v = 0) ∨ (c = 0 ∧ ∃ x : Nat, v = (x : Nat) ∧ FixI L.q T f.f x ∧ f.f x = x))

set_option maxHeartbeats 8000000 in
theorem fixedFrom_any (L : LA) (f : MA) (ta : Option Addr) (tl tc : Nat) (T T' : Nat → Nat → Nat) (w : World) (hL : L.In w) (hf : f.In w)
    (hT : L.Ck 0 → ∃ (bt ot : Nat) (R : Nat → Nat × Nat × Nat), ta = some ⟨bt, ot, none⟩ ∧ tl = L.q ∧ Tb w bt ot L.q R T) (hLT : L.Ck 0 → Lat L.q T T' ∧ (Mono L.q L.m f.f → Mp2 L.q f.f → Mono L.q T f.f)) :
    Calls Tryd.prog 22 #[L.v, f.v, .slice ta tl tc] w fun e w' => FPost L f T e ∧ Below w.heap.size w w' := by
  obtain ⟨X, hX⟩ : ∃ X, X = L := ⟨_, rfl⟩
  obtain ⟨Z, hZ⟩ : ∃ Z, Z = f := ⟨_, rfl⟩
  rw [← hX] at hT hLT hL
  rw [← hZ] at hLT hf
  have HE : Hid (X = L ∧ Z = f) := ⟨hX, hZ⟩
  have HV : Hid (X.v = L.v ∧ Z.v = f.v) := by rw [hX, hZ]; exact ⟨rfl, rfl⟩
  rw [← hX, ← hZ, HV.out.1, HV.out.2]
  have HTT := (show Hid _ from hT)
  have HLT := (show Hid _ from hLT)
  clear hX hZ hT hLT HV
  obtain ⟨n, a, la, ca, SA, FA, b, lb, cb, SB, FB⟩ := L
  obtain ⟨fa, fl, fc, F⟩ := f
  simp only [LA.v, MA.v] at *
  obtain ⟨W, HWE⟩ : ∃ W, Hid (W = w.alloc (.cells #[.int .i64 n, .slice a la ca, .slice b lb cb] 39)) := ⟨_, rfl⟩
  have hW : Below w.heap.size w W := by rw [HWE.out]; exact (Below.refl _ _).alloc (Nat.le_refl _) _
  have L0 : LB W w.heap.size n a la ca b lb cb := by rw [HWE.out]; exact LB.new _ _ _ _ _ _ _ _
  have HBW : Hid (Below w.heap.size w W) := hW
  have HXI : Hid (X.In W) := hL.step hW
  have HZI : Hid (Z.In W) := hf.step hW
  have HCK : Hid (∀ wx, X.In wx → Calls Tryd.prog 34 #[.agg #[.int .i64 n, .slice a la ca, .slice b lb cb]] wx fun e w' => (∃ c, e = .returned (.int .i64 c) ∧ X.Ck c) ∧ Below wx.heap.size wx w') := fun wx h => by
    rw [HE.out.1] at h ⊢
    exact lCheck_any n a la ca SA FA b lb cb SB FB wx h.1 h.2.1 h.2.2.1 h.2.2.2
  have HCM : Hid (∀ wx, Z.In wx → Calls Tryd.prog 26 #[.slice fa fl fc, .int .i64 n, .int .i64 n] wx fun e w' => (∃ c, e = .returned (.int .i64 c) ∧ MCk X.n X.n Z.la Z.F c) ∧ wx = w') := fun wx h => by
    rw [HE.out.2] at h ⊢
    rw [HE.out.1]
    exact checkMap_any ⟨fa, fl, fc, F⟩ n n wx h
  obtain ⟨l0, l1, l2⟩ := L0
  clear hL hf
  go_enter Tryd.func22, Tryd.ntmps22
  go_wp2_with fail
  rw [← HWE.out]
  go_wp2_with fail
  refine (HCK.out _ HXI.out).mono ?_
  rintro e w1 ⟨⟨c, rfl, hc⟩, hb1⟩
  have HB2 : Hid (Below w.heap.size w w1) := Below.then HBW.out hb1
  have hww1 : Below w.heap.size w w1 := HB2.out
  have HX1 : Hid (X.In w1) := HXI.out.step hb1
  have HZ1 : Hid (Z.In w1) := HZI.out.step hb1
  have L1 : LB w1 w.heap.size n a la ca b lb cb := LB.step ⟨l0, l1, l2⟩ hb1
  obtain ⟨m0, m1, m2⟩ := L1
  clear hb1 HBW HXI HZI HCK l0 l1 l2 HWE hW
  by_cases h0 : c = 0
  · subst h0
    have HC : Hid (X.Ck 0) := hc
    clear hc hww1
    go_wp2_with fail
    refine (HCM.out _ HZ1.out).mono ?_
    rintro e w2 ⟨⟨c, rfl, hc⟩, hw2⟩
    have hw2' := hw2.symm
    subst hw2'
    clear hw2
    by_cases h0 : c = 0
    · subst h0
      have HM : Hid (MCk X.n X.n Z.la Z.F 0) := hc
      obtain ⟨hEX, hEZ⟩ := HE.out
      have hck := HC.out
      have hxi := HX1.out
      have hzi := HZ1.out
      have hmm := HM.out
      obtain ⟨hLat, hMon⟩ := HLT.out hck
      obtain ⟨bt, ot, R, rfl, rfl, htb⟩ := HTT.out hck
      have hq1 := hck.lat
      rw [hEX] at hck hxi hmm htb hLat hq1
      rw [hEZ] at hzi hmm
      obtain ⟨q, b1, o1, b2, o2, rfl, rfl, rfl, rfl, rfl, h1, h40, hlat, ht1, ht2⟩ := LCk.open hck hxi.2.2.1 hxi.2.2.2
      have hmp : q = fl ∧ ∀ k, k < q → 0 ≤ F k ∧ F k < (q : Int) := by
        rcases hmm with ⟨h, _⟩ | ⟨h1, ⟨h, _⟩ | ⟨_, h⟩⟩
        · omega
        · omega
        · have e1 : (fl : Int) = (q : Int) := h1
          have e2 : fl = q := by omega
          refine ⟨e2.symm, fun k hk => ?_⟩
          exact h k (by show k < fl; omega)
      obtain ⟨rfl, hFr⟩ := hmp
      obtain ⟨fb, fo, rfl, hr⟩ := hzi.2.here h1
      have hXq : X.q = q := by rw [hEX]; rfl
      have hXm : X.m = nat2 FA := by rw [hEX]; rfl
      have hZf : Z.f = nat F := by rw [hEZ]; rfl
      have HXE : Hid (X.q = q ∧ X.m = nat2 FA ∧ Z.f = nat F) := ⟨hXq, hXm, hZf⟩
      rw [hXq, hXm, hZf] at hMon
      have hff : ∀ x, x < q → nat F x < q := fun x hx => by have := hFr x hx; unfold nat; omega
      have HFF : Hid (∀ x, x < q → nat F x < q) := hff
      have HMON : Hid (Mono q (nat2 FA) (nat F) → Mono q T (nat F)) := fun h => hMon h hff
      have HLAT : Hid (Lat q T T') := hLat
      obtain ⟨m, HMM⟩ : ∃ m, Hid (m = nat2 FA) := ⟨_, rfl⟩
      obtain ⟨f, HFE⟩ : ∃ f, Hid (f = nat F) := ⟨_, rfl⟩
      have HR : Hid (∀ wx, Below w2.heap.size w2 wx → ∀ k, k < q → wx.cell? ⟨fb, fo + k, none⟩ = some (.int .i64 (f k : Nat))) := fun wx hx k hk => by
        rw [HFE.out, cell_step hx (hr k hk)]
        have := hFr k hk
        exact congrArg (fun z => some (Value.int .i64 z)) (show F k = ((nat F k : Nat) : Int) by unfold nat; omega)
      obtain ⟨R1, HT1⟩ : ∃ R1 : Nat → Nat × Nat × Nat, Hid (∀ wx, Below w2.heap.size w2 wx → Tb wx b1 o1 q R1 m) := ⟨_, fun wx hx => by rw [HMM.out]; exact ht1.step hx⟩
      have HTB : Hid (∀ wx, Below w2.heap.size w2 wx → Tb wx bt ot q R T) := fun wx hx => (Tb.step htb HB2.out).step hx
      rw [← HFE.out] at HFF HMON
      rw [← HMM.out] at HMON
      have a0 : ∀ w', Below w2.heap.size w2 w' → w'.cell? ⟨w.heap.size, 0, none⟩ = some (.int .i64 (q : Nat)) := fun w' h => cell_step h m0
      have a1 : ∀ w', Below w2.heap.size w2 w' → w'.cell? ⟨w.heap.size, 1, none⟩ = some (.slice (some ⟨b1, o1, none⟩) q ca) := fun w' h => cell_step h m1
      have a2 : ∀ w', Below w2.heap.size w2 w' → w'.cell? ⟨w.heap.size, 2, none⟩ = some (.slice (some ⟨b2, o2, none⟩) q cb) := fun w' h => cell_step h m2
      have KK : Below w2.heap.size w2 w2.drew := (Below.refl _ _).drew
      rw [hXq]
      clear hc hck hxi hzi hmm htb hLat hMon hq1 hlat ht1 ht2 hr hFr hff hEX hEZ HE HTT HLT HX1 HZ1 HCM hXq hXm hZf
      go_wp2_with fail
      refine wp_region_held_drew (S := (fun w' => Below w2.heap.size w2 w')) (by kernel_rfl) (KK) (fun hHeld => ?_)
      refine wpAnyH_take (i := 0) (oi := { dst := some 25, op := Go.Op.move (Go.Operand.tmp 1), type := 22, pos := "fix.go:98", after := #[], guard := none }) (v := ?_) rfl (by kernel_rfl) (by kernel_rfl) (by kernel_rfl) (fun _ _ _ h => h) (Or.inl ⟨by rfl, ?hy⟩) (by assumption) ?_
      case hy => (intro w9 hSw; (try dsimp only at hSw); go_simp; try with_reducible rfl)
      try simp only [Act.put, List.setIfInBounds_toArray, List.set_cons_zero, List.set_cons_succ]
      refine wpAnyH_take (i := 1) (oi := { dst := some 26, op := Go.Op.load 39 (Go.Operand.tmp 3), type := 39, pos := "fix.go:98", after := #[], guard := none }) (v := ?_) rfl (by kernel_rfl) (by kernel_rfl) (by kernel_rfl) (fun _ _ _ h => h) (Or.inl ⟨by rfl, ?hy⟩) (by assumption) ?_
      case hy => (intro w9 hSw; (try dsimp only at hSw); go_simp; try with_reducible rfl)
      try simp only [Act.put, List.setIfInBounds_toArray, List.set_cons_zero, List.set_cons_succ]
      refine wpAnyH_take (i := 3) (oi := { dst := some 28, op := Go.Op.load 39 (Go.Operand.tmp 3), type := 39, pos := "fix.go:98", after := #[], guard := none }) (v := ?_) rfl (by kernel_rfl) (by kernel_rfl) (by kernel_rfl) (fun _ _ _ h => h) (Or.inl ⟨by rfl, ?hy⟩) (by assumption) ?_
      case hy => (intro w9 hSw; (try dsimp only at hSw); go_simp; try with_reducible rfl)
      try simp only [Act.put, List.setIfInBounds_toArray, List.set_cons_zero, List.set_cons_succ]
      refine wpAnyH_ready (rs := [2]) (by kernel_rfl) (by simp) ?_
      refine AllReadyH.cons (o := { dst := some 27, op := Go.Op.call { callee := Go.Callee.value (Go.Operand.func 35), args := #[Go.Operand.tmp 26], argTypes := #[39] }, type := 57, pos := "fix.go:98", after := #[{ on := 1, ground := Go.Ground.data }], guard := none }) rfl (fun K hK => ?_) AllReadyH.nil
      go_simp
      refine (inLattice_any (q : Nat) (some ⟨b1, o1, none⟩) q ca (some ⟨b2, o2, none⟩) q cb _).mono ?_
      rintro e w5 ⟨rfl, HL5, hb5⟩
      refine hK.out _ _ ?_ (fun hHeld => ?_)
      · first | assumption | exact Below.then (by assumption) (by assumption)
      clear hK K
      try simp only [Act.put, List.setIfInBounds_toArray, List.set_cons_zero, List.set_cons_succ]
      refine wpAnyH_ready (rs := [4]) (by kernel_rfl) (by simp) ?_
      refine AllReadyH.cons (o := { dst := some 29, op := Go.Op.call { callee := Go.Callee.value (Go.Operand.func 35), args := #[Go.Operand.tmp 28], argTypes := #[39] }, type := 57, pos := "fix.go:98", after := #[{ on := 3, ground := Go.Ground.data }, { on := 2, ground := Go.Ground.chain }], guard := none }) rfl (fun K hK => ?_) AllReadyH.nil
      go_simp
      refine (inLattice_any (q : Nat) (some ⟨b1, o1, none⟩) q ca (some ⟨b2, o2, none⟩) q cb _).mono ?_
      rintro e w6 ⟨rfl, HL6, hb6⟩
      have hW6 : Below w2.heap.size w2 w6 := Below.then (by assumption) hb6
      refine hK.out _ _ ?_ (fun hHeld => ?_)
      · first | assumption | exact Below.then (by assumption) (by assumption)
      clear hK K
      try simp only [Act.put, List.setIfInBounds_toArray, List.set_cons_zero, List.set_cons_succ]
      refine wpAnyH_ready (rs := [5]) (by kernel_rfl) (by simp) ?_
      refine AllReadyH.cons (o := { dst := some 30, op := Go.Op.call { callee := Go.Callee.value (Go.Operand.func 27), args := #[Go.Operand.tmp 25, Go.Operand.tmp 27, Go.Operand.tmp 29], argTypes := #[22, 57, 57] }, type := 4, pos := "fix.go:98", after := #[{ on := 0, ground := Go.Ground.data }, { on := 2, ground := Go.Ground.data }, { on := 4, ground := Go.Ground.data }, { on := 4, ground := Go.Ground.chain }], guard := none }) rfl (fun K hK => ?_) AllReadyH.nil
      go_simp
      refine (isMonotone_any q q q 46 46 _ _ (leB m) (leB m) (some ⟨fb, fo, none⟩) fc f w6 h40 (Nat.le_refl _) ent_inLattice1 ent_inLattice1 (inLattice1_any q _ b1 o1 ca _ q cb _ m w6 (LB.step HL5 hb6) (HT1.out _ hW6)) (inLattice1_any q _ b1 o1 ca _ q cb _ m w6 HL6 (HT1.out _ hW6)) HFF.out (fun k hk => ⟨fb, fo, rfl, HR.out _ hW6 k hk⟩)).mono ?_
      rintro e w7 ⟨⟨vm, rfl, hvm⟩, hb7⟩
      refine hK.out _ _ ?_ (fun hHeld => ?_)
      · first | assumption | exact Below.then (by assumption) (by assumption)
      clear hK K
      try simp only [Act.put, List.setIfInBounds_toArray, List.set_cons_zero, List.set_cons_succ]
      refine wpAnyH_take (i := 6) (oi := { dst := some 31, op := Go.Op.unOp Go.UnOp.not 4 (Go.Operand.tmp 30), type := 4, pos := "fix.go:98", after := #[{ on := 5, ground := Go.Ground.data }], guard := none }) (v := ?_) rfl (by kernel_rfl) (by kernel_rfl) (by kernel_rfl) (fun _ _ _ h => h) (Or.inl ⟨by rfl, ?hy⟩) (by assumption) ?_
      case hy => (intro w9 hSw; (try dsimp only at hSw); go_simp; try with_reducible rfl)
      try simp only [Act.put, List.setIfInBounds_toArray, List.set_cons_zero, List.set_cons_succ]
      refine wpAnyH_done (by kernel_rfl) ?_ _
      try simp only [Act.put, List.setIfInBounds_toArray, List.set_cons_zero, List.set_cons_succ]
      have HBV : Hid (Below w2.heap.size w2 w7) := by first | assumption | exact hHeld
      clear HL5 HL6 hb5 hb6 hb7 hW6 a0 a1 a2 KK hHeld
      rcases vm with _ | _
      · have HO : Hid (FCk X Z 4) := .inr ⟨HC.out, .inr ⟨HM.out, .inl ⟨rfl, fun h => by
          rw [HXE.out.1, HXE.out.2.1, HXE.out.2.2, ← HMM.out, ← HFE.out] at h
          have := hvm.2 (mono_iff.2 h)
          cases this⟩⟩⟩
        clear hvm
        go_wp2_with fail
        go_ret2
        exact ⟨⟨4, 0, HO.out, rfl, .inl ⟨by decide, rfl⟩⟩, Below.then HB2.out HBV.out⟩
      · have hmo : Mono q m f := mono_iff.1 (hvm.1 rfl)
        have HO : Hid (FCk X Z 0) := .inr ⟨HC.out, .inr ⟨HM.out, .inr ⟨rfl, by
          rw [HXE.out.1, HXE.out.2.1, HXE.out.2.2, ← HMM.out, ← HFE.out]; exact hmo⟩⟩⟩
        have HMT : Hid (Mono q T f) := HMON.out hmo
        have HF0 : Hid (FixI q T f (en T q)) := FixI.zero HLAT.out h1 HFF.out
        clear hvm hmo HMON
        go_wp2_with (go_at_call 36; refine (end_any q bt ot tc R T _ h1 h40 HLAT.out.im (HTB.out _ HBV.out)).mono ?_; rintro e w' ⟨rfl, hww⟩; have hw2 := hww.symm; subst hw2)
        go_loopw [10] (fun v wx => ∃ x : Nat, v = .int .i64 (x : Nat) ∧ wx = w7 ∧ Hid (FixI q T f x)) (fun v _ => abv q T (intOf v).toNat)
        case atStart => exact ⟨_, rfl, rfl, HF0⟩
        case round =>
          clear HF0
          obtain ⟨x, rfl, rfl, HI⟩ := hrel
          have hxq := HI.out.1
          have ix : (x : Int) < (q : Int) := by omega
          have rx := HR.out _ HBV.out x hxq
          by_cases e : f x = x
          · have hne : (((f x : Nat) : Int) != ((x : Nat) : Int)) = false := by rw [e]; simp
            have HFN : Hid (FixI X.q T Z.f x ∧ Z.f x = x) := by rw [HXE.out.1, HXE.out.2.2, ← HFE.out]; exact ⟨HI.out, e⟩
            clear e
            go_wp2_with fail
            go_ret2
            exact ⟨⟨0, _, HO.out, rfl, .inr ⟨rfl, x, rfl, HFN.out⟩⟩, Below.then HB2.out HBV.out⟩
          · have hne : (((f x : Nat) : Int) != ((x : Nat) : Int)) = true := by simp; omega
            have HI2 : Hid (FixI q T f (f x)) := FixI.next HMT.out HFF.out HI.out HLAT.out
            have HLTT : Hid (abv q T (f x) < abv q T x) := abv_lt HLAT.out HFF.out HI.out e
            clear e
            go_wp2_with fail
            go_roundw
            case rel => exact ⟨f x, rfl, by first | rfl | trivial, HI2⟩
            case measure => simpa [intOf] using HLTT.out
    · have hne : (c != 0) = true := by simpa using h0
      have HO : Hid (FCk X Z c) := .inr ⟨HC.out, .inl ⟨h0, hc⟩⟩
      clear hc
      go_wp2_with fail
      go_ret2
      exact ⟨⟨c, 0, HO.out, rfl, .inl ⟨h0, rfl⟩⟩, HB2.out⟩
  · have hne : (c != 0) = true := by simpa using h0
    have HO : Hid (FCk X Z c) := .inl ⟨h0, hc⟩
    clear hc
    go_wp2_with fail
    go_ret2
    exact ⟨⟨c, 0, HO.out, rfl, .inl ⟨h0, rfl⟩⟩, HB2.out⟩
end Go.Proofs.YtfajgahofkcndaaDoor
