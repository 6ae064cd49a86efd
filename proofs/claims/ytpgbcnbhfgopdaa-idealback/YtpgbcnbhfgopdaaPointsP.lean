/-
  What ideal.Points answers. No condition but that slices read as slices of rows.
-/
import Derived.Deep.RegionHeld3
import Derived.Test.YtpgbcnbhfgopdaaSetP
namespace Go.Proofs.Ytpgbcnbhfgopdaa
open Go.RowKit

/-- The points below the b-th one. -/
def pB (m : Nat → Nat → Nat) (P : List Nat) (q b : Nat) : Nat := setBy (fun a => !(a == b) && leB m (nth P a) (nth P b)) q
theorem pB_is (m : Nat → Nat → Nat) (P : List Nat) {q b : Nat} (h10 : q ≤ 10) (hb : b < q) : lack (psB m P (nth P b) q) (pw b) = pB m P q b := by
  have h1 : psB m P (nth P b) q < pw q := setBy_lt _ q
  have hq := pw_le q h10
  have hp := pw_le b (by omega)
  refine eq_of_bits (Nat.lt_of_le_of_lt (lack_le _ _) h1) (setBy_lt _ q) fun i hi => ?_
  rw [lack_bit _ _ _ (by omega) (by omega), pw_bit]
  show ((setBy _ q).testBit i && _) = (setBy _ q).testBit i
  rw [setBy_bit, setBy_bit]
  simp only [hi, decide_true, Bool.true_and]
  by_cases e : b = i
  · subst e; simp
  · have : ¬ i = b := fun x => e x.symm
    simp [e, this]
theorem pB_lt (m : Nat → Nat → Nat) (P : List Nat) (q b : Nat) : pB m P q b < pw q := setBy_lt _ q
theorem upToN_any (n b1 o1 ca : Nat) (b2 : Option Addr) (lb cb : Nat) (R1 : Nat → Nat × Nat × Nat) (m : Nat → Nat → Nat) (p : List Nat) (q : Nat) (pa : Option Addr) (pc x : Nat) (w : World) (h40 : n ≤ 40) (hq : q = p.length) (hp10 : p.length ≤ 10) (hpn : ∀ k, k < p.length → nth p k < n) (hx : x < n) (ht1 : Tb w b1 o1 n R1 m) (hr : Row w pa p.length (fun k => (nth p k : Nat))) :
    Calls Try.prog 44 #[.agg #[.int .i64 (n : Int), .slice (some ⟨b1, o1, none⟩) n ca, .slice b2 lb cb], .slice pa q pc, .int .i64 (x : Nat)] w fun e w' => e = .returned (.int .i64 (psB m p x q : Nat)) ∧ Below w.heap.size w w' := by
  subst hq; exact upToL_any n b1 o1 ca b2 lb cb R1 m p pa pc x w h40 hp10 hpn hx ht1 hr
/-- What the errno must be for a lattice of k such elements. -/
def PCk (k : Nat) (c0 c : Int) : Prop := (c0 ≠ 0 ∧ c = c0) ∨ (c0 = 0 ∧ ((c = 2 ∧ 10 < k) ∨ (c = 0 ∧ k ≤ 10)))
theorem PCk.one {k : Nat} {c0 c d : Int} (h : PCk k c0 c) (h' : PCk k c0 d) : c = d := by
  rcases h with ⟨h0, rfl⟩ | ⟨h0, ⟨rfl, h⟩ | ⟨rfl, h⟩⟩ <;> rcases h' with ⟨h0', rfl⟩ | ⟨h0', ⟨rfl, h'⟩ | ⟨rfl, h'⟩⟩ <;> first | rfl | (exfalso; omega) | (exfalso; contradiction)
def PtsPost (n : Int) (la : Nat) (SA : Nat → Option Addr × Nat × Nat) (FA : Nat → Nat → Int) (lb : Nat) (SB : Nat → Option Addr × Nat × Nat) (FB : Nat → Nat → Int) (e : Ending) (w' : World) : Prop :=
  ∃ (c0 c : Int) (v : Value), LCk n la SA FA lb SB FB c0 ∧ PCk (irrs (nat2 FA) (nat2 FB) n.toNat).length c0 c ∧ e = .returned (.tuple #[v, .int .i64 c]) ∧
    OrdErr c ((irrs (nat2 FA) (nat2 FB) n.toNat).length : Int) (irrs (nat2 FA) (nat2 FB) n.toNat).length (fun k => (pB (nat2 FA) (irrs (nat2 FA) (nat2 FB) n.toNat) (irrs (nat2 FA) (nat2 FB) n.toNat).length k : Nat)) v w'

set_option maxHeartbeats 4000000 in
theorem points_any (n : Int) (a : Option Addr) (la ca : Nat) (SA : Nat → Option Addr × Nat × Nat) (FA : Nat → Nat → Int) (b : Option Addr) (lb cb : Nat) (SB : Nat → Option Addr × Nat × Nat) (FB : Nat → Nat → Int) (w : World) (hla : la ≤ maxLen) (hlb : lb ≤ maxLen) (hra : RR w a la SA FA) (hrb : RR w b lb SB FB) :
    Calls Try.prog 19 #[.agg #[.int .i64 n, .slice a la ca, .slice b lb cb]] w fun e w' => PtsPost n la SA FA lb SB FB e w' ∧ Below w.heap.size w w' := by
  obtain ⟨i0, hi, hz0, hz1, hz2⟩ := info_parts Try.info3
  obtain ⟨W, HWE⟩ : ∃ W, Hid (W = (w.alloc (.cells #[.int .i64 n, .slice a la ca, .slice b lb cb] 27)).alloc (.cells #[.int .i64 0, .slice none 0 0] 24)) := ⟨_, rfl⟩
  have B1 : Below w.heap.size w (w.alloc (.cells #[.int .i64 n, .slice a la ca, .slice b lb cb] 27)) := (Below.refl _ _).alloc (Nat.le_refl _) _
  have B2 : Below w.heap.size w W := by rw [HWE.out]; exact B1.alloc (by simp) _
  have L0 : LB W w.heap.size n a la ca b lb cb := by rw [HWE.out]; exact (LB.new w n a la ca b lb cb).step ((Below.refl _ _).alloc (Nat.le_refl _) _)
  have Z0 : ZBox W (w.heap.size + 1) := by
    rw [HWE.out]
    have := ZBox.new (w.alloc (.cells #[.int .i64 n, .slice a la ca, .slice b lb cb] 27))
    rw [World.size_alloc] at this; exact this
  have HSZ : Hid (W.heap.size = w.heap.size + 2) := by rw [Hid, HWE.out]; simp
  have HB0 : Hid (Below w.heap.size w W) := B2
  have HZ0 : Hid (ZBox W (w.heap.size + 1)) := Z0
  have HRA : Hid (RR W a la SA FA) := hra.below B2
  have HRB : Hid (RR W b lb SB FB) := hrb.below B2
  clear hra hrb B1 B2 Z0
  have l0 := L0.1
  have l1 := L0.2.1
  have l2 := L0.2.2
  go_enter Try.func19, Try.ntmps19
  go_wp2_with fail
  rw [← HWE.out]
  go_wp2_with fail
  refine (irr_any n a la ca SA FA b lb cb SB FB _ hla hlb HRA.out HRB.out).mono ?_
  rintro e w1 ⟨⟨c, v, hc, rfl, hv⟩, hb1⟩
  have HB2 : Hid (Below w.heap.size w w1) := Below.then HB0.out hb1
  have L1 := L0.step hb1
  have HC : Hid (LCk n la SA FA lb SB FB c) := hc
  obtain ⟨z0, z1, z2, z3⟩ := HZ0.out.step hb1
  have HZ1 : Hid (ZBox w1 (w.heap.size + 1)) := HZ0.out.step hb1
  have HSZ1 : Hid (w.heap.size + 2 ≤ w1.heap.size) := by have h1 := hb1.size; have h2 := HSZ.out; rw [Hid]; omega
  rcases hv with ⟨h0, rfl⟩ | ⟨rfl, pa, pc, rfl, hpr⟩
  · have hne : (c != 0) = true := by simpa using h0
    have HO : Hid (PCk (irrs (nat2 FA) (nat2 FB) n.toNat).length c c) := .inl ⟨h0, rfl⟩
    clear hc hb1 HB0 L0 l0 l1 l2 HWE
    go_wp2_with fail
    exact bodyPost_ret (v := .tuple #[noOrder, .int .i64 c]) (by simp [results, Try.results19, go_sem, noOrder, z0, z1]) rfl ⟨⟨c, c, _, HC.out, HO.out, rfl, .inl ⟨h0, rfl⟩⟩, set2B HB2.out (by omega)⟩
  · obtain ⟨P, HPE⟩ : ∃ P, Hid (P = irrs (nat2 FA) (nat2 FB) n.toNat) := ⟨_, rfl⟩
    rw [← HPE.out] at hpr ⊢
    obtain ⟨q, HQ⟩ : ∃ q, Hid (q = P.length) := ⟨_, rfl⟩
    rw [← HQ.out] at hpr ⊢
    by_cases hq : q ≤ 10
    · have hcn : cnt (q : Int) = true := by simp [cnt]; omega
      obtain ⟨s, rfl, h1, h40, e1, e2, hs1, hs2, hg1, hg2, hlat⟩ := hc.good
      obtain rfl := e1.symm
      obtain rfl := e2.symm
      obtain ⟨b1, o1, rfl, ht1, _⟩ := (HRA.out.below hb1).tb h1 hs1 hg1
      obtain ⟨n, HNN⟩ : ∃ n, Hid (n = s) := ⟨_, rfl⟩
      obtain ⟨m, HM⟩ : ∃ m, Hid (m = nat2 FA) := ⟨_, rfl⟩
      have HO : Hid (PCk (irrs (nat2 FA) (nat2 FB) (s : Int).toNat).length 0 0) := .inr ⟨rfl, .inr ⟨rfl, by rw [← HPE.out, ← HQ.out]; exact hq⟩⟩
      have HP10 : Hid (P.length ≤ 10) := by rw [← HQ.out]; exact hq
      have HPN : Hid (∀ k, k < P.length → nth P k < n) := fun k hk => by
        rw [HNN.out]
        rw [HPE.out] at hk ⊢
        exact (nth_filt_lt hk).1
      have HPQ : Hid (∀ k, k < q → nth P k < n) := by rw [HQ.out]; exact HPN.out
      have LR : Hid (∀ w', Below w1.heap.size w1 w' → Row w' pa P.length (fun k => ((nth P k : Nat) : Int))) := fun w' h => by rw [← HQ.out]; exact hpr.below h
      have LRq : Hid (∀ w', Below w1.heap.size w1 w' → Row w' pa q (fun k => ((nth P k : Nat) : Int))) := fun w' h => hpr.below h
      have LT : Hid (∀ w', Below w1.heap.size w1 w' → Tb w' b1 o1 n (fun x => rAt (SA x)) m) := fun w' h => by rw [HM.out, HNN.out]; exact ht1.step h
      obtain ⟨b2, HB2E⟩ : ∃ b2, Hid (b2 = b) := ⟨_, rfl⟩
      rw [← HNN.out] at L1 h40
      rw [← HB2E.out] at L1
      have HL1 : Hid (LB w1 w.heap.size (n : Int) (some ⟨b1, o1, none⟩) n ca b2 n cb) := L1
      clear hc hb1 HB0 L0 l0 l1 l2 HWE hpr hs1 hs2 hg1 hg2 hlat ht1 L1 z0 z1 z2 z3
      go_wp2_with (first
        | (go_at_call 43; refine (isCount_as _ _ _ hcn).mono ?_; rintro e w' ⟨rfl, hww⟩; subst hww)
        | (at_make; refine wpList_make_full _ rfl _ _ 22 rfl w1.heap.size 3 i0 (.int .i64 0) 1 Try.underlying22 hi hz0 hz1 .i64 .i64 _ _ q rfl rfl rfl rfl (by rw [hz2]; omega) (by unfold maxLen; omega) (Nat.le_refl _) ?_; intro w2 hown2 hgrow2))
      have HW2 : Hid (Below w1.heap.size w1 w2) := (Below.refl _ _).grown hgrow2 (Nat.le_refl _) (by simp)
      have HO2 : Hid (Own w2 w1.heap.size q (fun i => if i < 0 then pB m P q i else 0)) := (own_made hown2).congr (fun k _ => by simp)
      have HSZ2 : Hid (w1.heap.size < w2.heap.size ∨ q = 0) := by
        by_cases e : q = 0
        · exact .inr e
        · exact .inl ((own_made hown2).lt (k := 0) (by omega))
      clear hown2 hgrow2
      go_loopw [28] (fun i wx => ∃ k : Nat, k ≤ q ∧ i = .int .i64 k ∧ Hid (Own wx w1.heap.size q (fun i => if i < k then pB m P q i else 0)) ∧ Hid (Below w1.heap.size w1 wx)) (fun i _ => q - (intOf i).toNat)
      case atStart => exact ⟨0, Nat.zero_le _, rfl, HO2.out, HW2.out⟩
      case round =>
        clear HO2 HW2
        obtain ⟨k, hk, rfl, HOW, HW⟩ := hrel
        by_cases hlt : k < q
        · have hpk := HPQ.out k hlt
          obtain ⟨rb, ro, hpa, hc3⟩ := LRq.out _ HW.out k hlt
          have hlo : w1.heap.size < wr.heap.size := HOW.out.lt hlt
          have hkq : (k : Int) < (q : Int) := by omega
          have hsh := wrap_pow k (by omega)
          have hsh2 : IntKind.i64.wrap (2 ^ k) = ((pw k : Nat) : Int) := by
            have e : (2 : Int) ^ k = ((pw k : Nat) : Int) := by unfold pw; simp
            have e2 := pw_small k (by omega)
            rw [e, wrap_i64_small _ (by omega) (by omega)]
          have hps : psB m P (nth P k) q < 1024 := Nat.lt_of_lt_of_le (setBy_lt _ q) (pw_le q hq)
          have hpk2 := pw_le k (by omega)
          have hano : bits .andNot .i64 ((psB m P (nth P k) q : Nat) : Int) ((pw k : Nat) : Int) = ((pB m P q k : Nat) : Int) := (i64_andNot _ _ (by omega) (by omega)).trans (by rw [pB_is m P hq hlt])
          have l0 : ∀ w', Below w1.heap.size w1 w' → w'.cell? ⟨w.heap.size, 0, none⟩ = some (.int .i64 (n : Int)) := fun w' h => (HL1.out.step h).1
          have l1 : ∀ w', Below w1.heap.size w1 w' → w'.cell? ⟨w.heap.size, 1, none⟩ = some (.slice (some ⟨b1, o1, none⟩) n ca) := fun w' h => (HL1.out.step h).2.1
          have l2 : ∀ w', Below w1.heap.size w1 w' → w'.cell? ⟨w.heap.size, 2, none⟩ = some (.slice b2 n cb) := fun w' h => (HL1.out.step h).2.2
          have KD : Below wr.heap.size wr wr.drew := (Below.refl _ _).drew
          have KK : Below w1.heap.size w1 wr.drew := Below.then HW.out KD
          have HNX : Hid (∀ X : World, Own X w1.heap.size q (upd (fun i => if i < k then pB m P q i else 0) k (pB m P q k)) → Own X w1.heap.size q (fun i => if i < k + 1 then pB m P q i else 0)) := fun X h => h.congr (fun i _ => by
            by_cases e : i = k
            · subst e; rw [upd_same]; simp
            · rw [upd_other _ _ _ _ e]
              have : (i < k + 1) = (i < k) := by simp; omega
              simp only [this])
          subst hpa
          go_wp2_with fail
          refine wp_region_held_drew (S := (fun w' => Below w1.heap.size w1 w')) (by kernel_rfl) (KK) (fun hHeld => ?_)
          refine wpAnyH_take (i := 0) (oi := { dst := some 33, op := Go.Op.move (Go.Operand.tmp 6), type := 22, pos := "ideal.go:46", after := #[], guard := none }) (v := ?_) rfl (by kernel_rfl) (by kernel_rfl) (by kernel_rfl) (fun _ _ _ h => h) (Or.inl ⟨by rfl, ?hy⟩) (by assumption) ?_
          case hy => (intro w9 hSw; (try dsimp only at hSw); go_simp; try with_reducible rfl)
          try simp only [Act.put, List.setIfInBounds_toArray, List.set_cons_zero, List.set_cons_succ]
          refine wpAnyH_take (i := 1) (oi := { dst := some 34, op := Go.Op.move (Go.Operand.tmp 7), type := 3, pos := "ideal.go:46", after := #[], guard := none }) (v := ?_) rfl (by kernel_rfl) (by kernel_rfl) (by kernel_rfl) (fun _ _ _ h => h) (Or.inl ⟨by rfl, ?hy⟩) (by assumption) ?_
          case hy => (intro w9 hSw; (try dsimp only at hSw); go_simp; try with_reducible rfl)
          try simp only [Act.put, List.setIfInBounds_toArray, List.set_cons_zero, List.set_cons_succ]
          refine wpAnyH_take (i := 2) (oi := { dst := some 35, op := Go.Op.load 27 (Go.Operand.tmp 1), type := 27, pos := "ideal.go:46", after := #[], guard := none }) (v := ?_) rfl (by kernel_rfl) (by kernel_rfl) (by kernel_rfl) (fun _ _ _ h => h) (Or.inl ⟨by rfl, ?hy⟩) (by assumption) ?_
          case hy => (intro w9 hSw; (try dsimp only at hSw); go_simp; try with_reducible rfl)
          try simp only [Act.put, List.setIfInBounds_toArray, List.set_cons_zero, List.set_cons_succ]
          refine wpAnyH_take (i := 3) (oi := { dst := some 36, op := Go.Op.move (Go.Operand.tmp 4), type := 22, pos := "ideal.go:46", after := #[], guard := none }) (v := ?_) rfl (by kernel_rfl) (by kernel_rfl) (by kernel_rfl) (fun _ _ _ h => h) (Or.inl ⟨by rfl, ?hy⟩) (by assumption) ?_
          case hy => (intro w9 hSw; (try dsimp only at hSw); go_simp; try with_reducible rfl)
          try simp only [Act.put, List.setIfInBounds_toArray, List.set_cons_zero, List.set_cons_succ]
          refine wpAnyH_take (i := 4) (oi := { dst := some 37, op := Go.Op.move (Go.Operand.tmp 8), type := 3, pos := "ideal.go:46", after := #[], guard := none }) (v := ?_) rfl (by kernel_rfl) (by kernel_rfl) (by kernel_rfl) (fun _ _ _ h => h) (Or.inl ⟨by rfl, ?hy⟩) (by assumption) ?_
          case hy => (intro w9 hSw; (try dsimp only at hSw); go_simp; try with_reducible rfl)
          try simp only [Act.put, List.setIfInBounds_toArray, List.set_cons_zero, List.set_cons_succ]
          refine wpAnyH_take (i := 6) (oi := { dst := some 39, op := Go.Op.move (Go.Operand.tmp 7), type := 3, pos := "ideal.go:46", after := #[], guard := none }) (v := ?_) rfl (by kernel_rfl) (by kernel_rfl) (by kernel_rfl) (fun _ _ _ h => h) (Or.inl ⟨by rfl, ?hy⟩) (by assumption) ?_
          case hy => (intro w9 hSw; (try dsimp only at hSw); go_simp; try with_reducible rfl)
          try simp only [Act.put, List.setIfInBounds_toArray, List.set_cons_zero, List.set_cons_succ]
          refine wpAnyH_take (i := 7) (oi := { dst := some 40, op := Go.Op.binOp Go.BinOp.shl 3 (Go.Operand.const (Go.Value.int Go.IntKind.i64 1)) (Go.Operand.tmp 39) 3, type := 3, pos := "ideal.go:46", after := #[{ on := 6, ground := Go.Ground.data }], guard := none }) (v := .int .i64 ((pw k : Nat) : Int)) rfl (by kernel_rfl) (by kernel_rfl) (by kernel_rfl) (fun _ _ _ h => h) (Or.inl ⟨by rfl, ?hy⟩) (by assumption) ?_
          case hy => (intro w9 hSw; (try dsimp only at hSw); go_simp <;> (first | with_reducible rfl | (simp; omega) | omega))
          try simp only [Act.put, List.setIfInBounds_toArray, List.set_cons_zero, List.set_cons_succ]
          refine wpAnyH_ready (rs := [5]) (by kernel_rfl) (by simp) ?_
          refine AllReadyH.cons (o := { dst := some 38, op := Go.Op.call { callee := Go.Callee.value (Go.Operand.func 44), args := #[Go.Operand.tmp 35, Go.Operand.tmp 36, Go.Operand.tmp 37], argTypes := #[27, 22, 3] }, type := 3, pos := "ideal.go:46", after := #[{ on := 2, ground := Go.Ground.data }, { on := 3, ground := Go.Ground.data }, { on := 4, ground := Go.Ground.data }], guard := none }) rfl (fun K hK => ?_) AllReadyH.nil
          go_simp
          refine (upToN_any n b1 o1 ca b2 n cb _ m P q (some ⟨rb, ro, none⟩) pc (nth P k) _ h40 HQ.out HP10.out HPN.out hpk (LT.out _ KK) (LR.out _ KK)).mono ?_
          rintro e w3 ⟨rfl, hb3⟩
          have HB3 : Hid (Below wr.heap.size wr w3) := Below.then KD hb3
          refine hK.out _ _ ?_ (fun hHeld => ?_)
          · exact Below.then KK hb3
          clear hK K
          try simp only [Act.put, List.setIfInBounds_toArray, List.set_cons_zero, List.set_cons_succ]
          refine wpAnyH_take (i := 8) (oi := { dst := some 41, op := Go.Op.binOp Go.BinOp.andNot 3 (Go.Operand.tmp 38) (Go.Operand.tmp 40) 3, type := 3, pos := "ideal.go:46", after := #[{ on := 5, ground := Go.Ground.data }, { on := 7, ground := Go.Ground.data }], guard := none }) (v := .int .i64 ((pB m P q k : Nat) : Int)) rfl (by kernel_rfl) (by kernel_rfl) (by kernel_rfl) (fun _ _ _ h => h) (Or.inl ⟨by rfl, ?hy⟩) (by assumption) ?_
          case hy => (intro w9 hSw; (try dsimp only at hSw); go_simp <;> (first | with_reducible rfl | (simp; omega) | omega))
          try simp only [Act.put, List.setIfInBounds_toArray, List.set_cons_zero, List.set_cons_succ]
          refine wpAnyH_take (i := 9) (oi := { dst := some 42, op := Go.Op.indexAddr 22 (Go.Operand.tmp 33) (Go.Operand.tmp 34), type := 0, pos := "ideal.go:46", after := #[{ on := 0, ground := Go.Ground.data }, { on := 1, ground := Go.Ground.data }, { on := 0, ground := Go.Ground.phase }, { on := 1, ground := Go.Ground.phase }, { on := 2, ground := Go.Ground.phase }, { on := 3, ground := Go.Ground.phase }, { on := 4, ground := Go.Ground.phase }, { on := 5, ground := Go.Ground.phase }, { on := 6, ground := Go.Ground.phase }, { on := 7, ground := Go.Ground.phase }, { on := 8, ground := Go.Ground.phase }], guard := none }) (v := ?_) rfl (by kernel_rfl) (by kernel_rfl) (by kernel_rfl) (fun _ _ _ h => h) (Or.inl ⟨by rfl, ?hy⟩) (by assumption) ?_
          case hy => (intro w9 hSw; (try dsimp only at hSw); go_simp; try with_reducible rfl)
          try simp only [Act.put, List.setIfInBounds_toArray, List.set_cons_zero, List.set_cons_succ]
          refine wpAnyH_ready (rs := [10]) (by kernel_rfl) (by simp) ?_
          refine AllReadyH.cons (o := { dst := none, op := Go.Op.store 3 (Go.Operand.tmp 42) (Go.Operand.tmp 41), type := 0, pos := "ideal.go:46", after := #[{ on := 9, ground := Go.Ground.data }, { on := 8, ground := Go.Ground.data }, { on := 5, ground := Go.Ground.chain }, { on := 0, ground := Go.Ground.phase }, { on := 1, ground := Go.Ground.phase }, { on := 2, ground := Go.Ground.phase }, { on := 3, ground := Go.Ground.phase }, { on := 4, ground := Go.Ground.phase }, { on := 5, ground := Go.Ground.phase }, { on := 6, ground := Go.Ground.phase }, { on := 7, ground := Go.Ground.phase }, { on := 8, ground := Go.Ground.phase }], guard := none }) rfl (fun K hK => ?_) AllReadyH.nil
          have HOW3 : Hid (Own w3 w1.heap.size q (fun i => if i < k then pB m P q i else 0)) := HOW.out.keep HB3.out hlo
          have c3 := (HOW3.out k hlt).1
          have f3 := (HOW3.out k hlt).2
          go_simp
          refine hK.out _ _ ?_ (fun hHeld => ?_)
          · exact (Below.then HW.out HB3.out).setCell (p := ⟨w1.heap.size, k, none⟩) (Nat.le_refl _) _
          clear hK K
          try simp only [Act.put, List.setIfInBounds_toArray, List.set_cons_zero, List.set_cons_succ]
          refine wpAnyH_done (by kernel_rfl) ?_ _
          try simp only [Act.put, List.setIfInBounds_toArray, List.set_cons_zero, List.set_cons_succ]
          have HOW4 : Hid (Own (w3.setCell ⟨w1.heap.size, k, none⟩ (.int .i64 (pB m P q k : Nat))) w1.heap.size q (fun i => if i < k + 1 then pB m P q i else 0)) := HNX.out _ (HOW3.out.set k _ hlt)
          have HW4 : Hid (Below w1.heap.size w1 (w3.setCell ⟨w1.heap.size, k, none⟩ (.int .i64 (pB m P q k : Nat)))) := (Below.then HW.out HB3.out).setCell (p := ⟨w1.heap.size, k, none⟩) (Nat.le_refl _) _
          clear HOW3 HB3 HOW HW KK KD l0 l1 l2 hHeld c3 f3
          go_wp2_with fail
          go_roundw
          case rel => exact ⟨k + 1, by omega, by go_num, HOW4.out, HW4.out⟩
          case measure => simp [intOf]; omega
        · obtain rfl : k = q := by omega
          have HFO : Hid (Own wr w1.heap.size k (pB m P k)) := HOW.out.congr (fun i hi => by simp [hi])
          obtain ⟨z0, z1, z2, z3⟩ := HZ1.out.step HW.out
          have hs1 := HSZ1.out
          go_wp2_with fail
          refine bodyPost_ret (v := .tuple #[.agg #[.int .i64 (k : Int), .slice (some ⟨w1.heap.size, 0, none⟩) k k], .int .i64 0]) ?_ rfl ⟨⟨0, 0, .agg #[.int .i64 (k : Int), .slice (some ⟨w1.heap.size, 0, none⟩) k k], HC.out, HO.out, rfl, ?_⟩, ?_⟩
          · simp [results, Try.results19, go_sem, z0, z1]
          · rw [← HPE.out, ← HQ.out, ← HM.out]
            exact .inr ⟨rfl, _, _, rfl, row_set2 (Own.row HFO.out) (fun _ => ⟨_, _, rfl, by omega⟩)⟩
          · exact set2B (Below.then HB2.out HW.out) (by omega)
    · have hcn : cnt (q : Int) = false := by simp [cnt]; omega
      have HO : Hid (PCk (irrs (nat2 FA) (nat2 FB) n.toNat).length 0 2) := .inr ⟨rfl, .inl ⟨rfl, by rw [← HPE.out, ← HQ.out]; omega⟩⟩
      clear hc hb1 HB0 L0 l0 l1 l2 HWE hpr L1
      go_wp2_with (go_at_call 43; refine (isCount_as _ _ _ hcn).mono ?_; rintro e w' ⟨rfl, hww⟩; subst hww)
      exact bodyPost_ret (v := .tuple #[noOrder, .int .i64 2]) (by simp [results, Try.results19, go_sem, noOrder, z0, z1]) rfl ⟨⟨0, 2, _, HC.out, HO.out, rfl, .inl ⟨by decide, rfl⟩⟩, set2B HB2.out (by omega)⟩
end Go.Proofs.Ytpgbcnbhfgopdaa
