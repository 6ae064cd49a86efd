/-
  What embed.Good answers, and for every order and list of words hasselaw.EmbedGood returns true. Condition: the table of the least bits.
-/
import Derived.Test.YtimpgcmkdcmhkaaDoorEBeg
import Derived.Test.YtimpgcmkdcmhkaaDoorRefI
namespace Go.Proofs.YtimpgcmkdcmhkaaDoor
set_option maxRecDepth 100000
open Go.RowKit

theorem results_tmp4 {fn : Func} {t u v x : Tmp} (h : fn.results = #[.tmp t, .tmp u, .tmp v, .tmp x]) (tmps : Array Value) (P : Program) (w : World) :
    (results fn tmps).run P w = .ok (.tuple #[tmps.getD t undef, tmps.getD u undef, tmps.getD v undef, tmps.getD x undef]) w := by
  simp [results, h]
/-- The first pair of things one of which goes into the other one; or that there is none. -/
def GoodIs (P : Nat → Nat → Bool) (m : Nat) (i k : Int) (v : Bool) : Prop :=
  (v = true ∧ ∃ x y : Nat, i = x ∧ k = y ∧ x < y ∧ y < m ∧ P x y = true ∧ ∀ x' y', x' < y' → y' < m → (x' < x ∨ (x' = x ∧ y' < y)) → P x' y' = false) ∨
  (v = false ∧ i = 0 ∧ k = 0 ∧ ∀ x y, x < y → y < m → P x y = false)
def GoodPost (n : Int) (len : Nat) (f : Nat → Int) (m : Nat) (S : Nat → Option Addr × Nat × Nat) (F : Nat → Nat → Int) (e : Ending) : Prop :=
  ∃ (c i k : Int) (v : Bool), e = .returned (.tuple #[.int .i64 i, .int .i64 k, .bool v, .int .i64 c]) ∧ WCk n len f m S F c ∧ ((c ≠ 0 ∧ i = 0 ∧ k = 0 ∧ v = false) ∨ (c = 0 ∧ GoodIs (wdP (nat f) S F) m i k v))
def NoneTo (P : Nat → Nat → Bool) (m x : Nat) : Prop := ∀ x' y', x' < y' → y' < m → x' < x → P x' y' = false
def NoneIn (P : Nat → Nat → Bool) (x y : Nat) : Prop := ∀ y', x < y' → y' < y → P x y' = false
theorem none_next {P : Nat → Nat → Bool} {m x : Nat} (h : NoneTo P m x) (h2 : NoneIn P x m) : NoneTo P m (x + 1) := fun x' y' h3 h4 h5 => by
  by_cases e : x' = x
  · subst e; exact h2 y' h3 h4
  · exact h x' y' h3 h4 (by omega)
theorem none_in {P : Nat → Nat → Bool} {x y : Nat} (h : NoneIn P x y) (h2 : P x y = false) : NoneIn P x (y + 1) := fun y' h3 h4 => by
  by_cases e : y' = y
  · subst e; exact h2
  · exact h y' h3 (by omega)
theorem good_at {P : Nat → Nat → Bool} {m x y : Nat} (h : NoneTo P m x) (h2 : NoneIn P x y) (hx : x < y) (hy : y < m) (hp : P x y = true) : GoodIs P m x y true :=
  .inl ⟨rfl, x, y, rfl, rfl, hx, hy, hp, fun x' y' h3 h4 h5 => by
    rcases h5 with h5 | ⟨rfl, h5⟩
    · exact h x' y' h3 h4 h5
    · exact h2 y' h3 h5⟩
/-- Two answers are one. -/
theorem GoodIs.one {P : Nat → Nat → Bool} {m : Nat} {i k i' k' : Int} {v v' : Bool} (h : GoodIs P m i k v) (h' : GoodIs P m i' k' v') : i = i' ∧ k = k' ∧ v = v' := by
  rcases h with ⟨rfl, x, y, rfl, rfl, h1, h2, h3, h4⟩ | ⟨rfl, rfl, rfl, h4⟩ <;> rcases h' with ⟨rfl, x', y', rfl, rfl, k1, k2, k3, k4⟩ | ⟨rfl, rfl, rfl, k4⟩
  · rcases Nat.lt_trichotomy x x' with e | e | e
    · rw [k4 x y h1 h2 (.inl e)] at h3; cases h3
    · subst e
      rcases Nat.lt_trichotomy y y' with e | e | e
      · rw [k4 x y h1 h2 (.inr ⟨rfl, e⟩)] at h3; cases h3
      · subst e; exact ⟨rfl, rfl, rfl⟩
      · rw [h4 x y' k1 k2 (.inr ⟨rfl, e⟩)] at k3; cases k3
    · rw [h4 x' y' k1 k2 (.inl e)] at k3; cases k3
  · rw [k4 x y h1 h2] at h3; cases h3
  · rw [h4 x' y' k1 k2] at k3; cases k3
  · exact ⟨rfl, rfl, rfl⟩

set_option maxHeartbeats 4000000 in
theorem good_any (n : Int) (ao : Option Addr) (len co : Nat) (f : Nat → Int) (a : Option Addr) (m cap : Nat) (S : Nat → Option Addr × Nat × Nat) (F : Nat → Nat → Int) (w : World) (hl : len ≤ maxLen) (ho : Row w ao len f) (hm : m ≤ maxLen) (hr : RR w a m S F) :
    Calls Tryd.prog 18 #[.agg #[.int .i64 n, .slice ao len co], .slice a m cap] w fun e w' => GoodPost n len f m S F e ∧ Below w.heap.size w w' := by
  have HB0 : Hid (Below w.heap.size w (w.alloc (.cells #[.int .i64 n, .slice ao len co] 24))) := bel_one w _
  have K0 : Hid (Held (w.alloc (.cells #[.int .i64 n, .slice ao len co] 24)) w.heap.size n ao len co f) := Held.box ho
  have HR0 : Hid (RR w a m S F) := hr
  clear ho hr
  have k0 := K0.out.c0
  have k1 := K0.out.c1
  go_enter Tryd.func18, Tryd.ntmps18
  go_wp2_with fail
  refine (checkWords_any n ao len co f a m cap S F _ hl K0.out.row hm (HR0.out.below HB0.out)).mono ?_
  rintro e w1 ⟨⟨c, rfl, hc⟩, hb1⟩
  have HB1 : Hid (Below w.heap.size w w1) := Below.then HB0.out hb1
  have K1 : Hid (Held w1 w.heap.size n ao len co f) := K0.out.step hb1
  have HC : Hid (WCk n len f m S F c) := hc
  clear hb1 hc HB0 K0 k0 k1
  have k0 := K1.out.c0
  have k1 := K1.out.c1
  by_cases h0 : c = 0
  · subst h0
    obtain ⟨hck, hM, hL⟩ := HC.out.good
    obtain ⟨rfl, h10, hrng, _⟩ := hck.good
    have K2 : Hid (Held w1 w.heap.size len ao len co (fun k => ((nat f k : Nat) : Int))) := ⟨K1.out.c0, K1.out.c1, hrng.row K1.out.row⟩
    have HG : Hid (∀ k, k < len → nat f k < 1024) := hrng.small2 h10
    have HM : Hid (¬ Many m S) := hM
    have HL : Hid (Lets len m S F) := hL
    have hm12 : m ≤ 12 := Nat.le_of_not_lt fun h => hM (.inl h)
    clear hck hM hL hrng K1 k0 k1
    go_wp2_with fail
    go_loopw [20] (fun t wx => ∃ x : Nat, x ≤ m ∧ t = .int .i64 x ∧ Hid (NoneTo (wdP (nat f) S F) m x) ∧ Hid (Held wx w.heap.size len ao len co (fun k => ((nat f k : Nat) : Int))) ∧ Hid (Below w.heap.size w wx)) (fun t _ => m - (intOf t).toNat)
    case atStart => exact ⟨0, Nat.zero_le _, rfl, fun _ _ _ _ h => absurd h (Nat.not_lt_zero _), K2.out, HB1.out⟩
    case round =>
      clear K2 HB1
      obtain ⟨x, hx, rfl, HN, hH, hB⟩ := hrel
      by_cases hxlt : x < m
      · obtain ⟨b, off, rfl, cx0, _, _⟩ := HR0.out.below hB.out x hxlt
        have HZ : Hid (NoneIn (wdP (nat f) S F) x (x + 1)) := fun y' h1 h2 => absurd h1 (by omega)
        go_wp2_with fail
        have HH0 : Hid (Held wr w.heap.size len ao len co (fun k => ((nat f k : Nat) : Int))) := hH.out
        have HB0 : Hid (Below w.heap.size w wr) := hB.out
        clear hH hB cx0
        go_loopw [11] (fun t wx => ∃ y : Nat, x < y ∧ y ≤ m ∧ t = .int .i64 y ∧ Hid (NoneIn (wdP (nat f) S F) x y) ∧ Hid (Held wx w.heap.size len ao len co (fun k => ((nat f k : Nat) : Int))) ∧ Hid (Below w.heap.size w wx)) (fun t _ => m - (intOf t).toNat)
        case atStart => exact ⟨x + 1, by omega, by omega, by go_num, HZ.out, HH0.out, HB0.out⟩
        case round =>
          clear HZ HH0 HB0
          obtain ⟨y, hxy, hy, rfl, HI, hH, hB⟩ := hrel
          by_cases hylt : y < m
          · obtain ⟨b1, off1, e1, cx, lx, rx, fx⟩ := word_of (HR0.out.below hB.out) HM.out HL.out hxlt
            simp at e1
            obtain ⟨rfl, rfl⟩ := e1
            obtain ⟨b1, off1, e1, cy, ly, ry, fy⟩ := word_of (HR0.out.below hB.out) HM.out HL.out hylt
            simp at e1
            obtain ⟨rfl, rfl⟩ := e1
            have l2 : ∀ w', Below wr.heap.size wr w' → w'.cell? ⟨b, off + x, none⟩ = some (.slice (S x).1 (S x).2.1 (S x).2.2) := fun w' h => cell_step h cx
            have l3 : ∀ w', Below wr.heap.size wr w' → w'.cell? ⟨b, off + y, none⟩ = some (.slice (S y).1 (S y).2.1 (S y).2.2) := fun w' h => cell_step h cy
            have HX : Hid (∀ w', Below wr.heap.size wr w' → Row w' (S x).1 (S x).2.1 (fun i => ((nat (F x) i : Nat) : Int))) := fun w' h => rx.below h
            have HY : Hid (∀ w', Below wr.heap.size wr w' → Row w' (S y).1 (S y).2.1 (fun i => ((nat (F y) i : Nat) : Int))) := fun w' h => ry.below h
            have HLX : Hid (∀ i, i < (S x).2.1 → nat (F x) i < len) := fx
            have HLY : Hid (∀ i, i < (S y).2.1 → nat (F y) i < len) := fy
            have HRO : Hid (∀ w', Below wr.heap.size wr w' → Row w' ao len (fun k => ((nat f k : Nat) : Int))) := fun w' h => (hH.out.step h).row
            have l0 : ∀ w', Below wr.heap.size wr w' → w'.cell? ⟨w.heap.size, 0, none⟩ = some (.int .i64 (len : Int)) := fun w' h => (hH.out.step h).c0
            have l1 : ∀ w', Below wr.heap.size wr w' → w'.cell? ⟨w.heap.size, 1, none⟩ = some (.slice ao len co) := fun w' h => (hH.out.step h).c1
            have hx' : (x : Int) < (m : Int) := by omega
            have hy' : (y : Int) < (m : Int) := by omega
            have hr2 := lx
            have hs2 := ly
            have HWD : Hid (wdP (nat f) S F x y = goesB (nat f) (S x).2.1 (nat (F x)) (S y).2.1 (nat (F y))) := rfl
            obtain ⟨v, hv⟩ : ∃ v, goesB (nat f) (S x).2.1 (nat (F x)) (S y).2.1 (nat (F y)) = v := ⟨_, rfl⟩
            have HPV : Hid (wdP (nat f) S F x y = v) := hv
            clear cx cy rx ry fx fy lx ly HWD
            generalize hs1 : (S x).1 = r1 at *
            generalize hs2' : (S x).2.1 = r2 at *
            generalize hs3 : (S x).2.2 = r3 at *
            generalize ht1 : (S y).1 = s1 at *
            generalize ht2 : (S y).2.1 = s2 at *
            generalize ht3 : (S y).2.2 = s3 at *
            generalize hW : wr = W at *
            have KK : Below W.heap.size W W.drew := (Below.refl _ _).drew

            go_wp2_with fail
            refine wp_region_held_drew (S := (fun w' => Below W.heap.size W w')) (by kernel_rfl) (KK) (fun hHeld => ?_)
            refine wpAnyH_take (i := 0) (oi := { dst := some 33, op := Go.Op.load 24 (Go.Operand.tmp 2), type := 24, pos := "embed.go:33", after := #[], guard := none }) (v := ?_) rfl (by kernel_rfl) (by kernel_rfl) (by kernel_rfl) (fun _ _ _ h => h) (Or.inl ⟨by rfl, ?hy⟩) (by assumption) ?_
            case hy => (intro w9 hSw; (try dsimp only at hSw); go_simp; try with_reducible rfl)
            try simp only [Act.put, List.setIfInBounds_toArray, List.set_cons_zero, List.set_cons_succ]
            refine wpAnyH_take (i := 1) (oi := { dst := some 34, op := Go.Op.move (Go.Operand.tmp 10), type := 22, pos := "embed.go:33", after := #[], guard := none }) (v := ?_) rfl (by kernel_rfl) (by kernel_rfl) (by kernel_rfl) (fun _ _ _ h => h) (Or.inl ⟨by rfl, ?hy⟩) (by assumption) ?_
            case hy => (intro w9 hSw; (try dsimp only at hSw); go_simp; try with_reducible rfl)
            try simp only [Act.put, List.setIfInBounds_toArray, List.set_cons_zero, List.set_cons_succ]
            refine wpAnyH_take (i := 2) (oi := { dst := some 35, op := Go.Op.move (Go.Operand.tmp 1), type := 29, pos := "embed.go:33", after := #[], guard := none }) (v := ?_) rfl (by kernel_rfl) (by kernel_rfl) (by kernel_rfl) (fun _ _ _ h => h) (Or.inl ⟨by rfl, ?hy⟩) (by assumption) ?_
            case hy => (intro w9 hSw; (try dsimp only at hSw); go_simp; try with_reducible rfl)
            try simp only [Act.put, List.setIfInBounds_toArray, List.set_cons_zero, List.set_cons_succ]
            refine wpAnyH_take (i := 3) (oi := { dst := some 36, op := Go.Op.move (Go.Operand.tmp 11), type := 3, pos := "embed.go:33", after := #[], guard := none }) (v := ?_) rfl (by kernel_rfl) (by kernel_rfl) (by kernel_rfl) (fun _ _ _ h => h) (Or.inl ⟨by rfl, ?hy⟩) (by assumption) ?_
            case hy => (intro w9 hSw; (try dsimp only at hSw); go_simp; try with_reducible rfl)
            try simp only [Act.put, List.setIfInBounds_toArray, List.set_cons_zero, List.set_cons_succ]
            refine wpAnyH_take (i := 4) (oi := { dst := some 37, op := Go.Op.indexAddr 29 (Go.Operand.tmp 35) (Go.Operand.tmp 36), type := 0, pos := "embed.go:33", after := #[{ on := 2, ground := Go.Ground.data }, { on := 3, ground := Go.Ground.data }], guard := none }) (v := ?_) rfl (by kernel_rfl) (by kernel_rfl) (by kernel_rfl) (fun _ _ _ h => h) (Or.inl ⟨by rfl, ?hy⟩) (by assumption) ?_
            case hy => (intro w9 hSw; (try dsimp only at hSw); go_simp; try with_reducible rfl)
            try simp only [Act.put, List.setIfInBounds_toArray, List.set_cons_zero, List.set_cons_succ]
            refine wpAnyH_take (i := 5) (oi := { dst := some 38, op := Go.Op.load 22 (Go.Operand.tmp 37), type := 22, pos := "embed.go:33", after := #[{ on := 4, ground := Go.Ground.data }], guard := none }) (v := ?_) rfl (by kernel_rfl) (by kernel_rfl) (by kernel_rfl) (fun _ _ _ h => h) (Or.inl ⟨by rfl, ?hy⟩) (by assumption) ?_
            case hy => (intro w9 hSw; (try dsimp only at hSw); go_simp; try with_reducible rfl)
            try simp only [Act.put, List.setIfInBounds_toArray, List.set_cons_zero, List.set_cons_succ]
            refine wpAnyH_ready (rs := [6]) (by kernel_rfl) (by simp) ?_
            refine AllReadyH.cons (o := { dst := some 39, op := Go.Op.call { callee := Go.Callee.value (Go.Operand.func 27), args := #[Go.Operand.tmp 33, Go.Operand.tmp 34, Go.Operand.tmp 38], argTypes := #[24, 22, 22] }, type := 4, pos := "embed.go:33", after := #[{ on := 0, ground := Go.Ground.data }, { on := 1, ground := Go.Ground.data }, { on := 5, ground := Go.Ground.data }], guard := none }) rfl (fun K hK => ?_) AllReadyH.nil
            go_simp
            refine (goesInto_any len ao len co (nat f) r1 r2 r3 (nat (F x)) s1 s2 s3 (nat (F y)) _ h10 HG.out (HRO.out _ (by assumption)) (HX.out _ (by assumption)) (HY.out _ (by assumption)) hr2 hs2 HLX.out HLY.out).mono ?_
            rintro e w5 ⟨rfl, hb5⟩
            refine hK.out _ _ ?_ (fun hHeld => ?_)
            · first | assumption | exact Below.then (by assumption) (by assumption)
            clear hK K
            try simp only [Act.put, List.setIfInBounds_toArray, List.set_cons_zero, List.set_cons_succ]
            refine wpAnyH_done (by kernel_rfl) ?_ _
            try simp only [Act.put, List.setIfInBounds_toArray, List.set_cons_zero, List.set_cons_succ]
            rw [hv]
            have HB6 : Hid (Below w.heap.size w w5) := Below.then hB.out (by assumption)
            have HH6 : Hid (Held w5 w.heap.size len ao len co (fun k => ((nat f k : Nat) : Int))) := hH.out.step (by assumption)
            clear l0 l1 l2 l3 hv
            cases v
            · have HI2 : Hid (NoneIn (wdP (nat f) S F) x (y + 1)) := none_in HI.out HPV.out
              go_wp2_with fail
              go_roundw
              case rel => exact ⟨y + 1, by omega, by omega, by go_num, HI2.out, HH6.out, HB6.out⟩
              case measure => simp [intOf]; omega
            · have HE : Hid (GoodIs (wdP (nat f) S F) m x y true) := good_at HN.out HI.out hxy hylt HPV.out
              go_wp2_with fail
              try simp only [Exit.inBlock, Exit.then]
              refine bodyPost_ret (results_tmp4 rfl _ _ _) rfl ?_
              exact ⟨⟨0, x, y, true, rfl, HC.out, .inr ⟨rfl, HE.out⟩⟩, HB6.out⟩
          · obtain rfl : y = m := by omega
            have HN2 : Hid (NoneTo (wdP (nat f) S F) y (x + 1)) := none_next HN.out HI.out
            go_wp2_with fail
            go_roundw
            case rel => exact ⟨x + 1, by omega, by go_num, HN2.out, hH.out, hB.out⟩
            case measure => simp [intOf]; omega
      · obtain rfl : x = m := by omega
        have HE : Hid (GoodIs (wdP (nat f) S F) x 0 0 false) := .inr ⟨rfl, rfl, rfl, fun x' y' h1 h2 => HN.out x' y' h1 h2 (by omega)⟩
        go_wp2_with fail
        try simp only [Exit.inBlock, Exit.then]
        refine bodyPost_ret (results_tmp4 rfl _ _ _) rfl ?_
        exact ⟨⟨0, 0, 0, false, rfl, HC.out, .inr ⟨rfl, HE.out⟩⟩, hB.out⟩
  · have hne : (c != 0) = true := by simpa using h0
    have H0 : Hid (c ≠ 0) := h0
    clear h0
    go_wp2_with fail
    try simp only [Exit.inBlock, Exit.then]
    refine bodyPost_ret (results_tmp4 rfl _ _ _) rfl ?_
    exact ⟨⟨c, 0, 0, false, rfl, HC.out, .inl ⟨H0.out, rfl, rfl, rfl⟩⟩, HB1.out⟩
end Go.Proofs.YtimpgcmkdcmhkaaDoor
