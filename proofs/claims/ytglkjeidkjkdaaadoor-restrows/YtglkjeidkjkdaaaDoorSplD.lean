/-
  What series.Split answers, whatever it is handed. Conditions: a slice reads as a slice of numbers; the table of the least bits.
-/
import Derived.Deep.RegionHeld3
import Derived.Test.YtglkjeidkjkdaaaDoorSplC
namespace Go.Proofs.YtglkjeidkjkdaaaDoor
set_option maxRecDepth 100000
open Go.RowKit

theorem split_any {g : Nat → Nat} {n : Nat} (h10 : n ≤ 10) (hg : Sm n n g) (ho : Ord n g) : ∀ (k S : Nat), pc S ≤ k → S < pw n → S ≠ 0 → ∀ (lv : Value) (w : World), Lks w lv g n → Tab w →
    Calls Tryd.prog 29 #[lv, .int .i64 (S : Nat)] w fun e w' => SpRes w.heap.size g n S e w' ∧ Below w.heap.size w w'
  | 0, S, hk, hS, h0, _, _, _, _ => by
    have hpl := pw_le n h10
    have := pcn_pos (lo_bit (S := S) (by omega) h0) 10 (bit_of_lt (n := 10) (show S < 1024 by omega) (lo_bit (by omega) h0))
    unfold pc at hk
    omega
  | k + 1, S, hk, hS, h0, lv, w, hL, hT => split_step h10 hg ho S hS h0 lv w hL hT fun P hP hPl hP0 W hW => split_any h10 hg ho k P (by omega) hPl hP0 lv W (hL.step hW) (hT.step hW)
theorem split_top {g : Nat → Nat} {n : Nat} (h10 : n ≤ 10) (hg : Sm n n g) (ho : Ord n g) (S : Nat) (hS : S < pw n) (h0 : S ≠ 0) (lv : Value) (w : World) (hL : Lks w lv g n) (hT : Tab w) :
    Calls Tryd.prog 29 #[lv, .int .i64 (S : Nat)] w fun e w' => SpRes w.heap.size g n S e w' ∧ Below w.heap.size w w' := split_any h10 hg ho (pc S) S (Nat.le_refl _) hS h0 lv w hL hT
theorem spAgg {K : Nat} {g : Nat → Nat} {n S : Nat} {v : Value} {ok : Bool} {w' : World} (h : (ok = true ∧ ∃ T, TRep K w' T v ∧ Trm g n S T) ∨ (ok = false ∧ v = zeroT ∧ ¬ NZ g S)) : ∃ k x a n c, v = .agg #[.int .i64 k, .int .i64 x, .slice a n c] := by
  rcases h with ⟨_, T, h, _⟩ | ⟨_, rfl, _⟩
  · exact h.agg
  · exact ⟨0, 0, none, 0, 0, rfl⟩
/-- A term's box, as it was made. -/
def ZB (w : World) (B : Nat) : Prop := (w.cell? ⟨B, 0, none⟩ = some (.int .i64 0) ∧ w.cell? ⟨B, 1, none⟩ = some (.int .i64 0) ∧ w.cell? ⟨B, 2, none⟩ = some (.slice none 0 0)) ∧ w.frozen? ⟨B, 0, none⟩ = false ∧ w.frozen? ⟨B, 1, none⟩ = false ∧ w.frozen? ⟨B, 2, none⟩ = false
theorem ZB.new (w : World) : ZB (w.alloc (.cells #[.int .i64 0, .int .i64 0, .slice none 0 0] 32)) w.heap.size := by
  refine ⟨⟨?_, ?_, ?_⟩, World.frozen?_alloc_at _ _ _ _ (by simp), World.frozen?_alloc_at _ _ _ _ (by simp), World.frozen?_alloc_at _ _ _ _ (by simp)⟩ <;> simp
theorem ZB.step {w w' : World} {B : Nat} (h : ZB w B) (hb : Below w.heap.size w w') : ZB w' B := by
  have hB : B < w.heap.size := World.block_lt_of_cell? _ _ h.1.1
  have f : ∀ o, w'.frozen? ⟨B, o, none⟩ = w.frozen? ⟨B, o, none⟩ := fun o => hb.frozen (p := ⟨B, o, none⟩) hB
  exact ⟨⟨cellS hb h.1.1, cellS hb h.1.2.1, cellS hb h.1.2.2⟩, (f 0).trans h.2.1, (f 1).trans h.2.2.1, (f 2).trans h.2.2.2⟩
def SpR2 (K : Nat) (g : Nat → Nat) (n : Nat) (w' : World) (v : Value) (ok : Bool) : Prop := (ok = true ∧ ∃ T, TRep K w' T v ∧ Trm g n (pw n - 1) T) ∨ (ok = false ∧ v = zeroT ∧ ¬ NZ g (pw n - 1))
theorem SpR2.step {K : Nat} {g : Nat → Nat} {n : Nat} {w w' : World} {v : Value} {ok : Bool} (h : SpR2 K g n w v ok) (hb : Below w.heap.size w w') : SpR2 K g n w' v ok := by
  rcases h with ⟨h, T, h1, h2⟩ | h
  · exact .inl ⟨h, T, TRep.step hb _ _ h1, h2⟩
  · exact .inr h
theorem SpR2.low {K K' : Nat} {g : Nat → Nat} {n : Nat} {w : World} {v : Value} {ok : Bool} (hK : K' ≤ K) (h : SpR2 K g n w v ok) : SpR2 K' g n w v ok := by
  rcases h with ⟨h, T, h1, h2⟩ | h
  · exact .inl ⟨h, T, TRep.low hK _ _ h1, h2⟩
  · exact .inr h
theorem SpR2.set {K : Nat} {g : Nat → Nat} {n : Nat} {w : World} {v : Value} {ok : Bool} {B u : Nat} {z : Value} (hB : B < K) (h : SpR2 K g n w v ok) : SpR2 K g n (w.setCell ⟨B, u, none⟩ z) v ok := by
  rcases h with ⟨h, T, h1, h2⟩ | h
  · exact .inl ⟨h, T, TRep.set hB _ _ h1, h2⟩
  · exact .inr h
theorem SpR2.fin {K K' : Nat} {g : Nat → Nat} {n : Nat} {w : World} {v : Value} {ok : Bool} (h : SpR2 K g n w v ok) (hK : K' ≤ K) (hn : 0 < n) : (ok = true ∧ 0 < n ∧ ∃ T, TRep K' w T v ∧ Trm g n (pw n - 1) T) ∨ (ok = false ∧ v = zeroT ∧ (n = 0 ∨ ¬ NZ g (pw n - 1))) := by
  rcases h with ⟨h, T, h1, h2⟩ | ⟨h1, h2, h3⟩
  · exact .inl ⟨h, hn, T, TRep.low hK _ _ h1, h2⟩
  · exact .inr ⟨h1, h2, .inr h3⟩
/-- What Split answers. -/
def SplitPost (K : Nat) (n : Int) (len : Nat) (f : Nat → Int) (e : Ending) (w' : World) : Prop :=
  ∃ c v ok, Chk n len f c ∧ e = .returned (.tuple #[v, .bool ok, .int .i64 c]) ∧ ((c ≠ 0 ∧ v = zeroT ∧ ok = false) ∨ (c = 0 ∧ ((ok = true ∧ 0 < len ∧ ∃ T, TRep K w' T v ∧ Trm (nat f) len (pw len - 1) T) ∨ (ok = false ∧ v = zeroT ∧ (len = 0 ∨ ¬ NZ (nat f) (pw len - 1))))))
theorem res_splt (fn : Func) (p u y : Tmp) (h : fn.results = #[.cell p 32, .tmp u, .tmp y]) (tmps : Array Value) (W : World) (b : Nat) (k x : Int) (a : Option Addr) (l c : Nat) (ok : Bool) (er : Int) (hp : tmps.getD p undef = .pointer (some ⟨b, 0, none⟩)) (hu : tmps.getD u undef = .bool ok) (hy : tmps.getD y undef = .int .i64 er)
    (r0 : W.cell? ⟨b, 0, none⟩ = some (.int .i64 k)) (r1 : W.cell? ⟨b, 1, none⟩ = some (.int .i64 x)) (r2 : W.cell? ⟨b, 2, none⟩ = some (.slice a l c)) :
    (results fn tmps).run Tryd.prog W = .ok (.tuple #[.agg #[.int .i64 k, .int .i64 x, .slice a l c], .bool ok, .int .i64 er]) W := by
  simp only [results, h]
  simp only [Array.getD_eq_getD_getElem?] at hp hu hy
  simp [Sem.run_bind, Result.andThen, hp, hu, hy, asAddr, loadVar, go_sem, r0, r1, r2]
set_option maxHeartbeats 4000000 in
theorem sSplit_any (n : Int) (a : Option Addr) (len cap : Nat) (f : Nat → Int) (w : World) (hl : len ≤ maxLen) (hr : Row w a len f) (hT : Tab w) :
    Calls Tryd.prog 9 #[.agg #[.int .i64 n, .slice a len cap]] w fun e w' => SplitPost w.heap.size n len f e w' ∧ Below w.heap.size w w' := by
  have K0 : Held ((w.alloc (.cells #[.int .i64 n, .slice a len cap] 24)).alloc (.cells #[.int .i64 0, .int .i64 0, .slice none 0 0] 32)) w.heap.size n a len cap f := (Held.box hr).step ((Below.refl _ _).alloc (Nat.le_refl _) _)
  have HB0 : Hid (Below w.heap.size w ((w.alloc (.cells #[.int .i64 n, .slice a len cap] 24)).alloc (.cells #[.int .i64 0, .int .i64 0, .slice none 0 0] 32))) := ((Below.refl _ _).alloc (Nat.le_refl _) _).alloc (by simp) _
  have HT : Hid (Tab w) := hT
  have HX : Hid (∀ w', Below ((w.alloc (.cells #[.int .i64 n, .slice a len cap] 24)).alloc (.cells #[.int .i64 0, .int .i64 0, .slice none 0 0] 32)).heap.size ((w.alloc (.cells #[.int .i64 n, .slice a len cap] 24)).alloc (.cells #[.int .i64 0, .int .i64 0, .slice none 0 0] 32)) w' →
      (w'.cell? ⟨w.heap.size + 1, 0, none⟩ = some (.int .i64 0) ∧ w'.cell? ⟨w.heap.size + 1, 1, none⟩ = some (.int .i64 0) ∧ w'.cell? ⟨w.heap.size + 1, 2, none⟩ = some (.slice none 0 0)) ∧
      (w'.frozen? ⟨w.heap.size + 1, 0, none⟩ = false ∧ w'.frozen? ⟨w.heap.size + 1, 1, none⟩ = false ∧ w'.frozen? ⟨w.heap.size + 1, 2, none⟩ = false)) := fun w' hb => by
    have c : ∀ b o, b < w.heap.size + 1 + 1 → w'.cell? ⟨b, o, none⟩ = _ := fun b o k => hb.cell (p := ⟨b, o, none⟩) (by simpa using k)
    have f : ∀ b o, b < w.heap.size + 1 + 1 → w'.frozen? ⟨b, o, none⟩ = _ := fun b o k => hb.frozen (p := ⟨b, o, none⟩) (by simpa using k)
    rw [c (w.heap.size + 1) 0 (by omega), c (w.heap.size + 1) 1 (by omega), c (w.heap.size + 1) 2 (by omega), f (w.heap.size + 1) 0 (by omega), f (w.heap.size + 1) 1 (by omega), f (w.heap.size + 1) 2 (by omega)]
    refine ⟨⟨?_, ?_, ?_⟩, World.frozen?_alloc_at _ _ _ _ (by simp), World.frozen?_alloc_at _ _ _ _ (by simp), World.frozen?_alloc_at _ _ _ _ (by simp)⟩ <;> simp
  clear hr hT
  go_enter Tryd.func9, Tryd.ntmps9
  go_wp2_with fail
  refine (check_any n a len cap f _ hl K0.row).mono ?_
  rintro e w1 ⟨⟨c, rfl, hc⟩, hb⟩
  have K1 := K0.step hb
  have HB1 : Hid (Below w.heap.size w w1) := Below.then HB0.out hb
  have HX1 : Hid (∀ w', Below w1.heap.size w1 w' → _) := fun w' h => HX.out w' (Below.then hb h)
  have HS1 : Hid (w.heap.size + 1 + 1 ≤ w1.heap.size) := by have := hb.size; simp at this; exact this
  clear hb K0 HB0 HX
  by_cases h0 : c = 0
  · subst h0
    obtain ⟨rfl, h10, hrng, hord⟩ := hc.good
    have HCK : Hid (Chk (len : Int) len f 0) := hc
    have k0 := K1.c0
    have k1 := K1.c1
    by_cases hz : len = 0
    · subst hz
      obtain ⟨⟨r0, r1, r2⟩, f0, f1, f2⟩ := HX1.out _ (Below.refl _ _)
      clear hc hrng hord K1
      go_wp2_with fail
      have S3 := set3 (.int .i64 0) (.int .i64 0) (.slice none 0 0) r0 r1 r2 _ rfl
      exact bodyPost_ret (res_splt _ 2 3 4 rfl _ _ _ _ _ _ _ _ _ _ rfl rfl rfl S3.1 S3.2.1 S3.2.2) rfl ⟨⟨0, _, _, HCK.out, rfl, .inr ⟨rfl, .inr ⟨rfl, rfl, .inl rfl⟩⟩⟩, below3 HB1.out (by omega)⟩
    · have hzI : ((len : Int) == 0) = false := by simp; omega
      have hpl := pw_le len h10
      have hpp := pw_pos len
      have HSM : Hid (Sm len len (nat f)) := hrng.small
      have HOR : Hid (Ord len (nat f)) := hord
      have HPL : Hid (pw len - 1 < pw len) := by show _ < _; omega
      have HP0 : Hid (pw len - 1 ≠ 0) := by
        have : 2 ^ 1 ≤ 2 ^ len := Nat.pow_le_pow_right (by decide) (by omega)
        show pw len - 1 ≠ 0
        unfold pw; omega
      have HAL : Hid (((pw len - 1 : Nat) : Int) = ((pw len : Nat) : Int) - 1) := by show _ = _; omega
      have HRW : Hid (∀ w', Below w1.heap.size w1 w' → Row w' a len f) := fun w' h => (K1.step h).row
      have l0 : ∀ w', Below w1.heap.size w1 w' → w'.cell? ⟨w.heap.size, 0, none⟩ = some (.int .i64 (len : Int)) := fun w' h => (K1.step h).c0
      have l1 : ∀ w', Below w1.heap.size w1 w' → w'.cell? ⟨w.heap.size, 1, none⟩ = some (.slice a len cap) := fun w' h => (K1.step h).c1
      have HTB : Hid (∀ w', Below w1.heap.size w1 w' → Tab w') := fun w' h => HT.out.step (Below.then HB1.out h)
      have HBd : Hid (Below w1.heap.size w1 w1.drew) := (Below.refl _ _).drew
      clear hc hrng hord K1
      go_wp2_with fail
      refine wp_region_held_drew (S := (fun w' => Below w1.heap.size w1 w')) (by kernel_rfl) (HBd.out) (fun hHeld => ?_)
      refine wpAnyH_take (i := 0) (oi := { dst := some 19, op := Go.Op.load 24 (Go.Operand.tmp 1), type := 24, pos := "series.go:31", after := #[], guard := none }) (v := ?_) rfl (by kernel_rfl) (by kernel_rfl) (by kernel_rfl) (fun _ _ _ h => h) (Or.inl ⟨by rfl, ?hy⟩) (by assumption) ?_
      case hy => (intro w9 hSw; (try dsimp only at hSw); go_simp; try with_reducible rfl)
      try simp only [Act.put, List.setIfInBounds_toArray, List.set_cons_zero, List.set_cons_succ]
      refine wpAnyH_take (i := 2) (oi := { dst := some 21, op := Go.Op.fieldAddr 24 (Go.Operand.tmp 1) 0, type := 0, pos := "series.go:31", after := #[], guard := none }) (v := ?_) rfl (by kernel_rfl) (by kernel_rfl) (by kernel_rfl) (fun _ _ _ h => h) (Or.inl ⟨by rfl, ?hy⟩) (by assumption) ?_
      case hy => (intro w9 hSw; (try dsimp only at hSw); go_simp; try with_reducible rfl)
      try simp only [Act.put, List.setIfInBounds_toArray, List.set_cons_zero, List.set_cons_succ]
      refine wpAnyH_take (i := 3) (oi := { dst := some 22, op := Go.Op.load 3 (Go.Operand.tmp 21), type := 3, pos := "series.go:31", after := #[{ on := 2, ground := Go.Ground.data }], guard := none }) (v := ?_) rfl (by kernel_rfl) (by kernel_rfl) (by kernel_rfl) (fun _ _ _ h => h) (Or.inl ⟨by rfl, ?hy⟩) (by assumption) ?_
      case hy => (intro w9 hSw; (try dsimp only at hSw); go_simp; try with_reducible rfl)
      try simp only [Act.put, List.setIfInBounds_toArray, List.set_cons_zero, List.set_cons_succ]
      refine wpAnyH_ready (rs := [1, 9]) (by kernel_rfl) (by simp) ?_
      refine AllReadyH.cons (o := { dst := some 20, op := Go.Op.call { callee := Go.Callee.value (Go.Operand.func 28), args := #[Go.Operand.tmp 19], argTypes := #[24] }, type := 62, pos := "series.go:31", after := #[{ on := 0, ground := Go.Ground.data }], guard := none }) rfl (fun K hK => ?_) ?_
      · go_simp
        refine (linksOf_any a len cap f _ HCK.out (HRW.out _ (by assumption))).mono ?_
        rintro e w5 ⟨⟨b0, b1, b2, d0, d1, d2, rfl, q0, q1, q2⟩, hb5⟩
        refine hK.out _ _ ?_ (fun hHeld => ?_)
        · exact Below.then (by assumption) hb5
        clear hK K
        try simp only [Act.put, List.setIfInBounds_toArray, List.set_cons_zero, List.set_cons_succ]
        have HLk : Hid (Lks w5 (.agg #[.slice b0 len d0, .slice b1 len d1, .slice b2 len d2]) (nat f) len) := ⟨b0, b1, b2, d0, d1, d2, rfl, q0, q1, q2⟩
        clear q0 q1 q2
        refine wpAnyH_ready (rs := [4, 9]) (by kernel_rfl) (by simp) ?_
        refine AllReadyH.cons (o := { dst := some 23, op := Go.Op.call { callee := Go.Callee.value (Go.Operand.func 30), args := #[Go.Operand.tmp 22], argTypes := #[3] }, type := 3, pos := "series.go:31", after := #[{ on := 3, ground := Go.Ground.data }, { on := 1, ground := Go.Ground.chain }], guard := none }) rfl (fun K hK => ?_) ?_
        · go_simp
          refine (all_any len _ h10).mono ?_
          rintro e w' ⟨rfl, rfl⟩
          rw [← HAL.out]
          refine hK.out _ _ ?_ (fun hHeld => ?_)
          · assumption
          clear hK K
          try simp only [Act.put, List.setIfInBounds_toArray, List.set_cons_zero, List.set_cons_succ]
          refine wpAnyH_ready (rs := [5, 9]) (by kernel_rfl) (by simp) ?_
          refine AllReadyH.cons (o := { dst := some 24, op := Go.Op.call { callee := Go.Callee.value (Go.Operand.func 29), args := #[Go.Operand.tmp 20, Go.Operand.tmp 23], argTypes := #[62, 3] }, type := 59, pos := "series.go:31", after := #[{ on := 1, ground := Go.Ground.data }, { on := 4, ground := Go.Ground.data }, { on := 4, ground := Go.Ground.chain }], guard := none }) rfl (fun K hK => ?_) ?_
          · go_simp
            refine (split_top h10 HSM.out HOR.out (pw len - 1) HPL.out HP0.out _ _ (by first | exact HLk.out | exact HLk.out.step ((Below.refl _ _).alloc (Nat.le_refl _) _)) (HTB.out _ (by assumption))).mono ?_
            rintro e w6 ⟨⟨v, ok, rfl, hres⟩, hb6⟩
            obtain ⟨k', x', a', n', c', rfl⟩ := spAgg hres
            refine hK.out _ _ ?_ (fun hHeld => ?_)
            · exact Below.then (by assumption) hb6
            clear hK K
            try simp only [Act.put, List.setIfInBounds_toArray, List.set_cons_zero, List.set_cons_succ]
            skip
            refine wpAnyH_take (i := 6) (oi := { dst := some 18, op := Go.Op.move (Go.Operand.tmp 24), type := 59, pos := "series.go:31", after := #[{ on := 5, ground := Go.Ground.data }], guard := none }) (v := ?_) rfl (by kernel_rfl) (by kernel_rfl) (by kernel_rfl) (fun _ _ _ h => h) (Or.inl ⟨by rfl, ?hy⟩) (by assumption) ?_
            case hy => (intro w9 hSw; (try dsimp only at hSw); go_simp; try with_reducible rfl)
            try simp only [Act.put, List.setIfInBounds_toArray, List.set_cons_zero, List.set_cons_succ]
            refine wpAnyH_take (i := 7) (oi := { dst := some 25, op := Go.Op.extract (Go.Operand.tmp 18) 0, type := 32, pos := "series.go:31", after := #[{ on := 6, ground := Go.Ground.data }], guard := none }) (v := ?_) rfl (by kernel_rfl) (by kernel_rfl) (by kernel_rfl) (fun _ _ _ h => h) (Or.inl ⟨by rfl, ?hy⟩) (by assumption) ?_
            case hy => (intro w9 hSw; (try dsimp only at hSw); go_simp; try with_reducible rfl)
            try simp only [Act.put, List.setIfInBounds_toArray, List.set_cons_zero, List.set_cons_succ]
            refine wpAnyH_take (i := 8) (oi := { dst := some 26, op := Go.Op.extract (Go.Operand.tmp 18) 1, type := 4, pos := "series.go:31", after := #[{ on := 6, ground := Go.Ground.data }, { on := 10, ground := Go.Ground.gcOnly Go.Departure.lateStores }], guard := none }) (v := ?_) rfl (by kernel_rfl) (by kernel_rfl) (by kernel_rfl) (fun _ _ _ h => h) (Or.inl ⟨by rfl, ?hy⟩) (by assumption) ?_
            case hy => (intro w9 hSw; (try dsimp only at hSw); go_simp; try with_reducible rfl)
            try simp only [Act.put, List.setIfInBounds_toArray, List.set_cons_zero, List.set_cons_succ]
            refine wpAnyH_ready (rs := [9]) (by kernel_rfl) (by simp) ?_
            refine AllReadyH.cons (o := { dst := some 6, op := Go.Op.alloc 32, type := 0, pos := "series.go:31", after := #[], guard := none }) rfl (fun K hK => ?_) AllReadyH.nil
            go_simp
            skip
            refine hK.out _ _ ?_ (fun hHeld => ?_)
            · exact Below.alloc (by assumption) (Below.size (by assumption)) _
            clear hK K
            try simp only [Act.put, List.setIfInBounds_toArray, List.set_cons_zero, List.set_cons_succ]
            first | (have HZ : Hid (ZB (w5.alloc (.cells #[.int .i64 0, .int .i64 0, .slice none 0 0] 32)) w5.heap.size) := ZB.new w5) | (have HZ : Hid (ZB (w1.drew.alloc (.cells #[.int .i64 0, .int .i64 0, .slice none 0 0] 32)) w1.heap.size) := ZB.new w1.drew)
            refine wpAnyH_ready (rs := [10]) (by kernel_rfl) (by simp) ?_
            refine AllReadyH.cons (o := { dst := none, op := Go.Op.store 32 (Go.Operand.tmp 6) (Go.Operand.tmp 25), type := 0, pos := "series.go:31", after := #[{ on := 9, ground := Go.Ground.data }, { on := 7, ground := Go.Ground.data }, { on := 5, ground := Go.Ground.chain }, { on := 0, ground := Go.Ground.phase }, { on := 1, ground := Go.Ground.phase }, { on := 2, ground := Go.Ground.phase }, { on := 3, ground := Go.Ground.phase }, { on := 4, ground := Go.Ground.phase }, { on := 5, ground := Go.Ground.phase }, { on := 6, ground := Go.Ground.phase }, { on := 7, ground := Go.Ground.phase }, { on := 8, ground := Go.Ground.textOnly Go.Departure.lateStores }, { on := 9, ground := Go.Ground.phase }], guard := none }) rfl (fun K hK => ?_) AllReadyH.nil
            go_simp
            skip
            refine hK.out _ _ ?_ (fun hHeld => ?_)
            · (first | exact Below.alloc (by assumption) (Below.size (by assumption)) _ | exact below3 (by assumption) (Nat.le_refl _) | exact below3 (by assumption) (Below.size (by assumption)))
            clear hK K
            try simp only [Act.put, List.setIfInBounds_toArray, List.set_cons_zero, List.set_cons_succ]
            refine wpAnyH_take (i := 11) (oi := { dst := some 7, op := Go.Op.assign (Go.Operand.tmp 26), type := 4, pos := "series.go:31", after := #[{ on := 8, ground := Go.Ground.data }, { on := 10, ground := Go.Ground.chain }, { on := 0, ground := Go.Ground.phase }, { on := 1, ground := Go.Ground.phase }, { on := 2, ground := Go.Ground.phase }, { on := 3, ground := Go.Ground.phase }, { on := 4, ground := Go.Ground.phase }, { on := 5, ground := Go.Ground.phase }, { on := 6, ground := Go.Ground.phase }, { on := 7, ground := Go.Ground.phase }, { on := 8, ground := Go.Ground.phase }, { on := 9, ground := Go.Ground.phase }, { on := 10, ground := Go.Ground.phase }], guard := none }) (v := ?_) rfl (by kernel_rfl) (by kernel_rfl) (by kernel_rfl) (fun _ _ _ h => h) (Or.inl ⟨by rfl, ?hy⟩) (by assumption) ?_
            case hy => (intro w9 hSw; (try dsimp only at hSw); go_simp; try with_reducible rfl)
            try simp only [Act.put, List.setIfInBounds_toArray, List.set_cons_zero, List.set_cons_succ]
            refine wpAnyH_done (by kernel_rfl) ?_ _
            try simp only [Act.put, List.setIfInBounds_toArray, List.set_cons_zero, List.set_cons_succ]
            have y0 : (w6.alloc (.cells #[.int .i64 k', .int .i64 x', .slice a' n' c'] 32)).cell? ⟨w6.heap.size, 0, none⟩ = some (.int .i64 k') := by simp
            have y1 : (w6.alloc (.cells #[.int .i64 k', .int .i64 x', .slice a' n' c'] 32)).cell? ⟨w6.heap.size, 1, none⟩ = some (.int .i64 x') := by simp
            have y2 : (w6.alloc (.cells #[.int .i64 k', .int .i64 x', .slice a' n' c'] 32)).cell? ⟨w6.heap.size, 2, none⟩ = some (.slice a' n' c') := by simp
            have HQ : Hid (SpR2 (w.heap.size + 1 + 1) (nat f) len (w6.alloc (.cells #[.int .i64 k', .int .i64 x', .slice a' n' c'] 32)) (.agg #[.int .i64 k', .int .i64 x', .slice a' n' c']) ok) := (SpR2.low (Nat.le_trans HS1.out (Below.size (by assumption))) hres).step ((Below.refl _ _).alloc (Nat.le_refl _) _)
            have HHF : Hid (Below w1.heap.size w1 (w6.alloc (.cells #[.int .i64 k', .int .i64 x', .slice a' n' c'] 32))) := hHeld
            clear hres hHeld
            generalize w6.alloc (.cells #[.int .i64 k', .int .i64 x', .slice a' n' c'] 32) = wF at *
            have HBF : Hid (Below w.heap.size w wF) := Below.then HB1.out HHF.out
            obtain ⟨⟨r0, r1, r2⟩, f0, f1, f2⟩ := HX1.out _ HHF.out
            clear HHF
            go_wp2_with fail
            have S3 := set3 (.int .i64 k') (.int .i64 x') (.slice a' n' c') r0 r1 r2 _ rfl
            have HQ3 := SpR2.set (B := w.heap.size + 1) (by omega) (SpR2.set (B := w.heap.size + 1) (by omega) (SpR2.set (B := w.heap.size + 1) (by omega) HQ.out (u := 0) (z := .int .i64 k')) (u := 1) (z := .int .i64 x')) (u := 2) (z := .slice a' n' c')
            exact bodyPost_ret (res_splt _ 2 3 4 rfl _ _ _ _ _ _ _ _ _ _ rfl rfl rfl S3.1 S3.2.1 S3.2.2) rfl ⟨⟨0, _, _, HCK.out, rfl, .inr ⟨rfl, HQ3.fin (by omega) (by omega)⟩⟩, below3 HBF.out (by omega)⟩
          refine AllReadyH.cons (o := { dst := some 6, op := Go.Op.alloc 32, type := 0, pos := "series.go:31", after := #[], guard := none }) rfl (fun K hK => ?_) ?_
          · go_simp
            skip
            refine hK.out _ _ ?_ (fun hHeld => ?_)
            · exact Below.alloc (by assumption) (Below.size (by assumption)) _
            clear hK K
            try simp only [Act.put, List.setIfInBounds_toArray, List.set_cons_zero, List.set_cons_succ]
            first | (have HZ : Hid (ZB (w5.alloc (.cells #[.int .i64 0, .int .i64 0, .slice none 0 0] 32)) w5.heap.size) := ZB.new w5) | (have HZ : Hid (ZB (w1.drew.alloc (.cells #[.int .i64 0, .int .i64 0, .slice none 0 0] 32)) w1.heap.size) := ZB.new w1.drew)
            refine wpAnyH_ready (rs := [5]) (by kernel_rfl) (by simp) ?_
            refine AllReadyH.cons (o := { dst := some 24, op := Go.Op.call { callee := Go.Callee.value (Go.Operand.func 29), args := #[Go.Operand.tmp 20, Go.Operand.tmp 23], argTypes := #[62, 3] }, type := 59, pos := "series.go:31", after := #[{ on := 1, ground := Go.Ground.data }, { on := 4, ground := Go.Ground.data }, { on := 4, ground := Go.Ground.chain }], guard := none }) rfl (fun K hK => ?_) AllReadyH.nil
            go_simp
            refine (split_top h10 HSM.out HOR.out (pw len - 1) HPL.out HP0.out _ _ (by first | exact HLk.out | exact HLk.out.step ((Below.refl _ _).alloc (Nat.le_refl _) _)) (HTB.out _ (by assumption))).mono ?_
            rintro e w6 ⟨⟨v, ok, rfl, hres⟩, hb6⟩
            obtain ⟨k', x', a', n', c', rfl⟩ := spAgg hres
            refine hK.out _ _ ?_ (fun hHeld => ?_)
            · exact Below.then (by assumption) hb6
            clear hK K
            try simp only [Act.put, List.setIfInBounds_toArray, List.set_cons_zero, List.set_cons_succ]
            obtain ⟨⟨z0, z1, z2⟩, g0, g1, g2⟩ := HZ.out.step hb6
            refine wpAnyH_take (i := 6) (oi := { dst := some 18, op := Go.Op.move (Go.Operand.tmp 24), type := 59, pos := "series.go:31", after := #[{ on := 5, ground := Go.Ground.data }], guard := none }) (v := ?_) rfl (by kernel_rfl) (by kernel_rfl) (by kernel_rfl) (fun _ _ _ h => h) (Or.inl ⟨by rfl, ?hy⟩) (by assumption) ?_
            case hy => (intro w9 hSw; (try dsimp only at hSw); go_simp; try with_reducible rfl)
            try simp only [Act.put, List.setIfInBounds_toArray, List.set_cons_zero, List.set_cons_succ]
            refine wpAnyH_take (i := 7) (oi := { dst := some 25, op := Go.Op.extract (Go.Operand.tmp 18) 0, type := 32, pos := "series.go:31", after := #[{ on := 6, ground := Go.Ground.data }], guard := none }) (v := ?_) rfl (by kernel_rfl) (by kernel_rfl) (by kernel_rfl) (fun _ _ _ h => h) (Or.inl ⟨by rfl, ?hy⟩) (by assumption) ?_
            case hy => (intro w9 hSw; (try dsimp only at hSw); go_simp; try with_reducible rfl)
            try simp only [Act.put, List.setIfInBounds_toArray, List.set_cons_zero, List.set_cons_succ]
            refine wpAnyH_take (i := 8) (oi := { dst := some 26, op := Go.Op.extract (Go.Operand.tmp 18) 1, type := 4, pos := "series.go:31", after := #[{ on := 6, ground := Go.Ground.data }, { on := 10, ground := Go.Ground.gcOnly Go.Departure.lateStores }], guard := none }) (v := ?_) rfl (by kernel_rfl) (by kernel_rfl) (by kernel_rfl) (fun _ _ _ h => h) (Or.inl ⟨by rfl, ?hy⟩) (by assumption) ?_
            case hy => (intro w9 hSw; (try dsimp only at hSw); go_simp; try with_reducible rfl)
            try simp only [Act.put, List.setIfInBounds_toArray, List.set_cons_zero, List.set_cons_succ]
            refine wpAnyH_ready (rs := [10]) (by kernel_rfl) (by simp) ?_
            refine AllReadyH.cons (o := { dst := none, op := Go.Op.store 32 (Go.Operand.tmp 6) (Go.Operand.tmp 25), type := 0, pos := "series.go:31", after := #[{ on := 9, ground := Go.Ground.data }, { on := 7, ground := Go.Ground.data }, { on := 5, ground := Go.Ground.chain }, { on := 0, ground := Go.Ground.phase }, { on := 1, ground := Go.Ground.phase }, { on := 2, ground := Go.Ground.phase }, { on := 3, ground := Go.Ground.phase }, { on := 4, ground := Go.Ground.phase }, { on := 5, ground := Go.Ground.phase }, { on := 6, ground := Go.Ground.phase }, { on := 7, ground := Go.Ground.phase }, { on := 8, ground := Go.Ground.textOnly Go.Departure.lateStores }, { on := 9, ground := Go.Ground.phase }], guard := none }) rfl (fun K hK => ?_) AllReadyH.nil
            go_simp
            skip
            refine hK.out _ _ ?_ (fun hHeld => ?_)
            · (first | exact Below.alloc (by assumption) (Below.size (by assumption)) _ | exact below3 (by assumption) (Nat.le_refl _) | exact below3 (by assumption) (Below.size (by assumption)))
            clear hK K
            try simp only [Act.put, List.setIfInBounds_toArray, List.set_cons_zero, List.set_cons_succ]
            refine wpAnyH_take (i := 11) (oi := { dst := some 7, op := Go.Op.assign (Go.Operand.tmp 26), type := 4, pos := "series.go:31", after := #[{ on := 8, ground := Go.Ground.data }, { on := 10, ground := Go.Ground.chain }, { on := 0, ground := Go.Ground.phase }, { on := 1, ground := Go.Ground.phase }, { on := 2, ground := Go.Ground.phase }, { on := 3, ground := Go.Ground.phase }, { on := 4, ground := Go.Ground.phase }, { on := 5, ground := Go.Ground.phase }, { on := 6, ground := Go.Ground.phase }, { on := 7, ground := Go.Ground.phase }, { on := 8, ground := Go.Ground.phase }, { on := 9, ground := Go.Ground.phase }, { on := 10, ground := Go.Ground.phase }], guard := none }) (v := ?_) rfl (by kernel_rfl) (by kernel_rfl) (by kernel_rfl) (fun _ _ _ h => h) (Or.inl ⟨by rfl, ?hy⟩) (by assumption) ?_
            case hy => (intro w9 hSw; (try dsimp only at hSw); go_simp; try with_reducible rfl)
            try simp only [Act.put, List.setIfInBounds_toArray, List.set_cons_zero, List.set_cons_succ]
            refine wpAnyH_done (by kernel_rfl) ?_ _
            try simp only [Act.put, List.setIfInBounds_toArray, List.set_cons_zero, List.set_cons_succ]
            have S6 := set3 (.int .i64 k') (.int .i64 x') (.slice a' n' c') z0 z1 z2 _ rfl
            obtain ⟨y0, y1, y2⟩ := S6
            have HBB := (show w5.heap.size < (w5.alloc (.cells #[.int .i64 0, .int .i64 0, .slice none 0 0] 32)).heap.size by simp)
            have HQ : Hid (SpR2 (w.heap.size + 1 + 1) (nat f) len (((w6.setCell ⟨w5.heap.size, 0, none⟩ (.int .i64 k')).setCell ⟨w5.heap.size, 1, none⟩ (.int .i64 x')).setCell ⟨w5.heap.size, 2, none⟩ (.slice a' n' c')) (.agg #[.int .i64 k', .int .i64 x', .slice a' n' c']) ok) := SpR2.low (Nat.le_trans HS1.out (Below.size (by assumption))) (SpR2.set HBB (SpR2.set HBB (SpR2.set HBB hres (u := 0) (z := .int .i64 k')) (u := 1) (z := .int .i64 x')) (u := 2) (z := .slice a' n' c'))
            have HHF : Hid (Below w1.heap.size w1 (((w6.setCell ⟨w5.heap.size, 0, none⟩ (.int .i64 k')).setCell ⟨w5.heap.size, 1, none⟩ (.int .i64 x')).setCell ⟨w5.heap.size, 2, none⟩ (.slice a' n' c'))) := hHeld
            clear hres hHeld z0 z1 z2 g0 g1 g2 HBB
            generalize (((w6.setCell ⟨w5.heap.size, 0, none⟩ (.int .i64 k')).setCell ⟨w5.heap.size, 1, none⟩ (.int .i64 x')).setCell ⟨w5.heap.size, 2, none⟩ (.slice a' n' c')) = wF at *
            have HBF : Hid (Below w.heap.size w wF) := Below.then HB1.out HHF.out
            obtain ⟨⟨r0, r1, r2⟩, f0, f1, f2⟩ := HX1.out _ HHF.out
            clear HHF
            go_wp2_with fail
            have S3 := set3 (.int .i64 k') (.int .i64 x') (.slice a' n' c') r0 r1 r2 _ rfl
            have HQ3 := SpR2.set (B := w.heap.size + 1) (by omega) (SpR2.set (B := w.heap.size + 1) (by omega) (SpR2.set (B := w.heap.size + 1) (by omega) HQ.out (u := 0) (z := .int .i64 k')) (u := 1) (z := .int .i64 x')) (u := 2) (z := .slice a' n' c')
            exact bodyPost_ret (res_splt _ 2 3 4 rfl _ _ _ _ _ _ _ _ _ _ rfl rfl rfl S3.1 S3.2.1 S3.2.2) rfl ⟨⟨0, _, _, HCK.out, rfl, .inr ⟨rfl, HQ3.fin (by omega) (by omega)⟩⟩, below3 HBF.out (by omega)⟩
          exact AllReadyH.nil
        refine AllReadyH.cons (o := { dst := some 6, op := Go.Op.alloc 32, type := 0, pos := "series.go:31", after := #[], guard := none }) rfl (fun K hK => ?_) ?_
        · go_simp
          skip
          refine hK.out _ _ ?_ (fun hHeld => ?_)
          · exact Below.alloc (by assumption) (Below.size (by assumption)) _
          clear hK K
          try simp only [Act.put, List.setIfInBounds_toArray, List.set_cons_zero, List.set_cons_succ]
          first | (have HZ : Hid (ZB (w5.alloc (.cells #[.int .i64 0, .int .i64 0, .slice none 0 0] 32)) w5.heap.size) := ZB.new w5) | (have HZ : Hid (ZB (w1.drew.alloc (.cells #[.int .i64 0, .int .i64 0, .slice none 0 0] 32)) w1.heap.size) := ZB.new w1.drew)
          refine wpAnyH_ready (rs := [4]) (by kernel_rfl) (by simp) ?_
          refine AllReadyH.cons (o := { dst := some 23, op := Go.Op.call { callee := Go.Callee.value (Go.Operand.func 30), args := #[Go.Operand.tmp 22], argTypes := #[3] }, type := 3, pos := "series.go:31", after := #[{ on := 3, ground := Go.Ground.data }, { on := 1, ground := Go.Ground.chain }], guard := none }) rfl (fun K hK => ?_) AllReadyH.nil
          go_simp
          refine (all_any len _ h10).mono ?_
          rintro e w' ⟨rfl, rfl⟩
          rw [← HAL.out]
          refine hK.out _ _ ?_ (fun hHeld => ?_)
          · assumption
          clear hK K
          try simp only [Act.put, List.setIfInBounds_toArray, List.set_cons_zero, List.set_cons_succ]
          refine wpAnyH_ready (rs := [5]) (by kernel_rfl) (by simp) ?_
          refine AllReadyH.cons (o := { dst := some 24, op := Go.Op.call { callee := Go.Callee.value (Go.Operand.func 29), args := #[Go.Operand.tmp 20, Go.Operand.tmp 23], argTypes := #[62, 3] }, type := 59, pos := "series.go:31", after := #[{ on := 1, ground := Go.Ground.data }, { on := 4, ground := Go.Ground.data }, { on := 4, ground := Go.Ground.chain }], guard := none }) rfl (fun K hK => ?_) AllReadyH.nil
          go_simp
          refine (split_top h10 HSM.out HOR.out (pw len - 1) HPL.out HP0.out _ _ (by first | exact HLk.out | exact HLk.out.step ((Below.refl _ _).alloc (Nat.le_refl _) _)) (HTB.out _ (by assumption))).mono ?_
          rintro e w6 ⟨⟨v, ok, rfl, hres⟩, hb6⟩
          obtain ⟨k', x', a', n', c', rfl⟩ := spAgg hres
          refine hK.out _ _ ?_ (fun hHeld => ?_)
          · exact Below.then (by assumption) hb6
          clear hK K
          try simp only [Act.put, List.setIfInBounds_toArray, List.set_cons_zero, List.set_cons_succ]
          obtain ⟨⟨z0, z1, z2⟩, g0, g1, g2⟩ := HZ.out.step hb6
          refine wpAnyH_take (i := 6) (oi := { dst := some 18, op := Go.Op.move (Go.Operand.tmp 24), type := 59, pos := "series.go:31", after := #[{ on := 5, ground := Go.Ground.data }], guard := none }) (v := ?_) rfl (by kernel_rfl) (by kernel_rfl) (by kernel_rfl) (fun _ _ _ h => h) (Or.inl ⟨by rfl, ?hy⟩) (by assumption) ?_
          case hy => (intro w9 hSw; (try dsimp only at hSw); go_simp; try with_reducible rfl)
          try simp only [Act.put, List.setIfInBounds_toArray, List.set_cons_zero, List.set_cons_succ]
          refine wpAnyH_take (i := 7) (oi := { dst := some 25, op := Go.Op.extract (Go.Operand.tmp 18) 0, type := 32, pos := "series.go:31", after := #[{ on := 6, ground := Go.Ground.data }], guard := none }) (v := ?_) rfl (by kernel_rfl) (by kernel_rfl) (by kernel_rfl) (fun _ _ _ h => h) (Or.inl ⟨by rfl, ?hy⟩) (by assumption) ?_
          case hy => (intro w9 hSw; (try dsimp only at hSw); go_simp; try with_reducible rfl)
          try simp only [Act.put, List.setIfInBounds_toArray, List.set_cons_zero, List.set_cons_succ]
          refine wpAnyH_take (i := 8) (oi := { dst := some 26, op := Go.Op.extract (Go.Operand.tmp 18) 1, type := 4, pos := "series.go:31", after := #[{ on := 6, ground := Go.Ground.data }, { on := 10, ground := Go.Ground.gcOnly Go.Departure.lateStores }], guard := none }) (v := ?_) rfl (by kernel_rfl) (by kernel_rfl) (by kernel_rfl) (fun _ _ _ h => h) (Or.inl ⟨by rfl, ?hy⟩) (by assumption) ?_
          case hy => (intro w9 hSw; (try dsimp only at hSw); go_simp; try with_reducible rfl)
          try simp only [Act.put, List.setIfInBounds_toArray, List.set_cons_zero, List.set_cons_succ]
          refine wpAnyH_ready (rs := [10]) (by kernel_rfl) (by simp) ?_
          refine AllReadyH.cons (o := { dst := none, op := Go.Op.store 32 (Go.Operand.tmp 6) (Go.Operand.tmp 25), type := 0, pos := "series.go:31", after := #[{ on := 9, ground := Go.Ground.data }, { on := 7, ground := Go.Ground.data }, { on := 5, ground := Go.Ground.chain }, { on := 0, ground := Go.Ground.phase }, { on := 1, ground := Go.Ground.phase }, { on := 2, ground := Go.Ground.phase }, { on := 3, ground := Go.Ground.phase }, { on := 4, ground := Go.Ground.phase }, { on := 5, ground := Go.Ground.phase }, { on := 6, ground := Go.Ground.phase }, { on := 7, ground := Go.Ground.phase }, { on := 8, ground := Go.Ground.textOnly Go.Departure.lateStores }, { on := 9, ground := Go.Ground.phase }], guard := none }) rfl (fun K hK => ?_) AllReadyH.nil
          go_simp
          skip
          refine hK.out _ _ ?_ (fun hHeld => ?_)
          · (first | exact Below.alloc (by assumption) (Below.size (by assumption)) _ | exact below3 (by assumption) (Nat.le_refl _) | exact below3 (by assumption) (Below.size (by assumption)))
          clear hK K
          try simp only [Act.put, List.setIfInBounds_toArray, List.set_cons_zero, List.set_cons_succ]
          refine wpAnyH_take (i := 11) (oi := { dst := some 7, op := Go.Op.assign (Go.Operand.tmp 26), type := 4, pos := "series.go:31", after := #[{ on := 8, ground := Go.Ground.data }, { on := 10, ground := Go.Ground.chain }, { on := 0, ground := Go.Ground.phase }, { on := 1, ground := Go.Ground.phase }, { on := 2, ground := Go.Ground.phase }, { on := 3, ground := Go.Ground.phase }, { on := 4, ground := Go.Ground.phase }, { on := 5, ground := Go.Ground.phase }, { on := 6, ground := Go.Ground.phase }, { on := 7, ground := Go.Ground.phase }, { on := 8, ground := Go.Ground.phase }, { on := 9, ground := Go.Ground.phase }, { on := 10, ground := Go.Ground.phase }], guard := none }) (v := ?_) rfl (by kernel_rfl) (by kernel_rfl) (by kernel_rfl) (fun _ _ _ h => h) (Or.inl ⟨by rfl, ?hy⟩) (by assumption) ?_
          case hy => (intro w9 hSw; (try dsimp only at hSw); go_simp; try with_reducible rfl)
          try simp only [Act.put, List.setIfInBounds_toArray, List.set_cons_zero, List.set_cons_succ]
          refine wpAnyH_done (by kernel_rfl) ?_ _
          try simp only [Act.put, List.setIfInBounds_toArray, List.set_cons_zero, List.set_cons_succ]
          have S6 := set3 (.int .i64 k') (.int .i64 x') (.slice a' n' c') z0 z1 z2 _ rfl
          obtain ⟨y0, y1, y2⟩ := S6
          have HBB := (show w5.heap.size < (w5.alloc (.cells #[.int .i64 0, .int .i64 0, .slice none 0 0] 32)).heap.size by simp)
          have HQ : Hid (SpR2 (w.heap.size + 1 + 1) (nat f) len (((w6.setCell ⟨w5.heap.size, 0, none⟩ (.int .i64 k')).setCell ⟨w5.heap.size, 1, none⟩ (.int .i64 x')).setCell ⟨w5.heap.size, 2, none⟩ (.slice a' n' c')) (.agg #[.int .i64 k', .int .i64 x', .slice a' n' c']) ok) := SpR2.low (Nat.le_trans HS1.out (Below.size (by assumption))) (SpR2.set HBB (SpR2.set HBB (SpR2.set HBB hres (u := 0) (z := .int .i64 k')) (u := 1) (z := .int .i64 x')) (u := 2) (z := .slice a' n' c'))
          have HHF : Hid (Below w1.heap.size w1 (((w6.setCell ⟨w5.heap.size, 0, none⟩ (.int .i64 k')).setCell ⟨w5.heap.size, 1, none⟩ (.int .i64 x')).setCell ⟨w5.heap.size, 2, none⟩ (.slice a' n' c'))) := hHeld
          clear hres hHeld z0 z1 z2 g0 g1 g2 HBB
          generalize (((w6.setCell ⟨w5.heap.size, 0, none⟩ (.int .i64 k')).setCell ⟨w5.heap.size, 1, none⟩ (.int .i64 x')).setCell ⟨w5.heap.size, 2, none⟩ (.slice a' n' c')) = wF at *
          have HBF : Hid (Below w.heap.size w wF) := Below.then HB1.out HHF.out
          obtain ⟨⟨r0, r1, r2⟩, f0, f1, f2⟩ := HX1.out _ HHF.out
          clear HHF
          go_wp2_with fail
          have S3 := set3 (.int .i64 k') (.int .i64 x') (.slice a' n' c') r0 r1 r2 _ rfl
          have HQ3 := SpR2.set (B := w.heap.size + 1) (by omega) (SpR2.set (B := w.heap.size + 1) (by omega) (SpR2.set (B := w.heap.size + 1) (by omega) HQ.out (u := 0) (z := .int .i64 k')) (u := 1) (z := .int .i64 x')) (u := 2) (z := .slice a' n' c')
          exact bodyPost_ret (res_splt _ 2 3 4 rfl _ _ _ _ _ _ _ _ _ _ rfl rfl rfl S3.1 S3.2.1 S3.2.2) rfl ⟨⟨0, _, _, HCK.out, rfl, .inr ⟨rfl, HQ3.fin (by omega) (by omega)⟩⟩, below3 HBF.out (by omega)⟩
        exact AllReadyH.nil
      refine AllReadyH.cons (o := { dst := some 6, op := Go.Op.alloc 32, type := 0, pos := "series.go:31", after := #[], guard := none }) rfl (fun K hK => ?_) ?_
      · go_simp
        skip
        refine hK.out _ _ ?_ (fun hHeld => ?_)
        · exact Below.alloc (by assumption) (Below.size (by assumption)) _
        clear hK K
        try simp only [Act.put, List.setIfInBounds_toArray, List.set_cons_zero, List.set_cons_succ]
        first | (have HZ : Hid (ZB (w5.alloc (.cells #[.int .i64 0, .int .i64 0, .slice none 0 0] 32)) w5.heap.size) := ZB.new w5) | (have HZ : Hid (ZB (w1.drew.alloc (.cells #[.int .i64 0, .int .i64 0, .slice none 0 0] 32)) w1.heap.size) := ZB.new w1.drew)
        refine wpAnyH_ready (rs := [1]) (by kernel_rfl) (by simp) ?_
        refine AllReadyH.cons (o := { dst := some 20, op := Go.Op.call { callee := Go.Callee.value (Go.Operand.func 28), args := #[Go.Operand.tmp 19], argTypes := #[24] }, type := 62, pos := "series.go:31", after := #[{ on := 0, ground := Go.Ground.data }], guard := none }) rfl (fun K hK => ?_) AllReadyH.nil
        go_simp
        refine (linksOf_any a len cap f _ HCK.out (HRW.out _ (by assumption))).mono ?_
        rintro e w5 ⟨⟨b0, b1, b2, d0, d1, d2, rfl, q0, q1, q2⟩, hb5⟩
        refine hK.out _ _ ?_ (fun hHeld => ?_)
        · exact Below.then (by assumption) hb5
        clear hK K
        try simp only [Act.put, List.setIfInBounds_toArray, List.set_cons_zero, List.set_cons_succ]
        have HLk : Hid (Lks w5 (.agg #[.slice b0 len d0, .slice b1 len d1, .slice b2 len d2]) (nat f) len) := ⟨b0, b1, b2, d0, d1, d2, rfl, q0, q1, q2⟩
        clear q0 q1 q2
        refine wpAnyH_ready (rs := [4]) (by kernel_rfl) (by simp) ?_
        refine AllReadyH.cons (o := { dst := some 23, op := Go.Op.call { callee := Go.Callee.value (Go.Operand.func 30), args := #[Go.Operand.tmp 22], argTypes := #[3] }, type := 3, pos := "series.go:31", after := #[{ on := 3, ground := Go.Ground.data }, { on := 1, ground := Go.Ground.chain }], guard := none }) rfl (fun K hK => ?_) AllReadyH.nil
        go_simp
        refine (all_any len _ h10).mono ?_
        rintro e w' ⟨rfl, rfl⟩
        rw [← HAL.out]
        refine hK.out _ _ ?_ (fun hHeld => ?_)
        · assumption
        clear hK K
        try simp only [Act.put, List.setIfInBounds_toArray, List.set_cons_zero, List.set_cons_succ]
        refine wpAnyH_ready (rs := [5]) (by kernel_rfl) (by simp) ?_
        refine AllReadyH.cons (o := { dst := some 24, op := Go.Op.call { callee := Go.Callee.value (Go.Operand.func 29), args := #[Go.Operand.tmp 20, Go.Operand.tmp 23], argTypes := #[62, 3] }, type := 59, pos := "series.go:31", after := #[{ on := 1, ground := Go.Ground.data }, { on := 4, ground := Go.Ground.data }, { on := 4, ground := Go.Ground.chain }], guard := none }) rfl (fun K hK => ?_) AllReadyH.nil
        go_simp
        refine (split_top h10 HSM.out HOR.out (pw len - 1) HPL.out HP0.out _ _ (by first | exact HLk.out | exact HLk.out.step ((Below.refl _ _).alloc (Nat.le_refl _) _)) (HTB.out _ (by assumption))).mono ?_
        rintro e w6 ⟨⟨v, ok, rfl, hres⟩, hb6⟩
        obtain ⟨k', x', a', n', c', rfl⟩ := spAgg hres
        refine hK.out _ _ ?_ (fun hHeld => ?_)
        · exact Below.then (by assumption) hb6
        clear hK K
        try simp only [Act.put, List.setIfInBounds_toArray, List.set_cons_zero, List.set_cons_succ]
        obtain ⟨⟨z0, z1, z2⟩, g0, g1, g2⟩ := (HZ.out.step hb5).step hb6
        refine wpAnyH_take (i := 6) (oi := { dst := some 18, op := Go.Op.move (Go.Operand.tmp 24), type := 59, pos := "series.go:31", after := #[{ on := 5, ground := Go.Ground.data }], guard := none }) (v := ?_) rfl (by kernel_rfl) (by kernel_rfl) (by kernel_rfl) (fun _ _ _ h => h) (Or.inl ⟨by rfl, ?hy⟩) (by assumption) ?_
        case hy => (intro w9 hSw; (try dsimp only at hSw); go_simp; try with_reducible rfl)
        try simp only [Act.put, List.setIfInBounds_toArray, List.set_cons_zero, List.set_cons_succ]
        refine wpAnyH_take (i := 7) (oi := { dst := some 25, op := Go.Op.extract (Go.Operand.tmp 18) 0, type := 32, pos := "series.go:31", after := #[{ on := 6, ground := Go.Ground.data }], guard := none }) (v := ?_) rfl (by kernel_rfl) (by kernel_rfl) (by kernel_rfl) (fun _ _ _ h => h) (Or.inl ⟨by rfl, ?hy⟩) (by assumption) ?_
        case hy => (intro w9 hSw; (try dsimp only at hSw); go_simp; try with_reducible rfl)
        try simp only [Act.put, List.setIfInBounds_toArray, List.set_cons_zero, List.set_cons_succ]
        refine wpAnyH_take (i := 8) (oi := { dst := some 26, op := Go.Op.extract (Go.Operand.tmp 18) 1, type := 4, pos := "series.go:31", after := #[{ on := 6, ground := Go.Ground.data }, { on := 10, ground := Go.Ground.gcOnly Go.Departure.lateStores }], guard := none }) (v := ?_) rfl (by kernel_rfl) (by kernel_rfl) (by kernel_rfl) (fun _ _ _ h => h) (Or.inl ⟨by rfl, ?hy⟩) (by assumption) ?_
        case hy => (intro w9 hSw; (try dsimp only at hSw); go_simp; try with_reducible rfl)
        try simp only [Act.put, List.setIfInBounds_toArray, List.set_cons_zero, List.set_cons_succ]
        refine wpAnyH_ready (rs := [10]) (by kernel_rfl) (by simp) ?_
        refine AllReadyH.cons (o := { dst := none, op := Go.Op.store 32 (Go.Operand.tmp 6) (Go.Operand.tmp 25), type := 0, pos := "series.go:31", after := #[{ on := 9, ground := Go.Ground.data }, { on := 7, ground := Go.Ground.data }, { on := 5, ground := Go.Ground.chain }, { on := 0, ground := Go.Ground.phase }, { on := 1, ground := Go.Ground.phase }, { on := 2, ground := Go.Ground.phase }, { on := 3, ground := Go.Ground.phase }, { on := 4, ground := Go.Ground.phase }, { on := 5, ground := Go.Ground.phase }, { on := 6, ground := Go.Ground.phase }, { on := 7, ground := Go.Ground.phase }, { on := 8, ground := Go.Ground.textOnly Go.Departure.lateStores }, { on := 9, ground := Go.Ground.phase }], guard := none }) rfl (fun K hK => ?_) AllReadyH.nil
        go_simp
        skip
        refine hK.out _ _ ?_ (fun hHeld => ?_)
        · (first | exact Below.alloc (by assumption) (Below.size (by assumption)) _ | exact below3 (by assumption) (Nat.le_refl _) | exact below3 (by assumption) (Below.size (by assumption)))
        clear hK K
        try simp only [Act.put, List.setIfInBounds_toArray, List.set_cons_zero, List.set_cons_succ]
        refine wpAnyH_take (i := 11) (oi := { dst := some 7, op := Go.Op.assign (Go.Operand.tmp 26), type := 4, pos := "series.go:31", after := #[{ on := 8, ground := Go.Ground.data }, { on := 10, ground := Go.Ground.chain }, { on := 0, ground := Go.Ground.phase }, { on := 1, ground := Go.Ground.phase }, { on := 2, ground := Go.Ground.phase }, { on := 3, ground := Go.Ground.phase }, { on := 4, ground := Go.Ground.phase }, { on := 5, ground := Go.Ground.phase }, { on := 6, ground := Go.Ground.phase }, { on := 7, ground := Go.Ground.phase }, { on := 8, ground := Go.Ground.phase }, { on := 9, ground := Go.Ground.phase }, { on := 10, ground := Go.Ground.phase }], guard := none }) (v := ?_) rfl (by kernel_rfl) (by kernel_rfl) (by kernel_rfl) (fun _ _ _ h => h) (Or.inl ⟨by rfl, ?hy⟩) (by assumption) ?_
        case hy => (intro w9 hSw; (try dsimp only at hSw); go_simp; try with_reducible rfl)
        try simp only [Act.put, List.setIfInBounds_toArray, List.set_cons_zero, List.set_cons_succ]
        refine wpAnyH_done (by kernel_rfl) ?_ _
        try simp only [Act.put, List.setIfInBounds_toArray, List.set_cons_zero, List.set_cons_succ]
        have S6 := set3 (.int .i64 k') (.int .i64 x') (.slice a' n' c') z0 z1 z2 _ rfl
        obtain ⟨y0, y1, y2⟩ := S6
        have HBB := (show w1.heap.size < w5.heap.size from World.block_lt_of_cell? _ _ (HZ.out.step hb5).1.1)
        have HQ : Hid (SpR2 (w.heap.size + 1 + 1) (nat f) len (((w6.setCell ⟨w1.heap.size, 0, none⟩ (.int .i64 k')).setCell ⟨w1.heap.size, 1, none⟩ (.int .i64 x')).setCell ⟨w1.heap.size, 2, none⟩ (.slice a' n' c')) (.agg #[.int .i64 k', .int .i64 x', .slice a' n' c']) ok) := SpR2.low (Nat.le_trans HS1.out (Below.size (by assumption))) (SpR2.set HBB (SpR2.set HBB (SpR2.set HBB hres (u := 0) (z := .int .i64 k')) (u := 1) (z := .int .i64 x')) (u := 2) (z := .slice a' n' c'))
        have HHF : Hid (Below w1.heap.size w1 (((w6.setCell ⟨w1.heap.size, 0, none⟩ (.int .i64 k')).setCell ⟨w1.heap.size, 1, none⟩ (.int .i64 x')).setCell ⟨w1.heap.size, 2, none⟩ (.slice a' n' c'))) := hHeld
        clear hres hHeld z0 z1 z2 g0 g1 g2 HBB
        generalize (((w6.setCell ⟨w1.heap.size, 0, none⟩ (.int .i64 k')).setCell ⟨w1.heap.size, 1, none⟩ (.int .i64 x')).setCell ⟨w1.heap.size, 2, none⟩ (.slice a' n' c')) = wF at *
        have HBF : Hid (Below w.heap.size w wF) := Below.then HB1.out HHF.out
        obtain ⟨⟨r0, r1, r2⟩, f0, f1, f2⟩ := HX1.out _ HHF.out
        clear HHF
        go_wp2_with fail
        have S3 := set3 (.int .i64 k') (.int .i64 x') (.slice a' n' c') r0 r1 r2 _ rfl
        have HQ3 := SpR2.set (B := w.heap.size + 1) (by omega) (SpR2.set (B := w.heap.size + 1) (by omega) (SpR2.set (B := w.heap.size + 1) (by omega) HQ.out (u := 0) (z := .int .i64 k')) (u := 1) (z := .int .i64 x')) (u := 2) (z := .slice a' n' c')
        exact bodyPost_ret (res_splt _ 2 3 4 rfl _ _ _ _ _ _ _ _ _ _ rfl rfl rfl S3.1 S3.2.1 S3.2.2) rfl ⟨⟨0, _, _, HCK.out, rfl, .inr ⟨rfl, HQ3.fin (by omega) (by omega)⟩⟩, below3 HBF.out (by omega)⟩
      exact AllReadyH.nil
  · have hne : (c != 0) = true := by simpa using h0
    have HC : Hid (Chk n len f c) := hc
    obtain ⟨⟨r0, r1, r2⟩, f0, f1, f2⟩ := HX1.out _ (Below.refl _ _)
    clear hc K1
    go_wp2_with fail
    have S3 := set3 (.int .i64 0) (.int .i64 0) (.slice none 0 0) r0 r1 r2 _ rfl
    exact bodyPost_ret (res_splt _ 2 3 4 rfl _ _ _ _ _ _ _ _ _ _ rfl rfl rfl S3.1 S3.2.1 S3.2.2) rfl ⟨⟨c, _, _, HC.out, rfl, .inl ⟨h0, rfl, rfl⟩⟩, below3 HB1.out (by omega)⟩
end Go.Proofs.YtglkjeidkjkdaaaDoor
