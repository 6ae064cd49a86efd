/-
  The law ScalesMore. Condition: a slice reads as a slice of numbers.
-/
import Derived.Test.YtipgojoiakbaiaaWoMp
import Derived.Test.YtipgojoiakbaiaaWoG
import Derived.Test.YtipgojoiakbaiaaChoose
import Derived.Deep.Cut
namespace Go.Proofs.Ytipgojoiakbaiaa
open Go.RowKit
set_option maxRecDepth 100000

/-- What came of Make, of which the row lies from B0 on. -/
def MF (n : Nat) (g : Nat → Nat) (A B B0 : Nat) (w' : World) (i : Int) (a' : Option Addr) (l' : Nat) (c : Int) : Prop :=
  (c = 4 ∧ (A = B ∨ (g A).testBit B = true)) ∨ (c = 0 ∧ A ≠ B ∧ (g A).testBit B = false ∧ i = (n : Int) ∧ l' = n ∧ Row w' a' n (fun k => (wth g A B k : Nat)) ∧ ∃ b, a' = some ⟨b, 0, none⟩ ∧ B0 ≤ b ∧ b < w'.heap.size)
theorem mf_hid {n : Nat} {g : Nat → Nat} {A B B0 : Nat} {w' : World} {i : Int} {a' : Option Addr} {l' : Nat} {c : Int} (h : (c = 4 ∧ (A = B ∨ (g A).testBit B = true)) ∨ (c = 0 ∧ A ≠ B ∧ (g A).testBit B = false ∧ i = (n : Int) ∧ l' = n ∧ Row w' a' n (fun k => (wth g A B k : Nat)) ∧ ∃ b, a' = some ⟨b, 0, none⟩ ∧ B0 ≤ b ∧ b < w'.heap.size)) : Hid (MF n g A B B0 w' i a' l' c) := h
/-- The row does not lie in the box. -/
def NE (c : Int) (a' : Option Addr) (zb : Nat) : Prop := c = 0 → ∀ b off, a' = some ⟨b, off, none⟩ → b ≠ zb
theorem ne_before {n : Nat} {g : Nat → Nat} {A B : Nat} {X w' : World} {i : Int} {a' : Option Addr} {l' : Nat} {c : Int} {zb : Nat} (h : MF n g A B X.heap.size w' i a' l' c) (z : Hid (ZBx X zb)) : Hid (NE c a' zb) := by
  rintro rfl b off rfl
  rcases h with ⟨h, _⟩ | ⟨_, _, _, _, _, _, b', e, h1, _⟩
  · cases h
  · simp at e
    have := z.out.lt
    omega
theorem ne_after {n : Nat} {g : Nat → Nat} {A B B0 : Nat} {w' : World} {i : Int} {a' : Option Addr} {l' : Nat} {c : Int} (h : MF n g A B B0 w' i a' l' c) : Hid (NE c a' w'.heap.size) := by
  rintro rfl b off rfl
  rcases h with ⟨h, _⟩ | ⟨_, _, _, _, _, _, b', e, _, h1⟩
  · cases h
  · simp at e
    omega
theorem mf_al {n : Nat} {g : Nat → Nat} {A B B0 : Nat} {X wa : World} {o : Obj} {i : Int} {a' : Option Addr} {l' : Nat} {c : Int} (h : Hid (MF n g A B B0 X i a' l' c)) (e : X.alloc o = wa) : Hid (MF n g A B B0 wa i a' l' c) := by
  rw [← e]
  have hb : Below X.heap.size X (X.alloc o) := (Below.refl _ _).alloc (Nat.le_refl _) _
  rcases h.out with h | ⟨h1, h2, h3, h4, h5, h6, b, h7, h8, h9⟩
  · exact .inl h
  · exact .inr ⟨h1, h2, h3, h4, h5, h6.below hb, b, h7, h8, Nat.lt_of_lt_of_le h9 hb.size⟩
/-- What lies behind the region. -/
def ME (n : Nat) (g : Nat → Nat) (A B : Nat) (wx : World) (zb : Nat) (c : Int) : Prop :=
  (c = 4 ∧ (A = B ∨ (g A).testBit B = true)) ∨ (c = 0 ∧ A ≠ B ∧ (g A).testBit B = false ∧ ∃ a' c', wx.cell? ⟨zb, 0, none⟩ = some (.int .i64 (n : Int)) ∧ wx.cell? ⟨zb, 1, none⟩ = some (.slice a' n c') ∧ Row wx a' n (fun k => (wth g A B k : Nat)))
theorem mf_end {n : Nat} {g : Nat → Nat} {A B B0 : Nat} {X Y : World} {i : Int} {a' : Option Addr} {l' c' : Nat} {c : Int} {zb : Nat} (h : Hid (MF n g A B B0 X i a' l' c)) (z : Hid (ZBx X zb)) (hne : Hid (NE c a' zb)) (e : (X.setCell ⟨zb, 0, none⟩ (.int .i64 i)).setCell ⟨zb, 1, none⟩ (.slice a' l' c') = Y) : Hid (ME n g A B Y zb c) := by
  rw [← e]
  rcases h.out with h | ⟨h1, h2, h3, rfl, rfl, h6, _⟩
  · exact .inl h
  · refine .inr ⟨h1, h2, h3, a', c', ?_, ?_, fun k hk => ?_⟩
    · rw [World.cell?_setCell_other _ _ _ _ (by simp)]; exact World.cell?_setCell_same _ _ _ z.out.1.1
    · refine World.cell?_setCell_same _ _ _ (?_ : _ = some (.slice none 0 0))
      rw [World.cell?_setCell_other _ _ _ _ (by simp)]; exact z.out.1.2.1
    · obtain ⟨b, off, rfl, hc⟩ := h6 k hk
      have hn := hne.out h1 b off rfl
      exact ⟨b, off, rfl, by rw [cell_off hn, cell_off hn]; exact hc⟩
set_option maxHeartbeats 8000000 in
theorem scalesMore_any (n : Int) (a : Option Addr) (len cap : Nat) (f : Nat → Int) (pa pb : Int) (w : World) (hl : len ≤ maxLen) (hpa1 : -9223372036854775808 ≤ pa) (hpa2 : pa ≤ 9223372036854775807) (hpb1 : -9223372036854775808 ≤ pb) (hpb2 : pb ≤ 9223372036854775807) (hr : Row w a len f) :
    Calls Try.prog 7 #[.agg #[.int .i64 n, .slice a len cap], .int .i64 pa, .int .i64 pb] w fun e w' => e = .returned (.bool true) ∧ Below w.heap.size w w' := by
  have K0 : Held (w.alloc (.cells #[.int .i64 n, .slice a len cap] 24)) w.heap.size n a len cap f := Held.box hr
  have HB0 : Hid (Below w.heap.size w (w.alloc (.cells #[.int .i64 n, .slice a len cap] 24))) := (Below.refl _ _).alloc (Nat.le_refl _) _
  clear hr
  go_enter Try.func7, Try.ntmps7
  go_wp2_with fail
  refine (scalesBegun_any _).mono ?_
  rintro e w1 ⟨rfl, hb1⟩
  have K1 := K0.step hb1
  have HB1 : Hid (Below w.heap.size w w1) := Below.then HB0.out hb1
  have k0 := K1.c0
  have k1 := K1.c1
  clear hb1 K0 HB0
  go_wp2_with fail
  refine (cost_any n a len cap f _ hl K1.row).mono ?_
  rintro e w2 ⟨⟨c, v, rfl, hc, hv⟩, hb2⟩
  have K2 := K1.step hb2
  have HB2 : Hid (Below w.heap.size w w2) := Below.then HB1.out hb2
  have HC : Hid (WCk n len f c) := hc
  clear hb2 K1 HB1 k0 k1 hc
  by_cases h0 : c = 0
  · subst h0
    obtain ⟨rfl, h5, hrng, _⟩ := HC.out.good
    obtain ⟨g, HGG⟩ : ∃ g, Hid (knw (nat f) len = g) := ⟨_, rfl⟩
    have hv2 : v = (cst len g : Nat) := by
      rcases hv with ⟨h, _⟩ | ⟨_, h⟩
      · exact absurd rfl h
      · rw [← HGG.out]; exact h
    have HWK : Hid (WOk len g) := by rw [← HGG.out]; exact HC.out.wok
    have HCh : Hid (Chk (len : Int) len f 0) := by
      rcases HC.out with ⟨h, _⟩ | ⟨h, _⟩
      · exact absurd rfl h
      · exact h
    obtain ⟨Cn, HCC⟩ : ∃ C, Hid (cst len g = C) := ⟨_, rfl⟩
    rw [HCC.out] at hv2
    subst hv2
    have m0 := K2.c0
    have m1 := K2.c1
    clear hv hrng
    by_cases hl0 : len = 0
    · subst hl0
      clear K2
      go_wp2_with fail
      go_ret
      exact ⟨rfl, HB2.out⟩
    · have hlp : 0 < len := by omega
      have hlb : len ≤ 10000000000 := by omega
      have hld : ((len : Int) == 0) = false := by simp; omega
      have HBR : Hid (Below w2.heap.size w2 w2) := Below.refl _ _
      have hc0 : ∀ wx, Below w2.heap.size w2 wx → wx.cell? ⟨w.heap.size, 0, none⟩ = some (.int .i64 (len : Nat)) := fun wx h => (K2.step h).c0
      have HK2 : Hid (∀ wx, Below w2.heap.size w2 wx → Held wx w.heap.size len a len cap f) := fun wx h => K2.step h
      clear K2
      go_wp2_with fail
      refine wp_region_held_drew (S := (fun w' => Below w2.heap.size w2 w')) (by kernel_rfl) (HBR.out.drew) (fun hHeld => ?_)
      refine wpAnyH_take (i := 0) (oi := { dst := some 30, op := Go.Op.move (Go.Operand.tmp 1), type := 3, pos := "embed.go:389", after := #[], guard := none }) (v := ?_) rfl (by kernel_rfl) (by kernel_rfl) (by kernel_rfl) (fun _ _ _ h => h) (Or.inl ⟨by rfl, ?hy⟩) (by assumption) ?_
      case hy => (intro w9 hSw; (try dsimp only at hSw); go_simp; try with_reducible rfl)
      try simp only [Act.put, List.setIfInBounds_toArray, List.set_cons_zero, List.set_cons_succ]
      refine wpAnyH_take (i := 1) (oi := { dst := some 31, op := Go.Op.fieldAddr 24 (Go.Operand.tmp 3) 0, type := 0, pos := "embed.go:389", after := #[], guard := none }) (v := ?_) rfl (by kernel_rfl) (by kernel_rfl) (by kernel_rfl) (fun _ _ _ h => h) (Or.inl ⟨by rfl, ?hy⟩) (by assumption) ?_
      case hy => (intro w9 hSw; (try dsimp only at hSw); go_simp; try with_reducible rfl)
      try simp only [Act.put, List.setIfInBounds_toArray, List.set_cons_zero, List.set_cons_succ]
      refine wpAnyH_take (i := 2) (oi := { dst := some 32, op := Go.Op.load 3 (Go.Operand.tmp 31), type := 3, pos := "embed.go:389", after := #[{ on := 1, ground := Go.Ground.data }], guard := none }) (v := ?_) rfl (by kernel_rfl) (by kernel_rfl) (by kernel_rfl) (fun _ _ _ h => h) (Or.inl ⟨by rfl, ?hy⟩) (by assumption) ?_
      case hy => (intro w9 hSw; (try dsimp only at hSw); go_simp; try with_reducible rfl)
      try simp only [Act.put, List.setIfInBounds_toArray, List.set_cons_zero, List.set_cons_succ]
      refine wpAnyH_take (i := 4) (oi := { dst := some 34, op := Go.Op.move (Go.Operand.tmp 2), type := 3, pos := "embed.go:389", after := #[], guard := none }) (v := ?_) rfl (by kernel_rfl) (by kernel_rfl) (by kernel_rfl) (fun _ _ _ h => h) (Or.inl ⟨by rfl, ?hy⟩) (by assumption) ?_
      case hy => (intro w9 hSw; (try dsimp only at hSw); go_simp; try with_reducible rfl)
      try simp only [Act.put, List.setIfInBounds_toArray, List.set_cons_zero, List.set_cons_succ]
      refine wpAnyH_take (i := 5) (oi := { dst := some 35, op := Go.Op.fieldAddr 24 (Go.Operand.tmp 3) 0, type := 0, pos := "embed.go:389", after := #[], guard := none }) (v := ?_) rfl (by kernel_rfl) (by kernel_rfl) (by kernel_rfl) (fun _ _ _ h => h) (Or.inl ⟨by rfl, ?hy⟩) (by assumption) ?_
      case hy => (intro w9 hSw; (try dsimp only at hSw); go_simp; try with_reducible rfl)
      try simp only [Act.put, List.setIfInBounds_toArray, List.set_cons_zero, List.set_cons_succ]
      refine wpAnyH_take (i := 6) (oi := { dst := some 36, op := Go.Op.load 3 (Go.Operand.tmp 35), type := 3, pos := "embed.go:389", after := #[{ on := 5, ground := Go.Ground.data }], guard := none }) (v := ?_) rfl (by kernel_rfl) (by kernel_rfl) (by kernel_rfl) (fun _ _ _ h => h) (Or.inl ⟨by rfl, ?hy⟩) (by assumption) ?_
      case hy => (intro w9 hSw; (try dsimp only at hSw); go_simp; try with_reducible rfl)
      try simp only [Act.put, List.setIfInBounds_toArray, List.set_cons_zero, List.set_cons_succ]
      refine wpAnyH_ready (rs := [3]) (by kernel_rfl) (by simp) ?_
      refine AllReadyH.cons (o := { dst := some 33, op := Go.Op.call { callee := Go.Callee.value (Go.Operand.func 24), args := #[Go.Operand.tmp 30, Go.Operand.tmp 32], argTypes := #[3, 3] }, type := 3, pos := "embed.go:389", after := #[{ on := 0, ground := Go.Ground.data }, { on := 2, ground := Go.Ground.data }], guard := none }) rfl (fun K hK => ?_) AllReadyH.nil
      go_simp
      refine (choose_any pa len _ hlp hlb hpa1 hpa2).mono ?_
      rintro e wq1 ⟨⟨A, hA, rfl⟩, rfl⟩
      refine hK.out _ _ ?_ (fun hHeld => ?_)
      · exact hHeld
      clear hK K
      try simp only [Act.put, List.setIfInBounds_toArray, List.set_cons_zero, List.set_cons_succ]
      refine wpAnyH_ready (rs := [7]) (by kernel_rfl) (by simp) ?_
      refine AllReadyH.cons (o := { dst := some 37, op := Go.Op.call { callee := Go.Callee.value (Go.Operand.func 24), args := #[Go.Operand.tmp 34, Go.Operand.tmp 36], argTypes := #[3, 3] }, type := 3, pos := "embed.go:389", after := #[{ on := 4, ground := Go.Ground.data }, { on := 6, ground := Go.Ground.data }, { on := 3, ground := Go.Ground.chain }], guard := none }) rfl (fun K hK => ?_) AllReadyH.nil
      go_simp
      refine (choose_any pb len _ hlp hlb hpb1 hpb2).mono ?_
      rintro e wq2 ⟨⟨B, hB, rfl⟩, rfl⟩
      refine hK.out _ _ ?_ (fun hHeld => ?_)
      · exact hHeld
      clear hK K
      try simp only [Act.put, List.setIfInBounds_toArray, List.set_cons_zero, List.set_cons_succ]
      refine wpAnyH_take (i := 8) (oi := { dst := some 1, op := Go.Op.assign (Go.Operand.tmp 33), type := 3, pos := "embed.go:389", after := #[{ on := 3, ground := Go.Ground.data }, { on := 7, ground := Go.Ground.chain }, { on := 0, ground := Go.Ground.phase }, { on := 1, ground := Go.Ground.phase }, { on := 2, ground := Go.Ground.phase }, { on := 3, ground := Go.Ground.phase }, { on := 4, ground := Go.Ground.textOnly Go.Departure.lateStores }, { on := 5, ground := Go.Ground.textOnly Go.Departure.lateStores }, { on := 6, ground := Go.Ground.textOnly Go.Departure.lateStores }, { on := 7, ground := Go.Ground.textOnly Go.Departure.lateStoresUnsure }], guard := none }) (v := ?_) rfl (by kernel_rfl) (by kernel_rfl) (by kernel_rfl) (fun _ _ _ h => h) (Or.inl ⟨by rfl, ?hy⟩) (by assumption) ?_
      case hy => (intro w9 hSw; (try dsimp only at hSw); go_simp; try with_reducible rfl)
      try simp only [Act.put, List.setIfInBounds_toArray, List.set_cons_zero, List.set_cons_succ]
      refine wpAnyH_take (i := 9) (oi := { dst := some 2, op := Go.Op.assign (Go.Operand.tmp 37), type := 3, pos := "embed.go:389", after := #[{ on := 7, ground := Go.Ground.data }, { on := 8, ground := Go.Ground.chain }, { on := 0, ground := Go.Ground.phase }, { on := 1, ground := Go.Ground.phase }, { on := 2, ground := Go.Ground.phase }, { on := 3, ground := Go.Ground.phase }, { on := 4, ground := Go.Ground.phase }, { on := 5, ground := Go.Ground.phase }, { on := 6, ground := Go.Ground.phase }, { on := 7, ground := Go.Ground.phase }, { on := 8, ground := Go.Ground.phase }], guard := none }) (v := ?_) rfl (by kernel_rfl) (by kernel_rfl) (by kernel_rfl) (fun _ _ _ h => h) (Or.inl ⟨by rfl, ?hy⟩) (by assumption) ?_
      case hy => (intro w9 hSw; (try dsimp only at hSw); go_simp; try with_reducible rfl)
      try simp only [Act.put, List.setIfInBounds_toArray, List.set_cons_zero, List.set_cons_succ]
      refine wpAnyH_done (by kernel_rfl) ?_ _
      try simp only [Act.put, List.setIfInBounds_toArray, List.set_cons_zero, List.set_cons_succ]
      have HB2' : Hid (Below w.heap.size w w2.drew) := HB2.out.drew
      have K3 := HK2.out _ hHeld
      generalize w2.drew = W2 at *
      clear hHeld HBR hc0 HK2 HB2 m0 m1
      have k0 := K3.c0
      have k1 := K3.c1
      go_wp2_with fail
      refine (covers_any len a len cap f _ hl K3.row).mono ?_
      rintro e w3 ⟨⟨c3, vC, hc3, rfl, hcv⟩, hb3⟩
      obtain rfl := Chk.unique hc3 HCh.out
      have HCV0 : PSc w3 vC (covs (nat f) len) := by
        rcases hcv with ⟨h, _⟩ | ⟨_, h⟩
        · exact absurd rfl h
        · exact h
      have HCV : Hid (PSc w3 vC (covs g len)) := by rw [← HGG.out, covs_knw]; exact HCV0
      have HCS : Hid ((covs g len).length ≤ 50) := covs_small h5
      have HCL : Hid ((covs g len).length ≤ 1000) := Nat.le_trans HCS.out (by decide)
      obtain ⟨n9, HN9⟩ : ∃ n9, Hid ((covs g len ++ [(A, B)]).length = n9) := ⟨_, rfl⟩
      obtain ⟨p9, HP9E⟩ : ∃ p9, Hid (pairAt (covs g len ++ [(A, B)]) = p9) := ⟨_, rfl⟩
      have HPLN : Hid (n9 ≤ maxLen) := by
        rw [← HN9.out]
        have h1 := HCS.out
        show _ ≤ _
        unfold maxLen; rw [List.length_append]; simp; omega
      have HMG : Hid (∀ (W : World) (e : Ending) (W' : World), Made (len : Int) n9 p9 W e W' → MadeG len g A B W.heap.size e W') := by
        rw [← HN9.out, ← HP9E.out]
        exact fun W e W' h => made_g HWK.out hA hB h
      have K4 := K3.step hb3
      have HB3' : Hid (Below w.heap.size w w3) := Below.then HB2'.out hb3
      have hc0 : ∀ wx, Below w3.heap.size w3 wx → wx.cell? ⟨w.heap.size, 0, none⟩ = some (.int .i64 (len : Nat)) := fun wx h => (K4.step h).c0
      have HK4 : Hid (∀ wx, Below w3.heap.size w3 wx → Held wx w.heap.size len a len cap f) := fun wx h => K4.step h
      have HB3 : Hid (Below w3.heap.size w3 w3) := Below.refl _ _
      clear hc3 hcv HCV0 hb3 K3 K4 k0 k1 HB2'
      go_wp2_with fail
      go_cut [10, 11] from 16 (fun p v wx => ∃ (zb : Nat) (c : Int), p = .pointer (some ⟨zb, 0, none⟩) ∧ v = .int .i64 c ∧ Hid (Below w3.heap.size w3 wx) ∧ Hid (ME len g A B wx zb c))
      case first =>
        refine wp_region_held_drew (S := (fun w' => Below w3.heap.size w3 w')) (by kernel_rfl) (HB3.out.drew) (fun hHeld => ?_)
        generalize hwd : w3.drew = wd at hHeld ⊢
        clear hwd
        refine wpAnyH_take (i := 0) (oi := { dst := some 44, op := Go.Op.fieldAddr 24 (Go.Operand.tmp 3) 0, type := 0, pos := "embed.go:391", after := #[], guard := none }) (v := ?_) rfl (by kernel_rfl) (by kernel_rfl) (by kernel_rfl) (fun _ _ _ h => h) (Or.inl ⟨by rfl, ?hy⟩) (by assumption) ?_
        case hy => (intro w9 hSw; (try dsimp only at hSw); go_simp; try with_reducible rfl)
        try simp only [Act.put, List.setIfInBounds_toArray, List.set_cons_zero, List.set_cons_succ]
        refine wpAnyH_take (i := 1) (oi := { dst := some 45, op := Go.Op.load 3 (Go.Operand.tmp 44), type := 3, pos := "embed.go:391", after := #[{ on := 0, ground := Go.Ground.data }], guard := none }) (v := ?_) rfl (by kernel_rfl) (by kernel_rfl) (by kernel_rfl) (fun _ _ _ h => h) (Or.inl ⟨by rfl, ?hy⟩) (by assumption) ?_
        case hy => (intro w9 hSw; (try dsimp only at hSw); go_simp; try with_reducible rfl)
        try simp only [Act.put, List.setIfInBounds_toArray, List.set_cons_zero, List.set_cons_succ]
        refine wpAnyH_take (i := 3) (oi := { dst := some 47, op := Go.Op.move (Go.Operand.tmp 9), type := 37, pos := "embed.go:391", after := #[], guard := none }) (v := ?_) rfl (by kernel_rfl) (by kernel_rfl) (by kernel_rfl) (fun _ _ _ h => h) (Or.inl ⟨by rfl, ?hy⟩) (by assumption) ?_
        case hy => (intro w9 hSw; (try dsimp only at hSw); go_simp; try with_reducible rfl)
        try simp only [Act.put, List.setIfInBounds_toArray, List.set_cons_zero, List.set_cons_succ]
        refine wpAnyH_take (i := 5) (oi := { dst := some 49, op := Go.Op.move (Go.Operand.tmp 1), type := 3, pos := "embed.go:391", after := #[], guard := none }) (v := ?_) rfl (by kernel_rfl) (by kernel_rfl) (by kernel_rfl) (fun _ _ _ h => h) (Or.inl ⟨by rfl, ?hy⟩) (by assumption) ?_
        case hy => (intro w9 hSw; (try dsimp only at hSw); go_simp; try with_reducible rfl)
        try simp only [Act.put, List.setIfInBounds_toArray, List.set_cons_zero, List.set_cons_succ]
        refine wpAnyH_take (i := 6) (oi := { dst := some 50, op := Go.Op.move (Go.Operand.tmp 2), type := 3, pos := "embed.go:391", after := #[], guard := none }) (v := ?_) rfl (by kernel_rfl) (by kernel_rfl) (by kernel_rfl) (fun _ _ _ h => h) (Or.inl ⟨by rfl, ?hy⟩) (by assumption) ?_
        case hy => (intro w9 hSw; (try dsimp only at hSw); go_simp; try with_reducible rfl)
        try simp only [Act.put, List.setIfInBounds_toArray, List.set_cons_zero, List.set_cons_succ]
        refine wpAnyH_take (i := 7) (oi := { dst := some 51, op := Go.Op.build 42 #[(0, Go.Operand.tmp 49), (1, Go.Operand.tmp 50)], type := 42, pos := "embed.go:391", after := #[{ on := 5, ground := Go.Ground.data }, { on := 6, ground := Go.Ground.data }], guard := none }) (v := ?_) rfl (by kernel_rfl) (by kernel_rfl) (by kernel_rfl) (fun _ _ _ h => h) (Or.inl ⟨by rfl, ?hy⟩) (by assumption) ?_
        case hy => (intro w9 hSw; (try dsimp only at hSw); go_simp; try with_reducible rfl)
        try simp only [Act.put, List.setIfInBounds_toArray, List.set_cons_zero, List.set_cons_succ]
        refine wpAnyH_ready (rs := [2, 8, 14]) (by kernel_rfl) (by simp) ?_
        refine AllReadyH.cons (o := { dst := some 46, op := Go.Op.buildSlice 37 0 #[], type := 37, pos := "embed.go:391", after := #[], guard := none }) rfl (fun K hK => ?_) ?_
        · go_simp
          skip
          refine hK.out _ _ ?_ (fun hHeld => ?_)
          · exact Below.alloc hHeld hHeld.size _
          clear hK K
          try simp only [Act.put, List.setIfInBounds_toArray, List.set_cons_zero, List.set_cons_succ]
          generalize hwa : World.alloc _ _ = wa2 at hHeld ⊢
          try (have HP1 := prow_al HP1 hwa)
          try (have HZB := zb_al HZB hwa)
          clear hwa
          try (have zz0 := HZB.out.1.1; have zz1 := HZB.out.1.2.1; have zf0 := HZB.out.1.2.2.1; have zf1 := HZB.out.1.2.2.2)
          refine wpAnyH_ready (rs := [4, 8, 14]) (by kernel_rfl) (by simp) ?_
          refine AllReadyH.cons (o := { dst := some 48, op := Go.Op.call { callee := Go.Callee.builtin Go.Builtin.append, args := #[Go.Operand.tmp 46, Go.Operand.tmp 47], argTypes := #[37, 37] }, type := 37, pos := "embed.go:391", after := #[{ on := 2, ground := Go.Ground.data }, { on := 3, ground := Go.Ground.data }], guard := none }) rfl (fun K hK => ?_) ?_
          · rw [if_pos (by rfl)]
            refine wp_app0 _ _ _ rfl _ rfl vC (covs g len) rfl (HCV.out.below hHeld) HCL.out w3.heap.size hHeld.size ?_
            intro v4 w4 hA4 hg4
            refine hK.out _ _ ?_ (fun hHeld => ?_)
            · exact hHeld.grown hg4 hHeld.size (fun k e => by cases e)
            clear hK K
            try simp only [Act.put, List.setIfInBounds_toArray, List.set_cons_zero, List.set_cons_succ]
            have HA : Hid (PApp w4 w3.heap.size v4 (covs g len)) := hA4
            try (have HP1 := prow_gr HP1 hg4)
            try (have HZB := zb_gr HZB hg4 (fun k e => by cases e))
            try (have zz0 := HZB.out.1.1; have zz1 := HZB.out.1.2.1; have zf0 := HZB.out.1.2.2.1; have zf1 := HZB.out.1.2.2.2)
            refine wpAnyH_ready (rs := [8, 14]) (by kernel_rfl) (by simp) ?_
            refine AllReadyH.cons (o := { dst := some 52, op := Go.Op.buildSlice 37 1 #[(0, Go.Operand.tmp 51)], type := 37, pos := "embed.go:391", after := #[{ on := 7, ground := Go.Ground.data }], guard := none }) rfl (fun K hK => ?_) ?_
            · go_simp
              skip
              refine hK.out _ _ ?_ (fun hHeld => ?_)
              · exact Below.alloc hHeld hHeld.size _
              clear hK K
              try simp only [Act.put, List.setIfInBounds_toArray, List.set_cons_zero, List.set_cons_succ]
              generalize hwa : World.alloc _ _ = wa8 at hHeld ⊢
              have HP1 := prow_new (A := A) (B := B) hwa
              try (have HA := papp_al HA hwa)
              try (have HZB := zb_al HZB hwa)
              clear hwa
              try (have zz0 := HZB.out.1.1; have zz1 := HZB.out.1.2.1; have zf0 := HZB.out.1.2.2.1; have zf1 := HZB.out.1.2.2.2)
              refine wpAnyH_ready (rs := [9, 14]) (by kernel_rfl) (by simp) ?_
              refine AllReadyH.cons (o := { dst := some 53, op := Go.Op.call { callee := Go.Callee.builtin Go.Builtin.append, args := #[Go.Operand.tmp 48, Go.Operand.tmp 52], argTypes := #[37, 37] }, type := 37, pos := "embed.go:391", after := #[{ on := 4, ground := Go.Ground.data }, { on := 8, ground := Go.Ground.data }, { on := 4, ground := Go.Ground.chain }], guard := none }) rfl (fun K hK => ?_) ?_
              · rw [if_pos (by rfl)]
                refine wp_app1 _ _ _ rfl v4 (covs g len) rfl w3.heap.size HA.out _ A B rfl HP1.out (Nat.le_trans HCS.out (by decide)) hHeld.size ?_
                intro v9 w9 hA9 hg9
                obtain ⟨row9, hg9, hr9⟩ := hg9
                obtain ⟨a9, c9, rfl, hp9⟩ := hA9.pairs
                rw [HN9.out] at hp9
                rw [HP9E.out] at hp9
                rw [HN9.out]
                refine hK.out _ _ ?_ (fun hHeld => ?_)
                · exact hHeld.grown hg9 hHeld.size (fun k e => (hr9 k e).2)
                clear hK K
                try simp only [Act.put, List.setIfInBounds_toArray, List.set_cons_zero, List.set_cons_succ]
                have HP9 : Hid (PRow w9 a9 n9 p9) := hp9
                try (have HZB := zb_gr HZB hg9 (fun k e => (hr9 k e).1))
                try (have zz0 := HZB.out.1.1; have zz1 := HZB.out.1.2.1; have zf0 := HZB.out.1.2.2.1; have zf1 := HZB.out.1.2.2.2)
                refine wpAnyH_ready (rs := [10, 14]) (by kernel_rfl) (by simp) ?_
                refine AllReadyH.cons (o := { dst := some 54, op := Go.Op.call { callee := Go.Callee.value (Go.Operand.func 26), args := #[Go.Operand.tmp 45, Go.Operand.tmp 53], argTypes := #[3, 37] }, type := 49, pos := "embed.go:391", after := #[{ on := 1, ground := Go.Ground.data }, { on := 9, ground := Go.Ground.data }, { on := 9, ground := Go.Ground.chain }], guard := none }) rfl (fun K hK => ?_) ?_
                · go_simp
                  refine (make_any len a9 n9 c9 p9 _ HPLN.out HP9.out).mono ?_
                  rintro e wm ⟨hmade, hbm⟩
                  obtain ⟨mi, ma, ml, mc, mcc, rfl, hmf⟩ := HMG.out _ _ _ hmade
                  refine hK.out _ _ ?_ (fun hHeld => ?_)
                  · exact Below.then hHeld hbm
                  clear hK K
                  try simp only [Act.put, List.setIfInBounds_toArray, List.set_cons_zero, List.set_cons_succ]
                  have HMF := mf_hid hmf
                  try (have HNE := ne_before HMF.out HZB)
                  try (have HZB := zb_be HZB hbm)
                  try (have zz0 := HZB.out.1.1; have zz1 := HZB.out.1.2.1; have zf0 := HZB.out.1.2.2.1; have zf1 := HZB.out.1.2.2.2)
                  refine wpAnyH_take (i := 11) (oi := { dst := some 43, op := Go.Op.move (Go.Operand.tmp 54), type := 49, pos := "embed.go:391", after := #[{ on := 10, ground := Go.Ground.data }], guard := none }) (v := ?_) rfl (by kernel_rfl) (by kernel_rfl) (by kernel_rfl) (fun _ _ _ h => h) (Or.inl ⟨by rfl, ?hy⟩) (by assumption) ?_
                  case hy => (intro w9 hSw; (try dsimp only at hSw); go_simp; try with_reducible rfl)
                  try simp only [Act.put, List.setIfInBounds_toArray, List.set_cons_zero, List.set_cons_succ]
                  refine wpAnyH_take (i := 12) (oi := { dst := some 55, op := Go.Op.extract (Go.Operand.tmp 43) 0, type := 24, pos := "embed.go:391", after := #[{ on := 11, ground := Go.Ground.data }], guard := none }) (v := ?_) rfl (by kernel_rfl) (by kernel_rfl) (by kernel_rfl) (fun _ _ _ h => h) (Or.inl ⟨by rfl, ?hy⟩) (by assumption) ?_
                  case hy => (intro w9 hSw; (try dsimp only at hSw); go_simp; try with_reducible rfl)
                  try simp only [Act.put, List.setIfInBounds_toArray, List.set_cons_zero, List.set_cons_succ]
                  refine wpAnyH_take (i := 13) (oi := { dst := some 56, op := Go.Op.extract (Go.Operand.tmp 43) 1, type := 25, pos := "embed.go:391", after := #[{ on := 11, ground := Go.Ground.data }, { on := 15, ground := Go.Ground.gcOnly Go.Departure.lateStores }], guard := none }) (v := ?_) rfl (by kernel_rfl) (by kernel_rfl) (by kernel_rfl) (fun _ _ _ h => h) (Or.inl ⟨by rfl, ?hy⟩) (by assumption) ?_
                  case hy => (intro w9 hSw; (try dsimp only at hSw); go_simp; try with_reducible rfl)
                  try simp only [Act.put, List.setIfInBounds_toArray, List.set_cons_zero, List.set_cons_succ]
                  refine wpAnyH_ready (rs := [14]) (by kernel_rfl) (by simp) ?_
                  refine AllReadyH.cons (o := { dst := some 10, op := Go.Op.alloc 24, type := 0, pos := "embed.go:391", after := #[], guard := none }) rfl (fun K hK => ?_) AllReadyH.nil
                  go_simp
                  have HS14 : Hid (w3.heap.size ≤ _) := hHeld.size
                  refine hK.out _ _ ?_ (fun hHeld => ?_)
                  · exact Below.alloc hHeld hHeld.size _
                  clear hK K
                  try simp only [Act.put, List.setIfInBounds_toArray, List.set_cons_zero, List.set_cons_succ]
                  generalize hwa : World.alloc _ _ = wa14 at hHeld ⊢
                  have HZB := zb_new hwa
                  try (have HNE := ne_after HMF.out)
                  try (have HMF := mf_al HMF hwa)
                  try (have HA := papp_al HA hwa)
                  try (have HP1 := prow_al HP1 hwa)
                  try (have HP9 := prow_al HP9 hwa)
                  clear hwa
                  try (have zz0 := HZB.out.1.1; have zz1 := HZB.out.1.2.1; have zf0 := HZB.out.1.2.2.1; have zf1 := HZB.out.1.2.2.2)
                  refine wpAnyH_ready (rs := [15]) (by kernel_rfl) (by simp) ?_
                  refine AllReadyH.cons (o := { dst := none, op := Go.Op.store 24 (Go.Operand.tmp 10) (Go.Operand.tmp 55), type := 0, pos := "embed.go:391", after := #[{ on := 14, ground := Go.Ground.data }, { on := 12, ground := Go.Ground.data }, { on := 10, ground := Go.Ground.chain }, { on := 0, ground := Go.Ground.phase }, { on := 1, ground := Go.Ground.phase }, { on := 2, ground := Go.Ground.phase }, { on := 3, ground := Go.Ground.phase }, { on := 4, ground := Go.Ground.phase }, { on := 5, ground := Go.Ground.phase }, { on := 6, ground := Go.Ground.phase }, { on := 7, ground := Go.Ground.phase }, { on := 8, ground := Go.Ground.phase }, { on := 9, ground := Go.Ground.phase }, { on := 10, ground := Go.Ground.phase }, { on := 11, ground := Go.Ground.phase }, { on := 12, ground := Go.Ground.phase }, { on := 13, ground := Go.Ground.textOnly Go.Departure.lateStores }, { on := 14, ground := Go.Ground.phase }], guard := none }) rfl (fun K hK => ?_) AllReadyH.nil
                  go_simp
                  skip
                  refine hK.out _ _ ?_ (fun hHeld => ?_)
                  · exact set2K hHeld HS14.out
                  clear hK K
                  try simp only [Act.put, List.setIfInBounds_toArray, List.set_cons_zero, List.set_cons_succ]
                  generalize hw15 : World.setCell _ _ _ = w15 at hHeld ⊢
                  have HEND := mf_end HMF HZB HNE hw15
                  clear hw15
                  refine wpAnyH_take (i := 16) (oi := { dst := some 11, op := Go.Op.assign (Go.Operand.tmp 56), type := 25, pos := "embed.go:391", after := #[{ on := 13, ground := Go.Ground.data }, { on := 15, ground := Go.Ground.chain }, { on := 0, ground := Go.Ground.phase }, { on := 1, ground := Go.Ground.phase }, { on := 2, ground := Go.Ground.phase }, { on := 3, ground := Go.Ground.phase }, { on := 4, ground := Go.Ground.phase }, { on := 5, ground := Go.Ground.phase }, { on := 6, ground := Go.Ground.phase }, { on := 7, ground := Go.Ground.phase }, { on := 8, ground := Go.Ground.phase }, { on := 9, ground := Go.Ground.phase }, { on := 10, ground := Go.Ground.phase }, { on := 11, ground := Go.Ground.phase }, { on := 12, ground := Go.Ground.phase }, { on := 13, ground := Go.Ground.phase }, { on := 14, ground := Go.Ground.phase }, { on := 15, ground := Go.Ground.phase }], guard := none }) (v := ?_) rfl (by kernel_rfl) (by kernel_rfl) (by kernel_rfl) (fun _ _ _ h => h) (Or.inl ⟨by rfl, ?hy⟩) (by assumption) ?_
                  case hy => (intro w9 hSw; (try dsimp only at hSw); go_simp; try with_reducible rfl)
                  try simp only [Act.put, List.setIfInBounds_toArray, List.set_cons_zero, List.set_cons_succ]
                  refine wpAnyH_done (by kernel_rfl) ?_ _
                  try simp only [Act.put, List.setIfInBounds_toArray, List.set_cons_zero, List.set_cons_succ]
                  go_wp2_with fail
                  go_meet
                  exact ⟨_, _, rfl, rfl, hHeld, HEND⟩
                refine AllReadyH.cons (o := { dst := some 10, op := Go.Op.alloc 24, type := 0, pos := "embed.go:391", after := #[], guard := none }) rfl (fun K hK => ?_) ?_
                · go_simp
                  have HS14 : Hid (w3.heap.size ≤ _) := hHeld.size
                  refine hK.out _ _ ?_ (fun hHeld => ?_)
                  · exact Below.alloc hHeld hHeld.size _
                  clear hK K
                  try simp only [Act.put, List.setIfInBounds_toArray, List.set_cons_zero, List.set_cons_succ]
                  generalize hwa : World.alloc _ _ = wa14 at hHeld ⊢
                  have HZB := zb_new hwa
                  try (have HNE := ne_after HMF.out)
                  try (have HMF := mf_al HMF hwa)
                  try (have HA := papp_al HA hwa)
                  try (have HP1 := prow_al HP1 hwa)
                  try (have HP9 := prow_al HP9 hwa)
                  clear hwa
                  try (have zz0 := HZB.out.1.1; have zz1 := HZB.out.1.2.1; have zf0 := HZB.out.1.2.2.1; have zf1 := HZB.out.1.2.2.2)
                  refine wpAnyH_ready (rs := [10]) (by kernel_rfl) (by simp) ?_
                  refine AllReadyH.cons (o := { dst := some 54, op := Go.Op.call { callee := Go.Callee.value (Go.Operand.func 26), args := #[Go.Operand.tmp 45, Go.Operand.tmp 53], argTypes := #[3, 37] }, type := 49, pos := "embed.go:391", after := #[{ on := 1, ground := Go.Ground.data }, { on := 9, ground := Go.Ground.data }, { on := 9, ground := Go.Ground.chain }], guard := none }) rfl (fun K hK => ?_) AllReadyH.nil
                  go_simp
                  refine (make_any len a9 n9 c9 p9 _ HPLN.out HP9.out).mono ?_
                  rintro e wm ⟨hmade, hbm⟩
                  obtain ⟨mi, ma, ml, mc, mcc, rfl, hmf⟩ := HMG.out _ _ _ hmade
                  refine hK.out _ _ ?_ (fun hHeld => ?_)
                  · exact Below.then hHeld hbm
                  clear hK K
                  try simp only [Act.put, List.setIfInBounds_toArray, List.set_cons_zero, List.set_cons_succ]
                  have HMF := mf_hid hmf
                  try (have HNE := ne_before HMF.out HZB)
                  try (have HZB := zb_be HZB hbm)
                  try (have zz0 := HZB.out.1.1; have zz1 := HZB.out.1.2.1; have zf0 := HZB.out.1.2.2.1; have zf1 := HZB.out.1.2.2.2)
                  refine wpAnyH_take (i := 11) (oi := { dst := some 43, op := Go.Op.move (Go.Operand.tmp 54), type := 49, pos := "embed.go:391", after := #[{ on := 10, ground := Go.Ground.data }], guard := none }) (v := ?_) rfl (by kernel_rfl) (by kernel_rfl) (by kernel_rfl) (fun _ _ _ h => h) (Or.inl ⟨by rfl, ?hy⟩) (by assumption) ?_
                  case hy => (intro w9 hSw; (try dsimp only at hSw); go_simp; try with_reducible rfl)
                  try simp only [Act.put, List.setIfInBounds_toArray, List.set_cons_zero, List.set_cons_succ]
                  refine wpAnyH_take (i := 12) (oi := { dst := some 55, op := Go.Op.extract (Go.Operand.tmp 43) 0, type := 24, pos := "embed.go:391", after := #[{ on := 11, ground := Go.Ground.data }], guard := none }) (v := ?_) rfl (by kernel_rfl) (by kernel_rfl) (by kernel_rfl) (fun _ _ _ h => h) (Or.inl ⟨by rfl, ?hy⟩) (by assumption) ?_
                  case hy => (intro w9 hSw; (try dsimp only at hSw); go_simp; try with_reducible rfl)
                  try simp only [Act.put, List.setIfInBounds_toArray, List.set_cons_zero, List.set_cons_succ]
                  refine wpAnyH_take (i := 13) (oi := { dst := some 56, op := Go.Op.extract (Go.Operand.tmp 43) 1, type := 25, pos := "embed.go:391", after := #[{ on := 11, ground := Go.Ground.data }, { on := 15, ground := Go.Ground.gcOnly Go.Departure.lateStores }], guard := none }) (v := ?_) rfl (by kernel_rfl) (by kernel_rfl) (by kernel_rfl) (fun _ _ _ h => h) (Or.inl ⟨by rfl, ?hy⟩) (by assumption) ?_
                  case hy => (intro w9 hSw; (try dsimp only at hSw); go_simp; try with_reducible rfl)
                  try simp only [Act.put, List.setIfInBounds_toArray, List.set_cons_zero, List.set_cons_succ]
                  refine wpAnyH_ready (rs := [15]) (by kernel_rfl) (by simp) ?_
                  refine AllReadyH.cons (o := { dst := none, op := Go.Op.store 24 (Go.Operand.tmp 10) (Go.Operand.tmp 55), type := 0, pos := "embed.go:391", after := #[{ on := 14, ground := Go.Ground.data }, { on := 12, ground := Go.Ground.data }, { on := 10, ground := Go.Ground.chain }, { on := 0, ground := Go.Ground.phase }, { on := 1, ground := Go.Ground.phase }, { on := 2, ground := Go.Ground.phase }, { on := 3, ground := Go.Ground.phase }, { on := 4, ground := Go.Ground.phase }, { on := 5, ground := Go.Ground.phase }, { on := 6, ground := Go.Ground.phase }, { on := 7, ground := Go.Ground.phase }, { on := 8, ground := Go.Ground.phase }, { on := 9, ground := Go.Ground.phase }, { on := 10, ground := Go.Ground.phase }, { on := 11, ground := Go.Ground.phase }, { on := 12, ground := Go.Ground.phase }, { on := 13, ground := Go.Ground.textOnly Go.Departure.lateStores }, { on := 14, ground := Go.Ground.phase }], guard := none }) rfl (fun K hK => ?_) AllReadyH.nil
                  go_simp
                  skip
                  refine hK.out _ _ ?_ (fun hHeld => ?_)
                  · exact set2K hHeld HS14.out
                  clear hK K
                  try simp only [Act.put, List.setIfInBounds_toArray, List.set_cons_zero, List.set_cons_succ]
                  generalize hw15 : World.setCell _ _ _ = w15 at hHeld ⊢
                  have HEND := mf_end HMF HZB HNE hw15
                  clear hw15
                  refine wpAnyH_take (i := 16) (oi := { dst := some 11, op := Go.Op.assign (Go.Operand.tmp 56), type := 25, pos := "embed.go:391", after := #[{ on := 13, ground := Go.Ground.data }, { on := 15, ground := Go.Ground.chain }, { on := 0, ground := Go.Ground.phase }, { on := 1, ground := Go.Ground.phase }, { on := 2, ground := Go.Ground.phase }, { on := 3, ground := Go.Ground.phase }, { on := 4, ground := Go.Ground.phase }, { on := 5, ground := Go.Ground.phase }, { on := 6, ground := Go.Ground.phase }, { on := 7, ground := Go.Ground.phase }, { on := 8, ground := Go.Ground.phase }, { on := 9, ground := Go.Ground.phase }, { on := 10, ground := Go.Ground.phase }, { on := 11, ground := Go.Ground.phase }, { on := 12, ground := Go.Ground.phase }, { on := 13, ground := Go.Ground.phase }, { on := 14, ground := Go.Ground.phase }, { on := 15, ground := Go.Ground.phase }], guard := none }) (v := ?_) rfl (by kernel_rfl) (by kernel_rfl) (by kernel_rfl) (fun _ _ _ h => h) (Or.inl ⟨by rfl, ?hy⟩) (by assumption) ?_
                  case hy => (intro w9 hSw; (try dsimp only at hSw); go_simp; try with_reducible rfl)
                  try simp only [Act.put, List.setIfInBounds_toArray, List.set_cons_zero, List.set_cons_succ]
                  refine wpAnyH_done (by kernel_rfl) ?_ _
                  try simp only [Act.put, List.setIfInBounds_toArray, List.set_cons_zero, List.set_cons_succ]
                  go_wp2_with fail
                  go_meet
                  exact ⟨_, _, rfl, rfl, hHeld, HEND⟩
                exact AllReadyH.nil
              refine AllReadyH.cons (o := { dst := some 10, op := Go.Op.alloc 24, type := 0, pos := "embed.go:391", after := #[], guard := none }) rfl (fun K hK => ?_) ?_
              · go_simp
                have HS14 : Hid (w3.heap.size ≤ _) := hHeld.size
                refine hK.out _ _ ?_ (fun hHeld => ?_)
                · exact Below.alloc hHeld hHeld.size _
                clear hK K
                try simp only [Act.put, List.setIfInBounds_toArray, List.set_cons_zero, List.set_cons_succ]
                generalize hwa : World.alloc _ _ = wa14 at hHeld ⊢
                have HZB := zb_new hwa
                try (have HNE := ne_after HMF.out)
                try (have HMF := mf_al HMF hwa)
                try (have HA := papp_al HA hwa)
                try (have HP1 := prow_al HP1 hwa)
                try (have HP9 := prow_al HP9 hwa)
                clear hwa
                try (have zz0 := HZB.out.1.1; have zz1 := HZB.out.1.2.1; have zf0 := HZB.out.1.2.2.1; have zf1 := HZB.out.1.2.2.2)
                refine wpAnyH_ready (rs := [9]) (by kernel_rfl) (by simp) ?_
                refine AllReadyH.cons (o := { dst := some 53, op := Go.Op.call { callee := Go.Callee.builtin Go.Builtin.append, args := #[Go.Operand.tmp 48, Go.Operand.tmp 52], argTypes := #[37, 37] }, type := 37, pos := "embed.go:391", after := #[{ on := 4, ground := Go.Ground.data }, { on := 8, ground := Go.Ground.data }, { on := 4, ground := Go.Ground.chain }], guard := none }) rfl (fun K hK => ?_) AllReadyH.nil
                rw [if_pos (by rfl)]
                refine wp_app1 _ _ _ rfl v4 (covs g len) rfl w3.heap.size HA.out _ A B rfl HP1.out (Nat.le_trans HCS.out (by decide)) hHeld.size ?_
                intro v9 w9 hA9 hg9
                obtain ⟨row9, hg9, hr9⟩ := hg9
                obtain ⟨a9, c9, rfl, hp9⟩ := hA9.pairs
                rw [HN9.out] at hp9
                rw [HP9E.out] at hp9
                rw [HN9.out]
                refine hK.out _ _ ?_ (fun hHeld => ?_)
                · exact hHeld.grown hg9 hHeld.size (fun k e => (hr9 k e).2)
                clear hK K
                try simp only [Act.put, List.setIfInBounds_toArray, List.set_cons_zero, List.set_cons_succ]
                have HP9 : Hid (PRow w9 a9 n9 p9) := hp9
                try (have HZB := zb_gr HZB hg9 (fun k e => (hr9 k e).1))
                try (have zz0 := HZB.out.1.1; have zz1 := HZB.out.1.2.1; have zf0 := HZB.out.1.2.2.1; have zf1 := HZB.out.1.2.2.2)
                refine wpAnyH_ready (rs := [10]) (by kernel_rfl) (by simp) ?_
                refine AllReadyH.cons (o := { dst := some 54, op := Go.Op.call { callee := Go.Callee.value (Go.Operand.func 26), args := #[Go.Operand.tmp 45, Go.Operand.tmp 53], argTypes := #[3, 37] }, type := 49, pos := "embed.go:391", after := #[{ on := 1, ground := Go.Ground.data }, { on := 9, ground := Go.Ground.data }, { on := 9, ground := Go.Ground.chain }], guard := none }) rfl (fun K hK => ?_) AllReadyH.nil
                go_simp
                refine (make_any len a9 n9 c9 p9 _ HPLN.out HP9.out).mono ?_
                rintro e wm ⟨hmade, hbm⟩
                obtain ⟨mi, ma, ml, mc, mcc, rfl, hmf⟩ := HMG.out _ _ _ hmade
                refine hK.out _ _ ?_ (fun hHeld => ?_)
                · exact Below.then hHeld hbm
                clear hK K
                try simp only [Act.put, List.setIfInBounds_toArray, List.set_cons_zero, List.set_cons_succ]
                have HMF := mf_hid hmf
                try (have HNE := ne_before HMF.out HZB)
                try (have HZB := zb_be HZB hbm)
                try (have zz0 := HZB.out.1.1; have zz1 := HZB.out.1.2.1; have zf0 := HZB.out.1.2.2.1; have zf1 := HZB.out.1.2.2.2)
                refine wpAnyH_take (i := 11) (oi := { dst := some 43, op := Go.Op.move (Go.Operand.tmp 54), type := 49, pos := "embed.go:391", after := #[{ on := 10, ground := Go.Ground.data }], guard := none }) (v := ?_) rfl (by kernel_rfl) (by kernel_rfl) (by kernel_rfl) (fun _ _ _ h => h) (Or.inl ⟨by rfl, ?hy⟩) (by assumption) ?_
                case hy => (intro w9 hSw; (try dsimp only at hSw); go_simp; try with_reducible rfl)
                try simp only [Act.put, List.setIfInBounds_toArray, List.set_cons_zero, List.set_cons_succ]
                refine wpAnyH_take (i := 12) (oi := { dst := some 55, op := Go.Op.extract (Go.Operand.tmp 43) 0, type := 24, pos := "embed.go:391", after := #[{ on := 11, ground := Go.Ground.data }], guard := none }) (v := ?_) rfl (by kernel_rfl) (by kernel_rfl) (by kernel_rfl) (fun _ _ _ h => h) (Or.inl ⟨by rfl, ?hy⟩) (by assumption) ?_
                case hy => (intro w9 hSw; (try dsimp only at hSw); go_simp; try with_reducible rfl)
                try simp only [Act.put, List.setIfInBounds_toArray, List.set_cons_zero, List.set_cons_succ]
                refine wpAnyH_take (i := 13) (oi := { dst := some 56, op := Go.Op.extract (Go.Operand.tmp 43) 1, type := 25, pos := "embed.go:391", after := #[{ on := 11, ground := Go.Ground.data }, { on := 15, ground := Go.Ground.gcOnly Go.Departure.lateStores }], guard := none }) (v := ?_) rfl (by kernel_rfl) (by kernel_rfl) (by kernel_rfl) (fun _ _ _ h => h) (Or.inl ⟨by rfl, ?hy⟩) (by assumption) ?_
                case hy => (intro w9 hSw; (try dsimp only at hSw); go_simp; try with_reducible rfl)
                try simp only [Act.put, List.setIfInBounds_toArray, List.set_cons_zero, List.set_cons_succ]
                refine wpAnyH_ready (rs := [15]) (by kernel_rfl) (by simp) ?_
                refine AllReadyH.cons (o := { dst := none, op := Go.Op.store 24 (Go.Operand.tmp 10) (Go.Operand.tmp 55), type := 0, pos := "embed.go:391", after := #[{ on := 14, ground := Go.Ground.data }, { on := 12, ground := Go.Ground.data }, { on := 10, ground := Go.Ground.chain }, { on := 0, ground := Go.Ground.phase }, { on := 1, ground := Go.Ground.phase }, { on := 2, ground := Go.Ground.phase }, { on := 3, ground := Go.Ground.phase }, { on := 4, ground := Go.Ground.phase }, { on := 5, ground := Go.Ground.phase }, { on := 6, ground := Go.Ground.phase }, { on := 7, ground := Go.Ground.phase }, { on := 8, ground := Go.Ground.phase }, { on := 9, ground := Go.Ground.phase }, { on := 10, ground := Go.Ground.phase }, { on := 11, ground := Go.Ground.phase }, { on := 12, ground := Go.Ground.phase }, { on := 13, ground := Go.Ground.textOnly Go.Departure.lateStores }, { on := 14, ground := Go.Ground.phase }], guard := none }) rfl (fun K hK => ?_) AllReadyH.nil
                go_simp
                skip
                refine hK.out _ _ ?_ (fun hHeld => ?_)
                · exact set2K hHeld HS14.out
                clear hK K
                try simp only [Act.put, List.setIfInBounds_toArray, List.set_cons_zero, List.set_cons_succ]
                generalize hw15 : World.setCell _ _ _ = w15 at hHeld ⊢
                have HEND := mf_end HMF HZB HNE hw15
                clear hw15
                refine wpAnyH_take (i := 16) (oi := { dst := some 11, op := Go.Op.assign (Go.Operand.tmp 56), type := 25, pos := "embed.go:391", after := #[{ on := 13, ground := Go.Ground.data }, { on := 15, ground := Go.Ground.chain }, { on := 0, ground := Go.Ground.phase }, { on := 1, ground := Go.Ground.phase }, { on := 2, ground := Go.Ground.phase }, { on := 3, ground := Go.Ground.phase }, { on := 4, ground := Go.Ground.phase }, { on := 5, ground := Go.Ground.phase }, { on := 6, ground := Go.Ground.phase }, { on := 7, ground := Go.Ground.phase }, { on := 8, ground := Go.Ground.phase }, { on := 9, ground := Go.Ground.phase }, { on := 10, ground := Go.Ground.phase }, { on := 11, ground := Go.Ground.phase }, { on := 12, ground := Go.Ground.phase }, { on := 13, ground := Go.Ground.phase }, { on := 14, ground := Go.Ground.phase }, { on := 15, ground := Go.Ground.phase }], guard := none }) (v := ?_) rfl (by kernel_rfl) (by kernel_rfl) (by kernel_rfl) (fun _ _ _ h => h) (Or.inl ⟨by rfl, ?hy⟩) (by assumption) ?_
                case hy => (intro w9 hSw; (try dsimp only at hSw); go_simp; try with_reducible rfl)
                try simp only [Act.put, List.setIfInBounds_toArray, List.set_cons_zero, List.set_cons_succ]
                refine wpAnyH_done (by kernel_rfl) ?_ _
                try simp only [Act.put, List.setIfInBounds_toArray, List.set_cons_zero, List.set_cons_succ]
                go_wp2_with fail
                go_meet
                exact ⟨_, _, rfl, rfl, hHeld, HEND⟩
              exact AllReadyH.nil
            refine AllReadyH.cons (o := { dst := some 10, op := Go.Op.alloc 24, type := 0, pos := "embed.go:391", after := #[], guard := none }) rfl (fun K hK => ?_) ?_
            · go_simp
              have HS14 : Hid (w3.heap.size ≤ _) := hHeld.size
              refine hK.out _ _ ?_ (fun hHeld => ?_)
              · exact Below.alloc hHeld hHeld.size _
              clear hK K
              try simp only [Act.put, List.setIfInBounds_toArray, List.set_cons_zero, List.set_cons_succ]
              generalize hwa : World.alloc _ _ = wa14 at hHeld ⊢
              have HZB := zb_new hwa
              try (have HNE := ne_after HMF.out)
              try (have HMF := mf_al HMF hwa)
              try (have HA := papp_al HA hwa)
              try (have HP1 := prow_al HP1 hwa)
              try (have HP9 := prow_al HP9 hwa)
              clear hwa
              try (have zz0 := HZB.out.1.1; have zz1 := HZB.out.1.2.1; have zf0 := HZB.out.1.2.2.1; have zf1 := HZB.out.1.2.2.2)
              refine wpAnyH_ready (rs := [8]) (by kernel_rfl) (by simp) ?_
              refine AllReadyH.cons (o := { dst := some 52, op := Go.Op.buildSlice 37 1 #[(0, Go.Operand.tmp 51)], type := 37, pos := "embed.go:391", after := #[{ on := 7, ground := Go.Ground.data }], guard := none }) rfl (fun K hK => ?_) AllReadyH.nil
              go_simp
              skip
              refine hK.out _ _ ?_ (fun hHeld => ?_)
              · exact Below.alloc hHeld hHeld.size _
              clear hK K
              try simp only [Act.put, List.setIfInBounds_toArray, List.set_cons_zero, List.set_cons_succ]
              generalize hwa : World.alloc _ _ = wa8 at hHeld ⊢
              have HP1 := prow_new (A := A) (B := B) hwa
              try (have HA := papp_al HA hwa)
              try (have HZB := zb_al HZB hwa)
              clear hwa
              try (have zz0 := HZB.out.1.1; have zz1 := HZB.out.1.2.1; have zf0 := HZB.out.1.2.2.1; have zf1 := HZB.out.1.2.2.2)
              refine wpAnyH_ready (rs := [9]) (by kernel_rfl) (by simp) ?_
              refine AllReadyH.cons (o := { dst := some 53, op := Go.Op.call { callee := Go.Callee.builtin Go.Builtin.append, args := #[Go.Operand.tmp 48, Go.Operand.tmp 52], argTypes := #[37, 37] }, type := 37, pos := "embed.go:391", after := #[{ on := 4, ground := Go.Ground.data }, { on := 8, ground := Go.Ground.data }, { on := 4, ground := Go.Ground.chain }], guard := none }) rfl (fun K hK => ?_) AllReadyH.nil
              rw [if_pos (by rfl)]
              refine wp_app1 _ _ _ rfl v4 (covs g len) rfl w3.heap.size HA.out _ A B rfl HP1.out (Nat.le_trans HCS.out (by decide)) hHeld.size ?_
              intro v9 w9 hA9 hg9
              obtain ⟨row9, hg9, hr9⟩ := hg9
              obtain ⟨a9, c9, rfl, hp9⟩ := hA9.pairs
              rw [HN9.out] at hp9
              rw [HP9E.out] at hp9
              rw [HN9.out]
              refine hK.out _ _ ?_ (fun hHeld => ?_)
              · exact hHeld.grown hg9 hHeld.size (fun k e => (hr9 k e).2)
              clear hK K
              try simp only [Act.put, List.setIfInBounds_toArray, List.set_cons_zero, List.set_cons_succ]
              have HP9 : Hid (PRow w9 a9 n9 p9) := hp9
              try (have HZB := zb_gr HZB hg9 (fun k e => (hr9 k e).1))
              try (have zz0 := HZB.out.1.1; have zz1 := HZB.out.1.2.1; have zf0 := HZB.out.1.2.2.1; have zf1 := HZB.out.1.2.2.2)
              refine wpAnyH_ready (rs := [10]) (by kernel_rfl) (by simp) ?_
              refine AllReadyH.cons (o := { dst := some 54, op := Go.Op.call { callee := Go.Callee.value (Go.Operand.func 26), args := #[Go.Operand.tmp 45, Go.Operand.tmp 53], argTypes := #[3, 37] }, type := 49, pos := "embed.go:391", after := #[{ on := 1, ground := Go.Ground.data }, { on := 9, ground := Go.Ground.data }, { on := 9, ground := Go.Ground.chain }], guard := none }) rfl (fun K hK => ?_) AllReadyH.nil
              go_simp
              refine (make_any len a9 n9 c9 p9 _ HPLN.out HP9.out).mono ?_
              rintro e wm ⟨hmade, hbm⟩
              obtain ⟨mi, ma, ml, mc, mcc, rfl, hmf⟩ := HMG.out _ _ _ hmade
              refine hK.out _ _ ?_ (fun hHeld => ?_)
              · exact Below.then hHeld hbm
              clear hK K
              try simp only [Act.put, List.setIfInBounds_toArray, List.set_cons_zero, List.set_cons_succ]
              have HMF := mf_hid hmf
              try (have HNE := ne_before HMF.out HZB)
              try (have HZB := zb_be HZB hbm)
              try (have zz0 := HZB.out.1.1; have zz1 := HZB.out.1.2.1; have zf0 := HZB.out.1.2.2.1; have zf1 := HZB.out.1.2.2.2)
              refine wpAnyH_take (i := 11) (oi := { dst := some 43, op := Go.Op.move (Go.Operand.tmp 54), type := 49, pos := "embed.go:391", after := #[{ on := 10, ground := Go.Ground.data }], guard := none }) (v := ?_) rfl (by kernel_rfl) (by kernel_rfl) (by kernel_rfl) (fun _ _ _ h => h) (Or.inl ⟨by rfl, ?hy⟩) (by assumption) ?_
              case hy => (intro w9 hSw; (try dsimp only at hSw); go_simp; try with_reducible rfl)
              try simp only [Act.put, List.setIfInBounds_toArray, List.set_cons_zero, List.set_cons_succ]
              refine wpAnyH_take (i := 12) (oi := { dst := some 55, op := Go.Op.extract (Go.Operand.tmp 43) 0, type := 24, pos := "embed.go:391", after := #[{ on := 11, ground := Go.Ground.data }], guard := none }) (v := ?_) rfl (by kernel_rfl) (by kernel_rfl) (by kernel_rfl) (fun _ _ _ h => h) (Or.inl ⟨by rfl, ?hy⟩) (by assumption) ?_
              case hy => (intro w9 hSw; (try dsimp only at hSw); go_simp; try with_reducible rfl)
              try simp only [Act.put, List.setIfInBounds_toArray, List.set_cons_zero, List.set_cons_succ]
              refine wpAnyH_take (i := 13) (oi := { dst := some 56, op := Go.Op.extract (Go.Operand.tmp 43) 1, type := 25, pos := "embed.go:391", after := #[{ on := 11, ground := Go.Ground.data }, { on := 15, ground := Go.Ground.gcOnly Go.Departure.lateStores }], guard := none }) (v := ?_) rfl (by kernel_rfl) (by kernel_rfl) (by kernel_rfl) (fun _ _ _ h => h) (Or.inl ⟨by rfl, ?hy⟩) (by assumption) ?_
              case hy => (intro w9 hSw; (try dsimp only at hSw); go_simp; try with_reducible rfl)
              try simp only [Act.put, List.setIfInBounds_toArray, List.set_cons_zero, List.set_cons_succ]
              refine wpAnyH_ready (rs := [15]) (by kernel_rfl) (by simp) ?_
              refine AllReadyH.cons (o := { dst := none, op := Go.Op.store 24 (Go.Operand.tmp 10) (Go.Operand.tmp 55), type := 0, pos := "embed.go:391", after := #[{ on := 14, ground := Go.Ground.data }, { on := 12, ground := Go.Ground.data }, { on := 10, ground := Go.Ground.chain }, { on := 0, ground := Go.Ground.phase }, { on := 1, ground := Go.Ground.phase }, { on := 2, ground := Go.Ground.phase }, { on := 3, ground := Go.Ground.phase }, { on := 4, ground := Go.Ground.phase }, { on := 5, ground := Go.Ground.phase }, { on := 6, ground := Go.Ground.phase }, { on := 7, ground := Go.Ground.phase }, { on := 8, ground := Go.Ground.phase }, { on := 9, ground := Go.Ground.phase }, { on := 10, ground := Go.Ground.phase }, { on := 11, ground := Go.Ground.phase }, { on := 12, ground := Go.Ground.phase }, { on := 13, ground := Go.Ground.textOnly Go.Departure.lateStores }, { on := 14, ground := Go.Ground.phase }], guard := none }) rfl (fun K hK => ?_) AllReadyH.nil
              go_simp
              skip
              refine hK.out _ _ ?_ (fun hHeld => ?_)
              · exact set2K hHeld HS14.out
              clear hK K
              try simp only [Act.put, List.setIfInBounds_toArray, List.set_cons_zero, List.set_cons_succ]
              generalize hw15 : World.setCell _ _ _ = w15 at hHeld ⊢
              have HEND := mf_end HMF HZB HNE hw15
              clear hw15
              refine wpAnyH_take (i := 16) (oi := { dst := some 11, op := Go.Op.assign (Go.Operand.tmp 56), type := 25, pos := "embed.go:391", after := #[{ on := 13, ground := Go.Ground.data }, { on := 15, ground := Go.Ground.chain }, { on := 0, ground := Go.Ground.phase }, { on := 1, ground := Go.Ground.phase }, { on := 2, ground := Go.Ground.phase }, { on := 3, ground := Go.Ground.phase }, { on := 4, ground := Go.Ground.phase }, { on := 5, ground := Go.Ground.phase }, { on := 6, ground := Go.Ground.phase }, { on := 7, ground := Go.Ground.phase }, { on := 8, ground := Go.Ground.phase }, { on := 9, ground := Go.Ground.phase }, { on := 10, ground := Go.Ground.phase }, { on := 11, ground := Go.Ground.phase }, { on := 12, ground := Go.Ground.phase }, { on := 13, ground := Go.Ground.phase }, { on := 14, ground := Go.Ground.phase }, { on := 15, ground := Go.Ground.phase }], guard := none }) (v := ?_) rfl (by kernel_rfl) (by kernel_rfl) (by kernel_rfl) (fun _ _ _ h => h) (Or.inl ⟨by rfl, ?hy⟩) (by assumption) ?_
              case hy => (intro w9 hSw; (try dsimp only at hSw); go_simp; try with_reducible rfl)
              try simp only [Act.put, List.setIfInBounds_toArray, List.set_cons_zero, List.set_cons_succ]
              refine wpAnyH_done (by kernel_rfl) ?_ _
              try simp only [Act.put, List.setIfInBounds_toArray, List.set_cons_zero, List.set_cons_succ]
              go_wp2_with fail
              go_meet
              exact ⟨_, _, rfl, rfl, hHeld, HEND⟩
            exact AllReadyH.nil
          refine AllReadyH.cons (o := { dst := some 52, op := Go.Op.buildSlice 37 1 #[(0, Go.Operand.tmp 51)], type := 37, pos := "embed.go:391", after := #[{ on := 7, ground := Go.Ground.data }], guard := none }) rfl (fun K hK => ?_) ?_
          · go_simp
            skip
            refine hK.out _ _ ?_ (fun hHeld => ?_)
            · exact Below.alloc hHeld hHeld.size _
            clear hK K
            try simp only [Act.put, List.setIfInBounds_toArray, List.set_cons_zero, List.set_cons_succ]
            generalize hwa : World.alloc _ _ = wa8 at hHeld ⊢
            have HP1 := prow_new (A := A) (B := B) hwa
            try (have HA := papp_al HA hwa)
            try (have HZB := zb_al HZB hwa)
            clear hwa
            try (have zz0 := HZB.out.1.1; have zz1 := HZB.out.1.2.1; have zf0 := HZB.out.1.2.2.1; have zf1 := HZB.out.1.2.2.2)
            refine wpAnyH_ready (rs := [4, 14]) (by kernel_rfl) (by simp) ?_
            refine AllReadyH.cons (o := { dst := some 48, op := Go.Op.call { callee := Go.Callee.builtin Go.Builtin.append, args := #[Go.Operand.tmp 46, Go.Operand.tmp 47], argTypes := #[37, 37] }, type := 37, pos := "embed.go:391", after := #[{ on := 2, ground := Go.Ground.data }, { on := 3, ground := Go.Ground.data }], guard := none }) rfl (fun K hK => ?_) ?_
            · rw [if_pos (by rfl)]
              refine wp_app0 _ _ _ rfl _ rfl vC (covs g len) rfl (HCV.out.below hHeld) HCL.out w3.heap.size hHeld.size ?_
              intro v4 w4 hA4 hg4
              refine hK.out _ _ ?_ (fun hHeld => ?_)
              · exact hHeld.grown hg4 hHeld.size (fun k e => by cases e)
              clear hK K
              try simp only [Act.put, List.setIfInBounds_toArray, List.set_cons_zero, List.set_cons_succ]
              have HA : Hid (PApp w4 w3.heap.size v4 (covs g len)) := hA4
              try (have HP1 := prow_gr HP1 hg4)
              try (have HZB := zb_gr HZB hg4 (fun k e => by cases e))
              try (have zz0 := HZB.out.1.1; have zz1 := HZB.out.1.2.1; have zf0 := HZB.out.1.2.2.1; have zf1 := HZB.out.1.2.2.2)
              refine wpAnyH_ready (rs := [9, 14]) (by kernel_rfl) (by simp) ?_
              refine AllReadyH.cons (o := { dst := some 53, op := Go.Op.call { callee := Go.Callee.builtin Go.Builtin.append, args := #[Go.Operand.tmp 48, Go.Operand.tmp 52], argTypes := #[37, 37] }, type := 37, pos := "embed.go:391", after := #[{ on := 4, ground := Go.Ground.data }, { on := 8, ground := Go.Ground.data }, { on := 4, ground := Go.Ground.chain }], guard := none }) rfl (fun K hK => ?_) ?_
              · rw [if_pos (by rfl)]
                refine wp_app1 _ _ _ rfl v4 (covs g len) rfl w3.heap.size HA.out _ A B rfl HP1.out (Nat.le_trans HCS.out (by decide)) hHeld.size ?_
                intro v9 w9 hA9 hg9
                obtain ⟨row9, hg9, hr9⟩ := hg9
                obtain ⟨a9, c9, rfl, hp9⟩ := hA9.pairs
                rw [HN9.out] at hp9
                rw [HP9E.out] at hp9
                rw [HN9.out]
                refine hK.out _ _ ?_ (fun hHeld => ?_)
                · exact hHeld.grown hg9 hHeld.size (fun k e => (hr9 k e).2)
                clear hK K
                try simp only [Act.put, List.setIfInBounds_toArray, List.set_cons_zero, List.set_cons_succ]
                have HP9 : Hid (PRow w9 a9 n9 p9) := hp9
                try (have HZB := zb_gr HZB hg9 (fun k e => (hr9 k e).1))
                try (have zz0 := HZB.out.1.1; have zz1 := HZB.out.1.2.1; have zf0 := HZB.out.1.2.2.1; have zf1 := HZB.out.1.2.2.2)
                refine wpAnyH_ready (rs := [10, 14]) (by kernel_rfl) (by simp) ?_
                refine AllReadyH.cons (o := { dst := some 54, op := Go.Op.call { callee := Go.Callee.value (Go.Operand.func 26), args := #[Go.Operand.tmp 45, Go.Operand.tmp 53], argTypes := #[3, 37] }, type := 49, pos := "embed.go:391", after := #[{ on := 1, ground := Go.Ground.data }, { on := 9, ground := Go.Ground.data }, { on := 9, ground := Go.Ground.chain }], guard := none }) rfl (fun K hK => ?_) ?_
                · go_simp
                  refine (make_any len a9 n9 c9 p9 _ HPLN.out HP9.out).mono ?_
                  rintro e wm ⟨hmade, hbm⟩
                  obtain ⟨mi, ma, ml, mc, mcc, rfl, hmf⟩ := HMG.out _ _ _ hmade
                  refine hK.out _ _ ?_ (fun hHeld => ?_)
                  · exact Below.then hHeld hbm
                  clear hK K
                  try simp only [Act.put, List.setIfInBounds_toArray, List.set_cons_zero, List.set_cons_succ]
                  have HMF := mf_hid hmf
                  try (have HNE := ne_before HMF.out HZB)
                  try (have HZB := zb_be HZB hbm)
                  try (have zz0 := HZB.out.1.1; have zz1 := HZB.out.1.2.1; have zf0 := HZB.out.1.2.2.1; have zf1 := HZB.out.1.2.2.2)
                  refine wpAnyH_take (i := 11) (oi := { dst := some 43, op := Go.Op.move (Go.Operand.tmp 54), type := 49, pos := "embed.go:391", after := #[{ on := 10, ground := Go.Ground.data }], guard := none }) (v := ?_) rfl (by kernel_rfl) (by kernel_rfl) (by kernel_rfl) (fun _ _ _ h => h) (Or.inl ⟨by rfl, ?hy⟩) (by assumption) ?_
                  case hy => (intro w9 hSw; (try dsimp only at hSw); go_simp; try with_reducible rfl)
                  try simp only [Act.put, List.setIfInBounds_toArray, List.set_cons_zero, List.set_cons_succ]
                  refine wpAnyH_take (i := 12) (oi := { dst := some 55, op := Go.Op.extract (Go.Operand.tmp 43) 0, type := 24, pos := "embed.go:391", after := #[{ on := 11, ground := Go.Ground.data }], guard := none }) (v := ?_) rfl (by kernel_rfl) (by kernel_rfl) (by kernel_rfl) (fun _ _ _ h => h) (Or.inl ⟨by rfl, ?hy⟩) (by assumption) ?_
                  case hy => (intro w9 hSw; (try dsimp only at hSw); go_simp; try with_reducible rfl)
                  try simp only [Act.put, List.setIfInBounds_toArray, List.set_cons_zero, List.set_cons_succ]
                  refine wpAnyH_take (i := 13) (oi := { dst := some 56, op := Go.Op.extract (Go.Operand.tmp 43) 1, type := 25, pos := "embed.go:391", after := #[{ on := 11, ground := Go.Ground.data }, { on := 15, ground := Go.Ground.gcOnly Go.Departure.lateStores }], guard := none }) (v := ?_) rfl (by kernel_rfl) (by kernel_rfl) (by kernel_rfl) (fun _ _ _ h => h) (Or.inl ⟨by rfl, ?hy⟩) (by assumption) ?_
                  case hy => (intro w9 hSw; (try dsimp only at hSw); go_simp; try with_reducible rfl)
                  try simp only [Act.put, List.setIfInBounds_toArray, List.set_cons_zero, List.set_cons_succ]
                  refine wpAnyH_ready (rs := [14]) (by kernel_rfl) (by simp) ?_
                  refine AllReadyH.cons (o := { dst := some 10, op := Go.Op.alloc 24, type := 0, pos := "embed.go:391", after := #[], guard := none }) rfl (fun K hK => ?_) AllReadyH.nil
                  go_simp
                  have HS14 : Hid (w3.heap.size ≤ _) := hHeld.size
                  refine hK.out _ _ ?_ (fun hHeld => ?_)
                  · exact Below.alloc hHeld hHeld.size _
                  clear hK K
                  try simp only [Act.put, List.setIfInBounds_toArray, List.set_cons_zero, List.set_cons_succ]
                  generalize hwa : World.alloc _ _ = wa14 at hHeld ⊢
                  have HZB := zb_new hwa
                  try (have HNE := ne_after HMF.out)
                  try (have HMF := mf_al HMF hwa)
                  try (have HA := papp_al HA hwa)
                  try (have HP1 := prow_al HP1 hwa)
                  try (have HP9 := prow_al HP9 hwa)
                  clear hwa
                  try (have zz0 := HZB.out.1.1; have zz1 := HZB.out.1.2.1; have zf0 := HZB.out.1.2.2.1; have zf1 := HZB.out.1.2.2.2)
                  refine wpAnyH_ready (rs := [15]) (by kernel_rfl) (by simp) ?_
                  refine AllReadyH.cons (o := { dst := none, op := Go.Op.store 24 (Go.Operand.tmp 10) (Go.Operand.tmp 55), type := 0, pos := "embed.go:391", after := #[{ on := 14, ground := Go.Ground.data }, { on := 12, ground := Go.Ground.data }, { on := 10, ground := Go.Ground.chain }, { on := 0, ground := Go.Ground.phase }, { on := 1, ground := Go.Ground.phase }, { on := 2, ground := Go.Ground.phase }, { on := 3, ground := Go.Ground.phase }, { on := 4, ground := Go.Ground.phase }, { on := 5, ground := Go.Ground.phase }, { on := 6, ground := Go.Ground.phase }, { on := 7, ground := Go.Ground.phase }, { on := 8, ground := Go.Ground.phase }, { on := 9, ground := Go.Ground.phase }, { on := 10, ground := Go.Ground.phase }, { on := 11, ground := Go.Ground.phase }, { on := 12, ground := Go.Ground.phase }, { on := 13, ground := Go.Ground.textOnly Go.Departure.lateStores }, { on := 14, ground := Go.Ground.phase }], guard := none }) rfl (fun K hK => ?_) AllReadyH.nil
                  go_simp
                  skip
                  refine hK.out _ _ ?_ (fun hHeld => ?_)
                  · exact set2K hHeld HS14.out
                  clear hK K
                  try simp only [Act.put, List.setIfInBounds_toArray, List.set_cons_zero, List.set_cons_succ]
                  generalize hw15 : World.setCell _ _ _ = w15 at hHeld ⊢
                  have HEND := mf_end HMF HZB HNE hw15
                  clear hw15
                  refine wpAnyH_take (i := 16) (oi := { dst := some 11, op := Go.Op.assign (Go.Operand.tmp 56), type := 25, pos := "embed.go:391", after := #[{ on := 13, ground := Go.Ground.data }, { on := 15, ground := Go.Ground.chain }, { on := 0, ground := Go.Ground.phase }, { on := 1, ground := Go.Ground.phase }, { on := 2, ground := Go.Ground.phase }, { on := 3, ground := Go.Ground.phase }, { on := 4, ground := Go.Ground.phase }, { on := 5, ground := Go.Ground.phase }, { on := 6, ground := Go.Ground.phase }, { on := 7, ground := Go.Ground.phase }, { on := 8, ground := Go.Ground.phase }, { on := 9, ground := Go.Ground.phase }, { on := 10, ground := Go.Ground.phase }, { on := 11, ground := Go.Ground.phase }, { on := 12, ground := Go.Ground.phase }, { on := 13, ground := Go.Ground.phase }, { on := 14, ground := Go.Ground.phase }, { on := 15, ground := Go.Ground.phase }], guard := none }) (v := ?_) rfl (by kernel_rfl) (by kernel_rfl) (by kernel_rfl) (fun _ _ _ h => h) (Or.inl ⟨by rfl, ?hy⟩) (by assumption) ?_
                  case hy => (intro w9 hSw; (try dsimp only at hSw); go_simp; try with_reducible rfl)
                  try simp only [Act.put, List.setIfInBounds_toArray, List.set_cons_zero, List.set_cons_succ]
                  refine wpAnyH_done (by kernel_rfl) ?_ _
                  try simp only [Act.put, List.setIfInBounds_toArray, List.set_cons_zero, List.set_cons_succ]
                  go_wp2_with fail
                  go_meet
                  exact ⟨_, _, rfl, rfl, hHeld, HEND⟩
                refine AllReadyH.cons (o := { dst := some 10, op := Go.Op.alloc 24, type := 0, pos := "embed.go:391", after := #[], guard := none }) rfl (fun K hK => ?_) ?_
                · go_simp
                  have HS14 : Hid (w3.heap.size ≤ _) := hHeld.size
                  refine hK.out _ _ ?_ (fun hHeld => ?_)
                  · exact Below.alloc hHeld hHeld.size _
                  clear hK K
                  try simp only [Act.put, List.setIfInBounds_toArray, List.set_cons_zero, List.set_cons_succ]
                  generalize hwa : World.alloc _ _ = wa14 at hHeld ⊢
                  have HZB := zb_new hwa
                  try (have HNE := ne_after HMF.out)
                  try (have HMF := mf_al HMF hwa)
                  try (have HA := papp_al HA hwa)
                  try (have HP1 := prow_al HP1 hwa)
                  try (have HP9 := prow_al HP9 hwa)
                  clear hwa
                  try (have zz0 := HZB.out.1.1; have zz1 := HZB.out.1.2.1; have zf0 := HZB.out.1.2.2.1; have zf1 := HZB.out.1.2.2.2)
                  refine wpAnyH_ready (rs := [10]) (by kernel_rfl) (by simp) ?_
                  refine AllReadyH.cons (o := { dst := some 54, op := Go.Op.call { callee := Go.Callee.value (Go.Operand.func 26), args := #[Go.Operand.tmp 45, Go.Operand.tmp 53], argTypes := #[3, 37] }, type := 49, pos := "embed.go:391", after := #[{ on := 1, ground := Go.Ground.data }, { on := 9, ground := Go.Ground.data }, { on := 9, ground := Go.Ground.chain }], guard := none }) rfl (fun K hK => ?_) AllReadyH.nil
                  go_simp
                  refine (make_any len a9 n9 c9 p9 _ HPLN.out HP9.out).mono ?_
                  rintro e wm ⟨hmade, hbm⟩
                  obtain ⟨mi, ma, ml, mc, mcc, rfl, hmf⟩ := HMG.out _ _ _ hmade
                  refine hK.out _ _ ?_ (fun hHeld => ?_)
                  · exact Below.then hHeld hbm
                  clear hK K
                  try simp only [Act.put, List.setIfInBounds_toArray, List.set_cons_zero, List.set_cons_succ]
                  have HMF := mf_hid hmf
                  try (have HNE := ne_before HMF.out HZB)
                  try (have HZB := zb_be HZB hbm)
                  try (have zz0 := HZB.out.1.1; have zz1 := HZB.out.1.2.1; have zf0 := HZB.out.1.2.2.1; have zf1 := HZB.out.1.2.2.2)
                  refine wpAnyH_take (i := 11) (oi := { dst := some 43, op := Go.Op.move (Go.Operand.tmp 54), type := 49, pos := "embed.go:391", after := #[{ on := 10, ground := Go.Ground.data }], guard := none }) (v := ?_) rfl (by kernel_rfl) (by kernel_rfl) (by kernel_rfl) (fun _ _ _ h => h) (Or.inl ⟨by rfl, ?hy⟩) (by assumption) ?_
                  case hy => (intro w9 hSw; (try dsimp only at hSw); go_simp; try with_reducible rfl)
                  try simp only [Act.put, List.setIfInBounds_toArray, List.set_cons_zero, List.set_cons_succ]
                  refine wpAnyH_take (i := 12) (oi := { dst := some 55, op := Go.Op.extract (Go.Operand.tmp 43) 0, type := 24, pos := "embed.go:391", after := #[{ on := 11, ground := Go.Ground.data }], guard := none }) (v := ?_) rfl (by kernel_rfl) (by kernel_rfl) (by kernel_rfl) (fun _ _ _ h => h) (Or.inl ⟨by rfl, ?hy⟩) (by assumption) ?_
                  case hy => (intro w9 hSw; (try dsimp only at hSw); go_simp; try with_reducible rfl)
                  try simp only [Act.put, List.setIfInBounds_toArray, List.set_cons_zero, List.set_cons_succ]
                  refine wpAnyH_take (i := 13) (oi := { dst := some 56, op := Go.Op.extract (Go.Operand.tmp 43) 1, type := 25, pos := "embed.go:391", after := #[{ on := 11, ground := Go.Ground.data }, { on := 15, ground := Go.Ground.gcOnly Go.Departure.lateStores }], guard := none }) (v := ?_) rfl (by kernel_rfl) (by kernel_rfl) (by kernel_rfl) (fun _ _ _ h => h) (Or.inl ⟨by rfl, ?hy⟩) (by assumption) ?_
                  case hy => (intro w9 hSw; (try dsimp only at hSw); go_simp; try with_reducible rfl)
                  try simp only [Act.put, List.setIfInBounds_toArray, List.set_cons_zero, List.set_cons_succ]
                  refine wpAnyH_ready (rs := [15]) (by kernel_rfl) (by simp) ?_
                  refine AllReadyH.cons (o := { dst := none, op := Go.Op.store 24 (Go.Operand.tmp 10) (Go.Operand.tmp 55), type := 0, pos := "embed.go:391", after := #[{ on := 14, ground := Go.Ground.data }, { on := 12, ground := Go.Ground.data }, { on := 10, ground := Go.Ground.chain }, { on := 0, ground := Go.Ground.phase }, { on := 1, ground := Go.Ground.phase }, { on := 2, ground := Go.Ground.phase }, { on := 3, ground := Go.Ground.phase }, { on := 4, ground := Go.Ground.phase }, { on := 5, ground := Go.Ground.phase }, { on := 6, ground := Go.Ground.phase }, { on := 7, ground := Go.Ground.phase }, { on := 8, ground := Go.Ground.phase }, { on := 9, ground := Go.Ground.phase }, { on := 10, ground := Go.Ground.phase }, { on := 11, ground := Go.Ground.phase }, { on := 12, ground := Go.Ground.phase }, { on := 13, ground := Go.Ground.textOnly Go.Departure.lateStores }, { on := 14, ground := Go.Ground.phase }], guard := none }) rfl (fun K hK => ?_) AllReadyH.nil
                  go_simp
                  skip
                  refine hK.out _ _ ?_ (fun hHeld => ?_)
                  · exact set2K hHeld HS14.out
                  clear hK K
                  try simp only [Act.put, List.setIfInBounds_toArray, List.set_cons_zero, List.set_cons_succ]
                  generalize hw15 : World.setCell _ _ _ = w15 at hHeld ⊢
                  have HEND := mf_end HMF HZB HNE hw15
                  clear hw15
                  refine wpAnyH_take (i := 16) (oi := { dst := some 11, op := Go.Op.assign (Go.Operand.tmp 56), type := 25, pos := "embed.go:391", after := #[{ on := 13, ground := Go.Ground.data }, { on := 15, ground := Go.Ground.chain }, { on := 0, ground := Go.Ground.phase }, { on := 1, ground := Go.Ground.phase }, { on := 2, ground := Go.Ground.phase }, { on := 3, ground := Go.Ground.phase }, { on := 4, ground := Go.Ground.phase }, { on := 5, ground := Go.Ground.phase }, { on := 6, ground := Go.Ground.phase }, { on := 7, ground := Go.Ground.phase }, { on := 8, ground := Go.Ground.phase }, { on := 9, ground := Go.Ground.phase }, { on := 10, ground := Go.Ground.phase }, { on := 11, ground := Go.Ground.phase }, { on := 12, ground := Go.Ground.phase }, { on := 13, ground := Go.Ground.phase }, { on := 14, ground := Go.Ground.phase }, { on := 15, ground := Go.Ground.phase }], guard := none }) (v := ?_) rfl (by kernel_rfl) (by kernel_rfl) (by kernel_rfl) (fun _ _ _ h => h) (Or.inl ⟨by rfl, ?hy⟩) (by assumption) ?_
                  case hy => (intro w9 hSw; (try dsimp only at hSw); go_simp; try with_reducible rfl)
                  try simp only [Act.put, List.setIfInBounds_toArray, List.set_cons_zero, List.set_cons_succ]
                  refine wpAnyH_done (by kernel_rfl) ?_ _
                  try simp only [Act.put, List.setIfInBounds_toArray, List.set_cons_zero, List.set_cons_succ]
                  go_wp2_with fail
                  go_meet
                  exact ⟨_, _, rfl, rfl, hHeld, HEND⟩
                exact AllReadyH.nil
              refine AllReadyH.cons (o := { dst := some 10, op := Go.Op.alloc 24, type := 0, pos := "embed.go:391", after := #[], guard := none }) rfl (fun K hK => ?_) ?_
              · go_simp
                have HS14 : Hid (w3.heap.size ≤ _) := hHeld.size
                refine hK.out _ _ ?_ (fun hHeld => ?_)
                · exact Below.alloc hHeld hHeld.size _
                clear hK K
                try simp only [Act.put, List.setIfInBounds_toArray, List.set_cons_zero, List.set_cons_succ]
                generalize hwa : World.alloc _ _ = wa14 at hHeld ⊢
                have HZB := zb_new hwa
                try (have HNE := ne_after HMF.out)
                try (have HMF := mf_al HMF hwa)
                try (have HA := papp_al HA hwa)
                try (have HP1 := prow_al HP1 hwa)
                try (have HP9 := prow_al HP9 hwa)
                clear hwa
                try (have zz0 := HZB.out.1.1; have zz1 := HZB.out.1.2.1; have zf0 := HZB.out.1.2.2.1; have zf1 := HZB.out.1.2.2.2)
                refine wpAnyH_ready (rs := [9]) (by kernel_rfl) (by simp) ?_
                refine AllReadyH.cons (o := { dst := some 53, op := Go.Op.call { callee := Go.Callee.builtin Go.Builtin.append, args := #[Go.Operand.tmp 48, Go.Operand.tmp 52], argTypes := #[37, 37] }, type := 37, pos := "embed.go:391", after := #[{ on := 4, ground := Go.Ground.data }, { on := 8, ground := Go.Ground.data }, { on := 4, ground := Go.Ground.chain }], guard := none }) rfl (fun K hK => ?_) AllReadyH.nil
                rw [if_pos (by rfl)]
                refine wp_app1 _ _ _ rfl v4 (covs g len) rfl w3.heap.size HA.out _ A B rfl HP1.out (Nat.le_trans HCS.out (by decide)) hHeld.size ?_
                intro v9 w9 hA9 hg9
                obtain ⟨row9, hg9, hr9⟩ := hg9
                obtain ⟨a9, c9, rfl, hp9⟩ := hA9.pairs
                rw [HN9.out] at hp9
                rw [HP9E.out] at hp9
                rw [HN9.out]
                refine hK.out _ _ ?_ (fun hHeld => ?_)
                · exact hHeld.grown hg9 hHeld.size (fun k e => (hr9 k e).2)
                clear hK K
                try simp only [Act.put, List.setIfInBounds_toArray, List.set_cons_zero, List.set_cons_succ]
                have HP9 : Hid (PRow w9 a9 n9 p9) := hp9
                try (have HZB := zb_gr HZB hg9 (fun k e => (hr9 k e).1))
                try (have zz0 := HZB.out.1.1; have zz1 := HZB.out.1.2.1; have zf0 := HZB.out.1.2.2.1; have zf1 := HZB.out.1.2.2.2)
                refine wpAnyH_ready (rs := [10]) (by kernel_rfl) (by simp) ?_
                refine AllReadyH.cons (o := { dst := some 54, op := Go.Op.call { callee := Go.Callee.value (Go.Operand.func 26), args := #[Go.Operand.tmp 45, Go.Operand.tmp 53], argTypes := #[3, 37] }, type := 49, pos := "embed.go:391", after := #[{ on := 1, ground := Go.Ground.data }, { on := 9, ground := Go.Ground.data }, { on := 9, ground := Go.Ground.chain }], guard := none }) rfl (fun K hK => ?_) AllReadyH.nil
                go_simp
                refine (make_any len a9 n9 c9 p9 _ HPLN.out HP9.out).mono ?_
                rintro e wm ⟨hmade, hbm⟩
                obtain ⟨mi, ma, ml, mc, mcc, rfl, hmf⟩ := HMG.out _ _ _ hmade
                refine hK.out _ _ ?_ (fun hHeld => ?_)
                · exact Below.then hHeld hbm
                clear hK K
                try simp only [Act.put, List.setIfInBounds_toArray, List.set_cons_zero, List.set_cons_succ]
                have HMF := mf_hid hmf
                try (have HNE := ne_before HMF.out HZB)
                try (have HZB := zb_be HZB hbm)
                try (have zz0 := HZB.out.1.1; have zz1 := HZB.out.1.2.1; have zf0 := HZB.out.1.2.2.1; have zf1 := HZB.out.1.2.2.2)
                refine wpAnyH_take (i := 11) (oi := { dst := some 43, op := Go.Op.move (Go.Operand.tmp 54), type := 49, pos := "embed.go:391", after := #[{ on := 10, ground := Go.Ground.data }], guard := none }) (v := ?_) rfl (by kernel_rfl) (by kernel_rfl) (by kernel_rfl) (fun _ _ _ h => h) (Or.inl ⟨by rfl, ?hy⟩) (by assumption) ?_
                case hy => (intro w9 hSw; (try dsimp only at hSw); go_simp; try with_reducible rfl)
                try simp only [Act.put, List.setIfInBounds_toArray, List.set_cons_zero, List.set_cons_succ]
                refine wpAnyH_take (i := 12) (oi := { dst := some 55, op := Go.Op.extract (Go.Operand.tmp 43) 0, type := 24, pos := "embed.go:391", after := #[{ on := 11, ground := Go.Ground.data }], guard := none }) (v := ?_) rfl (by kernel_rfl) (by kernel_rfl) (by kernel_rfl) (fun _ _ _ h => h) (Or.inl ⟨by rfl, ?hy⟩) (by assumption) ?_
                case hy => (intro w9 hSw; (try dsimp only at hSw); go_simp; try with_reducible rfl)
                try simp only [Act.put, List.setIfInBounds_toArray, List.set_cons_zero, List.set_cons_succ]
                refine wpAnyH_take (i := 13) (oi := { dst := some 56, op := Go.Op.extract (Go.Operand.tmp 43) 1, type := 25, pos := "embed.go:391", after := #[{ on := 11, ground := Go.Ground.data }, { on := 15, ground := Go.Ground.gcOnly Go.Departure.lateStores }], guard := none }) (v := ?_) rfl (by kernel_rfl) (by kernel_rfl) (by kernel_rfl) (fun _ _ _ h => h) (Or.inl ⟨by rfl, ?hy⟩) (by assumption) ?_
                case hy => (intro w9 hSw; (try dsimp only at hSw); go_simp; try with_reducible rfl)
                try simp only [Act.put, List.setIfInBounds_toArray, List.set_cons_zero, List.set_cons_succ]
                refine wpAnyH_ready (rs := [15]) (by kernel_rfl) (by simp) ?_
                refine AllReadyH.cons (o := { dst := none, op := Go.Op.store 24 (Go.Operand.tmp 10) (Go.Operand.tmp 55), type := 0, pos := "embed.go:391", after := #[{ on := 14, ground := Go.Ground.data }, { on := 12, ground := Go.Ground.data }, { on := 10, ground := Go.Ground.chain }, { on := 0, ground := Go.Ground.phase }, { on := 1, ground := Go.Ground.phase }, { on := 2, ground := Go.Ground.phase }, { on := 3, ground := Go.Ground.phase }, { on := 4, ground := Go.Ground.phase }, { on := 5, ground := Go.Ground.phase }, { on := 6, ground := Go.Ground.phase }, { on := 7, ground := Go.Ground.phase }, { on := 8, ground := Go.Ground.phase }, { on := 9, ground := Go.Ground.phase }, { on := 10, ground := Go.Ground.phase }, { on := 11, ground := Go.Ground.phase }, { on := 12, ground := Go.Ground.phase }, { on := 13, ground := Go.Ground.textOnly Go.Departure.lateStores }, { on := 14, ground := Go.Ground.phase }], guard := none }) rfl (fun K hK => ?_) AllReadyH.nil
                go_simp
                skip
                refine hK.out _ _ ?_ (fun hHeld => ?_)
                · exact set2K hHeld HS14.out
                clear hK K
                try simp only [Act.put, List.setIfInBounds_toArray, List.set_cons_zero, List.set_cons_succ]
                generalize hw15 : World.setCell _ _ _ = w15 at hHeld ⊢
                have HEND := mf_end HMF HZB HNE hw15
                clear hw15
                refine wpAnyH_take (i := 16) (oi := { dst := some 11, op := Go.Op.assign (Go.Operand.tmp 56), type := 25, pos := "embed.go:391", after := #[{ on := 13, ground := Go.Ground.data }, { on := 15, ground := Go.Ground.chain }, { on := 0, ground := Go.Ground.phase }, { on := 1, ground := Go.Ground.phase }, { on := 2, ground := Go.Ground.phase }, { on := 3, ground := Go.Ground.phase }, { on := 4, ground := Go.Ground.phase }, { on := 5, ground := Go.Ground.phase }, { on := 6, ground := Go.Ground.phase }, { on := 7, ground := Go.Ground.phase }, { on := 8, ground := Go.Ground.phase }, { on := 9, ground := Go.Ground.phase }, { on := 10, ground := Go.Ground.phase }, { on := 11, ground := Go.Ground.phase }, { on := 12, ground := Go.Ground.phase }, { on := 13, ground := Go.Ground.phase }, { on := 14, ground := Go.Ground.phase }, { on := 15, ground := Go.Ground.phase }], guard := none }) (v := ?_) rfl (by kernel_rfl) (by kernel_rfl) (by kernel_rfl) (fun _ _ _ h => h) (Or.inl ⟨by rfl, ?hy⟩) (by assumption) ?_
                case hy => (intro w9 hSw; (try dsimp only at hSw); go_simp; try with_reducible rfl)
                try simp only [Act.put, List.setIfInBounds_toArray, List.set_cons_zero, List.set_cons_succ]
                refine wpAnyH_done (by kernel_rfl) ?_ _
                try simp only [Act.put, List.setIfInBounds_toArray, List.set_cons_zero, List.set_cons_succ]
                go_wp2_with fail
                go_meet
                exact ⟨_, _, rfl, rfl, hHeld, HEND⟩
              exact AllReadyH.nil
            refine AllReadyH.cons (o := { dst := some 10, op := Go.Op.alloc 24, type := 0, pos := "embed.go:391", after := #[], guard := none }) rfl (fun K hK => ?_) ?_
            · go_simp
              have HS14 : Hid (w3.heap.size ≤ _) := hHeld.size
              refine hK.out _ _ ?_ (fun hHeld => ?_)
              · exact Below.alloc hHeld hHeld.size _
              clear hK K
              try simp only [Act.put, List.setIfInBounds_toArray, List.set_cons_zero, List.set_cons_succ]
              generalize hwa : World.alloc _ _ = wa14 at hHeld ⊢
              have HZB := zb_new hwa
              try (have HNE := ne_after HMF.out)
              try (have HMF := mf_al HMF hwa)
              try (have HA := papp_al HA hwa)
              try (have HP1 := prow_al HP1 hwa)
              try (have HP9 := prow_al HP9 hwa)
              clear hwa
              try (have zz0 := HZB.out.1.1; have zz1 := HZB.out.1.2.1; have zf0 := HZB.out.1.2.2.1; have zf1 := HZB.out.1.2.2.2)
              refine wpAnyH_ready (rs := [4]) (by kernel_rfl) (by simp) ?_
              refine AllReadyH.cons (o := { dst := some 48, op := Go.Op.call { callee := Go.Callee.builtin Go.Builtin.append, args := #[Go.Operand.tmp 46, Go.Operand.tmp 47], argTypes := #[37, 37] }, type := 37, pos := "embed.go:391", after := #[{ on := 2, ground := Go.Ground.data }, { on := 3, ground := Go.Ground.data }], guard := none }) rfl (fun K hK => ?_) AllReadyH.nil
              rw [if_pos (by rfl)]
              refine wp_app0 _ _ _ rfl _ rfl vC (covs g len) rfl (HCV.out.below hHeld) HCL.out w3.heap.size hHeld.size ?_
              intro v4 w4 hA4 hg4
              refine hK.out _ _ ?_ (fun hHeld => ?_)
              · exact hHeld.grown hg4 hHeld.size (fun k e => by cases e)
              clear hK K
              try simp only [Act.put, List.setIfInBounds_toArray, List.set_cons_zero, List.set_cons_succ]
              have HA : Hid (PApp w4 w3.heap.size v4 (covs g len)) := hA4
              try (have HP1 := prow_gr HP1 hg4)
              try (have HZB := zb_gr HZB hg4 (fun k e => by cases e))
              try (have zz0 := HZB.out.1.1; have zz1 := HZB.out.1.2.1; have zf0 := HZB.out.1.2.2.1; have zf1 := HZB.out.1.2.2.2)
              refine wpAnyH_ready (rs := [9]) (by kernel_rfl) (by simp) ?_
              refine AllReadyH.cons (o := { dst := some 53, op := Go.Op.call { callee := Go.Callee.builtin Go.Builtin.append, args := #[Go.Operand.tmp 48, Go.Operand.tmp 52], argTypes := #[37, 37] }, type := 37, pos := "embed.go:391", after := #[{ on := 4, ground := Go.Ground.data }, { on := 8, ground := Go.Ground.data }, { on := 4, ground := Go.Ground.chain }], guard := none }) rfl (fun K hK => ?_) AllReadyH.nil
              rw [if_pos (by rfl)]
              refine wp_app1 _ _ _ rfl v4 (covs g len) rfl w3.heap.size HA.out _ A B rfl HP1.out (Nat.le_trans HCS.out (by decide)) hHeld.size ?_
              intro v9 w9 hA9 hg9
              obtain ⟨row9, hg9, hr9⟩ := hg9
              obtain ⟨a9, c9, rfl, hp9⟩ := hA9.pairs
              rw [HN9.out] at hp9
              rw [HP9E.out] at hp9
              rw [HN9.out]
              refine hK.out _ _ ?_ (fun hHeld => ?_)
              · exact hHeld.grown hg9 hHeld.size (fun k e => (hr9 k e).2)
              clear hK K
              try simp only [Act.put, List.setIfInBounds_toArray, List.set_cons_zero, List.set_cons_succ]
              have HP9 : Hid (PRow w9 a9 n9 p9) := hp9
              try (have HZB := zb_gr HZB hg9 (fun k e => (hr9 k e).1))
              try (have zz0 := HZB.out.1.1; have zz1 := HZB.out.1.2.1; have zf0 := HZB.out.1.2.2.1; have zf1 := HZB.out.1.2.2.2)
              refine wpAnyH_ready (rs := [10]) (by kernel_rfl) (by simp) ?_
              refine AllReadyH.cons (o := { dst := some 54, op := Go.Op.call { callee := Go.Callee.value (Go.Operand.func 26), args := #[Go.Operand.tmp 45, Go.Operand.tmp 53], argTypes := #[3, 37] }, type := 49, pos := "embed.go:391", after := #[{ on := 1, ground := Go.Ground.data }, { on := 9, ground := Go.Ground.data }, { on := 9, ground := Go.Ground.chain }], guard := none }) rfl (fun K hK => ?_) AllReadyH.nil
              go_simp
              refine (make_any len a9 n9 c9 p9 _ HPLN.out HP9.out).mono ?_
              rintro e wm ⟨hmade, hbm⟩
              obtain ⟨mi, ma, ml, mc, mcc, rfl, hmf⟩ := HMG.out _ _ _ hmade
              refine hK.out _ _ ?_ (fun hHeld => ?_)
              · exact Below.then hHeld hbm
              clear hK K
              try simp only [Act.put, List.setIfInBounds_toArray, List.set_cons_zero, List.set_cons_succ]
              have HMF := mf_hid hmf
              try (have HNE := ne_before HMF.out HZB)
              try (have HZB := zb_be HZB hbm)
              try (have zz0 := HZB.out.1.1; have zz1 := HZB.out.1.2.1; have zf0 := HZB.out.1.2.2.1; have zf1 := HZB.out.1.2.2.2)
              refine wpAnyH_take (i := 11) (oi := { dst := some 43, op := Go.Op.move (Go.Operand.tmp 54), type := 49, pos := "embed.go:391", after := #[{ on := 10, ground := Go.Ground.data }], guard := none }) (v := ?_) rfl (by kernel_rfl) (by kernel_rfl) (by kernel_rfl) (fun _ _ _ h => h) (Or.inl ⟨by rfl, ?hy⟩) (by assumption) ?_
              case hy => (intro w9 hSw; (try dsimp only at hSw); go_simp; try with_reducible rfl)
              try simp only [Act.put, List.setIfInBounds_toArray, List.set_cons_zero, List.set_cons_succ]
              refine wpAnyH_take (i := 12) (oi := { dst := some 55, op := Go.Op.extract (Go.Operand.tmp 43) 0, type := 24, pos := "embed.go:391", after := #[{ on := 11, ground := Go.Ground.data }], guard := none }) (v := ?_) rfl (by kernel_rfl) (by kernel_rfl) (by kernel_rfl) (fun _ _ _ h => h) (Or.inl ⟨by rfl, ?hy⟩) (by assumption) ?_
              case hy => (intro w9 hSw; (try dsimp only at hSw); go_simp; try with_reducible rfl)
              try simp only [Act.put, List.setIfInBounds_toArray, List.set_cons_zero, List.set_cons_succ]
              refine wpAnyH_take (i := 13) (oi := { dst := some 56, op := Go.Op.extract (Go.Operand.tmp 43) 1, type := 25, pos := "embed.go:391", after := #[{ on := 11, ground := Go.Ground.data }, { on := 15, ground := Go.Ground.gcOnly Go.Departure.lateStores }], guard := none }) (v := ?_) rfl (by kernel_rfl) (by kernel_rfl) (by kernel_rfl) (fun _ _ _ h => h) (Or.inl ⟨by rfl, ?hy⟩) (by assumption) ?_
              case hy => (intro w9 hSw; (try dsimp only at hSw); go_simp; try with_reducible rfl)
              try simp only [Act.put, List.setIfInBounds_toArray, List.set_cons_zero, List.set_cons_succ]
              refine wpAnyH_ready (rs := [15]) (by kernel_rfl) (by simp) ?_
              refine AllReadyH.cons (o := { dst := none, op := Go.Op.store 24 (Go.Operand.tmp 10) (Go.Operand.tmp 55), type := 0, pos := "embed.go:391", after := #[{ on := 14, ground := Go.Ground.data }, { on := 12, ground := Go.Ground.data }, { on := 10, ground := Go.Ground.chain }, { on := 0, ground := Go.Ground.phase }, { on := 1, ground := Go.Ground.phase }, { on := 2, ground := Go.Ground.phase }, { on := 3, ground := Go.Ground.phase }, { on := 4, ground := Go.Ground.phase }, { on := 5, ground := Go.Ground.phase }, { on := 6, ground := Go.Ground.phase }, { on := 7, ground := Go.Ground.phase }, { on := 8, ground := Go.Ground.phase }, { on := 9, ground := Go.Ground.phase }, { on := 10, ground := Go.Ground.phase }, { on := 11, ground := Go.Ground.phase }, { on := 12, ground := Go.Ground.phase }, { on := 13, ground := Go.Ground.textOnly Go.Departure.lateStores }, { on := 14, ground := Go.Ground.phase }], guard := none }) rfl (fun K hK => ?_) AllReadyH.nil
              go_simp
              skip
              refine hK.out _ _ ?_ (fun hHeld => ?_)
              · exact set2K hHeld HS14.out
              clear hK K
              try simp only [Act.put, List.setIfInBounds_toArray, List.set_cons_zero, List.set_cons_succ]
              generalize hw15 : World.setCell _ _ _ = w15 at hHeld ⊢
              have HEND := mf_end HMF HZB HNE hw15
              clear hw15
              refine wpAnyH_take (i := 16) (oi := { dst := some 11, op := Go.Op.assign (Go.Operand.tmp 56), type := 25, pos := "embed.go:391", after := #[{ on := 13, ground := Go.Ground.data }, { on := 15, ground := Go.Ground.chain }, { on := 0, ground := Go.Ground.phase }, { on := 1, ground := Go.Ground.phase }, { on := 2, ground := Go.Ground.phase }, { on := 3, ground := Go.Ground.phase }, { on := 4, ground := Go.Ground.phase }, { on := 5, ground := Go.Ground.phase }, { on := 6, ground := Go.Ground.phase }, { on := 7, ground := Go.Ground.phase }, { on := 8, ground := Go.Ground.phase }, { on := 9, ground := Go.Ground.phase }, { on := 10, ground := Go.Ground.phase }, { on := 11, ground := Go.Ground.phase }, { on := 12, ground := Go.Ground.phase }, { on := 13, ground := Go.Ground.phase }, { on := 14, ground := Go.Ground.phase }, { on := 15, ground := Go.Ground.phase }], guard := none }) (v := ?_) rfl (by kernel_rfl) (by kernel_rfl) (by kernel_rfl) (fun _ _ _ h => h) (Or.inl ⟨by rfl, ?hy⟩) (by assumption) ?_
              case hy => (intro w9 hSw; (try dsimp only at hSw); go_simp; try with_reducible rfl)
              try simp only [Act.put, List.setIfInBounds_toArray, List.set_cons_zero, List.set_cons_succ]
              refine wpAnyH_done (by kernel_rfl) ?_ _
              try simp only [Act.put, List.setIfInBounds_toArray, List.set_cons_zero, List.set_cons_succ]
              go_wp2_with fail
              go_meet
              exact ⟨_, _, rfl, rfl, hHeld, HEND⟩
            exact AllReadyH.nil
          refine AllReadyH.cons (o := { dst := some 10, op := Go.Op.alloc 24, type := 0, pos := "embed.go:391", after := #[], guard := none }) rfl (fun K hK => ?_) ?_
          · go_simp
            have HS14 : Hid (w3.heap.size ≤ _) := hHeld.size
            refine hK.out _ _ ?_ (fun hHeld => ?_)
            · exact Below.alloc hHeld hHeld.size _
            clear hK K
            try simp only [Act.put, List.setIfInBounds_toArray, List.set_cons_zero, List.set_cons_succ]
            generalize hwa : World.alloc _ _ = wa14 at hHeld ⊢
            have HZB := zb_new hwa
            try (have HNE := ne_after HMF.out)
            try (have HMF := mf_al HMF hwa)
            try (have HA := papp_al HA hwa)
            try (have HP1 := prow_al HP1 hwa)
            try (have HP9 := prow_al HP9 hwa)
            clear hwa
            try (have zz0 := HZB.out.1.1; have zz1 := HZB.out.1.2.1; have zf0 := HZB.out.1.2.2.1; have zf1 := HZB.out.1.2.2.2)
            refine wpAnyH_ready (rs := [4, 8]) (by kernel_rfl) (by simp) ?_
            refine AllReadyH.cons (o := { dst := some 48, op := Go.Op.call { callee := Go.Callee.builtin Go.Builtin.append, args := #[Go.Operand.tmp 46, Go.Operand.tmp 47], argTypes := #[37, 37] }, type := 37, pos := "embed.go:391", after := #[{ on := 2, ground := Go.Ground.data }, { on := 3, ground := Go.Ground.data }], guard := none }) rfl (fun K hK => ?_) ?_
            · rw [if_pos (by rfl)]
              refine wp_app0 _ _ _ rfl _ rfl vC (covs g len) rfl (HCV.out.below hHeld) HCL.out w3.heap.size hHeld.size ?_
              intro v4 w4 hA4 hg4
              refine hK.out _ _ ?_ (fun hHeld => ?_)
              · exact hHeld.grown hg4 hHeld.size (fun k e => by cases e)
              clear hK K
              try simp only [Act.put, List.setIfInBounds_toArray, List.set_cons_zero, List.set_cons_succ]
              have HA : Hid (PApp w4 w3.heap.size v4 (covs g len)) := hA4
              try (have HP1 := prow_gr HP1 hg4)
              try (have HZB := zb_gr HZB hg4 (fun k e => by cases e))
              try (have zz0 := HZB.out.1.1; have zz1 := HZB.out.1.2.1; have zf0 := HZB.out.1.2.2.1; have zf1 := HZB.out.1.2.2.2)
              refine wpAnyH_ready (rs := [8]) (by kernel_rfl) (by simp) ?_
              refine AllReadyH.cons (o := { dst := some 52, op := Go.Op.buildSlice 37 1 #[(0, Go.Operand.tmp 51)], type := 37, pos := "embed.go:391", after := #[{ on := 7, ground := Go.Ground.data }], guard := none }) rfl (fun K hK => ?_) AllReadyH.nil
              go_simp
              skip
              refine hK.out _ _ ?_ (fun hHeld => ?_)
              · exact Below.alloc hHeld hHeld.size _
              clear hK K
              try simp only [Act.put, List.setIfInBounds_toArray, List.set_cons_zero, List.set_cons_succ]
              generalize hwa : World.alloc _ _ = wa8 at hHeld ⊢
              have HP1 := prow_new (A := A) (B := B) hwa
              try (have HA := papp_al HA hwa)
              try (have HZB := zb_al HZB hwa)
              clear hwa
              try (have zz0 := HZB.out.1.1; have zz1 := HZB.out.1.2.1; have zf0 := HZB.out.1.2.2.1; have zf1 := HZB.out.1.2.2.2)
              refine wpAnyH_ready (rs := [9]) (by kernel_rfl) (by simp) ?_
              refine AllReadyH.cons (o := { dst := some 53, op := Go.Op.call { callee := Go.Callee.builtin Go.Builtin.append, args := #[Go.Operand.tmp 48, Go.Operand.tmp 52], argTypes := #[37, 37] }, type := 37, pos := "embed.go:391", after := #[{ on := 4, ground := Go.Ground.data }, { on := 8, ground := Go.Ground.data }, { on := 4, ground := Go.Ground.chain }], guard := none }) rfl (fun K hK => ?_) AllReadyH.nil
              rw [if_pos (by rfl)]
              refine wp_app1 _ _ _ rfl v4 (covs g len) rfl w3.heap.size HA.out _ A B rfl HP1.out (Nat.le_trans HCS.out (by decide)) hHeld.size ?_
              intro v9 w9 hA9 hg9
              obtain ⟨row9, hg9, hr9⟩ := hg9
              obtain ⟨a9, c9, rfl, hp9⟩ := hA9.pairs
              rw [HN9.out] at hp9
              rw [HP9E.out] at hp9
              rw [HN9.out]
              refine hK.out _ _ ?_ (fun hHeld => ?_)
              · exact hHeld.grown hg9 hHeld.size (fun k e => (hr9 k e).2)
              clear hK K
              try simp only [Act.put, List.setIfInBounds_toArray, List.set_cons_zero, List.set_cons_succ]
              have HP9 : Hid (PRow w9 a9 n9 p9) := hp9
              try (have HZB := zb_gr HZB hg9 (fun k e => (hr9 k e).1))
              try (have zz0 := HZB.out.1.1; have zz1 := HZB.out.1.2.1; have zf0 := HZB.out.1.2.2.1; have zf1 := HZB.out.1.2.2.2)
              refine wpAnyH_ready (rs := [10]) (by kernel_rfl) (by simp) ?_
              refine AllReadyH.cons (o := { dst := some 54, op := Go.Op.call { callee := Go.Callee.value (Go.Operand.func 26), args := #[Go.Operand.tmp 45, Go.Operand.tmp 53], argTypes := #[3, 37] }, type := 49, pos := "embed.go:391", after := #[{ on := 1, ground := Go.Ground.data }, { on := 9, ground := Go.Ground.data }, { on := 9, ground := Go.Ground.chain }], guard := none }) rfl (fun K hK => ?_) AllReadyH.nil
              go_simp
              refine (make_any len a9 n9 c9 p9 _ HPLN.out HP9.out).mono ?_
              rintro e wm ⟨hmade, hbm⟩
              obtain ⟨mi, ma, ml, mc, mcc, rfl, hmf⟩ := HMG.out _ _ _ hmade
              refine hK.out _ _ ?_ (fun hHeld => ?_)
              · exact Below.then hHeld hbm
              clear hK K
              try simp only [Act.put, List.setIfInBounds_toArray, List.set_cons_zero, List.set_cons_succ]
              have HMF := mf_hid hmf
              try (have HNE := ne_before HMF.out HZB)
              try (have HZB := zb_be HZB hbm)
              try (have zz0 := HZB.out.1.1; have zz1 := HZB.out.1.2.1; have zf0 := HZB.out.1.2.2.1; have zf1 := HZB.out.1.2.2.2)
              refine wpAnyH_take (i := 11) (oi := { dst := some 43, op := Go.Op.move (Go.Operand.tmp 54), type := 49, pos := "embed.go:391", after := #[{ on := 10, ground := Go.Ground.data }], guard := none }) (v := ?_) rfl (by kernel_rfl) (by kernel_rfl) (by kernel_rfl) (fun _ _ _ h => h) (Or.inl ⟨by rfl, ?hy⟩) (by assumption) ?_
              case hy => (intro w9 hSw; (try dsimp only at hSw); go_simp; try with_reducible rfl)
              try simp only [Act.put, List.setIfInBounds_toArray, List.set_cons_zero, List.set_cons_succ]
              refine wpAnyH_take (i := 12) (oi := { dst := some 55, op := Go.Op.extract (Go.Operand.tmp 43) 0, type := 24, pos := "embed.go:391", after := #[{ on := 11, ground := Go.Ground.data }], guard := none }) (v := ?_) rfl (by kernel_rfl) (by kernel_rfl) (by kernel_rfl) (fun _ _ _ h => h) (Or.inl ⟨by rfl, ?hy⟩) (by assumption) ?_
              case hy => (intro w9 hSw; (try dsimp only at hSw); go_simp; try with_reducible rfl)
              try simp only [Act.put, List.setIfInBounds_toArray, List.set_cons_zero, List.set_cons_succ]
              refine wpAnyH_take (i := 13) (oi := { dst := some 56, op := Go.Op.extract (Go.Operand.tmp 43) 1, type := 25, pos := "embed.go:391", after := #[{ on := 11, ground := Go.Ground.data }, { on := 15, ground := Go.Ground.gcOnly Go.Departure.lateStores }], guard := none }) (v := ?_) rfl (by kernel_rfl) (by kernel_rfl) (by kernel_rfl) (fun _ _ _ h => h) (Or.inl ⟨by rfl, ?hy⟩) (by assumption) ?_
              case hy => (intro w9 hSw; (try dsimp only at hSw); go_simp; try with_reducible rfl)
              try simp only [Act.put, List.setIfInBounds_toArray, List.set_cons_zero, List.set_cons_succ]
              refine wpAnyH_ready (rs := [15]) (by kernel_rfl) (by simp) ?_
              refine AllReadyH.cons (o := { dst := none, op := Go.Op.store 24 (Go.Operand.tmp 10) (Go.Operand.tmp 55), type := 0, pos := "embed.go:391", after := #[{ on := 14, ground := Go.Ground.data }, { on := 12, ground := Go.Ground.data }, { on := 10, ground := Go.Ground.chain }, { on := 0, ground := Go.Ground.phase }, { on := 1, ground := Go.Ground.phase }, { on := 2, ground := Go.Ground.phase }, { on := 3, ground := Go.Ground.phase }, { on := 4, ground := Go.Ground.phase }, { on := 5, ground := Go.Ground.phase }, { on := 6, ground := Go.Ground.phase }, { on := 7, ground := Go.Ground.phase }, { on := 8, ground := Go.Ground.phase }, { on := 9, ground := Go.Ground.phase }, { on := 10, ground := Go.Ground.phase }, { on := 11, ground := Go.Ground.phase }, { on := 12, ground := Go.Ground.phase }, { on := 13, ground := Go.Ground.textOnly Go.Departure.lateStores }, { on := 14, ground := Go.Ground.phase }], guard := none }) rfl (fun K hK => ?_) AllReadyH.nil
              go_simp
              skip
              refine hK.out _ _ ?_ (fun hHeld => ?_)
              · exact set2K hHeld HS14.out
              clear hK K
              try simp only [Act.put, List.setIfInBounds_toArray, List.set_cons_zero, List.set_cons_succ]
              generalize hw15 : World.setCell _ _ _ = w15 at hHeld ⊢
              have HEND := mf_end HMF HZB HNE hw15
              clear hw15
              refine wpAnyH_take (i := 16) (oi := { dst := some 11, op := Go.Op.assign (Go.Operand.tmp 56), type := 25, pos := "embed.go:391", after := #[{ on := 13, ground := Go.Ground.data }, { on := 15, ground := Go.Ground.chain }, { on := 0, ground := Go.Ground.phase }, { on := 1, ground := Go.Ground.phase }, { on := 2, ground := Go.Ground.phase }, { on := 3, ground := Go.Ground.phase }, { on := 4, ground := Go.Ground.phase }, { on := 5, ground := Go.Ground.phase }, { on := 6, ground := Go.Ground.phase }, { on := 7, ground := Go.Ground.phase }, { on := 8, ground := Go.Ground.phase }, { on := 9, ground := Go.Ground.phase }, { on := 10, ground := Go.Ground.phase }, { on := 11, ground := Go.Ground.phase }, { on := 12, ground := Go.Ground.phase }, { on := 13, ground := Go.Ground.phase }, { on := 14, ground := Go.Ground.phase }, { on := 15, ground := Go.Ground.phase }], guard := none }) (v := ?_) rfl (by kernel_rfl) (by kernel_rfl) (by kernel_rfl) (fun _ _ _ h => h) (Or.inl ⟨by rfl, ?hy⟩) (by assumption) ?_
              case hy => (intro w9 hSw; (try dsimp only at hSw); go_simp; try with_reducible rfl)
              try simp only [Act.put, List.setIfInBounds_toArray, List.set_cons_zero, List.set_cons_succ]
              refine wpAnyH_done (by kernel_rfl) ?_ _
              try simp only [Act.put, List.setIfInBounds_toArray, List.set_cons_zero, List.set_cons_succ]
              go_wp2_with fail
              go_meet
              exact ⟨_, _, rfl, rfl, hHeld, HEND⟩
            refine AllReadyH.cons (o := { dst := some 52, op := Go.Op.buildSlice 37 1 #[(0, Go.Operand.tmp 51)], type := 37, pos := "embed.go:391", after := #[{ on := 7, ground := Go.Ground.data }], guard := none }) rfl (fun K hK => ?_) ?_
            · go_simp
              skip
              refine hK.out _ _ ?_ (fun hHeld => ?_)
              · exact Below.alloc hHeld hHeld.size _
              clear hK K
              try simp only [Act.put, List.setIfInBounds_toArray, List.set_cons_zero, List.set_cons_succ]
              generalize hwa : World.alloc _ _ = wa8 at hHeld ⊢
              have HP1 := prow_new (A := A) (B := B) hwa
              try (have HA := papp_al HA hwa)
              try (have HZB := zb_al HZB hwa)
              clear hwa
              try (have zz0 := HZB.out.1.1; have zz1 := HZB.out.1.2.1; have zf0 := HZB.out.1.2.2.1; have zf1 := HZB.out.1.2.2.2)
              refine wpAnyH_ready (rs := [4]) (by kernel_rfl) (by simp) ?_
              refine AllReadyH.cons (o := { dst := some 48, op := Go.Op.call { callee := Go.Callee.builtin Go.Builtin.append, args := #[Go.Operand.tmp 46, Go.Operand.tmp 47], argTypes := #[37, 37] }, type := 37, pos := "embed.go:391", after := #[{ on := 2, ground := Go.Ground.data }, { on := 3, ground := Go.Ground.data }], guard := none }) rfl (fun K hK => ?_) AllReadyH.nil
              rw [if_pos (by rfl)]
              refine wp_app0 _ _ _ rfl _ rfl vC (covs g len) rfl (HCV.out.below hHeld) HCL.out w3.heap.size hHeld.size ?_
              intro v4 w4 hA4 hg4
              refine hK.out _ _ ?_ (fun hHeld => ?_)
              · exact hHeld.grown hg4 hHeld.size (fun k e => by cases e)
              clear hK K
              try simp only [Act.put, List.setIfInBounds_toArray, List.set_cons_zero, List.set_cons_succ]
              have HA : Hid (PApp w4 w3.heap.size v4 (covs g len)) := hA4
              try (have HP1 := prow_gr HP1 hg4)
              try (have HZB := zb_gr HZB hg4 (fun k e => by cases e))
              try (have zz0 := HZB.out.1.1; have zz1 := HZB.out.1.2.1; have zf0 := HZB.out.1.2.2.1; have zf1 := HZB.out.1.2.2.2)
              refine wpAnyH_ready (rs := [9]) (by kernel_rfl) (by simp) ?_
              refine AllReadyH.cons (o := { dst := some 53, op := Go.Op.call { callee := Go.Callee.builtin Go.Builtin.append, args := #[Go.Operand.tmp 48, Go.Operand.tmp 52], argTypes := #[37, 37] }, type := 37, pos := "embed.go:391", after := #[{ on := 4, ground := Go.Ground.data }, { on := 8, ground := Go.Ground.data }, { on := 4, ground := Go.Ground.chain }], guard := none }) rfl (fun K hK => ?_) AllReadyH.nil
              rw [if_pos (by rfl)]
              refine wp_app1 _ _ _ rfl v4 (covs g len) rfl w3.heap.size HA.out _ A B rfl HP1.out (Nat.le_trans HCS.out (by decide)) hHeld.size ?_
              intro v9 w9 hA9 hg9
              obtain ⟨row9, hg9, hr9⟩ := hg9
              obtain ⟨a9, c9, rfl, hp9⟩ := hA9.pairs
              rw [HN9.out] at hp9
              rw [HP9E.out] at hp9
              rw [HN9.out]
              refine hK.out _ _ ?_ (fun hHeld => ?_)
              · exact hHeld.grown hg9 hHeld.size (fun k e => (hr9 k e).2)
              clear hK K
              try simp only [Act.put, List.setIfInBounds_toArray, List.set_cons_zero, List.set_cons_succ]
              have HP9 : Hid (PRow w9 a9 n9 p9) := hp9
              try (have HZB := zb_gr HZB hg9 (fun k e => (hr9 k e).1))
              try (have zz0 := HZB.out.1.1; have zz1 := HZB.out.1.2.1; have zf0 := HZB.out.1.2.2.1; have zf1 := HZB.out.1.2.2.2)
              refine wpAnyH_ready (rs := [10]) (by kernel_rfl) (by simp) ?_
              refine AllReadyH.cons (o := { dst := some 54, op := Go.Op.call { callee := Go.Callee.value (Go.Operand.func 26), args := #[Go.Operand.tmp 45, Go.Operand.tmp 53], argTypes := #[3, 37] }, type := 49, pos := "embed.go:391", after := #[{ on := 1, ground := Go.Ground.data }, { on := 9, ground := Go.Ground.data }, { on := 9, ground := Go.Ground.chain }], guard := none }) rfl (fun K hK => ?_) AllReadyH.nil
              go_simp
              refine (make_any len a9 n9 c9 p9 _ HPLN.out HP9.out).mono ?_
              rintro e wm ⟨hmade, hbm⟩
              obtain ⟨mi, ma, ml, mc, mcc, rfl, hmf⟩ := HMG.out _ _ _ hmade
              refine hK.out _ _ ?_ (fun hHeld => ?_)
              · exact Below.then hHeld hbm
              clear hK K
              try simp only [Act.put, List.setIfInBounds_toArray, List.set_cons_zero, List.set_cons_succ]
              have HMF := mf_hid hmf
              try (have HNE := ne_before HMF.out HZB)
              try (have HZB := zb_be HZB hbm)
              try (have zz0 := HZB.out.1.1; have zz1 := HZB.out.1.2.1; have zf0 := HZB.out.1.2.2.1; have zf1 := HZB.out.1.2.2.2)
              refine wpAnyH_take (i := 11) (oi := { dst := some 43, op := Go.Op.move (Go.Operand.tmp 54), type := 49, pos := "embed.go:391", after := #[{ on := 10, ground := Go.Ground.data }], guard := none }) (v := ?_) rfl (by kernel_rfl) (by kernel_rfl) (by kernel_rfl) (fun _ _ _ h => h) (Or.inl ⟨by rfl, ?hy⟩) (by assumption) ?_
              case hy => (intro w9 hSw; (try dsimp only at hSw); go_simp; try with_reducible rfl)
              try simp only [Act.put, List.setIfInBounds_toArray, List.set_cons_zero, List.set_cons_succ]
              refine wpAnyH_take (i := 12) (oi := { dst := some 55, op := Go.Op.extract (Go.Operand.tmp 43) 0, type := 24, pos := "embed.go:391", after := #[{ on := 11, ground := Go.Ground.data }], guard := none }) (v := ?_) rfl (by kernel_rfl) (by kernel_rfl) (by kernel_rfl) (fun _ _ _ h => h) (Or.inl ⟨by rfl, ?hy⟩) (by assumption) ?_
              case hy => (intro w9 hSw; (try dsimp only at hSw); go_simp; try with_reducible rfl)
              try simp only [Act.put, List.setIfInBounds_toArray, List.set_cons_zero, List.set_cons_succ]
              refine wpAnyH_take (i := 13) (oi := { dst := some 56, op := Go.Op.extract (Go.Operand.tmp 43) 1, type := 25, pos := "embed.go:391", after := #[{ on := 11, ground := Go.Ground.data }, { on := 15, ground := Go.Ground.gcOnly Go.Departure.lateStores }], guard := none }) (v := ?_) rfl (by kernel_rfl) (by kernel_rfl) (by kernel_rfl) (fun _ _ _ h => h) (Or.inl ⟨by rfl, ?hy⟩) (by assumption) ?_
              case hy => (intro w9 hSw; (try dsimp only at hSw); go_simp; try with_reducible rfl)
              try simp only [Act.put, List.setIfInBounds_toArray, List.set_cons_zero, List.set_cons_succ]
              refine wpAnyH_ready (rs := [15]) (by kernel_rfl) (by simp) ?_
              refine AllReadyH.cons (o := { dst := none, op := Go.Op.store 24 (Go.Operand.tmp 10) (Go.Operand.tmp 55), type := 0, pos := "embed.go:391", after := #[{ on := 14, ground := Go.Ground.data }, { on := 12, ground := Go.Ground.data }, { on := 10, ground := Go.Ground.chain }, { on := 0, ground := Go.Ground.phase }, { on := 1, ground := Go.Ground.phase }, { on := 2, ground := Go.Ground.phase }, { on := 3, ground := Go.Ground.phase }, { on := 4, ground := Go.Ground.phase }, { on := 5, ground := Go.Ground.phase }, { on := 6, ground := Go.Ground.phase }, { on := 7, ground := Go.Ground.phase }, { on := 8, ground := Go.Ground.phase }, { on := 9, ground := Go.Ground.phase }, { on := 10, ground := Go.Ground.phase }, { on := 11, ground := Go.Ground.phase }, { on := 12, ground := Go.Ground.phase }, { on := 13, ground := Go.Ground.textOnly Go.Departure.lateStores }, { on := 14, ground := Go.Ground.phase }], guard := none }) rfl (fun K hK => ?_) AllReadyH.nil
              go_simp
              skip
              refine hK.out _ _ ?_ (fun hHeld => ?_)
              · exact set2K hHeld HS14.out
              clear hK K
              try simp only [Act.put, List.setIfInBounds_toArray, List.set_cons_zero, List.set_cons_succ]
              generalize hw15 : World.setCell _ _ _ = w15 at hHeld ⊢
              have HEND := mf_end HMF HZB HNE hw15
              clear hw15
              refine wpAnyH_take (i := 16) (oi := { dst := some 11, op := Go.Op.assign (Go.Operand.tmp 56), type := 25, pos := "embed.go:391", after := #[{ on := 13, ground := Go.Ground.data }, { on := 15, ground := Go.Ground.chain }, { on := 0, ground := Go.Ground.phase }, { on := 1, ground := Go.Ground.phase }, { on := 2, ground := Go.Ground.phase }, { on := 3, ground := Go.Ground.phase }, { on := 4, ground := Go.Ground.phase }, { on := 5, ground := Go.Ground.phase }, { on := 6, ground := Go.Ground.phase }, { on := 7, ground := Go.Ground.phase }, { on := 8, ground := Go.Ground.phase }, { on := 9, ground := Go.Ground.phase }, { on := 10, ground := Go.Ground.phase }, { on := 11, ground := Go.Ground.phase }, { on := 12, ground := Go.Ground.phase }, { on := 13, ground := Go.Ground.phase }, { on := 14, ground := Go.Ground.phase }, { on := 15, ground := Go.Ground.phase }], guard := none }) (v := ?_) rfl (by kernel_rfl) (by kernel_rfl) (by kernel_rfl) (fun _ _ _ h => h) (Or.inl ⟨by rfl, ?hy⟩) (by assumption) ?_
              case hy => (intro w9 hSw; (try dsimp only at hSw); go_simp; try with_reducible rfl)
              try simp only [Act.put, List.setIfInBounds_toArray, List.set_cons_zero, List.set_cons_succ]
              refine wpAnyH_done (by kernel_rfl) ?_ _
              try simp only [Act.put, List.setIfInBounds_toArray, List.set_cons_zero, List.set_cons_succ]
              go_wp2_with fail
              go_meet
              exact ⟨_, _, rfl, rfl, hHeld, HEND⟩
            exact AllReadyH.nil
          exact AllReadyH.nil
        refine AllReadyH.cons (o := { dst := some 52, op := Go.Op.buildSlice 37 1 #[(0, Go.Operand.tmp 51)], type := 37, pos := "embed.go:391", after := #[{ on := 7, ground := Go.Ground.data }], guard := none }) rfl (fun K hK => ?_) ?_
        · go_simp
          skip
          refine hK.out _ _ ?_ (fun hHeld => ?_)
          · exact Below.alloc hHeld hHeld.size _
          clear hK K
          try simp only [Act.put, List.setIfInBounds_toArray, List.set_cons_zero, List.set_cons_succ]
          generalize hwa : World.alloc _ _ = wa8 at hHeld ⊢
          have HP1 := prow_new (A := A) (B := B) hwa
          try (have HA := papp_al HA hwa)
          try (have HZB := zb_al HZB hwa)
          clear hwa
          try (have zz0 := HZB.out.1.1; have zz1 := HZB.out.1.2.1; have zf0 := HZB.out.1.2.2.1; have zf1 := HZB.out.1.2.2.2)
          refine wpAnyH_ready (rs := [2, 14]) (by kernel_rfl) (by simp) ?_
          refine AllReadyH.cons (o := { dst := some 46, op := Go.Op.buildSlice 37 0 #[], type := 37, pos := "embed.go:391", after := #[], guard := none }) rfl (fun K hK => ?_) ?_
          · go_simp
            skip
            refine hK.out _ _ ?_ (fun hHeld => ?_)
            · exact Below.alloc hHeld hHeld.size _
            clear hK K
            try simp only [Act.put, List.setIfInBounds_toArray, List.set_cons_zero, List.set_cons_succ]
            generalize hwa : World.alloc _ _ = wa2 at hHeld ⊢
            try (have HP1 := prow_al HP1 hwa)
            try (have HZB := zb_al HZB hwa)
            clear hwa
            try (have zz0 := HZB.out.1.1; have zz1 := HZB.out.1.2.1; have zf0 := HZB.out.1.2.2.1; have zf1 := HZB.out.1.2.2.2)
            refine wpAnyH_ready (rs := [4, 14]) (by kernel_rfl) (by simp) ?_
            refine AllReadyH.cons (o := { dst := some 48, op := Go.Op.call { callee := Go.Callee.builtin Go.Builtin.append, args := #[Go.Operand.tmp 46, Go.Operand.tmp 47], argTypes := #[37, 37] }, type := 37, pos := "embed.go:391", after := #[{ on := 2, ground := Go.Ground.data }, { on := 3, ground := Go.Ground.data }], guard := none }) rfl (fun K hK => ?_) ?_
            · rw [if_pos (by rfl)]
              refine wp_app0 _ _ _ rfl _ rfl vC (covs g len) rfl (HCV.out.below hHeld) HCL.out w3.heap.size hHeld.size ?_
              intro v4 w4 hA4 hg4
              refine hK.out _ _ ?_ (fun hHeld => ?_)
              · exact hHeld.grown hg4 hHeld.size (fun k e => by cases e)
              clear hK K
              try simp only [Act.put, List.setIfInBounds_toArray, List.set_cons_zero, List.set_cons_succ]
              have HA : Hid (PApp w4 w3.heap.size v4 (covs g len)) := hA4
              try (have HP1 := prow_gr HP1 hg4)
              try (have HZB := zb_gr HZB hg4 (fun k e => by cases e))
              try (have zz0 := HZB.out.1.1; have zz1 := HZB.out.1.2.1; have zf0 := HZB.out.1.2.2.1; have zf1 := HZB.out.1.2.2.2)
              refine wpAnyH_ready (rs := [9, 14]) (by kernel_rfl) (by simp) ?_
              refine AllReadyH.cons (o := { dst := some 53, op := Go.Op.call { callee := Go.Callee.builtin Go.Builtin.append, args := #[Go.Operand.tmp 48, Go.Operand.tmp 52], argTypes := #[37, 37] }, type := 37, pos := "embed.go:391", after := #[{ on := 4, ground := Go.Ground.data }, { on := 8, ground := Go.Ground.data }, { on := 4, ground := Go.Ground.chain }], guard := none }) rfl (fun K hK => ?_) ?_
              · rw [if_pos (by rfl)]
                refine wp_app1 _ _ _ rfl v4 (covs g len) rfl w3.heap.size HA.out _ A B rfl HP1.out (Nat.le_trans HCS.out (by decide)) hHeld.size ?_
                intro v9 w9 hA9 hg9
                obtain ⟨row9, hg9, hr9⟩ := hg9
                obtain ⟨a9, c9, rfl, hp9⟩ := hA9.pairs
                rw [HN9.out] at hp9
                rw [HP9E.out] at hp9
                rw [HN9.out]
                refine hK.out _ _ ?_ (fun hHeld => ?_)
                · exact hHeld.grown hg9 hHeld.size (fun k e => (hr9 k e).2)
                clear hK K
                try simp only [Act.put, List.setIfInBounds_toArray, List.set_cons_zero, List.set_cons_succ]
                have HP9 : Hid (PRow w9 a9 n9 p9) := hp9
                try (have HZB := zb_gr HZB hg9 (fun k e => (hr9 k e).1))
                try (have zz0 := HZB.out.1.1; have zz1 := HZB.out.1.2.1; have zf0 := HZB.out.1.2.2.1; have zf1 := HZB.out.1.2.2.2)
                refine wpAnyH_ready (rs := [10, 14]) (by kernel_rfl) (by simp) ?_
                refine AllReadyH.cons (o := { dst := some 54, op := Go.Op.call { callee := Go.Callee.value (Go.Operand.func 26), args := #[Go.Operand.tmp 45, Go.Operand.tmp 53], argTypes := #[3, 37] }, type := 49, pos := "embed.go:391", after := #[{ on := 1, ground := Go.Ground.data }, { on := 9, ground := Go.Ground.data }, { on := 9, ground := Go.Ground.chain }], guard := none }) rfl (fun K hK => ?_) ?_
                · go_simp
                  refine (make_any len a9 n9 c9 p9 _ HPLN.out HP9.out).mono ?_
                  rintro e wm ⟨hmade, hbm⟩
                  obtain ⟨mi, ma, ml, mc, mcc, rfl, hmf⟩ := HMG.out _ _ _ hmade
                  refine hK.out _ _ ?_ (fun hHeld => ?_)
                  · exact Below.then hHeld hbm
                  clear hK K
                  try simp only [Act.put, List.setIfInBounds_toArray, List.set_cons_zero, List.set_cons_succ]
                  have HMF := mf_hid hmf
                  try (have HNE := ne_before HMF.out HZB)
                  try (have HZB := zb_be HZB hbm)
                  try (have zz0 := HZB.out.1.1; have zz1 := HZB.out.1.2.1; have zf0 := HZB.out.1.2.2.1; have zf1 := HZB.out.1.2.2.2)
                  refine wpAnyH_take (i := 11) (oi := { dst := some 43, op := Go.Op.move (Go.Operand.tmp 54), type := 49, pos := "embed.go:391", after := #[{ on := 10, ground := Go.Ground.data }], guard := none }) (v := ?_) rfl (by kernel_rfl) (by kernel_rfl) (by kernel_rfl) (fun _ _ _ h => h) (Or.inl ⟨by rfl, ?hy⟩) (by assumption) ?_
                  case hy => (intro w9 hSw; (try dsimp only at hSw); go_simp; try with_reducible rfl)
                  try simp only [Act.put, List.setIfInBounds_toArray, List.set_cons_zero, List.set_cons_succ]
                  refine wpAnyH_take (i := 12) (oi := { dst := some 55, op := Go.Op.extract (Go.Operand.tmp 43) 0, type := 24, pos := "embed.go:391", after := #[{ on := 11, ground := Go.Ground.data }], guard := none }) (v := ?_) rfl (by kernel_rfl) (by kernel_rfl) (by kernel_rfl) (fun _ _ _ h => h) (Or.inl ⟨by rfl, ?hy⟩) (by assumption) ?_
                  case hy => (intro w9 hSw; (try dsimp only at hSw); go_simp; try with_reducible rfl)
                  try simp only [Act.put, List.setIfInBounds_toArray, List.set_cons_zero, List.set_cons_succ]
                  refine wpAnyH_take (i := 13) (oi := { dst := some 56, op := Go.Op.extract (Go.Operand.tmp 43) 1, type := 25, pos := "embed.go:391", after := #[{ on := 11, ground := Go.Ground.data }, { on := 15, ground := Go.Ground.gcOnly Go.Departure.lateStores }], guard := none }) (v := ?_) rfl (by kernel_rfl) (by kernel_rfl) (by kernel_rfl) (fun _ _ _ h => h) (Or.inl ⟨by rfl, ?hy⟩) (by assumption) ?_
                  case hy => (intro w9 hSw; (try dsimp only at hSw); go_simp; try with_reducible rfl)
                  try simp only [Act.put, List.setIfInBounds_toArray, List.set_cons_zero, List.set_cons_succ]
                  refine wpAnyH_ready (rs := [14]) (by kernel_rfl) (by simp) ?_
                  refine AllReadyH.cons (o := { dst := some 10, op := Go.Op.alloc 24, type := 0, pos := "embed.go:391", after := #[], guard := none }) rfl (fun K hK => ?_) AllReadyH.nil
                  go_simp
                  have HS14 : Hid (w3.heap.size ≤ _) := hHeld.size
                  refine hK.out _ _ ?_ (fun hHeld => ?_)
                  · exact Below.alloc hHeld hHeld.size _
                  clear hK K
                  try simp only [Act.put, List.setIfInBounds_toArray, List.set_cons_zero, List.set_cons_succ]
                  generalize hwa : World.alloc _ _ = wa14 at hHeld ⊢
                  have HZB := zb_new hwa
                  try (have HNE := ne_after HMF.out)
                  try (have HMF := mf_al HMF hwa)
                  try (have HA := papp_al HA hwa)
                  try (have HP1 := prow_al HP1 hwa)
                  try (have HP9 := prow_al HP9 hwa)
                  clear hwa
                  try (have zz0 := HZB.out.1.1; have zz1 := HZB.out.1.2.1; have zf0 := HZB.out.1.2.2.1; have zf1 := HZB.out.1.2.2.2)
                  refine wpAnyH_ready (rs := [15]) (by kernel_rfl) (by simp) ?_
                  refine AllReadyH.cons (o := { dst := none, op := Go.Op.store 24 (Go.Operand.tmp 10) (Go.Operand.tmp 55), type := 0, pos := "embed.go:391", after := #[{ on := 14, ground := Go.Ground.data }, { on := 12, ground := Go.Ground.data }, { on := 10, ground := Go.Ground.chain }, { on := 0, ground := Go.Ground.phase }, { on := 1, ground := Go.Ground.phase }, { on := 2, ground := Go.Ground.phase }, { on := 3, ground := Go.Ground.phase }, { on := 4, ground := Go.Ground.phase }, { on := 5, ground := Go.Ground.phase }, { on := 6, ground := Go.Ground.phase }, { on := 7, ground := Go.Ground.phase }, { on := 8, ground := Go.Ground.phase }, { on := 9, ground := Go.Ground.phase }, { on := 10, ground := Go.Ground.phase }, { on := 11, ground := Go.Ground.phase }, { on := 12, ground := Go.Ground.phase }, { on := 13, ground := Go.Ground.textOnly Go.Departure.lateStores }, { on := 14, ground := Go.Ground.phase }], guard := none }) rfl (fun K hK => ?_) AllReadyH.nil
                  go_simp
                  skip
                  refine hK.out _ _ ?_ (fun hHeld => ?_)
                  · exact set2K hHeld HS14.out
                  clear hK K
                  try simp only [Act.put, List.setIfInBounds_toArray, List.set_cons_zero, List.set_cons_succ]
                  generalize hw15 : World.setCell _ _ _ = w15 at hHeld ⊢
                  have HEND := mf_end HMF HZB HNE hw15
                  clear hw15
                  refine wpAnyH_take (i := 16) (oi := { dst := some 11, op := Go.Op.assign (Go.Operand.tmp 56), type := 25, pos := "embed.go:391", after := #[{ on := 13, ground := Go.Ground.data }, { on := 15, ground := Go.Ground.chain }, { on := 0, ground := Go.Ground.phase }, { on := 1, ground := Go.Ground.phase }, { on := 2, ground := Go.Ground.phase }, { on := 3, ground := Go.Ground.phase }, { on := 4, ground := Go.Ground.phase }, { on := 5, ground := Go.Ground.phase }, { on := 6, ground := Go.Ground.phase }, { on := 7, ground := Go.Ground.phase }, { on := 8, ground := Go.Ground.phase }, { on := 9, ground := Go.Ground.phase }, { on := 10, ground := Go.Ground.phase }, { on := 11, ground := Go.Ground.phase }, { on := 12, ground := Go.Ground.phase }, { on := 13, ground := Go.Ground.phase }, { on := 14, ground := Go.Ground.phase }, { on := 15, ground := Go.Ground.phase }], guard := none }) (v := ?_) rfl (by kernel_rfl) (by kernel_rfl) (by kernel_rfl) (fun _ _ _ h => h) (Or.inl ⟨by rfl, ?hy⟩) (by assumption) ?_
                  case hy => (intro w9 hSw; (try dsimp only at hSw); go_simp; try with_reducible rfl)
                  try simp only [Act.put, List.setIfInBounds_toArray, List.set_cons_zero, List.set_cons_succ]
                  refine wpAnyH_done (by kernel_rfl) ?_ _
                  try simp only [Act.put, List.setIfInBounds_toArray, List.set_cons_zero, List.set_cons_succ]
                  go_wp2_with fail
                  go_meet
                  exact ⟨_, _, rfl, rfl, hHeld, HEND⟩
                refine AllReadyH.cons (o := { dst := some 10, op := Go.Op.alloc 24, type := 0, pos := "embed.go:391", after := #[], guard := none }) rfl (fun K hK => ?_) ?_
                · go_simp
                  have HS14 : Hid (w3.heap.size ≤ _) := hHeld.size
                  refine hK.out _ _ ?_ (fun hHeld => ?_)
                  · exact Below.alloc hHeld hHeld.size _
                  clear hK K
                  try simp only [Act.put, List.setIfInBounds_toArray, List.set_cons_zero, List.set_cons_succ]
                  generalize hwa : World.alloc _ _ = wa14 at hHeld ⊢
                  have HZB := zb_new hwa
                  try (have HNE := ne_after HMF.out)
                  try (have HMF := mf_al HMF hwa)
                  try (have HA := papp_al HA hwa)
                  try (have HP1 := prow_al HP1 hwa)
                  try (have HP9 := prow_al HP9 hwa)
                  clear hwa
                  try (have zz0 := HZB.out.1.1; have zz1 := HZB.out.1.2.1; have zf0 := HZB.out.1.2.2.1; have zf1 := HZB.out.1.2.2.2)
                  refine wpAnyH_ready (rs := [10]) (by kernel_rfl) (by simp) ?_
                  refine AllReadyH.cons (o := { dst := some 54, op := Go.Op.call { callee := Go.Callee.value (Go.Operand.func 26), args := #[Go.Operand.tmp 45, Go.Operand.tmp 53], argTypes := #[3, 37] }, type := 49, pos := "embed.go:391", after := #[{ on := 1, ground := Go.Ground.data }, { on := 9, ground := Go.Ground.data }, { on := 9, ground := Go.Ground.chain }], guard := none }) rfl (fun K hK => ?_) AllReadyH.nil
                  go_simp
                  refine (make_any len a9 n9 c9 p9 _ HPLN.out HP9.out).mono ?_
                  rintro e wm ⟨hmade, hbm⟩
                  obtain ⟨mi, ma, ml, mc, mcc, rfl, hmf⟩ := HMG.out _ _ _ hmade
                  refine hK.out _ _ ?_ (fun hHeld => ?_)
                  · exact Below.then hHeld hbm
                  clear hK K
                  try simp only [Act.put, List.setIfInBounds_toArray, List.set_cons_zero, List.set_cons_succ]
                  have HMF := mf_hid hmf
                  try (have HNE := ne_before HMF.out HZB)
                  try (have HZB := zb_be HZB hbm)
                  try (have zz0 := HZB.out.1.1; have zz1 := HZB.out.1.2.1; have zf0 := HZB.out.1.2.2.1; have zf1 := HZB.out.1.2.2.2)
                  refine wpAnyH_take (i := 11) (oi := { dst := some 43, op := Go.Op.move (Go.Operand.tmp 54), type := 49, pos := "embed.go:391", after := #[{ on := 10, ground := Go.Ground.data }], guard := none }) (v := ?_) rfl (by kernel_rfl) (by kernel_rfl) (by kernel_rfl) (fun _ _ _ h => h) (Or.inl ⟨by rfl, ?hy⟩) (by assumption) ?_
                  case hy => (intro w9 hSw; (try dsimp only at hSw); go_simp; try with_reducible rfl)
                  try simp only [Act.put, List.setIfInBounds_toArray, List.set_cons_zero, List.set_cons_succ]
                  refine wpAnyH_take (i := 12) (oi := { dst := some 55, op := Go.Op.extract (Go.Operand.tmp 43) 0, type := 24, pos := "embed.go:391", after := #[{ on := 11, ground := Go.Ground.data }], guard := none }) (v := ?_) rfl (by kernel_rfl) (by kernel_rfl) (by kernel_rfl) (fun _ _ _ h => h) (Or.inl ⟨by rfl, ?hy⟩) (by assumption) ?_
                  case hy => (intro w9 hSw; (try dsimp only at hSw); go_simp; try with_reducible rfl)
                  try simp only [Act.put, List.setIfInBounds_toArray, List.set_cons_zero, List.set_cons_succ]
                  refine wpAnyH_take (i := 13) (oi := { dst := some 56, op := Go.Op.extract (Go.Operand.tmp 43) 1, type := 25, pos := "embed.go:391", after := #[{ on := 11, ground := Go.Ground.data }, { on := 15, ground := Go.Ground.gcOnly Go.Departure.lateStores }], guard := none }) (v := ?_) rfl (by kernel_rfl) (by kernel_rfl) (by kernel_rfl) (fun _ _ _ h => h) (Or.inl ⟨by rfl, ?hy⟩) (by assumption) ?_
                  case hy => (intro w9 hSw; (try dsimp only at hSw); go_simp; try with_reducible rfl)
                  try simp only [Act.put, List.setIfInBounds_toArray, List.set_cons_zero, List.set_cons_succ]
                  refine wpAnyH_ready (rs := [15]) (by kernel_rfl) (by simp) ?_
                  refine AllReadyH.cons (o := { dst := none, op := Go.Op.store 24 (Go.Operand.tmp 10) (Go.Operand.tmp 55), type := 0, pos := "embed.go:391", after := #[{ on := 14, ground := Go.Ground.data }, { on := 12, ground := Go.Ground.data }, { on := 10, ground := Go.Ground.chain }, { on := 0, ground := Go.Ground.phase }, { on := 1, ground := Go.Ground.phase }, { on := 2, ground := Go.Ground.phase }, { on := 3, ground := Go.Ground.phase }, { on := 4, ground := Go.Ground.phase }, { on := 5, ground := Go.Ground.phase }, { on := 6, ground := Go.Ground.phase }, { on := 7, ground := Go.Ground.phase }, { on := 8, ground := Go.Ground.phase }, { on := 9, ground := Go.Ground.phase }, { on := 10, ground := Go.Ground.phase }, { on := 11, ground := Go.Ground.phase }, { on := 12, ground := Go.Ground.phase }, { on := 13, ground := Go.Ground.textOnly Go.Departure.lateStores }, { on := 14, ground := Go.Ground.phase }], guard := none }) rfl (fun K hK => ?_) AllReadyH.nil
                  go_simp
                  skip
                  refine hK.out _ _ ?_ (fun hHeld => ?_)
                  · exact set2K hHeld HS14.out
                  clear hK K
                  try simp only [Act.put, List.setIfInBounds_toArray, List.set_cons_zero, List.set_cons_succ]
                  generalize hw15 : World.setCell _ _ _ = w15 at hHeld ⊢
                  have HEND := mf_end HMF HZB HNE hw15
                  clear hw15
                  refine wpAnyH_take (i := 16) (oi := { dst := some 11, op := Go.Op.assign (Go.Operand.tmp 56), type := 25, pos := "embed.go:391", after := #[{ on := 13, ground := Go.Ground.data }, { on := 15, ground := Go.Ground.chain }, { on := 0, ground := Go.Ground.phase }, { on := 1, ground := Go.Ground.phase }, { on := 2, ground := Go.Ground.phase }, { on := 3, ground := Go.Ground.phase }, { on := 4, ground := Go.Ground.phase }, { on := 5, ground := Go.Ground.phase }, { on := 6, ground := Go.Ground.phase }, { on := 7, ground := Go.Ground.phase }, { on := 8, ground := Go.Ground.phase }, { on := 9, ground := Go.Ground.phase }, { on := 10, ground := Go.Ground.phase }, { on := 11, ground := Go.Ground.phase }, { on := 12, ground := Go.Ground.phase }, { on := 13, ground := Go.Ground.phase }, { on := 14, ground := Go.Ground.phase }, { on := 15, ground := Go.Ground.phase }], guard := none }) (v := ?_) rfl (by kernel_rfl) (by kernel_rfl) (by kernel_rfl) (fun _ _ _ h => h) (Or.inl ⟨by rfl, ?hy⟩) (by assumption) ?_
                  case hy => (intro w9 hSw; (try dsimp only at hSw); go_simp; try with_reducible rfl)
                  try simp only [Act.put, List.setIfInBounds_toArray, List.set_cons_zero, List.set_cons_succ]
                  refine wpAnyH_done (by kernel_rfl) ?_ _
                  try simp only [Act.put, List.setIfInBounds_toArray, List.set_cons_zero, List.set_cons_succ]
                  go_wp2_with fail
                  go_meet
                  exact ⟨_, _, rfl, rfl, hHeld, HEND⟩
                exact AllReadyH.nil
              refine AllReadyH.cons (o := { dst := some 10, op := Go.Op.alloc 24, type := 0, pos := "embed.go:391", after := #[], guard := none }) rfl (fun K hK => ?_) ?_
              · go_simp
                have HS14 : Hid (w3.heap.size ≤ _) := hHeld.size
                refine hK.out _ _ ?_ (fun hHeld => ?_)
                · exact Below.alloc hHeld hHeld.size _
                clear hK K
                try simp only [Act.put, List.setIfInBounds_toArray, List.set_cons_zero, List.set_cons_succ]
                generalize hwa : World.alloc _ _ = wa14 at hHeld ⊢
                have HZB := zb_new hwa
                try (have HNE := ne_after HMF.out)
                try (have HMF := mf_al HMF hwa)
                try (have HA := papp_al HA hwa)
                try (have HP1 := prow_al HP1 hwa)
                try (have HP9 := prow_al HP9 hwa)
                clear hwa
                try (have zz0 := HZB.out.1.1; have zz1 := HZB.out.1.2.1; have zf0 := HZB.out.1.2.2.1; have zf1 := HZB.out.1.2.2.2)
                refine wpAnyH_ready (rs := [9]) (by kernel_rfl) (by simp) ?_
                refine AllReadyH.cons (o := { dst := some 53, op := Go.Op.call { callee := Go.Callee.builtin Go.Builtin.append, args := #[Go.Operand.tmp 48, Go.Operand.tmp 52], argTypes := #[37, 37] }, type := 37, pos := "embed.go:391", after := #[{ on := 4, ground := Go.Ground.data }, { on := 8, ground := Go.Ground.data }, { on := 4, ground := Go.Ground.chain }], guard := none }) rfl (fun K hK => ?_) AllReadyH.nil
                rw [if_pos (by rfl)]
                refine wp_app1 _ _ _ rfl v4 (covs g len) rfl w3.heap.size HA.out _ A B rfl HP1.out (Nat.le_trans HCS.out (by decide)) hHeld.size ?_
                intro v9 w9 hA9 hg9
                obtain ⟨row9, hg9, hr9⟩ := hg9
                obtain ⟨a9, c9, rfl, hp9⟩ := hA9.pairs
                rw [HN9.out] at hp9
                rw [HP9E.out] at hp9
                rw [HN9.out]
                refine hK.out _ _ ?_ (fun hHeld => ?_)
                · exact hHeld.grown hg9 hHeld.size (fun k e => (hr9 k e).2)
                clear hK K
                try simp only [Act.put, List.setIfInBounds_toArray, List.set_cons_zero, List.set_cons_succ]
                have HP9 : Hid (PRow w9 a9 n9 p9) := hp9
                try (have HZB := zb_gr HZB hg9 (fun k e => (hr9 k e).1))
                try (have zz0 := HZB.out.1.1; have zz1 := HZB.out.1.2.1; have zf0 := HZB.out.1.2.2.1; have zf1 := HZB.out.1.2.2.2)
                refine wpAnyH_ready (rs := [10]) (by kernel_rfl) (by simp) ?_
                refine AllReadyH.cons (o := { dst := some 54, op := Go.Op.call { callee := Go.Callee.value (Go.Operand.func 26), args := #[Go.Operand.tmp 45, Go.Operand.tmp 53], argTypes := #[3, 37] }, type := 49, pos := "embed.go:391", after := #[{ on := 1, ground := Go.Ground.data }, { on := 9, ground := Go.Ground.data }, { on := 9, ground := Go.Ground.chain }], guard := none }) rfl (fun K hK => ?_) AllReadyH.nil
                go_simp
                refine (make_any len a9 n9 c9 p9 _ HPLN.out HP9.out).mono ?_
                rintro e wm ⟨hmade, hbm⟩
                obtain ⟨mi, ma, ml, mc, mcc, rfl, hmf⟩ := HMG.out _ _ _ hmade
                refine hK.out _ _ ?_ (fun hHeld => ?_)
                · exact Below.then hHeld hbm
                clear hK K
                try simp only [Act.put, List.setIfInBounds_toArray, List.set_cons_zero, List.set_cons_succ]
                have HMF := mf_hid hmf
                try (have HNE := ne_before HMF.out HZB)
                try (have HZB := zb_be HZB hbm)
                try (have zz0 := HZB.out.1.1; have zz1 := HZB.out.1.2.1; have zf0 := HZB.out.1.2.2.1; have zf1 := HZB.out.1.2.2.2)
                refine wpAnyH_take (i := 11) (oi := { dst := some 43, op := Go.Op.move (Go.Operand.tmp 54), type := 49, pos := "embed.go:391", after := #[{ on := 10, ground := Go.Ground.data }], guard := none }) (v := ?_) rfl (by kernel_rfl) (by kernel_rfl) (by kernel_rfl) (fun _ _ _ h => h) (Or.inl ⟨by rfl, ?hy⟩) (by assumption) ?_
                case hy => (intro w9 hSw; (try dsimp only at hSw); go_simp; try with_reducible rfl)
                try simp only [Act.put, List.setIfInBounds_toArray, List.set_cons_zero, List.set_cons_succ]
                refine wpAnyH_take (i := 12) (oi := { dst := some 55, op := Go.Op.extract (Go.Operand.tmp 43) 0, type := 24, pos := "embed.go:391", after := #[{ on := 11, ground := Go.Ground.data }], guard := none }) (v := ?_) rfl (by kernel_rfl) (by kernel_rfl) (by kernel_rfl) (fun _ _ _ h => h) (Or.inl ⟨by rfl, ?hy⟩) (by assumption) ?_
                case hy => (intro w9 hSw; (try dsimp only at hSw); go_simp; try with_reducible rfl)
                try simp only [Act.put, List.setIfInBounds_toArray, List.set_cons_zero, List.set_cons_succ]
                refine wpAnyH_take (i := 13) (oi := { dst := some 56, op := Go.Op.extract (Go.Operand.tmp 43) 1, type := 25, pos := "embed.go:391", after := #[{ on := 11, ground := Go.Ground.data }, { on := 15, ground := Go.Ground.gcOnly Go.Departure.lateStores }], guard := none }) (v := ?_) rfl (by kernel_rfl) (by kernel_rfl) (by kernel_rfl) (fun _ _ _ h => h) (Or.inl ⟨by rfl, ?hy⟩) (by assumption) ?_
                case hy => (intro w9 hSw; (try dsimp only at hSw); go_simp; try with_reducible rfl)
                try simp only [Act.put, List.setIfInBounds_toArray, List.set_cons_zero, List.set_cons_succ]
                refine wpAnyH_ready (rs := [15]) (by kernel_rfl) (by simp) ?_
                refine AllReadyH.cons (o := { dst := none, op := Go.Op.store 24 (Go.Operand.tmp 10) (Go.Operand.tmp 55), type := 0, pos := "embed.go:391", after := #[{ on := 14, ground := Go.Ground.data }, { on := 12, ground := Go.Ground.data }, { on := 10, ground := Go.Ground.chain }, { on := 0, ground := Go.Ground.phase }, { on := 1, ground := Go.Ground.phase }, { on := 2, ground := Go.Ground.phase }, { on := 3, ground := Go.Ground.phase }, { on := 4, ground := Go.Ground.phase }, { on := 5, ground := Go.Ground.phase }, { on := 6, ground := Go.Ground.phase }, { on := 7, ground := Go.Ground.phase }, { on := 8, ground := Go.Ground.phase }, { on := 9, ground := Go.Ground.phase }, { on := 10, ground := Go.Ground.phase }, { on := 11, ground := Go.Ground.phase }, { on := 12, ground := Go.Ground.phase }, { on := 13, ground := Go.Ground.textOnly Go.Departure.lateStores }, { on := 14, ground := Go.Ground.phase }], guard := none }) rfl (fun K hK => ?_) AllReadyH.nil
                go_simp
                skip
                refine hK.out _ _ ?_ (fun hHeld => ?_)
                · exact set2K hHeld HS14.out
                clear hK K
                try simp only [Act.put, List.setIfInBounds_toArray, List.set_cons_zero, List.set_cons_succ]
                generalize hw15 : World.setCell _ _ _ = w15 at hHeld ⊢
                have HEND := mf_end HMF HZB HNE hw15
                clear hw15
                refine wpAnyH_take (i := 16) (oi := { dst := some 11, op := Go.Op.assign (Go.Operand.tmp 56), type := 25, pos := "embed.go:391", after := #[{ on := 13, ground := Go.Ground.data }, { on := 15, ground := Go.Ground.chain }, { on := 0, ground := Go.Ground.phase }, { on := 1, ground := Go.Ground.phase }, { on := 2, ground := Go.Ground.phase }, { on := 3, ground := Go.Ground.phase }, { on := 4, ground := Go.Ground.phase }, { on := 5, ground := Go.Ground.phase }, { on := 6, ground := Go.Ground.phase }, { on := 7, ground := Go.Ground.phase }, { on := 8, ground := Go.Ground.phase }, { on := 9, ground := Go.Ground.phase }, { on := 10, ground := Go.Ground.phase }, { on := 11, ground := Go.Ground.phase }, { on := 12, ground := Go.Ground.phase }, { on := 13, ground := Go.Ground.phase }, { on := 14, ground := Go.Ground.phase }, { on := 15, ground := Go.Ground.phase }], guard := none }) (v := ?_) rfl (by kernel_rfl) (by kernel_rfl) (by kernel_rfl) (fun _ _ _ h => h) (Or.inl ⟨by rfl, ?hy⟩) (by assumption) ?_
                case hy => (intro w9 hSw; (try dsimp only at hSw); go_simp; try with_reducible rfl)
                try simp only [Act.put, List.setIfInBounds_toArray, List.set_cons_zero, List.set_cons_succ]
                refine wpAnyH_done (by kernel_rfl) ?_ _
                try simp only [Act.put, List.setIfInBounds_toArray, List.set_cons_zero, List.set_cons_succ]
                go_wp2_with fail
                go_meet
                exact ⟨_, _, rfl, rfl, hHeld, HEND⟩
              exact AllReadyH.nil
            refine AllReadyH.cons (o := { dst := some 10, op := Go.Op.alloc 24, type := 0, pos := "embed.go:391", after := #[], guard := none }) rfl (fun K hK => ?_) ?_
            · go_simp
              have HS14 : Hid (w3.heap.size ≤ _) := hHeld.size
              refine hK.out _ _ ?_ (fun hHeld => ?_)
              · exact Below.alloc hHeld hHeld.size _
              clear hK K
              try simp only [Act.put, List.setIfInBounds_toArray, List.set_cons_zero, List.set_cons_succ]
              generalize hwa : World.alloc _ _ = wa14 at hHeld ⊢
              have HZB := zb_new hwa
              try (have HNE := ne_after HMF.out)
              try (have HMF := mf_al HMF hwa)
              try (have HA := papp_al HA hwa)
              try (have HP1 := prow_al HP1 hwa)
              try (have HP9 := prow_al HP9 hwa)
              clear hwa
              try (have zz0 := HZB.out.1.1; have zz1 := HZB.out.1.2.1; have zf0 := HZB.out.1.2.2.1; have zf1 := HZB.out.1.2.2.2)
              refine wpAnyH_ready (rs := [4]) (by kernel_rfl) (by simp) ?_
              refine AllReadyH.cons (o := { dst := some 48, op := Go.Op.call { callee := Go.Callee.builtin Go.Builtin.append, args := #[Go.Operand.tmp 46, Go.Operand.tmp 47], argTypes := #[37, 37] }, type := 37, pos := "embed.go:391", after := #[{ on := 2, ground := Go.Ground.data }, { on := 3, ground := Go.Ground.data }], guard := none }) rfl (fun K hK => ?_) AllReadyH.nil
              rw [if_pos (by rfl)]
              refine wp_app0 _ _ _ rfl _ rfl vC (covs g len) rfl (HCV.out.below hHeld) HCL.out w3.heap.size hHeld.size ?_
              intro v4 w4 hA4 hg4
              refine hK.out _ _ ?_ (fun hHeld => ?_)
              · exact hHeld.grown hg4 hHeld.size (fun k e => by cases e)
              clear hK K
              try simp only [Act.put, List.setIfInBounds_toArray, List.set_cons_zero, List.set_cons_succ]
              have HA : Hid (PApp w4 w3.heap.size v4 (covs g len)) := hA4
              try (have HP1 := prow_gr HP1 hg4)
              try (have HZB := zb_gr HZB hg4 (fun k e => by cases e))
              try (have zz0 := HZB.out.1.1; have zz1 := HZB.out.1.2.1; have zf0 := HZB.out.1.2.2.1; have zf1 := HZB.out.1.2.2.2)
              refine wpAnyH_ready (rs := [9]) (by kernel_rfl) (by simp) ?_
              refine AllReadyH.cons (o := { dst := some 53, op := Go.Op.call { callee := Go.Callee.builtin Go.Builtin.append, args := #[Go.Operand.tmp 48, Go.Operand.tmp 52], argTypes := #[37, 37] }, type := 37, pos := "embed.go:391", after := #[{ on := 4, ground := Go.Ground.data }, { on := 8, ground := Go.Ground.data }, { on := 4, ground := Go.Ground.chain }], guard := none }) rfl (fun K hK => ?_) AllReadyH.nil
              rw [if_pos (by rfl)]
              refine wp_app1 _ _ _ rfl v4 (covs g len) rfl w3.heap.size HA.out _ A B rfl HP1.out (Nat.le_trans HCS.out (by decide)) hHeld.size ?_
              intro v9 w9 hA9 hg9
              obtain ⟨row9, hg9, hr9⟩ := hg9
              obtain ⟨a9, c9, rfl, hp9⟩ := hA9.pairs
              rw [HN9.out] at hp9
              rw [HP9E.out] at hp9
              rw [HN9.out]
              refine hK.out _ _ ?_ (fun hHeld => ?_)
              · exact hHeld.grown hg9 hHeld.size (fun k e => (hr9 k e).2)
              clear hK K
              try simp only [Act.put, List.setIfInBounds_toArray, List.set_cons_zero, List.set_cons_succ]
              have HP9 : Hid (PRow w9 a9 n9 p9) := hp9
              try (have HZB := zb_gr HZB hg9 (fun k e => (hr9 k e).1))
              try (have zz0 := HZB.out.1.1; have zz1 := HZB.out.1.2.1; have zf0 := HZB.out.1.2.2.1; have zf1 := HZB.out.1.2.2.2)
              refine wpAnyH_ready (rs := [10]) (by kernel_rfl) (by simp) ?_
              refine AllReadyH.cons (o := { dst := some 54, op := Go.Op.call { callee := Go.Callee.value (Go.Operand.func 26), args := #[Go.Operand.tmp 45, Go.Operand.tmp 53], argTypes := #[3, 37] }, type := 49, pos := "embed.go:391", after := #[{ on := 1, ground := Go.Ground.data }, { on := 9, ground := Go.Ground.data }, { on := 9, ground := Go.Ground.chain }], guard := none }) rfl (fun K hK => ?_) AllReadyH.nil
              go_simp
              refine (make_any len a9 n9 c9 p9 _ HPLN.out HP9.out).mono ?_
              rintro e wm ⟨hmade, hbm⟩
              obtain ⟨mi, ma, ml, mc, mcc, rfl, hmf⟩ := HMG.out _ _ _ hmade
              refine hK.out _ _ ?_ (fun hHeld => ?_)
              · exact Below.then hHeld hbm
              clear hK K
              try simp only [Act.put, List.setIfInBounds_toArray, List.set_cons_zero, List.set_cons_succ]
              have HMF := mf_hid hmf
              try (have HNE := ne_before HMF.out HZB)
              try (have HZB := zb_be HZB hbm)
              try (have zz0 := HZB.out.1.1; have zz1 := HZB.out.1.2.1; have zf0 := HZB.out.1.2.2.1; have zf1 := HZB.out.1.2.2.2)
              refine wpAnyH_take (i := 11) (oi := { dst := some 43, op := Go.Op.move (Go.Operand.tmp 54), type := 49, pos := "embed.go:391", after := #[{ on := 10, ground := Go.Ground.data }], guard := none }) (v := ?_) rfl (by kernel_rfl) (by kernel_rfl) (by kernel_rfl) (fun _ _ _ h => h) (Or.inl ⟨by rfl, ?hy⟩) (by assumption) ?_
              case hy => (intro w9 hSw; (try dsimp only at hSw); go_simp; try with_reducible rfl)
              try simp only [Act.put, List.setIfInBounds_toArray, List.set_cons_zero, List.set_cons_succ]
              refine wpAnyH_take (i := 12) (oi := { dst := some 55, op := Go.Op.extract (Go.Operand.tmp 43) 0, type := 24, pos := "embed.go:391", after := #[{ on := 11, ground := Go.Ground.data }], guard := none }) (v := ?_) rfl (by kernel_rfl) (by kernel_rfl) (by kernel_rfl) (fun _ _ _ h => h) (Or.inl ⟨by rfl, ?hy⟩) (by assumption) ?_
              case hy => (intro w9 hSw; (try dsimp only at hSw); go_simp; try with_reducible rfl)
              try simp only [Act.put, List.setIfInBounds_toArray, List.set_cons_zero, List.set_cons_succ]
              refine wpAnyH_take (i := 13) (oi := { dst := some 56, op := Go.Op.extract (Go.Operand.tmp 43) 1, type := 25, pos := "embed.go:391", after := #[{ on := 11, ground := Go.Ground.data }, { on := 15, ground := Go.Ground.gcOnly Go.Departure.lateStores }], guard := none }) (v := ?_) rfl (by kernel_rfl) (by kernel_rfl) (by kernel_rfl) (fun _ _ _ h => h) (Or.inl ⟨by rfl, ?hy⟩) (by assumption) ?_
              case hy => (intro w9 hSw; (try dsimp only at hSw); go_simp; try with_reducible rfl)
              try simp only [Act.put, List.setIfInBounds_toArray, List.set_cons_zero, List.set_cons_succ]
              refine wpAnyH_ready (rs := [15]) (by kernel_rfl) (by simp) ?_
              refine AllReadyH.cons (o := { dst := none, op := Go.Op.store 24 (Go.Operand.tmp 10) (Go.Operand.tmp 55), type := 0, pos := "embed.go:391", after := #[{ on := 14, ground := Go.Ground.data }, { on := 12, ground := Go.Ground.data }, { on := 10, ground := Go.Ground.chain }, { on := 0, ground := Go.Ground.phase }, { on := 1, ground := Go.Ground.phase }, { on := 2, ground := Go.Ground.phase }, { on := 3, ground := Go.Ground.phase }, { on := 4, ground := Go.Ground.phase }, { on := 5, ground := Go.Ground.phase }, { on := 6, ground := Go.Ground.phase }, { on := 7, ground := Go.Ground.phase }, { on := 8, ground := Go.Ground.phase }, { on := 9, ground := Go.Ground.phase }, { on := 10, ground := Go.Ground.phase }, { on := 11, ground := Go.Ground.phase }, { on := 12, ground := Go.Ground.phase }, { on := 13, ground := Go.Ground.textOnly Go.Departure.lateStores }, { on := 14, ground := Go.Ground.phase }], guard := none }) rfl (fun K hK => ?_) AllReadyH.nil
              go_simp
              skip
              refine hK.out _ _ ?_ (fun hHeld => ?_)
              · exact set2K hHeld HS14.out
              clear hK K
              try simp only [Act.put, List.setIfInBounds_toArray, List.set_cons_zero, List.set_cons_succ]
              generalize hw15 : World.setCell _ _ _ = w15 at hHeld ⊢
              have HEND := mf_end HMF HZB HNE hw15
              clear hw15
              refine wpAnyH_take (i := 16) (oi := { dst := some 11, op := Go.Op.assign (Go.Operand.tmp 56), type := 25, pos := "embed.go:391", after := #[{ on := 13, ground := Go.Ground.data }, { on := 15, ground := Go.Ground.chain }, { on := 0, ground := Go.Ground.phase }, { on := 1, ground := Go.Ground.phase }, { on := 2, ground := Go.Ground.phase }, { on := 3, ground := Go.Ground.phase }, { on := 4, ground := Go.Ground.phase }, { on := 5, ground := Go.Ground.phase }, { on := 6, ground := Go.Ground.phase }, { on := 7, ground := Go.Ground.phase }, { on := 8, ground := Go.Ground.phase }, { on := 9, ground := Go.Ground.phase }, { on := 10, ground := Go.Ground.phase }, { on := 11, ground := Go.Ground.phase }, { on := 12, ground := Go.Ground.phase }, { on := 13, ground := Go.Ground.phase }, { on := 14, ground := Go.Ground.phase }, { on := 15, ground := Go.Ground.phase }], guard := none }) (v := ?_) rfl (by kernel_rfl) (by kernel_rfl) (by kernel_rfl) (fun _ _ _ h => h) (Or.inl ⟨by rfl, ?hy⟩) (by assumption) ?_
              case hy => (intro w9 hSw; (try dsimp only at hSw); go_simp; try with_reducible rfl)
              try simp only [Act.put, List.setIfInBounds_toArray, List.set_cons_zero, List.set_cons_succ]
              refine wpAnyH_done (by kernel_rfl) ?_ _
              try simp only [Act.put, List.setIfInBounds_toArray, List.set_cons_zero, List.set_cons_succ]
              go_wp2_with fail
              go_meet
              exact ⟨_, _, rfl, rfl, hHeld, HEND⟩
            exact AllReadyH.nil
          refine AllReadyH.cons (o := { dst := some 10, op := Go.Op.alloc 24, type := 0, pos := "embed.go:391", after := #[], guard := none }) rfl (fun K hK => ?_) ?_
          · go_simp
            have HS14 : Hid (w3.heap.size ≤ _) := hHeld.size
            refine hK.out _ _ ?_ (fun hHeld => ?_)
            · exact Below.alloc hHeld hHeld.size _
            clear hK K
            try simp only [Act.put, List.setIfInBounds_toArray, List.set_cons_zero, List.set_cons_succ]
            generalize hwa : World.alloc _ _ = wa14 at hHeld ⊢
            have HZB := zb_new hwa
            try (have HNE := ne_after HMF.out)
            try (have HMF := mf_al HMF hwa)
            try (have HA := papp_al HA hwa)
            try (have HP1 := prow_al HP1 hwa)
            try (have HP9 := prow_al HP9 hwa)
            clear hwa
            try (have zz0 := HZB.out.1.1; have zz1 := HZB.out.1.2.1; have zf0 := HZB.out.1.2.2.1; have zf1 := HZB.out.1.2.2.2)
            refine wpAnyH_ready (rs := [2]) (by kernel_rfl) (by simp) ?_
            refine AllReadyH.cons (o := { dst := some 46, op := Go.Op.buildSlice 37 0 #[], type := 37, pos := "embed.go:391", after := #[], guard := none }) rfl (fun K hK => ?_) AllReadyH.nil
            go_simp
            skip
            refine hK.out _ _ ?_ (fun hHeld => ?_)
            · exact Below.alloc hHeld hHeld.size _
            clear hK K
            try simp only [Act.put, List.setIfInBounds_toArray, List.set_cons_zero, List.set_cons_succ]
            generalize hwa : World.alloc _ _ = wa2 at hHeld ⊢
            try (have HP1 := prow_al HP1 hwa)
            try (have HZB := zb_al HZB hwa)
            clear hwa
            try (have zz0 := HZB.out.1.1; have zz1 := HZB.out.1.2.1; have zf0 := HZB.out.1.2.2.1; have zf1 := HZB.out.1.2.2.2)
            refine wpAnyH_ready (rs := [4]) (by kernel_rfl) (by simp) ?_
            refine AllReadyH.cons (o := { dst := some 48, op := Go.Op.call { callee := Go.Callee.builtin Go.Builtin.append, args := #[Go.Operand.tmp 46, Go.Operand.tmp 47], argTypes := #[37, 37] }, type := 37, pos := "embed.go:391", after := #[{ on := 2, ground := Go.Ground.data }, { on := 3, ground := Go.Ground.data }], guard := none }) rfl (fun K hK => ?_) AllReadyH.nil
            rw [if_pos (by rfl)]
            refine wp_app0 _ _ _ rfl _ rfl vC (covs g len) rfl (HCV.out.below hHeld) HCL.out w3.heap.size hHeld.size ?_
            intro v4 w4 hA4 hg4
            refine hK.out _ _ ?_ (fun hHeld => ?_)
            · exact hHeld.grown hg4 hHeld.size (fun k e => by cases e)
            clear hK K
            try simp only [Act.put, List.setIfInBounds_toArray, List.set_cons_zero, List.set_cons_succ]
            have HA : Hid (PApp w4 w3.heap.size v4 (covs g len)) := hA4
            try (have HP1 := prow_gr HP1 hg4)
            try (have HZB := zb_gr HZB hg4 (fun k e => by cases e))
            try (have zz0 := HZB.out.1.1; have zz1 := HZB.out.1.2.1; have zf0 := HZB.out.1.2.2.1; have zf1 := HZB.out.1.2.2.2)
            refine wpAnyH_ready (rs := [9]) (by kernel_rfl) (by simp) ?_
            refine AllReadyH.cons (o := { dst := some 53, op := Go.Op.call { callee := Go.Callee.builtin Go.Builtin.append, args := #[Go.Operand.tmp 48, Go.Operand.tmp 52], argTypes := #[37, 37] }, type := 37, pos := "embed.go:391", after := #[{ on := 4, ground := Go.Ground.data }, { on := 8, ground := Go.Ground.data }, { on := 4, ground := Go.Ground.chain }], guard := none }) rfl (fun K hK => ?_) AllReadyH.nil
            rw [if_pos (by rfl)]
            refine wp_app1 _ _ _ rfl v4 (covs g len) rfl w3.heap.size HA.out _ A B rfl HP1.out (Nat.le_trans HCS.out (by decide)) hHeld.size ?_
            intro v9 w9 hA9 hg9
            obtain ⟨row9, hg9, hr9⟩ := hg9
            obtain ⟨a9, c9, rfl, hp9⟩ := hA9.pairs
            rw [HN9.out] at hp9
            rw [HP9E.out] at hp9
            rw [HN9.out]
            refine hK.out _ _ ?_ (fun hHeld => ?_)
            · exact hHeld.grown hg9 hHeld.size (fun k e => (hr9 k e).2)
            clear hK K
            try simp only [Act.put, List.setIfInBounds_toArray, List.set_cons_zero, List.set_cons_succ]
            have HP9 : Hid (PRow w9 a9 n9 p9) := hp9
            try (have HZB := zb_gr HZB hg9 (fun k e => (hr9 k e).1))
            try (have zz0 := HZB.out.1.1; have zz1 := HZB.out.1.2.1; have zf0 := HZB.out.1.2.2.1; have zf1 := HZB.out.1.2.2.2)
            refine wpAnyH_ready (rs := [10]) (by kernel_rfl) (by simp) ?_
            refine AllReadyH.cons (o := { dst := some 54, op := Go.Op.call { callee := Go.Callee.value (Go.Operand.func 26), args := #[Go.Operand.tmp 45, Go.Operand.tmp 53], argTypes := #[3, 37] }, type := 49, pos := "embed.go:391", after := #[{ on := 1, ground := Go.Ground.data }, { on := 9, ground := Go.Ground.data }, { on := 9, ground := Go.Ground.chain }], guard := none }) rfl (fun K hK => ?_) AllReadyH.nil
            go_simp
            refine (make_any len a9 n9 c9 p9 _ HPLN.out HP9.out).mono ?_
            rintro e wm ⟨hmade, hbm⟩
            obtain ⟨mi, ma, ml, mc, mcc, rfl, hmf⟩ := HMG.out _ _ _ hmade
            refine hK.out _ _ ?_ (fun hHeld => ?_)
            · exact Below.then hHeld hbm
            clear hK K
            try simp only [Act.put, List.setIfInBounds_toArray, List.set_cons_zero, List.set_cons_succ]
            have HMF := mf_hid hmf
            try (have HNE := ne_before HMF.out HZB)
            try (have HZB := zb_be HZB hbm)
            try (have zz0 := HZB.out.1.1; have zz1 := HZB.out.1.2.1; have zf0 := HZB.out.1.2.2.1; have zf1 := HZB.out.1.2.2.2)
            refine wpAnyH_take (i := 11) (oi := { dst := some 43, op := Go.Op.move (Go.Operand.tmp 54), type := 49, pos := "embed.go:391", after := #[{ on := 10, ground := Go.Ground.data }], guard := none }) (v := ?_) rfl (by kernel_rfl) (by kernel_rfl) (by kernel_rfl) (fun _ _ _ h => h) (Or.inl ⟨by rfl, ?hy⟩) (by assumption) ?_
            case hy => (intro w9 hSw; (try dsimp only at hSw); go_simp; try with_reducible rfl)
            try simp only [Act.put, List.setIfInBounds_toArray, List.set_cons_zero, List.set_cons_succ]
            refine wpAnyH_take (i := 12) (oi := { dst := some 55, op := Go.Op.extract (Go.Operand.tmp 43) 0, type := 24, pos := "embed.go:391", after := #[{ on := 11, ground := Go.Ground.data }], guard := none }) (v := ?_) rfl (by kernel_rfl) (by kernel_rfl) (by kernel_rfl) (fun _ _ _ h => h) (Or.inl ⟨by rfl, ?hy⟩) (by assumption) ?_
            case hy => (intro w9 hSw; (try dsimp only at hSw); go_simp; try with_reducible rfl)
            try simp only [Act.put, List.setIfInBounds_toArray, List.set_cons_zero, List.set_cons_succ]
            refine wpAnyH_take (i := 13) (oi := { dst := some 56, op := Go.Op.extract (Go.Operand.tmp 43) 1, type := 25, pos := "embed.go:391", after := #[{ on := 11, ground := Go.Ground.data }, { on := 15, ground := Go.Ground.gcOnly Go.Departure.lateStores }], guard := none }) (v := ?_) rfl (by kernel_rfl) (by kernel_rfl) (by kernel_rfl) (fun _ _ _ h => h) (Or.inl ⟨by rfl, ?hy⟩) (by assumption) ?_
            case hy => (intro w9 hSw; (try dsimp only at hSw); go_simp; try with_reducible rfl)
            try simp only [Act.put, List.setIfInBounds_toArray, List.set_cons_zero, List.set_cons_succ]
            refine wpAnyH_ready (rs := [15]) (by kernel_rfl) (by simp) ?_
            refine AllReadyH.cons (o := { dst := none, op := Go.Op.store 24 (Go.Operand.tmp 10) (Go.Operand.tmp 55), type := 0, pos := "embed.go:391", after := #[{ on := 14, ground := Go.Ground.data }, { on := 12, ground := Go.Ground.data }, { on := 10, ground := Go.Ground.chain }, { on := 0, ground := Go.Ground.phase }, { on := 1, ground := Go.Ground.phase }, { on := 2, ground := Go.Ground.phase }, { on := 3, ground := Go.Ground.phase }, { on := 4, ground := Go.Ground.phase }, { on := 5, ground := Go.Ground.phase }, { on := 6, ground := Go.Ground.phase }, { on := 7, ground := Go.Ground.phase }, { on := 8, ground := Go.Ground.phase }, { on := 9, ground := Go.Ground.phase }, { on := 10, ground := Go.Ground.phase }, { on := 11, ground := Go.Ground.phase }, { on := 12, ground := Go.Ground.phase }, { on := 13, ground := Go.Ground.textOnly Go.Departure.lateStores }, { on := 14, ground := Go.Ground.phase }], guard := none }) rfl (fun K hK => ?_) AllReadyH.nil
            go_simp
            skip
            refine hK.out _ _ ?_ (fun hHeld => ?_)
            · exact set2K hHeld HS14.out
            clear hK K
            try simp only [Act.put, List.setIfInBounds_toArray, List.set_cons_zero, List.set_cons_succ]
            generalize hw15 : World.setCell _ _ _ = w15 at hHeld ⊢
            have HEND := mf_end HMF HZB HNE hw15
            clear hw15
            refine wpAnyH_take (i := 16) (oi := { dst := some 11, op := Go.Op.assign (Go.Operand.tmp 56), type := 25, pos := "embed.go:391", after := #[{ on := 13, ground := Go.Ground.data }, { on := 15, ground := Go.Ground.chain }, { on := 0, ground := Go.Ground.phase }, { on := 1, ground := Go.Ground.phase }, { on := 2, ground := Go.Ground.phase }, { on := 3, ground := Go.Ground.phase }, { on := 4, ground := Go.Ground.phase }, { on := 5, ground := Go.Ground.phase }, { on := 6, ground := Go.Ground.phase }, { on := 7, ground := Go.Ground.phase }, { on := 8, ground := Go.Ground.phase }, { on := 9, ground := Go.Ground.phase }, { on := 10, ground := Go.Ground.phase }, { on := 11, ground := Go.Ground.phase }, { on := 12, ground := Go.Ground.phase }, { on := 13, ground := Go.Ground.phase }, { on := 14, ground := Go.Ground.phase }, { on := 15, ground := Go.Ground.phase }], guard := none }) (v := ?_) rfl (by kernel_rfl) (by kernel_rfl) (by kernel_rfl) (fun _ _ _ h => h) (Or.inl ⟨by rfl, ?hy⟩) (by assumption) ?_
            case hy => (intro w9 hSw; (try dsimp only at hSw); go_simp; try with_reducible rfl)
            try simp only [Act.put, List.setIfInBounds_toArray, List.set_cons_zero, List.set_cons_succ]
            refine wpAnyH_done (by kernel_rfl) ?_ _
            try simp only [Act.put, List.setIfInBounds_toArray, List.set_cons_zero, List.set_cons_succ]
            go_wp2_with fail
            go_meet
            exact ⟨_, _, rfl, rfl, hHeld, HEND⟩
          exact AllReadyH.nil
        refine AllReadyH.cons (o := { dst := some 10, op := Go.Op.alloc 24, type := 0, pos := "embed.go:391", after := #[], guard := none }) rfl (fun K hK => ?_) ?_
        · go_simp
          have HS14 : Hid (w3.heap.size ≤ _) := hHeld.size
          refine hK.out _ _ ?_ (fun hHeld => ?_)
          · exact Below.alloc hHeld hHeld.size _
          clear hK K
          try simp only [Act.put, List.setIfInBounds_toArray, List.set_cons_zero, List.set_cons_succ]
          generalize hwa : World.alloc _ _ = wa14 at hHeld ⊢
          have HZB := zb_new hwa
          try (have HNE := ne_after HMF.out)
          try (have HMF := mf_al HMF hwa)
          try (have HA := papp_al HA hwa)
          try (have HP1 := prow_al HP1 hwa)
          try (have HP9 := prow_al HP9 hwa)
          clear hwa
          try (have zz0 := HZB.out.1.1; have zz1 := HZB.out.1.2.1; have zf0 := HZB.out.1.2.2.1; have zf1 := HZB.out.1.2.2.2)
          refine wpAnyH_ready (rs := [2, 8]) (by kernel_rfl) (by simp) ?_
          refine AllReadyH.cons (o := { dst := some 46, op := Go.Op.buildSlice 37 0 #[], type := 37, pos := "embed.go:391", after := #[], guard := none }) rfl (fun K hK => ?_) ?_
          · go_simp
            skip
            refine hK.out _ _ ?_ (fun hHeld => ?_)
            · exact Below.alloc hHeld hHeld.size _
            clear hK K
            try simp only [Act.put, List.setIfInBounds_toArray, List.set_cons_zero, List.set_cons_succ]
            generalize hwa : World.alloc _ _ = wa2 at hHeld ⊢
            try (have HP1 := prow_al HP1 hwa)
            try (have HZB := zb_al HZB hwa)
            clear hwa
            try (have zz0 := HZB.out.1.1; have zz1 := HZB.out.1.2.1; have zf0 := HZB.out.1.2.2.1; have zf1 := HZB.out.1.2.2.2)
            refine wpAnyH_ready (rs := [4, 8]) (by kernel_rfl) (by simp) ?_
            refine AllReadyH.cons (o := { dst := some 48, op := Go.Op.call { callee := Go.Callee.builtin Go.Builtin.append, args := #[Go.Operand.tmp 46, Go.Operand.tmp 47], argTypes := #[37, 37] }, type := 37, pos := "embed.go:391", after := #[{ on := 2, ground := Go.Ground.data }, { on := 3, ground := Go.Ground.data }], guard := none }) rfl (fun K hK => ?_) ?_
            · rw [if_pos (by rfl)]
              refine wp_app0 _ _ _ rfl _ rfl vC (covs g len) rfl (HCV.out.below hHeld) HCL.out w3.heap.size hHeld.size ?_
              intro v4 w4 hA4 hg4
              refine hK.out _ _ ?_ (fun hHeld => ?_)
              · exact hHeld.grown hg4 hHeld.size (fun k e => by cases e)
              clear hK K
              try simp only [Act.put, List.setIfInBounds_toArray, List.set_cons_zero, List.set_cons_succ]
              have HA : Hid (PApp w4 w3.heap.size v4 (covs g len)) := hA4
              try (have HP1 := prow_gr HP1 hg4)
              try (have HZB := zb_gr HZB hg4 (fun k e => by cases e))
              try (have zz0 := HZB.out.1.1; have zz1 := HZB.out.1.2.1; have zf0 := HZB.out.1.2.2.1; have zf1 := HZB.out.1.2.2.2)
              refine wpAnyH_ready (rs := [8]) (by kernel_rfl) (by simp) ?_
              refine AllReadyH.cons (o := { dst := some 52, op := Go.Op.buildSlice 37 1 #[(0, Go.Operand.tmp 51)], type := 37, pos := "embed.go:391", after := #[{ on := 7, ground := Go.Ground.data }], guard := none }) rfl (fun K hK => ?_) AllReadyH.nil
              go_simp
              skip
              refine hK.out _ _ ?_ (fun hHeld => ?_)
              · exact Below.alloc hHeld hHeld.size _
              clear hK K
              try simp only [Act.put, List.setIfInBounds_toArray, List.set_cons_zero, List.set_cons_succ]
              generalize hwa : World.alloc _ _ = wa8 at hHeld ⊢
              have HP1 := prow_new (A := A) (B := B) hwa
              try (have HA := papp_al HA hwa)
              try (have HZB := zb_al HZB hwa)
              clear hwa
              try (have zz0 := HZB.out.1.1; have zz1 := HZB.out.1.2.1; have zf0 := HZB.out.1.2.2.1; have zf1 := HZB.out.1.2.2.2)
              refine wpAnyH_ready (rs := [9]) (by kernel_rfl) (by simp) ?_
              refine AllReadyH.cons (o := { dst := some 53, op := Go.Op.call { callee := Go.Callee.builtin Go.Builtin.append, args := #[Go.Operand.tmp 48, Go.Operand.tmp 52], argTypes := #[37, 37] }, type := 37, pos := "embed.go:391", after := #[{ on := 4, ground := Go.Ground.data }, { on := 8, ground := Go.Ground.data }, { on := 4, ground := Go.Ground.chain }], guard := none }) rfl (fun K hK => ?_) AllReadyH.nil
              rw [if_pos (by rfl)]
              refine wp_app1 _ _ _ rfl v4 (covs g len) rfl w3.heap.size HA.out _ A B rfl HP1.out (Nat.le_trans HCS.out (by decide)) hHeld.size ?_
              intro v9 w9 hA9 hg9
              obtain ⟨row9, hg9, hr9⟩ := hg9
              obtain ⟨a9, c9, rfl, hp9⟩ := hA9.pairs
              rw [HN9.out] at hp9
              rw [HP9E.out] at hp9
              rw [HN9.out]
              refine hK.out _ _ ?_ (fun hHeld => ?_)
              · exact hHeld.grown hg9 hHeld.size (fun k e => (hr9 k e).2)
              clear hK K
              try simp only [Act.put, List.setIfInBounds_toArray, List.set_cons_zero, List.set_cons_succ]
              have HP9 : Hid (PRow w9 a9 n9 p9) := hp9
              try (have HZB := zb_gr HZB hg9 (fun k e => (hr9 k e).1))
              try (have zz0 := HZB.out.1.1; have zz1 := HZB.out.1.2.1; have zf0 := HZB.out.1.2.2.1; have zf1 := HZB.out.1.2.2.2)
              refine wpAnyH_ready (rs := [10]) (by kernel_rfl) (by simp) ?_
              refine AllReadyH.cons (o := { dst := some 54, op := Go.Op.call { callee := Go.Callee.value (Go.Operand.func 26), args := #[Go.Operand.tmp 45, Go.Operand.tmp 53], argTypes := #[3, 37] }, type := 49, pos := "embed.go:391", after := #[{ on := 1, ground := Go.Ground.data }, { on := 9, ground := Go.Ground.data }, { on := 9, ground := Go.Ground.chain }], guard := none }) rfl (fun K hK => ?_) AllReadyH.nil
              go_simp
              refine (make_any len a9 n9 c9 p9 _ HPLN.out HP9.out).mono ?_
              rintro e wm ⟨hmade, hbm⟩
              obtain ⟨mi, ma, ml, mc, mcc, rfl, hmf⟩ := HMG.out _ _ _ hmade
              refine hK.out _ _ ?_ (fun hHeld => ?_)
              · exact Below.then hHeld hbm
              clear hK K
              try simp only [Act.put, List.setIfInBounds_toArray, List.set_cons_zero, List.set_cons_succ]
              have HMF := mf_hid hmf
              try (have HNE := ne_before HMF.out HZB)
              try (have HZB := zb_be HZB hbm)
              try (have zz0 := HZB.out.1.1; have zz1 := HZB.out.1.2.1; have zf0 := HZB.out.1.2.2.1; have zf1 := HZB.out.1.2.2.2)
              refine wpAnyH_take (i := 11) (oi := { dst := some 43, op := Go.Op.move (Go.Operand.tmp 54), type := 49, pos := "embed.go:391", after := #[{ on := 10, ground := Go.Ground.data }], guard := none }) (v := ?_) rfl (by kernel_rfl) (by kernel_rfl) (by kernel_rfl) (fun _ _ _ h => h) (Or.inl ⟨by rfl, ?hy⟩) (by assumption) ?_
              case hy => (intro w9 hSw; (try dsimp only at hSw); go_simp; try with_reducible rfl)
              try simp only [Act.put, List.setIfInBounds_toArray, List.set_cons_zero, List.set_cons_succ]
              refine wpAnyH_take (i := 12) (oi := { dst := some 55, op := Go.Op.extract (Go.Operand.tmp 43) 0, type := 24, pos := "embed.go:391", after := #[{ on := 11, ground := Go.Ground.data }], guard := none }) (v := ?_) rfl (by kernel_rfl) (by kernel_rfl) (by kernel_rfl) (fun _ _ _ h => h) (Or.inl ⟨by rfl, ?hy⟩) (by assumption) ?_
              case hy => (intro w9 hSw; (try dsimp only at hSw); go_simp; try with_reducible rfl)
              try simp only [Act.put, List.setIfInBounds_toArray, List.set_cons_zero, List.set_cons_succ]
              refine wpAnyH_take (i := 13) (oi := { dst := some 56, op := Go.Op.extract (Go.Operand.tmp 43) 1, type := 25, pos := "embed.go:391", after := #[{ on := 11, ground := Go.Ground.data }, { on := 15, ground := Go.Ground.gcOnly Go.Departure.lateStores }], guard := none }) (v := ?_) rfl (by kernel_rfl) (by kernel_rfl) (by kernel_rfl) (fun _ _ _ h => h) (Or.inl ⟨by rfl, ?hy⟩) (by assumption) ?_
              case hy => (intro w9 hSw; (try dsimp only at hSw); go_simp; try with_reducible rfl)
              try simp only [Act.put, List.setIfInBounds_toArray, List.set_cons_zero, List.set_cons_succ]
              refine wpAnyH_ready (rs := [15]) (by kernel_rfl) (by simp) ?_
              refine AllReadyH.cons (o := { dst := none, op := Go.Op.store 24 (Go.Operand.tmp 10) (Go.Operand.tmp 55), type := 0, pos := "embed.go:391", after := #[{ on := 14, ground := Go.Ground.data }, { on := 12, ground := Go.Ground.data }, { on := 10, ground := Go.Ground.chain }, { on := 0, ground := Go.Ground.phase }, { on := 1, ground := Go.Ground.phase }, { on := 2, ground := Go.Ground.phase }, { on := 3, ground := Go.Ground.phase }, { on := 4, ground := Go.Ground.phase }, { on := 5, ground := Go.Ground.phase }, { on := 6, ground := Go.Ground.phase }, { on := 7, ground := Go.Ground.phase }, { on := 8, ground := Go.Ground.phase }, { on := 9, ground := Go.Ground.phase }, { on := 10, ground := Go.Ground.phase }, { on := 11, ground := Go.Ground.phase }, { on := 12, ground := Go.Ground.phase }, { on := 13, ground := Go.Ground.textOnly Go.Departure.lateStores }, { on := 14, ground := Go.Ground.phase }], guard := none }) rfl (fun K hK => ?_) AllReadyH.nil
              go_simp
              skip
              refine hK.out _ _ ?_ (fun hHeld => ?_)
              · exact set2K hHeld HS14.out
              clear hK K
              try simp only [Act.put, List.setIfInBounds_toArray, List.set_cons_zero, List.set_cons_succ]
              generalize hw15 : World.setCell _ _ _ = w15 at hHeld ⊢
              have HEND := mf_end HMF HZB HNE hw15
              clear hw15
              refine wpAnyH_take (i := 16) (oi := { dst := some 11, op := Go.Op.assign (Go.Operand.tmp 56), type := 25, pos := "embed.go:391", after := #[{ on := 13, ground := Go.Ground.data }, { on := 15, ground := Go.Ground.chain }, { on := 0, ground := Go.Ground.phase }, { on := 1, ground := Go.Ground.phase }, { on := 2, ground := Go.Ground.phase }, { on := 3, ground := Go.Ground.phase }, { on := 4, ground := Go.Ground.phase }, { on := 5, ground := Go.Ground.phase }, { on := 6, ground := Go.Ground.phase }, { on := 7, ground := Go.Ground.phase }, { on := 8, ground := Go.Ground.phase }, { on := 9, ground := Go.Ground.phase }, { on := 10, ground := Go.Ground.phase }, { on := 11, ground := Go.Ground.phase }, { on := 12, ground := Go.Ground.phase }, { on := 13, ground := Go.Ground.phase }, { on := 14, ground := Go.Ground.phase }, { on := 15, ground := Go.Ground.phase }], guard := none }) (v := ?_) rfl (by kernel_rfl) (by kernel_rfl) (by kernel_rfl) (fun _ _ _ h => h) (Or.inl ⟨by rfl, ?hy⟩) (by assumption) ?_
              case hy => (intro w9 hSw; (try dsimp only at hSw); go_simp; try with_reducible rfl)
              try simp only [Act.put, List.setIfInBounds_toArray, List.set_cons_zero, List.set_cons_succ]
              refine wpAnyH_done (by kernel_rfl) ?_ _
              try simp only [Act.put, List.setIfInBounds_toArray, List.set_cons_zero, List.set_cons_succ]
              go_wp2_with fail
              go_meet
              exact ⟨_, _, rfl, rfl, hHeld, HEND⟩
            refine AllReadyH.cons (o := { dst := some 52, op := Go.Op.buildSlice 37 1 #[(0, Go.Operand.tmp 51)], type := 37, pos := "embed.go:391", after := #[{ on := 7, ground := Go.Ground.data }], guard := none }) rfl (fun K hK => ?_) ?_
            · go_simp
              skip
              refine hK.out _ _ ?_ (fun hHeld => ?_)
              · exact Below.alloc hHeld hHeld.size _
              clear hK K
              try simp only [Act.put, List.setIfInBounds_toArray, List.set_cons_zero, List.set_cons_succ]
              generalize hwa : World.alloc _ _ = wa8 at hHeld ⊢
              have HP1 := prow_new (A := A) (B := B) hwa
              try (have HA := papp_al HA hwa)
              try (have HZB := zb_al HZB hwa)
              clear hwa
              try (have zz0 := HZB.out.1.1; have zz1 := HZB.out.1.2.1; have zf0 := HZB.out.1.2.2.1; have zf1 := HZB.out.1.2.2.2)
              refine wpAnyH_ready (rs := [4]) (by kernel_rfl) (by simp) ?_
              refine AllReadyH.cons (o := { dst := some 48, op := Go.Op.call { callee := Go.Callee.builtin Go.Builtin.append, args := #[Go.Operand.tmp 46, Go.Operand.tmp 47], argTypes := #[37, 37] }, type := 37, pos := "embed.go:391", after := #[{ on := 2, ground := Go.Ground.data }, { on := 3, ground := Go.Ground.data }], guard := none }) rfl (fun K hK => ?_) AllReadyH.nil
              rw [if_pos (by rfl)]
              refine wp_app0 _ _ _ rfl _ rfl vC (covs g len) rfl (HCV.out.below hHeld) HCL.out w3.heap.size hHeld.size ?_
              intro v4 w4 hA4 hg4
              refine hK.out _ _ ?_ (fun hHeld => ?_)
              · exact hHeld.grown hg4 hHeld.size (fun k e => by cases e)
              clear hK K
              try simp only [Act.put, List.setIfInBounds_toArray, List.set_cons_zero, List.set_cons_succ]
              have HA : Hid (PApp w4 w3.heap.size v4 (covs g len)) := hA4
              try (have HP1 := prow_gr HP1 hg4)
              try (have HZB := zb_gr HZB hg4 (fun k e => by cases e))
              try (have zz0 := HZB.out.1.1; have zz1 := HZB.out.1.2.1; have zf0 := HZB.out.1.2.2.1; have zf1 := HZB.out.1.2.2.2)
              refine wpAnyH_ready (rs := [9]) (by kernel_rfl) (by simp) ?_
              refine AllReadyH.cons (o := { dst := some 53, op := Go.Op.call { callee := Go.Callee.builtin Go.Builtin.append, args := #[Go.Operand.tmp 48, Go.Operand.tmp 52], argTypes := #[37, 37] }, type := 37, pos := "embed.go:391", after := #[{ on := 4, ground := Go.Ground.data }, { on := 8, ground := Go.Ground.data }, { on := 4, ground := Go.Ground.chain }], guard := none }) rfl (fun K hK => ?_) AllReadyH.nil
              rw [if_pos (by rfl)]
              refine wp_app1 _ _ _ rfl v4 (covs g len) rfl w3.heap.size HA.out _ A B rfl HP1.out (Nat.le_trans HCS.out (by decide)) hHeld.size ?_
              intro v9 w9 hA9 hg9
              obtain ⟨row9, hg9, hr9⟩ := hg9
              obtain ⟨a9, c9, rfl, hp9⟩ := hA9.pairs
              rw [HN9.out] at hp9
              rw [HP9E.out] at hp9
              rw [HN9.out]
              refine hK.out _ _ ?_ (fun hHeld => ?_)
              · exact hHeld.grown hg9 hHeld.size (fun k e => (hr9 k e).2)
              clear hK K
              try simp only [Act.put, List.setIfInBounds_toArray, List.set_cons_zero, List.set_cons_succ]
              have HP9 : Hid (PRow w9 a9 n9 p9) := hp9
              try (have HZB := zb_gr HZB hg9 (fun k e => (hr9 k e).1))
              try (have zz0 := HZB.out.1.1; have zz1 := HZB.out.1.2.1; have zf0 := HZB.out.1.2.2.1; have zf1 := HZB.out.1.2.2.2)
              refine wpAnyH_ready (rs := [10]) (by kernel_rfl) (by simp) ?_
              refine AllReadyH.cons (o := { dst := some 54, op := Go.Op.call { callee := Go.Callee.value (Go.Operand.func 26), args := #[Go.Operand.tmp 45, Go.Operand.tmp 53], argTypes := #[3, 37] }, type := 49, pos := "embed.go:391", after := #[{ on := 1, ground := Go.Ground.data }, { on := 9, ground := Go.Ground.data }, { on := 9, ground := Go.Ground.chain }], guard := none }) rfl (fun K hK => ?_) AllReadyH.nil
              go_simp
              refine (make_any len a9 n9 c9 p9 _ HPLN.out HP9.out).mono ?_
              rintro e wm ⟨hmade, hbm⟩
              obtain ⟨mi, ma, ml, mc, mcc, rfl, hmf⟩ := HMG.out _ _ _ hmade
              refine hK.out _ _ ?_ (fun hHeld => ?_)
              · exact Below.then hHeld hbm
              clear hK K
              try simp only [Act.put, List.setIfInBounds_toArray, List.set_cons_zero, List.set_cons_succ]
              have HMF := mf_hid hmf
              try (have HNE := ne_before HMF.out HZB)
              try (have HZB := zb_be HZB hbm)
              try (have zz0 := HZB.out.1.1; have zz1 := HZB.out.1.2.1; have zf0 := HZB.out.1.2.2.1; have zf1 := HZB.out.1.2.2.2)
              refine wpAnyH_take (i := 11) (oi := { dst := some 43, op := Go.Op.move (Go.Operand.tmp 54), type := 49, pos := "embed.go:391", after := #[{ on := 10, ground := Go.Ground.data }], guard := none }) (v := ?_) rfl (by kernel_rfl) (by kernel_rfl) (by kernel_rfl) (fun _ _ _ h => h) (Or.inl ⟨by rfl, ?hy⟩) (by assumption) ?_
              case hy => (intro w9 hSw; (try dsimp only at hSw); go_simp; try with_reducible rfl)
              try simp only [Act.put, List.setIfInBounds_toArray, List.set_cons_zero, List.set_cons_succ]
              refine wpAnyH_take (i := 12) (oi := { dst := some 55, op := Go.Op.extract (Go.Operand.tmp 43) 0, type := 24, pos := "embed.go:391", after := #[{ on := 11, ground := Go.Ground.data }], guard := none }) (v := ?_) rfl (by kernel_rfl) (by kernel_rfl) (by kernel_rfl) (fun _ _ _ h => h) (Or.inl ⟨by rfl, ?hy⟩) (by assumption) ?_
              case hy => (intro w9 hSw; (try dsimp only at hSw); go_simp; try with_reducible rfl)
              try simp only [Act.put, List.setIfInBounds_toArray, List.set_cons_zero, List.set_cons_succ]
              refine wpAnyH_take (i := 13) (oi := { dst := some 56, op := Go.Op.extract (Go.Operand.tmp 43) 1, type := 25, pos := "embed.go:391", after := #[{ on := 11, ground := Go.Ground.data }, { on := 15, ground := Go.Ground.gcOnly Go.Departure.lateStores }], guard := none }) (v := ?_) rfl (by kernel_rfl) (by kernel_rfl) (by kernel_rfl) (fun _ _ _ h => h) (Or.inl ⟨by rfl, ?hy⟩) (by assumption) ?_
              case hy => (intro w9 hSw; (try dsimp only at hSw); go_simp; try with_reducible rfl)
              try simp only [Act.put, List.setIfInBounds_toArray, List.set_cons_zero, List.set_cons_succ]
              refine wpAnyH_ready (rs := [15]) (by kernel_rfl) (by simp) ?_
              refine AllReadyH.cons (o := { dst := none, op := Go.Op.store 24 (Go.Operand.tmp 10) (Go.Operand.tmp 55), type := 0, pos := "embed.go:391", after := #[{ on := 14, ground := Go.Ground.data }, { on := 12, ground := Go.Ground.data }, { on := 10, ground := Go.Ground.chain }, { on := 0, ground := Go.Ground.phase }, { on := 1, ground := Go.Ground.phase }, { on := 2, ground := Go.Ground.phase }, { on := 3, ground := Go.Ground.phase }, { on := 4, ground := Go.Ground.phase }, { on := 5, ground := Go.Ground.phase }, { on := 6, ground := Go.Ground.phase }, { on := 7, ground := Go.Ground.phase }, { on := 8, ground := Go.Ground.phase }, { on := 9, ground := Go.Ground.phase }, { on := 10, ground := Go.Ground.phase }, { on := 11, ground := Go.Ground.phase }, { on := 12, ground := Go.Ground.phase }, { on := 13, ground := Go.Ground.textOnly Go.Departure.lateStores }, { on := 14, ground := Go.Ground.phase }], guard := none }) rfl (fun K hK => ?_) AllReadyH.nil
              go_simp
              skip
              refine hK.out _ _ ?_ (fun hHeld => ?_)
              · exact set2K hHeld HS14.out
              clear hK K
              try simp only [Act.put, List.setIfInBounds_toArray, List.set_cons_zero, List.set_cons_succ]
              generalize hw15 : World.setCell _ _ _ = w15 at hHeld ⊢
              have HEND := mf_end HMF HZB HNE hw15
              clear hw15
              refine wpAnyH_take (i := 16) (oi := { dst := some 11, op := Go.Op.assign (Go.Operand.tmp 56), type := 25, pos := "embed.go:391", after := #[{ on := 13, ground := Go.Ground.data }, { on := 15, ground := Go.Ground.chain }, { on := 0, ground := Go.Ground.phase }, { on := 1, ground := Go.Ground.phase }, { on := 2, ground := Go.Ground.phase }, { on := 3, ground := Go.Ground.phase }, { on := 4, ground := Go.Ground.phase }, { on := 5, ground := Go.Ground.phase }, { on := 6, ground := Go.Ground.phase }, { on := 7, ground := Go.Ground.phase }, { on := 8, ground := Go.Ground.phase }, { on := 9, ground := Go.Ground.phase }, { on := 10, ground := Go.Ground.phase }, { on := 11, ground := Go.Ground.phase }, { on := 12, ground := Go.Ground.phase }, { on := 13, ground := Go.Ground.phase }, { on := 14, ground := Go.Ground.phase }, { on := 15, ground := Go.Ground.phase }], guard := none }) (v := ?_) rfl (by kernel_rfl) (by kernel_rfl) (by kernel_rfl) (fun _ _ _ h => h) (Or.inl ⟨by rfl, ?hy⟩) (by assumption) ?_
              case hy => (intro w9 hSw; (try dsimp only at hSw); go_simp; try with_reducible rfl)
              try simp only [Act.put, List.setIfInBounds_toArray, List.set_cons_zero, List.set_cons_succ]
              refine wpAnyH_done (by kernel_rfl) ?_ _
              try simp only [Act.put, List.setIfInBounds_toArray, List.set_cons_zero, List.set_cons_succ]
              go_wp2_with fail
              go_meet
              exact ⟨_, _, rfl, rfl, hHeld, HEND⟩
            exact AllReadyH.nil
          refine AllReadyH.cons (o := { dst := some 52, op := Go.Op.buildSlice 37 1 #[(0, Go.Operand.tmp 51)], type := 37, pos := "embed.go:391", after := #[{ on := 7, ground := Go.Ground.data }], guard := none }) rfl (fun K hK => ?_) ?_
          · go_simp
            skip
            refine hK.out _ _ ?_ (fun hHeld => ?_)
            · exact Below.alloc hHeld hHeld.size _
            clear hK K
            try simp only [Act.put, List.setIfInBounds_toArray, List.set_cons_zero, List.set_cons_succ]
            generalize hwa : World.alloc _ _ = wa8 at hHeld ⊢
            have HP1 := prow_new (A := A) (B := B) hwa
            try (have HA := papp_al HA hwa)
            try (have HZB := zb_al HZB hwa)
            clear hwa
            try (have zz0 := HZB.out.1.1; have zz1 := HZB.out.1.2.1; have zf0 := HZB.out.1.2.2.1; have zf1 := HZB.out.1.2.2.2)
            refine wpAnyH_ready (rs := [2]) (by kernel_rfl) (by simp) ?_
            refine AllReadyH.cons (o := { dst := some 46, op := Go.Op.buildSlice 37 0 #[], type := 37, pos := "embed.go:391", after := #[], guard := none }) rfl (fun K hK => ?_) AllReadyH.nil
            go_simp
            skip
            refine hK.out _ _ ?_ (fun hHeld => ?_)
            · exact Below.alloc hHeld hHeld.size _
            clear hK K
            try simp only [Act.put, List.setIfInBounds_toArray, List.set_cons_zero, List.set_cons_succ]
            generalize hwa : World.alloc _ _ = wa2 at hHeld ⊢
            try (have HP1 := prow_al HP1 hwa)
            try (have HZB := zb_al HZB hwa)
            clear hwa
            try (have zz0 := HZB.out.1.1; have zz1 := HZB.out.1.2.1; have zf0 := HZB.out.1.2.2.1; have zf1 := HZB.out.1.2.2.2)
            refine wpAnyH_ready (rs := [4]) (by kernel_rfl) (by simp) ?_
            refine AllReadyH.cons (o := { dst := some 48, op := Go.Op.call { callee := Go.Callee.builtin Go.Builtin.append, args := #[Go.Operand.tmp 46, Go.Operand.tmp 47], argTypes := #[37, 37] }, type := 37, pos := "embed.go:391", after := #[{ on := 2, ground := Go.Ground.data }, { on := 3, ground := Go.Ground.data }], guard := none }) rfl (fun K hK => ?_) AllReadyH.nil
            rw [if_pos (by rfl)]
            refine wp_app0 _ _ _ rfl _ rfl vC (covs g len) rfl (HCV.out.below hHeld) HCL.out w3.heap.size hHeld.size ?_
            intro v4 w4 hA4 hg4
            refine hK.out _ _ ?_ (fun hHeld => ?_)
            · exact hHeld.grown hg4 hHeld.size (fun k e => by cases e)
            clear hK K
            try simp only [Act.put, List.setIfInBounds_toArray, List.set_cons_zero, List.set_cons_succ]
            have HA : Hid (PApp w4 w3.heap.size v4 (covs g len)) := hA4
            try (have HP1 := prow_gr HP1 hg4)
            try (have HZB := zb_gr HZB hg4 (fun k e => by cases e))
            try (have zz0 := HZB.out.1.1; have zz1 := HZB.out.1.2.1; have zf0 := HZB.out.1.2.2.1; have zf1 := HZB.out.1.2.2.2)
            refine wpAnyH_ready (rs := [9]) (by kernel_rfl) (by simp) ?_
            refine AllReadyH.cons (o := { dst := some 53, op := Go.Op.call { callee := Go.Callee.builtin Go.Builtin.append, args := #[Go.Operand.tmp 48, Go.Operand.tmp 52], argTypes := #[37, 37] }, type := 37, pos := "embed.go:391", after := #[{ on := 4, ground := Go.Ground.data }, { on := 8, ground := Go.Ground.data }, { on := 4, ground := Go.Ground.chain }], guard := none }) rfl (fun K hK => ?_) AllReadyH.nil
            rw [if_pos (by rfl)]
            refine wp_app1 _ _ _ rfl v4 (covs g len) rfl w3.heap.size HA.out _ A B rfl HP1.out (Nat.le_trans HCS.out (by decide)) hHeld.size ?_
            intro v9 w9 hA9 hg9
            obtain ⟨row9, hg9, hr9⟩ := hg9
            obtain ⟨a9, c9, rfl, hp9⟩ := hA9.pairs
            rw [HN9.out] at hp9
            rw [HP9E.out] at hp9
            rw [HN9.out]
            refine hK.out _ _ ?_ (fun hHeld => ?_)
            · exact hHeld.grown hg9 hHeld.size (fun k e => (hr9 k e).2)
            clear hK K
            try simp only [Act.put, List.setIfInBounds_toArray, List.set_cons_zero, List.set_cons_succ]
            have HP9 : Hid (PRow w9 a9 n9 p9) := hp9
            try (have HZB := zb_gr HZB hg9 (fun k e => (hr9 k e).1))
            try (have zz0 := HZB.out.1.1; have zz1 := HZB.out.1.2.1; have zf0 := HZB.out.1.2.2.1; have zf1 := HZB.out.1.2.2.2)
            refine wpAnyH_ready (rs := [10]) (by kernel_rfl) (by simp) ?_
            refine AllReadyH.cons (o := { dst := some 54, op := Go.Op.call { callee := Go.Callee.value (Go.Operand.func 26), args := #[Go.Operand.tmp 45, Go.Operand.tmp 53], argTypes := #[3, 37] }, type := 49, pos := "embed.go:391", after := #[{ on := 1, ground := Go.Ground.data }, { on := 9, ground := Go.Ground.data }, { on := 9, ground := Go.Ground.chain }], guard := none }) rfl (fun K hK => ?_) AllReadyH.nil
            go_simp
            refine (make_any len a9 n9 c9 p9 _ HPLN.out HP9.out).mono ?_
            rintro e wm ⟨hmade, hbm⟩
            obtain ⟨mi, ma, ml, mc, mcc, rfl, hmf⟩ := HMG.out _ _ _ hmade
            refine hK.out _ _ ?_ (fun hHeld => ?_)
            · exact Below.then hHeld hbm
            clear hK K
            try simp only [Act.put, List.setIfInBounds_toArray, List.set_cons_zero, List.set_cons_succ]
            have HMF := mf_hid hmf
            try (have HNE := ne_before HMF.out HZB)
            try (have HZB := zb_be HZB hbm)
            try (have zz0 := HZB.out.1.1; have zz1 := HZB.out.1.2.1; have zf0 := HZB.out.1.2.2.1; have zf1 := HZB.out.1.2.2.2)
            refine wpAnyH_take (i := 11) (oi := { dst := some 43, op := Go.Op.move (Go.Operand.tmp 54), type := 49, pos := "embed.go:391", after := #[{ on := 10, ground := Go.Ground.data }], guard := none }) (v := ?_) rfl (by kernel_rfl) (by kernel_rfl) (by kernel_rfl) (fun _ _ _ h => h) (Or.inl ⟨by rfl, ?hy⟩) (by assumption) ?_
            case hy => (intro w9 hSw; (try dsimp only at hSw); go_simp; try with_reducible rfl)
            try simp only [Act.put, List.setIfInBounds_toArray, List.set_cons_zero, List.set_cons_succ]
            refine wpAnyH_take (i := 12) (oi := { dst := some 55, op := Go.Op.extract (Go.Operand.tmp 43) 0, type := 24, pos := "embed.go:391", after := #[{ on := 11, ground := Go.Ground.data }], guard := none }) (v := ?_) rfl (by kernel_rfl) (by kernel_rfl) (by kernel_rfl) (fun _ _ _ h => h) (Or.inl ⟨by rfl, ?hy⟩) (by assumption) ?_
            case hy => (intro w9 hSw; (try dsimp only at hSw); go_simp; try with_reducible rfl)
            try simp only [Act.put, List.setIfInBounds_toArray, List.set_cons_zero, List.set_cons_succ]
            refine wpAnyH_take (i := 13) (oi := { dst := some 56, op := Go.Op.extract (Go.Operand.tmp 43) 1, type := 25, pos := "embed.go:391", after := #[{ on := 11, ground := Go.Ground.data }, { on := 15, ground := Go.Ground.gcOnly Go.Departure.lateStores }], guard := none }) (v := ?_) rfl (by kernel_rfl) (by kernel_rfl) (by kernel_rfl) (fun _ _ _ h => h) (Or.inl ⟨by rfl, ?hy⟩) (by assumption) ?_
            case hy => (intro w9 hSw; (try dsimp only at hSw); go_simp; try with_reducible rfl)
            try simp only [Act.put, List.setIfInBounds_toArray, List.set_cons_zero, List.set_cons_succ]
            refine wpAnyH_ready (rs := [15]) (by kernel_rfl) (by simp) ?_
            refine AllReadyH.cons (o := { dst := none, op := Go.Op.store 24 (Go.Operand.tmp 10) (Go.Operand.tmp 55), type := 0, pos := "embed.go:391", after := #[{ on := 14, ground := Go.Ground.data }, { on := 12, ground := Go.Ground.data }, { on := 10, ground := Go.Ground.chain }, { on := 0, ground := Go.Ground.phase }, { on := 1, ground := Go.Ground.phase }, { on := 2, ground := Go.Ground.phase }, { on := 3, ground := Go.Ground.phase }, { on := 4, ground := Go.Ground.phase }, { on := 5, ground := Go.Ground.phase }, { on := 6, ground := Go.Ground.phase }, { on := 7, ground := Go.Ground.phase }, { on := 8, ground := Go.Ground.phase }, { on := 9, ground := Go.Ground.phase }, { on := 10, ground := Go.Ground.phase }, { on := 11, ground := Go.Ground.phase }, { on := 12, ground := Go.Ground.phase }, { on := 13, ground := Go.Ground.textOnly Go.Departure.lateStores }, { on := 14, ground := Go.Ground.phase }], guard := none }) rfl (fun K hK => ?_) AllReadyH.nil
            go_simp
            skip
            refine hK.out _ _ ?_ (fun hHeld => ?_)
            · exact set2K hHeld HS14.out
            clear hK K
            try simp only [Act.put, List.setIfInBounds_toArray, List.set_cons_zero, List.set_cons_succ]
            generalize hw15 : World.setCell _ _ _ = w15 at hHeld ⊢
            have HEND := mf_end HMF HZB HNE hw15
            clear hw15
            refine wpAnyH_take (i := 16) (oi := { dst := some 11, op := Go.Op.assign (Go.Operand.tmp 56), type := 25, pos := "embed.go:391", after := #[{ on := 13, ground := Go.Ground.data }, { on := 15, ground := Go.Ground.chain }, { on := 0, ground := Go.Ground.phase }, { on := 1, ground := Go.Ground.phase }, { on := 2, ground := Go.Ground.phase }, { on := 3, ground := Go.Ground.phase }, { on := 4, ground := Go.Ground.phase }, { on := 5, ground := Go.Ground.phase }, { on := 6, ground := Go.Ground.phase }, { on := 7, ground := Go.Ground.phase }, { on := 8, ground := Go.Ground.phase }, { on := 9, ground := Go.Ground.phase }, { on := 10, ground := Go.Ground.phase }, { on := 11, ground := Go.Ground.phase }, { on := 12, ground := Go.Ground.phase }, { on := 13, ground := Go.Ground.phase }, { on := 14, ground := Go.Ground.phase }, { on := 15, ground := Go.Ground.phase }], guard := none }) (v := ?_) rfl (by kernel_rfl) (by kernel_rfl) (by kernel_rfl) (fun _ _ _ h => h) (Or.inl ⟨by rfl, ?hy⟩) (by assumption) ?_
            case hy => (intro w9 hSw; (try dsimp only at hSw); go_simp; try with_reducible rfl)
            try simp only [Act.put, List.setIfInBounds_toArray, List.set_cons_zero, List.set_cons_succ]
            refine wpAnyH_done (by kernel_rfl) ?_ _
            try simp only [Act.put, List.setIfInBounds_toArray, List.set_cons_zero, List.set_cons_succ]
            go_wp2_with fail
            go_meet
            exact ⟨_, _, rfl, rfl, hHeld, HEND⟩
          exact AllReadyH.nil
        exact AllReadyH.nil
      case rest =>
        obtain ⟨zb, c, rfl, rfl, HBc, HME⟩ := hcut
        have HBC : Hid (Below w.heap.size w wc) := Below.then HB3'.out HBc.out
        have K5 := HK4.out _ HBc.out
        clear hc0 HK4 HB3 HB3' HCV HCS HCL HN9 HP9E HPLN HMG HBc
        rcases HME.out with ⟨rfl, _⟩ | ⟨rfl, hne, ho, a', c', z0, z1, hrow⟩
        · clear HME K5
          go_wp2_with fail
          go_ret
          exact ⟨rfl, HBC.out⟩
        · have hwok := wth_ok HWK.out hA hB hne ho
          have HW2 : Hid (WOk len (wth g A B)) := hwok.1
          have HLE : Hid (cst len (wth g A B) ≤ cst len g) := cst_mono _ g (wth g A B) HWK.out hwok.1 hwok.2 (Nat.le_refl _)
          have k0 := K5.c0
          have k1 := K5.c1
          clear HME hwok hne ho
          go_wp2_with fail
          refine (cost_any len a' len c' (fun k => (wth g A B k : Nat)) _ hl hrow).mono ?_
          rintro e w5 ⟨⟨c5, v5, rfl, hc5, hv5⟩, hb5⟩
          obtain rfl : c5 = 0 := hc5.unique (wok_chk HW2.out)
          obtain rfl : v5 = (cst len (wth g A B) : Nat) := by
            rcases hv5 with ⟨h, _⟩ | ⟨_, h⟩
            · exact absurd rfl h
            · rw [h, wok_knw HW2.out]
          have K6 := K5.step hb5
          have HB5 : Hid (Below w.heap.size w w5) := Below.then HBC.out hb5
          have q0 := K6.c0
          have q1 := K6.c1
          clear hc5 hv5 hb5 hrow z0 z1 k0 k1 K5 HBC
          go_wp2_with fail
          refine (dual_any len a len cap f _ hl K6.row).mono ?_
          rintro e w6 ⟨⟨c6, x6, hc6, rfl, hx6⟩, hb6⟩
          obtain rfl := Chk.unique hc6 HCh.out
          obtain ⟨a6, cap6, rfl, hr6⟩ : ∃ a6 cap6, x6 = .agg #[.int .i64 (len : Int), .slice a6 len cap6] ∧ Row w6 a6 len (fun k => (trn (nat f) len k : Nat)) := by
            rcases hx6 with ⟨h, _⟩ | ⟨_, h⟩
            · exact absurd rfl h
            · exact h
          have HB6 : Hid (Below w.heap.size w w6) := Below.then HB5.out hb6
          have HR6 : Hid (Row w6 a6 len (fun k => (dlN g len k : Nat))) := fun k hk => by
            obtain ⟨b, off, e, h⟩ := hr6 k hk
            exact ⟨b, off, e, by rw [h]; show some (Value.int .i64 (trn (nat f) len k : Nat)) = some (Value.int .i64 (dlN g len k : Nat)); rw [dlN_trn hk, HGG.out]⟩
          obtain ⟨w7, HW7⟩ : ∃ w7, Hid (w6.alloc (.cells #[.int .i64 (len : Int), .slice a6 len cap6] 24) = w7) := ⟨_, rfl⟩
          have hb7 : Below w6.heap.size w6 w7 := by rw [← HW7.out]; exact (Below.refl _ _).alloc (Nat.le_refl _) _
          have HR7 : Hid (Row w7 a6 len (fun k => (dlN g len k : Nat))) := HR6.out.below hb7
          have HB7 : Hid (Below w.heap.size w w7) := Below.then HB6.out hb7
          have s0 : w7.cell? ⟨w6.heap.size, 0, none⟩ = some (.int .i64 (len : Int)) := by rw [← HW7.out]; simp
          have s1 : w7.cell? ⟨w6.heap.size, 1, none⟩ = some (.slice a6 len cap6) := by rw [← HW7.out]; simp
          have HWD : Hid (WOk len (dlN g len)) := dlN_ok HWK.out
          have HDE : Hid (cst len (dlN g len) = cst len g) := cst_dual HWK.out HWD.out (dlN_dl HWK.out)
          clear hc6 hx6 hb6 hr6 hb7 q0 q1 K6 HB5 HR6 HB6
          go_upto_region 13 with fail
          rw [HW7.out]
          clear HW7
          go_wp2_with fail
          refine (cost_any len a6 len cap6 (fun k => (dlN g len k : Nat)) _ hl HR7.out).mono ?_
          rintro e w8 ⟨⟨c8, v8, rfl, hc8, hv8⟩, hb8⟩
          obtain rfl : c8 = 0 := hc8.unique (wok_chk HWD.out)
          obtain rfl : v8 = (Cn : Nat) := by
            rcases hv8 with ⟨h, _⟩ | ⟨_, h⟩
            · exact absurd rfl h
            · rw [h, wok_knw HWD.out, HDE.out, HCC.out]
          have HB8 : Hid (Below w.heap.size w w8) := Below.then HB7.out hb8
          have hle : (cst len (wth g A B) : Int) ≤ (Cn : Int) := by have := HLE.out; rw [HCC.out] at this; omega
          generalize cst len (wth g A B) = Kn at *
          clear hc8 hv8 hb8 s0 s1 HR7 HB7
          go_wp2_with fail
          go_ret
          exact ⟨rfl, HB8.out⟩
  · have hne : (c != 0) = true := by simpa using h0
    clear K2
    go_wp2_with fail
    go_ret
    exact ⟨rfl, HB2.out⟩
end Go.Proofs.Ytipgojoiakbaiaa
