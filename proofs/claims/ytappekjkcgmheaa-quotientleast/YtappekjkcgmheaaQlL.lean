/-
  hasselaw.QuotientLeast returns true for every lattice and two numbers. No condition but that slices read as slices of rows.
-/
import Derived.Test.YtappekjkcgmheaaLFrame
import Derived.Test.YtappekjkcgmheaaLwQ
import Derived.Test.YtappekjkcgmheaaShkM
import Derived.Deep.RegionHeld3
namespace Go.Proofs.Ytappekjkcgmheaa
open Go.RowKit
set_option maxRecDepth 100000

theorem own_single {w : World} {base n : Nat} {v : Value} (h : w.ownsRow base 3 1 v n (natVals (List.range n))) (hn : 0 < n) : ∃ b cap, v = .slice (some ⟨b, 0, none⟩) n cap ∧ Row w (some ⟨b, 0, none⟩) n (fun k => (k : Nat)) := by
  obtain ⟨b, cap, rfl⟩ := owns_form h hn
  refine ⟨b, cap, rfl, fun k hk => ⟨b, 0, rfl, ?_⟩⟩
  rw [Nat.zero_add, h.cellAt k (by omega)]
  have := natVals_at (List.range n) k (by simpa using hk)
  rw [this]
  simp [nth, hk]
/-- What the two lists are that come of one least congruence. -/
theorem num_two {q : Nat} {m j : Nat → Nat → Nat} {P : List (Nat × Nat)} {c d : Nat → Nat} {w w' : World} {B base : Nat} {v : Value} (hc : LeastC q m j P c) (hd : LeastC q m j P d) (ho : Own w B q (nbr d)) (hv : w'.ownsRow base 3 1 v q (natVals (numL c q))) :
    NSl w (.slice (some ⟨B, 0, none⟩) q q) (numL c q) ∧ NSl w' v (numL c q) := by
  refine ⟨⟨some ⟨B, 0, none⟩, q, by rw [numL_len], fun k hk => ⟨B, 0, rfl, ?_⟩⟩, owns_nats (base := base) (by rw [numL_len]; exact hv)⟩
  rw [numL_len] at hk
  show _ = some (Value.int .i64 ((nth (numL c q) k : Nat) : Int))
  rw [Nat.zero_add, (ho k hk).1, numL_nth hk, nbr_same (hd.one hc).1 (hd.one hc).2 k hk]
theorem pnt_out {x n : Int} (h : pnt x n = false) : x < 0 ∨ n ≤ x := by
  unfold pnt at h
  simp at h
  omega

set_option maxHeartbeats 8000000 in
theorem quotientLeast_any (n : Int) (a : Option Addr) (la ca : Nat) (SA : Nat → Option Addr × Nat × Nat) (FA : Nat → Nat → Int) (b : Option Addr) (lb cb : Nat) (SB : Nat → Option Addr × Nat × Nat) (FB : Nat → Nat → Int) (x y : Int) (w : World) (hla : la ≤ maxLen) (hlb : lb ≤ maxLen) (hra : RR w a la SA FA) (hrb : RR w b lb SB FB) :
    Calls Try.prog 4 #[.agg #[.int .i64 n, .slice a la ca, .slice b lb cb], .int .i64 x, .int .i64 y] w fun e w' => e = .returned (.bool true) ∧ Below w.heap.size w w' := by
  have HB0 : Hid (Below w.heap.size w (w.alloc (.cells #[.int .i64 n, .slice a la ca, .slice b lb cb] 24))) := (Below.refl _ _).alloc (Nat.le_refl _) _
  have HS : Hid (QS n a la ca SA FA b lb cb SB FB none 0 (fun _ => 0) w.heap.size (w.alloc (.cells #[.int .i64 n, .slice a la ca, .slice b lb cb] 24))) := QS.new hra hrb (fun k hk => absurd hk (Nat.not_lt_zero _))
  clear hra hrb
  go_enter Try.func4, Try.ntmps4
  go_wp2_with fail
  refine (least_any n a la ca SA FA b lb cb SB FB x y _ hla hlb HS.out.ra HS.out.rb).mono ?_
  rintro e w1 ⟨⟨c, v, rfl, hc⟩, hb1⟩
  have HB1 : Hid (Below w.heap.size w w1) := Below.then HB0.out hb1
  have HS1 : Hid (QS n a la ca SA FA b lb cb SB FB none 0 (fun _ => 0) w.heap.size w1) := HS.out.step hb1
  have HL1 : Hid (LsIs n la SA FA lb SB FB x y (w.alloc (.cells #[.int .i64 n, .slice a la ca, .slice b lb cb] 24)).heap.size w1 c v) := hc
  clear hc hb1 HB0 HS
  obtain ⟨k0, k1, k2⟩ := HS1.out.bx
  go_wp2_with fail
  refine (checkLattice_any n a la ca SA FA b lb cb SB FB _ hla hlb HS1.out.ra HS1.out.rb).mono ?_
  rintro e w2 ⟨⟨d, rfl, hd⟩, hb2⟩
  have HB2 : Hid (Below w.heap.size w w2) := Below.then HB1.out hb2
  have HS2 : Hid (QS n a la ca SA FA b lb cb SB FB none 0 (fun _ => 0) w.heap.size w2) := HS1.out.step hb2
  have HBB : Hid (Below w1.heap.size w1 w2) := hb2
  clear hb2 HB1 HS1 k0 k1 k2
  obtain ⟨k0, k1, k2⟩ := HS2.out.bx
  by_cases h0 : d = 0
  · subst h0
    have hee : ((0 : Int) == 0) = true := rfl
    rcases HL1.out with ⟨h, hh, _⟩ | ⟨_, ⟨rfl, hp, rfl⟩ | ⟨rfl, ⟨hx, hy⟩, B, cc, rfl, hlc, how, hB⟩⟩
    · exact absurd (hh.one hd) h
    · clear HL1 hd
      have HO : Hid ((x < 0 ∨ n ≤ x) ∨ (y < 0 ∨ n ≤ y)) := by
        cases hx : pnt x n
        · exact .inl (pnt_out hx)
        · cases hy : pnt y n
          · exact .inr (pnt_out hy)
          · exact absurd ⟨hx, hy⟩ hp
      clear hp
      have key : ∀ b1 b2 b3 b4 : Bool, decide (x < 0) = b1 → decide (n ≤ x) = b2 → decide (y < 0) = b3 → decide (n ≤ y) = b4 → (b1 || b2 || b3 || b4) = true := fun b1 b2 b3 b4 h1 h2 h3 h4 => by
        rw [← h1, ← h2, ← h3, ← h4]
        simp
        have := HO.out
        omega
      obtain ⟨b1, g1⟩ : ∃ b, decide (x < 0) = b := ⟨_, rfl⟩
      obtain ⟨b2, g2⟩ : ∃ b, decide (n ≤ x) = b := ⟨_, rfl⟩
      obtain ⟨b3, g3⟩ : ∃ b, decide (y < 0) = b := ⟨_, rfl⟩
      obtain ⟨b4, g4⟩ : ∃ b, decide (n ≤ y) = b := ⟨_, rfl⟩
      have hk := key b1 b2 b3 b4 g1 g2 g3 g4
      clear key HO
      have HFIN : Hid (∀ wx, Below w.heap.size w wx → Calls Try.prog 19 #[.slice none 0 0, .int .i64 3, .int .i64 3, .slice none 0 0] wx fun e w' => e = .returned (.bool true) ∧ Below w.heap.size w w') := fun wx hb => (numbersAre_any 3 [] _ _ wx (Nat.zero_le _) (.inl ⟨by decide, rfl, rfl⟩)).mono fun e w' ⟨h1, h2⟩ => ⟨h1, Below.then hb h2⟩
      cases b1
      · cases b2
        · cases b3
          · cases b4
            · cases hk
            · go_wp2_with fail
              refine (quotientBegun_any _).mono ?_
              rintro e w3 ⟨rfl, hb3⟩
              have HB3 : Hid (Below w.heap.size w w3) := Below.then HB2.out hb3
              clear hb3 HB2
              go_wp2_with fail
              refine (HFIN.out _ HB3.out).mono ?_
              rintro e w4 ⟨rfl, hb4⟩
              have HB4 : Hid (Below w.heap.size w w4) := hb4
              clear hb4
              go_wp2_with fail
              go_ret
              exact ⟨rfl, HB4.out⟩
          · go_wp2_with fail
            refine (quotientBegun_any _).mono ?_
            rintro e w3 ⟨rfl, hb3⟩
            have HB3 : Hid (Below w.heap.size w w3) := Below.then HB2.out hb3
            clear hb3 HB2
            go_wp2_with fail
            refine (HFIN.out _ HB3.out).mono ?_
            rintro e w4 ⟨rfl, hb4⟩
            have HB4 : Hid (Below w.heap.size w w4) := hb4
            clear hb4
            go_wp2_with fail
            go_ret
            exact ⟨rfl, HB4.out⟩
        · go_wp2_with fail
          refine (quotientBegun_any _).mono ?_
          rintro e w3 ⟨rfl, hb3⟩
          have HB3 : Hid (Below w.heap.size w w3) := Below.then HB2.out hb3
          clear hb3 HB2
          go_wp2_with fail
          refine (HFIN.out _ HB3.out).mono ?_
          rintro e w4 ⟨rfl, hb4⟩
          have HB4 : Hid (Below w.heap.size w w4) := hb4
          clear hb4
          go_wp2_with fail
          go_ret
          exact ⟨rfl, HB4.out⟩
      · go_wp2_with fail
        refine (quotientBegun_any _).mono ?_
        rintro e w3 ⟨rfl, hb3⟩
        have HB3 : Hid (Below w.heap.size w w3) := Below.then HB2.out hb3
        clear hb3 HB2
        go_wp2_with fail
        refine (HFIN.out _ HB3.out).mono ?_
        rintro e w4 ⟨rfl, hb4⟩
        have HB4 : Hid (Below w.heap.size w w4) := hb4
        clear hb4
        go_wp2_with fail
        go_ret
        exact ⟨rfl, HB4.out⟩
    · obtain ⟨q, rfl, h1, h40, rfl, rfl, hsa, hsb, hga, hgb, _⟩ := hd.good
      have px : 0 ≤ x ∧ x < (lb : Int) := by simpa [pnt] using hx
      have py : 0 ≤ y ∧ y < (lb : Int) := by simpa [pnt] using hy
      obtain ⟨X, rfl⟩ := Int.eq_ofNat_of_zero_le px.1
      obtain ⟨Y, rfl⟩ := Int.eq_ofNat_of_zero_le py.1
      have hX : X < lb := by omega
      have hY : Y < lb := by omega
      have g1 : decide ((X : Int) < 0) = false := by simp
      have g2 : decide ((lb : Int) ≤ (X : Int)) = false := by simp; omega
      have g3 : decide ((Y : Int) < 0) = false := by simp
      have g4 : decide ((lb : Int) ≤ (Y : Int)) = false := by simp; omega
      have ra2 := HS2.out.ra
      have rb2 := HS2.out.rb
      obtain ⟨bA, oA, rfl, hta, hia⟩ := ra2.tb h1 hsa hga
      obtain ⟨bB, oB, rfl, htb, hib⟩ := rb2.tb h1 hsb hgb
      have HTA := (show Hid _ from hta)
      have HTC := (show Hid _ from htb)
      have HIA := (show Hid _ from hia)
      have HIB := (show Hid _ from hib)
      have HLC : Hid (LeastC lb (nat2 FA) (nat2 FB) [(X, Y)] cc) := hlc
      have HOW : Hid (Own w1 B lb (nbr cc)) := how
      clear HL1 hd hx hy px py hlc how hB hsa hsb hga hgb hta htb hia hib ra2 rb2
      simp only [Int.toNat_natCast]
      have l0 : ∀ w' : World, Below w2.heap.size w2 w' → w'.cell? ⟨w.heap.size, 0, none⟩ = some (.int .i64 lb) := fun _ h => cell_step h k0
      have l1 : ∀ w' : World, Below w2.heap.size w2 w' → w'.cell? ⟨w.heap.size, 1, none⟩ = some (.slice (some ⟨bA, oA, none⟩) lb ca) := fun _ h => cell_step h k1
      have l2 : ∀ w' : World, Below w2.heap.size w2 w' → w'.cell? ⟨w.heap.size, 2, none⟩ = some (.slice (some ⟨bB, oB, none⟩) lb cb) := fun _ h => cell_step h k2
      go_wp2_with fail
      clear k0 k1 k2
      refine wp_region_held_drew (S := (fun w' => Below w2.heap.size w2 w')) (by kernel_rfl) ((Below.refl _ _).drew) (fun hHeld => ?_)
      refine wpAnyH_take (i := 0) (oi := { dst := some 44, op := Go.Op.load 24 (Go.Operand.tmp 3), type := 24, pos := "quotient.go:37", after := #[], guard := none }) (v := ?_) rfl (by kernel_rfl) (by kernel_rfl) (by kernel_rfl) (fun _ _ _ h => h) (Or.inl ⟨by rfl, ?hy⟩) (by assumption) ?_
      case hy => (intro w9 hSw; (try dsimp only at hSw); go_simp; try with_reducible rfl)
      try simp only [Act.put, List.setIfInBounds_toArray, List.set_cons_zero, List.set_cons_succ]
      refine wpAnyH_take (i := 1) (oi := { dst := some 45, op := Go.Op.fieldAddr 24 (Go.Operand.tmp 3) 0, type := 0, pos := "quotient.go:37", after := #[], guard := none }) (v := ?_) rfl (by kernel_rfl) (by kernel_rfl) (by kernel_rfl) (fun _ _ _ h => h) (Or.inl ⟨by rfl, ?hy⟩) (by assumption) ?_
      case hy => (intro w9 hSw; (try dsimp only at hSw); go_simp; try with_reducible rfl)
      try simp only [Act.put, List.setIfInBounds_toArray, List.set_cons_zero, List.set_cons_succ]
      refine wpAnyH_take (i := 2) (oi := { dst := some 46, op := Go.Op.load 3 (Go.Operand.tmp 45), type := 3, pos := "quotient.go:37", after := #[{ on := 1, ground := Go.Ground.data }], guard := none }) (v := ?_) rfl (by kernel_rfl) (by kernel_rfl) (by kernel_rfl) (fun _ _ _ h => h) (Or.inl ⟨by rfl, ?hy⟩) (by assumption) ?_
      case hy => (intro w9 hSw; (try dsimp only at hSw); go_simp; try with_reducible rfl)
      try simp only [Act.put, List.setIfInBounds_toArray, List.set_cons_zero, List.set_cons_succ]
      refine wpAnyH_take (i := 4) (oi := { dst := some 48, op := Go.Op.move (Go.Operand.tmp 1), type := 3, pos := "quotient.go:37", after := #[], guard := none }) (v := ?_) rfl (by kernel_rfl) (by kernel_rfl) (by kernel_rfl) (fun _ _ _ h => h) (Or.inl ⟨by rfl, ?hy⟩) (by assumption) ?_
      case hy => (intro w9 hSw; (try dsimp only at hSw); go_simp; try with_reducible rfl)
      try simp only [Act.put, List.setIfInBounds_toArray, List.set_cons_zero, List.set_cons_succ]
      refine wpAnyH_take (i := 5) (oi := { dst := some 49, op := Go.Op.move (Go.Operand.tmp 2), type := 3, pos := "quotient.go:37", after := #[], guard := none }) (v := ?_) rfl (by kernel_rfl) (by kernel_rfl) (by kernel_rfl) (fun _ _ _ h => h) (Or.inl ⟨by rfl, ?hy⟩) (by assumption) ?_
      case hy => (intro w9 hSw; (try dsimp only at hSw); go_simp; try with_reducible rfl)
      try simp only [Act.put, List.setIfInBounds_toArray, List.set_cons_zero, List.set_cons_succ]
      refine wpAnyH_ready (rs := [3]) (by kernel_rfl) (by simp) ?_
      refine AllReadyH.cons (o := { dst := some 47, op := Go.Op.call { callee := Go.Callee.value (Go.Operand.func 18), args := #[Go.Operand.tmp 46], argTypes := #[3] }, type := 25, pos := "quotient.go:37", after := #[{ on := 2, ground := Go.Ground.data }], guard := none }) rfl (fun K hK => ?_) AllReadyH.nil
      go_simp
      refine (single_any lb _ h40).mono ?_
      rintro e w5 ⟨⟨v5, rfl, ho5⟩, hb5⟩
      obtain ⟨b5, c5, rfl, hr5⟩ := own_single ho5 (by omega)
      have HB5 : Below w2.heap.size w2 w5 := Below.then ((Below.refl _ _).drew) hb5
      have HR5 : Hid (Row w5 (some ⟨b5, 0, none⟩) lb (fun k => (k : Nat))) := hr5
      clear ho5 hr5
      refine hK.out _ _ ?_ (fun hHeld => ?_)
      · exact HB5
      clear hK K
      try simp only [Act.put, List.setIfInBounds_toArray, List.set_cons_zero, List.set_cons_succ]
      refine wpAnyH_ready (rs := [6]) (by kernel_rfl) (by simp) ?_
      refine AllReadyH.cons (o := { dst := some 50, op := Go.Op.call { callee := Go.Callee.value (Go.Operand.func 17), args := #[Go.Operand.tmp 44, Go.Operand.tmp 47, Go.Operand.tmp 48, Go.Operand.tmp 49], argTypes := #[24, 25, 3, 3] }, type := 25, pos := "quotient.go:37", after := #[{ on := 0, ground := Go.Ground.data }, { on := 3, ground := Go.Ground.data }, { on := 4, ground := Go.Ground.data }, { on := 5, ground := Go.Ground.data }, { on := 3, ground := Go.Ground.chain }], guard := none }) rfl (fun K hK => ?_) AllReadyH.nil
      go_simp
      refine (leastWith_any lb bA oA ca bB oB cb b5 0 c5 _ _ (nat2 FA) (nat2 FB) (fun k => k) X Y _ h1 h40 HIA.out HIB.out (Tb.step HTA.out (by assumption)) (Tb.step HTC.out (by assumption)) HR5.out hX hY).mono ?_
      rintro e w6 ⟨⟨v6, c6, rfl, hl6, ho6⟩, hb6⟩
      refine hK.out _ _ ?_ (fun hHeld => ?_)
      · exact Below.then HB5 hb6
      clear hK K
      try simp only [Act.put, List.setIfInBounds_toArray, List.set_cons_zero, List.set_cons_succ]
      refine wpAnyH_take (i := 7) (oi := { dst := some 10, op := Go.Op.assign (Go.Operand.tmp 50), type := 25, pos := "quotient.go:37", after := #[{ on := 6, ground := Go.Ground.data }, { on := 6, ground := Go.Ground.chain }, { on := 0, ground := Go.Ground.phase }, { on := 1, ground := Go.Ground.phase }, { on := 2, ground := Go.Ground.phase }, { on := 3, ground := Go.Ground.phase }, { on := 4, ground := Go.Ground.phase }, { on := 5, ground := Go.Ground.phase }, { on := 6, ground := Go.Ground.phase }], guard := none }) (v := ?_) rfl (by kernel_rfl) (by kernel_rfl) (by kernel_rfl) (fun _ _ _ h => h) (Or.inl ⟨by rfl, ?hy⟩) (by assumption) ?_
      case hy => (intro w9 hSw; (try dsimp only at hSw); go_simp; try with_reducible rfl)
      try simp only [Act.put, List.setIfInBounds_toArray, List.set_cons_zero, List.set_cons_succ]
      refine wpAnyH_done (by kernel_rfl) ?_ _
      try simp only [Act.put, List.setIfInBounds_toArray, List.set_cons_zero, List.set_cons_succ]
      have HB6 : Hid (Below w2.heap.size w2 w6) := Below.then HB5 hb6
      have HL6 : Hid (LeastC lb (nat2 FA) (nat2 FB) [(X, Y)] c6) := hl6.single
      have HO6 : Hid (w6.ownsRow _ 3 1 v6 lb (natVals (numL c6 lb))) := ho6
      clear l0 l1 l2 hl6 ho6 hb5 hb6 HB5 HR5 hHeld
      go_wp2_with fail
      refine (quotientBegun_any _).mono ?_
      rintro e w7 ⟨rfl, hb7⟩
      have HB7 : Hid (Below w.heap.size w w7) := Below.then (Below.then HB2.out HB6.out) hb7
      have HN : Hid (NSl w7 (.slice (some ⟨B, 0, none⟩) lb lb) (numL c6 lb) ∧ NSl w7 v6 (numL c6 lb)) := by
        have h := num_two HL6.out HLC.out HOW.out HO6.out
        exact ⟨(h.1.below (Below.then HBB.out (Below.then HB6.out hb7))), h.2.below hb7⟩
      have HLN : Hid ((numL c6 lb).length ≤ maxLen) := by unfold Hid; rw [numL_len]; exact hlb
      clear hb7 HB6 HL6 HO6 HLC HOW
      go_wp2_with fail
      refine (numbersAre_any 0 (numL c6 lb) _ _ _ HLN.out (.inr ⟨rfl, HN.out.1, HN.out.2⟩)).mono ?_
      rintro e w8 ⟨rfl, hb8⟩
      have HB8 : Hid (Below w.heap.size w w8) := Below.then HB7.out hb8
      clear hb8
      go_wp2_with fail
      go_ret
      exact ⟨rfl, HB8.out⟩
  · have hne : (d == 0) = false := by simpa using h0
    obtain ⟨rfl, rfl⟩ : c = d ∧ v = .slice none 0 0 := by
      rcases HL1.out with ⟨h, hh, hv⟩ | ⟨hh, _⟩
      · exact ⟨hh.one hd, hv⟩
      · exact absurd (hd.one hh) h0
    clear HL1 hd
    go_wp2_with fail
    refine (quotientBegun_any _).mono ?_
    rintro e w3 ⟨rfl, hb3⟩
    have HB3 : Hid (Below w.heap.size w w3) := Below.then HB2.out hb3
    clear hb3 HB2
    go_wp2_with fail
    refine (numbersAre_any c [] _ _ _ (Nat.zero_le _) (.inl ⟨h0, rfl, rfl⟩)).mono ?_
    rintro e w4 ⟨rfl, hb4⟩
    have HB4 : Hid (Below w.heap.size w w4) := Below.then HB3.out hb4
    clear hb4
    go_wp2_with fail
    go_ret
    exact ⟨rfl, HB4.out⟩
end Go.Proofs.Ytappekjkcgmheaa
