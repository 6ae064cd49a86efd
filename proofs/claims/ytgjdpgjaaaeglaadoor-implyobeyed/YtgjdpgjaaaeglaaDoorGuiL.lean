/-
  For every number and rules that are handed in, hasselaw.ImplyGuigues returns true, and writes nothing that was there. Condition: the table of the least bits.
-/
import Derived.Test.YtgjdpgjaaaeglaaDoorAppR
import Derived.Deep.RegionHeld3
namespace Go.Proofs.YtgjdpgjaaaeglaaDoor
open Go.RowKit

theorem rls_pairAt (L : List (Nat × Nat)) : rls (pairAt L) L.length = L := by
  apply List.ext_getElem
  · exact rls_len _ _
  · intro i h1 h2
    have h3 := rls_getD (p := pairAt L) h2
    rw [List.getD_eq_getElem?_getD, List.getElem?_eq_getElem h1, Option.getD_some] at h3
    rw [h3, pairAt_get h2]
    simp
theorem ris_list {n : Nat} {L : List (Nat × Nat)} (h : RIn n L) : RIs n L.length (pairAt L) := fun k hk => by
  have := h _ (List.getElem_mem hk)
  rw [pairAt_get hk]
  exact ⟨⟨by omega, by simp; exact this.1⟩, ⟨by omega, by simp; exact this.2⟩⟩
theorem fol_ok {n len : Nat} {p : Nat → Int × Int} {x y : Nat} {e : Ending} (h10 : n ≤ 10) (h60 : len ≤ 60) (hri : RIs n len p) (hx : x < pw n) (hy : y < pw n) (h : FoIs n len p x y e) : e = .returned (.tuple #[.bool (obe (clo (rls p len) n x) (x, y)), .int .i64 0]) := by
  have hc : RChk (n : Int) len p 0 := .inr ⟨n, rfl, h10, h60, .inr ⟨rfl, hri⟩⟩
  rcases h with ⟨c, h0, h, _⟩ | ⟨n', e1, _, _, _, _, ⟨h1, _⟩ | ⟨x', y', h1, h2, _, _, h3⟩⟩
  · exact absurd (h.unique hc) h0
  · obtain rfl : n' = n := by omega
    rw [riB_iff.2 ⟨⟨by omega, by omega⟩, ⟨by omega, by omega⟩⟩] at h1; cases h1
  · obtain rfl : n' = n := by omega
    obtain rfl : x' = x := by omega
    obtain rfl : y' = y := by omega
    exact h3
theorem obe_set {n x : Nat} {Q : List (Nat × Nat)} {r : Nat × Nat} (h10 : n ≤ 10) (h1 : r.1 < pw n) (h2 : r.2 < pw n) : obe (clo Q n x) r = true ↔ Obe (clo Q n x) r :=
  obe_iff (set_1024 h10 clo_lt) (set_1024 h10 h1) (set_1024 h10 h2)
theorem out_ne {L : List (Nat × Nat)} (hd : L.Pairwise (fun r q => r.1 < q.1)) {k : Nat} (hk : k < L.length) : ∀ q, q ∈ out L k → q ∈ L ∧ q.1 ≠ L[k].1 := fun q hq => by
  refine ⟨out_sub q hq, ?_⟩
  unfold out at hq
  rw [List.mem_append] at hq
  rw [List.pairwise_iff_getElem] at hd
  rcases hq with hq | hq
  · obtain ⟨i, hi, e⟩ := List.getElem_of_mem hq
    rw [List.getElem_take] at e
    rw [List.length_take] at hi
    have := hd i k (by omega) hk (by omega)
    rw [← e]; omega
  · obtain ⟨i, hi, e⟩ := List.getElem_of_mem hq
    rw [List.getElem_drop] at e
    rw [List.length_drop] at hi
    have := hd k (k + 1 + i) hk (by omega) (by omega)
    rw [← e]; omega

set_option maxHeartbeats 4000000 in
set_option maxRecDepth 100000 in
theorem implyGuigues_any (N : Int) (a : Option Addr) (len cap : Nat) (p : Nat → Int × Int) (w : World) (hl : len ≤ maxLen) (hr : PRow w a len p) (hT : Tab w) :
    Calls Tryd.prog 6 #[.int .i64 N, .slice a len cap] w fun e w' => e = .returned (.bool true) ∧ Below w.heap.size w w' := by
  have HR : Hid (∀ w', Below w.heap.size w w' → PRow w' a len p) := fun w' h => hr.below h
  have HT : Hid (Tab w) := hT
  clear hr hT
  go_enter Tryd.func6, Tryd.ntmps6
  go_wp2_with fail
  refine (implyBegun_any _ HT.out).mono ?_
  rintro e w0 ⟨rfl, hb0⟩
  have HB0 : Hid (Below w.heap.size w w0) := hb0
  clear hb0
  go_wp2_with fail
  refine (baseX_any N a len cap p w0 hl (HR.out _ HB0.out)).mono ?_
  rintro e w1 ⟨he, hb1⟩
  have HB1 : Hid (Below w.heap.size w w1) := Below.then HB0.out hb1
  clear hb1 HB0
  rcases he with ⟨c, h0, hc, rfl⟩ | ⟨n, rfl, hc, h10, h60, hri, ⟨_, rfl⟩ | ⟨hL60, v, rfl, hv⟩⟩
  · have hne : (c != 0) = true := by simpa using h0
    clear hc
    go_wp2_with fail
    go_ret
    exact ⟨rfl, HB1.out⟩
  · clear hc hri
    go_wp2_with fail
    go_ret
    exact ⟨rfl, HB1.out⟩
  · have hRI := hri.rin
    have HRI : Hid (RIs n len p) := hri
    have hfew := bas_few h10 hRI
    rw [rls_len] at hfew
    have HRL : Hid (∀ i, i < len → ∃ r : Nat × Nat, r ∈ rls p len ∧ p i = ((r.1 : Int), (r.2 : Int)) ∧ r.1 < pw n ∧ r.2 < pw n) := fun i hi => by
      have hk := HRI.out i hi
      have hm : (rls p len).getD i (0, 0) ∈ rls p len := getD_mem (0, 0) (by rw [rls_len]; exact hi)
      rw [rls_getD hi] at hm
      exact ⟨_, hm, Prod.ext (by show (p i).1 = (((p i).1.toNat : Nat) : Int); omega) (by show (p i).2 = (((p i).2.toNat : Nat) : Int); omega), (hRI _ hm).1, (hRI _ hm).2⟩
    have HF1 : Hid (∀ r, r ∈ rls p len → obe (clo (bas (clo (rls p len) n) (pw n)) n r.1) r = true) := fun r hr => (obe_set h10 (hRI r hr).1 (hRI r hr).2).2 (bas_follows h10 hRI hr)
    have HF2 : Hid (∀ r, r ∈ bas (clo (rls p len) n) (pw n) → obe (clo (rls p len) n r.1) r = true) := fun r hr => (obe_set h10 (bas_rin r hr).1 (bas_rin r hr).2).2 (follows_bas h10 hRI hr)
    have HF3 : Hid (∀ r Q, r ∈ bas (clo (rls p len) n) (pw n) → (∀ q, q ∈ Q → q ∈ bas (clo (rls p len) n) (pw n) ∧ q.1 ≠ r.1) → obe (clo Q n r.1) r = false) := fun r Q hr hQ => by
      have := bas_need h10 hRI hr hQ
      rw [← obe_set h10 (bas_rin r hr).1 (bas_rin r hr).2] at this
      simpa using this
    have HBR : Hid (RIn n (bas (clo (rls p len) n) (pw n))) := bas_rin
    have HRS : Hid ((bas (clo (rls p len) n) (pw n)).Pairwise (fun r q => r.1 < q.1)) := bas_rise _
    clear hc hri hRI
    generalize bas (clo (rls p len) n) (pw n) = L at *
    obtain ⟨al, capl, rfl, hcap, hpr⟩ := hv
    have HPR1 : Hid (PRow w1 al L.length (pairAt L)) := hpr
    have hfew' : ¬ (len : Int) < (L.length : Int) := by omega
    have hdec : decide (len < L.length) = false := by simp; omega
    unfold maxLen at hl
    clear hpr
    go_wp2_with fail
    try rw [hdec]
    clear hdec
    go_loopw [7] (fun i wx => ∃ k : Nat, k ≤ len ∧ i = .int .i64 k ∧ Hid (Below w1.heap.size w1 wx)) (fun i _ => len - (intOf i).toNat)
    case atStart => exact ⟨0, Nat.zero_le _, rfl, Below.refl _ _⟩
    case round =>
      obtain ⟨k, hk, rfl, HBx⟩ := hrel
      by_cases hlt : k < len
      · have hlt' : (k : Int) < (len : Int) := by omega
        obtain ⟨b, off, rfl, c1, c2⟩ := HR.out _ (Below.then HB1.out HBx.out) k hlt
        obtain ⟨r, hrm, hpk, hr1, hr2⟩ := HRL.out k hlt
        rw [hpk] at c1 c2
        have d1 : wr.cell? ⟨b, off + k * 2, none⟩ = some (.int .i64 (r.1 : Nat)) := c1
        have d2 : wr.cell? ⟨b, off + k * 2 + 1, none⟩ = some (.int .i64 (r.2 : Nat)) := c2
        have HFO : Hid (Calls Tryd.prog 22 #[.int .i64 (n : Nat), .slice al L.length capl, .agg #[.int .i64 (r.1 : Nat), .int .i64 (r.2 : Nat)]] wr fun e w' => e = .returned (.tuple #[.bool true, .int .i64 0]) ∧ Below wr.heap.size wr w') :=
          (follows_any n al L.length capl (pairAt L) r.1 r.2 wr (by unfold maxLen; omega) (HPR1.out.below HBx.out)).mono fun e w' ⟨he, hb⟩ => ⟨by
            have h2 := fol_ok h10 hL60 (ris_list HBR.out) hr1 hr2 he
            rw [rls_pairAt] at h2
            rw [h2, show ((r.1, r.2) : Nat × Nat) = r from rfl, HF1.out r hrm], hb⟩
        clear c1 c2 hpk hrm
        go_wp2_with fail
        refine HFO.out.mono ?_
        rintro e w2 ⟨rfl, hb2⟩
        have HB2 : Hid (Below w1.heap.size w1 w2) := Below.then HBx.out hb2
        clear hb2 HFO d1 d2
        go_wp2_with fail
        go_roundw
        case rel => exact ⟨k + 1, by omega, by go_num, HB2⟩
        case measure => simp [intOf]; omega
      · obtain rfl : len = k := by omega
        have HB3 : Hid (Below w1.heap.size w1 wr) := HBx.out
        clear HBx
        go_wp2_with fail
        go_loopw [10] (fun i wx => ∃ k : Nat, k ≤ L.length ∧ i = .int .i64 k ∧ Hid (Below w1.heap.size w1 wx)) (fun i _ => L.length - (intOf i).toNat)
        case atStart => exact ⟨0, Nat.zero_le _, rfl, HB3⟩
        case round =>
          clear HB3
          obtain ⟨k, hj, rfl, HBx⟩ := hrel
          by_cases hlt2 : k < L.length
          · have hlt2' : (k : Int) < (L.length : Int) := by omega
            obtain ⟨bl, ol, rfl, c1, c2⟩ := (HPR1.out.below HBx.out) k hlt2
            obtain ⟨r, hre⟩ : ∃ r, L[k] = r := ⟨_, rfl⟩
            rw [pairAt_get hlt2, hre] at c1 c2
            have hrm : r ∈ L := by rw [← hre]; exact List.getElem_mem hlt2
            have hr1 := (HBR.out r hrm).1
            have hr2 := (HBR.out r hrm).2
            have d1 : wr.cell? ⟨bl, ol + k * 2, none⟩ = some (.int .i64 (r.1 : Nat)) := c1
            have d2 : wr.cell? ⟨bl, ol + k * 2 + 1, none⟩ = some (.int .i64 (r.2 : Nat)) := c2
            have HFA : Hid (Calls Tryd.prog 22 #[.int .i64 (n : Nat), .slice a len cap, .agg #[.int .i64 (r.1 : Nat), .int .i64 (r.2 : Nat)]] wr fun e w' => e = .returned (.tuple #[.bool true, .int .i64 0]) ∧ Below wr.heap.size wr w') :=
              (follows_any n a len cap p r.1 r.2 wr (by unfold maxLen; omega) (HR.out _ (Below.then HB1.out HBx.out))).mono fun e w' ⟨he, hb⟩ => ⟨by
                have h2 := fol_ok h10 h60 HRI.out hr1 hr2 he
                rw [h2, show ((r.1, r.2) : Nat × Nat) = r from rfl, HF2.out r hrm], hb⟩
            obtain ⟨q, HQE⟩ : ∃ q, Hid (q = k + 1) := ⟨_, rfl⟩
            have hwq : IntKind.i64.wrap ((k : Int) + 1) = (q : Int) := by rw [HQE.out, wrap_i64_small _ (by omega) (by omega)]; omega
            have hql : q ≤ L.length := by rw [HQE.out]; omega
            obtain ⟨oq, hoq, HPQ⟩ : ∃ oq : Nat, (if capl = q then some (⟨bl, ol, none⟩ : Addr) else some ⟨bl, ol + q * 2, none⟩) = some ⟨bl, oq, none⟩ ∧ Hid (∀ wx : World, PRow wx (some ⟨bl, ol, none⟩) L.length (pairAt L) → PRow wx (some ⟨bl, oq, none⟩) (L.drop q).length (pairAt (L.drop q))) := by
              by_cases hck : capl = q
              · exact ⟨ol, by rw [if_pos hck], fun wx _ j hj => absurd hj (by simp; omega)⟩
              · exact ⟨ol + q * 2, by rw [if_neg hck], fun wx h => prow_drop h⟩
            obtain ⟨L', HL'⟩ : ∃ L', Hid (L' = out L k) := ⟨_, rfl⟩
            have hL' : L'.length ≤ 60 := by rw [HL'.out, out_len hlt2]; omega
            have HOQ : Hid (∀ q, q ∈ L' → q ∈ L ∧ q.1 ≠ r.1) := fun q hq => by
              rw [HL'.out] at hq
              have h3 := out_ne HRS.out hlt2 q hq
              rw [hre] at h3; exact h3
            have HFO : Hid (∀ a6 cap6 w', PRow w' a6 L'.length (pairAt L') → Calls Tryd.prog 22 #[.int .i64 (n : Nat), .slice a6 L'.length cap6, .agg #[.int .i64 (r.1 : Nat), .int .i64 (r.2 : Nat)]] w' fun e w'' => e = .returned (.tuple #[.bool false, .int .i64 0]) ∧ Below w'.heap.size w' w'') := fun a6 cap6 w' h =>
              (follows_any n a6 L'.length cap6 (pairAt L') r.1 r.2 w' (by unfold maxLen; omega) h).mono fun e w'' ⟨he, hb⟩ => ⟨by
                have h2 := fol_ok h10 hL' (ris_list (fun q hq => HBR.out q (HOQ.out q hq).1)) hr1 hr2 he
                rw [rls_pairAt] at h2
                rw [h2, show ((r.1, r.2) : Nat × Nat) = r from rfl, HF3.out r L' hrm HOQ.out], hb⟩
            clear c1 c2 hre hrm
            go_wp2_with fail
            refine HFA.out.mono ?_
            rintro e w4 ⟨rfl, hb4⟩
            have HB4 : Hid (Below w1.heap.size w1 w4) := Below.then HBx.out hb4
            have HPR4 : Hid (PRow w4 (some ⟨bl, ol, none⟩) L.length (pairAt L)) := HPR1.out.below HB4.out
            have g1 : w4.cell? ⟨bl, ol + k * 2, none⟩ = some (.int .i64 (r.1 : Nat)) := (hb4.cell (World.block_lt_of_cell? _ _ d1)).trans d1
            have g2 : w4.cell? ⟨bl, ol + k * 2 + 1, none⟩ = some (.int .i64 (r.2 : Nat)) := (hb4.cell (World.block_lt_of_cell? _ _ d2)).trans d2
            have m1 : ∀ w' : World, Below w4.heap.size w4 w' → w'.cell? ⟨bl, ol + k * 2, none⟩ = some (.int .i64 (r.1 : Nat)) := fun w' h => (h.cell (World.block_lt_of_cell? _ _ g1)).trans g1
            have m2 : ∀ w' : World, Below w4.heap.size w4 w' → w'.cell? ⟨bl, ol + k * 2 + 1, none⟩ = some (.int .i64 (r.2 : Nat)) := fun w' h => (h.cell (World.block_lt_of_cell? _ _ g2)).trans g2
            have hkc : k ≤ capl := by omega
            clear hb4 HFA d1 d2 HBx g1 g2
            go_wp2_with fail
            refine wp_region_held_drew (S := (fun w' => Below w4.heap.size w4 w')) (by kernel_rfl) ((Below.refl _ _).drew) (fun hHeld => ?_)
            refine wpAnyH_take (i := 0) (oi := { dst := some 69, op := Go.Op.move (Go.Operand.tmp 0), type := 3, pos := "imply.go:132", after := #[], guard := none }) (v := ?_) rfl (by kernel_rfl) (by kernel_rfl) (by kernel_rfl) (fun _ _ _ h => h) (Or.inl ⟨by rfl, ?hy⟩) (by assumption) ?_
            case hy => (intro w9 hSw; (try dsimp only at hSw); go_simp; try with_reducible rfl)
            try simp only [Act.put, List.setIfInBounds_toArray, List.set_cons_zero, List.set_cons_succ]
            refine wpAnyH_take (i := 2) (oi := { dst := some 71, op := Go.Op.move (Go.Operand.tmp 5), type := 22, pos := "imply.go:132", after := #[], guard := none }) (v := ?_) rfl (by kernel_rfl) (by kernel_rfl) (by kernel_rfl) (fun _ _ _ h => h) (Or.inl ⟨by rfl, ?hy⟩) (by assumption) ?_
            case hy => (intro w9 hSw; (try dsimp only at hSw); go_simp; try with_reducible rfl)
            try simp only [Act.put, List.setIfInBounds_toArray, List.set_cons_zero, List.set_cons_succ]
            refine wpAnyH_take (i := 3) (oi := { dst := some 72, op := Go.Op.move (Go.Operand.tmp 10), type := 3, pos := "imply.go:132", after := #[], guard := none }) (v := ?_) rfl (by kernel_rfl) (by kernel_rfl) (by kernel_rfl) (fun _ _ _ h => h) (Or.inl ⟨by rfl, ?hy⟩) (by assumption) ?_
            case hy => (intro w9 hSw; (try dsimp only at hSw); go_simp; try with_reducible rfl)
            try simp only [Act.put, List.setIfInBounds_toArray, List.set_cons_zero, List.set_cons_succ]
            refine wpAnyH_take (i := 4) (oi := { dst := some 73, op := Go.Op.slice 22 (Go.Operand.tmp 71) none (some (Go.Operand.tmp 72)) none, type := 22, pos := "imply.go:132", after := #[{ on := 2, ground := Go.Ground.data }, { on := 3, ground := Go.Ground.data }], guard := none }) (v := ?_) rfl (by kernel_rfl) (by kernel_rfl) (by kernel_rfl) (fun _ _ _ h => h) (Or.inl ⟨by rfl, ?hy⟩) (by assumption) ?_
            case hy => (intro w9 hSw; (try dsimp only at hSw); go_simp; try with_reducible rfl)
            try simp only [Act.put, List.setIfInBounds_toArray, List.set_cons_zero, List.set_cons_succ]
            refine wpAnyH_take (i := 6) (oi := { dst := some 75, op := Go.Op.move (Go.Operand.tmp 5), type := 22, pos := "imply.go:132", after := #[], guard := none }) (v := ?_) rfl (by kernel_rfl) (by kernel_rfl) (by kernel_rfl) (fun _ _ _ h => h) (Or.inl ⟨by rfl, ?hy⟩) (by assumption) ?_
            case hy => (intro w9 hSw; (try dsimp only at hSw); go_simp; try with_reducible rfl)
            try simp only [Act.put, List.setIfInBounds_toArray, List.set_cons_zero, List.set_cons_succ]
            refine wpAnyH_take (i := 7) (oi := { dst := some 76, op := Go.Op.move (Go.Operand.tmp 10), type := 3, pos := "imply.go:132", after := #[], guard := none }) (v := ?_) rfl (by kernel_rfl) (by kernel_rfl) (by kernel_rfl) (fun _ _ _ h => h) (Or.inl ⟨by rfl, ?hy⟩) (by assumption) ?_
            case hy => (intro w9 hSw; (try dsimp only at hSw); go_simp; try with_reducible rfl)
            try simp only [Act.put, List.setIfInBounds_toArray, List.set_cons_zero, List.set_cons_succ]
            refine wpAnyH_take (i := 8) (oi := { dst := some 77, op := Go.Op.binOp Go.BinOp.add 3 (Go.Operand.tmp 76) (Go.Operand.const (Go.Value.int Go.IntKind.i64 1)) 3, type := 3, pos := "imply.go:132", after := #[{ on := 7, ground := Go.Ground.data }], guard := none }) (v := .int .i64 (q : Int)) rfl (by kernel_rfl) (by kernel_rfl) (by kernel_rfl) (fun _ _ _ h => h) (Or.inl ⟨by rfl, ?hy⟩) (by assumption) ?_
            case hy => (intro w9 hSw; (try dsimp only at hSw); go_simp <;> (first | with_reducible rfl | (simp; omega) | omega))
            try simp only [Act.put, List.setIfInBounds_toArray, List.set_cons_zero, List.set_cons_succ]
            refine wpAnyH_take (i := 9) (oi := { dst := some 78, op := Go.Op.slice 22 (Go.Operand.tmp 75) (some (Go.Operand.tmp 77)) none none, type := 22, pos := "imply.go:132", after := #[{ on := 6, ground := Go.Ground.data }, { on := 8, ground := Go.Ground.data }], guard := none }) (v := .slice (some ⟨bl, oq, none⟩) (L.length - q) (capl - q)) rfl (by kernel_rfl) (by kernel_rfl) (by kernel_rfl) (fun _ _ _ h => h) (Or.inl ⟨by rfl, ?hy⟩) (by assumption) ?_
            case hy => (intro w9 hSw; (try dsimp only at hSw); go_simp <;> (first | with_reducible rfl | (simp; omega) | omega))
            try simp only [Act.put, List.setIfInBounds_toArray, List.set_cons_zero, List.set_cons_succ]
            refine wpAnyH_take (i := 11) (oi := { dst := some 80, op := Go.Op.move (Go.Operand.tmp 5), type := 22, pos := "imply.go:132", after := #[], guard := none }) (v := ?_) rfl (by kernel_rfl) (by kernel_rfl) (by kernel_rfl) (fun _ _ _ h => h) (Or.inl ⟨by rfl, ?hy⟩) (by assumption) ?_
            case hy => (intro w9 hSw; (try dsimp only at hSw); go_simp; try with_reducible rfl)
            try simp only [Act.put, List.setIfInBounds_toArray, List.set_cons_zero, List.set_cons_succ]
            refine wpAnyH_take (i := 12) (oi := { dst := some 81, op := Go.Op.move (Go.Operand.tmp 10), type := 3, pos := "imply.go:132", after := #[], guard := none }) (v := ?_) rfl (by kernel_rfl) (by kernel_rfl) (by kernel_rfl) (fun _ _ _ h => h) (Or.inl ⟨by rfl, ?hy⟩) (by assumption) ?_
            case hy => (intro w9 hSw; (try dsimp only at hSw); go_simp; try with_reducible rfl)
            try simp only [Act.put, List.setIfInBounds_toArray, List.set_cons_zero, List.set_cons_succ]
            refine wpAnyH_take (i := 13) (oi := { dst := some 82, op := Go.Op.indexAddr 22 (Go.Operand.tmp 80) (Go.Operand.tmp 81), type := 0, pos := "imply.go:132", after := #[{ on := 11, ground := Go.Ground.data }, { on := 12, ground := Go.Ground.data }], guard := none }) (v := ?_) rfl (by kernel_rfl) (by kernel_rfl) (by kernel_rfl) (fun _ _ _ h => h) (Or.inl ⟨by rfl, ?hy⟩) (by assumption) ?_
            case hy => (intro w9 hSw; (try dsimp only at hSw); go_simp; try with_reducible rfl)
            try simp only [Act.put, List.setIfInBounds_toArray, List.set_cons_zero, List.set_cons_succ]
            refine wpAnyH_take (i := 14) (oi := { dst := some 83, op := Go.Op.load 47 (Go.Operand.tmp 82), type := 47, pos := "imply.go:132", after := #[{ on := 13, ground := Go.Ground.data }], guard := none }) (v := ?_) rfl (by kernel_rfl) (by kernel_rfl) (by kernel_rfl) (fun _ _ _ h => h) (Or.inl ⟨by rfl, ?hy⟩) (by assumption) ?_
            case hy => (intro w9 hSw; (try dsimp only at hSw); go_simp; try with_reducible rfl)
            try simp only [Act.put, List.setIfInBounds_toArray, List.set_cons_zero, List.set_cons_succ]
            refine wpAnyH_ready (rs := [1]) (by kernel_rfl) (by simp) ?_
            refine AllReadyH.cons (o := { dst := some 70, op := Go.Op.buildSlice 22 0 #[], type := 22, pos := "imply.go:132", after := #[], guard := none }) rfl (fun K hK => ?_) AllReadyH.nil
            go_simp
            have HBE : Hid (Below w4.heap.size w4 (w4.alloc (.cells #[] 47)).drew) := ((Below.refl _ _).alloc (Nat.le_refl _) _).drew
            refine hK.out _ _ ?_ (fun hHeld => ?_)
            · exact HBE.out
            clear hK K
            try simp only [Act.put, List.setIfInBounds_toArray, List.set_cons_zero, List.set_cons_succ]
            refine wpAnyH_ready (rs := [5]) (by kernel_rfl) (by simp) ?_
            refine AllReadyH.cons (o := { dst := some 74, op := Go.Op.call { callee := Go.Callee.builtin Go.Builtin.append, args := #[Go.Operand.tmp 70, Go.Operand.tmp 73], argTypes := #[22, 22] }, type := 22, pos := "imply.go:132", after := #[{ on := 1, ground := Go.Ground.data }, { on := 4, ground := Go.Ground.data }], guard := none }) rfl (fun K hK => ?_) AllReadyH.nil
            rw [if_pos (by rfl)]
            refine wp_app _ w4 _ _ rfl _ [] (L.take k) rfl (.inl ⟨rfl, _, rfl⟩) HBE.out bl ol k _ rfl (by simp; omega) (prow_take (by omega) (HPR4.out.below HBE.out)) (by simp; omega) ?_
            intro v5 w5 happ5 hB5
            refine hK.out _ _ ?_ (fun hHeld => ?_)
            · exact hB5
            clear hK K
            try simp only [Act.put, List.setIfInBounds_toArray, List.set_cons_zero, List.set_cons_succ]
            refine wpAnyH_ready (rs := [10]) (by kernel_rfl) (by simp) ?_
            refine AllReadyH.cons (o := { dst := some 79, op := Go.Op.call { callee := Go.Callee.builtin Go.Builtin.append, args := #[Go.Operand.tmp 74, Go.Operand.tmp 78], argTypes := #[22, 22] }, type := 22, pos := "imply.go:132", after := #[{ on := 5, ground := Go.Ground.data }, { on := 9, ground := Go.Ground.data }, { on := 5, ground := Go.Ground.chain }], guard := none }) rfl (fun K hK => ?_) AllReadyH.nil
            rw [if_pos (by rfl)]
            refine wp_app _ w4 _ _ rfl _ ([] ++ L.take k) (L.drop q) rfl happ5 hB5 bl oq (L.length - q) _ rfl (by simp) (HPQ.out _ (HPR4.out.below hB5)) (by simp; omega) ?_
            intro v6 w6 happ6 hB6
            have HOUT : Hid (PSl w6 v6 L') := by
              have h := happ6.pairs
              rw [List.nil_append, HQE.out] at h
              rw [HL'.out]
              exact h
            obtain ⟨a6, cap6, rfl, hp6⟩ := HOUT.out
            clear happ5 happ6
            refine hK.out _ _ ?_ (fun hHeld => ?_)
            · exact hB6
            clear hK K
            try simp only [Act.put, List.setIfInBounds_toArray, List.set_cons_zero, List.set_cons_succ]
            refine wpAnyH_ready (rs := [15]) (by kernel_rfl) (by simp) ?_
            refine AllReadyH.cons (o := { dst := some 84, op := Go.Op.call { callee := Go.Callee.value (Go.Operand.func 22), args := #[Go.Operand.tmp 69, Go.Operand.tmp 79, Go.Operand.tmp 83], argTypes := #[3, 22, 47] }, type := 44, pos := "imply.go:132", after := #[{ on := 0, ground := Go.Ground.data }, { on := 10, ground := Go.Ground.data }, { on := 14, ground := Go.Ground.data }, { on := 10, ground := Go.Ground.chain }], guard := none }) rfl (fun K hK => ?_) AllReadyH.nil
            go_simp
            refine (HFO.out a6 cap6 _ hp6).mono ?_
            rintro e w7 ⟨rfl, hb7⟩
            have HB7 : Hid (Below w4.heap.size w4 w7) := Below.then hB6 hb7
            clear hp6 hb7
            refine hK.out _ _ ?_ (fun hHeld => ?_)
            · exact HB7.out
            clear hK K
            try simp only [Act.put, List.setIfInBounds_toArray, List.set_cons_zero, List.set_cons_succ]
            refine wpAnyH_take (i := 16) (oi := { dst := some 68, op := Go.Op.move (Go.Operand.tmp 84), type := 44, pos := "imply.go:132", after := #[{ on := 15, ground := Go.Ground.data }], guard := none }) (v := ?_) rfl (by kernel_rfl) (by kernel_rfl) (by kernel_rfl) (fun _ _ _ h => h) (Or.inl ⟨by rfl, ?hy⟩) (by assumption) ?_
            case hy => (intro w9 hSw; (try dsimp only at hSw); go_simp; try with_reducible rfl)
            try simp only [Act.put, List.setIfInBounds_toArray, List.set_cons_zero, List.set_cons_succ]
            refine wpAnyH_take (i := 17) (oi := { dst := some 85, op := Go.Op.extract (Go.Operand.tmp 68) 0, type := 4, pos := "imply.go:132", after := #[{ on := 16, ground := Go.Ground.data }], guard := none }) (v := ?_) rfl (by kernel_rfl) (by kernel_rfl) (by kernel_rfl) (fun _ _ _ h => h) (Or.inl ⟨by rfl, ?hy⟩) (by assumption) ?_
            case hy => (intro w9 hSw; (try dsimp only at hSw); go_simp; try with_reducible rfl)
            try simp only [Act.put, List.setIfInBounds_toArray, List.set_cons_zero, List.set_cons_succ]
            refine wpAnyH_take (i := 18) (oi := { dst := some 86, op := Go.Op.extract (Go.Operand.tmp 68) 1, type := 24, pos := "imply.go:132", after := #[{ on := 16, ground := Go.Ground.data }, { on := 19, ground := Go.Ground.gcOnly Go.Departure.lateStores }], guard := none }) (v := ?_) rfl (by kernel_rfl) (by kernel_rfl) (by kernel_rfl) (fun _ _ _ h => h) (Or.inl ⟨by rfl, ?hy⟩) (by assumption) ?_
            case hy => (intro w9 hSw; (try dsimp only at hSw); go_simp; try with_reducible rfl)
            try simp only [Act.put, List.setIfInBounds_toArray, List.set_cons_zero, List.set_cons_succ]
            refine wpAnyH_take (i := 19) (oi := { dst := some 13, op := Go.Op.assign (Go.Operand.tmp 85), type := 4, pos := "imply.go:132", after := #[{ on := 17, ground := Go.Ground.data }, { on := 15, ground := Go.Ground.chain }, { on := 0, ground := Go.Ground.phase }, { on := 1, ground := Go.Ground.phase }, { on := 2, ground := Go.Ground.phase }, { on := 3, ground := Go.Ground.phase }, { on := 4, ground := Go.Ground.phase }, { on := 5, ground := Go.Ground.phase }, { on := 6, ground := Go.Ground.phase }, { on := 7, ground := Go.Ground.phase }, { on := 8, ground := Go.Ground.phase }, { on := 9, ground := Go.Ground.phase }, { on := 10, ground := Go.Ground.phase }, { on := 11, ground := Go.Ground.phase }, { on := 12, ground := Go.Ground.phase }, { on := 13, ground := Go.Ground.phase }, { on := 14, ground := Go.Ground.phase }, { on := 15, ground := Go.Ground.phase }, { on := 16, ground := Go.Ground.phase }, { on := 17, ground := Go.Ground.phase }, { on := 18, ground := Go.Ground.textOnly Go.Departure.lateStores }], guard := none }) (v := ?_) rfl (by kernel_rfl) (by kernel_rfl) (by kernel_rfl) (fun _ _ _ h => h) (Or.inl ⟨by rfl, ?hy⟩) (by assumption) ?_
            case hy => (intro w9 hSw; (try dsimp only at hSw); go_simp; try with_reducible rfl)
            try simp only [Act.put, List.setIfInBounds_toArray, List.set_cons_zero, List.set_cons_succ]
            refine wpAnyH_take (i := 20) (oi := { dst := some 14, op := Go.Op.assign (Go.Operand.tmp 86), type := 24, pos := "imply.go:132", after := #[{ on := 18, ground := Go.Ground.data }, { on := 19, ground := Go.Ground.chain }, { on := 0, ground := Go.Ground.phase }, { on := 1, ground := Go.Ground.phase }, { on := 2, ground := Go.Ground.phase }, { on := 3, ground := Go.Ground.phase }, { on := 4, ground := Go.Ground.phase }, { on := 5, ground := Go.Ground.phase }, { on := 6, ground := Go.Ground.phase }, { on := 7, ground := Go.Ground.phase }, { on := 8, ground := Go.Ground.phase }, { on := 9, ground := Go.Ground.phase }, { on := 10, ground := Go.Ground.phase }, { on := 11, ground := Go.Ground.phase }, { on := 12, ground := Go.Ground.phase }, { on := 13, ground := Go.Ground.phase }, { on := 14, ground := Go.Ground.phase }, { on := 15, ground := Go.Ground.phase }, { on := 16, ground := Go.Ground.phase }, { on := 17, ground := Go.Ground.phase }, { on := 18, ground := Go.Ground.phase }, { on := 19, ground := Go.Ground.phase }], guard := none }) (v := ?_) rfl (by kernel_rfl) (by kernel_rfl) (by kernel_rfl) (fun _ _ _ h => h) (Or.inl ⟨by rfl, ?hy⟩) (by assumption) ?_
            case hy => (intro w9 hSw; (try dsimp only at hSw); go_simp; try with_reducible rfl)
            try simp only [Act.put, List.setIfInBounds_toArray, List.set_cons_zero, List.set_cons_succ]
            refine wpAnyH_done (by kernel_rfl) ?_ _
            try simp only [Act.put, List.setIfInBounds_toArray, List.set_cons_zero, List.set_cons_succ]
            have HB8 : Hid (Below w1.heap.size w1 w7) := Below.then HB4.out HB7.out
            go_wp2_with fail
            go_roundw
            case rel => exact ⟨q, hql, by first | rfl | go_num, HB8⟩
            case measure => have hqe := HQE.out; simp [intOf]; omega
          · have hke : (L.length : Int) ≤ (k : Int) := by omega
            go_wp2_with fail
            go_ret
            exact ⟨rfl, Below.then HB1.out HBx.out⟩
end Go.Proofs.YtgjdpgjaaaeglaaDoor
