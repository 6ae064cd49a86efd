/-
  What hasselaw.RestOrders answers: true. Conditions: the slices read as slices of at most 17592186043904 numbers; the table of the least bits.
-/
import Derived.Deep.RegionHeld3
import Derived.Deep.Cut
import Derived.Deep.CutRange
import Derived.Deep.QuietTactic
import Derived.BigQuiet
import Derived.Test.YtinblbkglkhjmaaDoorMkB
import Derived.Test.YtinblbkglkhjmaaDoorReP
namespace Go.Proofs.YtinblbkglkhjmaaDoor
set_option maxRecDepth 100000
open Go.RowKit

theorem pq_al {S0 : Nat} {w wa : World} {o : Obj} {na : Int} {la : Nat} {fa : Nat → Int} {nb : Int} {lb : Nat} {fb : Nat → Int} {P Q : Nat} {a : Option Addr} {ca : Nat} {b : Option Addr} {cb : Nat} (h : Hid (PQ S0 w na la fa nb lb fb P Q a ca b cb)) (e : w.alloc o = wa) : Hid (PQ S0 wa na la fa nb lb fb P Q a ca b cb) := by
  have hb : Below w.heap.size w wa := by rw [← e]; exact (Below.refl _ _).alloc (Nat.le_refl _) _
  obtain ⟨p1, p2, p3, p4, p5, p6, p7, p8, p9, p10, p11⟩ := h.out
  exact ⟨(bxS p1 hb).out, (bxS p2 hb).out, (frS p3 hb).out, (frS p4 hb).out, p5, p6, p7, p8, p9, p10, p11⟩
theorem pq_ne {S0 : Nat} {w : World} {na : Int} {la : Nat} {fa : Nat → Int} {nb : Int} {lb : Nat} {fb : Nat → Int} {P Q : Nat} {a : Option Addr} {ca : Nat} {b : Option Addr} {cb : Nat} (h : Hid (PQ S0 w na la fa nb lb fb P Q a ca b cb)) : Hid (w.heap.size ≠ P) ∧ Hid (w.heap.size ≠ Q) := by
  have h1 : P < w.heap.size := World.block_lt_of_cell? _ _ h.out.bp.1
  have h2 : Q < w.heap.size := World.block_lt_of_cell? _ _ h.out.bq.1
  exact ⟨(fun e => by omega : w.heap.size ≠ P), (fun e => by omega : w.heap.size ≠ Q)⟩
theorem det_len {na : Int} {la : Nat} {fa : Nat → Int} {nb : Int} {lb : Nat} {fb : Nat → Int} {set : Int} {k : Nat} (hk : k < 7) {N : Int} {l : Nat} {G : Nat → Nat} (h : Det (PP na la fa nb lb fb set k) (LL la lb set k) (GG la fa lb fb set k) N l G) : l ≤ 17592186043904 := by
  rcases h with ⟨_, _, rfl⟩ | ⟨hP, _, rfl, _⟩
  · omega
  · have := (pp_good k hk hP).1; omega
/-- What the call gave, in its box. -/
def SX (X : Nat) (N : Int) (x : Option Addr) (lx cx : Nat) (S0 : Nat) (G : Nat → Nat) (w : World) : Prop := Bxd w X N x lx cx ∧ FR w S0 x lx (fun j => (G j : Nat))
theorem sxS {X : Nat} {N : Int} {x : Option Addr} {lx cx S0 : Nat} {G : Nat → Nat} {w w' : World} (h : SX X N x lx cx S0 G w) (hb : Below w.heap.size w w') : SX X N x lx cx S0 G w' := ⟨(bxS h.1 hb).out, (frS h.2 hb).out⟩
theorem sxO {X : Nat} {N : Int} {x : Option Addr} {lx cx S0 : Nat} {G : Nat → Nat} {w w' : World} {O u v : Nat} {y z : Value} (h : SX X N x lx cx S0 G w) (hX : Hid (X ≠ O)) (hS : O < S0) (e : (w.setCell ⟨O, u, none⟩ y).setCell ⟨O, v, none⟩ z = w') : SX X N x lx cx S0 G w' := by
  have hs : ∀ p : Addr, p.block ≠ O → w'.cell? p = w.cell? p := fun p hp => by
    rw [← e, World.cell?_setCell_other _ _ _ _ (fun q => by subst q; simp at hp), World.cell?_setCell_other _ _ _ _ (fun q => by subst q; simp at hp)]
  refine ⟨⟨(hs _ hX.out).trans h.1.1, (hs _ hX.out).trans h.1.2⟩, fun k hk => ?_⟩
  obtain ⟨b, rfl, ⟨h1, h2⟩, h3, h4⟩ := h.2 k hk
  exact ⟨b, rfl, ⟨h1, by rw [← e]; simpa using h2⟩, (hs _ (by show b ≠ O; omega)).trans h3, by rw [← e, World.frozen?_setCell, World.frozen?_setCell]; exact h4⟩
theorem setO {W w w' : World} {O u v : Nat} {y z : Value} (h : Below W.heap.size W w) (hO : Hid (W.heap.size ≤ O)) (e : (w.setCell ⟨O, u, none⟩ y).setCell ⟨O, v, none⟩ z = w') : Below W.heap.size W w' := by
  rw [← e]
  exact (h.setCell (p := ⟨O, u, none⟩) hO.out _).setCell (p := ⟨O, v, none⟩) hO.out _
set_option maxHeartbeats 8000000 in
theorem restOrders_any (na : Int) (a : Option Addr) (la ca : Nat) (fa : Nat → Int) (nb : Int) (b : Option Addr) (lb cb : Nat) (fb : Nat → Int) (set : Int) (w : World) (hla : la ≤ 17592186043904) (hlb : lb ≤ 17592186043904) (hr : Row w a la fa) (hr2 : Row w b lb fb) (hT : Tab w) :
    Calls Tryd.prog 3 #[.agg #[.int .i64 na, .slice a la ca], .agg #[.int .i64 nb, .slice b lb cb], .int .i64 set] w fun e w' => e = .returned (.bool true) ∧ Below w.heap.size w w' := by
  have hma : la ≤ maxLen := by unfold maxLen; omega
  have hmb : lb ≤ maxLen := by unfold maxLen; omega
  have hB1 : Below w.heap.size w (w.alloc (.cells #[.int .i64 na, .slice a la ca] 24)) := (Below.refl _ _).alloc (Nat.le_refl _) _
  have hB2 : Below (w.alloc (.cells #[.int .i64 na, .slice a la ca] 24)).heap.size (w.alloc (.cells #[.int .i64 na, .slice a la ca] 24)) ((w.alloc (.cells #[.int .i64 na, .slice a la ca] 24)).alloc (.cells #[.int .i64 nb, .slice b lb cb] 24)) := (Below.refl _ _).alloc (Nat.le_refl _) _
  have KA : Hid (Held ((w.alloc (.cells #[.int .i64 na, .slice a la ca] 24)).alloc (.cells #[.int .i64 nb, .slice b lb cb] 24)) w.heap.size na a la ca fa) := (Held.box hr).step hB2
  have KB : Hid (Held ((w.alloc (.cells #[.int .i64 na, .slice a la ca] 24)).alloc (.cells #[.int .i64 nb, .slice b lb cb] 24)) (w.heap.size + 1) nb b lb cb fb) := by
    have h := Held.box (n := nb) (cap := cb) (hr2.below hB1)
    rw [World.size_alloc] at h
    exact h
  have HB0 : Hid (Below w.heap.size w ((w.alloc (.cells #[.int .i64 na, .slice a la ca] 24)).alloc (.cells #[.int .i64 nb, .slice b lb cb] 24))) := Below.then hB1 hB2
  have HT0 : Hid (Tab w) := hT
  clear hr hr2 hT hB1 hB2
  go_enter Tryd.func3, Tryd.ntmps3
  go_wp2_with fail
  refine (orderBegun_any _).mono ?_
  rintro e w1 ⟨rfl, hb⟩
  have HB1 : Hid (Below w.heap.size w w1) := Below.then HB0.out hb
  have KA1 : Hid (Held w1 w.heap.size na a la ca fa) := KA.out.step hb
  have KB1 : Hid (Held w1 (w.heap.size + 1) nb b lb cb fb) := KB.out.step hb
  have HT : Hid (Tab w1) := HT0.out.step HB1.out
  clear hb HB0 KA KB HT0
  go_wp2_with fail
  go_loopw [7] (fun kv wx => ∃ k : Nat, k ≤ 7 ∧ kv = .int .i64 k ∧ Hid (Below w1.heap.size w1 wx)) (fun kv _ => 7 - (intOf kv).toNat)
  case atStart => exact ⟨0, by omega, rfl, Below.refl _ _⟩
  case round =>
    obtain ⟨k, hk, rfl, HBk⟩ := hrel
    by_cases hk7 : k < 7
    · have hkI : (k : Int) < 7 := by omega
      go_wp2_with fail
      have HBO : Hid (Below w1.heap.size w1 (wr.alloc (.cells #[.int .i64 0, .slice none 0 0, .int .i64 0, .slice none 0 0] 26))) := alB HBk.out rfl
      have HOS : Hid (OSt (PP na la fa nb lb fb set k) (LL la lb set k) (GG la fa lb fb set k) wr.heap.size 0 (wr.alloc (.cells #[.int .i64 0, .slice none 0 0, .int .i64 0, .slice none 0 0] 26))) := OSt.new rfl
      have HOL : Hid (w1.heap.size ≤ wr.heap.size) := HBk.out.size
      clear HBk
      generalize wr.alloc (.cells #[.int .i64 0, .slice none 0 0, .int .i64 0, .slice none 0 0] 26) = wO at *
      generalize wr.heap.size = O at *
      clear wr
      go_loopw [9] (fun iv wx => ∃ i : Nat, i ≤ 2 ∧ iv = .int .i64 i ∧ Hid (OSt (PP na la fa nb lb fb set k) (LL la lb set k) (GG la fa lb fb set k) O i wx) ∧ Hid (Below w1.heap.size w1 wx)) (fun iv _ => 2 - (intOf iv).toNat)
      case atStart => exact ⟨0, by omega, rfl, HOS, HBO⟩
      case round =>
        clear HOS HBO
        obtain ⟨i, hi, rfl, HOi, HBi⟩ := hrel
        rename World => wi
        by_cases hi2 : i < 2
        · have hiI : (i : Int) < 2 := by omega
          have o0 : ∀ w', Below wi.heap.size wi w' → w'.cell? ⟨w.heap.size, 0, none⟩ = some (.int .i64 na) := fun w' h => (KA1.out.step (Below.then HBi.out h)).c0
          have o1 : ∀ w', Below wi.heap.size wi w' → w'.cell? ⟨w.heap.size, 1, none⟩ = some (.slice a la ca) := fun w' h => (KA1.out.step (Below.then HBi.out h)).c1
          have o2 : ∀ w', Below wi.heap.size wi w' → w'.cell? ⟨w.heap.size + 1, 0, none⟩ = some (.int .i64 nb) := fun w' h => (KB1.out.step (Below.then HBi.out h)).c0
          have o3 : ∀ w', Below wi.heap.size wi w' → w'.cell? ⟨w.heap.size + 1, 1, none⟩ = some (.slice b lb cb) := fun w' h => (KB1.out.step (Below.then HBi.out h)).c1
          have HRA : Hid (∀ w', Below wi.heap.size wi w' → Row w' a la fa) := fun w' h => (KA1.out.step (Below.then HBi.out h)).row
          have HRB : Hid (∀ w', Below wi.heap.size wi w' → Row w' b lb fb) := fun w' h => (KB1.out.step (Below.then HBi.out h)).row
          go_upto_region 10 with fail
          go_cut [10, 11] from 19 to 105 (fun p q wx => ∃ (P Q : Nat) (a2 : Option Addr) (c2 : Nat) (b2 : Option Addr) (c3 : Nat), p = .pointer (some ⟨P, 0, none⟩) ∧ q = .pointer (some ⟨Q, 0, none⟩) ∧ Hid (PQ wi.heap.size wx na la fa nb lb fb P Q a2 c2 b2 c3) ∧ Hid (Below wi.heap.size wi wx))
          case first =>
            refine wp_region_held_drew (S := (fun w' => Below wi.heap.size wi w')) (by kernel_rfl) ((Below.refl _ _).drew) (fun hHeld => ?_)
            generalize wi.drew = wj at *
            refine wpAnyH_take (i := 0) (oi := { dst := some 23, op := Go.Op.fieldAddr 24 (Go.Operand.tmp 3) 0, type := 0, pos := "memory.go:64", after := #[], guard := none }) (v := ?_) rfl (by kernel_rfl) (by kernel_rfl) (by kernel_rfl) (fun _ _ _ h => h) (Or.inl ⟨by rfl, ?hy⟩) (by assumption) ?_
            case hy => (intro w9 hSw; (try dsimp only at hSw); go_simp; try with_reducible rfl)
            try simp only [Act.put, List.setIfInBounds_toArray, List.set_cons_zero, List.set_cons_succ]
            refine wpAnyH_take (i := 1) (oi := { dst := some 24, op := Go.Op.load 3 (Go.Operand.tmp 23), type := 3, pos := "memory.go:64", after := #[{ on := 0, ground := Go.Ground.data }], guard := none }) (v := ?_) rfl (by kernel_rfl) (by kernel_rfl) (by kernel_rfl) (fun _ _ _ h => h) (Or.inl ⟨by rfl, ?hy⟩) (by assumption) ?_
            case hy => (intro w9 hSw; (try dsimp only at hSw); go_simp; try with_reducible rfl)
            try simp only [Act.put, List.setIfInBounds_toArray, List.set_cons_zero, List.set_cons_succ]
            refine wpAnyH_take (i := 2) (oi := { dst := some 25, op := Go.Op.fieldAddr 24 (Go.Operand.tmp 3) 1, type := 0, pos := "memory.go:64", after := #[], guard := none }) (v := ?_) rfl (by kernel_rfl) (by kernel_rfl) (by kernel_rfl) (fun _ _ _ h => h) (Or.inl ⟨by rfl, ?hy⟩) (by assumption) ?_
            case hy => (intro w9 hSw; (try dsimp only at hSw); go_simp; try with_reducible rfl)
            try simp only [Act.put, List.setIfInBounds_toArray, List.set_cons_zero, List.set_cons_succ]
            refine wpAnyH_take (i := 3) (oi := { dst := some 26, op := Go.Op.load 22 (Go.Operand.tmp 25), type := 22, pos := "memory.go:64", after := #[{ on := 2, ground := Go.Ground.data }], guard := none }) (v := ?_) rfl (by kernel_rfl) (by kernel_rfl) (by kernel_rfl) (fun _ _ _ h => h) (Or.inl ⟨by rfl, ?hy⟩) (by assumption) ?_
            case hy => (intro w9 hSw; (try dsimp only at hSw); go_simp; try with_reducible rfl)
            try simp only [Act.put, List.setIfInBounds_toArray, List.set_cons_zero, List.set_cons_succ]
            refine wpAnyH_take (i := 6) (oi := { dst := some 29, op := Go.Op.fieldAddr 24 (Go.Operand.tmp 4) 0, type := 0, pos := "memory.go:64", after := #[{ on := 14, ground := Go.Ground.gcOnly Go.Departure.lateStores }], guard := none }) (v := ?_) rfl (by kernel_rfl) (by kernel_rfl) (by kernel_rfl) (fun _ _ _ h => h) (Or.inl ⟨by rfl, ?hy⟩) (by assumption) ?_
            case hy => (intro w9 hSw; (try dsimp only at hSw); go_simp; try with_reducible rfl)
            try simp only [Act.put, List.setIfInBounds_toArray, List.set_cons_zero, List.set_cons_succ]
            refine wpAnyH_take (i := 7) (oi := { dst := some 30, op := Go.Op.load 3 (Go.Operand.tmp 29), type := 3, pos := "memory.go:64", after := #[{ on := 6, ground := Go.Ground.data }, { on := 14, ground := Go.Ground.gcOnly Go.Departure.lateStores }], guard := none }) (v := ?_) rfl (by kernel_rfl) (by kernel_rfl) (by kernel_rfl) (fun _ _ _ h => h) (Or.inl ⟨by rfl, ?hy⟩) (by assumption) ?_
            case hy => (intro w9 hSw; (try dsimp only at hSw); go_simp; try with_reducible rfl)
            try simp only [Act.put, List.setIfInBounds_toArray, List.set_cons_zero, List.set_cons_succ]
            refine wpAnyH_take (i := 8) (oi := { dst := some 31, op := Go.Op.fieldAddr 24 (Go.Operand.tmp 4) 1, type := 0, pos := "memory.go:64", after := #[], guard := none }) (v := ?_) rfl (by kernel_rfl) (by kernel_rfl) (by kernel_rfl) (fun _ _ _ h => h) (Or.inl ⟨by rfl, ?hy⟩) (by assumption) ?_
            case hy => (intro w9 hSw; (try dsimp only at hSw); go_simp; try with_reducible rfl)
            try simp only [Act.put, List.setIfInBounds_toArray, List.set_cons_zero, List.set_cons_succ]
            refine wpAnyH_take (i := 9) (oi := { dst := some 32, op := Go.Op.load 22 (Go.Operand.tmp 31), type := 22, pos := "memory.go:64", after := #[{ on := 8, ground := Go.Ground.data }], guard := none }) (v := ?_) rfl (by kernel_rfl) (by kernel_rfl) (by kernel_rfl) (fun _ _ _ h => h) (Or.inl ⟨by rfl, ?hy⟩) (by assumption) ?_
            case hy => (intro w9 hSw; (try dsimp only at hSw); go_simp; try with_reducible rfl)
            try simp only [Act.put, List.setIfInBounds_toArray, List.set_cons_zero, List.set_cons_succ]
            refine wpAnyH_ready (rs := [4, 12, 13]) (by kernel_rfl) (by simp) ?_
            refine AllReadyH.cons (o := { dst := some 27, op := Go.Op.call { callee := Go.Callee.value (Go.Operand.func 5), args := #[Go.Operand.tmp 26], argTypes := #[22] }, type := 22, pos := "memory.go:64", after := #[{ on := 3, ground := Go.Ground.data }], guard := none }) rfl (fun K hK => ?_) ?_
            · go_simp
              refine (twin_any a la ca fa _ hla (HRA.out _ (by assumption))).mono ?_
              rintro e w5 ⟨⟨a2, c2, rfl, hF5, hn5⟩, hb5⟩
              have HA : Hid (FR w5 wi.heap.size a2 la fa) := hF5.wide (Below.size (by assumption)) (Nat.le_refl _)
              refine hK.out _ _ ?_ (fun hHeld => ?_)
              · exact Below.then (by assumption) hb5
              clear hK K
              try simp only [Act.put, List.setIfInBounds_toArray, List.set_cons_zero, List.set_cons_succ]
              try (have HAP := neF_old HZP hF5)
              try (have HAQ := neF_old HZQ hF5)
              try (replace HZP := zbS HZP hb5)
              try (replace HZQ := zbS HZQ hb5)
              have HNA : Hid (a2 = none → la = 0 ∧ c2 = 0) := hn5
              clear hF5 hn5 hb5
              try clear z0 z1 g0 g1
              try (obtain ⟨z0, z1, g0, g1⟩ := HZP.out)
              refine wpAnyH_take (i := 5) (oi := { dst := some 28, op := Go.Op.build 24 #[(0, Go.Operand.tmp 24), (1, Go.Operand.tmp 27)], type := 24, pos := "memory.go:64", after := #[{ on := 1, ground := Go.Ground.data }, { on := 4, ground := Go.Ground.data }], guard := none }) (v := ?_) rfl (by kernel_rfl) (by kernel_rfl) (by kernel_rfl) (fun _ _ _ h => h) (Or.inl ⟨by rfl, ?hy⟩) (by assumption) ?_
              case hy => (intro w9 hSw; (try dsimp only at hSw); go_simp; try with_reducible rfl)
              try simp only [Act.put, List.setIfInBounds_toArray, List.set_cons_zero, List.set_cons_succ]
              refine wpAnyH_ready (rs := [10, 12, 13]) (by kernel_rfl) (by simp) ?_
              refine AllReadyH.cons (o := { dst := some 33, op := Go.Op.call { callee := Go.Callee.value (Go.Operand.func 5), args := #[Go.Operand.tmp 32], argTypes := #[22] }, type := 22, pos := "memory.go:64", after := #[{ on := 9, ground := Go.Ground.data }, { on := 4, ground := Go.Ground.chain }], guard := none }) rfl (fun K hK => ?_) ?_
              · go_simp
                refine (twin_any b lb cb fb _ hlb (HRB.out _ (by assumption))).mono ?_
                rintro e w6 ⟨⟨b2, c3, rfl, hF6, hn6⟩, hb6⟩
                have HB : Hid (FR w6 wi.heap.size b2 lb fb) := hF6.wide (Below.size (by assumption)) (Nat.le_refl _)
                refine hK.out _ _ ?_ (fun hHeld => ?_)
                · exact Below.then (by assumption) hb6
                clear hK K
                try simp only [Act.put, List.setIfInBounds_toArray, List.set_cons_zero, List.set_cons_succ]
                try (have HBP := neF_old HZP hF6)
                try (have HBQ := neF_old HZQ hF6)
                have HAB := ne_rows HA hF6
                replace HA := frS HA hb6
                try (replace HZP := zbS HZP hb6)
                try (replace HZQ := zbS HZQ hb6)
                clear hF6 hn6 hb6
                try clear z0 z1 g0 g1
                try (obtain ⟨z0, z1, g0, g1⟩ := HZP.out)
                refine wpAnyH_take (i := 11) (oi := { dst := some 34, op := Go.Op.build 24 #[(0, Go.Operand.tmp 30), (1, Go.Operand.tmp 33)], type := 24, pos := "memory.go:64", after := #[{ on := 7, ground := Go.Ground.data }, { on := 10, ground := Go.Ground.data }, { on := 14, ground := Go.Ground.gcOnly Go.Departure.lateStores }], guard := none }) (v := ?_) rfl (by kernel_rfl) (by kernel_rfl) (by kernel_rfl) (fun _ _ _ h => h) (Or.inl ⟨by rfl, ?hy⟩) (by assumption) ?_
                case hy => (intro w9 hSw; (try dsimp only at hSw); go_simp; try with_reducible rfl)
                try simp only [Act.put, List.setIfInBounds_toArray, List.set_cons_zero, List.set_cons_succ]
                refine wpAnyH_ready (rs := [12, 13]) (by kernel_rfl) (by simp) ?_
                refine AllReadyH.cons (o := { dst := some 10, op := Go.Op.alloc 24, type := 0, pos := "memory.go:64", after := #[], guard := none }) rfl (fun K hK => ?_) ?_
                · go_simp
                  refine gen_al (fun wp halp => ?_)
                  have HXP := szP (W := wi) (by assumption) halp
                  refine hK.out _ _ ?_ (fun hHeld => ?_)
                  · exact alB (by assumption) halp
                  clear hK K
                  try simp only [Act.put, List.setIfInBounds_toArray, List.set_cons_zero, List.set_cons_succ]
                  have HZP := zbN halp
                  try (have HAP := neF_new HA)
                  try (have HBP := neF_new HB)
                  try (have HPQ := neS (zbNe HZQ halp))
                  try (replace HA := frA HA halp)
                  try (replace HB := frA HB halp)
                  try (replace HZQ := zbA HZQ halp)
                  clear halp
                  try clear z0 z1 g0 g1
                  try (obtain ⟨z0, z1, g0, g1⟩ := HZP.out)
                  refine wpAnyH_ready (rs := [13]) (by kernel_rfl) (by simp) ?_
                  refine AllReadyH.cons (o := { dst := some 11, op := Go.Op.alloc 24, type := 0, pos := "memory.go:64", after := #[], guard := none }) rfl (fun K hK => ?_) AllReadyH.nil
                  go_simp
                  refine gen_al (fun wq halq => ?_)
                  have HXQ := szP (W := wi) (by assumption) halq
                  refine hK.out _ _ ?_ (fun hHeld => ?_)
                  · exact alB (by assumption) halq
                  clear hK K
                  try simp only [Act.put, List.setIfInBounds_toArray, List.set_cons_zero, List.set_cons_succ]
                  have HZQ := zbN halq
                  try (have HAQ := neF_new HA)
                  try (have HBQ := neF_new HB)
                  try (have HPQ := zbNe HZP halq)
                  try (replace HA := frA HA halq)
                  try (replace HB := frA HB halq)
                  try (replace HZP := zbA HZP halq)
                  clear halq
                  try clear z0 z1 g0 g1
                  try (obtain ⟨z0, z1, g0, g1⟩ := HZP.out)
                  refine wpAnyH_ready (rs := [14]) (by kernel_rfl) (by simp) ?_
                  refine AllReadyH.cons (o := { dst := none, op := Go.Op.store 24 (Go.Operand.tmp 10) (Go.Operand.tmp 28), type := 0, pos := "memory.go:64", after := #[{ on := 12, ground := Go.Ground.data }, { on := 5, ground := Go.Ground.data }, { on := 10, ground := Go.Ground.chain }, { on := 0, ground := Go.Ground.phase }, { on := 1, ground := Go.Ground.phase }, { on := 2, ground := Go.Ground.phase }, { on := 3, ground := Go.Ground.phase }, { on := 4, ground := Go.Ground.phase }, { on := 5, ground := Go.Ground.phase }, { on := 6, ground := Go.Ground.textOnly Go.Departure.lateStores }, { on := 7, ground := Go.Ground.textOnly Go.Departure.lateStores }, { on := 8, ground := Go.Ground.textOnly Go.Departure.lateStores }, { on := 9, ground := Go.Ground.textOnly Go.Departure.lateStores }, { on := 10, ground := Go.Ground.textOnly Go.Departure.lateStoresUnsure }, { on := 11, ground := Go.Ground.textOnly Go.Departure.lateStores }, { on := 12, ground := Go.Ground.phase }, { on := 13, ground := Go.Ground.phase }], guard := none }) rfl (fun K hK => ?_) AllReadyH.nil
                  go_simp
                  refine gen_set2 (fun ws hst => ?_)
                  refine hK.out _ _ ?_ (fun hHeld => ?_)
                  · exact stB (by assumption) HXP hst
                  clear hK K
                  try simp only [Act.put, List.setIfInBounds_toArray, List.set_cons_zero, List.set_cons_succ]
                  clear z0 z1 g0 g1
                  have HPB := bxZ HZP hst
                  replace HZQ := zbZ HZQ HPQ hst
                  replace HA := frZ HA HAP hst
                  replace HB := frZ HB HBP hst
                  clear hst HZP
                  obtain ⟨z0, z1, g0, g1⟩ := HZQ.out
                  refine wpAnyH_ready (rs := [15]) (by kernel_rfl) (by simp) ?_
                  refine AllReadyH.cons (o := { dst := none, op := Go.Op.store 24 (Go.Operand.tmp 11) (Go.Operand.tmp 34), type := 0, pos := "memory.go:64", after := #[{ on := 13, ground := Go.Ground.data }, { on := 11, ground := Go.Ground.data }, { on := 14, ground := Go.Ground.chain }, { on := 0, ground := Go.Ground.phase }, { on := 1, ground := Go.Ground.phase }, { on := 2, ground := Go.Ground.phase }, { on := 3, ground := Go.Ground.phase }, { on := 4, ground := Go.Ground.phase }, { on := 5, ground := Go.Ground.phase }, { on := 6, ground := Go.Ground.phase }, { on := 7, ground := Go.Ground.phase }, { on := 8, ground := Go.Ground.phase }, { on := 9, ground := Go.Ground.phase }, { on := 10, ground := Go.Ground.phase }, { on := 11, ground := Go.Ground.phase }, { on := 12, ground := Go.Ground.phase }, { on := 13, ground := Go.Ground.phase }, { on := 14, ground := Go.Ground.phase }], guard := none }) rfl (fun K hK => ?_) AllReadyH.nil
                  go_simp
                  refine gen_set2 (fun wt hst2 => ?_)
                  refine hK.out _ _ ?_ (fun hHeld => ?_)
                  · exact stB (by assumption) HXQ hst2
                  clear hK K
                  try simp only [Act.put, List.setIfInBounds_toArray, List.set_cons_zero, List.set_cons_succ]
                  clear z0 z1 g0 g1
                  have HQB := bxZ HZQ hst2
                  replace HPB := bxO HPB (neS HPQ) hst2
                  replace HA := frZ HA HAQ hst2
                  replace HB := frZ HB HBQ hst2
                  clear hst2 HZQ
                  refine wpAnyH_done (by kernel_rfl) ?_ _
                  try simp only [Act.put, List.setIfInBounds_toArray, List.set_cons_zero, List.set_cons_succ]
                  go_wp2_with fail
                  go_meet
                  exact ⟨_, _, a2, c2, b2, c3, rfl, rfl, ⟨HPB.out, HQB.out, HA.out, HB.out, HAP.out, HAQ.out, HBP.out, HBQ.out, HAB.out, HNA.out, HXP.out, HXQ.out⟩, by assumption⟩
                refine AllReadyH.cons (o := { dst := some 11, op := Go.Op.alloc 24, type := 0, pos := "memory.go:64", after := #[], guard := none }) rfl (fun K hK => ?_) ?_
                · go_simp
                  refine gen_al (fun wq halq => ?_)
                  have HXQ := szP (W := wi) (by assumption) halq
                  refine hK.out _ _ ?_ (fun hHeld => ?_)
                  · exact alB (by assumption) halq
                  clear hK K
                  try simp only [Act.put, List.setIfInBounds_toArray, List.set_cons_zero, List.set_cons_succ]
                  have HZQ := zbN halq
                  try (have HAQ := neF_new HA)
                  try (have HBQ := neF_new HB)
                  try (have HPQ := zbNe HZP halq)
                  try (replace HA := frA HA halq)
                  try (replace HB := frA HB halq)
                  try (replace HZP := zbA HZP halq)
                  clear halq
                  try clear z0 z1 g0 g1
                  try (obtain ⟨z0, z1, g0, g1⟩ := HZP.out)
                  refine wpAnyH_ready (rs := [12]) (by kernel_rfl) (by simp) ?_
                  refine AllReadyH.cons (o := { dst := some 10, op := Go.Op.alloc 24, type := 0, pos := "memory.go:64", after := #[], guard := none }) rfl (fun K hK => ?_) AllReadyH.nil
                  go_simp
                  refine gen_al (fun wp halp => ?_)
                  have HXP := szP (W := wi) (by assumption) halp
                  refine hK.out _ _ ?_ (fun hHeld => ?_)
                  · exact alB (by assumption) halp
                  clear hK K
                  try simp only [Act.put, List.setIfInBounds_toArray, List.set_cons_zero, List.set_cons_succ]
                  have HZP := zbN halp
                  try (have HAP := neF_new HA)
                  try (have HBP := neF_new HB)
                  try (have HPQ := neS (zbNe HZQ halp))
                  try (replace HA := frA HA halp)
                  try (replace HB := frA HB halp)
                  try (replace HZQ := zbA HZQ halp)
                  clear halp
                  try clear z0 z1 g0 g1
                  try (obtain ⟨z0, z1, g0, g1⟩ := HZP.out)
                  refine wpAnyH_ready (rs := [14]) (by kernel_rfl) (by simp) ?_
                  refine AllReadyH.cons (o := { dst := none, op := Go.Op.store 24 (Go.Operand.tmp 10) (Go.Operand.tmp 28), type := 0, pos := "memory.go:64", after := #[{ on := 12, ground := Go.Ground.data }, { on := 5, ground := Go.Ground.data }, { on := 10, ground := Go.Ground.chain }, { on := 0, ground := Go.Ground.phase }, { on := 1, ground := Go.Ground.phase }, { on := 2, ground := Go.Ground.phase }, { on := 3, ground := Go.Ground.phase }, { on := 4, ground := Go.Ground.phase }, { on := 5, ground := Go.Ground.phase }, { on := 6, ground := Go.Ground.textOnly Go.Departure.lateStores }, { on := 7, ground := Go.Ground.textOnly Go.Departure.lateStores }, { on := 8, ground := Go.Ground.textOnly Go.Departure.lateStores }, { on := 9, ground := Go.Ground.textOnly Go.Departure.lateStores }, { on := 10, ground := Go.Ground.textOnly Go.Departure.lateStoresUnsure }, { on := 11, ground := Go.Ground.textOnly Go.Departure.lateStores }, { on := 12, ground := Go.Ground.phase }, { on := 13, ground := Go.Ground.phase }], guard := none }) rfl (fun K hK => ?_) AllReadyH.nil
                  go_simp
                  refine gen_set2 (fun ws hst => ?_)
                  refine hK.out _ _ ?_ (fun hHeld => ?_)
                  · exact stB (by assumption) HXP hst
                  clear hK K
                  try simp only [Act.put, List.setIfInBounds_toArray, List.set_cons_zero, List.set_cons_succ]
                  clear z0 z1 g0 g1
                  have HPB := bxZ HZP hst
                  replace HZQ := zbZ HZQ HPQ hst
                  replace HA := frZ HA HAP hst
                  replace HB := frZ HB HBP hst
                  clear hst HZP
                  obtain ⟨z0, z1, g0, g1⟩ := HZQ.out
                  refine wpAnyH_ready (rs := [15]) (by kernel_rfl) (by simp) ?_
                  refine AllReadyH.cons (o := { dst := none, op := Go.Op.store 24 (Go.Operand.tmp 11) (Go.Operand.tmp 34), type := 0, pos := "memory.go:64", after := #[{ on := 13, ground := Go.Ground.data }, { on := 11, ground := Go.Ground.data }, { on := 14, ground := Go.Ground.chain }, { on := 0, ground := Go.Ground.phase }, { on := 1, ground := Go.Ground.phase }, { on := 2, ground := Go.Ground.phase }, { on := 3, ground := Go.Ground.phase }, { on := 4, ground := Go.Ground.phase }, { on := 5, ground := Go.Ground.phase }, { on := 6, ground := Go.Ground.phase }, { on := 7, ground := Go.Ground.phase }, { on := 8, ground := Go.Ground.phase }, { on := 9, ground := Go.Ground.phase }, { on := 10, ground := Go.Ground.phase }, { on := 11, ground := Go.Ground.phase }, { on := 12, ground := Go.Ground.phase }, { on := 13, ground := Go.Ground.phase }, { on := 14, ground := Go.Ground.phase }], guard := none }) rfl (fun K hK => ?_) AllReadyH.nil
                  go_simp
                  refine gen_set2 (fun wt hst2 => ?_)
                  refine hK.out _ _ ?_ (fun hHeld => ?_)
                  · exact stB (by assumption) HXQ hst2
                  clear hK K
                  try simp only [Act.put, List.setIfInBounds_toArray, List.set_cons_zero, List.set_cons_succ]
                  clear z0 z1 g0 g1
                  have HQB := bxZ HZQ hst2
                  replace HPB := bxO HPB (neS HPQ) hst2
                  replace HA := frZ HA HAQ hst2
                  replace HB := frZ HB HBQ hst2
                  clear hst2 HZQ
                  refine wpAnyH_done (by kernel_rfl) ?_ _
                  try simp only [Act.put, List.setIfInBounds_toArray, List.set_cons_zero, List.set_cons_succ]
                  go_wp2_with fail
                  go_meet
                  exact ⟨_, _, a2, c2, b2, c3, rfl, rfl, ⟨HPB.out, HQB.out, HA.out, HB.out, HAP.out, HAQ.out, HBP.out, HBQ.out, HAB.out, HNA.out, HXP.out, HXQ.out⟩, by assumption⟩
                exact AllReadyH.nil
              refine AllReadyH.cons (o := { dst := some 10, op := Go.Op.alloc 24, type := 0, pos := "memory.go:64", after := #[], guard := none }) rfl (fun K hK => ?_) ?_
              · go_simp
                refine gen_al (fun wp halp => ?_)
                have HXP := szP (W := wi) (by assumption) halp
                refine hK.out _ _ ?_ (fun hHeld => ?_)
                · exact alB (by assumption) halp
                clear hK K
                try simp only [Act.put, List.setIfInBounds_toArray, List.set_cons_zero, List.set_cons_succ]
                have HZP := zbN halp
                try (have HAP := neF_new HA)
                try (have HBP := neF_new HB)
                try (have HPQ := neS (zbNe HZQ halp))
                try (replace HA := frA HA halp)
                try (replace HB := frA HB halp)
                try (replace HZQ := zbA HZQ halp)
                clear halp
                try clear z0 z1 g0 g1
                try (obtain ⟨z0, z1, g0, g1⟩ := HZP.out)
                refine wpAnyH_ready (rs := [10, 13]) (by kernel_rfl) (by simp) ?_
                refine AllReadyH.cons (o := { dst := some 33, op := Go.Op.call { callee := Go.Callee.value (Go.Operand.func 5), args := #[Go.Operand.tmp 32], argTypes := #[22] }, type := 22, pos := "memory.go:64", after := #[{ on := 9, ground := Go.Ground.data }, { on := 4, ground := Go.Ground.chain }], guard := none }) rfl (fun K hK => ?_) ?_
                · go_simp
                  refine (twin_any b lb cb fb _ hlb (HRB.out _ (by assumption))).mono ?_
                  rintro e w6 ⟨⟨b2, c3, rfl, hF6, hn6⟩, hb6⟩
                  have HB : Hid (FR w6 wi.heap.size b2 lb fb) := hF6.wide (Below.size (by assumption)) (Nat.le_refl _)
                  refine hK.out _ _ ?_ (fun hHeld => ?_)
                  · exact Below.then (by assumption) hb6
                  clear hK K
                  try simp only [Act.put, List.setIfInBounds_toArray, List.set_cons_zero, List.set_cons_succ]
                  try (have HBP := neF_old HZP hF6)
                  try (have HBQ := neF_old HZQ hF6)
                  have HAB := ne_rows HA hF6
                  replace HA := frS HA hb6
                  try (replace HZP := zbS HZP hb6)
                  try (replace HZQ := zbS HZQ hb6)
                  clear hF6 hn6 hb6
                  try clear z0 z1 g0 g1
                  try (obtain ⟨z0, z1, g0, g1⟩ := HZP.out)
                  refine wpAnyH_take (i := 11) (oi := { dst := some 34, op := Go.Op.build 24 #[(0, Go.Operand.tmp 30), (1, Go.Operand.tmp 33)], type := 24, pos := "memory.go:64", after := #[{ on := 7, ground := Go.Ground.data }, { on := 10, ground := Go.Ground.data }, { on := 14, ground := Go.Ground.gcOnly Go.Departure.lateStores }], guard := none }) (v := ?_) rfl (by kernel_rfl) (by kernel_rfl) (by kernel_rfl) (fun _ _ _ h => h) (Or.inl ⟨by rfl, ?hy⟩) (by assumption) ?_
                  case hy => (intro w9 hSw; (try dsimp only at hSw); go_simp; try with_reducible rfl)
                  try simp only [Act.put, List.setIfInBounds_toArray, List.set_cons_zero, List.set_cons_succ]
                  refine wpAnyH_ready (rs := [13]) (by kernel_rfl) (by simp) ?_
                  refine AllReadyH.cons (o := { dst := some 11, op := Go.Op.alloc 24, type := 0, pos := "memory.go:64", after := #[], guard := none }) rfl (fun K hK => ?_) AllReadyH.nil
                  go_simp
                  refine gen_al (fun wq halq => ?_)
                  have HXQ := szP (W := wi) (by assumption) halq
                  refine hK.out _ _ ?_ (fun hHeld => ?_)
                  · exact alB (by assumption) halq
                  clear hK K
                  try simp only [Act.put, List.setIfInBounds_toArray, List.set_cons_zero, List.set_cons_succ]
                  have HZQ := zbN halq
                  try (have HAQ := neF_new HA)
                  try (have HBQ := neF_new HB)
                  try (have HPQ := zbNe HZP halq)
                  try (replace HA := frA HA halq)
                  try (replace HB := frA HB halq)
                  try (replace HZP := zbA HZP halq)
                  clear halq
                  try clear z0 z1 g0 g1
                  try (obtain ⟨z0, z1, g0, g1⟩ := HZP.out)
                  refine wpAnyH_ready (rs := [14]) (by kernel_rfl) (by simp) ?_
                  refine AllReadyH.cons (o := { dst := none, op := Go.Op.store 24 (Go.Operand.tmp 10) (Go.Operand.tmp 28), type := 0, pos := "memory.go:64", after := #[{ on := 12, ground := Go.Ground.data }, { on := 5, ground := Go.Ground.data }, { on := 10, ground := Go.Ground.chain }, { on := 0, ground := Go.Ground.phase }, { on := 1, ground := Go.Ground.phase }, { on := 2, ground := Go.Ground.phase }, { on := 3, ground := Go.Ground.phase }, { on := 4, ground := Go.Ground.phase }, { on := 5, ground := Go.Ground.phase }, { on := 6, ground := Go.Ground.textOnly Go.Departure.lateStores }, { on := 7, ground := Go.Ground.textOnly Go.Departure.lateStores }, { on := 8, ground := Go.Ground.textOnly Go.Departure.lateStores }, { on := 9, ground := Go.Ground.textOnly Go.Departure.lateStores }, { on := 10, ground := Go.Ground.textOnly Go.Departure.lateStoresUnsure }, { on := 11, ground := Go.Ground.textOnly Go.Departure.lateStores }, { on := 12, ground := Go.Ground.phase }, { on := 13, ground := Go.Ground.phase }], guard := none }) rfl (fun K hK => ?_) AllReadyH.nil
                  go_simp
                  refine gen_set2 (fun ws hst => ?_)
                  refine hK.out _ _ ?_ (fun hHeld => ?_)
                  · exact stB (by assumption) HXP hst
                  clear hK K
                  try simp only [Act.put, List.setIfInBounds_toArray, List.set_cons_zero, List.set_cons_succ]
                  clear z0 z1 g0 g1
                  have HPB := bxZ HZP hst
                  replace HZQ := zbZ HZQ HPQ hst
                  replace HA := frZ HA HAP hst
                  replace HB := frZ HB HBP hst
                  clear hst HZP
                  obtain ⟨z0, z1, g0, g1⟩ := HZQ.out
                  refine wpAnyH_ready (rs := [15]) (by kernel_rfl) (by simp) ?_
                  refine AllReadyH.cons (o := { dst := none, op := Go.Op.store 24 (Go.Operand.tmp 11) (Go.Operand.tmp 34), type := 0, pos := "memory.go:64", after := #[{ on := 13, ground := Go.Ground.data }, { on := 11, ground := Go.Ground.data }, { on := 14, ground := Go.Ground.chain }, { on := 0, ground := Go.Ground.phase }, { on := 1, ground := Go.Ground.phase }, { on := 2, ground := Go.Ground.phase }, { on := 3, ground := Go.Ground.phase }, { on := 4, ground := Go.Ground.phase }, { on := 5, ground := Go.Ground.phase }, { on := 6, ground := Go.Ground.phase }, { on := 7, ground := Go.Ground.phase }, { on := 8, ground := Go.Ground.phase }, { on := 9, ground := Go.Ground.phase }, { on := 10, ground := Go.Ground.phase }, { on := 11, ground := Go.Ground.phase }, { on := 12, ground := Go.Ground.phase }, { on := 13, ground := Go.Ground.phase }, { on := 14, ground := Go.Ground.phase }], guard := none }) rfl (fun K hK => ?_) AllReadyH.nil
                  go_simp
                  refine gen_set2 (fun wt hst2 => ?_)
                  refine hK.out _ _ ?_ (fun hHeld => ?_)
                  · exact stB (by assumption) HXQ hst2
                  clear hK K
                  try simp only [Act.put, List.setIfInBounds_toArray, List.set_cons_zero, List.set_cons_succ]
                  clear z0 z1 g0 g1
                  have HQB := bxZ HZQ hst2
                  replace HPB := bxO HPB (neS HPQ) hst2
                  replace HA := frZ HA HAQ hst2
                  replace HB := frZ HB HBQ hst2
                  clear hst2 HZQ
                  refine wpAnyH_done (by kernel_rfl) ?_ _
                  try simp only [Act.put, List.setIfInBounds_toArray, List.set_cons_zero, List.set_cons_succ]
                  go_wp2_with fail
                  go_meet
                  exact ⟨_, _, a2, c2, b2, c3, rfl, rfl, ⟨HPB.out, HQB.out, HA.out, HB.out, HAP.out, HAQ.out, HBP.out, HBQ.out, HAB.out, HNA.out, HXP.out, HXQ.out⟩, by assumption⟩
                refine AllReadyH.cons (o := { dst := some 11, op := Go.Op.alloc 24, type := 0, pos := "memory.go:64", after := #[], guard := none }) rfl (fun K hK => ?_) ?_
                · go_simp
                  refine gen_al (fun wq halq => ?_)
                  have HXQ := szP (W := wi) (by assumption) halq
                  refine hK.out _ _ ?_ (fun hHeld => ?_)
                  · exact alB (by assumption) halq
                  clear hK K
                  try simp only [Act.put, List.setIfInBounds_toArray, List.set_cons_zero, List.set_cons_succ]
                  have HZQ := zbN halq
                  try (have HAQ := neF_new HA)
                  try (have HBQ := neF_new HB)
                  try (have HPQ := zbNe HZP halq)
                  try (replace HA := frA HA halq)
                  try (replace HB := frA HB halq)
                  try (replace HZP := zbA HZP halq)
                  clear halq
                  try clear z0 z1 g0 g1
                  try (obtain ⟨z0, z1, g0, g1⟩ := HZP.out)
                  refine wpAnyH_ready (rs := [10]) (by kernel_rfl) (by simp) ?_
                  refine AllReadyH.cons (o := { dst := some 33, op := Go.Op.call { callee := Go.Callee.value (Go.Operand.func 5), args := #[Go.Operand.tmp 32], argTypes := #[22] }, type := 22, pos := "memory.go:64", after := #[{ on := 9, ground := Go.Ground.data }, { on := 4, ground := Go.Ground.chain }], guard := none }) rfl (fun K hK => ?_) AllReadyH.nil
                  go_simp
                  refine (twin_any b lb cb fb _ hlb (HRB.out _ (by assumption))).mono ?_
                  rintro e w6 ⟨⟨b2, c3, rfl, hF6, hn6⟩, hb6⟩
                  have HB : Hid (FR w6 wi.heap.size b2 lb fb) := hF6.wide (Below.size (by assumption)) (Nat.le_refl _)
                  refine hK.out _ _ ?_ (fun hHeld => ?_)
                  · exact Below.then (by assumption) hb6
                  clear hK K
                  try simp only [Act.put, List.setIfInBounds_toArray, List.set_cons_zero, List.set_cons_succ]
                  try (have HBP := neF_old HZP hF6)
                  try (have HBQ := neF_old HZQ hF6)
                  have HAB := ne_rows HA hF6
                  replace HA := frS HA hb6
                  try (replace HZP := zbS HZP hb6)
                  try (replace HZQ := zbS HZQ hb6)
                  clear hF6 hn6 hb6
                  try clear z0 z1 g0 g1
                  try (obtain ⟨z0, z1, g0, g1⟩ := HZP.out)
                  refine wpAnyH_take (i := 11) (oi := { dst := some 34, op := Go.Op.build 24 #[(0, Go.Operand.tmp 30), (1, Go.Operand.tmp 33)], type := 24, pos := "memory.go:64", after := #[{ on := 7, ground := Go.Ground.data }, { on := 10, ground := Go.Ground.data }, { on := 14, ground := Go.Ground.gcOnly Go.Departure.lateStores }], guard := none }) (v := ?_) rfl (by kernel_rfl) (by kernel_rfl) (by kernel_rfl) (fun _ _ _ h => h) (Or.inl ⟨by rfl, ?hy⟩) (by assumption) ?_
                  case hy => (intro w9 hSw; (try dsimp only at hSw); go_simp; try with_reducible rfl)
                  try simp only [Act.put, List.setIfInBounds_toArray, List.set_cons_zero, List.set_cons_succ]
                  refine wpAnyH_ready (rs := [14]) (by kernel_rfl) (by simp) ?_
                  refine AllReadyH.cons (o := { dst := none, op := Go.Op.store 24 (Go.Operand.tmp 10) (Go.Operand.tmp 28), type := 0, pos := "memory.go:64", after := #[{ on := 12, ground := Go.Ground.data }, { on := 5, ground := Go.Ground.data }, { on := 10, ground := Go.Ground.chain }, { on := 0, ground := Go.Ground.phase }, { on := 1, ground := Go.Ground.phase }, { on := 2, ground := Go.Ground.phase }, { on := 3, ground := Go.Ground.phase }, { on := 4, ground := Go.Ground.phase }, { on := 5, ground := Go.Ground.phase }, { on := 6, ground := Go.Ground.textOnly Go.Departure.lateStores }, { on := 7, ground := Go.Ground.textOnly Go.Departure.lateStores }, { on := 8, ground := Go.Ground.textOnly Go.Departure.lateStores }, { on := 9, ground := Go.Ground.textOnly Go.Departure.lateStores }, { on := 10, ground := Go.Ground.textOnly Go.Departure.lateStoresUnsure }, { on := 11, ground := Go.Ground.textOnly Go.Departure.lateStores }, { on := 12, ground := Go.Ground.phase }, { on := 13, ground := Go.Ground.phase }], guard := none }) rfl (fun K hK => ?_) AllReadyH.nil
                  go_simp
                  refine gen_set2 (fun ws hst => ?_)
                  refine hK.out _ _ ?_ (fun hHeld => ?_)
                  · exact stB (by assumption) HXP hst
                  clear hK K
                  try simp only [Act.put, List.setIfInBounds_toArray, List.set_cons_zero, List.set_cons_succ]
                  clear z0 z1 g0 g1
                  have HPB := bxZ HZP hst
                  replace HZQ := zbZ HZQ HPQ hst
                  replace HA := frZ HA HAP hst
                  replace HB := frZ HB HBP hst
                  clear hst HZP
                  obtain ⟨z0, z1, g0, g1⟩ := HZQ.out
                  refine wpAnyH_ready (rs := [15]) (by kernel_rfl) (by simp) ?_
                  refine AllReadyH.cons (o := { dst := none, op := Go.Op.store 24 (Go.Operand.tmp 11) (Go.Operand.tmp 34), type := 0, pos := "memory.go:64", after := #[{ on := 13, ground := Go.Ground.data }, { on := 11, ground := Go.Ground.data }, { on := 14, ground := Go.Ground.chain }, { on := 0, ground := Go.Ground.phase }, { on := 1, ground := Go.Ground.phase }, { on := 2, ground := Go.Ground.phase }, { on := 3, ground := Go.Ground.phase }, { on := 4, ground := Go.Ground.phase }, { on := 5, ground := Go.Ground.phase }, { on := 6, ground := Go.Ground.phase }, { on := 7, ground := Go.Ground.phase }, { on := 8, ground := Go.Ground.phase }, { on := 9, ground := Go.Ground.phase }, { on := 10, ground := Go.Ground.phase }, { on := 11, ground := Go.Ground.phase }, { on := 12, ground := Go.Ground.phase }, { on := 13, ground := Go.Ground.phase }, { on := 14, ground := Go.Ground.phase }], guard := none }) rfl (fun K hK => ?_) AllReadyH.nil
                  go_simp
                  refine gen_set2 (fun wt hst2 => ?_)
                  refine hK.out _ _ ?_ (fun hHeld => ?_)
                  · exact stB (by assumption) HXQ hst2
                  clear hK K
                  try simp only [Act.put, List.setIfInBounds_toArray, List.set_cons_zero, List.set_cons_succ]
                  clear z0 z1 g0 g1
                  have HQB := bxZ HZQ hst2
                  replace HPB := bxO HPB (neS HPQ) hst2
                  replace HA := frZ HA HAQ hst2
                  replace HB := frZ HB HBQ hst2
                  clear hst2 HZQ
                  refine wpAnyH_done (by kernel_rfl) ?_ _
                  try simp only [Act.put, List.setIfInBounds_toArray, List.set_cons_zero, List.set_cons_succ]
                  go_wp2_with fail
                  go_meet
                  exact ⟨_, _, a2, c2, b2, c3, rfl, rfl, ⟨HPB.out, HQB.out, HA.out, HB.out, HAP.out, HAQ.out, HBP.out, HBQ.out, HAB.out, HNA.out, HXP.out, HXQ.out⟩, by assumption⟩
                exact AllReadyH.nil
              refine AllReadyH.cons (o := { dst := some 11, op := Go.Op.alloc 24, type := 0, pos := "memory.go:64", after := #[], guard := none }) rfl (fun K hK => ?_) ?_
              · go_simp
                refine gen_al (fun wq halq => ?_)
                have HXQ := szP (W := wi) (by assumption) halq
                refine hK.out _ _ ?_ (fun hHeld => ?_)
                · exact alB (by assumption) halq
                clear hK K
                try simp only [Act.put, List.setIfInBounds_toArray, List.set_cons_zero, List.set_cons_succ]
                have HZQ := zbN halq
                try (have HAQ := neF_new HA)
                try (have HBQ := neF_new HB)
                try (have HPQ := zbNe HZP halq)
                try (replace HA := frA HA halq)
                try (replace HB := frA HB halq)
                try (replace HZP := zbA HZP halq)
                clear halq
                try clear z0 z1 g0 g1
                try (obtain ⟨z0, z1, g0, g1⟩ := HZP.out)
                refine wpAnyH_ready (rs := [10, 12]) (by kernel_rfl) (by simp) ?_
                refine AllReadyH.cons (o := { dst := some 33, op := Go.Op.call { callee := Go.Callee.value (Go.Operand.func 5), args := #[Go.Operand.tmp 32], argTypes := #[22] }, type := 22, pos := "memory.go:64", after := #[{ on := 9, ground := Go.Ground.data }, { on := 4, ground := Go.Ground.chain }], guard := none }) rfl (fun K hK => ?_) ?_
                · go_simp
                  refine (twin_any b lb cb fb _ hlb (HRB.out _ (by assumption))).mono ?_
                  rintro e w6 ⟨⟨b2, c3, rfl, hF6, hn6⟩, hb6⟩
                  have HB : Hid (FR w6 wi.heap.size b2 lb fb) := hF6.wide (Below.size (by assumption)) (Nat.le_refl _)
                  refine hK.out _ _ ?_ (fun hHeld => ?_)
                  · exact Below.then (by assumption) hb6
                  clear hK K
                  try simp only [Act.put, List.setIfInBounds_toArray, List.set_cons_zero, List.set_cons_succ]
                  try (have HBP := neF_old HZP hF6)
                  try (have HBQ := neF_old HZQ hF6)
                  have HAB := ne_rows HA hF6
                  replace HA := frS HA hb6
                  try (replace HZP := zbS HZP hb6)
                  try (replace HZQ := zbS HZQ hb6)
                  clear hF6 hn6 hb6
                  try clear z0 z1 g0 g1
                  try (obtain ⟨z0, z1, g0, g1⟩ := HZP.out)
                  refine wpAnyH_take (i := 11) (oi := { dst := some 34, op := Go.Op.build 24 #[(0, Go.Operand.tmp 30), (1, Go.Operand.tmp 33)], type := 24, pos := "memory.go:64", after := #[{ on := 7, ground := Go.Ground.data }, { on := 10, ground := Go.Ground.data }, { on := 14, ground := Go.Ground.gcOnly Go.Departure.lateStores }], guard := none }) (v := ?_) rfl (by kernel_rfl) (by kernel_rfl) (by kernel_rfl) (fun _ _ _ h => h) (Or.inl ⟨by rfl, ?hy⟩) (by assumption) ?_
                  case hy => (intro w9 hSw; (try dsimp only at hSw); go_simp; try with_reducible rfl)
                  try simp only [Act.put, List.setIfInBounds_toArray, List.set_cons_zero, List.set_cons_succ]
                  refine wpAnyH_ready (rs := [12]) (by kernel_rfl) (by simp) ?_
                  refine AllReadyH.cons (o := { dst := some 10, op := Go.Op.alloc 24, type := 0, pos := "memory.go:64", after := #[], guard := none }) rfl (fun K hK => ?_) AllReadyH.nil
                  go_simp
                  refine gen_al (fun wp halp => ?_)
                  have HXP := szP (W := wi) (by assumption) halp
                  refine hK.out _ _ ?_ (fun hHeld => ?_)
                  · exact alB (by assumption) halp
                  clear hK K
                  try simp only [Act.put, List.setIfInBounds_toArray, List.set_cons_zero, List.set_cons_succ]
                  have HZP := zbN halp
                  try (have HAP := neF_new HA)
                  try (have HBP := neF_new HB)
                  try (have HPQ := neS (zbNe HZQ halp))
                  try (replace HA := frA HA halp)
                  try (replace HB := frA HB halp)
                  try (replace HZQ := zbA HZQ halp)
                  clear halp
                  try clear z0 z1 g0 g1
                  try (obtain ⟨z0, z1, g0, g1⟩ := HZP.out)
                  refine wpAnyH_ready (rs := [14]) (by kernel_rfl) (by simp) ?_
                  refine AllReadyH.cons (o := { dst := none, op := Go.Op.store 24 (Go.Operand.tmp 10) (Go.Operand.tmp 28), type := 0, pos := "memory.go:64", after := #[{ on := 12, ground := Go.Ground.data }, { on := 5, ground := Go.Ground.data }, { on := 10, ground := Go.Ground.chain }, { on := 0, ground := Go.Ground.phase }, { on := 1, ground := Go.Ground.phase }, { on := 2, ground := Go.Ground.phase }, { on := 3, ground := Go.Ground.phase }, { on := 4, ground := Go.Ground.phase }, { on := 5, ground := Go.Ground.phase }, { on := 6, ground := Go.Ground.textOnly Go.Departure.lateStores }, { on := 7, ground := Go.Ground.textOnly Go.Departure.lateStores }, { on := 8, ground := Go.Ground.textOnly Go.Departure.lateStores }, { on := 9, ground := Go.Ground.textOnly Go.Departure.lateStores }, { on := 10, ground := Go.Ground.textOnly Go.Departure.lateStoresUnsure }, { on := 11, ground := Go.Ground.textOnly Go.Departure.lateStores }, { on := 12, ground := Go.Ground.phase }, { on := 13, ground := Go.Ground.phase }], guard := none }) rfl (fun K hK => ?_) AllReadyH.nil
                  go_simp
                  refine gen_set2 (fun ws hst => ?_)
                  refine hK.out _ _ ?_ (fun hHeld => ?_)
                  · exact stB (by assumption) HXP hst
                  clear hK K
                  try simp only [Act.put, List.setIfInBounds_toArray, List.set_cons_zero, List.set_cons_succ]
                  clear z0 z1 g0 g1
                  have HPB := bxZ HZP hst
                  replace HZQ := zbZ HZQ HPQ hst
                  replace HA := frZ HA HAP hst
                  replace HB := frZ HB HBP hst
                  clear hst HZP
                  obtain ⟨z0, z1, g0, g1⟩ := HZQ.out
                  refine wpAnyH_ready (rs := [15]) (by kernel_rfl) (by simp) ?_
                  refine AllReadyH.cons (o := { dst := none, op := Go.Op.store 24 (Go.Operand.tmp 11) (Go.Operand.tmp 34), type := 0, pos := "memory.go:64", after := #[{ on := 13, ground := Go.Ground.data }, { on := 11, ground := Go.Ground.data }, { on := 14, ground := Go.Ground.chain }, { on := 0, ground := Go.Ground.phase }, { on := 1, ground := Go.Ground.phase }, { on := 2, ground := Go.Ground.phase }, { on := 3, ground := Go.Ground.phase }, { on := 4, ground := Go.Ground.phase }, { on := 5, ground := Go.Ground.phase }, { on := 6, ground := Go.Ground.phase }, { on := 7, ground := Go.Ground.phase }, { on := 8, ground := Go.Ground.phase }, { on := 9, ground := Go.Ground.phase }, { on := 10, ground := Go.Ground.phase }, { on := 11, ground := Go.Ground.phase }, { on := 12, ground := Go.Ground.phase }, { on := 13, ground := Go.Ground.phase }, { on := 14, ground := Go.Ground.phase }], guard := none }) rfl (fun K hK => ?_) AllReadyH.nil
                  go_simp
                  refine gen_set2 (fun wt hst2 => ?_)
                  refine hK.out _ _ ?_ (fun hHeld => ?_)
                  · exact stB (by assumption) HXQ hst2
                  clear hK K
                  try simp only [Act.put, List.setIfInBounds_toArray, List.set_cons_zero, List.set_cons_succ]
                  clear z0 z1 g0 g1
                  have HQB := bxZ HZQ hst2
                  replace HPB := bxO HPB (neS HPQ) hst2
                  replace HA := frZ HA HAQ hst2
                  replace HB := frZ HB HBQ hst2
                  clear hst2 HZQ
                  refine wpAnyH_done (by kernel_rfl) ?_ _
                  try simp only [Act.put, List.setIfInBounds_toArray, List.set_cons_zero, List.set_cons_succ]
                  go_wp2_with fail
                  go_meet
                  exact ⟨_, _, a2, c2, b2, c3, rfl, rfl, ⟨HPB.out, HQB.out, HA.out, HB.out, HAP.out, HAQ.out, HBP.out, HBQ.out, HAB.out, HNA.out, HXP.out, HXQ.out⟩, by assumption⟩
                refine AllReadyH.cons (o := { dst := some 10, op := Go.Op.alloc 24, type := 0, pos := "memory.go:64", after := #[], guard := none }) rfl (fun K hK => ?_) ?_
                · go_simp
                  refine gen_al (fun wp halp => ?_)
                  have HXP := szP (W := wi) (by assumption) halp
                  refine hK.out _ _ ?_ (fun hHeld => ?_)
                  · exact alB (by assumption) halp
                  clear hK K
                  try simp only [Act.put, List.setIfInBounds_toArray, List.set_cons_zero, List.set_cons_succ]
                  have HZP := zbN halp
                  try (have HAP := neF_new HA)
                  try (have HBP := neF_new HB)
                  try (have HPQ := neS (zbNe HZQ halp))
                  try (replace HA := frA HA halp)
                  try (replace HB := frA HB halp)
                  try (replace HZQ := zbA HZQ halp)
                  clear halp
                  try clear z0 z1 g0 g1
                  try (obtain ⟨z0, z1, g0, g1⟩ := HZP.out)
                  refine wpAnyH_ready (rs := [10]) (by kernel_rfl) (by simp) ?_
                  refine AllReadyH.cons (o := { dst := some 33, op := Go.Op.call { callee := Go.Callee.value (Go.Operand.func 5), args := #[Go.Operand.tmp 32], argTypes := #[22] }, type := 22, pos := "memory.go:64", after := #[{ on := 9, ground := Go.Ground.data }, { on := 4, ground := Go.Ground.chain }], guard := none }) rfl (fun K hK => ?_) AllReadyH.nil
                  go_simp
                  refine (twin_any b lb cb fb _ hlb (HRB.out _ (by assumption))).mono ?_
                  rintro e w6 ⟨⟨b2, c3, rfl, hF6, hn6⟩, hb6⟩
                  have HB : Hid (FR w6 wi.heap.size b2 lb fb) := hF6.wide (Below.size (by assumption)) (Nat.le_refl _)
                  refine hK.out _ _ ?_ (fun hHeld => ?_)
                  · exact Below.then (by assumption) hb6
                  clear hK K
                  try simp only [Act.put, List.setIfInBounds_toArray, List.set_cons_zero, List.set_cons_succ]
                  try (have HBP := neF_old HZP hF6)
                  try (have HBQ := neF_old HZQ hF6)
                  have HAB := ne_rows HA hF6
                  replace HA := frS HA hb6
                  try (replace HZP := zbS HZP hb6)
                  try (replace HZQ := zbS HZQ hb6)
                  clear hF6 hn6 hb6
                  try clear z0 z1 g0 g1
                  try (obtain ⟨z0, z1, g0, g1⟩ := HZP.out)
                  refine wpAnyH_take (i := 11) (oi := { dst := some 34, op := Go.Op.build 24 #[(0, Go.Operand.tmp 30), (1, Go.Operand.tmp 33)], type := 24, pos := "memory.go:64", after := #[{ on := 7, ground := Go.Ground.data }, { on := 10, ground := Go.Ground.data }, { on := 14, ground := Go.Ground.gcOnly Go.Departure.lateStores }], guard := none }) (v := ?_) rfl (by kernel_rfl) (by kernel_rfl) (by kernel_rfl) (fun _ _ _ h => h) (Or.inl ⟨by rfl, ?hy⟩) (by assumption) ?_
                  case hy => (intro w9 hSw; (try dsimp only at hSw); go_simp; try with_reducible rfl)
                  try simp only [Act.put, List.setIfInBounds_toArray, List.set_cons_zero, List.set_cons_succ]
                  refine wpAnyH_ready (rs := [14]) (by kernel_rfl) (by simp) ?_
                  refine AllReadyH.cons (o := { dst := none, op := Go.Op.store 24 (Go.Operand.tmp 10) (Go.Operand.tmp 28), type := 0, pos := "memory.go:64", after := #[{ on := 12, ground := Go.Ground.data }, { on := 5, ground := Go.Ground.data }, { on := 10, ground := Go.Ground.chain }, { on := 0, ground := Go.Ground.phase }, { on := 1, ground := Go.Ground.phase }, { on := 2, ground := Go.Ground.phase }, { on := 3, ground := Go.Ground.phase }, { on := 4, ground := Go.Ground.phase }, { on := 5, ground := Go.Ground.phase }, { on := 6, ground := Go.Ground.textOnly Go.Departure.lateStores }, { on := 7, ground := Go.Ground.textOnly Go.Departure.lateStores }, { on := 8, ground := Go.Ground.textOnly Go.Departure.lateStores }, { on := 9, ground := Go.Ground.textOnly Go.Departure.lateStores }, { on := 10, ground := Go.Ground.textOnly Go.Departure.lateStoresUnsure }, { on := 11, ground := Go.Ground.textOnly Go.Departure.lateStores }, { on := 12, ground := Go.Ground.phase }, { on := 13, ground := Go.Ground.phase }], guard := none }) rfl (fun K hK => ?_) AllReadyH.nil
                  go_simp
                  refine gen_set2 (fun ws hst => ?_)
                  refine hK.out _ _ ?_ (fun hHeld => ?_)
                  · exact stB (by assumption) HXP hst
                  clear hK K
                  try simp only [Act.put, List.setIfInBounds_toArray, List.set_cons_zero, List.set_cons_succ]
                  clear z0 z1 g0 g1
                  have HPB := bxZ HZP hst
                  replace HZQ := zbZ HZQ HPQ hst
                  replace HA := frZ HA HAP hst
                  replace HB := frZ HB HBP hst
                  clear hst HZP
                  obtain ⟨z0, z1, g0, g1⟩ := HZQ.out
                  refine wpAnyH_ready (rs := [15]) (by kernel_rfl) (by simp) ?_
                  refine AllReadyH.cons (o := { dst := none, op := Go.Op.store 24 (Go.Operand.tmp 11) (Go.Operand.tmp 34), type := 0, pos := "memory.go:64", after := #[{ on := 13, ground := Go.Ground.data }, { on := 11, ground := Go.Ground.data }, { on := 14, ground := Go.Ground.chain }, { on := 0, ground := Go.Ground.phase }, { on := 1, ground := Go.Ground.phase }, { on := 2, ground := Go.Ground.phase }, { on := 3, ground := Go.Ground.phase }, { on := 4, ground := Go.Ground.phase }, { on := 5, ground := Go.Ground.phase }, { on := 6, ground := Go.Ground.phase }, { on := 7, ground := Go.Ground.phase }, { on := 8, ground := Go.Ground.phase }, { on := 9, ground := Go.Ground.phase }, { on := 10, ground := Go.Ground.phase }, { on := 11, ground := Go.Ground.phase }, { on := 12, ground := Go.Ground.phase }, { on := 13, ground := Go.Ground.phase }, { on := 14, ground := Go.Ground.phase }], guard := none }) rfl (fun K hK => ?_) AllReadyH.nil
                  go_simp
                  refine gen_set2 (fun wt hst2 => ?_)
                  refine hK.out _ _ ?_ (fun hHeld => ?_)
                  · exact stB (by assumption) HXQ hst2
                  clear hK K
                  try simp only [Act.put, List.setIfInBounds_toArray, List.set_cons_zero, List.set_cons_succ]
                  clear z0 z1 g0 g1
                  have HQB := bxZ HZQ hst2
                  replace HPB := bxO HPB (neS HPQ) hst2
                  replace HA := frZ HA HAQ hst2
                  replace HB := frZ HB HBQ hst2
                  clear hst2 HZQ
                  refine wpAnyH_done (by kernel_rfl) ?_ _
                  try simp only [Act.put, List.setIfInBounds_toArray, List.set_cons_zero, List.set_cons_succ]
                  go_wp2_with fail
                  go_meet
                  exact ⟨_, _, a2, c2, b2, c3, rfl, rfl, ⟨HPB.out, HQB.out, HA.out, HB.out, HAP.out, HAQ.out, HBP.out, HBQ.out, HAB.out, HNA.out, HXP.out, HXQ.out⟩, by assumption⟩
                exact AllReadyH.nil
              exact AllReadyH.nil
            refine AllReadyH.cons (o := { dst := some 10, op := Go.Op.alloc 24, type := 0, pos := "memory.go:64", after := #[], guard := none }) rfl (fun K hK => ?_) ?_
            · go_simp
              refine gen_al (fun wp halp => ?_)
              have HXP := szP (W := wi) (by assumption) halp
              refine hK.out _ _ ?_ (fun hHeld => ?_)
              · exact alB (by assumption) halp
              clear hK K
              try simp only [Act.put, List.setIfInBounds_toArray, List.set_cons_zero, List.set_cons_succ]
              have HZP := zbN halp
              try (have HAP := neF_new HA)
              try (have HBP := neF_new HB)
              try (have HPQ := neS (zbNe HZQ halp))
              try (replace HA := frA HA halp)
              try (replace HB := frA HB halp)
              try (replace HZQ := zbA HZQ halp)
              clear halp
              try clear z0 z1 g0 g1
              try (obtain ⟨z0, z1, g0, g1⟩ := HZP.out)
              refine wpAnyH_ready (rs := [4, 13]) (by kernel_rfl) (by simp) ?_
              refine AllReadyH.cons (o := { dst := some 27, op := Go.Op.call { callee := Go.Callee.value (Go.Operand.func 5), args := #[Go.Operand.tmp 26], argTypes := #[22] }, type := 22, pos := "memory.go:64", after := #[{ on := 3, ground := Go.Ground.data }], guard := none }) rfl (fun K hK => ?_) ?_
              · go_simp
                refine (twin_any a la ca fa _ hla (HRA.out _ (by assumption))).mono ?_
                rintro e w5 ⟨⟨a2, c2, rfl, hF5, hn5⟩, hb5⟩
                have HA : Hid (FR w5 wi.heap.size a2 la fa) := hF5.wide (Below.size (by assumption)) (Nat.le_refl _)
                refine hK.out _ _ ?_ (fun hHeld => ?_)
                · exact Below.then (by assumption) hb5
                clear hK K
                try simp only [Act.put, List.setIfInBounds_toArray, List.set_cons_zero, List.set_cons_succ]
                try (have HAP := neF_old HZP hF5)
                try (have HAQ := neF_old HZQ hF5)
                try (replace HZP := zbS HZP hb5)
                try (replace HZQ := zbS HZQ hb5)
                have HNA : Hid (a2 = none → la = 0 ∧ c2 = 0) := hn5
                clear hF5 hn5 hb5
                try clear z0 z1 g0 g1
                try (obtain ⟨z0, z1, g0, g1⟩ := HZP.out)
                refine wpAnyH_take (i := 5) (oi := { dst := some 28, op := Go.Op.build 24 #[(0, Go.Operand.tmp 24), (1, Go.Operand.tmp 27)], type := 24, pos := "memory.go:64", after := #[{ on := 1, ground := Go.Ground.data }, { on := 4, ground := Go.Ground.data }], guard := none }) (v := ?_) rfl (by kernel_rfl) (by kernel_rfl) (by kernel_rfl) (fun _ _ _ h => h) (Or.inl ⟨by rfl, ?hy⟩) (by assumption) ?_
                case hy => (intro w9 hSw; (try dsimp only at hSw); go_simp; try with_reducible rfl)
                try simp only [Act.put, List.setIfInBounds_toArray, List.set_cons_zero, List.set_cons_succ]
                refine wpAnyH_ready (rs := [10, 13]) (by kernel_rfl) (by simp) ?_
                refine AllReadyH.cons (o := { dst := some 33, op := Go.Op.call { callee := Go.Callee.value (Go.Operand.func 5), args := #[Go.Operand.tmp 32], argTypes := #[22] }, type := 22, pos := "memory.go:64", after := #[{ on := 9, ground := Go.Ground.data }, { on := 4, ground := Go.Ground.chain }], guard := none }) rfl (fun K hK => ?_) ?_
                · go_simp
                  refine (twin_any b lb cb fb _ hlb (HRB.out _ (by assumption))).mono ?_
                  rintro e w6 ⟨⟨b2, c3, rfl, hF6, hn6⟩, hb6⟩
                  have HB : Hid (FR w6 wi.heap.size b2 lb fb) := hF6.wide (Below.size (by assumption)) (Nat.le_refl _)
                  refine hK.out _ _ ?_ (fun hHeld => ?_)
                  · exact Below.then (by assumption) hb6
                  clear hK K
                  try simp only [Act.put, List.setIfInBounds_toArray, List.set_cons_zero, List.set_cons_succ]
                  try (have HBP := neF_old HZP hF6)
                  try (have HBQ := neF_old HZQ hF6)
                  have HAB := ne_rows HA hF6
                  replace HA := frS HA hb6
                  try (replace HZP := zbS HZP hb6)
                  try (replace HZQ := zbS HZQ hb6)
                  clear hF6 hn6 hb6
                  try clear z0 z1 g0 g1
                  try (obtain ⟨z0, z1, g0, g1⟩ := HZP.out)
                  refine wpAnyH_take (i := 11) (oi := { dst := some 34, op := Go.Op.build 24 #[(0, Go.Operand.tmp 30), (1, Go.Operand.tmp 33)], type := 24, pos := "memory.go:64", after := #[{ on := 7, ground := Go.Ground.data }, { on := 10, ground := Go.Ground.data }, { on := 14, ground := Go.Ground.gcOnly Go.Departure.lateStores }], guard := none }) (v := ?_) rfl (by kernel_rfl) (by kernel_rfl) (by kernel_rfl) (fun _ _ _ h => h) (Or.inl ⟨by rfl, ?hy⟩) (by assumption) ?_
                  case hy => (intro w9 hSw; (try dsimp only at hSw); go_simp; try with_reducible rfl)
                  try simp only [Act.put, List.setIfInBounds_toArray, List.set_cons_zero, List.set_cons_succ]
                  refine wpAnyH_ready (rs := [13]) (by kernel_rfl) (by simp) ?_
                  refine AllReadyH.cons (o := { dst := some 11, op := Go.Op.alloc 24, type := 0, pos := "memory.go:64", after := #[], guard := none }) rfl (fun K hK => ?_) AllReadyH.nil
                  go_simp
                  refine gen_al (fun wq halq => ?_)
                  have HXQ := szP (W := wi) (by assumption) halq
                  refine hK.out _ _ ?_ (fun hHeld => ?_)
                  · exact alB (by assumption) halq
                  clear hK K
                  try simp only [Act.put, List.setIfInBounds_toArray, List.set_cons_zero, List.set_cons_succ]
                  have HZQ := zbN halq
                  try (have HAQ := neF_new HA)
                  try (have HBQ := neF_new HB)
                  try (have HPQ := zbNe HZP halq)
                  try (replace HA := frA HA halq)
                  try (replace HB := frA HB halq)
                  try (replace HZP := zbA HZP halq)
                  clear halq
                  try clear z0 z1 g0 g1
                  try (obtain ⟨z0, z1, g0, g1⟩ := HZP.out)
                  refine wpAnyH_ready (rs := [14]) (by kernel_rfl) (by simp) ?_
                  refine AllReadyH.cons (o := { dst := none, op := Go.Op.store 24 (Go.Operand.tmp 10) (Go.Operand.tmp 28), type := 0, pos := "memory.go:64", after := #[{ on := 12, ground := Go.Ground.data }, { on := 5, ground := Go.Ground.data }, { on := 10, ground := Go.Ground.chain }, { on := 0, ground := Go.Ground.phase }, { on := 1, ground := Go.Ground.phase }, { on := 2, ground := Go.Ground.phase }, { on := 3, ground := Go.Ground.phase }, { on := 4, ground := Go.Ground.phase }, { on := 5, ground := Go.Ground.phase }, { on := 6, ground := Go.Ground.textOnly Go.Departure.lateStores }, { on := 7, ground := Go.Ground.textOnly Go.Departure.lateStores }, { on := 8, ground := Go.Ground.textOnly Go.Departure.lateStores }, { on := 9, ground := Go.Ground.textOnly Go.Departure.lateStores }, { on := 10, ground := Go.Ground.textOnly Go.Departure.lateStoresUnsure }, { on := 11, ground := Go.Ground.textOnly Go.Departure.lateStores }, { on := 12, ground := Go.Ground.phase }, { on := 13, ground := Go.Ground.phase }], guard := none }) rfl (fun K hK => ?_) AllReadyH.nil
                  go_simp
                  refine gen_set2 (fun ws hst => ?_)
                  refine hK.out _ _ ?_ (fun hHeld => ?_)
                  · exact stB (by assumption) HXP hst
                  clear hK K
                  try simp only [Act.put, List.setIfInBounds_toArray, List.set_cons_zero, List.set_cons_succ]
                  clear z0 z1 g0 g1
                  have HPB := bxZ HZP hst
                  replace HZQ := zbZ HZQ HPQ hst
                  replace HA := frZ HA HAP hst
                  replace HB := frZ HB HBP hst
                  clear hst HZP
                  obtain ⟨z0, z1, g0, g1⟩ := HZQ.out
                  refine wpAnyH_ready (rs := [15]) (by kernel_rfl) (by simp) ?_
                  refine AllReadyH.cons (o := { dst := none, op := Go.Op.store 24 (Go.Operand.tmp 11) (Go.Operand.tmp 34), type := 0, pos := "memory.go:64", after := #[{ on := 13, ground := Go.Ground.data }, { on := 11, ground := Go.Ground.data }, { on := 14, ground := Go.Ground.chain }, { on := 0, ground := Go.Ground.phase }, { on := 1, ground := Go.Ground.phase }, { on := 2, ground := Go.Ground.phase }, { on := 3, ground := Go.Ground.phase }, { on := 4, ground := Go.Ground.phase }, { on := 5, ground := Go.Ground.phase }, { on := 6, ground := Go.Ground.phase }, { on := 7, ground := Go.Ground.phase }, { on := 8, ground := Go.Ground.phase }, { on := 9, ground := Go.Ground.phase }, { on := 10, ground := Go.Ground.phase }, { on := 11, ground := Go.Ground.phase }, { on := 12, ground := Go.Ground.phase }, { on := 13, ground := Go.Ground.phase }, { on := 14, ground := Go.Ground.phase }], guard := none }) rfl (fun K hK => ?_) AllReadyH.nil
                  go_simp
                  refine gen_set2 (fun wt hst2 => ?_)
                  refine hK.out _ _ ?_ (fun hHeld => ?_)
                  · exact stB (by assumption) HXQ hst2
                  clear hK K
                  try simp only [Act.put, List.setIfInBounds_toArray, List.set_cons_zero, List.set_cons_succ]
                  clear z0 z1 g0 g1
                  have HQB := bxZ HZQ hst2
                  replace HPB := bxO HPB (neS HPQ) hst2
                  replace HA := frZ HA HAQ hst2
                  replace HB := frZ HB HBQ hst2
                  clear hst2 HZQ
                  refine wpAnyH_done (by kernel_rfl) ?_ _
                  try simp only [Act.put, List.setIfInBounds_toArray, List.set_cons_zero, List.set_cons_succ]
                  go_wp2_with fail
                  go_meet
                  exact ⟨_, _, a2, c2, b2, c3, rfl, rfl, ⟨HPB.out, HQB.out, HA.out, HB.out, HAP.out, HAQ.out, HBP.out, HBQ.out, HAB.out, HNA.out, HXP.out, HXQ.out⟩, by assumption⟩
                refine AllReadyH.cons (o := { dst := some 11, op := Go.Op.alloc 24, type := 0, pos := "memory.go:64", after := #[], guard := none }) rfl (fun K hK => ?_) ?_
                · go_simp
                  refine gen_al (fun wq halq => ?_)
                  have HXQ := szP (W := wi) (by assumption) halq
                  refine hK.out _ _ ?_ (fun hHeld => ?_)
                  · exact alB (by assumption) halq
                  clear hK K
                  try simp only [Act.put, List.setIfInBounds_toArray, List.set_cons_zero, List.set_cons_succ]
                  have HZQ := zbN halq
                  try (have HAQ := neF_new HA)
                  try (have HBQ := neF_new HB)
                  try (have HPQ := zbNe HZP halq)
                  try (replace HA := frA HA halq)
                  try (replace HB := frA HB halq)
                  try (replace HZP := zbA HZP halq)
                  clear halq
                  try clear z0 z1 g0 g1
                  try (obtain ⟨z0, z1, g0, g1⟩ := HZP.out)
                  refine wpAnyH_ready (rs := [10]) (by kernel_rfl) (by simp) ?_
                  refine AllReadyH.cons (o := { dst := some 33, op := Go.Op.call { callee := Go.Callee.value (Go.Operand.func 5), args := #[Go.Operand.tmp 32], argTypes := #[22] }, type := 22, pos := "memory.go:64", after := #[{ on := 9, ground := Go.Ground.data }, { on := 4, ground := Go.Ground.chain }], guard := none }) rfl (fun K hK => ?_) AllReadyH.nil
                  go_simp
                  refine (twin_any b lb cb fb _ hlb (HRB.out _ (by assumption))).mono ?_
                  rintro e w6 ⟨⟨b2, c3, rfl, hF6, hn6⟩, hb6⟩
                  have HB : Hid (FR w6 wi.heap.size b2 lb fb) := hF6.wide (Below.size (by assumption)) (Nat.le_refl _)
                  refine hK.out _ _ ?_ (fun hHeld => ?_)
                  · exact Below.then (by assumption) hb6
                  clear hK K
                  try simp only [Act.put, List.setIfInBounds_toArray, List.set_cons_zero, List.set_cons_succ]
                  try (have HBP := neF_old HZP hF6)
                  try (have HBQ := neF_old HZQ hF6)
                  have HAB := ne_rows HA hF6
                  replace HA := frS HA hb6
                  try (replace HZP := zbS HZP hb6)
                  try (replace HZQ := zbS HZQ hb6)
                  clear hF6 hn6 hb6
                  try clear z0 z1 g0 g1
                  try (obtain ⟨z0, z1, g0, g1⟩ := HZP.out)
                  refine wpAnyH_take (i := 11) (oi := { dst := some 34, op := Go.Op.build 24 #[(0, Go.Operand.tmp 30), (1, Go.Operand.tmp 33)], type := 24, pos := "memory.go:64", after := #[{ on := 7, ground := Go.Ground.data }, { on := 10, ground := Go.Ground.data }, { on := 14, ground := Go.Ground.gcOnly Go.Departure.lateStores }], guard := none }) (v := ?_) rfl (by kernel_rfl) (by kernel_rfl) (by kernel_rfl) (fun _ _ _ h => h) (Or.inl ⟨by rfl, ?hy⟩) (by assumption) ?_
                  case hy => (intro w9 hSw; (try dsimp only at hSw); go_simp; try with_reducible rfl)
                  try simp only [Act.put, List.setIfInBounds_toArray, List.set_cons_zero, List.set_cons_succ]
                  refine wpAnyH_ready (rs := [14]) (by kernel_rfl) (by simp) ?_
                  refine AllReadyH.cons (o := { dst := none, op := Go.Op.store 24 (Go.Operand.tmp 10) (Go.Operand.tmp 28), type := 0, pos := "memory.go:64", after := #[{ on := 12, ground := Go.Ground.data }, { on := 5, ground := Go.Ground.data }, { on := 10, ground := Go.Ground.chain }, { on := 0, ground := Go.Ground.phase }, { on := 1, ground := Go.Ground.phase }, { on := 2, ground := Go.Ground.phase }, { on := 3, ground := Go.Ground.phase }, { on := 4, ground := Go.Ground.phase }, { on := 5, ground := Go.Ground.phase }, { on := 6, ground := Go.Ground.textOnly Go.Departure.lateStores }, { on := 7, ground := Go.Ground.textOnly Go.Departure.lateStores }, { on := 8, ground := Go.Ground.textOnly Go.Departure.lateStores }, { on := 9, ground := Go.Ground.textOnly Go.Departure.lateStores }, { on := 10, ground := Go.Ground.textOnly Go.Departure.lateStoresUnsure }, { on := 11, ground := Go.Ground.textOnly Go.Departure.lateStores }, { on := 12, ground := Go.Ground.phase }, { on := 13, ground := Go.Ground.phase }], guard := none }) rfl (fun K hK => ?_) AllReadyH.nil
                  go_simp
                  refine gen_set2 (fun ws hst => ?_)
                  refine hK.out _ _ ?_ (fun hHeld => ?_)
                  · exact stB (by assumption) HXP hst
                  clear hK K
                  try simp only [Act.put, List.setIfInBounds_toArray, List.set_cons_zero, List.set_cons_succ]
                  clear z0 z1 g0 g1
                  have HPB := bxZ HZP hst
                  replace HZQ := zbZ HZQ HPQ hst
                  replace HA := frZ HA HAP hst
                  replace HB := frZ HB HBP hst
                  clear hst HZP
                  obtain ⟨z0, z1, g0, g1⟩ := HZQ.out
                  refine wpAnyH_ready (rs := [15]) (by kernel_rfl) (by simp) ?_
                  refine AllReadyH.cons (o := { dst := none, op := Go.Op.store 24 (Go.Operand.tmp 11) (Go.Operand.tmp 34), type := 0, pos := "memory.go:64", after := #[{ on := 13, ground := Go.Ground.data }, { on := 11, ground := Go.Ground.data }, { on := 14, ground := Go.Ground.chain }, { on := 0, ground := Go.Ground.phase }, { on := 1, ground := Go.Ground.phase }, { on := 2, ground := Go.Ground.phase }, { on := 3, ground := Go.Ground.phase }, { on := 4, ground := Go.Ground.phase }, { on := 5, ground := Go.Ground.phase }, { on := 6, ground := Go.Ground.phase }, { on := 7, ground := Go.Ground.phase }, { on := 8, ground := Go.Ground.phase }, { on := 9, ground := Go.Ground.phase }, { on := 10, ground := Go.Ground.phase }, { on := 11, ground := Go.Ground.phase }, { on := 12, ground := Go.Ground.phase }, { on := 13, ground := Go.Ground.phase }, { on := 14, ground := Go.Ground.phase }], guard := none }) rfl (fun K hK => ?_) AllReadyH.nil
                  go_simp
                  refine gen_set2 (fun wt hst2 => ?_)
                  refine hK.out _ _ ?_ (fun hHeld => ?_)
                  · exact stB (by assumption) HXQ hst2
                  clear hK K
                  try simp only [Act.put, List.setIfInBounds_toArray, List.set_cons_zero, List.set_cons_succ]
                  clear z0 z1 g0 g1
                  have HQB := bxZ HZQ hst2
                  replace HPB := bxO HPB (neS HPQ) hst2
                  replace HA := frZ HA HAQ hst2
                  replace HB := frZ HB HBQ hst2
                  clear hst2 HZQ
                  refine wpAnyH_done (by kernel_rfl) ?_ _
                  try simp only [Act.put, List.setIfInBounds_toArray, List.set_cons_zero, List.set_cons_succ]
                  go_wp2_with fail
                  go_meet
                  exact ⟨_, _, a2, c2, b2, c3, rfl, rfl, ⟨HPB.out, HQB.out, HA.out, HB.out, HAP.out, HAQ.out, HBP.out, HBQ.out, HAB.out, HNA.out, HXP.out, HXQ.out⟩, by assumption⟩
                exact AllReadyH.nil
              refine AllReadyH.cons (o := { dst := some 11, op := Go.Op.alloc 24, type := 0, pos := "memory.go:64", after := #[], guard := none }) rfl (fun K hK => ?_) ?_
              · go_simp
                refine gen_al (fun wq halq => ?_)
                have HXQ := szP (W := wi) (by assumption) halq
                refine hK.out _ _ ?_ (fun hHeld => ?_)
                · exact alB (by assumption) halq
                clear hK K
                try simp only [Act.put, List.setIfInBounds_toArray, List.set_cons_zero, List.set_cons_succ]
                have HZQ := zbN halq
                try (have HAQ := neF_new HA)
                try (have HBQ := neF_new HB)
                try (have HPQ := zbNe HZP halq)
                try (replace HA := frA HA halq)
                try (replace HB := frA HB halq)
                try (replace HZP := zbA HZP halq)
                clear halq
                try clear z0 z1 g0 g1
                try (obtain ⟨z0, z1, g0, g1⟩ := HZP.out)
                refine wpAnyH_ready (rs := [4]) (by kernel_rfl) (by simp) ?_
                refine AllReadyH.cons (o := { dst := some 27, op := Go.Op.call { callee := Go.Callee.value (Go.Operand.func 5), args := #[Go.Operand.tmp 26], argTypes := #[22] }, type := 22, pos := "memory.go:64", after := #[{ on := 3, ground := Go.Ground.data }], guard := none }) rfl (fun K hK => ?_) AllReadyH.nil
                go_simp
                refine (twin_any a la ca fa _ hla (HRA.out _ (by assumption))).mono ?_
                rintro e w5 ⟨⟨a2, c2, rfl, hF5, hn5⟩, hb5⟩
                have HA : Hid (FR w5 wi.heap.size a2 la fa) := hF5.wide (Below.size (by assumption)) (Nat.le_refl _)
                refine hK.out _ _ ?_ (fun hHeld => ?_)
                · exact Below.then (by assumption) hb5
                clear hK K
                try simp only [Act.put, List.setIfInBounds_toArray, List.set_cons_zero, List.set_cons_succ]
                try (have HAP := neF_old HZP hF5)
                try (have HAQ := neF_old HZQ hF5)
                try (replace HZP := zbS HZP hb5)
                try (replace HZQ := zbS HZQ hb5)
                have HNA : Hid (a2 = none → la = 0 ∧ c2 = 0) := hn5
                clear hF5 hn5 hb5
                try clear z0 z1 g0 g1
                try (obtain ⟨z0, z1, g0, g1⟩ := HZP.out)
                refine wpAnyH_take (i := 5) (oi := { dst := some 28, op := Go.Op.build 24 #[(0, Go.Operand.tmp 24), (1, Go.Operand.tmp 27)], type := 24, pos := "memory.go:64", after := #[{ on := 1, ground := Go.Ground.data }, { on := 4, ground := Go.Ground.data }], guard := none }) (v := ?_) rfl (by kernel_rfl) (by kernel_rfl) (by kernel_rfl) (fun _ _ _ h => h) (Or.inl ⟨by rfl, ?hy⟩) (by assumption) ?_
                case hy => (intro w9 hSw; (try dsimp only at hSw); go_simp; try with_reducible rfl)
                try simp only [Act.put, List.setIfInBounds_toArray, List.set_cons_zero, List.set_cons_succ]
                refine wpAnyH_ready (rs := [10]) (by kernel_rfl) (by simp) ?_
                refine AllReadyH.cons (o := { dst := some 33, op := Go.Op.call { callee := Go.Callee.value (Go.Operand.func 5), args := #[Go.Operand.tmp 32], argTypes := #[22] }, type := 22, pos := "memory.go:64", after := #[{ on := 9, ground := Go.Ground.data }, { on := 4, ground := Go.Ground.chain }], guard := none }) rfl (fun K hK => ?_) AllReadyH.nil
                go_simp
                refine (twin_any b lb cb fb _ hlb (HRB.out _ (by assumption))).mono ?_
                rintro e w6 ⟨⟨b2, c3, rfl, hF6, hn6⟩, hb6⟩
                have HB : Hid (FR w6 wi.heap.size b2 lb fb) := hF6.wide (Below.size (by assumption)) (Nat.le_refl _)
                refine hK.out _ _ ?_ (fun hHeld => ?_)
                · exact Below.then (by assumption) hb6
                clear hK K
                try simp only [Act.put, List.setIfInBounds_toArray, List.set_cons_zero, List.set_cons_succ]
                try (have HBP := neF_old HZP hF6)
                try (have HBQ := neF_old HZQ hF6)
                have HAB := ne_rows HA hF6
                replace HA := frS HA hb6
                try (replace HZP := zbS HZP hb6)
                try (replace HZQ := zbS HZQ hb6)
                clear hF6 hn6 hb6
                try clear z0 z1 g0 g1
                try (obtain ⟨z0, z1, g0, g1⟩ := HZP.out)
                refine wpAnyH_take (i := 11) (oi := { dst := some 34, op := Go.Op.build 24 #[(0, Go.Operand.tmp 30), (1, Go.Operand.tmp 33)], type := 24, pos := "memory.go:64", after := #[{ on := 7, ground := Go.Ground.data }, { on := 10, ground := Go.Ground.data }, { on := 14, ground := Go.Ground.gcOnly Go.Departure.lateStores }], guard := none }) (v := ?_) rfl (by kernel_rfl) (by kernel_rfl) (by kernel_rfl) (fun _ _ _ h => h) (Or.inl ⟨by rfl, ?hy⟩) (by assumption) ?_
                case hy => (intro w9 hSw; (try dsimp only at hSw); go_simp; try with_reducible rfl)
                try simp only [Act.put, List.setIfInBounds_toArray, List.set_cons_zero, List.set_cons_succ]
                refine wpAnyH_ready (rs := [14]) (by kernel_rfl) (by simp) ?_
                refine AllReadyH.cons (o := { dst := none, op := Go.Op.store 24 (Go.Operand.tmp 10) (Go.Operand.tmp 28), type := 0, pos := "memory.go:64", after := #[{ on := 12, ground := Go.Ground.data }, { on := 5, ground := Go.Ground.data }, { on := 10, ground := Go.Ground.chain }, { on := 0, ground := Go.Ground.phase }, { on := 1, ground := Go.Ground.phase }, { on := 2, ground := Go.Ground.phase }, { on := 3, ground := Go.Ground.phase }, { on := 4, ground := Go.Ground.phase }, { on := 5, ground := Go.Ground.phase }, { on := 6, ground := Go.Ground.textOnly Go.Departure.lateStores }, { on := 7, ground := Go.Ground.textOnly Go.Departure.lateStores }, { on := 8, ground := Go.Ground.textOnly Go.Departure.lateStores }, { on := 9, ground := Go.Ground.textOnly Go.Departure.lateStores }, { on := 10, ground := Go.Ground.textOnly Go.Departure.lateStoresUnsure }, { on := 11, ground := Go.Ground.textOnly Go.Departure.lateStores }, { on := 12, ground := Go.Ground.phase }, { on := 13, ground := Go.Ground.phase }], guard := none }) rfl (fun K hK => ?_) AllReadyH.nil
                go_simp
                refine gen_set2 (fun ws hst => ?_)
                refine hK.out _ _ ?_ (fun hHeld => ?_)
                · exact stB (by assumption) HXP hst
                clear hK K
                try simp only [Act.put, List.setIfInBounds_toArray, List.set_cons_zero, List.set_cons_succ]
                clear z0 z1 g0 g1
                have HPB := bxZ HZP hst
                replace HZQ := zbZ HZQ HPQ hst
                replace HA := frZ HA HAP hst
                replace HB := frZ HB HBP hst
                clear hst HZP
                obtain ⟨z0, z1, g0, g1⟩ := HZQ.out
                refine wpAnyH_ready (rs := [15]) (by kernel_rfl) (by simp) ?_
                refine AllReadyH.cons (o := { dst := none, op := Go.Op.store 24 (Go.Operand.tmp 11) (Go.Operand.tmp 34), type := 0, pos := "memory.go:64", after := #[{ on := 13, ground := Go.Ground.data }, { on := 11, ground := Go.Ground.data }, { on := 14, ground := Go.Ground.chain }, { on := 0, ground := Go.Ground.phase }, { on := 1, ground := Go.Ground.phase }, { on := 2, ground := Go.Ground.phase }, { on := 3, ground := Go.Ground.phase }, { on := 4, ground := Go.Ground.phase }, { on := 5, ground := Go.Ground.phase }, { on := 6, ground := Go.Ground.phase }, { on := 7, ground := Go.Ground.phase }, { on := 8, ground := Go.Ground.phase }, { on := 9, ground := Go.Ground.phase }, { on := 10, ground := Go.Ground.phase }, { on := 11, ground := Go.Ground.phase }, { on := 12, ground := Go.Ground.phase }, { on := 13, ground := Go.Ground.phase }, { on := 14, ground := Go.Ground.phase }], guard := none }) rfl (fun K hK => ?_) AllReadyH.nil
                go_simp
                refine gen_set2 (fun wt hst2 => ?_)
                refine hK.out _ _ ?_ (fun hHeld => ?_)
                · exact stB (by assumption) HXQ hst2
                clear hK K
                try simp only [Act.put, List.setIfInBounds_toArray, List.set_cons_zero, List.set_cons_succ]
                clear z0 z1 g0 g1
                have HQB := bxZ HZQ hst2
                replace HPB := bxO HPB (neS HPQ) hst2
                replace HA := frZ HA HAQ hst2
                replace HB := frZ HB HBQ hst2
                clear hst2 HZQ
                refine wpAnyH_done (by kernel_rfl) ?_ _
                try simp only [Act.put, List.setIfInBounds_toArray, List.set_cons_zero, List.set_cons_succ]
                go_wp2_with fail
                go_meet
                exact ⟨_, _, a2, c2, b2, c3, rfl, rfl, ⟨HPB.out, HQB.out, HA.out, HB.out, HAP.out, HAQ.out, HBP.out, HBQ.out, HAB.out, HNA.out, HXP.out, HXQ.out⟩, by assumption⟩
              exact AllReadyH.nil
            refine AllReadyH.cons (o := { dst := some 11, op := Go.Op.alloc 24, type := 0, pos := "memory.go:64", after := #[], guard := none }) rfl (fun K hK => ?_) ?_
            · go_simp
              refine gen_al (fun wq halq => ?_)
              have HXQ := szP (W := wi) (by assumption) halq
              refine hK.out _ _ ?_ (fun hHeld => ?_)
              · exact alB (by assumption) halq
              clear hK K
              try simp only [Act.put, List.setIfInBounds_toArray, List.set_cons_zero, List.set_cons_succ]
              have HZQ := zbN halq
              try (have HAQ := neF_new HA)
              try (have HBQ := neF_new HB)
              try (have HPQ := zbNe HZP halq)
              try (replace HA := frA HA halq)
              try (replace HB := frA HB halq)
              try (replace HZP := zbA HZP halq)
              clear halq
              try clear z0 z1 g0 g1
              try (obtain ⟨z0, z1, g0, g1⟩ := HZP.out)
              refine wpAnyH_ready (rs := [4, 12]) (by kernel_rfl) (by simp) ?_
              refine AllReadyH.cons (o := { dst := some 27, op := Go.Op.call { callee := Go.Callee.value (Go.Operand.func 5), args := #[Go.Operand.tmp 26], argTypes := #[22] }, type := 22, pos := "memory.go:64", after := #[{ on := 3, ground := Go.Ground.data }], guard := none }) rfl (fun K hK => ?_) ?_
              · go_simp
                refine (twin_any a la ca fa _ hla (HRA.out _ (by assumption))).mono ?_
                rintro e w5 ⟨⟨a2, c2, rfl, hF5, hn5⟩, hb5⟩
                have HA : Hid (FR w5 wi.heap.size a2 la fa) := hF5.wide (Below.size (by assumption)) (Nat.le_refl _)
                refine hK.out _ _ ?_ (fun hHeld => ?_)
                · exact Below.then (by assumption) hb5
                clear hK K
                try simp only [Act.put, List.setIfInBounds_toArray, List.set_cons_zero, List.set_cons_succ]
                try (have HAP := neF_old HZP hF5)
                try (have HAQ := neF_old HZQ hF5)
                try (replace HZP := zbS HZP hb5)
                try (replace HZQ := zbS HZQ hb5)
                have HNA : Hid (a2 = none → la = 0 ∧ c2 = 0) := hn5
                clear hF5 hn5 hb5
                try clear z0 z1 g0 g1
                try (obtain ⟨z0, z1, g0, g1⟩ := HZP.out)
                refine wpAnyH_take (i := 5) (oi := { dst := some 28, op := Go.Op.build 24 #[(0, Go.Operand.tmp 24), (1, Go.Operand.tmp 27)], type := 24, pos := "memory.go:64", after := #[{ on := 1, ground := Go.Ground.data }, { on := 4, ground := Go.Ground.data }], guard := none }) (v := ?_) rfl (by kernel_rfl) (by kernel_rfl) (by kernel_rfl) (fun _ _ _ h => h) (Or.inl ⟨by rfl, ?hy⟩) (by assumption) ?_
                case hy => (intro w9 hSw; (try dsimp only at hSw); go_simp; try with_reducible rfl)
                try simp only [Act.put, List.setIfInBounds_toArray, List.set_cons_zero, List.set_cons_succ]
                refine wpAnyH_ready (rs := [10, 12]) (by kernel_rfl) (by simp) ?_
                refine AllReadyH.cons (o := { dst := some 33, op := Go.Op.call { callee := Go.Callee.value (Go.Operand.func 5), args := #[Go.Operand.tmp 32], argTypes := #[22] }, type := 22, pos := "memory.go:64", after := #[{ on := 9, ground := Go.Ground.data }, { on := 4, ground := Go.Ground.chain }], guard := none }) rfl (fun K hK => ?_) ?_
                · go_simp
                  refine (twin_any b lb cb fb _ hlb (HRB.out _ (by assumption))).mono ?_
                  rintro e w6 ⟨⟨b2, c3, rfl, hF6, hn6⟩, hb6⟩
                  have HB : Hid (FR w6 wi.heap.size b2 lb fb) := hF6.wide (Below.size (by assumption)) (Nat.le_refl _)
                  refine hK.out _ _ ?_ (fun hHeld => ?_)
                  · exact Below.then (by assumption) hb6
                  clear hK K
                  try simp only [Act.put, List.setIfInBounds_toArray, List.set_cons_zero, List.set_cons_succ]
                  try (have HBP := neF_old HZP hF6)
                  try (have HBQ := neF_old HZQ hF6)
                  have HAB := ne_rows HA hF6
                  replace HA := frS HA hb6
                  try (replace HZP := zbS HZP hb6)
                  try (replace HZQ := zbS HZQ hb6)
                  clear hF6 hn6 hb6
                  try clear z0 z1 g0 g1
                  try (obtain ⟨z0, z1, g0, g1⟩ := HZP.out)
                  refine wpAnyH_take (i := 11) (oi := { dst := some 34, op := Go.Op.build 24 #[(0, Go.Operand.tmp 30), (1, Go.Operand.tmp 33)], type := 24, pos := "memory.go:64", after := #[{ on := 7, ground := Go.Ground.data }, { on := 10, ground := Go.Ground.data }, { on := 14, ground := Go.Ground.gcOnly Go.Departure.lateStores }], guard := none }) (v := ?_) rfl (by kernel_rfl) (by kernel_rfl) (by kernel_rfl) (fun _ _ _ h => h) (Or.inl ⟨by rfl, ?hy⟩) (by assumption) ?_
                  case hy => (intro w9 hSw; (try dsimp only at hSw); go_simp; try with_reducible rfl)
                  try simp only [Act.put, List.setIfInBounds_toArray, List.set_cons_zero, List.set_cons_succ]
                  refine wpAnyH_ready (rs := [12]) (by kernel_rfl) (by simp) ?_
                  refine AllReadyH.cons (o := { dst := some 10, op := Go.Op.alloc 24, type := 0, pos := "memory.go:64", after := #[], guard := none }) rfl (fun K hK => ?_) AllReadyH.nil
                  go_simp
                  refine gen_al (fun wp halp => ?_)
                  have HXP := szP (W := wi) (by assumption) halp
                  refine hK.out _ _ ?_ (fun hHeld => ?_)
                  · exact alB (by assumption) halp
                  clear hK K
                  try simp only [Act.put, List.setIfInBounds_toArray, List.set_cons_zero, List.set_cons_succ]
                  have HZP := zbN halp
                  try (have HAP := neF_new HA)
                  try (have HBP := neF_new HB)
                  try (have HPQ := neS (zbNe HZQ halp))
                  try (replace HA := frA HA halp)
                  try (replace HB := frA HB halp)
                  try (replace HZQ := zbA HZQ halp)
                  clear halp
                  try clear z0 z1 g0 g1
                  try (obtain ⟨z0, z1, g0, g1⟩ := HZP.out)
                  refine wpAnyH_ready (rs := [14]) (by kernel_rfl) (by simp) ?_
                  refine AllReadyH.cons (o := { dst := none, op := Go.Op.store 24 (Go.Operand.tmp 10) (Go.Operand.tmp 28), type := 0, pos := "memory.go:64", after := #[{ on := 12, ground := Go.Ground.data }, { on := 5, ground := Go.Ground.data }, { on := 10, ground := Go.Ground.chain }, { on := 0, ground := Go.Ground.phase }, { on := 1, ground := Go.Ground.phase }, { on := 2, ground := Go.Ground.phase }, { on := 3, ground := Go.Ground.phase }, { on := 4, ground := Go.Ground.phase }, { on := 5, ground := Go.Ground.phase }, { on := 6, ground := Go.Ground.textOnly Go.Departure.lateStores }, { on := 7, ground := Go.Ground.textOnly Go.Departure.lateStores }, { on := 8, ground := Go.Ground.textOnly Go.Departure.lateStores }, { on := 9, ground := Go.Ground.textOnly Go.Departure.lateStores }, { on := 10, ground := Go.Ground.textOnly Go.Departure.lateStoresUnsure }, { on := 11, ground := Go.Ground.textOnly Go.Departure.lateStores }, { on := 12, ground := Go.Ground.phase }, { on := 13, ground := Go.Ground.phase }], guard := none }) rfl (fun K hK => ?_) AllReadyH.nil
                  go_simp
                  refine gen_set2 (fun ws hst => ?_)
                  refine hK.out _ _ ?_ (fun hHeld => ?_)
                  · exact stB (by assumption) HXP hst
                  clear hK K
                  try simp only [Act.put, List.setIfInBounds_toArray, List.set_cons_zero, List.set_cons_succ]
                  clear z0 z1 g0 g1
                  have HPB := bxZ HZP hst
                  replace HZQ := zbZ HZQ HPQ hst
                  replace HA := frZ HA HAP hst
                  replace HB := frZ HB HBP hst
                  clear hst HZP
                  obtain ⟨z0, z1, g0, g1⟩ := HZQ.out
                  refine wpAnyH_ready (rs := [15]) (by kernel_rfl) (by simp) ?_
                  refine AllReadyH.cons (o := { dst := none, op := Go.Op.store 24 (Go.Operand.tmp 11) (Go.Operand.tmp 34), type := 0, pos := "memory.go:64", after := #[{ on := 13, ground := Go.Ground.data }, { on := 11, ground := Go.Ground.data }, { on := 14, ground := Go.Ground.chain }, { on := 0, ground := Go.Ground.phase }, { on := 1, ground := Go.Ground.phase }, { on := 2, ground := Go.Ground.phase }, { on := 3, ground := Go.Ground.phase }, { on := 4, ground := Go.Ground.phase }, { on := 5, ground := Go.Ground.phase }, { on := 6, ground := Go.Ground.phase }, { on := 7, ground := Go.Ground.phase }, { on := 8, ground := Go.Ground.phase }, { on := 9, ground := Go.Ground.phase }, { on := 10, ground := Go.Ground.phase }, { on := 11, ground := Go.Ground.phase }, { on := 12, ground := Go.Ground.phase }, { on := 13, ground := Go.Ground.phase }, { on := 14, ground := Go.Ground.phase }], guard := none }) rfl (fun K hK => ?_) AllReadyH.nil
                  go_simp
                  refine gen_set2 (fun wt hst2 => ?_)
                  refine hK.out _ _ ?_ (fun hHeld => ?_)
                  · exact stB (by assumption) HXQ hst2
                  clear hK K
                  try simp only [Act.put, List.setIfInBounds_toArray, List.set_cons_zero, List.set_cons_succ]
                  clear z0 z1 g0 g1
                  have HQB := bxZ HZQ hst2
                  replace HPB := bxO HPB (neS HPQ) hst2
                  replace HA := frZ HA HAQ hst2
                  replace HB := frZ HB HBQ hst2
                  clear hst2 HZQ
                  refine wpAnyH_done (by kernel_rfl) ?_ _
                  try simp only [Act.put, List.setIfInBounds_toArray, List.set_cons_zero, List.set_cons_succ]
                  go_wp2_with fail
                  go_meet
                  exact ⟨_, _, a2, c2, b2, c3, rfl, rfl, ⟨HPB.out, HQB.out, HA.out, HB.out, HAP.out, HAQ.out, HBP.out, HBQ.out, HAB.out, HNA.out, HXP.out, HXQ.out⟩, by assumption⟩
                refine AllReadyH.cons (o := { dst := some 10, op := Go.Op.alloc 24, type := 0, pos := "memory.go:64", after := #[], guard := none }) rfl (fun K hK => ?_) ?_
                · go_simp
                  refine gen_al (fun wp halp => ?_)
                  have HXP := szP (W := wi) (by assumption) halp
                  refine hK.out _ _ ?_ (fun hHeld => ?_)
                  · exact alB (by assumption) halp
                  clear hK K
                  try simp only [Act.put, List.setIfInBounds_toArray, List.set_cons_zero, List.set_cons_succ]
                  have HZP := zbN halp
                  try (have HAP := neF_new HA)
                  try (have HBP := neF_new HB)
                  try (have HPQ := neS (zbNe HZQ halp))
                  try (replace HA := frA HA halp)
                  try (replace HB := frA HB halp)
                  try (replace HZQ := zbA HZQ halp)
                  clear halp
                  try clear z0 z1 g0 g1
                  try (obtain ⟨z0, z1, g0, g1⟩ := HZP.out)
                  refine wpAnyH_ready (rs := [10]) (by kernel_rfl) (by simp) ?_
                  refine AllReadyH.cons (o := { dst := some 33, op := Go.Op.call { callee := Go.Callee.value (Go.Operand.func 5), args := #[Go.Operand.tmp 32], argTypes := #[22] }, type := 22, pos := "memory.go:64", after := #[{ on := 9, ground := Go.Ground.data }, { on := 4, ground := Go.Ground.chain }], guard := none }) rfl (fun K hK => ?_) AllReadyH.nil
                  go_simp
                  refine (twin_any b lb cb fb _ hlb (HRB.out _ (by assumption))).mono ?_
                  rintro e w6 ⟨⟨b2, c3, rfl, hF6, hn6⟩, hb6⟩
                  have HB : Hid (FR w6 wi.heap.size b2 lb fb) := hF6.wide (Below.size (by assumption)) (Nat.le_refl _)
                  refine hK.out _ _ ?_ (fun hHeld => ?_)
                  · exact Below.then (by assumption) hb6
                  clear hK K
                  try simp only [Act.put, List.setIfInBounds_toArray, List.set_cons_zero, List.set_cons_succ]
                  try (have HBP := neF_old HZP hF6)
                  try (have HBQ := neF_old HZQ hF6)
                  have HAB := ne_rows HA hF6
                  replace HA := frS HA hb6
                  try (replace HZP := zbS HZP hb6)
                  try (replace HZQ := zbS HZQ hb6)
                  clear hF6 hn6 hb6
                  try clear z0 z1 g0 g1
                  try (obtain ⟨z0, z1, g0, g1⟩ := HZP.out)
                  refine wpAnyH_take (i := 11) (oi := { dst := some 34, op := Go.Op.build 24 #[(0, Go.Operand.tmp 30), (1, Go.Operand.tmp 33)], type := 24, pos := "memory.go:64", after := #[{ on := 7, ground := Go.Ground.data }, { on := 10, ground := Go.Ground.data }, { on := 14, ground := Go.Ground.gcOnly Go.Departure.lateStores }], guard := none }) (v := ?_) rfl (by kernel_rfl) (by kernel_rfl) (by kernel_rfl) (fun _ _ _ h => h) (Or.inl ⟨by rfl, ?hy⟩) (by assumption) ?_
                  case hy => (intro w9 hSw; (try dsimp only at hSw); go_simp; try with_reducible rfl)
                  try simp only [Act.put, List.setIfInBounds_toArray, List.set_cons_zero, List.set_cons_succ]
                  refine wpAnyH_ready (rs := [14]) (by kernel_rfl) (by simp) ?_
                  refine AllReadyH.cons (o := { dst := none, op := Go.Op.store 24 (Go.Operand.tmp 10) (Go.Operand.tmp 28), type := 0, pos := "memory.go:64", after := #[{ on := 12, ground := Go.Ground.data }, { on := 5, ground := Go.Ground.data }, { on := 10, ground := Go.Ground.chain }, { on := 0, ground := Go.Ground.phase }, { on := 1, ground := Go.Ground.phase }, { on := 2, ground := Go.Ground.phase }, { on := 3, ground := Go.Ground.phase }, { on := 4, ground := Go.Ground.phase }, { on := 5, ground := Go.Ground.phase }, { on := 6, ground := Go.Ground.textOnly Go.Departure.lateStores }, { on := 7, ground := Go.Ground.textOnly Go.Departure.lateStores }, { on := 8, ground := Go.Ground.textOnly Go.Departure.lateStores }, { on := 9, ground := Go.Ground.textOnly Go.Departure.lateStores }, { on := 10, ground := Go.Ground.textOnly Go.Departure.lateStoresUnsure }, { on := 11, ground := Go.Ground.textOnly Go.Departure.lateStores }, { on := 12, ground := Go.Ground.phase }, { on := 13, ground := Go.Ground.phase }], guard := none }) rfl (fun K hK => ?_) AllReadyH.nil
                  go_simp
                  refine gen_set2 (fun ws hst => ?_)
                  refine hK.out _ _ ?_ (fun hHeld => ?_)
                  · exact stB (by assumption) HXP hst
                  clear hK K
                  try simp only [Act.put, List.setIfInBounds_toArray, List.set_cons_zero, List.set_cons_succ]
                  clear z0 z1 g0 g1
                  have HPB := bxZ HZP hst
                  replace HZQ := zbZ HZQ HPQ hst
                  replace HA := frZ HA HAP hst
                  replace HB := frZ HB HBP hst
                  clear hst HZP
                  obtain ⟨z0, z1, g0, g1⟩ := HZQ.out
                  refine wpAnyH_ready (rs := [15]) (by kernel_rfl) (by simp) ?_
                  refine AllReadyH.cons (o := { dst := none, op := Go.Op.store 24 (Go.Operand.tmp 11) (Go.Operand.tmp 34), type := 0, pos := "memory.go:64", after := #[{ on := 13, ground := Go.Ground.data }, { on := 11, ground := Go.Ground.data }, { on := 14, ground := Go.Ground.chain }, { on := 0, ground := Go.Ground.phase }, { on := 1, ground := Go.Ground.phase }, { on := 2, ground := Go.Ground.phase }, { on := 3, ground := Go.Ground.phase }, { on := 4, ground := Go.Ground.phase }, { on := 5, ground := Go.Ground.phase }, { on := 6, ground := Go.Ground.phase }, { on := 7, ground := Go.Ground.phase }, { on := 8, ground := Go.Ground.phase }, { on := 9, ground := Go.Ground.phase }, { on := 10, ground := Go.Ground.phase }, { on := 11, ground := Go.Ground.phase }, { on := 12, ground := Go.Ground.phase }, { on := 13, ground := Go.Ground.phase }, { on := 14, ground := Go.Ground.phase }], guard := none }) rfl (fun K hK => ?_) AllReadyH.nil
                  go_simp
                  refine gen_set2 (fun wt hst2 => ?_)
                  refine hK.out _ _ ?_ (fun hHeld => ?_)
                  · exact stB (by assumption) HXQ hst2
                  clear hK K
                  try simp only [Act.put, List.setIfInBounds_toArray, List.set_cons_zero, List.set_cons_succ]
                  clear z0 z1 g0 g1
                  have HQB := bxZ HZQ hst2
                  replace HPB := bxO HPB (neS HPQ) hst2
                  replace HA := frZ HA HAQ hst2
                  replace HB := frZ HB HBQ hst2
                  clear hst2 HZQ
                  refine wpAnyH_done (by kernel_rfl) ?_ _
                  try simp only [Act.put, List.setIfInBounds_toArray, List.set_cons_zero, List.set_cons_succ]
                  go_wp2_with fail
                  go_meet
                  exact ⟨_, _, a2, c2, b2, c3, rfl, rfl, ⟨HPB.out, HQB.out, HA.out, HB.out, HAP.out, HAQ.out, HBP.out, HBQ.out, HAB.out, HNA.out, HXP.out, HXQ.out⟩, by assumption⟩
                exact AllReadyH.nil
              refine AllReadyH.cons (o := { dst := some 10, op := Go.Op.alloc 24, type := 0, pos := "memory.go:64", after := #[], guard := none }) rfl (fun K hK => ?_) ?_
              · go_simp
                refine gen_al (fun wp halp => ?_)
                have HXP := szP (W := wi) (by assumption) halp
                refine hK.out _ _ ?_ (fun hHeld => ?_)
                · exact alB (by assumption) halp
                clear hK K
                try simp only [Act.put, List.setIfInBounds_toArray, List.set_cons_zero, List.set_cons_succ]
                have HZP := zbN halp
                try (have HAP := neF_new HA)
                try (have HBP := neF_new HB)
                try (have HPQ := neS (zbNe HZQ halp))
                try (replace HA := frA HA halp)
                try (replace HB := frA HB halp)
                try (replace HZQ := zbA HZQ halp)
                clear halp
                try clear z0 z1 g0 g1
                try (obtain ⟨z0, z1, g0, g1⟩ := HZP.out)
                refine wpAnyH_ready (rs := [4]) (by kernel_rfl) (by simp) ?_
                refine AllReadyH.cons (o := { dst := some 27, op := Go.Op.call { callee := Go.Callee.value (Go.Operand.func 5), args := #[Go.Operand.tmp 26], argTypes := #[22] }, type := 22, pos := "memory.go:64", after := #[{ on := 3, ground := Go.Ground.data }], guard := none }) rfl (fun K hK => ?_) AllReadyH.nil
                go_simp
                refine (twin_any a la ca fa _ hla (HRA.out _ (by assumption))).mono ?_
                rintro e w5 ⟨⟨a2, c2, rfl, hF5, hn5⟩, hb5⟩
                have HA : Hid (FR w5 wi.heap.size a2 la fa) := hF5.wide (Below.size (by assumption)) (Nat.le_refl _)
                refine hK.out _ _ ?_ (fun hHeld => ?_)
                · exact Below.then (by assumption) hb5
                clear hK K
                try simp only [Act.put, List.setIfInBounds_toArray, List.set_cons_zero, List.set_cons_succ]
                try (have HAP := neF_old HZP hF5)
                try (have HAQ := neF_old HZQ hF5)
                try (replace HZP := zbS HZP hb5)
                try (replace HZQ := zbS HZQ hb5)
                have HNA : Hid (a2 = none → la = 0 ∧ c2 = 0) := hn5
                clear hF5 hn5 hb5
                try clear z0 z1 g0 g1
                try (obtain ⟨z0, z1, g0, g1⟩ := HZP.out)
                refine wpAnyH_take (i := 5) (oi := { dst := some 28, op := Go.Op.build 24 #[(0, Go.Operand.tmp 24), (1, Go.Operand.tmp 27)], type := 24, pos := "memory.go:64", after := #[{ on := 1, ground := Go.Ground.data }, { on := 4, ground := Go.Ground.data }], guard := none }) (v := ?_) rfl (by kernel_rfl) (by kernel_rfl) (by kernel_rfl) (fun _ _ _ h => h) (Or.inl ⟨by rfl, ?hy⟩) (by assumption) ?_
                case hy => (intro w9 hSw; (try dsimp only at hSw); go_simp; try with_reducible rfl)
                try simp only [Act.put, List.setIfInBounds_toArray, List.set_cons_zero, List.set_cons_succ]
                refine wpAnyH_ready (rs := [10]) (by kernel_rfl) (by simp) ?_
                refine AllReadyH.cons (o := { dst := some 33, op := Go.Op.call { callee := Go.Callee.value (Go.Operand.func 5), args := #[Go.Operand.tmp 32], argTypes := #[22] }, type := 22, pos := "memory.go:64", after := #[{ on := 9, ground := Go.Ground.data }, { on := 4, ground := Go.Ground.chain }], guard := none }) rfl (fun K hK => ?_) AllReadyH.nil
                go_simp
                refine (twin_any b lb cb fb _ hlb (HRB.out _ (by assumption))).mono ?_
                rintro e w6 ⟨⟨b2, c3, rfl, hF6, hn6⟩, hb6⟩
                have HB : Hid (FR w6 wi.heap.size b2 lb fb) := hF6.wide (Below.size (by assumption)) (Nat.le_refl _)
                refine hK.out _ _ ?_ (fun hHeld => ?_)
                · exact Below.then (by assumption) hb6
                clear hK K
                try simp only [Act.put, List.setIfInBounds_toArray, List.set_cons_zero, List.set_cons_succ]
                try (have HBP := neF_old HZP hF6)
                try (have HBQ := neF_old HZQ hF6)
                have HAB := ne_rows HA hF6
                replace HA := frS HA hb6
                try (replace HZP := zbS HZP hb6)
                try (replace HZQ := zbS HZQ hb6)
                clear hF6 hn6 hb6
                try clear z0 z1 g0 g1
                try (obtain ⟨z0, z1, g0, g1⟩ := HZP.out)
                refine wpAnyH_take (i := 11) (oi := { dst := some 34, op := Go.Op.build 24 #[(0, Go.Operand.tmp 30), (1, Go.Operand.tmp 33)], type := 24, pos := "memory.go:64", after := #[{ on := 7, ground := Go.Ground.data }, { on := 10, ground := Go.Ground.data }, { on := 14, ground := Go.Ground.gcOnly Go.Departure.lateStores }], guard := none }) (v := ?_) rfl (by kernel_rfl) (by kernel_rfl) (by kernel_rfl) (fun _ _ _ h => h) (Or.inl ⟨by rfl, ?hy⟩) (by assumption) ?_
                case hy => (intro w9 hSw; (try dsimp only at hSw); go_simp; try with_reducible rfl)
                try simp only [Act.put, List.setIfInBounds_toArray, List.set_cons_zero, List.set_cons_succ]
                refine wpAnyH_ready (rs := [14]) (by kernel_rfl) (by simp) ?_
                refine AllReadyH.cons (o := { dst := none, op := Go.Op.store 24 (Go.Operand.tmp 10) (Go.Operand.tmp 28), type := 0, pos := "memory.go:64", after := #[{ on := 12, ground := Go.Ground.data }, { on := 5, ground := Go.Ground.data }, { on := 10, ground := Go.Ground.chain }, { on := 0, ground := Go.Ground.phase }, { on := 1, ground := Go.Ground.phase }, { on := 2, ground := Go.Ground.phase }, { on := 3, ground := Go.Ground.phase }, { on := 4, ground := Go.Ground.phase }, { on := 5, ground := Go.Ground.phase }, { on := 6, ground := Go.Ground.textOnly Go.Departure.lateStores }, { on := 7, ground := Go.Ground.textOnly Go.Departure.lateStores }, { on := 8, ground := Go.Ground.textOnly Go.Departure.lateStores }, { on := 9, ground := Go.Ground.textOnly Go.Departure.lateStores }, { on := 10, ground := Go.Ground.textOnly Go.Departure.lateStoresUnsure }, { on := 11, ground := Go.Ground.textOnly Go.Departure.lateStores }, { on := 12, ground := Go.Ground.phase }, { on := 13, ground := Go.Ground.phase }], guard := none }) rfl (fun K hK => ?_) AllReadyH.nil
                go_simp
                refine gen_set2 (fun ws hst => ?_)
                refine hK.out _ _ ?_ (fun hHeld => ?_)
                · exact stB (by assumption) HXP hst
                clear hK K
                try simp only [Act.put, List.setIfInBounds_toArray, List.set_cons_zero, List.set_cons_succ]
                clear z0 z1 g0 g1
                have HPB := bxZ HZP hst
                replace HZQ := zbZ HZQ HPQ hst
                replace HA := frZ HA HAP hst
                replace HB := frZ HB HBP hst
                clear hst HZP
                obtain ⟨z0, z1, g0, g1⟩ := HZQ.out
                refine wpAnyH_ready (rs := [15]) (by kernel_rfl) (by simp) ?_
                refine AllReadyH.cons (o := { dst := none, op := Go.Op.store 24 (Go.Operand.tmp 11) (Go.Operand.tmp 34), type := 0, pos := "memory.go:64", after := #[{ on := 13, ground := Go.Ground.data }, { on := 11, ground := Go.Ground.data }, { on := 14, ground := Go.Ground.chain }, { on := 0, ground := Go.Ground.phase }, { on := 1, ground := Go.Ground.phase }, { on := 2, ground := Go.Ground.phase }, { on := 3, ground := Go.Ground.phase }, { on := 4, ground := Go.Ground.phase }, { on := 5, ground := Go.Ground.phase }, { on := 6, ground := Go.Ground.phase }, { on := 7, ground := Go.Ground.phase }, { on := 8, ground := Go.Ground.phase }, { on := 9, ground := Go.Ground.phase }, { on := 10, ground := Go.Ground.phase }, { on := 11, ground := Go.Ground.phase }, { on := 12, ground := Go.Ground.phase }, { on := 13, ground := Go.Ground.phase }, { on := 14, ground := Go.Ground.phase }], guard := none }) rfl (fun K hK => ?_) AllReadyH.nil
                go_simp
                refine gen_set2 (fun wt hst2 => ?_)
                refine hK.out _ _ ?_ (fun hHeld => ?_)
                · exact stB (by assumption) HXQ hst2
                clear hK K
                try simp only [Act.put, List.setIfInBounds_toArray, List.set_cons_zero, List.set_cons_succ]
                clear z0 z1 g0 g1
                have HQB := bxZ HZQ hst2
                replace HPB := bxO HPB (neS HPQ) hst2
                replace HA := frZ HA HAQ hst2
                replace HB := frZ HB HBQ hst2
                clear hst2 HZQ
                refine wpAnyH_done (by kernel_rfl) ?_ _
                try simp only [Act.put, List.setIfInBounds_toArray, List.set_cons_zero, List.set_cons_succ]
                go_wp2_with fail
                go_meet
                exact ⟨_, _, a2, c2, b2, c3, rfl, rfl, ⟨HPB.out, HQB.out, HA.out, HB.out, HAP.out, HAQ.out, HBP.out, HBQ.out, HAB.out, HNA.out, HXP.out, HXQ.out⟩, by assumption⟩
              exact AllReadyH.nil
            exact AllReadyH.nil
          case rest =>
            obtain ⟨P, Q, a2, c2, b2, c3, rfl, rfl, HPQ, HBc⟩ := hcut
            rename World => wu
            clear o0 o1 o2 o3 HRA HRB
            go_upto_region 12 with fail
            have HBX0 : Hid (Below wi.heap.size wi (wu.alloc (.cells #[.int .i64 0, .slice none 0 0] 24))) := alB HBc.out rfl
            have HZX0 : Hid (ZBox (wu.alloc (.cells #[.int .i64 0, .slice none 0 0] 24)) wu.heap.size) := zbN rfl
            have HLX0 : Hid (wi.heap.size ≤ wu.heap.size) := HBc.out.size
            go_cut [12, 35] from 36 to 105 (fun x y wx => y = .int .i64 k ∧ ∃ X, x = .pointer (some ⟨X, 0, none⟩) ∧ Hid (PQ wi.heap.size wx na la fa nb lb fb P Q a2 c2 b2 c3) ∧ Hid (ZBox wx X) ∧ Hid (NeX X a2 la) ∧ Hid (NeX X b2 lb) ∧ Hid (X ≠ P) ∧ Hid (X ≠ Q) ∧ Hid (wi.heap.size ≤ X) ∧ Hid (Below wi.heap.size wi wx))
            case first =>
              go_wp2_with fail
              go_meet
              exact ⟨rfl, _, rfl, pq_al HPQ rfl, HZX0, neF_new HPQ.out.ra, neF_new HPQ.out.rb, (pq_ne HPQ).1, (pq_ne HPQ).2, HLX0, HBX0⟩
            case rest =>
              obtain ⟨rfl, X, rfl, HPX, HZX, HXA, HXB, HXP, HXQ, HLX, HBX⟩ := hcut
              rename World => wv
              clear HBX0 HZX0 HLX0 HPQ HBc
              go_step
              go_cut [7, 15] from 19 to 105 (fun s t wx => s = .int .i64 k ∧ t = .int .i64 k ∧ ∃ (N : Int) (x : Option Addr) (lx cx : Nat) (G : Nat → Nat), Hid (PX (PP na la fa nb lb fb set k) (LL la lb set k) (GG la fa lb fb set k) wi.heap.size wx na la fa nb lb fb P Q X a2 c2 b2 c3 N x lx cx G) ∧ Hid (Below wi.heap.size wi wx))
              case first =>
                obtain ⟨p0, p1⟩ := HPX.out.bp
                obtain ⟨q0, q1⟩ := HPX.out.bq
                have HSZ : Hid (wi.heap.size ≤ wv.heap.size) := HBX.out.size
                have HTV : Hid (Tab wv) := HT.out.step (Below.then HBi.out HBX.out)
                have hcase : k = 0 ∨ k = 1 ∨ k = 2 ∨ k = 3 ∨ k = 4 ∨ k = 5 ∨ k = 6 := by omega
                clear hk7 hk hkI HOi
                rcases hcase with rfl | rfl | rfl | rfl | rfl | rfl | rfl
                · go_wp2_with fail
                  refine (o0_any na a2 la c2 fa _ hma HPX.out.ra.row).mono ?_
                  rintro e wc ⟨⟨x0, c, rfl, hO⟩, hb⟩
                  obtain ⟨N, x, lx, cx, G, rfl, hd, hrw, hw⟩ := hO
                  have HD : Hid (Det (PP na la fa nb lb fb set 0) (LL la lb set 0) (GG la fa lb fb set 0) N lx G) := hd
                  have HRW : Hid (Row wc x lx (fun j => (G j : Nat))) := hrw
                  have HWR : Hid (WrB wv.heap.size wc (.agg #[.int .i64 N, .slice x lx cx])) := hw
                  have HBC : Hid (Below wv.heap.size wv wc) := hb
                  obtain ⟨z0, z1, g0, g1⟩ := (zbS HZX hb).out
                  clear hd hrw hw hb p0 p1 q0 q1
                  go_wp2_with fail
                  go_meet
                  exact ⟨rfl, rfl, N, x, lx, cx, G, px_mk HPX HZX HXA HXB HXP HXQ HSZ HBC.out HD.out HRW.out HWR.out rfl, stB (Below.then HBX.out HBC.out) HLX rfl⟩
                · go_wp2_with fail
                  refine (o1_any na a2 la c2 fa set _ hma HPX.out.ra.row HTV.out).mono ?_
                  rintro e wc ⟨⟨x0, c, rfl, hO⟩, hb⟩
                  obtain ⟨N, x, lx, cx, G, rfl, hd, hrw, hw⟩ := hO
                  have HD : Hid (Det (PP na la fa nb lb fb set 1) (LL la lb set 1) (GG la fa lb fb set 1) N lx G) := hd
                  have HRW : Hid (Row wc x lx (fun j => (G j : Nat))) := hrw
                  have HWR : Hid (WrB wv.heap.size wc (.agg #[.int .i64 N, .slice x lx cx])) := hw
                  have HBC : Hid (Below wv.heap.size wv wc) := hb
                  obtain ⟨z0, z1, g0, g1⟩ := (zbS HZX hb).out
                  clear hd hrw hw hb p0 p1 q0 q1
                  go_wp2_with fail
                  go_meet
                  exact ⟨rfl, rfl, N, x, lx, cx, G, px_mk HPX HZX HXA HXB HXP HXQ HSZ HBC.out HD.out HRW.out HWR.out rfl, stB (Below.then HBX.out HBC.out) HLX rfl⟩
                · go_wp2_with fail
                  refine (o2_any na a2 la c2 fa nb b2 lb c3 fb _ hma hmb HPX.out.nz HPX.out.ra.row HPX.out.rb.row).mono ?_
                  rintro e wc ⟨⟨x0, c, rfl, hO⟩, hb⟩
                  obtain ⟨N, x, lx, cx, G, rfl, hd, hrw, hw⟩ := hO
                  have HD : Hid (Det (PP na la fa nb lb fb set 2) (LL la lb set 2) (GG la fa lb fb set 2) N lx G) := hd
                  have HRW : Hid (Row wc x lx (fun j => (G j : Nat))) := hrw
                  have HWR : Hid (WrB wv.heap.size wc (.agg #[.int .i64 N, .slice x lx cx])) := hw
                  have HBC : Hid (Below wv.heap.size wv wc) := hb
                  obtain ⟨z0, z1, g0, g1⟩ := (zbS HZX hb).out
                  clear hd hrw hw hb p0 p1 q0 q1
                  go_wp2_with fail
                  go_meet
                  exact ⟨rfl, rfl, N, x, lx, cx, G, px_mk HPX HZX HXA HXB HXP HXQ HSZ HBC.out HD.out HRW.out HWR.out rfl, stB (Below.then HBX.out HBC.out) HLX rfl⟩
                · go_wp2_with fail
                  refine (o3_any na a2 la c2 fa nb b2 lb c3 fb _ hma hmb HPX.out.nz HPX.out.ra.row HPX.out.rb.row).mono ?_
                  rintro e wc ⟨⟨x0, c, rfl, hO⟩, hb⟩
                  obtain ⟨N, x, lx, cx, G, rfl, hd, hrw, hw⟩ := hO
                  have HD : Hid (Det (PP na la fa nb lb fb set 3) (LL la lb set 3) (GG la fa lb fb set 3) N lx G) := hd
                  have HRW : Hid (Row wc x lx (fun j => (G j : Nat))) := hrw
                  have HWR : Hid (WrB wv.heap.size wc (.agg #[.int .i64 N, .slice x lx cx])) := hw
                  have HBC : Hid (Below wv.heap.size wv wc) := hb
                  obtain ⟨z0, z1, g0, g1⟩ := (zbS HZX hb).out
                  clear hd hrw hw hb p0 p1 q0 q1
                  go_wp2_with fail
                  go_meet
                  exact ⟨rfl, rfl, N, x, lx, cx, G, px_mk HPX HZX HXA HXB HXP HXQ HSZ HBC.out HD.out HRW.out HWR.out rfl, stB (Below.then HBX.out HBC.out) HLX rfl⟩
                · go_wp2_with fail
                  refine (o4_any na a2 la c2 fa nb b2 lb c3 fb _ hma hmb HPX.out.ra.row HPX.out.rb.row HTV.out).mono ?_
                  rintro e wc ⟨⟨x0, c, rfl, hO⟩, hb⟩
                  obtain ⟨N, x, lx, cx, G, rfl, hd, hrw, hw⟩ := hO
                  have HD : Hid (Det (PP na la fa nb lb fb set 4) (LL la lb set 4) (GG la fa lb fb set 4) N lx G) := hd
                  have HRW : Hid (Row wc x lx (fun j => (G j : Nat))) := hrw
                  have HWR : Hid (WrB wv.heap.size wc (.agg #[.int .i64 N, .slice x lx cx])) := hw
                  have HBC : Hid (Below wv.heap.size wv wc) := hb
                  obtain ⟨z0, z1, g0, g1⟩ := (zbS HZX hb).out
                  clear hd hrw hw hb p0 p1 q0 q1
                  go_wp2_with fail
                  go_meet
                  exact ⟨rfl, rfl, N, x, lx, cx, G, px_mk HPX HZX HXA HXB HXP HXQ HSZ HBC.out HD.out HRW.out HWR.out rfl, stB (Below.then HBX.out HBC.out) HLX rfl⟩
                · go_wp2_with fail
                  refine (o5_any na a2 la c2 fa _ hma HPX.out.ra.row HTV.out).mono ?_
                  rintro e wc ⟨⟨x0, v, c, rfl, hO⟩, hb⟩
                  obtain ⟨N, x, lx, cx, G, rfl, hd, hrw, hw⟩ := hO
                  have HD : Hid (Det (PP na la fa nb lb fb set 5) (LL la lb set 5) (GG la fa lb fb set 5) N lx G) := hd
                  have HRW : Hid (Row wc x lx (fun j => (G j : Nat))) := hrw
                  have HWR : Hid (WrB wv.heap.size wc (.agg #[.int .i64 N, .slice x lx cx])) := hw
                  have HBC : Hid (Below wv.heap.size wv wc) := hb
                  obtain ⟨z0, z1, g0, g1⟩ := (zbS HZX hb).out
                  clear hd hrw hw hb p0 p1 q0 q1
                  go_wp2_with fail
                  go_meet
                  exact ⟨rfl, rfl, N, x, lx, cx, G, px_mk HPX HZX HXA HXB HXP HXQ HSZ HBC.out HD.out HRW.out HWR.out rfl, stB (Below.then HBX.out HBC.out) HLX rfl⟩
                · go_wp2_with fail
                  refine (o6_any na a2 la c2 fa _ hma HPX.out.ra.row).mono ?_
                  rintro e wc ⟨⟨x0, v, c, rfl, hO⟩, hb⟩
                  obtain ⟨N, x, lx, cx, G, rfl, hd, hrw, hw⟩ := hO
                  have HD : Hid (Det (PP na la fa nb lb fb set 6) (LL la lb set 6) (GG la fa lb fb set 6) N lx G) := hd
                  have HRW : Hid (Row wc x lx (fun j => (G j : Nat))) := hrw
                  have HWR : Hid (WrB wv.heap.size wc (.agg #[.int .i64 N, .slice x lx cx])) := hw
                  have HBC : Hid (Below wv.heap.size wv wc) := hb
                  obtain ⟨z0, z1, g0, g1⟩ := (zbS HZX hb).out
                  clear hd hrw hw hb p0 p1 q0 q1
                  go_wp2_with fail
                  go_meet
                  exact ⟨rfl, rfl, N, x, lx, cx, G, px_mk HPX HZX HXA HXB HXP HXQ HSZ HBC.out HD.out HRW.out HWR.out rfl, stB (Below.then HBX.out HBC.out) HLX rfl⟩
              case rest =>
                obtain ⟨rfl, rfl, N, x, lx, cx, G, HPY, HBY⟩ := hcut
                rename World => wy
                clear HPX HZX HXA HXB HXP HXQ HBX
                obtain ⟨p0, p1⟩ := HPY.out.bp
                go_wp2_with fail
                refine (spoil_fine wi.heap.size a2 la c2 fa _ hla HPY.out.ra).mono ?_
                rintro e wz ⟨rfl, hoz, hbz⟩
                have HBZ : Hid (Below wi.heap.size wi wz) := hbz wi (Nat.le_refl _) HBY.out
                have HQZ : Hid (Bxd wz Q nb b2 lb c3) := bxB HPY.out.bq hoz HPY.out.aq
                have HXZ : Hid (Bxd wz X N x lx cx) := bxB HPY.out.bx hoz HPY.out.ax
                have HRB : Hid (FR wz wi.heap.size b2 lb fb) := frB HPY.out.rb hoz HPY.out.ab
                have HRX : Hid (FR wz wi.heap.size x lx (fun j => (G j : Nat))) := frB HPY.out.rx hoz HPY.out.xa
                have HXB : Hid (NeX X b2 lb) := HPY.out.bx'
                have HXX : Hid (0 < lb → NeX (bk b2) x lx) := HPY.out.xb
                have HD : Hid (Det (PP na la fa nb lb fb set k) (LL la lb set k) (GG la fa lb fb set k) N lx G) := HPY.out.det
                have HLN : Hid (lx ≤ 17592186043904) := det_len hk7 HPY.out.det
                clear p0 p1 hoz hbz HPY HBY
                obtain ⟨q0, q1⟩ := HQZ.out
                go_wp2_with fail
                refine (spoil_fine wi.heap.size b2 lb c3 fb _ hlb HRB.out).mono ?_
                rintro e wA ⟨rfl, hoA, hbA⟩
                have HBA : Hid (Below wi.heap.size wi wA) := hbA wi (Nat.le_refl _) HBZ.out
                have HSA : Hid (SX X N x lx cx wi.heap.size G wA) := ⟨(bxB HXZ hoA HXB).out, (frB HRX hoA HXX).out⟩
                clear q0 q1 hoA hbA HBZ HQZ HXZ HRB HRX HXB HXX
                have HOA := OSt.step HOi HBA.out
                have HOW : Hid (O < wi.heap.size) := OSt.lt HOi
                have HXO : Hid (X ≠ O) := fun e => by have h1 := HLX.out; have h2 := HOW.out; omega
                have x0 : ∀ w', SX X N x lx cx wi.heap.size G w' → w'.cell? ⟨X, 0, none⟩ = some (.int .i64 N) := fun w' h => h.1.1
                have x1 : ∀ w', SX X N x lx cx wi.heap.size G w' → w'.cell? ⟨X, 1, none⟩ = some (.slice x lx cx) := fun w' h => h.1.2
                have HW1 : Hid (Below w1.heap.size w1 wA) := Below.then HBi.out HBA.out
                have HIS : Hid (w1.heap.size ≤ wi.heap.size) := HBi.out.size
                go_upto_region 28 with fail
                have hcase : i = 0 ∨ i = 1 := by omega
                rcases hcase with rfl | rfl
                case inl =>
                  refine wp_region_held_drew (S := (fun w' => SX X N x lx cx wi.heap.size G w')) (by kernel_rfl) (sxS HSA.out (Below.refl _ _).drew) (fun hHeld => ?_)
                  have HJ0 : Hid (Below wA.heap.size wA wA.drew) := (Below.refl _ _).drew
                  generalize wA.drew = wj at *
                  have HOJ := OSt.step HOA HJ0.out
                  have HSJ : Hid (SX X N x lx cx wi.heap.size G wj) := hHeld
                  have HBJ : Hid (Below wi.heap.size wi wj) := Below.then HBA.out HJ0.out
                  have HWJ : Hid (Below w1.heap.size w1 wj) := Below.then HW1.out HJ0.out
                  refine wpAnyH_take (i := 0) (oi := { dst := some 95, op := Go.Op.move (Go.Operand.tmp 9), type := 3, pos := "memory.go:84", after := #[], guard := none }) (v := ?_) rfl (by kernel_rfl) (by kernel_rfl) (by kernel_rfl) (fun _ _ _ h => h) (Or.inl ⟨by rfl, ?hy⟩) (by assumption) ?_
                  case hy => (intro w9 hSw; (try dsimp only at hSw); go_simp; try with_reducible rfl)
                  try simp only [Act.put, List.setIfInBounds_toArray, List.set_cons_zero, List.set_cons_succ]
                  refine wpAnyH_take (i := 1) (oi := { dst := some 96, op := Go.Op.fieldAddr 24 (Go.Operand.tmp 12) 0, type := 0, pos := "memory.go:84", after := #[], guard := none }) (v := ?_) rfl (by kernel_rfl) (by kernel_rfl) (by kernel_rfl) (fun _ _ _ h => h) (Or.inl ⟨by rfl, ?hy⟩) (by assumption) ?_
                  case hy => (intro w9 hSw; (try dsimp only at hSw); go_simp; try with_reducible rfl)
                  try simp only [Act.put, List.setIfInBounds_toArray, List.set_cons_zero, List.set_cons_succ]
                  refine wpAnyH_take (i := 2) (oi := { dst := some 97, op := Go.Op.load 3 (Go.Operand.tmp 96), type := 3, pos := "memory.go:84", after := #[{ on := 1, ground := Go.Ground.data }], guard := none }) (v := ?_) rfl (by kernel_rfl) (by kernel_rfl) (by kernel_rfl) (fun _ _ _ h => h) (Or.inl ⟨by rfl, ?hy⟩) (by assumption) ?_
                  case hy => (intro w9 hSw; (try dsimp only at hSw); go_simp; try with_reducible rfl)
                  try simp only [Act.put, List.setIfInBounds_toArray, List.set_cons_zero, List.set_cons_succ]
                  refine wpAnyH_take (i := 3) (oi := { dst := some 98, op := Go.Op.fieldAddr 24 (Go.Operand.tmp 12) 1, type := 0, pos := "memory.go:84", after := #[], guard := none }) (v := ?_) rfl (by kernel_rfl) (by kernel_rfl) (by kernel_rfl) (fun _ _ _ h => h) (Or.inl ⟨by rfl, ?hy⟩) (by assumption) ?_
                  case hy => (intro w9 hSw; (try dsimp only at hSw); go_simp; try with_reducible rfl)
                  try simp only [Act.put, List.setIfInBounds_toArray, List.set_cons_zero, List.set_cons_succ]
                  refine wpAnyH_take (i := 4) (oi := { dst := some 99, op := Go.Op.load 22 (Go.Operand.tmp 98), type := 22, pos := "memory.go:84", after := #[{ on := 3, ground := Go.Ground.data }], guard := none }) (v := ?_) rfl (by kernel_rfl) (by kernel_rfl) (by kernel_rfl) (fun _ _ _ h => h) (Or.inl ⟨by rfl, ?hy⟩) (by assumption) ?_
                  case hy => (intro w9 hSw; (try dsimp only at hSw); go_simp; try with_reducible rfl)
                  try simp only [Act.put, List.setIfInBounds_toArray, List.set_cons_zero, List.set_cons_succ]
                  refine wpAnyH_ready (rs := [5]) (by kernel_rfl) (by simp) ?_
                  refine AllReadyH.cons (o := { dst := some 100, op := Go.Op.call { callee := Go.Callee.value (Go.Operand.func 5), args := #[Go.Operand.tmp 99], argTypes := #[22] }, type := 22, pos := "memory.go:84", after := #[{ on := 4, ground := Go.Ground.data }], guard := none }) rfl (fun K hK => ?_) AllReadyH.nil
                  go_simp
                  refine (twin_any x lx cx _ _ HLN.out (show SX X N x lx cx wi.heap.size G _ from by assumption).2.row).mono ?_
                  rintro e wB ⟨⟨a9, c9, rfl, hF9, _⟩, hb9⟩
                  have HB9 : Hid (Below wj.heap.size wj wB) := hb9
                  have HF9 : Hid (FRow wB wj.heap.size wB.heap.size a9 lx (fun j => (G j : Nat))) := hF9
                  clear hF9 hb9
                  refine hK.out _ _ ?_ (fun hHeld => ?_)
                  · exact sxS (by assumption) HB9.out
                  clear hK K
                  try simp only [Act.put, List.setIfInBounds_toArray, List.set_cons_zero, List.set_cons_succ]
                  have HO9 := OSt.step HOJ HB9.out
                  obtain ⟨v0, y0⟩ := HO9.out.c 0 (by omega)
                  obtain ⟨v1, y1⟩ := HO9.out.c 1 (by omega)
                  have f0 := HO9.out.f 0 (by omega)
                  have f1 := HO9.out.f 1 (by omega)
                  refine wpAnyH_take (i := 6) (oi := { dst := some 101, op := Go.Op.build 24 #[(0, Go.Operand.tmp 97), (1, Go.Operand.tmp 100)], type := 24, pos := "memory.go:84", after := #[{ on := 2, ground := Go.Ground.data }, { on := 5, ground := Go.Ground.data }], guard := none }) (v := ?_) rfl (by kernel_rfl) (by kernel_rfl) (by kernel_rfl) (fun _ _ _ h => h) (Or.inl ⟨by rfl, ?hy⟩) (by assumption) ?_
                  case hy => (intro w9 hSw; (try dsimp only at hSw); go_simp; try with_reducible rfl)
                  try simp only [Act.put, List.setIfInBounds_toArray, List.set_cons_zero, List.set_cons_succ]
                  refine wpAnyH_take (i := 7) (oi := { dst := some 102, op := Go.Op.indexAddr 26 (Go.Operand.tmp 8) (Go.Operand.tmp 95), type := 0, pos := "memory.go:84", after := #[{ on := 0, ground := Go.Ground.data }, { on := 0, ground := Go.Ground.phase }, { on := 1, ground := Go.Ground.phase }, { on := 2, ground := Go.Ground.phase }, { on := 3, ground := Go.Ground.phase }, { on := 4, ground := Go.Ground.phase }, { on := 5, ground := Go.Ground.phase }, { on := 6, ground := Go.Ground.phase }], guard := none }) (v := ?_) rfl (by kernel_rfl) (by kernel_rfl) (by kernel_rfl) (fun _ _ _ h => h) (Or.inl ⟨by rfl, ?hy⟩) (by assumption) ?_
                  case hy => (intro w9 hSw; (try dsimp only at hSw); go_simp; try with_reducible rfl)
                  try simp only [Act.put, List.setIfInBounds_toArray, List.set_cons_zero, List.set_cons_succ]
                  refine wpAnyH_ready (rs := [8]) (by kernel_rfl) (by simp) ?_
                  refine AllReadyH.cons (o := { dst := none, op := Go.Op.store 24 (Go.Operand.tmp 102) (Go.Operand.tmp 101), type := 0, pos := "memory.go:84", after := #[{ on := 7, ground := Go.Ground.data }, { on := 6, ground := Go.Ground.data }, { on := 5, ground := Go.Ground.chain }, { on := 0, ground := Go.Ground.phase }, { on := 1, ground := Go.Ground.phase }, { on := 2, ground := Go.Ground.phase }, { on := 3, ground := Go.Ground.phase }, { on := 4, ground := Go.Ground.phase }, { on := 5, ground := Go.Ground.phase }, { on := 6, ground := Go.Ground.phase }], guard := none }) rfl (fun K hK => ?_) AllReadyH.nil
                  go_simp
                  refine gen_set2 (fun wC hst => ?_)
                  refine hK.out _ _ ?_ (fun hHeld => ?_)
                  · exact sxO (by assumption) HXO HOW.out hst
                  clear hK K
                  try simp only [Act.put, List.setIfInBounds_toArray, List.set_cons_zero, List.set_cons_succ]
                  refine wpAnyH_done (by kernel_rfl) ?_ _
                  try simp only [Act.put, List.setIfInBounds_toArray, List.set_cons_zero, List.set_cons_succ]
                  clear y0 y1 f0 f1
                  have HSC : Hid (SX X N x lx cx wi.heap.size G wC) := by assumption
                  obtain ⟨s0, s1⟩ := HSC.out.1
                  go_wp2_with fail
                  refine (spoil_fine wi.heap.size x lx cx _ _ HLN.out HSC.out.2).mono ?_
                  rintro e wD ⟨rfl, hoD, hbD⟩
                  have HOD := OSt.last (i := 0) (by omega) HOJ HOW.out (OSt.lows HOi HBJ.out) HSJ.out.2 HB9.out HF9.out HD.out hst hoD
                  have HBD : Hid (Below w1.heap.size w1 wD) := hbD w1 HIS.out (setO (Below.then HWJ.out HB9.out) HOL hst)
                  clear hoD hbD hst s0 s1
                  go_wp2_with fail
                  go_roundw
                  case rel => exact ⟨0 + 1, by omega, by go_num, HOD, HBD⟩
                  case measure => simp [intOf]
                case inr =>
                  refine wp_region_held_drew (S := (fun w' => SX X N x lx cx wi.heap.size G w')) (by kernel_rfl) (sxS HSA.out (Below.refl _ _).drew) (fun hHeld => ?_)
                  have HJ0 : Hid (Below wA.heap.size wA wA.drew) := (Below.refl _ _).drew
                  generalize wA.drew = wj at *
                  have HOJ := OSt.step HOA HJ0.out
                  have HSJ : Hid (SX X N x lx cx wi.heap.size G wj) := hHeld
                  have HBJ : Hid (Below wi.heap.size wi wj) := Below.then HBA.out HJ0.out
                  have HWJ : Hid (Below w1.heap.size w1 wj) := Below.then HW1.out HJ0.out
                  refine wpAnyH_take (i := 0) (oi := { dst := some 95, op := Go.Op.move (Go.Operand.tmp 9), type := 3, pos := "memory.go:84", after := #[], guard := none }) (v := ?_) rfl (by kernel_rfl) (by kernel_rfl) (by kernel_rfl) (fun _ _ _ h => h) (Or.inl ⟨by rfl, ?hy⟩) (by assumption) ?_
                  case hy => (intro w9 hSw; (try dsimp only at hSw); go_simp; try with_reducible rfl)
                  try simp only [Act.put, List.setIfInBounds_toArray, List.set_cons_zero, List.set_cons_succ]
                  refine wpAnyH_take (i := 1) (oi := { dst := some 96, op := Go.Op.fieldAddr 24 (Go.Operand.tmp 12) 0, type := 0, pos := "memory.go:84", after := #[], guard := none }) (v := ?_) rfl (by kernel_rfl) (by kernel_rfl) (by kernel_rfl) (fun _ _ _ h => h) (Or.inl ⟨by rfl, ?hy⟩) (by assumption) ?_
                  case hy => (intro w9 hSw; (try dsimp only at hSw); go_simp; try with_reducible rfl)
                  try simp only [Act.put, List.setIfInBounds_toArray, List.set_cons_zero, List.set_cons_succ]
                  refine wpAnyH_take (i := 2) (oi := { dst := some 97, op := Go.Op.load 3 (Go.Operand.tmp 96), type := 3, pos := "memory.go:84", after := #[{ on := 1, ground := Go.Ground.data }], guard := none }) (v := ?_) rfl (by kernel_rfl) (by kernel_rfl) (by kernel_rfl) (fun _ _ _ h => h) (Or.inl ⟨by rfl, ?hy⟩) (by assumption) ?_
                  case hy => (intro w9 hSw; (try dsimp only at hSw); go_simp; try with_reducible rfl)
                  try simp only [Act.put, List.setIfInBounds_toArray, List.set_cons_zero, List.set_cons_succ]
                  refine wpAnyH_take (i := 3) (oi := { dst := some 98, op := Go.Op.fieldAddr 24 (Go.Operand.tmp 12) 1, type := 0, pos := "memory.go:84", after := #[], guard := none }) (v := ?_) rfl (by kernel_rfl) (by kernel_rfl) (by kernel_rfl) (fun _ _ _ h => h) (Or.inl ⟨by rfl, ?hy⟩) (by assumption) ?_
                  case hy => (intro w9 hSw; (try dsimp only at hSw); go_simp; try with_reducible rfl)
                  try simp only [Act.put, List.setIfInBounds_toArray, List.set_cons_zero, List.set_cons_succ]
                  refine wpAnyH_take (i := 4) (oi := { dst := some 99, op := Go.Op.load 22 (Go.Operand.tmp 98), type := 22, pos := "memory.go:84", after := #[{ on := 3, ground := Go.Ground.data }], guard := none }) (v := ?_) rfl (by kernel_rfl) (by kernel_rfl) (by kernel_rfl) (fun _ _ _ h => h) (Or.inl ⟨by rfl, ?hy⟩) (by assumption) ?_
                  case hy => (intro w9 hSw; (try dsimp only at hSw); go_simp; try with_reducible rfl)
                  try simp only [Act.put, List.setIfInBounds_toArray, List.set_cons_zero, List.set_cons_succ]
                  refine wpAnyH_ready (rs := [5]) (by kernel_rfl) (by simp) ?_
                  refine AllReadyH.cons (o := { dst := some 100, op := Go.Op.call { callee := Go.Callee.value (Go.Operand.func 5), args := #[Go.Operand.tmp 99], argTypes := #[22] }, type := 22, pos := "memory.go:84", after := #[{ on := 4, ground := Go.Ground.data }], guard := none }) rfl (fun K hK => ?_) AllReadyH.nil
                  go_simp
                  refine (twin_any x lx cx _ _ HLN.out (show SX X N x lx cx wi.heap.size G _ from by assumption).2.row).mono ?_
                  rintro e wB ⟨⟨a9, c9, rfl, hF9, _⟩, hb9⟩
                  have HB9 : Hid (Below wj.heap.size wj wB) := hb9
                  have HF9 : Hid (FRow wB wj.heap.size wB.heap.size a9 lx (fun j => (G j : Nat))) := hF9
                  clear hF9 hb9
                  refine hK.out _ _ ?_ (fun hHeld => ?_)
                  · exact sxS (by assumption) HB9.out
                  clear hK K
                  try simp only [Act.put, List.setIfInBounds_toArray, List.set_cons_zero, List.set_cons_succ]
                  have HO9 := OSt.step HOJ HB9.out
                  obtain ⟨v0, y0⟩ := HO9.out.c 2 (by omega)
                  obtain ⟨v1, y1⟩ := HO9.out.c 3 (by omega)
                  have f0 := HO9.out.f 2 (by omega)
                  have f1 := HO9.out.f 3 (by omega)
                  refine wpAnyH_take (i := 6) (oi := { dst := some 101, op := Go.Op.build 24 #[(0, Go.Operand.tmp 97), (1, Go.Operand.tmp 100)], type := 24, pos := "memory.go:84", after := #[{ on := 2, ground := Go.Ground.data }, { on := 5, ground := Go.Ground.data }], guard := none }) (v := ?_) rfl (by kernel_rfl) (by kernel_rfl) (by kernel_rfl) (fun _ _ _ h => h) (Or.inl ⟨by rfl, ?hy⟩) (by assumption) ?_
                  case hy => (intro w9 hSw; (try dsimp only at hSw); go_simp; try with_reducible rfl)
                  try simp only [Act.put, List.setIfInBounds_toArray, List.set_cons_zero, List.set_cons_succ]
                  refine wpAnyH_take (i := 7) (oi := { dst := some 102, op := Go.Op.indexAddr 26 (Go.Operand.tmp 8) (Go.Operand.tmp 95), type := 0, pos := "memory.go:84", after := #[{ on := 0, ground := Go.Ground.data }, { on := 0, ground := Go.Ground.phase }, { on := 1, ground := Go.Ground.phase }, { on := 2, ground := Go.Ground.phase }, { on := 3, ground := Go.Ground.phase }, { on := 4, ground := Go.Ground.phase }, { on := 5, ground := Go.Ground.phase }, { on := 6, ground := Go.Ground.phase }], guard := none }) (v := ?_) rfl (by kernel_rfl) (by kernel_rfl) (by kernel_rfl) (fun _ _ _ h => h) (Or.inl ⟨by rfl, ?hy⟩) (by assumption) ?_
                  case hy => (intro w9 hSw; (try dsimp only at hSw); go_simp; try with_reducible rfl)
                  try simp only [Act.put, List.setIfInBounds_toArray, List.set_cons_zero, List.set_cons_succ]
                  refine wpAnyH_ready (rs := [8]) (by kernel_rfl) (by simp) ?_
                  refine AllReadyH.cons (o := { dst := none, op := Go.Op.store 24 (Go.Operand.tmp 102) (Go.Operand.tmp 101), type := 0, pos := "memory.go:84", after := #[{ on := 7, ground := Go.Ground.data }, { on := 6, ground := Go.Ground.data }, { on := 5, ground := Go.Ground.chain }, { on := 0, ground := Go.Ground.phase }, { on := 1, ground := Go.Ground.phase }, { on := 2, ground := Go.Ground.phase }, { on := 3, ground := Go.Ground.phase }, { on := 4, ground := Go.Ground.phase }, { on := 5, ground := Go.Ground.phase }, { on := 6, ground := Go.Ground.phase }], guard := none }) rfl (fun K hK => ?_) AllReadyH.nil
                  go_simp
                  refine gen_set2 (fun wC hst => ?_)
                  refine hK.out _ _ ?_ (fun hHeld => ?_)
                  · exact sxO (by assumption) HXO HOW.out hst
                  clear hK K
                  try simp only [Act.put, List.setIfInBounds_toArray, List.set_cons_zero, List.set_cons_succ]
                  refine wpAnyH_done (by kernel_rfl) ?_ _
                  try simp only [Act.put, List.setIfInBounds_toArray, List.set_cons_zero, List.set_cons_succ]
                  clear y0 y1 f0 f1
                  have HSC : Hid (SX X N x lx cx wi.heap.size G wC) := by assumption
                  obtain ⟨s0, s1⟩ := HSC.out.1
                  go_wp2_with fail
                  refine (spoil_fine wi.heap.size x lx cx _ _ HLN.out HSC.out.2).mono ?_
                  rintro e wD ⟨rfl, hoD, hbD⟩
                  have HOD := OSt.last (i := 1) (by omega) HOJ HOW.out (OSt.lows HOi HBJ.out) HSJ.out.2 HB9.out HF9.out HD.out hst hoD
                  have HBD : Hid (Below w1.heap.size w1 wD) := hbD w1 HIS.out (setO (Below.then HWJ.out HB9.out) HOL hst)
                  clear hoD hbD hst s0 s1
                  go_wp2_with fail
                  go_roundw
                  case rel => exact ⟨1 + 1, by omega, by go_num, HOD, HBD⟩
                  case measure => simp [intOf]
        · obtain rfl : i = 2 := by omega
          obtain ⟨N, x0, x1, l, d0, d1, g, q0, q1, q2, q3, h10, hr0, hr1, hck⟩ := ost_two hk7 HOi
          have HR0 : Hid (Row wi x0 l (fun j => (g j : Nat))) := hr0
          have HR1 : Hid (Row wi x1 l (fun j => (g j : Nat))) := hr1
          have HCK : Hid (0 < N → Chk N l (fun j => (g j : Nat)) 0) := hck
          clear hr0 hr1 hck HOi
          go_wp2_with fail
          refine (sameOrder_any N N x0 x1 l d0 l d1 _ _ _ (by unfold maxLen; omega) (by unfold maxLen; omega) HR0.out HR1.out).mono ?_
          rintro e w9 ⟨⟨q, rfl, hq⟩, hb9⟩
          obtain rfl : q = true := hq.2 ⟨rfl, rfl, fun _ _ => rfl⟩
          have HB9 : Hid (Below w1.heap.size w1 w9) := Below.then HBi.out hb9
          have HR9 : Hid (Row w9 x0 l (fun j => (g j : Nat))) := HR0.out.below hb9
          replace q0 := cellS hb9 q0
          replace q1 := cellS hb9 q1
          replace q2 := cellS hb9 q2
          replace q3 := cellS hb9 q3
          clear hq hb9 HR0 HR1 HBi
          by_cases hN : 0 < N
          · go_wp2_with fail
            refine (checkOrder_any N x0 l d0 _ _ (by unfold maxLen; omega) HR9.out).mono ?_
            rintro e w8 ⟨⟨c, rfl, hc⟩, hb8⟩
            obtain rfl := Chk.unique hc (HCK.out hN)
            have HB8 : Hid (Below w1.heap.size w1 w8) := Below.then HB9.out hb8
            clear hc hb8 HB9 HR9 q0 q1 q2 q3
            go_wp2_with fail
            go_roundw
            case rel => exact ⟨k + 1, by omega, by go_num, HB8⟩
            case measure => simp [intOf]; omega
          · go_wp2_with fail
            go_roundw
            case rel => exact ⟨k + 1, by omega, by go_num, HB9⟩
            case measure => simp [intOf]; omega
    · obtain rfl : k = 7 := by omega
      go_wp2_with fail
      go_ret
      exact ⟨rfl, Below.then HB1.out HBk.out⟩
end Go.Proofs.YtinblbkglkhjmaaDoor
