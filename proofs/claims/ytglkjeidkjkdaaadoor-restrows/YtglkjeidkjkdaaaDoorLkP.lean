/-
  What series.linksOf answers. Conditions: an order in which nothing is wrong.
-/
import Derived.Test.YtglkjeidkjkdaaaDoorLkM
import Derived.Test.YtglkjeidkjkdaaaDoorLateT
namespace Go.Proofs.YtglkjeidkjkdaaaDoor
set_option maxRecDepth 100000
open Go.RowKit

/-- What each point knows; and the three rows. -/
def kno (g : Nat → Nat) (n k : Nat) : Nat := g k ||| trn g n k
def lkF (g : Nat → Nat) (n i k : Nat) : Nat := if i = 0 then pc (g k) else if i = 1 then kno g n k else lack (pw n - 1) (kno g n k)
def LkPost (g : Nat → Nat) (n : Nat) (e : Ending) (w' : World) : Prop :=
  ∃ a0 a1 a2 c0 c1 c2, e = .returned (.agg #[.slice a0 n c0, .slice a1 n c1, .slice a2 n c2]) ∧ Row w' a0 n (fun k => (lkF g n 0 k : Nat)) ∧ Row w' a1 n (fun k => (lkF g n 1 k : Nat)) ∧ Row w' a2 n (fun k => (lkF g n 2 k : Nat))
set_option maxHeartbeats 4000000 in
theorem linksOf_any (a : Option Addr) (len cap : Nat) (f : Nat → Int) (w : World) (hc : Chk (len : Int) len f 0) (hr : Row w a len f) :
    Calls Tryd.prog 28 #[.agg #[.int .i64 (len : Int), .slice a len cap]] w fun e w' => LkPost (nat f) len e w' ∧ Below w.heap.size w w' := by
  obtain ⟨_, h10, hrng, hord⟩ := hc.good
  have hl : len ≤ maxLen := by unfold maxLen; omega
  have HGR : Hid (Rng len f) := hrng
  have hpl := pw_le len h10
  have HH : Hid (Held (w.alloc (.cells #[.int .i64 (len : Int), .slice a len cap] 24)) w.heap.size len a len cap f) := Held.box hr
  have HB0 : Hid (Below w.heap.size w (w.alloc (.cells #[.int .i64 (len : Int), .slice a len cap] 24))) := (Below.refl _ _).alloc (Nat.le_refl _) _
  have HCK : Hid (Chk (len : Int) len f 0) := hc
  obtain ⟨i0, hi, hz0, hz1, hz2⟩ := info_parts Tryd.info3
  clear hr hrng hord hc
  go_enter Tryd.func28, Tryd.ntmps28
  go_wp2_with fail
  refine (dual_any len a len cap f _ hl (HH.out.step ((Below.refl _ _).alloc (Nat.le_refl _) _)).row).mono ?_
  rintro e w1 ⟨⟨c, x, hck, rfl, hx⟩, hb⟩
  obtain rfl : c = 0 := Chk.unique hck HCK.out
  rcases hx with ⟨h0, _⟩ | ⟨_, ad, cd, rfl, hrd⟩
  · exact absurd rfl h0
  have K1 := (HH.out.step ((Below.refl _ _).alloc (Nat.le_refl _) _)).step hb
  have k0 := K1.c0
  have k1 := K1.c1
  have HB1 : Hid (Below w.heap.size w w1) := Below.then HB0.out (Below.then ((Below.refl _ _).alloc (Nat.le_refl _) _) hb)
  have HRC : Hid (∀ i, i < 3 → w1.cell? ⟨w.heap.size + 1, i, none⟩ = some (.slice none 0 0) ∧ w1.frozen? ⟨w.heap.size + 1, i, none⟩ = false) := fun i hi => by
    rw [hb.cell (p := ⟨w.heap.size + 1, i, none⟩) (by simp), hb.frozen (p := ⟨w.heap.size + 1, i, none⟩) (by simp)]
    refine ⟨?_, World.frozen?_alloc_at _ _ _ _ (by simp)⟩
    rcases (by omega : i = 0 ∨ i = 1 ∨ i = 2) with rfl | rfl | rfl <;> simp
  have HD : Hid (Held (w1.alloc (.cells #[.int .i64 (len : Int), .slice ad len cd] 24)) w1.heap.size len ad len cd (fun k => (trn (nat f) len k : Nat))) := Held.box hrd
  have HK4 : Hid (Held (w1.alloc (.cells #[.int .i64 (len : Int), .slice ad len cd] 24)) w.heap.size len a len cap f) := K1.step ((Below.refl _ _).alloc (Nat.le_refl _) _)
  have HB4 : Hid (Below w1.heap.size w1 (w1.alloc (.cells #[.int .i64 (len : Int), .slice ad len cd] 24))) := (Below.refl _ _).alloc (Nat.le_refl _) _
  have HS4 : Hid ((w1.alloc (.cells #[.int .i64 (len : Int), .slice ad len cd] 24)).heap.size = w1.heap.size + 1) := by simp [Hid]
  have HLS : Hid (Lk (w1.heap.size + 1) (w1.alloc (.cells #[.int .i64 (len : Int), .slice ad len cd] 24)) ((w1.alloc (.cells #[.int .i64 (len : Int), .slice ad len cd] 24)).alloc (.cells #[.slice none 0 0, .slice none 0 0, .slice none 0 0] 62)) (fun _ => .slice none 0 0) (fun _ => 0) (lkF (nat f) len)) := by
    have := Lk.start (w1.alloc (.cells #[.int .i64 (len : Int), .slice ad len cd] 24)) (lkF (nat f) len)
    rw [HS4.out] at this
    exact this
  have hbl : w.heap.size < w1.heap.size := World.block_lt_of_cell? _ _ k0
  have HBL : Hid (w.heap.size + 2 ≤ w1.heap.size) := World.block_lt_of_cell? _ _ (HRC.out 0 (by omega)).1
  clear hck hrd K1 hb HH HB0
  go_wp2_with fail
  clear hbl k0 k1
  generalize (w1.alloc (.cells #[.int .i64 (len : Int), .slice ad len cd] 24)).alloc (.cells #[.slice none 0 0, .slice none 0 0, .slice none 0 0] 62) = W5 at *
  generalize w1.alloc (.cells #[.int .i64 (len : Int), .slice ad len cd] 24) = W4 at *
  generalize hD : w1.heap.size = D at *
  generalize hgf : nat f = g at *
  have HG : Hid (∀ k, k < len → g k < 1024) := by rw [← hgf]; exact HGR.out.small2 h10
  have HSM : Hid (∀ k, k < len → g k < pw len) := by rw [← hgf]; exact HGR.out.small
  have HRW : Hid (∀ w', Row w' a len f → Row w' a len (fun k => ((g k : Nat) : Int))) := fun w' h => by rw [← hgf]; exact HGR.out.row h
  go_loopw [18] (fun i wx => ∃ k : Nat, k ≤ len ∧ i = .int .i64 k ∧ Hid (∃ v, Lk (D + 1) W4 wx v (fun _ => k) (lkF g len))) (fun i _ => len - (intOf i).toNat)
  case atStart => exact ⟨0, Nat.zero_le _, rfl, _, HLS.out⟩
  case round =>
    clear HLS
    obtain ⟨k, hk, rfl, HV⟩ := hrel
    obtain ⟨v, hv⟩ := HV.out
    have HLK : Hid (Lk (D + 1) W4 wr v (fun _ => k) (lkF g len)) := hv
    clear HV hv
    by_cases hlt : k < len
    · have hlI : (k : Int) < (len : Int) := by omega
      have kx := HK4.out.step (by rw [HS4.out]; exact HLK.out.below)
      have dx := HD.out.step (by rw [HS4.out]; exact HLK.out.below)
      obtain ⟨b2, off2, rfl, c2⟩ := HRW.out _ kx.row k hlt
      have d1 := dx.c1
      obtain ⟨b3, off3, rfl, c3⟩ := dx.row k hlt
      have hgk := HG.out k hlt
      have htr := trn_lt g len k
      have hor := i64_or (g k) (trn g len k) (by omega) (by omega)
      obtain ⟨V0, HV⟩ : ∃ V, Hid (v 0 = V) := ⟨_, rfl⟩
      have k0 : wr.cell? ⟨D + 1, 0, none⟩ = some V0 := by rw [← HV.out]; exact HLK.out.cell 0 (by omega)
      have HSZ : Hid (D + 1 + 1 ≤ wr.heap.size) := HLK.out.size
      have hbD : D + 1 < wr.heap.size := HSZ.out
      have HOW : Hid (wr.drew.ownsRow (D + 1 + 1) 3 1 V0 k (rowVals (lkF g len 0) k)) := by rw [← HV.out]; exact HLK.out.own 0 (by omega)
      have HLKd : Hid (Lk (D + 1) W4 wr.drew v (fun _ => k) (lkF g len)) := HLK.out.step ((Below.refl _ _).drew)
      go_wp2_with fail
      refine wp_lates (S := (fun w' => w'.cell? ⟨D + 1, 0, none⟩ = some V0)) (late := (fun i => i == 7)) (by kernel_rfl) ?_
      have HS : Hid (wr.drew.cell? ⟨D + 1, 0, none⟩ = some V0) := k0
      refine lates_take (i := 0) (oi := { dst := some 30, op := Go.Op.fieldAddr 62 (Go.Operand.tmp 5) 0, type := 0, pos := "split.go:24", after := #[], guard := none }) (v := ?_) rfl (by kernel_rfl) (by kernel_rfl) (by kernel_rfl) ⟨rfl, by kernel_rfl⟩ (fun _ _ _ h => h) (Or.inl ⟨by rfl, ?hy⟩) HS.out ?_
      case hy => (intro w9 hSw; (try dsimp only at hSw); go_simp; try with_reducible rfl)
      try simp only [Act.put, List.setIfInBounds_toArray, List.set_cons_zero, List.set_cons_succ]
      refine lates_take (i := 1) (oi := { dst := some 31, op := Go.Op.load 22 (Go.Operand.tmp 30), type := 22, pos := "split.go:24", after := #[{ on := 0, ground := Go.Ground.data }], guard := none }) (v := ?_) rfl (by kernel_rfl) (by kernel_rfl) (by kernel_rfl) ⟨rfl, by kernel_rfl⟩ (fun _ _ _ h => h) (Or.inl ⟨by rfl, ?hy⟩) HS.out ?_
      case hy => (intro w9 hSw; (try dsimp only at hSw); go_simp; try with_reducible rfl)
      try simp only [Act.put, List.setIfInBounds_toArray, List.set_cons_zero, List.set_cons_succ]
      refine lates_take (i := 2) (oi := { dst := some 32, op := Go.Op.move (Go.Operand.tmp 7), type := 3, pos := "split.go:24", after := #[], guard := none }) (v := ?_) rfl (by kernel_rfl) (by kernel_rfl) (by kernel_rfl) ⟨rfl, by kernel_rfl⟩ (fun _ _ _ h => h) (Or.inl ⟨by rfl, ?hy⟩) HS.out ?_
      case hy => (intro w9 hSw; (try dsimp only at hSw); go_simp; try with_reducible rfl)
      try simp only [Act.put, List.setIfInBounds_toArray, List.set_cons_zero, List.set_cons_succ]
      refine lates_ready (rs := [3]) (by kernel_rfl) (by simp) ?_
      refine AllLate.cons (o := { dst := some 33, op := Go.Op.call { callee := Go.Callee.value (Go.Operand.func 54), args := #[Go.Operand.tmp 32], argTypes := #[3] }, type := 3, pos := "split.go:24", after := #[{ on := 2, ground := Go.Ground.data }], guard := none }) rfl (fun K hK => ?_) ?_
      · go_simp
        refine (size_any (g k) _ hgk).mono ?_
        rintro e w' ⟨rfl, rfl⟩
        refine hK.out _ _ (fun _ => ?_) ?_
        · exact HS.out

        clear hK K
        try simp only [Act.put, List.setIfInBounds_toArray, List.set_cons_zero, List.set_cons_succ]
        refine lates_ready (rs := [4]) (by kernel_rfl) (by simp) ?_
        refine AllLate.cons (o := { dst := some 34, op := Go.Op.buildSlice 22 1 #[(0, Go.Operand.tmp 33)], type := 22, pos := "split.go:24", after := #[{ on := 3, ground := Go.Ground.data }], guard := none }) rfl (fun K hK => ?_) ?_
        · go_simp
          skip
          refine hK.out _ _ (fun _ => ?_) ?_
          · exact (World.cell?_alloc_old _ _ _ (Nat.ne_of_lt hbD)).trans HS.out
          have HS : Hid ((wr.drew.alloc (.cells #[.int .i64 ((pc (g k) : Nat) : Int)] 3)).cell? ⟨D + 1, 0, none⟩ = some V0) := (World.cell?_alloc_old _ _ _ (Nat.ne_of_lt hbD)).trans HS.out
          clear hK K
          try simp only [Act.put, List.setIfInBounds_toArray, List.set_cons_zero, List.set_cons_succ]
          refine lates_ready (rs := [5]) (by kernel_rfl) (by simp) ?_
          refine AllLate.cons (o := { dst := some 35, op := Go.Op.call { callee := Go.Callee.builtin Go.Builtin.append, args := #[Go.Operand.tmp 31, Go.Operand.tmp 34], argTypes := #[22, 22] }, type := 22, pos := "split.go:24", after := #[{ on := 1, ground := Go.Ground.data }, { on := 4, ground := Go.Ground.data }, { on := 3, ground := Go.Ground.chain }], guard := none }) rfl (fun K hK => ?_) ?_
          · rw [if_pos (by rfl)]
            refine wp_append_at _ _ 22 rfl (D + 1 + 1) 3 i0 (.int .i64 0) 1 8 Tryd.underlying22 hi hz0 hz1 hz2 rfl (by decide) V0 k _ rfl (HOW.out.alloc _) ⟨wr.drew.heap.size, 0, none⟩ 1 1 [.int .i64 ((pc (g k) : Nat) : Int)] rfl rfl (cell_one_new _ _ _) (by intro u hu; simp at hu; subst hu; rfl) (by unfold maxLen; omega) (by omega) (by simp; have := HSZ.out; omega) ?_
            intro v' w1 hown' hgrow hat
            obtain ⟨gb, gc, rfl⟩ := owns_form hown' (by omega)
            obtain ⟨q1, q2, qb, hL1⟩ := HLKd.out.grown (i := 0) (by omega) rfl hown' (by rw [HV.out]; exact hgrow) (by rw [HV.out]; rcases hat with h | h; exact .inl h; exact .inr (h.trans (by simp)))
            rw [HV.out] at q1
            have HL1 : Hid _ := hL1
            clear hown' hgrow hat hL1
            refine hK.out _ _ (fun _ => ?_) ?_
            · exact q1
            clear HS
            have HS : Hid (w1.cell? ⟨D + 1, 0, none⟩ = some V0) := q1
            clear hK K
            try simp only [Act.put, List.setIfInBounds_toArray, List.set_cons_zero, List.set_cons_succ]
            refine lates_take (i := 6) (oi := { dst := some 36, op := Go.Op.fieldAddr 62 (Go.Operand.tmp 5) 0, type := 0, pos := "split.go:24", after := #[{ on := 0, ground := Go.Ground.phase }, { on := 1, ground := Go.Ground.phase }, { on := 2, ground := Go.Ground.phase }, { on := 3, ground := Go.Ground.phase }, { on := 4, ground := Go.Ground.phase }, { on := 5, ground := Go.Ground.phase }], guard := none }) (v := ?_) rfl (by kernel_rfl) (by kernel_rfl) (by kernel_rfl) ⟨rfl, by kernel_rfl⟩ (fun _ _ _ h => h) (Or.inl ⟨by rfl, ?hy⟩) HS.out ?_
            case hy => (intro w9 hSw; (try dsimp only at hSw); go_simp; try with_reducible rfl)
            try simp only [Act.put, List.setIfInBounds_toArray, List.set_cons_zero, List.set_cons_succ]
            refine lates_ready (rs := [7]) (by kernel_rfl) (by simp) ?_
            refine AllLate.cons (o := { dst := none, op := Go.Op.store 22 (Go.Operand.tmp 36) (Go.Operand.tmp 35), type := 0, pos := "split.go:24", after := #[{ on := 6, ground := Go.Ground.data }, { on := 5, ground := Go.Ground.data }, { on := 5, ground := Go.Ground.chain }, { on := 0, ground := Go.Ground.phase }, { on := 1, ground := Go.Ground.phase }, { on := 2, ground := Go.Ground.phase }, { on := 3, ground := Go.Ground.phase }, { on := 4, ground := Go.Ground.phase }, { on := 5, ground := Go.Ground.phase }], guard := none }) rfl (fun K hK => ?_) ?_
            · go_simp
              skip
              refine hK.out _ _ (fun h => by cases h) ?_
              clear hK K
              try simp only [Act.put, List.setIfInBounds_toArray, List.set_cons_zero, List.set_cons_succ]
              refine lates_done (by kernel_rfl) ?_ _
              try simp only [Act.put, List.setIfInBounds_toArray, List.set_cons_zero, List.set_cons_succ]
              clear HS q1 q2 qb k0 hbD HOW HSZ HLK HLKd
              generalize Value.slice (some ⟨gb, 0, none⟩) (k + 1) gc = v' at *
              generalize w1.setCell ⟨D + 1, 0, none⟩ v' = X1 at *
              have HLK : Hid (Lk (D + 1) W4 X1 (updV v 0 v') (upd (fun _ => k) 0 (k + 1)) (lkF g len)) := HL1.out
              clear HL1 HV
              obtain ⟨V1, HV⟩ : ∃ V, Hid (updV v 0 v' 1 = V) := ⟨_, rfl⟩
              have k1 : X1.cell? ⟨D + 1, 1, none⟩ = some V1 := by rw [← HV.out]; exact HLK.out.cell 1 (by omega)
              have hown : X1.ownsRow (D + 1 + 1) 3 1 V1 k (rowVals (lkF g len 1) k) := by rw [← HV.out]; exact HLK.out.own 1 (by omega)
              have HSZ : Hid (D + 1 + 1 ≤ X1.heap.size) := HLK.out.size
              have hF1 : lkF g len 1 k = g k ||| trn g len k := rfl
              go_wp2_with (at_builtin; refine wpList_append_own_at _ rfl _ _ 22 rfl (D + 1 + 1) 3 i0 (.int .i64 0) 1 8 Tryd.underlying22 hi hz0 hz1 hz2 rfl (by decide) _ _ _ rfl (hown.alloc _) ⟨X1.heap.size, 0, none⟩ 1 1 [.int .i64 ((g k ||| trn g len k : Nat) : Int)] rfl rfl (cell_one_new _ _ _) ?c2 ?c3 ?c4 ?c5 ?_)
              case c2 => intro u hu; simp at hu; subst hu; rfl
              case c3 => unfold maxLen; omega
              case c4 => omega
              case c5 => simp; have := HSZ.out; omega
              intro v2 w2 hown' hgrow _ hat
              obtain ⟨gb2, gc2, rfl⟩ := owns_form hown' (by omega)
              obtain ⟨q1, q2, _, hL1⟩ := HLK.out.grown (i := 1) (by omega) hF1 hown' (by rw [HV.out]; exact hgrow) (by rw [HV.out]; rcases hat with h | h; exact .inl h; exact .inr (h.trans (by simp)))
              have HL1 : Hid (Lk (D + 1) W4 (w2.setCell ⟨D + 1, 1, none⟩ (.slice (some ⟨gb2, 0, none⟩) (k + 1) gc2)) (updV (updV v 0 v') 1 (.slice (some ⟨gb2, 0, none⟩) (k + 1) gc2)) (upd (upd (fun _ => k) 0 (k + 1)) 1 (k + 1)) (lkF g len)) := hL1
              rw [HV.out] at q1
              clear hown' hgrow hat hL1 hown k1 HSZ HLK hF1
              go_wp2_with fail
              clear q1 q2
              generalize Value.slice (some ⟨gb2, 0, none⟩) (k + 1) gc2 = v2 at *
              generalize w2.setCell ⟨D + 1, 1, none⟩ v2 = X2 at *
              clear HV
              have HLK := HL1
              clear HL1
              obtain ⟨V2, HV⟩ : ∃ V, Hid (updV (updV v 0 v') 1 v2 2 = V) := ⟨_, rfl⟩
              have k2 : X2.cell? ⟨D + 1, 2, none⟩ = some V2 := by rw [← HV.out]; exact HLK.out.cell 2 (by omega)
              have z0 : X2.cell? ⟨w.heap.size, 0, none⟩ = some (.int .i64 (len : Int)) := (HK4.out.step (by rw [HS4.out]; exact HLK.out.below)).c0
              have HSZ : Hid (D + 1 + 1 ≤ X2.heap.size) := HLK.out.size
              have hbD : D + 1 < X2.heap.size := HSZ.out
              have hbN : w.heap.size < X2.heap.size := by have := HBL.out; omega
              have HOW : Hid (X2.drew.ownsRow (D + 1 + 1) 3 1 V2 k (rowVals (lkF g len 2) k)) := by rw [← HV.out]; exact HLK.out.own 2 (by omega)
              have hpp := pw_pos len
              have hal : ((pw len - 1 : Nat) : Int) = ((pw len : Nat) : Int) - 1 := by omega
              have hkn : kno g len k < pw len := Nat.or_lt_two_pow (HSM.out k hlt) htr
              have hkE : g k ||| trn g len k = kno g len k := rfl
              rw [hkE]
              have han : bits .andNot .i64 (((pw len : Nat) : Int) - 1) ((kno g len k : Nat) : Int) = ((lack (pw len - 1) (kno g len k) : Nat) : Int) := by rw [← hal]; exact i64_andNot (pw len - 1) (kno g len k) (by omega) (by omega)
              clear hor hkE
              have HLKd : Hid (Lk (D + 1) W4 X2.drew (updV (updV v 0 v') 1 v2) (upd (upd (fun _ => k) 0 (k + 1)) 1 (k + 1)) (lkF g len)) := HLK.out.step ((Below.refl _ _).drew)
              go_wp2_with fail
              refine wp_lates (S := (fun w' => w'.cell? ⟨D + 1, 2, none⟩ = some V2 ∧ w'.cell? ⟨w.heap.size, 0, none⟩ = some (.int .i64 (len : Int)))) (late := (fun i => i == 12)) (by kernel_rfl) ?_
              have HS : Hid (X2.drew.cell? ⟨D + 1, 2, none⟩ = some V2 ∧ X2.drew.cell? ⟨w.heap.size, 0, none⟩ = some (.int .i64 (len : Int))) := ⟨k2, z0⟩
              refine lates_take (i := 0) (oi := { dst := some 45, op := Go.Op.fieldAddr 62 (Go.Operand.tmp 5) 1, type := 0, pos := "split.go:26", after := #[], guard := none }) (v := ?_) rfl (by kernel_rfl) (by kernel_rfl) (by kernel_rfl) ⟨rfl, by kernel_rfl⟩ (fun _ _ _ h => h) (Or.inl ⟨by rfl, ?hy⟩) HS.out ?_
              case hy => (intro w9 hSw; (try dsimp only at hSw); obtain ⟨e0, e1⟩ := hSw; go_simp; try with_reducible rfl)
              try simp only [Act.put, List.setIfInBounds_toArray, List.set_cons_zero, List.set_cons_succ]
              refine lates_take (i := 1) (oi := { dst := some 46, op := Go.Op.indexAddr 60 (Go.Operand.tmp 45) (Go.Operand.const (Go.Value.int Go.IntKind.i64 1)), type := 0, pos := "split.go:26", after := #[{ on := 0, ground := Go.Ground.data }], guard := none }) (v := ?_) rfl (by kernel_rfl) (by kernel_rfl) (by kernel_rfl) ⟨rfl, by kernel_rfl⟩ (fun _ _ _ h => h) (Or.inl ⟨by rfl, ?hy⟩) HS.out ?_
              case hy => (intro w9 hSw; (try dsimp only at hSw); obtain ⟨e0, e1⟩ := hSw; go_simp; try with_reducible rfl)
              try simp only [Act.put, List.setIfInBounds_toArray, List.set_cons_zero, List.set_cons_succ]
              refine lates_take (i := 2) (oi := { dst := some 47, op := Go.Op.load 22 (Go.Operand.tmp 46), type := 22, pos := "split.go:26", after := #[{ on := 1, ground := Go.Ground.data }], guard := none }) (v := ?_) rfl (by kernel_rfl) (by kernel_rfl) (by kernel_rfl) ⟨rfl, by kernel_rfl⟩ (fun _ _ _ h => h) (Or.inl ⟨by rfl, ?hy⟩) HS.out ?_
              case hy => (intro w9 hSw; (try dsimp only at hSw); obtain ⟨e0, e1⟩ := hSw; go_simp; try with_reducible rfl)
              try simp only [Act.put, List.setIfInBounds_toArray, List.set_cons_zero, List.set_cons_succ]
              refine lates_take (i := 3) (oi := { dst := some 48, op := Go.Op.fieldAddr 24 (Go.Operand.tmp 1) 0, type := 0, pos := "split.go:26", after := #[], guard := none }) (v := ?_) rfl (by kernel_rfl) (by kernel_rfl) (by kernel_rfl) ⟨rfl, by kernel_rfl⟩ (fun _ _ _ h => h) (Or.inl ⟨by rfl, ?hy⟩) HS.out ?_
              case hy => (intro w9 hSw; (try dsimp only at hSw); obtain ⟨e0, e1⟩ := hSw; go_simp; try with_reducible rfl)
              try simp only [Act.put, List.setIfInBounds_toArray, List.set_cons_zero, List.set_cons_succ]
              refine lates_take (i := 4) (oi := { dst := some 49, op := Go.Op.load 3 (Go.Operand.tmp 48), type := 3, pos := "split.go:26", after := #[{ on := 3, ground := Go.Ground.data }], guard := none }) (v := ?_) rfl (by kernel_rfl) (by kernel_rfl) (by kernel_rfl) ⟨rfl, by kernel_rfl⟩ (fun _ _ _ h => h) (Or.inl ⟨by rfl, ?hy⟩) HS.out ?_
              case hy => (intro w9 hSw; (try dsimp only at hSw); obtain ⟨e0, e1⟩ := hSw; go_simp; try with_reducible rfl)
              try simp only [Act.put, List.setIfInBounds_toArray, List.set_cons_zero, List.set_cons_succ]
              refine lates_take (i := 6) (oi := { dst := some 51, op := Go.Op.move (Go.Operand.tmp 8), type := 3, pos := "split.go:26", after := #[], guard := none }) (v := ?_) rfl (by kernel_rfl) (by kernel_rfl) (by kernel_rfl) ⟨rfl, by kernel_rfl⟩ (fun _ _ _ h => h) (Or.inl ⟨by rfl, ?hy⟩) HS.out ?_
              case hy => (intro w9 hSw; (try dsimp only at hSw); obtain ⟨e0, e1⟩ := hSw; go_simp; try with_reducible rfl)
              try simp only [Act.put, List.setIfInBounds_toArray, List.set_cons_zero, List.set_cons_succ]
              refine lates_take2 (i := 10) (oi := { dst := some 55, op := Go.Op.fieldAddr 62 (Go.Operand.tmp 5) 1, type := 0, pos := "split.go:26", after := #[], guard := none }) (v := ?_) (m := 11) (om := { dst := some 56, op := Go.Op.indexAddr 60 (Go.Operand.tmp 55) (Go.Operand.const (Go.Value.int Go.IntKind.i64 1)), type := 0, pos := "split.go:26", after := #[{ on := 10, ground := Go.Ground.data }, { on := 0, ground := Go.Ground.phase }, { on := 1, ground := Go.Ground.phase }, { on := 2, ground := Go.Ground.phase }, { on := 3, ground := Go.Ground.phase }, { on := 4, ground := Go.Ground.phase }, { on := 5, ground := Go.Ground.phase }, { on := 6, ground := Go.Ground.phase }, { on := 7, ground := Go.Ground.phase }, { on := 8, ground := Go.Ground.phase }, { on := 9, ground := Go.Ground.phase }], guard := none }) rfl rfl (by kernel_rfl) (by kernel_rfl) (by kernel_rfl) (by kernel_rfl) (by kernel_rfl) (by kernel_rfl) (fun _ _ _ h => h) (Or.inl ⟨by rfl, ?hy⟩) HS.out ?_
              case hy => (intro w9 hSw; (try dsimp only at hSw); obtain ⟨e0, e1⟩ := hSw; go_simp; try with_reducible rfl)
              try simp only [Act.put, List.setIfInBounds_toArray, List.set_cons_zero, List.set_cons_succ]
              refine lates_ready (rs := [5]) (by kernel_rfl) (by simp) ?_
              refine AllLate.cons (o := { dst := some 50, op := Go.Op.call { callee := Go.Callee.value (Go.Operand.func 30), args := #[Go.Operand.tmp 49], argTypes := #[3] }, type := 3, pos := "split.go:26", after := #[{ on := 4, ground := Go.Ground.data }], guard := none }) rfl (fun K hK => ?_) ?_
              · go_simp
                refine (all_any len _ h10).mono ?_
                rintro e w' ⟨rfl, rfl⟩
                refine hK.out _ _ (fun _ => ?_) ?_
                · exact HS.out

                clear hK K
                try simp only [Act.put, List.setIfInBounds_toArray, List.set_cons_zero, List.set_cons_succ]
                refine lates_take (i := 7) (oi := { dst := some 52, op := Go.Op.binOp Go.BinOp.andNot 3 (Go.Operand.tmp 50) (Go.Operand.tmp 51) 3, type := 3, pos := "split.go:26", after := #[{ on := 5, ground := Go.Ground.data }, { on := 6, ground := Go.Ground.data }], guard := none }) (v := ?_) rfl (by kernel_rfl) (by kernel_rfl) (by kernel_rfl) ⟨rfl, by kernel_rfl⟩ (fun _ _ _ h => h) (Or.inl ⟨by rfl, ?hy⟩) HS.out ?_
                case hy => (intro w9 hSw; (try dsimp only at hSw); obtain ⟨e0, e1⟩ := hSw; go_simp; try with_reducible rfl)
                try simp only [Act.put, List.setIfInBounds_toArray, List.set_cons_zero, List.set_cons_succ]
                refine lates_ready (rs := [8]) (by kernel_rfl) (by simp) ?_
                refine AllLate.cons (o := { dst := some 53, op := Go.Op.buildSlice 22 1 #[(0, Go.Operand.tmp 52)], type := 22, pos := "split.go:26", after := #[{ on := 7, ground := Go.Ground.data }], guard := none }) rfl (fun K hK => ?_) ?_
                · go_simp
                  skip
                  refine hK.out _ _ (fun _ => ?_) ?_
                  · exact ⟨(World.cell?_alloc_old _ _ _ (Nat.ne_of_lt hbD)).trans HS.out.1, (World.cell?_alloc_old _ _ _ (Nat.ne_of_lt hbN)).trans HS.out.2⟩
                  have HS : Hid ((X2.drew.alloc (.cells #[.int .i64 ((lack (pw len - 1) (kno g len k) : Nat) : Int)] 3)).cell? ⟨D + 1, 2, none⟩ = some V2 ∧ (X2.drew.alloc (.cells #[.int .i64 ((lack (pw len - 1) (kno g len k) : Nat) : Int)] 3)).cell? ⟨w.heap.size, 0, none⟩ = some (.int .i64 (len : Int))) := ⟨(World.cell?_alloc_old _ _ _ (Nat.ne_of_lt hbD)).trans HS.out.1, (World.cell?_alloc_old _ _ _ (Nat.ne_of_lt hbN)).trans HS.out.2⟩
                  clear hK K
                  try simp only [Act.put, List.setIfInBounds_toArray, List.set_cons_zero, List.set_cons_succ]
                  refine lates_ready (rs := [9]) (by kernel_rfl) (by simp) ?_
                  refine AllLate.cons (o := { dst := some 54, op := Go.Op.call { callee := Go.Callee.builtin Go.Builtin.append, args := #[Go.Operand.tmp 47, Go.Operand.tmp 53], argTypes := #[22, 22] }, type := 22, pos := "split.go:26", after := #[{ on := 2, ground := Go.Ground.data }, { on := 8, ground := Go.Ground.data }, { on := 5, ground := Go.Ground.chain }], guard := none }) rfl (fun K hK => ?_) ?_
                  · rw [if_pos (by rfl)]
                    refine wp_append_at _ _ 22 rfl (D + 1 + 1) 3 i0 (.int .i64 0) 1 8 Tryd.underlying22 hi hz0 hz1 hz2 rfl (by decide) V2 k _ rfl (HOW.out.alloc _) ⟨X2.drew.heap.size, 0, none⟩ 1 1 [.int .i64 ((lack (pw len - 1) (kno g len k) : Nat) : Int)] rfl rfl (cell_one_new _ _ _) (by intro u hu; simp at hu; subst hu; rfl) (by unfold maxLen; omega) (by omega) (by simp; have := HSZ.out; omega) ?_
                    intro v'_1 w1 hown' hgrow hat
                    obtain ⟨gb, gc, rfl⟩ := owns_form hown' (by omega)
                    obtain ⟨q1, q2, qb, hL1⟩ := HLKd.out.grown (i := 2) (by omega) rfl hown' (by rw [HV.out]; exact hgrow) (by rw [HV.out]; rcases hat with h | h; exact .inl h; exact .inr (h.trans (by simp)))
                    rw [HV.out] at q1
                    have HL1 : Hid _ := hL1
                    clear hown' hgrow hat hL1
                    refine hK.out _ _ (fun _ => ?_) ?_
                    · exact ⟨q1, (HK4.out.step (by rw [HS4.out]; exact qb)).c0⟩
                    clear HS
                    have HS : Hid (w1.cell? ⟨D + 1, 2, none⟩ = some V2 ∧ w1.cell? ⟨w.heap.size, 0, none⟩ = some (.int .i64 (len : Int))) := ⟨q1, (HK4.out.step (by rw [HS4.out]; exact qb)).c0⟩
                    clear hK K
                    try simp only [Act.put, List.setIfInBounds_toArray, List.set_cons_zero, List.set_cons_succ]
                    refine lates_take (i := 11) (oi := { dst := some 56, op := Go.Op.indexAddr 60 (Go.Operand.tmp 55) (Go.Operand.const (Go.Value.int Go.IntKind.i64 1)), type := 0, pos := "split.go:26", after := #[{ on := 10, ground := Go.Ground.data }, { on := 0, ground := Go.Ground.phase }, { on := 1, ground := Go.Ground.phase }, { on := 2, ground := Go.Ground.phase }, { on := 3, ground := Go.Ground.phase }, { on := 4, ground := Go.Ground.phase }, { on := 5, ground := Go.Ground.phase }, { on := 6, ground := Go.Ground.phase }, { on := 7, ground := Go.Ground.phase }, { on := 8, ground := Go.Ground.phase }, { on := 9, ground := Go.Ground.phase }], guard := none }) (v := ?_) rfl (by kernel_rfl) (by kernel_rfl) (by kernel_rfl) ⟨rfl, by kernel_rfl⟩ (fun _ _ _ h => h) (Or.inl ⟨by rfl, ?hy⟩) HS.out ?_
                    case hy => (intro w9 hSw; (try dsimp only at hSw); obtain ⟨e0, e1⟩ := hSw; go_simp; try with_reducible rfl)
                    try simp only [Act.put, List.setIfInBounds_toArray, List.set_cons_zero, List.set_cons_succ]
                    refine lates_ready (rs := [12]) (by kernel_rfl) (by simp) ?_
                    refine AllLate.cons (o := { dst := none, op := Go.Op.store 22 (Go.Operand.tmp 56) (Go.Operand.tmp 54), type := 0, pos := "split.go:26", after := #[{ on := 11, ground := Go.Ground.data }, { on := 9, ground := Go.Ground.data }, { on := 9, ground := Go.Ground.chain }, { on := 0, ground := Go.Ground.phase }, { on := 1, ground := Go.Ground.phase }, { on := 2, ground := Go.Ground.phase }, { on := 3, ground := Go.Ground.phase }, { on := 4, ground := Go.Ground.phase }, { on := 5, ground := Go.Ground.phase }, { on := 6, ground := Go.Ground.phase }, { on := 7, ground := Go.Ground.phase }, { on := 8, ground := Go.Ground.phase }, { on := 9, ground := Go.Ground.phase }], guard := none }) rfl (fun K hK => ?_) ?_
                    · go_simp
                      skip
                      refine hK.out _ _ (fun h => by cases h) ?_
                      clear hK K
                      try simp only [Act.put, List.setIfInBounds_toArray, List.set_cons_zero, List.set_cons_succ]
                      refine lates_done (by kernel_rfl) ?_ _
                      try simp only [Act.put, List.setIfInBounds_toArray, List.set_cons_zero, List.set_cons_succ]
                      generalize Value.slice (some ⟨gb, 0, none⟩) (k + 1) gc = v'_1 at *
                      have HLF : Hid (Lk (D + 1) W4 (w1.setCell ⟨D + 1, 2, none⟩ v'_1) (updV (updV (updV v 0 v') 1 v2) 2 v'_1) (fun _ => k + 1) (lkF g len)) := HL1.out.congr (fun i hi => by
                        rcases (by omega : i = 0 ∨ i = 1 ∨ i = 2) with rfl | rfl | rfl <;> simp [upd])
                      go_wp2_with fail
                      go_roundw
                      case rel => exact ⟨k + 1, by omega, by go_num, _, HLF.out⟩
                      case measure => simp [intOf]; omega
                    exact AllLate.nil
                  exact AllLate.nil
                exact AllLate.nil
              exact AllLate.nil
            exact AllLate.nil
          exact AllLate.nil
        exact AllLate.nil
      exact AllLate.nil
    · obtain rfl : k = len := by omega
      obtain ⟨a0, c0, e0, r0⟩ := owns_row (HLK.out.own 0 (by omega))
      obtain ⟨a1, c1, e1, r1⟩ := owns_row (HLK.out.own 1 (by omega))
      obtain ⟨a2, c2, e2, r2⟩ := owns_row (HLK.out.own 2 (by omega))
      have k0 : wr.cell? ⟨D + 1, 0, none⟩ = some (.slice a0 k c0) := by rw [← e0]; exact HLK.out.cell 0 (by omega)
      have k1 : wr.cell? ⟨D + 1, 1, none⟩ = some (.slice a1 k c1) := by rw [← e1]; exact HLK.out.cell 1 (by omega)
      have k2 : wr.cell? ⟨D + 1, 2, none⟩ = some (.slice a2 k c2) := by rw [← e2]; exact HLK.out.cell 2 (by omega)
      have n0 := fresh_ne (B := w.heap.size + 1) e0 (owns_block (HLK.out.own 0 (by omega))) (by have := HBL.out; omega)
      have n1 := fresh_ne (B := w.heap.size + 1) e1 (owns_block (HLK.out.own 1 (by omega))) (by have := HBL.out; omega)
      have n2 := fresh_ne (B := w.heap.size + 1) e2 (owns_block (HLK.out.own 2 (by omega))) (by have := HBL.out; omega)
      have HBT : Hid (Below w.heap.size w wr) := Below.then HB1.out (Below.then (by rw [hD]; exact HB4.out) (by rw [HS4.out]; exact HLK.out.below))
      have HRT : Hid (∀ i, i < 3 → wr.cell? ⟨w.heap.size + 1, i, none⟩ = some (.slice none 0 0) ∧ wr.frozen? ⟨w.heap.size + 1, i, none⟩ = false) := fun i hi => by
        have hbl := HBL.out
        have h1 := HRC.out i hi
        have h2 : W4.cell? ⟨w.heap.size + 1, i, none⟩ = _ := (HB4.out.cell (p := ⟨w.heap.size + 1, i, none⟩) (by simp; omega)).trans h1.1
        have h3 : W4.frozen? ⟨w.heap.size + 1, i, none⟩ = _ := (HB4.out.frozen (p := ⟨w.heap.size + 1, i, none⟩) (by simp; omega)).trans h1.2
        exact ⟨(HLK.out.below.cell (p := ⟨w.heap.size + 1, i, none⟩) (by simp; omega)).trans h2, (HLK.out.below.frozen (p := ⟨w.heap.size + 1, i, none⟩) (by simp; omega)).trans h3⟩
      obtain ⟨z0, y0⟩ := HRT.out 0 (by omega)
      obtain ⟨z1, y1⟩ := HRT.out 1 (by omega)
      obtain ⟨z2, y2⟩ := HRT.out 2 (by omega)
      have HQ0 : Hid (Row (((wr.setCell ⟨w.heap.size + 1, 0, none⟩ (.slice a0 k c0)).setCell ⟨w.heap.size + 1, 1, none⟩ (.slice a1 k c1)).setCell ⟨w.heap.size + 1, 2, none⟩ (.slice a2 k c2)) a0 k (fun j => (lkF g k 0 j : Nat))) := ((r0.setOther n0).setOther n0).setOther n0
      have HQ1 : Hid (Row (((wr.setCell ⟨w.heap.size + 1, 0, none⟩ (.slice a0 k c0)).setCell ⟨w.heap.size + 1, 1, none⟩ (.slice a1 k c1)).setCell ⟨w.heap.size + 1, 2, none⟩ (.slice a2 k c2)) a1 k (fun j => (lkF g k 1 j : Nat))) := ((r1.setOther n1).setOther n1).setOther n1
      have HQ2 : Hid (Row (((wr.setCell ⟨w.heap.size + 1, 0, none⟩ (.slice a0 k c0)).setCell ⟨w.heap.size + 1, 1, none⟩ (.slice a1 k c1)).setCell ⟨w.heap.size + 1, 2, none⟩ (.slice a2 k c2)) a2 k (fun j => (lkF g k 2 j : Nat))) := ((r2.setOther n2).setOther n2).setOther n2
      have HBE : Hid (Below w.heap.size w (((wr.setCell ⟨w.heap.size + 1, 0, none⟩ (.slice a0 k c0)).setCell ⟨w.heap.size + 1, 1, none⟩ (.slice a1 k c1)).setCell ⟨w.heap.size + 1, 2, none⟩ (.slice a2 k c2))) :=
        Below.setCell (p := ⟨w.heap.size + 1, 2, none⟩) (Below.setCell (p := ⟨w.heap.size + 1, 1, none⟩) (Below.setCell (p := ⟨w.heap.size + 1, 0, none⟩) HBT.out (Nat.le_succ _) _) (Nat.le_succ _) _) (Nat.le_succ _) _
      clear r0 r1 r2 n0 n1 n2 e0 e1 e2 HBT HRT HRC HB1
      go_wp2_with fail
      refine bodyPost_ret (v := .agg #[.slice a0 k c0, .slice a1 k c1, .slice a2 k c2]) ?_ rfl ⟨⟨a0, a1, a2, c0, c1, c2, rfl, ?_, ?_, ?_⟩, ?_⟩
      · simp [results, Tryd.results28, go_sem, z0, z1, z2]
      · rw [hgf]; exact HQ0.out
      · rw [hgf]; exact HQ1.out
      · rw [hgf]; exact HQ2.out
      · exact HBE.out
end Go.Proofs.YtglkjeidkjkdaaaDoor
