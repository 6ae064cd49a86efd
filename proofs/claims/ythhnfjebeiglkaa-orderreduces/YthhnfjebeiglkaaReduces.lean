/-
  For every order and every number that are handed in, hasselaw.OrderReduces returns true, and writes nothing that was there. Conditions: a slice that reads as a slice of numbers; a number of 64 bits.
-/
import Derived.Test.YthhnfjebeiglkaaAppend
import Derived.Test.YthhnfjebeiglkaaDual
import Derived.Test.YthhnfjebeiglkaaChoose
import Derived.Deep.RegionHeld3
namespace Go.Proofs.Ythhnfjebeiglkaa
open Go.RowKit

theorem rows_same {n : Nat} {f : Nat → Int} {g : Nat → Nat} (h : ∀ b, b < n → g b = nat f b) (hf : ∀ b, b < n → 0 ≤ f b) : SameOrders (n : Int) (n : Int) n n (fun k => (g k : Nat)) f :=
  ⟨rfl, rfl, fun k hk => by simp only; rw [h k hk]; unfold nat; have := hf k hk; omega⟩

theorem Box.over {X : World} {B : Nat} {n : Int} {a : Option Addr} {len cap : Nat} {u0 u1 : Value} (h0 : X.cell? ⟨B, 0, none⟩ = some u0) (h1 : X.cell? ⟨B, 1, none⟩ = some u1) : Box ((X.setCell ⟨B, 0, none⟩ (.int .i64 n)).setCell ⟨B, 1, none⟩ (.slice a len cap)) B n a len cap :=
  ⟨by rw [World.cell?_setCell_other _ _ _ _ (fun e => by injection e with _ e2; cases e2)]; exact World.cell?_setCell_same _ _ _ h0,
   World.cell?_setCell_same _ _ _ (by rw [World.cell?_setCell_other _ _ _ _ (fun e => by injection e with _ e2; cases e2)]; exact h1)⟩

set_option maxHeartbeats 4000000 in
theorem orderReduces_any (n : Int) (a : Option Addr) (len cap : Nat) (f : Nat → Int) (K : Int) (w : World) (hl : len ≤ maxLen) (hK1 : -9223372036854775808 ≤ K) (hK2 : K ≤ 9223372036854775807) (hr : Row w a len f) :
    Calls Try.prog 3 #[.agg #[.int .i64 n, .slice a len cap], .int .i64 K] w fun e w' => e = .returned (.bool true) ∧ Below w.heap.size w w' := by
  have K0 : Held (w.alloc (.cells #[.int .i64 n, .slice a len cap] 24)) w.heap.size n a len cap f := Held.box hr
  have HB0 : Hid (Below w.heap.size w (w.alloc (.cells #[.int .i64 n, .slice a len cap] 24))) := (Below.refl _ _).alloc (Nat.le_refl _) _
  clear hr
  go_enter Try.func3, Try.ntmps3
  go_wp2_with fail
  refine (orderBegun_any _).mono ?_
  rintro e w1 ⟨rfl, hb⟩
  have K1 := K0.step hb
  have HB1 : Hid (Below w.heap.size w w1) := Below.then HB0.out hb
  clear hb K0 HB0
  have k0 := K1.c0
  have k1 := K1.c1
  go_wp2_with fail
  refine (covers_any n a len cap f _ hl K1.row).mono ?_
  rintro e w2 ⟨⟨c, v, hc, rfl, hv⟩, hb⟩
  have K2 := K1.step hb
  have HB2 : Hid (Below w.heap.size w w2) := Below.then HB1.out hb
  clear hb K1 HB1 k0 k1
  rcases hv with ⟨h0, rfl⟩ | ⟨rfl, al, capl, rfl, hcap, hpr⟩
  · have hne : (c != 0) = true := by simpa using h0
    clear hc K2
    go_wp2_with fail
    go_ret
    exact ⟨rfl, HB2.out⟩
  obtain ⟨rfl, h10, hrng, hord⟩ := hc.good
  have HSM : Hid (Sm len len (nat f)) := hrng.small
  have HOR : Hid (Ord len (nat f)) := hord
  have HNN : Hid (∀ b, b < len → 0 ≤ f b) := fun b hb => (hrng b hb).1
  have HND : Hid ((covs (nat f) len).Nodup) := all_nodup _ _ _
  have hlen : (covs (nat f) len).length ≤ 100 := Nat.le_trans (allPairs_len _ len h10 len) (by omega)
  have HALL : Hid (∀ b, b < len → reachOut (mk (pairAt (covs (nat f) len)) (covs (nat f) len).length) len len b = nat f b) := fun b hb => all_same h10 HSM.out HOR.out hb
  have HZ1 : Hid (∀ c, Mk (len : Int) (covs (nat f) len).length (pairAt (covs (nat f) len)) c → c = 0) := fun c h => sub_mk h10 HSM.out HOR.out (fun _ h => h) h
  have HSUB : Hid (∀ l' : List (Nat × Nat), (∀ q ∈ l', q ∈ covs (nat f) len) → ∀ c, Mk (len : Int) l'.length (pairAt l') c → c = 0) := fun l' hl' c h => sub_mk h10 HSM.out HOR.out hl' h
  have HNOT : Hid (∀ (l' : List (Nat × Nat)) (q : Nat × Nat), (∀ q ∈ l', q ∈ covs (nat f) len) → q ∈ covs (nat f) len → q ∉ l' → q.2 < len ∧ reachOut (mk (pairAt l') l'.length) len len q.2 ≠ nat f q.2) := fun l' q hl' hq hn => ⟨(mem_covs.1 hq).2.1, sub_not h10 HSM.out HOR.out hl' hq hn⟩
  clear hrng hord hc
  obtain ⟨l, HLE⟩ : ∃ l, Hid (l = covs (nat f) len) := ⟨_, rfl⟩
  rw [← HLE.out] at HND hlen HALL HZ1 hcap hpr
  rw [← HLE.out]
  have k0 := K2.c0
  have k1 := K2.c1
  go_wp2_with fail
  refine (make_any len al l.length capl (pairAt l) _ (by unfold maxLen; omega) hpr).mono ?_
  rintro e w3 ⟨hmade, hb⟩
  have K3 := K2.step hb
  have HPR3 : Hid (PRow w3 al l.length (pairAt l)) := hpr.below hb
  have HB3 : Hid (Below w.heap.size w w3) := Below.then HB2.out hb
  have hlo : w.heap.size < w3.heap.size := World.block_lt_of_cell? _ _ K3.c0
  clear hb K2 HB2 k0 k1 hpr
  rcases hmade with ⟨c, h0, hm, rfl⟩ | ⟨m, bx, _, hm, _, _, rfl, hown⟩
  · exact absurd (HZ1.out c hm) h0
  obtain rfl : m = len := by omega
  have HK3 : Hid (Held w3 w.heap.size m a m cap f) := K3
  have HRX : Hid (Row w3 (some ⟨bx, 0, none⟩) m (fun k => (reachOut (mk (pairAt l) l.length) m m k : Nat))) := hown.row
  obtain ⟨k0, k1, hrw⟩ := K3.step ((Below.refl _ _).alloc (Nat.le_refl _) (.cells #[.int .i64 (m : Int), .slice (some ⟨bx, 0, none⟩) m m] 24))
  have HRO : Hid (Row (w3.alloc (.cells #[.int .i64 (m : Int), .slice (some ⟨bx, 0, none⟩) m m] 24)) a m f) := hrw
  have HRX4 : Hid (Row (w3.alloc (.cells #[.int .i64 (m : Int), .slice (some ⟨bx, 0, none⟩) m m] 24)) (some ⟨bx, 0, none⟩) m (fun k => (reachOut (mk (pairAt l) l.length) m m k : Nat))) := hown.row.below ((Below.refl _ _).alloc (Nat.le_refl _) _)
  clear hown hrw K3
  go_wp2_with fail
  refine (sameOrder_any m m (some ⟨bx, 0, none⟩) a m m m cap _ f _ hl hl HRX4.out HRO.out).mono ?_
  rintro e w4 ⟨⟨b, rfl, hbb⟩, hb⟩
  obtain rfl : b = true := hbb.2 (rows_same HALL.out HNN.out)
  have HX4 : Hid (w4.cell? ⟨w3.heap.size, 0, none⟩ = some (.int .i64 (m : Int)) ∧ w4.cell? ⟨w3.heap.size, 1, none⟩ = some (.slice (some ⟨bx, 0, none⟩) m m)) := ⟨(hb.cell (p := ⟨w3.heap.size, 0, none⟩) (by simp)).trans (by simp), (hb.cell (p := ⟨w3.heap.size, 1, none⟩) (by simp)).trans (by simp)⟩
  have HF4 : Hid (w4.frozen? ⟨w3.heap.size, 0, none⟩ = false ∧ w4.frozen? ⟨w3.heap.size, 1, none⟩ = false) := ⟨(hb.frozen (p := ⟨w3.heap.size, 0, none⟩) (by simp)).trans (by simp [World.frozen?_alloc_at]), (hb.frozen (p := ⟨w3.heap.size, 1, none⟩) (by simp)).trans (by simp [World.frozen?_alloc_at])⟩
  have hb34 : Below w3.heap.size w3 w4 := Below.then ((Below.refl _ _).alloc (Nat.le_refl _) _) hb
  have HB34 : Hid (Below w3.heap.size w3 w4) := hb34
  have hs34 : w3.heap.size < w4.heap.size := Nat.lt_of_lt_of_le (by simp) hb.size
  clear hb hbb hb34 HRX HRO HRX4 k0 k1 HALL HZ1
  by_cases hl0 : l.length = 0
  · have HB4 : Hid (Below w.heap.size w w4) := Below.then HB3.out HB34.out
    go_wp2_with fail
    go_ret
    exact ⟨rfl, HB4.out⟩
  have hl1 : ¬ ((l.length : Nat) : Int) = 0 := by omega
  go_wp2_with (go_at_call 8; refine (choose_any K l.length _ (by omega) (by omega) hK1 hK2).mono ?_; rintro e w' ⟨⟨k, hkM, rfl⟩, rfl⟩)
  obtain ⟨bl, ol, rfl, _, _⟩ := HPR3.out 0 (by omega)
  have c0 := HK3.out.c0
  have HPR4 : Hid (PRow w4 (some ⟨bl, ol, none⟩) l.length (pairAt l)) := HPR3.out.below HB34.out
  have l1 : ∀ w' : World, Below w3.heap.size w3 w' → w'.cell? ⟨w.heap.size, 0, none⟩ = some (.int .i64 (m : Int)) := fun w' h => (h.cell (World.block_lt_of_cell? _ _ c0)).trans c0
  have KK : Below w3.heap.size w3 w4.drew := HB34.out.drew
  have hkc : k ≤ capl := by omega
  obtain ⟨i0, hi, hz0, hz1, hz2⟩ := info_parts Try.info35
  obtain ⟨q, HQE⟩ : ∃ q, Hid (q = k + 1) := ⟨_, rfl⟩
  have hwq : IntKind.i64.wrap ((k : Int) + 1) = (q : Int) := by rw [HQE.out, wrap_i64_small _ (by omega) (by omega)]; omega
  have hql : q ≤ l.length := by rw [HQE.out]; omega
  obtain ⟨oq, hoq, HPQ⟩ : ∃ oq : Nat, (if capl = q then some (⟨bl, ol, none⟩ : Addr) else some ⟨bl, ol + q * 2, none⟩) = some ⟨bl, oq, none⟩ ∧ Hid (∀ wx : World, PRow wx (some ⟨bl, ol, none⟩) l.length (pairAt l) → PRow wx (some ⟨bl, oq, none⟩) (l.drop q).length (pairAt (l.drop q))) := by
    by_cases hck : capl = q
    · exact ⟨ol, by rw [if_pos hck], fun wx _ j hj => absurd hj (by simp; omega)⟩
    · exact ⟨ol + q * 2, by rw [if_neg hck], fun wx h => prow_drop h⟩
  obtain ⟨l', HL'⟩ : ∃ l', Hid (l' = out l k) := ⟨_, rfl⟩
  have hl' : l'.length ≤ 1000 := by rw [HL'.out, out_len hkM]; omega
  have HOS : Hid (∀ q ∈ l', q ∈ covs (nat f) m) := fun q hq => by rw [HL'.out] at hq; rw [← HLE.out]; exact out_sub q hq
  have HDIFF : Hid (∃ y, y < m ∧ reachOut (mk (pairAt l') l'.length) m m y ≠ nat f y) := ⟨_, HNOT.out l' l[k] HOS.out (by rw [← HLE.out]; exact List.getElem_mem hkM) (by rw [HL'.out]; exact out_not HND.out hkM)⟩
  clear c0
  refine wp_region_held_drew (S := (fun w' => Below w3.heap.size w3 w')) (by kernel_rfl) (KK) (fun hHeld => ?_)
  refine wpAnyH_take (i := 0) (oi := { dst := some 41, op := Go.Op.fieldAddr 24 (Go.Operand.tmp 2) 0, type := 0, pos := "order.go:123", after := #[], guard := none }) (v := ?_) rfl (by kernel_rfl) (by kernel_rfl) (by kernel_rfl) (fun _ _ _ h => h) (Or.inl ⟨by rfl, ?hy⟩) (by assumption) ?_
  case hy => (intro w9 hSw; (try dsimp only at hSw); go_simp; try with_reducible rfl)
  try simp only [Act.put, List.setIfInBounds_toArray, List.set_cons_zero, List.set_cons_succ]
  refine wpAnyH_take (i := 1) (oi := { dst := some 42, op := Go.Op.load 3 (Go.Operand.tmp 41), type := 3, pos := "order.go:123", after := #[{ on := 0, ground := Go.Ground.data }], guard := none }) (v := ?_) rfl (by kernel_rfl) (by kernel_rfl) (by kernel_rfl) (fun _ _ _ h => h) (Or.inl ⟨by rfl, ?hy⟩) (by assumption) ?_
  case hy => (intro w9 hSw; (try dsimp only at hSw); go_simp; try with_reducible rfl)
  try simp only [Act.put, List.setIfInBounds_toArray, List.set_cons_zero, List.set_cons_succ]
  refine wpAnyH_take (i := 3) (oi := { dst := some 44, op := Go.Op.move (Go.Operand.tmp 5), type := 26, pos := "order.go:123", after := #[], guard := none }) (v := ?_) rfl (by kernel_rfl) (by kernel_rfl) (by kernel_rfl) (fun _ _ _ h => h) (Or.inl ⟨by rfl, ?hy⟩) (by assumption) ?_
  case hy => (intro w9 hSw; (try dsimp only at hSw); go_simp; try with_reducible rfl)
  try simp only [Act.put, List.setIfInBounds_toArray, List.set_cons_zero, List.set_cons_succ]
  refine wpAnyH_take (i := 4) (oi := { dst := some 45, op := Go.Op.move (Go.Operand.tmp 8), type := 3, pos := "order.go:123", after := #[], guard := none }) (v := ?_) rfl (by kernel_rfl) (by kernel_rfl) (by kernel_rfl) (fun _ _ _ h => h) (Or.inl ⟨by rfl, ?hy⟩) (by assumption) ?_
  case hy => (intro w9 hSw; (try dsimp only at hSw); go_simp; try with_reducible rfl)
  try simp only [Act.put, List.setIfInBounds_toArray, List.set_cons_zero, List.set_cons_succ]
  refine wpAnyH_take (i := 5) (oi := { dst := some 46, op := Go.Op.slice 26 (Go.Operand.tmp 44) none (some (Go.Operand.tmp 45)) none, type := 26, pos := "order.go:123", after := #[{ on := 3, ground := Go.Ground.data }, { on := 4, ground := Go.Ground.data }], guard := none }) (v := ?_) rfl (by kernel_rfl) (by kernel_rfl) (by kernel_rfl) (fun _ _ _ h => h) (Or.inl ⟨by rfl, ?hy⟩) (by assumption) ?_
  case hy => (intro w9 hSw; (try dsimp only at hSw); go_simp; try with_reducible rfl)
  try simp only [Act.put, List.setIfInBounds_toArray, List.set_cons_zero, List.set_cons_succ]
  refine wpAnyH_take (i := 7) (oi := { dst := some 48, op := Go.Op.move (Go.Operand.tmp 5), type := 26, pos := "order.go:123", after := #[], guard := none }) (v := ?_) rfl (by kernel_rfl) (by kernel_rfl) (by kernel_rfl) (fun _ _ _ h => h) (Or.inl ⟨by rfl, ?hy⟩) (by assumption) ?_
  case hy => (intro w9 hSw; (try dsimp only at hSw); go_simp; try with_reducible rfl)
  try simp only [Act.put, List.setIfInBounds_toArray, List.set_cons_zero, List.set_cons_succ]
  refine wpAnyH_take (i := 8) (oi := { dst := some 49, op := Go.Op.move (Go.Operand.tmp 8), type := 3, pos := "order.go:123", after := #[], guard := none }) (v := ?_) rfl (by kernel_rfl) (by kernel_rfl) (by kernel_rfl) (fun _ _ _ h => h) (Or.inl ⟨by rfl, ?hy⟩) (by assumption) ?_
  case hy => (intro w9 hSw; (try dsimp only at hSw); go_simp; try with_reducible rfl)
  try simp only [Act.put, List.setIfInBounds_toArray, List.set_cons_zero, List.set_cons_succ]
  refine wpAnyH_take (i := 9) (oi := { dst := some 50, op := Go.Op.binOp Go.BinOp.add 3 (Go.Operand.tmp 49) (Go.Operand.const (Go.Value.int Go.IntKind.i64 1)) 3, type := 3, pos := "order.go:123", after := #[{ on := 8, ground := Go.Ground.data }], guard := none }) (v := .int .i64 (q : Int)) rfl (by kernel_rfl) (by kernel_rfl) (by kernel_rfl) (fun _ _ _ h => h) (Or.inl ⟨by rfl, ?hy⟩) (by assumption) ?_
  case hy => (intro w9 hSw; (try dsimp only at hSw); go_simp <;> (first | with_reducible rfl | (simp; omega) | omega))
  try simp only [Act.put, List.setIfInBounds_toArray, List.set_cons_zero, List.set_cons_succ]
  refine wpAnyH_take (i := 10) (oi := { dst := some 51, op := Go.Op.slice 26 (Go.Operand.tmp 48) (some (Go.Operand.tmp 50)) none none, type := 26, pos := "order.go:123", after := #[{ on := 7, ground := Go.Ground.data }, { on := 9, ground := Go.Ground.data }], guard := none }) (v := .slice (some ⟨bl, oq, none⟩) (l.length - q) (capl - q)) rfl (by kernel_rfl) (by kernel_rfl) (by kernel_rfl) (fun _ _ _ h => h) (Or.inl ⟨by rfl, ?hy⟩) (by assumption) ?_
  case hy => (intro w9 hSw; (try dsimp only at hSw); go_simp <;> (first | with_reducible rfl | (simp; omega) | omega))
  try simp only [Act.put, List.setIfInBounds_toArray, List.set_cons_zero, List.set_cons_succ]
  refine wpAnyH_ready (rs := [2]) (by kernel_rfl) (by simp) ?_
  refine AllReadyH.cons (o := { dst := some 43, op := Go.Op.buildSlice 26 0 #[], type := 26, pos := "order.go:123", after := #[], guard := none }) rfl (fun K hK => ?_) AllReadyH.nil
  go_simp
  have HBE : Hid (Below w4.heap.size w4 (w4.alloc (.cells #[] 35)).drew) := ((Below.refl _ _).alloc (Nat.le_refl _) _).drew
  refine hK.out _ _ ?_ (fun hHeld => ?_)
  · exact Below.then HB34.out HBE.out
  clear hK K
  try simp only [Act.put, List.setIfInBounds_toArray, List.set_cons_zero, List.set_cons_succ]
  refine wpAnyH_ready (rs := [6]) (by kernel_rfl) (by simp) ?_
  refine AllReadyH.cons (o := { dst := some 47, op := Go.Op.call { callee := Go.Callee.builtin Go.Builtin.append, args := #[Go.Operand.tmp 43, Go.Operand.tmp 46], argTypes := #[26, 26] }, type := 26, pos := "order.go:123", after := #[{ on := 2, ground := Go.Ground.data }, { on := 5, ground := Go.Ground.data }], guard := none }) rfl (fun K hK => ?_) AllReadyH.nil
  rw [if_pos (by rfl)]
  refine wp_app _ w4 _ _ rfl _ [] (l.take k) rfl (.inl ⟨rfl, _, rfl⟩) HBE.out bl ol k _ rfl (by simp; omega) (prow_take (by omega) (HPR4.out.below HBE.out)) (by simp; omega) ?_
  intro v5 w5 happ5 hB5
  refine hK.out _ _ ?_ (fun hHeld => ?_)
  · exact Below.then HB34.out hB5
  clear hK K
  try simp only [Act.put, List.setIfInBounds_toArray, List.set_cons_zero, List.set_cons_succ]
  refine wpAnyH_ready (rs := [11]) (by kernel_rfl) (by simp) ?_
  refine AllReadyH.cons (o := { dst := some 52, op := Go.Op.call { callee := Go.Callee.builtin Go.Builtin.append, args := #[Go.Operand.tmp 47, Go.Operand.tmp 51], argTypes := #[26, 26] }, type := 26, pos := "order.go:123", after := #[{ on := 6, ground := Go.Ground.data }, { on := 10, ground := Go.Ground.data }, { on := 6, ground := Go.Ground.chain }], guard := none }) rfl (fun K hK => ?_) AllReadyH.nil
  rw [if_pos (by rfl)]
  refine wp_app _ w4 _ _ rfl _ ([] ++ l.take k) (l.drop q) rfl happ5 hB5 bl oq (l.length - q) _ rfl (by simp) (HPQ.out _ (HPR4.out.below hB5)) (by simp; omega) ?_
  intro v6 w6 happ6 hB6
  have HOUT : Hid (PSl w6 v6 l') := by
    have h := happ6.pairs
    rw [List.nil_append, HQE.out] at h
    rw [HL'.out]
    exact h
  obtain ⟨a6, cap6, rfl, hp6⟩ := HOUT.out
  clear happ5 happ6
  refine hK.out _ _ ?_ (fun hHeld => ?_)
  · exact Below.then HB34.out hB6
  clear hK K
  try simp only [Act.put, List.setIfInBounds_toArray, List.set_cons_zero, List.set_cons_succ]
  refine wpAnyH_ready (rs := [12]) (by kernel_rfl) (by simp) ?_
  refine AllReadyH.cons (o := { dst := some 53, op := Go.Op.call { callee := Go.Callee.value (Go.Operand.func 6), args := #[Go.Operand.tmp 42, Go.Operand.tmp 52], argTypes := #[3, 26] }, type := 30, pos := "order.go:123", after := #[{ on := 1, ground := Go.Ground.data }, { on := 11, ground := Go.Ground.data }, { on := 11, ground := Go.Ground.chain }], guard := none }) rfl (fun K hK => ?_) AllReadyH.nil
  go_simp
  refine (make_any m a6 l'.length cap6 (pairAt l') _ (by unfold maxLen; omega) hp6).mono ?_
  rintro e w7 ⟨hmade, hb7⟩
  have HB7 : Hid (Below w4.heap.size w4 w7) := Below.then hB6 hb7
  rcases hmade with ⟨c, h0, hm, rfl⟩ | ⟨m', by', _, hm, _, hge, rfl, hown7⟩
  · exact absurd (HSUB.out _ HOS.out c hm) h0
  obtain rfl : m' = m := by omega
  have HR7 : Hid (Row w7 (some ⟨by', 0, none⟩) m' (fun k => (reachOut (mk (pairAt l') l'.length) m' m' k : Nat))) := hown7.row
  have x0 := (HB7.out.cell (p := ⟨w3.heap.size, 0, none⟩) hs34).trans HX4.out.1
  have x1 := (HB7.out.cell (p := ⟨w3.heap.size, 1, none⟩) hs34).trans HX4.out.2
  have f0 := (HB7.out.frozen (p := ⟨w3.heap.size, 0, none⟩) hs34).trans HF4.out.1
  have f1 := (HB7.out.frozen (p := ⟨w3.heap.size, 1, none⟩) hs34).trans HF4.out.2
  have hgt : w3.heap.size < by' := Nat.lt_of_lt_of_le hs34 (Nat.le_trans hB6.size hge)
  clear hown7 hp6 hb7
  refine hK.out _ _ ?_ (fun hHeld => ?_)
  · exact Below.then HB34.out HB7.out
  clear hK K
  try simp only [Act.put, List.setIfInBounds_toArray, List.set_cons_zero, List.set_cons_succ]
  refine wpAnyH_take (i := 13) (oi := { dst := some 40, op := Go.Op.move (Go.Operand.tmp 53), type := 30, pos := "order.go:123", after := #[{ on := 12, ground := Go.Ground.data }], guard := none }) (v := ?_) rfl (by kernel_rfl) (by kernel_rfl) (by kernel_rfl) (fun _ _ _ h => h) (Or.inl ⟨by rfl, ?hy⟩) (by assumption) ?_
  case hy => (intro w9 hSw; (try dsimp only at hSw); go_simp; try with_reducible rfl)
  try simp only [Act.put, List.setIfInBounds_toArray, List.set_cons_zero, List.set_cons_succ]
  refine wpAnyH_take (i := 14) (oi := { dst := some 54, op := Go.Op.extract (Go.Operand.tmp 40) 0, type := 24, pos := "order.go:123", after := #[{ on := 13, ground := Go.Ground.data }], guard := none }) (v := ?_) rfl (by kernel_rfl) (by kernel_rfl) (by kernel_rfl) (fun _ _ _ h => h) (Or.inl ⟨by rfl, ?hy⟩) (by assumption) ?_
  case hy => (intro w9 hSw; (try dsimp only at hSw); go_simp; try with_reducible rfl)
  try simp only [Act.put, List.setIfInBounds_toArray, List.set_cons_zero, List.set_cons_succ]
  refine wpAnyH_take (i := 15) (oi := { dst := some 55, op := Go.Op.extract (Go.Operand.tmp 40) 1, type := 27, pos := "order.go:123", after := #[{ on := 13, ground := Go.Ground.data }, { on := 16, ground := Go.Ground.gcOnly Go.Departure.lateStores }], guard := none }) (v := ?_) rfl (by kernel_rfl) (by kernel_rfl) (by kernel_rfl) (fun _ _ _ h => h) (Or.inl ⟨by rfl, ?hy⟩) (by assumption) ?_
  case hy => (intro w9 hSw; (try dsimp only at hSw); go_simp; try with_reducible rfl)
  try simp only [Act.put, List.setIfInBounds_toArray, List.set_cons_zero, List.set_cons_succ]
  refine wpAnyH_ready (rs := [16]) (by kernel_rfl) (by simp) ?_
  refine AllReadyH.cons (o := { dst := none, op := Go.Op.store 24 (Go.Operand.tmp 7) (Go.Operand.tmp 54), type := 0, pos := "order.go:123", after := #[{ on := 14, ground := Go.Ground.data }, { on := 12, ground := Go.Ground.chain }, { on := 0, ground := Go.Ground.phase }, { on := 1, ground := Go.Ground.phase }, { on := 2, ground := Go.Ground.phase }, { on := 3, ground := Go.Ground.phase }, { on := 4, ground := Go.Ground.phase }, { on := 5, ground := Go.Ground.phase }, { on := 6, ground := Go.Ground.phase }, { on := 7, ground := Go.Ground.phase }, { on := 8, ground := Go.Ground.phase }, { on := 9, ground := Go.Ground.phase }, { on := 10, ground := Go.Ground.phase }, { on := 11, ground := Go.Ground.phase }, { on := 12, ground := Go.Ground.phase }, { on := 13, ground := Go.Ground.phase }, { on := 14, ground := Go.Ground.phase }, { on := 15, ground := Go.Ground.textOnly Go.Departure.lateStores }], guard := none }) rfl (fun K hK => ?_) AllReadyH.nil
  go_simp
  have HB8 : Hid (Below w3.heap.size w3 ((w7.setCell ⟨w3.heap.size, 0, none⟩ (.int .i64 (m' : Int))).setCell ⟨w3.heap.size, 1, none⟩ (.slice (some ⟨by', 0, none⟩) m' m'))) := set2B (Below.then HB34.out HB7.out) (Nat.le_refl _)
  have HX9 : Hid (Box ((w7.setCell ⟨w3.heap.size, 0, none⟩ (.int .i64 (m' : Int))).setCell ⟨w3.heap.size, 1, none⟩ (.slice (some ⟨by', 0, none⟩) m' m')) w3.heap.size (m' : Int) (some ⟨by', 0, none⟩) m' m') := Box.over x0 x1
  have HR9 : Hid (Row ((w7.setCell ⟨w3.heap.size, 0, none⟩ (.int .i64 (m' : Int))).setCell ⟨w3.heap.size, 1, none⟩ (.slice (some ⟨by', 0, none⟩) m' m')) (some ⟨by', 0, none⟩) m' (fun k => (reachOut (mk (pairAt l') l'.length) m' m' k : Nat))) := row_set2 HR7.out (fun _ => ⟨_, _, rfl, by omega⟩)
  clear x0 x1 f0 f1 HR7 HX4 HF4
  refine hK.out _ _ ?_ (fun hHeld => ?_)
  · exact HB8.out
  clear hK K
  try simp only [Act.put, List.setIfInBounds_toArray, List.set_cons_zero, List.set_cons_succ]
  refine wpAnyH_take (i := 17) (oi := { dst := some 6, op := Go.Op.assign (Go.Operand.tmp 55), type := 27, pos := "order.go:123", after := #[{ on := 15, ground := Go.Ground.data }, { on := 16, ground := Go.Ground.chain }, { on := 0, ground := Go.Ground.phase }, { on := 1, ground := Go.Ground.phase }, { on := 2, ground := Go.Ground.phase }, { on := 3, ground := Go.Ground.phase }, { on := 4, ground := Go.Ground.phase }, { on := 5, ground := Go.Ground.phase }, { on := 6, ground := Go.Ground.phase }, { on := 7, ground := Go.Ground.phase }, { on := 8, ground := Go.Ground.phase }, { on := 9, ground := Go.Ground.phase }, { on := 10, ground := Go.Ground.phase }, { on := 11, ground := Go.Ground.phase }, { on := 12, ground := Go.Ground.phase }, { on := 13, ground := Go.Ground.phase }, { on := 14, ground := Go.Ground.phase }, { on := 15, ground := Go.Ground.phase }, { on := 16, ground := Go.Ground.phase }], guard := none }) (v := ?_) rfl (by kernel_rfl) (by kernel_rfl) (by kernel_rfl) (fun _ _ _ h => h) (Or.inl ⟨by rfl, ?hy⟩) (by assumption) ?_
  case hy => (intro w9 hSw; (try dsimp only at hSw); go_simp; try with_reducible rfl)
  try simp only [Act.put, List.setIfInBounds_toArray, List.set_cons_zero, List.set_cons_succ]
  refine wpAnyH_done (by kernel_rfl) ?_ _
  try simp only [Act.put, List.setIfInBounds_toArray, List.set_cons_zero, List.set_cons_succ]
  obtain ⟨W9, HW9⟩ : ∃ W9, Hid (W9 = ((w7.setCell ⟨w3.heap.size, 0, none⟩ (.int .i64 (m' : Int))).setCell ⟨w3.heap.size, 1, none⟩ (.slice (some ⟨by', 0, none⟩) m' m'))) := ⟨_, rfl⟩
  rw [← HW9.out] at HB8 HX9 HR9 ⊢
  obtain ⟨p0, p1⟩ := HX9.out
  have HK9 := HK3.out.step HB8.out
  have q0 := HK9.c0
  have q1 := HK9.c1
  have HR0 : Hid (Row W9 a m' f) := HK9.row
  have HB9 : Hid (Below w.heap.size w W9) := Below.then HB3.out HB8.out
  clear HK9 l1
  go_wp2_with fail
  refine (sameOrder_any m' m' (some ⟨by', 0, none⟩) a m' m' m' cap _ f _ hl hl HR9.out HR0.out).mono ?_
  rintro e wA ⟨⟨b, rfl, hbb⟩, hb⟩
  obtain rfl : b = false := by
    cases b with
    | false => rfl
    | true =>
      obtain ⟨_, _, hs⟩ := hbb.1 rfl
      obtain ⟨y, hy, hne⟩ := HDIFF.out
      have h1 := hs y hy
      simp only at h1
      refine absurd ?_ hne
      unfold nat
      omega
  have HBA : Hid (Below w.heap.size w wA) := Below.then HB9.out hb
  clear hb hbb HB9 HR9 HR0 p0 p1 q0 q1
  go_wp2_with fail
  go_ret
  exact ⟨rfl, HBA.out⟩
end Go.Proofs.Ythhnfjebeiglkaa
