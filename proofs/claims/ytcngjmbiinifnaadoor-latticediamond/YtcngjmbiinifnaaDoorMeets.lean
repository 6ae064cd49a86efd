/-
  What lattice.meets answers: the table of meets; or none. Conditions: the library's table lies in its variable; an order of one to ten points.
-/
import Derived.Deep.RegionHeld3
import Derived.Test.YtcngjmbiinifnaaDoorMeetM
namespace Go.Proofs.YtcngjmbiinifnaaDoor
open Go.RowKit

/-- Each two points have a meet. -/
def AllMt (g : Nat → Nat) (n : Nat) : Prop := ∀ x y, x < n → y < n → ∃ p, Mt g x y p
/-- The table of meets lies there; or two points have none. -/
def MtIs (B : Nat) (g : Nat → Nat) (n : Nat) (w' : World) (v : Value) (ok : Bool) : Prop :=
  (ok = true ∧ AllMt g n ∧ ∃ b cap R, v = .slice (some ⟨b, 0, none⟩) n cap ∧ (B ≤ b ∧ ∀ k, k < n → B ≤ (R k).1) ∧ Tb w' b 0 n R (mF g)) ∨
  (ok = false ∧ v = .slice none 0 0 ∧ ¬ AllMt g n)

set_option maxHeartbeats 4000000 in
theorem meets_any (n : Nat) (a : Option Addr) (cap : Nat) (g : Nat → Nat) (w : World) (h1 : 1 ≤ n) (h10 : n ≤ 10) (hg : Sm n n g) (ho : Ord n g) (hr : Row w a n (fun k => (g k : Nat))) (hT : Tab w) :
    Calls Tryd.prog 38 #[.agg #[.int .i64 n, .slice a n cap]] w fun e w' => (∃ v ok, e = .returned (.tuple #[v, .bool ok]) ∧ MtIs w.heap.size g n w' v ok) ∧ Below w.heap.size w w' := by
  obtain ⟨i0, hi, hz0, hz1, hz2⟩ := info_parts Tryd.info3
  obtain ⟨j0, hj, hy0, hy1, hy2⟩ := info_parts Tryd.infoLI
  have HSM : Hid (Sm n n g) := hg
  have HO : Hid (Ord n g) := ho
  have HG : Hid (∀ k, k < n → g k < 1024) := fun k hk => Nat.lt_of_lt_of_le (hg k hk) (pw_le n h10)
  have K0 : Held (w.alloc (.cells #[.int .i64 (n : Int), .slice a n cap] 40)) w.heap.size n a n cap (fun k => (g k : Nat)) := Held.box hr
  have HB0 : Hid (Below w.heap.size w (w.alloc (.cells #[.int .i64 (n : Int), .slice a n cap] 40))) := (Below.refl _ _).alloc (Nat.le_refl _) _
  have HT0 : Hid (Tab (w.alloc (.cells #[.int .i64 (n : Int), .slice a n cap] 40))) := hT.step HB0.out
  obtain ⟨ab, ao, rfl, _⟩ := hr 0 (by omega)
  clear hr hT hg ho
  have hsw : (w.alloc (.cells #[.int .i64 (n : Int), .slice (some ⟨ab, ao, none⟩) n cap] 40)).heap.size = w.heap.size + 1 := by simp
  go_enter Tryd.func38, Tryd.ntmps38
  go_wp2_with (at_make; refine wpList_make_full _ rfl _ _ 22 rfl (w.heap.size + 1) 25 j0 (.slice none 0 0) 1 Tryd.underlying22 hj hy0 hy1 .i64 .i64 _ _ n rfl rfl rfl rfl (by rw [hy2]; omega) (by unfold maxLen; omega) (by simp) ?_; intro w1 hown1 hgrow1; have hb1 : Below (w.heap.size + 1) (w.alloc (.cells #[.int .i64 (n : Int), .slice (some ⟨ab, ao, none⟩) n cap] 40)) w1 := (Below.refl _ _).grown hgrow1 (by simp) (by simp); have K1 := K0.step (hb1.mono (by rw [hsw]; exact Nat.le_refl _)); have y0 := K1.c0; have y1 := K1.c1)
  rw [hsw] at hown1
  have HO1 : Hid (OwnS w1 (w.heap.size + 1) n (fun _ => .slice none 0 0)) := owns_made hown1
  have HB1 : Hid (Below (w.heap.size + 1) (w.alloc (.cells #[.int .i64 (n : Int), .slice (some ⟨ab, ao, none⟩) n cap] 40)) w1) := hb1
  clear hown1 hgrow1 hb1 K1
  generalize w.alloc (.cells #[.int .i64 (n : Int), .slice (some ⟨ab, ao, none⟩) n cap] 40) = w0 at *
  have HKH : Hid (∀ wx, Below (w.heap.size + 1) w0 wx → Held wx w.heap.size n (some ⟨ab, ao, none⟩) n cap (fun k => (g k : Nat))) := fun wx h => K0.step (by rw [hsw]; exact h)
  have HKT : Hid (∀ wx, Below (w.heap.size + 1) w0 wx → Tab wx) := fun wx h => HT0.out.step (by rw [hsw]; exact h)
  have HFIN : Hid (∀ wx, Below (w.heap.size + 1) w0 wx → Below w.heap.size w wx) := fun wx h => HB0.out.trans (h.mono (by omega))
  clear K0 HT0 HB0 y0 y1
  try rw [hsw]
  clear hsw
  go_loopw [14] (fun i wx => ∃ x : Nat, x ≤ n ∧ i = .int .i64 x ∧ ∃ R : Nat → Nat × Nat, Hid (OwnS wx (w.heap.size + 1) n (rowF n x R (.slice none 0 0))) ∧ Hid (Done (w.heap.size + 1) wx.heap.size n x R (mF g) wx) ∧ Hid (Below (w.heap.size + 1) w0 wx) ∧ Hid (∀ x' y', x' < x → y' < n → ∃ p, Mt g x' y' p)) (fun i _ => n - (intOf i).toNat)
  case atStart => exact ⟨0, Nat.zero_le _, rfl, fun _ => (0, 0), HO1.out.congr (fun k _ => by unfold rowF; rw [if_neg (Nat.not_lt_zero _)]; split <;> rfl), fun k hk => absurd hk (Nat.not_lt_zero _), HB1.out, fun x' y' h => absurd h (Nat.not_lt_zero _)⟩
  case round =>
    clear HO1 HB1 w1
    obtain ⟨x, hx, rfl, R, HOS, HD, HB, HM⟩ := hrel
    have K1 := HKH.out _ HB.out
    have c0 := K1.c0
    have c1 := K1.c1
    by_cases hxn : x < n
    · have hsT : w.heap.size + 1 < wr.heap.size := World.block_lt_of_cell? _ _ (HOS.out x hxn).1
      have HWX : Hid (Below wr.heap.size wr wr) := Below.refl _ _
      obtain ⟨H, HH⟩ : ∃ H, Hid (H = wr.heap.size) := ⟨_, rfl⟩
      have hHT : w.heap.size + 1 < H := by rw [HH.out]; exact hsT
      have HD0 : Hid (Done (w.heap.size + 1) H n x R (mF g) wr) := by rw [HH.out]; exact HD.out
      have HHL : Hid (H ≤ wr.heap.size) := by rw [HH.out]; exact Nat.le_refl _
      clear HD HWX hsT HH
      go_wp2_with fail
      go_loopw [19] (fun i wx => ∃ y : Nat, y ≤ n ∧ i = .int .i64 y ∧ ∃ v, Hid (OwnS wx (w.heap.size + 1) n (rowF n x R v)) ∧ Hid (wx.ownsRow H 3 1 v y (rowVals (mF g x) y)) ∧ Hid (Done (w.heap.size + 1) H n x R (mF g) wx) ∧ Hid (Below (w.heap.size + 1) w0 wx) ∧ Hid (H ≤ wx.heap.size) ∧ Hid (∀ y', y' < y → ∃ p, Mt g x y' p)) (fun i _ => n - (intOf i).toNat)
      case atStart => exact ⟨0, Nat.zero_le _, rfl, .slice none 0 0, HOS.out, World.ownsRow_nil _ _ _ _, HD0.out, HB.out, HHL.out, fun y' h => absurd h (Nat.not_lt_zero _)⟩
      case round =>
        clear HOS HD0 HB HHL K1 c0 c1
        obtain ⟨y, hy, rfl, v, HOS, HOW, HD, HB, HHL, HMY⟩ := hrel
        have K1 := HKH.out _ HB.out
        have c0 := K1.c0
        have c1 := K1.c1
        by_cases hyn : y < n
        · have LR : Hid (∀ w', Below wr.heap.size wr w' → Row w' (some ⟨ab, ao, none⟩) n (fun k => ((g k : Nat) : Int))) := fun w' h => (K1.step h).row
          have HT : Hid (∀ w', Below wr.heap.size wr w' → Tab w') := fun w' h => (HKT.out _ HB.out).step h
          have l0 : ∀ w', Below wr.heap.size wr w' → w'.cell? ⟨w.heap.size, 0, none⟩ = some (.int .i64 (n : Int)) := fun w' h => (K1.step h).c0
          have l1 : ∀ w', Below wr.heap.size wr w' → w'.cell? ⟨w.heap.size, 1, none⟩ = some (.slice (some ⟨ab, ao, none⟩) n cap) := fun w' h => (K1.step h).c1
          have KK : Below wr.heap.size wr wr.drew := (Below.refl _ _).drew
          have HSL : Hid (up g x &&& up g y < pw n) := Nat.lt_of_le_of_lt Nat.and_le_left (up_pw HSM.out hxn)
          have hux : up g x < 1024 := up_lt (HG.out x hxn) (by omega)
          have huy : up g y < 1024 := up_lt (HG.out y hyn) (by omega)
          have hand := i64_and (up g x) (up g y) (small63 hux) (small63 huy)
          clear c0 c1 hux huy
          go_wp2_with fail
          refine wp_region_held_drew (S := (fun w' => Below wr.heap.size wr w')) (by kernel_rfl) (KK) (fun hHeld => ?_)
          refine wpAnyH_take (i := 0) (oi := { dst := some 23, op := Go.Op.load 40 (Go.Operand.tmp 1), type := 40, pos := "table.go:68", after := #[], guard := none }) (v := ?_) rfl (by kernel_rfl) (by kernel_rfl) (by kernel_rfl) (fun _ _ _ h => h) (Or.inl ⟨by rfl, ?hy⟩) (by assumption) ?_
          case hy => (intro w9 hSw; (try dsimp only at hSw); go_simp; try with_reducible rfl)
          try simp only [Act.put, List.setIfInBounds_toArray, List.set_cons_zero, List.set_cons_succ]
          refine wpAnyH_take (i := 1) (oi := { dst := some 24, op := Go.Op.load 40 (Go.Operand.tmp 1), type := 40, pos := "table.go:68", after := #[], guard := none }) (v := ?_) rfl (by kernel_rfl) (by kernel_rfl) (by kernel_rfl) (fun _ _ _ h => h) (Or.inl ⟨by rfl, ?hy⟩) (by assumption) ?_
          case hy => (intro w9 hSw; (try dsimp only at hSw); go_simp; try with_reducible rfl)
          try simp only [Act.put, List.setIfInBounds_toArray, List.set_cons_zero, List.set_cons_succ]
          refine wpAnyH_take (i := 2) (oi := { dst := some 25, op := Go.Op.move (Go.Operand.tmp 5), type := 3, pos := "table.go:68", after := #[], guard := none }) (v := ?_) rfl (by kernel_rfl) (by kernel_rfl) (by kernel_rfl) (fun _ _ _ h => h) (Or.inl ⟨by rfl, ?hy⟩) (by assumption) ?_
          case hy => (intro w9 hSw; (try dsimp only at hSw); go_simp; try with_reducible rfl)
          try simp only [Act.put, List.setIfInBounds_toArray, List.set_cons_zero, List.set_cons_succ]
          refine wpAnyH_take (i := 4) (oi := { dst := some 27, op := Go.Op.load 40 (Go.Operand.tmp 1), type := 40, pos := "table.go:68", after := #[], guard := none }) (v := ?_) rfl (by kernel_rfl) (by kernel_rfl) (by kernel_rfl) (fun _ _ _ h => h) (Or.inl ⟨by rfl, ?hy⟩) (by assumption) ?_
          case hy => (intro w9 hSw; (try dsimp only at hSw); go_simp; try with_reducible rfl)
          try simp only [Act.put, List.setIfInBounds_toArray, List.set_cons_zero, List.set_cons_succ]
          refine wpAnyH_take (i := 5) (oi := { dst := some 28, op := Go.Op.move (Go.Operand.tmp 6), type := 3, pos := "table.go:68", after := #[], guard := none }) (v := ?_) rfl (by kernel_rfl) (by kernel_rfl) (by kernel_rfl) (fun _ _ _ h => h) (Or.inl ⟨by rfl, ?hy⟩) (by assumption) ?_
          case hy => (intro w9 hSw; (try dsimp only at hSw); go_simp; try with_reducible rfl)
          try simp only [Act.put, List.setIfInBounds_toArray, List.set_cons_zero, List.set_cons_succ]
          refine wpAnyH_ready (rs := [3]) (by kernel_rfl) (by simp) ?_
          refine AllReadyH.cons (o := { dst := some 26, op := Go.Op.call { callee := Go.Callee.value (Go.Operand.func 54), args := #[Go.Operand.tmp 24, Go.Operand.tmp 25], argTypes := #[40, 3] }, type := 3, pos := "table.go:68", after := #[{ on := 1, ground := Go.Ground.data }, { on := 2, ground := Go.Ground.data }], guard := none }) rfl (fun K hK => ?_) AllReadyH.nil
          go_simp
          refine (upTo_any n (some ⟨ab, ao, none⟩) n cap g x _ h10 HG.out (LR.out _ (by assumption)) hxn).mono ?_
          rintro e w1 ⟨rfl, hb1⟩
          refine hK.out _ _ ?_ (fun hHeld => ?_)
          · first | assumption | exact Below.then (by assumption) (by assumption)
          clear hK K
          try simp only [Act.put, List.setIfInBounds_toArray, List.set_cons_zero, List.set_cons_succ]
          refine wpAnyH_ready (rs := [6]) (by kernel_rfl) (by simp) ?_
          refine AllReadyH.cons (o := { dst := some 29, op := Go.Op.call { callee := Go.Callee.value (Go.Operand.func 54), args := #[Go.Operand.tmp 27, Go.Operand.tmp 28], argTypes := #[40, 3] }, type := 3, pos := "table.go:68", after := #[{ on := 4, ground := Go.Ground.data }, { on := 5, ground := Go.Ground.data }, { on := 3, ground := Go.Ground.chain }], guard := none }) rfl (fun K hK => ?_) AllReadyH.nil
          go_simp
          refine (upTo_any n (some ⟨ab, ao, none⟩) n cap g y _ h10 HG.out (LR.out _ (by assumption)) hyn).mono ?_
          rintro e w2 ⟨rfl, hb2⟩
          refine hK.out _ _ ?_ (fun hHeld => ?_)
          · first | assumption | exact Below.then (by assumption) (by assumption)
          clear hK K
          try simp only [Act.put, List.setIfInBounds_toArray, List.set_cons_zero, List.set_cons_succ]
          refine wpAnyH_take (i := 7) (oi := { dst := some 30, op := Go.Op.binOp Go.BinOp.and 3 (Go.Operand.tmp 26) (Go.Operand.tmp 29) 3, type := 3, pos := "table.go:68", after := #[{ on := 3, ground := Go.Ground.data }, { on := 6, ground := Go.Ground.data }], guard := none }) (v := .int .i64 ((up g x &&& up g y : Nat) : Int)) rfl (by kernel_rfl) (by kernel_rfl) (by kernel_rfl) (fun _ _ _ h => h) (Or.inl ⟨by rfl, ?hy⟩) (by assumption) ?_
          case hy => (intro w9 hSw; (try dsimp only at hSw); go_simp <;> (first | with_reducible rfl | (simp; omega) | omega))
          try simp only [Act.put, List.setIfInBounds_toArray, List.set_cons_zero, List.set_cons_succ]
          refine wpAnyH_ready (rs := [8]) (by kernel_rfl) (by simp) ?_
          refine AllReadyH.cons (o := { dst := some 31, op := Go.Op.call { callee := Go.Callee.value (Go.Operand.func 53), args := #[Go.Operand.tmp 23, Go.Operand.tmp 30], argTypes := #[40, 3] }, type := 73, pos := "table.go:68", after := #[{ on := 0, ground := Go.Ground.data }, { on := 7, ground := Go.Ground.data }, { on := 6, ground := Go.Ground.chain }], guard := none }) rfl (fun K hK => ?_) AllReadyH.nil
          go_simp
          refine (highest_any n (some ⟨ab, ao, none⟩) n cap g _ _ h10 HG.out (LR.out _ (by assumption)) HSL.out (HT.out _ (by assumption))).mono ?_
          rintro e w3 ⟨⟨hv, hok, rfl, hhi⟩, hb3⟩
          refine hK.out _ _ ?_ (fun hHeld => ?_)
          · first | assumption | exact Below.then (by assumption) (by assumption)
          clear hK K
          try simp only [Act.put, List.setIfInBounds_toArray, List.set_cons_zero, List.set_cons_succ]
          refine wpAnyH_take (i := 9) (oi := { dst := some 22, op := Go.Op.move (Go.Operand.tmp 31), type := 73, pos := "table.go:68", after := #[{ on := 8, ground := Go.Ground.data }], guard := none }) (v := ?_) rfl (by kernel_rfl) (by kernel_rfl) (by kernel_rfl) (fun _ _ _ h => h) (Or.inl ⟨by rfl, ?hy⟩) (by assumption) ?_
          case hy => (intro w9 hSw; (try dsimp only at hSw); go_simp; try with_reducible rfl)
          try simp only [Act.put, List.setIfInBounds_toArray, List.set_cons_zero, List.set_cons_succ]
          refine wpAnyH_take (i := 10) (oi := { dst := some 32, op := Go.Op.extract (Go.Operand.tmp 22) 0, type := 3, pos := "table.go:68", after := #[{ on := 9, ground := Go.Ground.data }], guard := none }) (v := ?_) rfl (by kernel_rfl) (by kernel_rfl) (by kernel_rfl) (fun _ _ _ h => h) (Or.inl ⟨by rfl, ?hy⟩) (by assumption) ?_
          case hy => (intro w9 hSw; (try dsimp only at hSw); go_simp; try with_reducible rfl)
          try simp only [Act.put, List.setIfInBounds_toArray, List.set_cons_zero, List.set_cons_succ]
          refine wpAnyH_take (i := 11) (oi := { dst := some 33, op := Go.Op.extract (Go.Operand.tmp 22) 1, type := 4, pos := "table.go:68", after := #[{ on := 9, ground := Go.Ground.data }, { on := 12, ground := Go.Ground.gcOnly Go.Departure.lateStores }], guard := none }) (v := ?_) rfl (by kernel_rfl) (by kernel_rfl) (by kernel_rfl) (fun _ _ _ h => h) (Or.inl ⟨by rfl, ?hy⟩) (by assumption) ?_
          case hy => (intro w9 hSw; (try dsimp only at hSw); go_simp; try with_reducible rfl)
          try simp only [Act.put, List.setIfInBounds_toArray, List.set_cons_zero, List.set_cons_succ]
          refine wpAnyH_take (i := 12) (oi := { dst := some 7, op := Go.Op.assign (Go.Operand.tmp 32), type := 3, pos := "table.go:68", after := #[{ on := 10, ground := Go.Ground.data }, { on := 8, ground := Go.Ground.chain }, { on := 0, ground := Go.Ground.phase }, { on := 1, ground := Go.Ground.phase }, { on := 2, ground := Go.Ground.phase }, { on := 3, ground := Go.Ground.phase }, { on := 4, ground := Go.Ground.phase }, { on := 5, ground := Go.Ground.phase }, { on := 6, ground := Go.Ground.phase }, { on := 7, ground := Go.Ground.phase }, { on := 8, ground := Go.Ground.phase }, { on := 9, ground := Go.Ground.phase }, { on := 10, ground := Go.Ground.phase }, { on := 11, ground := Go.Ground.textOnly Go.Departure.lateStores }], guard := none }) (v := ?_) rfl (by kernel_rfl) (by kernel_rfl) (by kernel_rfl) (fun _ _ _ h => h) (Or.inl ⟨by rfl, ?hy⟩) (by assumption) ?_
          case hy => (intro w9 hSw; (try dsimp only at hSw); go_simp; try with_reducible rfl)
          try simp only [Act.put, List.setIfInBounds_toArray, List.set_cons_zero, List.set_cons_succ]
          refine wpAnyH_take (i := 13) (oi := { dst := some 8, op := Go.Op.assign (Go.Operand.tmp 33), type := 4, pos := "table.go:68", after := #[{ on := 11, ground := Go.Ground.data }, { on := 12, ground := Go.Ground.chain }, { on := 0, ground := Go.Ground.phase }, { on := 1, ground := Go.Ground.phase }, { on := 2, ground := Go.Ground.phase }, { on := 3, ground := Go.Ground.phase }, { on := 4, ground := Go.Ground.phase }, { on := 5, ground := Go.Ground.phase }, { on := 6, ground := Go.Ground.phase }, { on := 7, ground := Go.Ground.phase }, { on := 8, ground := Go.Ground.phase }, { on := 9, ground := Go.Ground.phase }, { on := 10, ground := Go.Ground.phase }, { on := 11, ground := Go.Ground.phase }, { on := 12, ground := Go.Ground.phase }], guard := none }) (v := ?_) rfl (by kernel_rfl) (by kernel_rfl) (by kernel_rfl) (fun _ _ _ h => h) (Or.inl ⟨by rfl, ?hy⟩) (by assumption) ?_
          case hy => (intro w9 hSw; (try dsimp only at hSw); go_simp; try with_reducible rfl)
          try simp only [Act.put, List.setIfInBounds_toArray, List.set_cons_zero, List.set_cons_succ]
          refine wpAnyH_done (by kernel_rfl) ?_ _
          try simp only [Act.put, List.setIfInBounds_toArray, List.set_cons_zero, List.set_cons_succ]
          have hb8 : Below wr.heap.size wr w3 := by first | assumption | exact hHeld
          have HB8 : Hid (Below (w.heap.size + 1) w0 w3) := HB.out.trans (hb8.mono (by have := HHL.out; omega))
          have HOS8 : Hid (OwnS w3 (w.heap.size + 1) n (rowF n x R v)) := HOS.out.keep hb8 (by have := HHL.out; omega)
          have HOW8 : Hid (w3.ownsRow H 3 1 v y (rowVals (mF g x) y)) := owns_below HOW.out hb8
          have HD8 : Hid (Done (w.heap.size + 1) H n x R (mF g) w3) := HD.out.keep hb8 HHL.out
          have HHL8 : Hid (H ≤ w3.heap.size) := Nat.le_trans HHL.out hb8.size
          clear hb8 HB HOS HOW HD HHL K1 l0 l1 KK hand
          rcases hhi with ⟨rfl, hhi⟩ | ⟨rfl, rfl, hhi⟩
          · obtain rfl : mF g x y = hv := mF_eq h10 HSM.out HO.out hxn hhi
            have HMY2 : Hid (∀ y', y' < y + 1 → ∃ p, Mt g x y' p) := fun y' h => by
              by_cases e : y' = y
              · subst e; exact ⟨_, hhi⟩
              · exact HMY.out y' (by omega)
            have cx := (HOS8.out x hxn).1
            have ex : rowF n x R v x = v := by unfold rowF; rw [if_neg (Nat.lt_irrefl _), if_pos rfl]
            rw [ex] at cx
            have hx' : (x : Int) < (n : Int) := by omega
            have hown3 := HOW8.out
            have hsz3 := HHL8.out
            clear hhi HMY ex
            go_wp2_with (at_builtin; refine wpList_append_own _ rfl _ _ 25 rfl H 3 i0 (.int .i64 0) 1 8 Tryd.underlying25 hi hz0 hz1 hz2 rfl (by decide) _ _ _ rfl (hown3.alloc _) ⟨w3.heap.size, 0, none⟩ 1 1 [.int .i64 (mF g x y : Nat)] rfl rfl ?c1 ?c2 ?c3 ?c4 ?c5 ?_)
            case c1 =>
              intro j u hj
              match j, hj with
              | 0, hj => simp at hj; subst hj; simp [Addr.add]
            case c2 => intro u hu; simp at hu; subst hu; rfl
            case c3 => unfold maxLen; omega
            case c4 => omega
            case c5 => simp; omega
            intro v' w5 hown' hgrow _
            obtain ⟨b5, cp5, hv5⟩ := owns_form hown' (by omega)
            subst hv5
            have hbH : Below H (w3.alloc (.cells #[.int .i64 (mF g x y : Nat)] 3)) w5 := (Below.refl _ _).grown hgrow (by simp; omega) (owns_block hown3)
            have hbA : Below w3.heap.size w3 (w3.alloc (.cells #[.int .i64 (mF g x y : Nat)] 3)) := (Below.refl _ _).alloc (Nat.le_refl _) _
            have hbB : Below H w3 w5 := (hbA.mono hsz3).trans hbH
            have hos5 : OwnS w5 (w.heap.size + 1) n (rowF n x R v) := HOS8.out.keep hbB (by omega)
            have c5 := (hos5 x hxn).1
            have f5 := (hos5 x hxn).2
            have HOS9 : Hid (OwnS (w5.setCell ⟨w.heap.size + 1, x, none⟩ (.slice (some ⟨b5, 0, none⟩) (y + 1) cp5)) (w.heap.size + 1) n (rowF n x R (.slice (some ⟨b5, 0, none⟩) (y + 1) cp5))) := (hos5.set x (.slice (some ⟨b5, 0, none⟩) (y + 1) cp5)).congr (fun k _ => by
              unfold rowF
              by_cases e : k = x
              · subst e; rw [if_pos rfl, if_neg (Nat.lt_irrefl _), if_pos rfl]
              · rw [if_neg e]; split <;> simp)
            have HOW9 : Hid ((w5.setCell ⟨w.heap.size + 1, x, none⟩ (.slice (some ⟨b5, 0, none⟩) (y + 1) cp5)).ownsRow H 3 1 (.slice (some ⟨b5, 0, none⟩) (y + 1) cp5) (y + 1) (rowVals (mF g x) (y + 1))) := by
              rw [rowVals_succ]; exact ownsRow_setCell_below hown' (a := ⟨w.heap.size + 1, x, none⟩) (by simp; omega) _
            have HD9 : Hid (Done (w.heap.size + 1) H n x R (mF g) (w5.setCell ⟨w.heap.size + 1, x, none⟩ (.slice (some ⟨b5, 0, none⟩) (y + 1) cp5))) := (HD8.out.keep hbB (Nat.le_refl _)).set x (.slice (some ⟨b5, 0, none⟩) (y + 1) cp5)
            have HB9 : Hid (Below (w.heap.size + 1) w0 (w5.setCell ⟨w.heap.size + 1, x, none⟩ (.slice (some ⟨b5, 0, none⟩) (y + 1) cp5))) := (HB8.out.trans (hbB.mono (by omega))).setCell (p := ⟨w.heap.size + 1, x, none⟩) (Nat.le_refl _) _
            have HHL9 : Hid (H ≤ (w5.setCell ⟨w.heap.size + 1, x, none⟩ (.slice (some ⟨b5, 0, none⟩) (y + 1) cp5)).heap.size) := by
              have h1 := hbB.size
              have h2 : (w5.setCell ⟨w.heap.size + 1, x, none⟩ (.slice (some ⟨b5, 0, none⟩) (y + 1) cp5)).heap.size = w5.heap.size := by simp
              rw [Hid, h2]; omega
            clear hown' hgrow hbH hbA hbB hos5 hown3 HOS8 HOW8 HD8 HB8 HHL8 cx
            go_wp2_with fail
            go_roundw
            case rel => exact ⟨y + 1, by omega, by go_num, _, HOS9.out, HOW9.out, HD9.out, HB9.out, HHL9.out, HMY2.out⟩
            case measure => simp [intOf]; omega
          · have HE : Hid (MtIs w.heap.size g n w3 (.slice none 0 0) false) := .inr ⟨rfl, rfl, fun h => by obtain ⟨p, hp⟩ := h x y hxn hyn; exact hhi p hp⟩
            clear hhi
            go_wp2_with fail
            go_ret2
            exact ⟨⟨_, _, rfl, HE.out⟩, HFIN.out _ HB8.out⟩
        · obtain rfl : y = n := by omega
          obtain ⟨b, cp, rfl⟩ := owns_form HOW.out (by omega)
          have hHb : H ≤ b := owns_block HOW.out b rfl
          have hcells : ∀ j, j < y → wr.cell? ⟨b, j, none⟩ = some (.int .i64 (mF g x j : Nat)) := fun j hj => by
            rw [HOW.out.cellAt j (by omega), rowVals_at _ _ _ hj]
          have hbs : b < wr.heap.size := World.block_lt_of_cell? _ _ (hcells 0 (by omega))
          have HOS2 : Hid (OwnS wr (w.heap.size + 1) y (rowF y (x + 1) (fun k => if k = x then (b, cp) else R k) (.slice none 0 0))) := HOS.out.congr (fun k _ => by
            unfold rowF
            by_cases e : k = x
            · subst e; rw [if_neg (Nat.lt_irrefl _), if_pos rfl, if_pos (Nat.lt_succ_self _)]; simp
            · by_cases q : k < x
              · rw [if_pos q, if_pos (by omega)]; simp [e]
              · rw [if_neg q, if_neg e, if_neg (by omega)]; split <;> rfl)
          have HD2 : Hid (Done (w.heap.size + 1) wr.heap.size y (x + 1) (fun k => if k = x then (b, cp) else R k) (mF g) wr) := fun k hk => by
            by_cases e : k = x
            · subst e; simp only [if_true]; exact ⟨⟨by omega, hbs⟩, hcells⟩
            · have := HD.out k (by omega)
              simp only [e, if_false]
              exact ⟨⟨this.1.1, Nat.lt_of_lt_of_le this.1.2 HHL.out⟩, this.2⟩
          have HM2 : Hid (∀ x' y', x' < x + 1 → y' < y → ∃ p, Mt g x' y' p) := fun x' y' h h' => by
            by_cases e : x' = x
            · subst e; exact HMY.out y' h'
            · exact HM.out x' y' (by omega) h'
          clear HOS HD HOW hcells HMY HM
          go_wp2_with fail
          go_roundw
          case rel => exact ⟨x + 1, by omega, by go_num, _, HOS2.out, HD2.out, HB.out, HM2.out⟩
          case measure => simp [intOf]; omega
    · obtain rfl : x = n := by omega
      have HE : Hid (MtIs w.heap.size g x wr (.slice (some ⟨w.heap.size + 1, 0, none⟩) x x) true) := .inl ⟨rfl, fun x' y' h h' => HM.out x' y' h h', _, _, fun k => ((R k).1, 0, (R k).2), rfl, ⟨by omega, fun k hk => by have := (HD.out k hk).1.1; show w.heap.size ≤ (R k).1; omega⟩, fun k hk => ⟨by
          have := (HOS.out k hk).1
          unfold rowF at this
          rw [if_pos hk] at this
          rw [Nat.zero_add]; exact this, fun j hj => by
          have := (HD.out k hk).2 j hj
          simp only [Nat.zero_add]; exact this⟩⟩
      clear HOS HD HM
      go_wp2_with fail
      go_ret2
      exact ⟨⟨_, _, rfl, HE.out⟩, HFIN.out _ HB.out⟩
end Go.Proofs.YtcngjmbiinifnaaDoor
