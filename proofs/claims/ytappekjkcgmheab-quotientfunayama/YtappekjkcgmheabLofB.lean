/-
  What the reference's LatticeOf answers: the tables of meets and joins; or none. Conditions: one to forty elements; the closure answers P, and writes nothing that lay there.
-/
import Derived.Test.YtappekjkcgmheabLofR
import Derived.Test.YtappekjkcgmheabLofC
import Derived.Test.YtappekjkcgmheabLofZ
namespace Go.Proofs.Ytappekjkcgmheab
open Go.RowKit

def mT (P : Nat → Nat → Bool) (n x y : Nat) : Nat := (mZ P n x y).toNat
def jT (P : Nat → Nat → Bool) (n x y : Nat) : Nat := (jZ P n x y).toNat
/-- What comes: none; or the two tables, in new blocks. -/
def LofIs (n B : Nat) (P : Nat → Nat → Bool) (e : Ending) (w' : World) : Prop :=
  ((∃ x y, x < n ∧ y < n ∧ (mZ P n x y < 0 ∨ jZ P n x y < 0)) ∧ e = .returned (.tuple #[noLat, .bool false])) ∨
  ((∀ x y, x < n → y < n → 0 ≤ mZ P n x y ∧ 0 ≤ jZ P n x y) ∧ ∃ T1 c1 T2 c2 R1 R2, e = .returned (.tuple #[.agg #[.int .i64 (n : Int), .slice (some ⟨T1, 0, none⟩) n c1, .slice (some ⟨T2, 0, none⟩) n c2], .bool true]) ∧ Tb w' T1 0 n R1 (mT P n) ∧ Tb w' T2 0 n R2 (jT P n) ∧ (B ≤ T1 ∧ B ≤ T2) ∧ ∀ k, k < n → B ≤ (R1 k).1 ∧ B ≤ (R2 k).1)
theorem Clo2.step {n F : Nat} {caps : Array Value} {P : Nat → Nat → Bool} {w w' : World} (h : Clo2 n F caps P w) (hb : Below w.heap.size w w') : Clo2 n F caps P w' := fun x y hx hy W hW => h x y hx hy W (Below.then hb hW)
theorem loB_succ (P : Nat → Nat → Bool) (x y z k : Nat) : loB P x y z (k + 1) = (loB P x y z k && (!P k x || (!P k y || P k z))) := rfl
theorem hgB_succ (P : Nat → Nat → Bool) (x y z k : Nat) : hgB P x y z (k + 1) = (hgB P x y z k && (!P x k || (!P y k || P z k))) := rfl
theorem tb_own {w : World} {T B H n b cp : Nat} {R : Nat → Nat × Nat} {m : Nat → Nat → Nat} (ho : w.ownsRow B 31 1 (.slice (some ⟨b, 0, none⟩) n cp) n (sv n R n)) (hd : Done T H n n R m w) : Tb w b 0 n (fun k => ((R k).1, 0, (R k).2)) m := fun x hx => by
  refine ⟨?_, fun y hy => ?_⟩
  · rw [Nat.zero_add, ho.cellAt x (by omega), sv_at _ _ _ _ hx]
  · rw [Nat.zero_add]; exact (hd x hx).2 y hy

set_option maxHeartbeats 8000000 in
set_option maxRecDepth 100000 in
theorem latticeOf_any (n F : Nat) (caps : Array Value) (P : Nat → Nat → Bool) (w : World) (h1 : 1 ≤ n) (h40 : n ≤ 40) (hF : Ent F) (hC : Clo2 n F caps P w) :
    Calls Try.prog 8 #[.int .i64 (n : Int), .func (.func F) #[] caps] w fun e w' => LofIs n w.heap.size P e w' ∧ Below w.heap.size w w' := by
  obtain ⟨i0, hi, hz0, hz1, hz2⟩ := info_parts Try.info3
  obtain ⟨W0, HW0⟩ : ∃ W0, Hid (W0 = w.alloc (.cells #[.int .i64 0, .slice none 0 0, .slice none 0 0] 24)) := ⟨_, rfl⟩
  obtain ⟨W1, HW1⟩ : ∃ W1, Hid (W1 = W0.alloc (.cells #[.int .i64 (n : Int), .slice none 0 0, .slice none 0 0] 24)) := ⟨_, rfl⟩
  have hs0 : W0.heap.size = w.heap.size + 1 := by rw [HW0.out]; simp
  have B0 : Below w.heap.size w W0 := by rw [HW0.out]; exact (Below.refl _ _).alloc (Nat.le_refl _) _
  have hZ : ZL W0 w.heap.size := by rw [HW0.out]; exact ZL.new _
  have B1 : Below W0.heap.size W0 W1 := by rw [HW1.out]; exact (Below.refl _ _).alloc (Nat.le_refl _) _
  have hs1 : W1.heap.size = W0.heap.size + 1 := by rw [HW1.out]; simp
  have hbo : Bo W1 W0.heap.size n (.slice none 0 0) (.slice none 0 0) := by
    rw [HW1.out]
    exact ⟨by simp, by simp, by simp, World.frozen?_alloc_at _ _ _ _ rfl, World.frozen?_alloc_at _ _ _ _ rfl⟩
  have HL0 : Hid (Lof W0 W0.heap.size W0.heap.size W1.heap.size n 0 (fun _ => (0, 0)) (fun _ => (0, 0)) (mT P n) (jT P n) (.slice none 0 0) (.slice none 0 0) W1) :=
    ⟨B1, Nat.le_refl _, by omega, Nat.le_refl _, hbo, World.ownsRow_nil _ _ _ _, World.ownsRow_nil _ _ _ _, .inl rfl, fun k hk => (by cases hk), fun k hk => (by cases hk), fun k hk => absurd hk (Nat.not_lt_zero _), fun k hk => absurd hk (Nat.not_lt_zero _), fun k hk => absurd hk (Nat.not_lt_zero _), fun k hk => absurd hk (Nat.not_lt_zero _)⟩
  rw [hs0] at HL0
  have HB0 : Hid (Below w.heap.size w W0) := B0
  have HZ : Hid (ZL W0 w.heap.size) := hZ
  have HS0 : Hid (W0.heap.size = w.heap.size + 1) := hs0
  have HBW : Hid (∀ wx, Below (w.heap.size + 1) W0 wx → Below w.heap.size w wx) := fun wx h => B0.trans (h.mono (by omega))
  have HC : Hid (Clo2 n F caps P w) := hC
  have HF : Hid (Ent F) := hF
  have hn1 : (0 : Int) < (n : Int) := by omega
  obtain ⟨B, HBE⟩ : ∃ B, Hid (B = w.heap.size + 1) := ⟨_, rfl⟩
  clear hC hF hs0 B0 B1 hs1 hbo hZ
  go_enter Try.func8, Try.ntmps8
  go_wp2_with fail
  try rw [← HW0.out]
  try rw [← HW1.out]
  rw [← HBE.out]
  rw [← HBE.out] at HL0 HBW
  clear HW0 HW1
  go_loopw [7] (fun i wx => ∃ x : Nat, x ≤ n ∧ i = .int .i64 x ∧ (∃ R1 R2 H vM vJ, Hid (Lof W0 B B H n x R1 R2 (mT P n) (jT P n) vM vJ wx)) ∧ Hid (∀ x' y', x' < x → y' < n → 0 ≤ mZ P n x' y' ∧ 0 ≤ jZ P n x' y')) (fun i _ => n - (intOf i).toNat)
  case atStart => exact ⟨0, Nat.zero_le _, rfl, ⟨_, _, _, _, _, HL0⟩, fun x' y' h => absurd h (Nat.not_lt_zero _)⟩
  case round =>
    clear HL0
    obtain ⟨x, hx, rfl, ⟨R1, R2, H0, vM, vJ, HL⟩, HOK⟩ := hrel
    by_cases hxn : x < n
    · obtain ⟨H, HH⟩ : ∃ H, Hid (H = wr.heap.size) := ⟨_, rfl⟩
      have HLU : Hid (Lof W0 B B H n x R1 R2 (mT P n) (jT P n) vM vJ wr) := by rw [HH.out]; exact HL.out.up
      have HRW : Hid (Rw H (.slice none 0 0) (.slice none 0 0) 0 0 (mT P n x) (jT P n x) wr) := ⟨World.ownsRow_nil _ _ _ _, World.ownsRow_nil _ _ _ _, .inl rfl⟩
      clear HL HH
      go_wp2_with fail
      go_loopw [8, 9, 10] (fun v1 v2 i wx => ∃ y : Nat, y ≤ n ∧ i = .int .i64 y ∧ Hid (Lof W0 B B H n x R1 R2 (mT P n) (jT P n) vM vJ wx) ∧ Hid (Rw H v1 v2 y y (mT P n x) (jT P n x) wx) ∧ Hid (∀ y', y' < y → 0 ≤ mZ P n x y' ∧ 0 ≤ jZ P n x y')) (fun _ _ i _ => n - (intOf i).toNat)
      case atStart => exact ⟨0, Nat.zero_le _, rfl, HLU, HRW, fun y' h => absurd h (Nat.not_lt_zero _)⟩
      case round =>
        clear HLU HRW
        obtain ⟨y, hy, rfl, HL, HR, HOY⟩ := hrel
        by_cases hyn : y < n
        · obtain ⟨wy, HWY⟩ : ∃ wy, Hid (wy = wr) := ⟨_, rfl⟩
          have HLY : Hid (Lof W0 B B H n x R1 R2 (mT P n) (jT P n) vM vJ wy) := by rw [HWY.out]; exact HL.out
          have HRY : Hid (Rw H u8 u9 y y (mT P n x) (jT P n x) wy) := by rw [HWY.out]; exact HR.out
          have HCY : Hid (Clo2 n F caps P wy) := by rw [HWY.out]; exact HC.out.step (HBW.out _ HL.out.bel)
          have HBY : Hid (Below wy.heap.size wy wr) := by rw [HWY.out]; exact Below.refl _ _
          obtain ⟨I, HI⟩ : ∃ I : Nat → Bool, Hid (I = fun z => loB P x y z n) := ⟨_, rfl⟩
          obtain ⟨J, HJ⟩ : ∃ J : Nat → Bool, Hid (J = fun z => hgB P x y z n) := ⟨_, rfl⟩
          have HIA : Hid (∀ z, loB P x y z n = I z) := fun z => by rw [HI.out]
          have HJA : Hid (∀ z, hgB P x y z n = J z) := fun z => by rw [HJ.out]
          have HMI : Hid (mZ P n x y = lst I n) := by rw [HI.out]; rfl
          have HJI : Hid (jZ P n x y = lst J n) := by rw [HJ.out]; rfl
          clear HL HR HWY HI HJ
          go_wp2_with fail
          go_loopw [11, 12, 13] (fun a b i wx => ∃ z : Nat, z ≤ n ∧ i = .int .i64 z ∧ a = .int .i64 (lst I z) ∧ b = .int .i64 (lst J z) ∧ Hid (Below wy.heap.size wy wx)) (fun _ _ i _ => n - (intOf i).toNat)
          case atStart => exact ⟨0, Nat.zero_le _, rfl, rfl, rfl, HBY⟩
          case round =>
            clear HBY
            obtain ⟨z, hz, rfl, rfl, rfl, HWZ⟩ := hrel
            by_cases hzn : z < n
            · obtain ⟨mz, HMZ⟩ : ∃ mz, Hid (mz = lst I z) := ⟨_, rfl⟩
              obtain ⟨jz, HJZ⟩ : ∃ jz, Hid (jz = lst J z) := ⟨_, rfl⟩
              rw [← HMZ.out, ← HJZ.out]
              obtain ⟨C13, H13⟩ : ∃ C, Hid (Code.region 13 ops13 false = C) := ⟨_, rfl⟩
              have e13 := H13.out
              unfold ops13 at e13
              rw [e13]
              clear e13
              go_wp2_with fail
              rw [← H13.out]
              refine reg13 HF.out HCY HWZ hxn hyn hzn ?_
              intro w5 hb5 z34 z35 z36 z37 z38 z39 z40 z41 z42 z43 z44 z45 z46 z47 z48 z49 z50 z51 z52 z53
              have HW5 : Hid (Below wy.heap.size wy w5) := hb5
              clear hb5 HWZ
              go_wp2_with fail
              go_loopw [14, 15, 16] (fun a b i wx => ∃ k : Nat, k ≤ n ∧ i = .int .i64 k ∧ a = .bool (loB P x y z k) ∧ b = .bool (hgB P x y z k) ∧ Hid (Below wy.heap.size wy wx)) (fun _ _ i _ => n - (intOf i).toNat)
              case atStart => exact ⟨0, Nat.zero_le _, rfl, rfl, rfl, HW5⟩
              case round =>
                clear HW5
                obtain ⟨k, hk, rfl, rfl, rfl, HWK⟩ := hrel
                by_cases hkn : k < n
                · obtain ⟨lo, HLO⟩ : ∃ lo, Hid (lo = loB P x y z k) := ⟨_, rfl⟩
                  obtain ⟨hg, HHG⟩ : ∃ hg, Hid (hg = hgB P x y z k) := ⟨_, rfl⟩
                  rw [← HLO.out, ← HHG.out]
                  obtain ⟨C17, H17⟩ : ∃ C, Hid (Code.region 17 ops17 false = C) := ⟨_, rfl⟩
                  obtain ⟨C18, H18⟩ : ∃ C, Hid (Code.region 18 ops18 false = C) := ⟨_, rfl⟩
                  have e17 := H17.out
                  have e18 := H18.out
                  unfold ops17 at e17
                  unfold ops18 at e18
                  rw [e17, e18]
                  clear e17 e18
                  go_wp2_with fail
                  rw [← H17.out]
                  refine reg17 HF.out HCY HWK hxn hyn hzn hkn ?_
                  intro w6 hb6 z59 z60 z61 z62 z63 z64 z65 z66 z67 z68 z69 z70 z71 z72 z73 z74 z75 z76 z77 z78 z79
                  have HW6 : Hid (Below wy.heap.size wy w6) := hb6
                  clear hb6 HWK
                  go_wp2_with fail
                  rw [← H18.out]
                  refine reg18 HF.out HCY HW6 hxn hyn hzn hkn ?_
                  intro w7 hb7 z80 z81 z82 z83 z84 z85 z86 z87 z88 z89 z90 z91 z92 z93 z94 z95 z96 z97 z98 z99 z100
                  have HW7 : Hid (Below wy.heap.size wy w7) := hb7
                  clear hb7 HW6
                  go_wp2_with fail
                  go_roundw
                  case rel => exact ⟨k + 1, by omega, by go_num, by rw [loB_succ, HLO.out], by rw [hgB_succ, HHG.out], HW7⟩
                  case measure => simp [intOf]; omega
                · obtain rfl : k = n := by omega
                  rw [HIA.out z, HJA.out z]
                  have HSI : Hid (∀ v, I z = v → lst I (z + 1) = if v = true then (z : Int) else mz) := fun v hv => by
                    subst hv; rw [HMZ.out]; rfl
                  have HSJ : Hid (∀ v, J z = v → lst J (z + 1) = if v = true then (z : Int) else jz) := fun v hv => by
                    subst hv; rw [HJZ.out]; rfl
                  rcases hIz : I z with _ | _
                  · rcases hJz : J z with _ | _
                    · have HE1 := (show Hid _ from HSI.out _ hIz)
                      have HE2 := (show Hid _ from HSJ.out _ hJz)
                      go_wp2_with fail
                      go_roundw
                      case rel => exact ⟨z + 1, by omega, by go_num, by rw [HE1.out]; rfl, by rw [HE2.out]; rfl, HWK⟩
                      case measure => simp [intOf]; omega
                    · have HE1 := (show Hid _ from HSI.out _ hIz)
                      have HE2 := (show Hid _ from HSJ.out _ hJz)
                      go_wp2_with fail
                      go_roundw
                      case rel => exact ⟨z + 1, by omega, by go_num, by rw [HE1.out]; rfl, by rw [HE2.out]; rfl, HWK⟩
                      case measure => simp [intOf]; omega
                  · rcases hJz : J z with _ | _
                    · have HE1 := (show Hid _ from HSI.out _ hIz)
                      have HE2 := (show Hid _ from HSJ.out _ hJz)
                      go_wp2_with fail
                      go_roundw
                      case rel => exact ⟨z + 1, by omega, by go_num, by rw [HE1.out]; rfl, by rw [HE2.out]; rfl, HWK⟩
                      case measure => simp [intOf]; omega
                    · have HE1 := (show Hid _ from HSI.out _ hIz)
                      have HE2 := (show Hid _ from HSJ.out _ hJz)
                      go_wp2_with fail
                      go_roundw
                      case rel => exact ⟨z + 1, by omega, by go_num, by rw [HE1.out]; rfl, by rw [HE2.out]; rfl, HWK⟩
                      case measure => simp [intOf]; omega
            · obtain rfl : z = n := by omega
              rw [← HMI.out, ← HJI.out]
              by_cases hm0 : mZ P z x y < 0
              · have hmd : decide (mZ P z x y < 0) = true := by simpa using hm0
                have hlt : w.heap.size < B := by have := HBE.out; omega
                obtain ⟨⟨c0, c1, c2⟩, f0, f1, f2⟩ := (HZ.out.keep HLY.out.bel hlt).step HWZ.out
                have HBX : Hid (Below w.heap.size w wr) := Below.then (HBW.out _ HLY.out.bel) HWZ.out
                have HBAD : Hid (∃ x' y', x' < z ∧ y' < z ∧ (mZ P z x' y' < 0 ∨ jZ P z x' y' < 0)) := ⟨x, y, hxn, hyn, .inl hm0⟩
                go_wp2_with fail
                refine bodyPost_ret (v := .tuple #[noLat, .bool false]) ?_ rfl ⟨.inl ⟨HBAD.out, rfl⟩, ?_⟩
                · simp [results, Try.results8, go_sem, noLat, c0, c1, c2]
                · exact set3B HBX.out (Nat.le_refl _)
              · have hmd : decide (mZ P z x y < 0) = false := by simpa using hm0
                by_cases hj0 : jZ P z x y < 0
                · have hjd : decide (jZ P z x y < 0) = true := by simpa using hj0
                  have hlt : w.heap.size < B := by have := HBE.out; omega
                  obtain ⟨⟨c0, c1, c2⟩, f0, f1, f2⟩ := (HZ.out.keep HLY.out.bel hlt).step HWZ.out
                  have HBX : Hid (Below w.heap.size w wr) := Below.then (HBW.out _ HLY.out.bel) HWZ.out
                  have HBAD : Hid (∃ x' y', x' < z ∧ y' < z ∧ (mZ P z x' y' < 0 ∨ jZ P z x' y' < 0)) := ⟨x, y, hxn, hyn, .inr hj0⟩
                  go_wp2_with fail
                  refine bodyPost_ret (v := .tuple #[noLat, .bool false]) ?_ rfl ⟨.inl ⟨HBAD.out, rfl⟩, ?_⟩
                  · simp [results, Try.results8, go_sem, noLat, c0, c1, c2]
                  · exact set3B HBX.out (Nat.le_refl _)
                · have hjd : decide (jZ P z x y < 0) = false := by simpa using hj0
                  have HM : Hid (mZ P z x y = ((mT P z x y : Nat) : Int)) := by unfold mT; rw [Hid]; omega
                  have HJ : Hid (jZ P z x y = ((jT P z x y : Nat) : Int)) := by unfold jT; rw [Hid]; omega
                  have HOY2 : Hid (∀ y', y' < y + 1 → 0 ≤ mZ P z x y' ∧ 0 ≤ jZ P z x y') := fun y' h => by
                    by_cases e : y' = y
                    · subst e; exact ⟨by omega, by omega⟩
                    · exact HOY.out y' (by omega)
                  have HL3 : Hid (Lof W0 B B H z x R1 R2 (mT P z) (jT P z) vM vJ wr) := HLY.out.step HWZ.out
                  have hR3 : Rw H u8 u9 y y (mT P z x) (jT P z x) wr := HRY.out.step HWZ.out
                  have hsz := HL3.out.hs
                  have hown := hR3.r1
                  go_wp2_with (at_builtin; refine wpList_append_own_at _ rfl _ _ 31 rfl H 3 i0 (.int .i64 0) 1 8 Try.underlying31 hi hz0 hz1 hz2 rfl (by decide) _ _ _ rfl (hown.alloc _) ⟨wr.heap.size, 0, none⟩ 1 1 [.int .i64 (mT P z x y : Nat)] rfl rfl ?c1 ?c2 ?c3 ?c4 ?c5 ?_)
                  case c1 =>
                    intro i u hj
                    match i, hj with
                    | 0, hj => simp at hj; subst hj; simp; exact HM.out
                  case c2 => rfl
                  case c3 => unfold maxLen; omega
                  case c4 => omega
                  case c5 => omega
                  intro v3 w3 ho3 hg3 _ hk3
                  have hR3a := hR3.step ((Below.refl wr.heap.size wr).alloc (Nat.le_refl _) (.cells #[.int .i64 (mZ P z x y)] 3))
                  have HL3a := HL3.out.step ((Below.refl wr.heap.size wr).alloc (Nat.le_refl _) (.cells #[.int .i64 (mZ P z x y)] 3))
                  have hR4 := hR3a.grow1 ho3 hg3 (by rw [World.size_alloc]; exact hk3)
                  have hb4 := (Below.refl H _).grown hg3 HL3a.hs (fun k hk => own_ge hR3a.r1 hk)
                  have HL4 : Hid (Lof W0 B B H z x R1 R2 (mT P z) (jT P z) vM vJ w3) := HL3a.keep hb4
                  have hsz4 := HL4.out.hs
                  have hown4 := hR4.r2
                  clear ho3 hg3 hk3 hR3a HL3a hb4 hR3 HL3 hown hsz HLY HRY HCY HWZ HMI HJI HIA HJA HOY
                  go_wp2_with (at_builtin; refine wpList_append_own_at _ rfl _ _ 31 rfl H 3 i0 (.int .i64 0) 1 8 Try.underlying31 hi hz0 hz1 hz2 rfl (by decide) _ _ _ rfl (hown4.alloc _) ⟨w3.heap.size, 0, none⟩ 1 1 [.int .i64 (jT P z x y : Nat)] rfl rfl ?c1 ?c2 ?c3 ?c4 ?c5 ?_)
                  case c1 =>
                    intro i u hj
                    match i, hj with
                    | 0, hj => simp at hj; subst hj; simp [Addr.add]; exact HJ.out
                  case c2 => intro u hu; simp at hu; subst hu; rfl
                  case c3 => unfold maxLen; omega
                  case c4 => omega
                  case c5 => simp; omega
                  intro v5 w5 ho5 hg5 _ hk5
                  have hR5a := hR4.step ((Below.refl w3.heap.size w3).alloc (Nat.le_refl _) (.cells #[.int .i64 (jZ P z x y)] 3))
                  have HL5a := HL4.out.step ((Below.refl w3.heap.size w3).alloc (Nat.le_refl _) (.cells #[.int .i64 (jZ P z x y)] 3))
                  have HR6 : Hid (Rw H v3 v5 (y + 1) (y + 1) (mT P z x) (jT P z x) w5) := hR5a.grow2 ho5 hg5 (by rw [World.size_alloc]; exact hk5)
                  have hb6 := (Below.refl H _).grown hg5 HL5a.hs (fun k hk => own_ge hR5a.r2 hk)
                  have HL6 : Hid (Lof W0 B B H z x R1 R2 (mT P z) (jT P z) vM vJ w5) := HL5a.keep hb6
                  clear ho5 hg5 hk5 hR5a HL5a hb6 hR4 HL4 hown4 hsz4
                  go_wp2_with fail
                  go_roundw
                  case rel => exact ⟨y + 1, by omega, by go_num, HL6, HR6, HOY2⟩
                  case measure => simp [intOf]; omega
        · obtain rfl : y = n := by omega
          obtain ⟨b1, c1, hv1⟩ := owns_form HR.out.r1 (by omega)
          obtain ⟨b2, c2, hv2⟩ := owns_form HR.out.r2 (by omega)
          subst hv1
          subst hv2
          have HOK2 : Hid (∀ x' y', x' < x + 1 → y' < y → 0 ≤ mZ P y x' y' ∧ 0 ≤ jZ P y x' y') := fun x' y' h h' => by
            by_cases e : x' = x
            · subst e; exact HOY.out y' h'
            · exact HOK.out x' y' (by omega) h'
          go_wp2_with fail
          refine reg26 (by omega) HL HR (fun _ _ _ _ _ h => h) ?_
          intro vM' vJ' R1' R2' H' w6 hL6 z120 z121 z122 z123 z124 z125 z126 z127 z128 z129 z130 z131
          have HL6 : Hid (Lof W0 B B H' y (x + 1) R1' R2' (mT P y) (jT P y) vM' vJ' w6) := hL6
          clear hL6 HL HR HOK HOY
          go_wp2_with fail
          go_roundw
          case rel => exact ⟨x + 1, by omega, by go_num, ⟨_, _, _, _, _, HL6⟩, HOK2⟩
          case measure => simp [intOf]; omega
    · obtain rfl : x = n := by omega
      obtain ⟨T1, cp1, hv1⟩ := owns_form HL.out.M (by omega)
      obtain ⟨T2, cp2, hv2⟩ := owns_form HL.out.J (by omega)
      subst hv1
      subst hv2
      have hlt : w.heap.size < B := by have := HBE.out; omega
      obtain ⟨⟨c0, c1, c2⟩, f0, f1, f2⟩ := HZ.out.keep HL.out.bel hlt
      have HBX : Hid (Below w.heap.size w wr) := HBW.out _ HL.out.bel
      have HT1 : Hid (Tb wr T1 0 x (fun k => ((R1 k).1, 0, (R1 k).2)) (mT P x)) := tb_own HL.out.M HL.out.d1
      have HT2 : Hid (Tb wr T2 0 x (fun k => ((R2 k).1, 0, (R2 k).2)) (jT P x)) := tb_own HL.out.J HL.out.d2
      have HQ : Hid (w.heap.size < T1 ∧ w.heap.size < T2) := by
        have q1 := own_ge HL.out.M (k := T1) rfl
        have q2 := own_ge HL.out.J (k := T2) rfl
        rw [Hid]; omega
      have HR : Hid (∀ k, k < x → w.heap.size < (R1 k).1 ∧ w.heap.size < (R2 k).1) := fun k hk => by
        have q1 := (HL.out.d1 k hk).1.1
        have q2 := (HL.out.d2 k hk).1.1
        omega
      have p0 := HL.out.bo.c0
      have p1 := HL.out.bo.c1
      have p2 := HL.out.bo.c2
      have HALL : Hid (∀ x' y', x' < x → y' < x → 0 ≤ mZ P x x' y' ∧ 0 ≤ jZ P x x' y') := HOK.out
      clear HL HOK
      go_wp2_with fail
      refine bodyPost_ret (v := .tuple #[.agg #[.int .i64 (x : Int), .slice (some ⟨T1, 0, none⟩) x cp1, .slice (some ⟨T2, 0, none⟩) x cp2], .bool true]) ?_ rfl ⟨.inr ⟨HALL.out, T1, cp1, T2, cp2, (fun k => ((R1 k).1, 0, (R1 k).2)), (fun k => ((R2 k).1, 0, (R2 k).2)), rfl, ?_, ?_, ?_, ?_⟩, ?_⟩
      · simp [results, Try.results8, go_sem, c0, c1, c2]
        omega
      · exact ((HT1.out.set _ (show w.heap.size ≠ _ by have := HQ.out; omega) (fun k hk => show w.heap.size ≠ _ by have := HR.out k hk; simp; omega)).set _ (show w.heap.size ≠ _ by have := HQ.out; omega) (fun k hk => show w.heap.size ≠ _ by have := HR.out k hk; simp; omega)).set _ (show w.heap.size ≠ _ by have := HQ.out; omega) (fun k hk => show w.heap.size ≠ _ by have := HR.out k hk; simp; omega)
      · exact ((HT2.out.set _ (show w.heap.size ≠ _ by have := HQ.out; omega) (fun k hk => show w.heap.size ≠ _ by have := HR.out k hk; simp; omega)).set _ (show w.heap.size ≠ _ by have := HQ.out; omega) (fun k hk => show w.heap.size ≠ _ by have := HR.out k hk; simp; omega)).set _ (show w.heap.size ≠ _ by have := HQ.out; omega) (fun k hk => show w.heap.size ≠ _ by have := HR.out k hk; simp; omega)
      · have := HQ.out; exact ⟨by omega, by omega⟩
      · intro k hk
        have := HR.out k hk
        exact ⟨by simp; omega, by simp; omega⟩
      · exact set3B HBX.out (Nat.le_refl _)
end Go.Proofs.Ytappekjkcgmheab
