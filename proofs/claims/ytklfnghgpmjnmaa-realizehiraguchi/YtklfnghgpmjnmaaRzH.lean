/-
  What the reference's HasTurned answers: whether two rows say the order. Conditions: an order of at most ten points.
-/
import Derived.Test.YtklfnghgpmjnmaaRzG
import Derived.Test.YtklfnghgpmjnmaaApM
import Derived.Deep.LoopGhost
namespace Go.Proofs.Ytklfnghgpmjnmaa
open Go.RowKit

theorem Try.infoBR : (Try.prog.info? 60).map (fun i => (i.zero, i.size, i.bytes)) = some (some (.slice none 0 0), 1, 24) := by kernel_rfl
theorem Try.infoB : (Try.prog.info? 4).map (fun i => (i.zero, i.size, i.bytes)) = some (some (.bool false), 1, 1) := by kernel_rfl
theorem bools_made {w : World} {base b m : Nat} (h : w.ownsRow base 4 1 (.slice (some ⟨b, 0, none⟩) m m) m (madeCells (Value.bool false).cells (m * 1)).toList) : ∀ j, j < m → w.cell? ⟨b, j, none⟩ = some (.bool false) ∧ w.frozen? ⟨b, j, none⟩ = false := fun k hk => by
  refine ⟨?_, h.frozenAt k⟩
  rw [h.cellAt k (by omega)]
  have e : (Value.bool false).cells = #[Value.bool false] := rfl
  rw [e, toList_madeCells_one]
  simp [hk]
theorem rows_made {w : World} {base b m : Nat} (h : w.ownsRow base 60 1 (.slice (some ⟨b, 0, none⟩) m m) m (madeCells (Value.slice none 0 0).cells (m * 1)).toList) : ∀ j, j < m → w.cell? ⟨b, j, none⟩ = some (.slice none 0 0) ∧ w.frozen? ⟨b, j, none⟩ = false := fun k hk => by
  refine ⟨?_, h.frozenAt k⟩
  rw [h.cellAt k (by omega)]
  have e : (Value.slice none 0 0).cells = #[Value.slice none 0 0] := rfl
  rw [e, toList_madeCells_one]
  simp [hk]
theorem ownsB_lt {w : World} {base b m n : Nat} {e : TypeId} {xs : List Value} (h : w.ownsRow base e 1 (.slice (some ⟨b, 0, none⟩) m n) m xs) : b < w.heap.size := (h.lt b rfl).2
/-- How the memory stands. -/
structure HSt (w wx : World) (B : Nat) (r : Nat → Nat) (n : Nat) (a : Option Addr) (cap : Nat) (g : Nat → Nat) (T : Nat → Nat → Bool) : Prop where
  mat : MatB wx B r n n T
  held : Held wx w.heap.size n a n cap (fun k => (g k : Nat))
  bel : Below w.heap.size w wx
  up : w.heap.size < B
theorem HSt.step {w wx w' : World} {B : Nat} {r : Nat → Nat} {n : Nat} {a : Option Addr} {cap : Nat} {g : Nat → Nat} {T : Nat → Nat → Bool} (h : HSt w wx B r n a cap g T) (hb : Below wx.heap.size wx w') : HSt w w' B r n a cap g T :=
  ⟨h.mat.step hb, h.held.step hb, Below.then h.bel hb, h.up⟩
theorem HSt.set {w wx : World} {B : Nat} {r : Nat → Nat} {n : Nat} {a : Option Addr} {cap : Nat} {g : Nat → Nat} {T : Nat → Nat → Bool} (h : HSt w wx B r n a cap g T) (hr : Row w a n (fun k => (g k : Nat))) {x y : Nat} (hx : x < n) (hy : y < n) :
    HSt w (wx.setCell ⟨r x, y, none⟩ (.bool true)) B r n a cap g (upd2 T x y) := by
  have h1 := h.mat.up x hx
  have h2 := h.up
  have hb : Below w.heap.size w (wx.setCell ⟨r x, y, none⟩ (.bool true)) := h.bel.setCell (p := ⟨r x, y, none⟩) (by show w.heap.size ≤ r x; omega) _
  refine ⟨h.mat.set hx hy, ⟨?_, ?_, hr.below hb⟩, hb, h2⟩
  · rw [World.cell?_setCell_other _ _ _ _ (fun e => by injection e with e1; omega)]; exact h.held.c0
  · rw [World.cell?_setCell_other _ _ _ _ (fun e => by injection e with e1; omega)]; exact h.held.c1

set_option maxRecDepth 100000 in
set_option maxHeartbeats 4000000 in
theorem hasTurned_any (n : Nat) (a : Option Addr) (cap : Nat) (g : Nat → Nat) (w : World) (h10 : n ≤ 10) (hg : ∀ j, j < n → g j < 1024) (hr : Row w a n (fun k => (g k : Nat))) (hs : Srd n (ltU g n)) :
    Calls Try.prog 14 #[.agg #[.int .i64 (n : Int), .slice a n cap]] w fun e w' => Ans e (RzS (· < n) (ltU g n) 2) ∧ Below w.heap.size w w' := by
  have HR : Hid (Row w a n (fun k => (g k : Nat))) := hr
  have HG : Hid (∀ j, j < n → g j < 1024) := hg
  have HSR : Hid (Srd n (ltU g n)) := hs
  obtain ⟨ap, HAP⟩ : ∃ ap, Hid (ap = apt (ltU g n) n) := ⟨_, rfl⟩
  have HA : Hid (Apt n ap) := by rw [HAP.out]; exact apt_apt
  have K0 : Held (w.alloc (.cells #[.int .i64 (n : Int), .slice a n cap] 25)) w.heap.size n a n cap (fun k => (g k : Nat)) := Held.box hr
  have HB0 : Hid (Below w.heap.size w (w.alloc (.cells #[.int .i64 (n : Int), .slice a n cap] 25))) := (Below.refl _ _).alloc (Nat.le_refl _) _
  have HK0 : Hid (Held (w.alloc (.cells #[.int .i64 (n : Int), .slice a n cap] 25)) w.heap.size n a n cap (fun k => (g k : Nat))) := K0
  clear hr hg hs K0
  obtain ⟨i5, hi, hz0, hz1, hz2⟩ := info_parts Try.infoBR
  obtain ⟨i4, hj, hy0, hy1, hy2⟩ := info_parts Try.infoB
  obtain ⟨B, HBE⟩ : ∃ B, Hid (B = w.heap.size + 1) := ⟨_, rfl⟩
  go_enter Try.func14, Try.ntmps14
  go_wp2_with (at_make; refine wpList_make_full _ rfl _ _ 59 rfl (w.heap.size + 1) 60 i5 (.slice none 0 0) 1 Try.underlying59 hi hz0 hz1 .i64 .i64 _ _ n rfl rfl rfl rfl (by rw [hz2]; omega) (by unfold maxLen; omega) (by simp) ?_; intro w1 hown1 hgrow1)
  have hb1 : Below w.heap.size w w1 := (HB0.out).grown hgrow1 (by simp) (by simp)
  simp only [World.size_alloc] at hown1
  have hB1 : w.heap.size + 1 < w1.heap.size := ownsB_lt hown1
  have HRW1 := rows_made hown1
  have HH1 := HK0.out.step ((Below.refl _ _).grown hgrow1 (Nat.le_refl _) (by simp))
  have HINV : Hid (MatB w1 B (fun _ => 0) n 0 (fun _ _ => false) ∧ (∀ j, 0 ≤ j → j < n → w1.cell? ⟨B, j, none⟩ = some (.slice none 0 0) ∧ w1.frozen? ⟨B, j, none⟩ = false) ∧ B < w1.heap.size ∧ Held w1 w.heap.size n a n cap (fun k => (g k : Nat)) ∧ Below w.heap.size w w1) := by
    rw [HBE.out]
    exact ⟨⟨fun i h => absurd h (Nat.not_lt_zero _), fun i j h => absurd h (Nat.not_lt_zero _), fun i h => absurd h (Nat.not_lt_zero _), fun i j h => absurd h (Nat.not_lt_zero _)⟩, fun j _ hj => HRW1 j hj, hB1, HH1, hb1⟩
  have hZB : w.heap.size < B := by rw [HBE.out]; omega
  have HBW1 : Hid (w.heap.size + 1 = B) := HBE.out.symm
  clear hb1 hB1 HRW1 HH1 hown1 hgrow1 HB0 HK0
  rw [HBW1.out]
  go_loopw [5] (fun t wx => ∃ (i : Nat) (r : Nat → Nat), i ≤ n ∧ t = .int .i64 i ∧ Hid (MatB wx B r n i (fun _ _ => false)) ∧ Hid (∀ j, i ≤ j → j < n → wx.cell? ⟨B, j, none⟩ = some (.slice none 0 0) ∧ wx.frozen? ⟨B, j, none⟩ = false) ∧ Hid (∀ j, j < i → r j < wx.heap.size) ∧ Hid (B < wx.heap.size) ∧ Hid (Held wx w.heap.size n a n cap (fun k => (g k : Nat))) ∧ Hid (Below w.heap.size w wx)) (fun t _ => n - (intOf t).toNat)
  case atStart =>
    obtain ⟨h1, h2, h3, h4, h5⟩ := HINV.out
    exact ⟨0, _, Nat.zero_le _, rfl, h1, h2, fun j h => absurd h (Nat.not_lt_zero _), h3, h4, h5⟩
  case round =>
    obtain ⟨i, r, hi', rfl, HM, HRE, HRL, HBL, HH, HBW⟩ := hrel
    clear HINV
    by_cases hlt : i < n
    · have hlt' : (i : Int) < (n : Int) := by omega
      have hBlt := HBL.out
      obtain ⟨s0, s1⟩ := HRE.out i (Nat.le_refl _) hlt
      go_wp2_with (at_make; refine wpList_make_full _ rfl _ _ 60 rfl wr.heap.size 4 i4 (.bool false) 1 Try.underlying60 hj hy0 hy1 .i64 .i64 _ _ n rfl rfl rfl rfl (by rw [hy2]; omega) (by unfold maxLen; omega) (Nat.le_refl _) ?_; intro wm hownm hgrowm; (have hbm : Below wr.heap.size wr wm := (Below.refl wr.heap.size wr).grown hgrowm (Nat.le_refl _) (by simp)); (have u0 := (hbm.cell (p := ⟨B, i, none⟩) hBlt).trans s0); (have u1 := (hbm.frozen (p := ⟨B, i, none⟩) hBlt).trans s1); (have HBM : Hid (Below wr.heap.size wr wm) := hbm); (have HNW : Hid (∀ j, j < n → wm.cell? ⟨wr.heap.size, j, none⟩ = some (.bool false) ∧ wm.frozen? ⟨wr.heap.size, j, none⟩ = false) := bools_made hownm); (have HLT : Hid (wr.heap.size < wm.heap.size) := ownsB_lt hownm); (clear hownm hgrowm hbm s0 s1))
      have HMN : Hid (MatB (wm.setCell ⟨B, i, none⟩ (.slice (some ⟨wr.heap.size, 0, none⟩) n n)) B (fun j => if j = i then wr.heap.size else r j) n (i + 1) (fun _ _ => false)) := HM.out.row HBM.out rfl hBlt (fun j hj => HRL.out j hj) HNW.out u0
      have HREN : Hid (∀ j, i + 1 ≤ j → j < n → (wm.setCell ⟨B, i, none⟩ (.slice (some ⟨wr.heap.size, 0, none⟩) n n)).cell? ⟨B, j, none⟩ = some (.slice none 0 0) ∧ (wm.setCell ⟨B, i, none⟩ (.slice (some ⟨wr.heap.size, 0, none⟩) n n)).frozen? ⟨B, j, none⟩ = false) := fun j h1 h2 => by
        rw [World.frozen?_setCell, World.cell?_setCell_other _ _ _ _ (fun x => by injection x with _ x2; omega)]
        exact ⟨(HBM.out.cell (p := ⟨B, j, none⟩) hBlt).trans (HRE.out j (by omega) h2).1, (HBM.out.frozen (p := ⟨B, j, none⟩) hBlt).trans (HRE.out j (by omega) h2).2⟩
      have HRLN : Hid (∀ j, j < i + 1 → (fun j => if j = i then wr.heap.size else r j) j < (wm.setCell ⟨B, i, none⟩ (.slice (some ⟨wr.heap.size, 0, none⟩) n n)).heap.size) := fun j hj => by
        simp only [World.size_setCell]
        have h1 := HLT.out
        by_cases e : j = i
        · rw [if_pos e]; exact h1
        · rw [if_neg e]; have := HRL.out j (by omega); omega
      have HBLN : Hid (B < (wm.setCell ⟨B, i, none⟩ (.slice (some ⟨wr.heap.size, 0, none⟩) n n)).heap.size) := by have := HLT.out; show _ < _; simp only [World.size_setCell]; omega
      have HBN : Hid (Below w.heap.size w (wm.setCell ⟨B, i, none⟩ (.slice (some ⟨wr.heap.size, 0, none⟩) n n))) := (Below.then HBW.out HBM.out).setCell (p := ⟨B, i, none⟩) (by show w.heap.size ≤ B; omega) _
      have HHN : Hid (Held (wm.setCell ⟨B, i, none⟩ (.slice (some ⟨wr.heap.size, 0, none⟩) n n)) w.heap.size n a n cap (fun k => (g k : Nat))) := by
        refine ⟨?_, ?_, HR.out.below HBN.out⟩
        · rw [World.cell?_setCell_other _ _ _ _ (fun e => by injection e with e1; omega)]; exact (HH.out.step HBM.out).c0
        · rw [World.cell?_setCell_other _ _ _ _ (fun e => by injection e with e1; omega)]; exact (HH.out.step HBM.out).c1
      clear u0 u1 HM HRE HRL HBL HH HBW HNW HLT HBM hBlt
      go_roundw
      case rel => exact ⟨i + 1, _, by omega, by go_num, HMN.out, HREN.out, HRLN.out, HBLN.out, HHN.out, HBN.out⟩
      case measure => simp [intOf]; omega
    · obtain rfl : n = i := by omega
      have HS0 : Hid (HSt w wr B r n a cap g (fun _ _ => false)) := ⟨HM.out, HH.out, HBW.out, hZB⟩
      have HL0 : Hid (Lain n ap (fun _ _ => false) 0 0) := lain_start
      clear HM HRE HRL HBL HH HBW hi'
      go_wp2_with fail
      go_loopw [6] (fun t wx => ∃ (a0 : Nat) (T : Nat → Nat → Bool), a0 ≤ n ∧ t = .int .i64 a0 ∧ Hid (Lain n ap T a0 0) ∧ Hid (HSt w wx B r n a cap g T)) (fun t _ => n - (intOf t).toNat)
      case atStart => exact ⟨0, _, Nat.zero_le _, rfl, HL0.out, HS0.out⟩
      case round =>
        obtain ⟨a0, T0, ha', rfl, HLA, HSA⟩ := hrel
        clear HL0 HS0
        by_cases ha0 : a0 < n
        · have hax : (a0 : Int) < (n : Int) := by omega
          go_wp2_with fail
          go_loopw [7] (fun t wx => ∃ (b0 : Nat) (T : Nat → Nat → Bool), b0 ≤ n ∧ t = .int .i64 b0 ∧ Hid (Lain n ap T a0 b0) ∧ Hid (HSt w wx B r n a cap g T)) (fun t _ => n - (intOf t).toNat)
          case atStart => exact ⟨0, _, Nat.zero_le _, rfl, HLA.out, HSA.out⟩
          case round =>
            obtain ⟨b0, L, hb', rfl, HLN, HS⟩ := hrel
            clear HLA HSA
            by_cases hb0 : b0 < n
            · have hbx : (b0 : Int) < (n : Int) := by omega
              rcases (Bool.eq_false_or_eq_true (apt (ltU g n) n a0 b0)).symm with q1 | q1
              · have HLX : Hid (Lain n ap L a0 (b0 + 1)) := HLN.out.skip (.inl (by rw [HAP.out]; exact q1))
                have c0 := HS.out.held.c0
                have c1 := HS.out.held.c1
                go_wp2_with fail
                refine (apart_is n a cap g a0 b0 false _ q1 h10 HG.out HS.out.held.row ha0 hb0).mono ?_
                rintro e wc ⟨rfl, hbc⟩
                have HSN : Hid (HSt w wc B r n a cap g L) := HS.out.step hbc
                clear c0 c1 HS hbc HLN
                go_wp2_with fail
                go_roundw
                case rel => exact ⟨b0 + 1, L, by omega, by go_num, HLX.out, HSN.out⟩
                case measure => simp [intOf]; omega
              rcases Bool.eq_false_or_eq_true (L a0 b0) with t1 | t1
              · have HLX : Hid (Lain n ap L a0 (b0 + 1)) := HLN.out.skip (.inr (.inl t1))
                have c0 := HS.out.held.c0
                have c1 := HS.out.held.c1
                go_wp2_with fail
                refine (apart_is n a cap g a0 b0 true _ q1 h10 HG.out HS.out.held.row ha0 hb0).mono ?_
                rintro e wc ⟨rfl, hbc⟩
                have HSN : Hid (HSt w wc B r n a cap g L) := HS.out.step hbc
                clear c0 c1 HS hbc HLN
                have m1 := HSN.out.mat.rows a0 ha0
                obtain ⟨n1, f1⟩ := HSN.out.mat.cells a0 b0 ha0 hb0
                rw [t1] at n1
                go_wp2_with fail
                go_roundw
                case rel => exact ⟨b0 + 1, L, by omega, by go_num, HLX.out, HSN.out⟩
                case measure => simp [intOf]; omega
              rcases Bool.eq_false_or_eq_true (L b0 a0) with t2 | t2
              · have HLX : Hid (Lain n ap L a0 (b0 + 1)) := HLN.out.skip (.inr (.inr t2))
                have c0 := HS.out.held.c0
                have c1 := HS.out.held.c1
                go_wp2_with fail
                refine (apart_is n a cap g a0 b0 true _ q1 h10 HG.out HS.out.held.row ha0 hb0).mono ?_
                rintro e wc ⟨rfl, hbc⟩
                have HSN : Hid (HSt w wc B r n a cap g L) := HS.out.step hbc
                clear c0 c1 HS hbc HLN
                have m1 := HSN.out.mat.rows a0 ha0
                have m2 := HSN.out.mat.rows b0 hb0
                obtain ⟨n1, f1⟩ := HSN.out.mat.cells a0 b0 ha0 hb0
                obtain ⟨n2, f2⟩ := HSN.out.mat.cells b0 a0 hb0 ha0
                rw [t1] at n1
                rw [t2] at n2
                go_wp2_with fail
                go_roundw
                case rel => exact ⟨b0 + 1, L, by omega, by go_num, HLX.out, HSN.out⟩
                case measure => simp [intOf]; omega
              have c0 := HS.out.held.c0
              have c1 := HS.out.held.c1
              go_wp2_with fail
              refine (apart_is n a cap g a0 b0 true _ q1 h10 HG.out HS.out.held.row ha0 hb0).mono ?_
              rintro e wc ⟨rfl, hbc⟩
              have HSN : Hid (HSt w wc B r n a cap g L) := HS.out.step hbc
              clear c0 c1 HS hbc
              have m1 := HSN.out.mat.rows a0 ha0
              have m2 := HSN.out.mat.rows b0 hb0
              obtain ⟨n1, f1⟩ := HSN.out.mat.cells a0 b0 ha0 hb0
              obtain ⟨n2, f2⟩ := HSN.out.mat.cells b0 a0 hb0 ha0
              rw [t1] at n1
              rw [t2] at n2
              have HSL : Hid (HSt w (wc.setCell ⟨r a0, b0, none⟩ (.bool true)) B r n a cap g (upd2 L a0 b0)) := HSN.out.set HR.out ha0 hb0
              have HIL : Hid (HI n ap L a0 b0 (offAll (upd2 L a0 b0) n n + 1) n 0 0 true (upd2 L a0 b0)) := HI.start
              have HPR : Hid (∀ D T, HI n ap L a0 b0 D n 0 0 false T → Lain n ap T a0 (b0 + 1)) := fun D T h => HLN.out.pair HA.out (by rw [HAP.out]; exact q1) t1 t2 h
              go_wp2_with fail
              clear m1 m2 n1 n2 f1 f2 HSN q1 t1 t2
              go_loopg [8] (offAll (upd2 L a0 b0) n n + 1) (fun gk v wx => ∃ (ag : Bool) (T : Nat → Nat → Bool), v = .bool ag ∧ Hid (HI n ap L a0 b0 gk n 0 0 ag T) ∧ Hid (HSt w wx B r n a cap g T))
              case atStart => exact ⟨true, _, rfl, HIL.out, HSL.out⟩
              case round =>
                obtain ⟨ag, T, rfl, HI0, HS0⟩ := hrel
                clear HIL HSL
                cases ag
                · have HLX : Hid (Lain n ap T a0 (b0 + 1)) := HPR.out _ _ HI0.out
                  clear HPR HI0 HLN
                  go_wp2_with fail
                  go_roundw
                  case rel => exact ⟨b0 + 1, T, by omega, by go_num, HLX.out, HS0.out⟩
                  case measure => simp [intOf]; omega
                · obtain ⟨hgk, his⟩ := HI0.out.again
                  have HIS : Hid (HI n ap L a0 b0 (gk - 1) 0 0 0 false T) := his
                  have HGK : Hid (1 ≤ gk) := by show 1 ≤ gk; omega
                  clear HI0 his hgk
                  go_wp2_with fail
                  go_loopw [8, 9] (fun v t wx => ∃ (x : Nat) (ag : Bool) (T : Nat → Nat → Bool), x ≤ n ∧ t = .int .i64 x ∧ v = .bool ag ∧ Hid (HI n ap L a0 b0 (gk - 1) x 0 0 ag T) ∧ Hid (HSt w wx B r n a cap g T)) (fun _ t _ => n - (intOf t).toNat)
                  case atStart => exact ⟨0, false, T, Nat.zero_le _, rfl, rfl, HIS.out, HS0.out⟩
                  case round =>
                    obtain ⟨x, ag, T1, hx', rfl, rfl, HI1, HS1⟩ := hrel
                    clear HIS HS0
                    by_cases hx : x < n
                    · have hxx : (x : Int) < (n : Int) := by omega
                      go_wp2_with fail
                      go_loopw [8, 10] (fun v t wx => ∃ (y : Nat) (ag : Bool) (T : Nat → Nat → Bool), y ≤ n ∧ t = .int .i64 y ∧ v = .bool ag ∧ Hid (HI n ap L a0 b0 (gk - 1) x y 0 ag T) ∧ Hid (HSt w wx B r n a cap g T)) (fun _ t _ => n - (intOf t).toNat)
                      case atStart => exact ⟨0, ag, T1, Nat.zero_le _, rfl, rfl, HI1.out, HS1.out⟩
                      case round =>
                        obtain ⟨y, ag, T2, hy', rfl, rfl, HI2, HS2⟩ := hrel
                        clear HI1 HS1
                        by_cases hy : y < n
                        · have hyx : (y : Int) < (n : Int) := by omega
                          go_wp2_with fail
                          go_loopw [8, 11] (fun v t wx => ∃ (z : Nat) (ag : Bool) (T : Nat → Nat → Bool), z ≤ n ∧ t = .int .i64 z ∧ v = .bool ag ∧ Hid (HI n ap L a0 b0 (gk - 1) x y z ag T) ∧ Hid (HSt w wx B r n a cap g T)) (fun _ t _ => n - (intOf t).toNat)
                          case atStart => exact ⟨0, ag, T2, Nat.zero_le _, rfl, rfl, HI2.out, HS2.out⟩
                          case round =>
                            obtain ⟨z, ag, T3, hz', rfl, rfl, HIc, HS⟩ := hrel
                            clear HI2 HS2
                            by_cases hz : z < n
                            · have hzx : (z : Int) < (n : Int) := by omega
                              rcases (Bool.eq_false_or_eq_true (T3 x y)).symm with t1 | t1
                              · have HIN : Hid (HI n ap L a0 b0 (gk - 1) x (y + 1) 0 ag T3) := HIc.out.yout (.inr t1)
                                clear HIc
                                have m1 := HS.out.mat.rows x hx
                                obtain ⟨n1, f1⟩ := HS.out.mat.cells x y hx hy
                                rw [t1] at n1
                                go_wp2_with fail
                                go_roundw
                                case rel => exact ⟨y + 1, ag, T3, by omega, by go_num, rfl, HIN.out, HS.out⟩
                                case measure => simp [intOf]; omega
                              by_cases ezx : z = x
                              · have HIN : Hid (HI n ap L a0 b0 (gk - 1) x y (z + 1) ag T3) := HIc.out.zup (fun e => absurd ezx e) (fun e => absurd ezx e)
                                clear HIc
                                subst ezx
                                have dzx : ((z : Int) != (z : Int)) = false := by simp
                                have c0 := HS.out.held.c0
                                have c1 := HS.out.held.c1
                                have m1 := HS.out.mat.rows z hz
                                obtain ⟨n1, f1⟩ := HS.out.mat.cells z y hz hy
                                rw [t1] at n1
                                go_wp2_with fail
                                go_roundw
                                case rel => exact ⟨z + 1, ag, _, by omega, by go_num, rfl, HIN.out, HS.out⟩
                                case measure => simp [intOf]; omega
                              have dzx : ((z : Int) != (x : Int)) = true := by simp; omega
                              by_cases ezy : z = y
                              · have HIN : Hid (HI n ap L a0 b0 (gk - 1) x y (z + 1) ag T3) := HIc.out.zup (fun _ e => absurd ezy e) (fun _ e => absurd ezy e)
                                clear HIc
                                subst ezy
                                have dzy : ((z : Int) != (z : Int)) = false := by simp
                                have c0 := HS.out.held.c0
                                have c1 := HS.out.held.c1
                                have m1 := HS.out.mat.rows x hx
                                obtain ⟨n1, f1⟩ := HS.out.mat.cells x z hx hz
                                rw [t1] at n1
                                go_wp2_with fail
                                go_roundw
                                case rel => exact ⟨z + 1, ag, _, by omega, by go_num, rfl, HIN.out, HS.out⟩
                                case measure => simp [intOf]; omega
                              have dzy : ((z : Int) != (y : Int)) = true := by simp; omega
                              have HZX : Hid (z ≠ x) := ezx
                              have HZY : Hid (z ≠ y) := ezy
                              clear ezx ezy
                              rcases (Bool.eq_false_or_eq_true (apt (ltU g n) n x z)).symm with q1 | q1
                              · rcases (Bool.eq_false_or_eq_true (apt (ltU g n) n y z)).symm with q2 | q2
                                · have q3 : apt (ltU g n) n z y = false := by rw [apt_apt.sym]; exact q2
                                  have HIN : Hid (HI n ap L a0 b0 (gk - 1) x y (z + 1) ag T3) := HIc.out.zup (fun _ _ h => by rw [HAP.out, q1] at h; cases h) (fun _ _ h => by rw [HAP.out, q3] at h; cases h)
                                  clear HIc
                                  have c0 := HS.out.held.c0
                                  have c1 := HS.out.held.c1
                                  have m1 := HS.out.mat.rows x hx
                                  have m2 := HS.out.mat.rows z hz
                                  obtain ⟨n1, f1⟩ := HS.out.mat.cells x y hx hy
                                  rw [t1] at n1
                                  go_wp2_with fail
                                  refine (apart_is n a cap g x z false _ q1 h10 HG.out HS.out.held.row hx hz).mono ?_
                                  rintro e wc1 ⟨rfl, hbc⟩
                                  have HSN : Hid (HSt w wc1 B r n a cap g T3) := HS.out.step hbc
                                  clear c0 c1 m1 m2 n1 f1 HS hbc
                                  have HS := HSN
                                  clear HSN
                                  have c0 := HS.out.held.c0
                                  have c1 := HS.out.held.c1
                                  have m1 := HS.out.mat.rows x hx
                                  have m2 := HS.out.mat.rows z hz
                                  obtain ⟨n1, f1⟩ := HS.out.mat.cells x y hx hy
                                  rw [t1] at n1
                                  go_wp2_with fail
                                  refine (apart_is n a cap g z y false _ q3 h10 HG.out HS.out.held.row hz hy).mono ?_
                                  rintro e wc2 ⟨rfl, hbc⟩
                                  have HSN : Hid (HSt w wc2 B r n a cap g T3) := HS.out.step hbc
                                  clear c0 c1 m1 m2 n1 f1 HS hbc
                                  have HS := HSN
                                  clear HSN
                                  have c0 := HS.out.held.c0
                                  have c1 := HS.out.held.c1
                                  have m1 := HS.out.mat.rows x hx
                                  have m2 := HS.out.mat.rows z hz
                                  obtain ⟨n1, f1⟩ := HS.out.mat.cells x y hx hy
                                  rw [t1] at n1
                                  go_wp2_with fail
                                  go_roundw
                                  case rel => exact ⟨z + 1, ag, _, by omega, by go_num, rfl, HIN.out, HS.out⟩
                                  case measure => simp [intOf]; omega
                                · have q3 : apt (ltU g n) n z y = true := by rw [apt_apt.sym]; exact q2
                                  rcases (Bool.eq_false_or_eq_true (T3 z y)).symm with t2 | t2
                                  · skip
                                    have HIN : Hid (HI n ap L a0 b0 (gk - 1) x y (z + 1) true (upd2 T3 z y)) := HIc.out.lay HLN.out.1 hz hy t1 (by rw [HAP.out]; exact .inr ⟨rfl, hz, HZX.out, HZY.out, q3, q1⟩) t2
                                    clear HIc
                                    have c0 := HS.out.held.c0
                                    have c1 := HS.out.held.c1
                                    have m1 := HS.out.mat.rows x hx
                                    have m2 := HS.out.mat.rows z hz
                                    obtain ⟨n1, f1⟩ := HS.out.mat.cells x y hx hy
                                    rw [t1] at n1
                                    obtain ⟨n2, fn2⟩ := HS.out.mat.cells z y hz hy
                                    rw [t2] at n2
                                    go_wp2_with fail
                                    refine (apart_is n a cap g x z false _ q1 h10 HG.out HS.out.held.row hx hz).mono ?_
                                    rintro e wc1 ⟨rfl, hbc⟩
                                    have HSN : Hid (HSt w wc1 B r n a cap g T3) := HS.out.step hbc
                                    clear c0 c1 m1 m2 n1 f1 n2 fn2 HS hbc
                                    have HS := HSN
                                    clear HSN
                                    have c0 := HS.out.held.c0
                                    have c1 := HS.out.held.c1
                                    have m1 := HS.out.mat.rows x hx
                                    have m2 := HS.out.mat.rows z hz
                                    obtain ⟨n1, f1⟩ := HS.out.mat.cells x y hx hy
                                    rw [t1] at n1
                                    obtain ⟨n2, fn2⟩ := HS.out.mat.cells z y hz hy
                                    rw [t2] at n2
                                    go_wp2_with fail
                                    refine (apart_is n a cap g z y true _ q3 h10 HG.out HS.out.held.row hz hy).mono ?_
                                    rintro e wc2 ⟨rfl, hbc⟩
                                    have HSN : Hid (HSt w wc2 B r n a cap g T3) := HS.out.step hbc
                                    clear c0 c1 m1 m2 n1 f1 n2 fn2 HS hbc
                                    have HS := HSN
                                    clear HSN
                                    have c0 := HS.out.held.c0
                                    have c1 := HS.out.held.c1
                                    have m1 := HS.out.mat.rows x hx
                                    have m2 := HS.out.mat.rows z hz
                                    obtain ⟨n1, f1⟩ := HS.out.mat.cells x y hx hy
                                    rw [t1] at n1
                                    obtain ⟨n2, fn2⟩ := HS.out.mat.cells z y hz hy
                                    rw [t2] at n2
                                    go_wp2_with fail
                                    refine (apart_is n a cap g x z false _ q1 h10 HG.out HS.out.held.row hx hz).mono ?_
                                    rintro e wc3 ⟨rfl, hbc⟩
                                    have HSN : Hid (HSt w wc3 B r n a cap g T3) := HS.out.step hbc
                                    clear c0 c1 m1 m2 n1 f1 n2 fn2 HS hbc
                                    have HS := HSN
                                    clear HSN
                                    have c0 := HS.out.held.c0
                                    have c1 := HS.out.held.c1
                                    have m1 := HS.out.mat.rows x hx
                                    have m2 := HS.out.mat.rows z hz
                                    obtain ⟨n1, f1⟩ := HS.out.mat.cells x y hx hy
                                    rw [t1] at n1
                                    obtain ⟨n2, fn2⟩ := HS.out.mat.cells z y hz hy
                                    rw [t2] at n2
                                    have HSN : Hid (HSt w ((wc3).setCell ⟨r z, y, none⟩ (.bool true)) B r n a cap g (upd2 T3 z y)) := HS.out.set HR.out hz hy
                                    go_wp2_with fail
                                    clear c0 c1 m1 m2 n1 f1 n2 fn2 HS
                                    have HS := HSN
                                    clear HSN
                                    go_roundw
                                    case rel => exact ⟨z + 1, true, _, by omega, by go_num, rfl, HIN.out, HS.out⟩
                                    case measure => simp [intOf]; omega
                                  · skip
                                    have HIN : Hid (HI n ap L a0 b0 (gk - 1) x y (z + 1) ag T3) := HIc.out.zup (fun _ _ h => by rw [HAP.out, q1] at h; cases h) (fun _ _ _ _ => t2)
                                    clear HIc
                                    have c0 := HS.out.held.c0
                                    have c1 := HS.out.held.c1
                                    have m1 := HS.out.mat.rows x hx
                                    have m2 := HS.out.mat.rows z hz
                                    obtain ⟨n1, f1⟩ := HS.out.mat.cells x y hx hy
                                    rw [t1] at n1
                                    obtain ⟨n2, fn2⟩ := HS.out.mat.cells z y hz hy
                                    rw [t2] at n2
                                    go_wp2_with fail
                                    refine (apart_is n a cap g x z false _ q1 h10 HG.out HS.out.held.row hx hz).mono ?_
                                    rintro e wc1 ⟨rfl, hbc⟩
                                    have HSN : Hid (HSt w wc1 B r n a cap g T3) := HS.out.step hbc
                                    clear c0 c1 m1 m2 n1 f1 n2 fn2 HS hbc
                                    have HS := HSN
                                    clear HSN
                                    have c0 := HS.out.held.c0
                                    have c1 := HS.out.held.c1
                                    have m1 := HS.out.mat.rows x hx
                                    have m2 := HS.out.mat.rows z hz
                                    obtain ⟨n1, f1⟩ := HS.out.mat.cells x y hx hy
                                    rw [t1] at n1
                                    obtain ⟨n2, fn2⟩ := HS.out.mat.cells z y hz hy
                                    rw [t2] at n2
                                    go_wp2_with fail
                                    refine (apart_is n a cap g z y true _ q3 h10 HG.out HS.out.held.row hz hy).mono ?_
                                    rintro e wc2 ⟨rfl, hbc⟩
                                    have HSN : Hid (HSt w wc2 B r n a cap g T3) := HS.out.step hbc
                                    clear c0 c1 m1 m2 n1 f1 n2 fn2 HS hbc
                                    have HS := HSN
                                    clear HSN
                                    have c0 := HS.out.held.c0
                                    have c1 := HS.out.held.c1
                                    have m1 := HS.out.mat.rows x hx
                                    have m2 := HS.out.mat.rows z hz
                                    obtain ⟨n1, f1⟩ := HS.out.mat.cells x y hx hy
                                    rw [t1] at n1
                                    obtain ⟨n2, fn2⟩ := HS.out.mat.cells z y hz hy
                                    rw [t2] at n2
                                    go_wp2_with fail
                                    refine (apart_is n a cap g x z false _ q1 h10 HG.out HS.out.held.row hx hz).mono ?_
                                    rintro e wc3 ⟨rfl, hbc⟩
                                    have HSN : Hid (HSt w wc3 B r n a cap g T3) := HS.out.step hbc
                                    clear c0 c1 m1 m2 n1 f1 n2 fn2 HS hbc
                                    have HS := HSN
                                    clear HSN
                                    have c0 := HS.out.held.c0
                                    have c1 := HS.out.held.c1
                                    have m1 := HS.out.mat.rows x hx
                                    have m2 := HS.out.mat.rows z hz
                                    obtain ⟨n1, f1⟩ := HS.out.mat.cells x y hx hy
                                    rw [t1] at n1
                                    obtain ⟨n2, fn2⟩ := HS.out.mat.cells z y hz hy
                                    rw [t2] at n2
                                    go_wp2_with fail
                                    go_roundw
                                    case rel => exact ⟨z + 1, ag, _, by omega, by go_num, rfl, HIN.out, HS.out⟩
                                    case measure => simp [intOf]; omega
                              · rcases (Bool.eq_false_or_eq_true (apt (ltU g n) n y z)).symm with q2 | q2
                                · have q3 : apt (ltU g n) n z y = false := by rw [apt_apt.sym]; exact q2
                                  rcases (Bool.eq_false_or_eq_true (T3 x z)).symm with t2 | t2
                                  · skip
                                    have HIN : Hid (HI n ap L a0 b0 (gk - 1) x y (z + 1) true (upd2 T3 x z)) := HIc.out.lay HLN.out.1 hx hz t1 (by rw [HAP.out]; exact .inl ⟨rfl, hz, HZX.out, HZY.out, q1, q2⟩) t2
                                    clear HIc
                                    have c0 := HS.out.held.c0
                                    have c1 := HS.out.held.c1
                                    have m1 := HS.out.mat.rows x hx
                                    have m2 := HS.out.mat.rows z hz
                                    obtain ⟨n1, f1⟩ := HS.out.mat.cells x y hx hy
                                    rw [t1] at n1
                                    obtain ⟨n2, fn2⟩ := HS.out.mat.cells x z hx hz
                                    rw [t2] at n2
                                    go_wp2_with fail
                                    refine (apart_is n a cap g x z true _ q1 h10 HG.out HS.out.held.row hx hz).mono ?_
                                    rintro e wc1 ⟨rfl, hbc⟩
                                    have HSN : Hid (HSt w wc1 B r n a cap g T3) := HS.out.step hbc
                                    clear c0 c1 m1 m2 n1 f1 n2 fn2 HS hbc
                                    have HS := HSN
                                    clear HSN
                                    have c0 := HS.out.held.c0
                                    have c1 := HS.out.held.c1
                                    have m1 := HS.out.mat.rows x hx
                                    have m2 := HS.out.mat.rows z hz
                                    obtain ⟨n1, f1⟩ := HS.out.mat.cells x y hx hy
                                    rw [t1] at n1
                                    obtain ⟨n2, fn2⟩ := HS.out.mat.cells x z hx hz
                                    rw [t2] at n2
                                    go_wp2_with fail
                                    refine (apart_is n a cap g y z false _ q2 h10 HG.out HS.out.held.row hy hz).mono ?_
                                    rintro e wc2 ⟨rfl, hbc⟩
                                    have HSN : Hid (HSt w wc2 B r n a cap g T3) := HS.out.step hbc
                                    clear c0 c1 m1 m2 n1 f1 n2 fn2 HS hbc
                                    have HS := HSN
                                    clear HSN
                                    have c0 := HS.out.held.c0
                                    have c1 := HS.out.held.c1
                                    have m1 := HS.out.mat.rows x hx
                                    have m2 := HS.out.mat.rows z hz
                                    obtain ⟨n1, f1⟩ := HS.out.mat.cells x y hx hy
                                    rw [t1] at n1
                                    obtain ⟨n2, fn2⟩ := HS.out.mat.cells x z hx hz
                                    rw [t2] at n2
                                    have HSN : Hid (HSt w ((wc2).setCell ⟨r x, z, none⟩ (.bool true)) B r n a cap g (upd2 T3 x z)) := HS.out.set HR.out hx hz
                                    have K0 := HSN.out.held.c0
                                    have K1 := HSN.out.held.c1
                                    go_wp2_with fail
                                    clear c0 c1 m1 m2 n1 f1 n2 fn2 HS
                                    have HS := HSN
                                    clear HSN K0 K1
                                    refine (apart_is n a cap g z y false _ q3 h10 HG.out HS.out.held.row hz hy).mono ?_
                                    rintro e wd ⟨rfl, hbc⟩
                                    have HSN : Hid (HSt w wd B r n a cap g (upd2 T3 x z)) := HS.out.step hbc
                                    clear HS hbc
                                    have HS := HSN
                                    clear HSN
                                    have c0 := HS.out.held.c0
                                    have c1 := HS.out.held.c1
                                    go_wp2_with fail
                                    go_roundw
                                    case rel => exact ⟨z + 1, true, _, by omega, by go_num, rfl, HIN.out, HS.out⟩
                                    case measure => simp [intOf]; omega
                                  · skip
                                    have HIN : Hid (HI n ap L a0 b0 (gk - 1) x y (z + 1) ag T3) := HIc.out.zup (fun _ _ _ _ => t2) (fun _ _ h => by rw [HAP.out, q3] at h; cases h)
                                    clear HIc
                                    have c0 := HS.out.held.c0
                                    have c1 := HS.out.held.c1
                                    have m1 := HS.out.mat.rows x hx
                                    have m2 := HS.out.mat.rows z hz
                                    obtain ⟨n1, f1⟩ := HS.out.mat.cells x y hx hy
                                    rw [t1] at n1
                                    obtain ⟨n2, fn2⟩ := HS.out.mat.cells x z hx hz
                                    rw [t2] at n2
                                    go_wp2_with fail
                                    refine (apart_is n a cap g x z true _ q1 h10 HG.out HS.out.held.row hx hz).mono ?_
                                    rintro e wc1 ⟨rfl, hbc⟩
                                    have HSN : Hid (HSt w wc1 B r n a cap g T3) := HS.out.step hbc
                                    clear c0 c1 m1 m2 n1 f1 n2 fn2 HS hbc
                                    have HS := HSN
                                    clear HSN
                                    have c0 := HS.out.held.c0
                                    have c1 := HS.out.held.c1
                                    have m1 := HS.out.mat.rows x hx
                                    have m2 := HS.out.mat.rows z hz
                                    obtain ⟨n1, f1⟩ := HS.out.mat.cells x y hx hy
                                    rw [t1] at n1
                                    obtain ⟨n2, fn2⟩ := HS.out.mat.cells x z hx hz
                                    rw [t2] at n2
                                    go_wp2_with fail
                                    refine (apart_is n a cap g y z false _ q2 h10 HG.out HS.out.held.row hy hz).mono ?_
                                    rintro e wc2 ⟨rfl, hbc⟩
                                    have HSN : Hid (HSt w wc2 B r n a cap g T3) := HS.out.step hbc
                                    clear c0 c1 m1 m2 n1 f1 n2 fn2 HS hbc
                                    have HS := HSN
                                    clear HSN
                                    have c0 := HS.out.held.c0
                                    have c1 := HS.out.held.c1
                                    have m1 := HS.out.mat.rows x hx
                                    have m2 := HS.out.mat.rows z hz
                                    obtain ⟨n1, f1⟩ := HS.out.mat.cells x y hx hy
                                    rw [t1] at n1
                                    obtain ⟨n2, fn2⟩ := HS.out.mat.cells x z hx hz
                                    rw [t2] at n2
                                    go_wp2_with fail
                                    refine (apart_is n a cap g z y false _ q3 h10 HG.out HS.out.held.row hz hy).mono ?_
                                    rintro e wc3 ⟨rfl, hbc⟩
                                    have HSN : Hid (HSt w wc3 B r n a cap g T3) := HS.out.step hbc
                                    clear c0 c1 m1 m2 n1 f1 n2 fn2 HS hbc
                                    have HS := HSN
                                    clear HSN
                                    have c0 := HS.out.held.c0
                                    have c1 := HS.out.held.c1
                                    have m1 := HS.out.mat.rows x hx
                                    have m2 := HS.out.mat.rows z hz
                                    obtain ⟨n1, f1⟩ := HS.out.mat.cells x y hx hy
                                    rw [t1] at n1
                                    obtain ⟨n2, fn2⟩ := HS.out.mat.cells x z hx hz
                                    rw [t2] at n2
                                    go_wp2_with fail
                                    go_roundw
                                    case rel => exact ⟨z + 1, ag, _, by omega, by go_num, rfl, HIN.out, HS.out⟩
                                    case measure => simp [intOf]; omega
                                · have q3 : apt (ltU g n) n z y = true := by rw [apt_apt.sym]; exact q2
                                  have HIN : Hid (HI n ap L a0 b0 (gk - 1) x y (z + 1) ag T3) := HIc.out.zup (fun _ _ _ h => by rw [HAP.out, q2] at h; cases h) (fun _ _ _ h => by rw [HAP.out, q1] at h; cases h)
                                  clear HIc
                                  have c0 := HS.out.held.c0
                                  have c1 := HS.out.held.c1
                                  have m1 := HS.out.mat.rows x hx
                                  have m2 := HS.out.mat.rows z hz
                                  obtain ⟨n1, f1⟩ := HS.out.mat.cells x y hx hy
                                  rw [t1] at n1
                                  go_wp2_with fail
                                  refine (apart_is n a cap g x z true _ q1 h10 HG.out HS.out.held.row hx hz).mono ?_
                                  rintro e wc1 ⟨rfl, hbc⟩
                                  have HSN : Hid (HSt w wc1 B r n a cap g T3) := HS.out.step hbc
                                  clear c0 c1 m1 m2 n1 f1 HS hbc
                                  have HS := HSN
                                  clear HSN
                                  have c0 := HS.out.held.c0
                                  have c1 := HS.out.held.c1
                                  have m1 := HS.out.mat.rows x hx
                                  have m2 := HS.out.mat.rows z hz
                                  obtain ⟨n1, f1⟩ := HS.out.mat.cells x y hx hy
                                  rw [t1] at n1
                                  go_wp2_with fail
                                  refine (apart_is n a cap g y z true _ q2 h10 HG.out HS.out.held.row hy hz).mono ?_
                                  rintro e wc2 ⟨rfl, hbc⟩
                                  have HSN : Hid (HSt w wc2 B r n a cap g T3) := HS.out.step hbc
                                  clear c0 c1 m1 m2 n1 f1 HS hbc
                                  have HS := HSN
                                  clear HSN
                                  have c0 := HS.out.held.c0
                                  have c1 := HS.out.held.c1
                                  have m1 := HS.out.mat.rows x hx
                                  have m2 := HS.out.mat.rows z hz
                                  obtain ⟨n1, f1⟩ := HS.out.mat.cells x y hx hy
                                  rw [t1] at n1
                                  go_wp2_with fail
                                  refine (apart_is n a cap g z y true _ q3 h10 HG.out HS.out.held.row hz hy).mono ?_
                                  rintro e wc3 ⟨rfl, hbc⟩
                                  have HSN : Hid (HSt w wc3 B r n a cap g T3) := HS.out.step hbc
                                  clear c0 c1 m1 m2 n1 f1 HS hbc
                                  have HS := HSN
                                  clear HSN
                                  have c0 := HS.out.held.c0
                                  have c1 := HS.out.held.c1
                                  have m1 := HS.out.mat.rows x hx
                                  have m2 := HS.out.mat.rows z hz
                                  obtain ⟨n1, f1⟩ := HS.out.mat.cells x y hx hy
                                  rw [t1] at n1
                                  go_wp2_with fail
                                  refine (apart_is n a cap g x z true _ q1 h10 HG.out HS.out.held.row hx hz).mono ?_
                                  rintro e wc4 ⟨rfl, hbc⟩
                                  have HSN : Hid (HSt w wc4 B r n a cap g T3) := HS.out.step hbc
                                  clear c0 c1 m1 m2 n1 f1 HS hbc
                                  have HS := HSN
                                  clear HSN
                                  have c0 := HS.out.held.c0
                                  have c1 := HS.out.held.c1
                                  have m1 := HS.out.mat.rows x hx
                                  have m2 := HS.out.mat.rows z hz
                                  obtain ⟨n1, f1⟩ := HS.out.mat.cells x y hx hy
                                  rw [t1] at n1
                                  go_wp2_with fail
                                  go_roundw
                                  case rel => exact ⟨z + 1, ag, _, by omega, by go_num, rfl, HIN.out, HS.out⟩
                                  case measure => simp [intOf]; omega
                            · obtain rfl : n = z := by omega
                              have HIN : Hid (HI n ap L a0 b0 (gk - 1) x (y + 1) 0 ag T3) := HIc.out.yout (.inl (Nat.le_refl _))
                              clear HIc
                              go_wp2_with fail
                              go_roundw
                              case rel => exact ⟨y + 1, ag, T3, by omega, by go_num, rfl, HIN.out, HS.out⟩
                              case measure => simp [intOf]; omega
                        · obtain rfl : n = y := by omega
                          have HIN : Hid (HI n ap L a0 b0 (gk - 1) (x + 1) 0 0 ag T2) := HI2.out.xout
                          clear HI2
                          go_wp2_with fail
                          go_roundw
                          case rel => exact ⟨x + 1, ag, T2, by omega, by go_num, rfl, HIN.out, HS2.out⟩
                          case measure => simp [intOf]; omega
                    · obtain rfl : n = x := by omega
                      go_wp2_with fail
                      go_roundg (gk - 1)
                      case rel => exact ⟨ag, T1, rfl, HI1.out, HS1.out⟩
                      case measure => have := HGK.out; omega
            · obtain rfl : n = b0 := by omega
              have HLX : Hid (Lain n ap L (a0 + 1) 0) := HLN.out.next HA.out
              clear HLN
              go_wp2_with fail
              go_roundw
              case rel => exact ⟨a0 + 1, L, by omega, by go_num, HLX.out, HS.out⟩
              case measure => simp [intOf]; omega
        · obtain rfl : n = a0 := by omega
          have HYES : Hid ((∀ x y, x < n → y < n → T0 x y = true → T0 y x = false) → RzS (· < n) (ltU g n) 2) := fun h => by
            have h1 := HLA.out
            rw [HAP.out] at h1
            exact h1.yes HSR.out h
          have HNO : Hid (∀ x y, T0 x y = true → T0 y x = true → ¬ RzS (· < n) (ltU g n) 2) := fun x y h2 h3 => by
            have h1 := HLA.out
            rw [HAP.out] at h1
            exact h1.no HSR.out h2 h3
          have HSZ := HSA
          clear HSA HLA
          go_wp2_with fail
          go_loopw [12] (fun t wx => ∃ x : Nat, x ≤ n ∧ t = .int .i64 x ∧ Hid (∀ p q, p < x → q < n → T0 p q = true → T0 q p = false) ∧ Hid (HSt w wx B r n a cap g T0)) (fun t _ => n - (intOf t).toNat)
          case atStart => exact ⟨0, Nat.zero_le _, rfl, fun p q h => absurd h (Nat.not_lt_zero _), HSZ.out⟩
          case round =>
            obtain ⟨x, hx', rfl, HNX, HS1⟩ := hrel
            clear HSZ
            by_cases hx : x < n
            · have hxx : (x : Int) < (n : Int) := by omega
              go_wp2_with fail
              go_loopw [13] (fun t wx => ∃ y : Nat, y ≤ n ∧ t = .int .i64 y ∧ Hid (∀ q, q < y → T0 x q = true → T0 q x = false) ∧ Hid (HSt w wx B r n a cap g T0)) (fun t _ => n - (intOf t).toNat)
              case atStart => exact ⟨0, Nat.zero_le _, rfl, fun q h => absurd h (Nat.not_lt_zero _), HS1.out⟩
              case round =>
                obtain ⟨y, hy', rfl, HNY, HS⟩ := hrel
                clear HS1
                by_cases hy : y < n
                · have hyx : (y : Int) < (n : Int) := by omega
                  have m1 := HS.out.mat.rows x hx
                  have m2 := HS.out.mat.rows y hy
                  obtain ⟨n1, f1⟩ := HS.out.mat.cells x y hx hy
                  obtain ⟨n2, f2⟩ := HS.out.mat.cells y x hy hx
                  rcases (Bool.eq_false_or_eq_true (T0 x y)).symm with t1 | t1
                  · have HN2 : Hid (∀ q, q < y + 1 → T0 x q = true → T0 q x = false) := fun q hq h => by
                      by_cases e : q = y
                      · subst e; rw [t1] at h; cases h
                      · exact HNY.out q (by omega) h
                    rw [t1] at n1
                    go_wp2_with fail
                    go_roundw
                    case rel => exact ⟨y + 1, by omega, by go_num, HN2.out, HS.out⟩
                    case measure => simp [intOf]; omega
                  rcases (Bool.eq_false_or_eq_true (T0 y x)).symm with t2 | t2
                  · have HN2 : Hid (∀ q, q < y + 1 → T0 x q = true → T0 q x = false) := fun q hq h => by
                      by_cases e : q = y
                      · subst e; exact t2
                      · exact HNY.out q (by omega) h
                    rw [t1] at n1
                    rw [t2] at n2
                    go_wp2_with fail
                    go_roundw
                    case rel => exact ⟨y + 1, by omega, by go_num, HN2.out, HS.out⟩
                    case measure => simp [intOf]; omega
                  · have HF : Hid (¬ RzS (· < n) (ltU g n) 2) := HNO.out x y t1 t2
                    have HBF : Hid (Below w.heap.size w wr) := HS.out.bel
                    rw [t1] at n1
                    rw [t2] at n2
                    go_wp2_with fail
                    go_ret
                    exact ⟨Ans.no HF.out, HBF.out⟩
                · obtain rfl : n = y := by omega
                  have HN2 : Hid (∀ p q, p < x + 1 → q < n → T0 p q = true → T0 q p = false) := fun p q hp hq h => by
                    by_cases e : p = x
                    · subst e; exact HNY.out q hq h
                    · exact HNX.out p q (by omega) hq h
                  go_wp2_with fail
                  go_roundw
                  case rel => exact ⟨x + 1, by omega, by go_num, HN2.out, HS.out⟩
                  case measure => simp [intOf]; omega
            · obtain rfl : n = x := by omega
              have HF : Hid (RzS (· < n) (ltU g n) 2) := HYES.out fun p q hp hq h => HNX.out p q hp hq h
              have HBF : Hid (Below w.heap.size w wr) := HS1.out.bel
              go_wp2_with fail
              go_ret
              exact ⟨Ans.yes HF.out, HBF.out⟩
end Go.Proofs.Ytklfnghgpmjnmaa
