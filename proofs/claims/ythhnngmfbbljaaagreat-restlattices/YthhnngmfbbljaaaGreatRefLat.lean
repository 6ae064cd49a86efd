/-
  What the reference's CheckLattice answers, whatever it is handed: what Check must. No condition but that slices read as slices of rows.
-/
import Derived.Test.YthhnngmfbbljaaaGreatLaws
namespace Go.Proofs.YthhnngmfbbljaaaGreat
open Go.RowKit

def I3 (m j : Nat → Nat → Nat) (x : Nat) : Prop := m x x = x ∧ j x x = x
def C3 (m j : Nat → Nat → Nat) (x y : Nat) : Prop := m x y = m y x ∧ j x y = j y x ∧ m x (j x y) = x ∧ j x (m x y) = x
def A3 (m j : Nat → Nat → Nat) (x y z : Nat) : Prop := m x (m y z) = m (m x y) z ∧ j x (j y z) = j (j x y) z
def Full (n : Nat) (m j : Nat → Nat → Nat) (x : Nat) : Prop := I3 m j x ∧ ∀ y, y < n → C3 m j x y ∧ ∀ z, z < n → A3 m j x y z
theorem full_iff {n : Nat} {m j : Nat → Nat → Nat} : (Lws n m j ∧ Lws n j m) ↔ ∀ x, x < n → Full n m j x := by
  rw [lws_iff, lws_iff]
  constructor
  · rintro ⟨h1, h2⟩ x hx
    refine ⟨⟨(h1 x x x hx hx hx).1, (h2 x x x hx hx hx).1⟩, fun y hy => ⟨⟨(h1 x y x hx hy hx).2.1, (h2 x y x hx hy hx).2.1, (h1 x y x hx hy hx).2.2.2, (h2 x y x hx hy hx).2.2.2⟩, fun z hz => ⟨(h1 x y z hx hy hz).2.2.1, (h2 x y z hx hy hz).2.2.1⟩⟩⟩
  · intro h
    refine ⟨fun x y z hx hy hz => ?_, fun x y z hx hy hz => ?_⟩
    · obtain ⟨i, c⟩ := h x hx
      obtain ⟨c, a⟩ := c y hy
      exact ⟨i.1, c.1, (a z hz).1, c.2.2.1⟩
    · obtain ⟨i, c⟩ := h x hx
      obtain ⟨c, a⟩ := c y hy
      exact ⟨i.2, c.2.1, (a z hz).2, c.2.2.2⟩
theorem bne_of {a b : Nat} (h : a = b) : (((a : Nat) : Int) != ((b : Nat) : Int)) = false := by simp [h]
theorem bne_not {a b : Nat} (h : ¬ a = b) : (((a : Nat) : Int) != ((b : Nat) : Int)) = true := by simp; omega

set_option maxRecDepth 100000 in
set_option maxHeartbeats 8000000 in
theorem checkLattice_any (n : Int) (a : Option Addr) (la ca : Nat) (SA : Nat → Option Addr × Nat × Nat) (FA : Nat → Nat → Int) (b : Option Addr) (lb cb : Nat) (SB : Nat → Option Addr × Nat × Nat) (FB : Nat → Nat → Int) (w : World) (hla : la ≤ maxLen) (hlb : lb ≤ maxLen) (hra : RR w a la SA FA) (hrb : RR w b lb SB FB) :
    Calls Tryz.prog 17 #[.agg #[.int .i64 n, .slice a la ca, .slice b lb cb]] w fun e w' => (∃ c, e = .returned (.int .i64 c) ∧ LCk n la SA FA lb SB FB c) ∧ Below w.heap.size w w' := by
  have B1 : Below w.heap.size w (w.alloc (.cells #[.int .i64 n, .slice a la ca, .slice b lb cb] 27)) := (Below.refl _ _).alloc (Nat.le_refl _) _
  have HL0 : Hid (LB (w.alloc (.cells #[.int .i64 n, .slice a la ca, .slice b lb cb] 27)) w.heap.size n a la ca b lb cb) := LB.new w n a la ca b lb cb
  have HRA : Hid (RR (w.alloc (.cells #[.int .i64 n, .slice a la ca, .slice b lb cb] 27)) a la SA FA) := hra.below B1
  have HRB : Hid (RR (w.alloc (.cells #[.int .i64 n, .slice a la ca, .slice b lb cb] 27)) b lb SB FB) := hrb.below B1
  have HB1 : Hid (Below w.heap.size w (w.alloc (.cells #[.int .i64 n, .slice a la ca, .slice b lb cb] 27))) := B1
  clear hra hrb B1
  have hla2 := hla
  have hlb2 := hlb
  unfold maxLen at hla2 hlb2
  by_cases h1 : n < 1
  · have HN : Hid (LCk n la SA FA lb SB FB 2) := .inl ⟨rfl, by omega⟩
    go_enter Tryz.func17, Tryz.ntmps17
    go_wp2_with fail
    go_ret
    exact ⟨⟨2, rfl, HN.out⟩, HB1.out⟩
  have h1' : decide (n < 1) = false := by simpa using h1
  by_cases h2 : 40 < n
  · have HN : Hid (LCk n la SA FA lb SB FB 2) := .inl ⟨rfl, by omega⟩
    go_enter Tryz.func17, Tryz.ntmps17
    go_wp2_with fail
    go_ret
    exact ⟨⟨2, rfl, HN.out⟩, HB1.out⟩
  have h2' : decide (40 < n) = false := by simpa using h2
  have hn40 : 1 ≤ n ∧ n ≤ 40 := ⟨by omega, by omega⟩
  by_cases h3 : (la : Int) = n
  rotate_left
  · skip
    have h3' : ((la : Int) != n) = true := by simpa using h3
    have HN : Hid (LCk n la SA FA lb SB FB 1) := .inr ⟨hn40, .inl ⟨rfl, fun h => h3 h.1.1⟩⟩
    go_enter Tryz.func17, Tryz.ntmps17
    go_wp2_with fail
    go_ret
    exact ⟨⟨1, rfl, HN.out⟩, HB1.out⟩
  by_cases h4 : (lb : Int) = n
  rotate_left
  · skip
    have h4' : ((lb : Int) != n) = true := by simpa using h4
    have h3' : ((la : Int) != n) = false := by simpa using h3
    have HN : Hid (LCk n la SA FA lb SB FB 1) := .inr ⟨hn40, .inl ⟨rfl, fun h => h4 h.2.1⟩⟩
    clear h3
    go_enter Tryz.func17, Tryz.ntmps17
    go_wp2_with fail
    go_ret
    exact ⟨⟨1, rfl, HN.out⟩, HB1.out⟩
  obtain ⟨q, rfl⟩ := Int.eq_ofNat_of_zero_le (show 0 ≤ n by omega)
  obtain rfl : la = q := by omega
  obtain rfl : lb = la := by omega
  clear h3 h4
  have h1q : 1 ≤ lb := by omega
  have h40 : lb ≤ 40 := by omega
  have HN40 : Hid (1 ≤ (lb : Int) ∧ (lb : Int) ≤ 40) := hn40
  clear h1 h2 hn40
  go_enter Tryz.func17, Tryz.ntmps17
  go_wp2_with fail
  generalize w.alloc (.cells #[.int .i64 (lb : Int), .slice a lb ca, .slice b lb cb] 27) = W at *
  clear h1' h2'
  go_loopw [3] (fun i wx => ∃ k : Nat, k ≤ lb ∧ i = .int .i64 k ∧ Hid (Below W.heap.size W wx) ∧ Hid (∀ j, j < k → ((SA j).2.1 : Int) = (lb : Int) ∧ ((SB j).2.1 : Int) = (lb : Int))) (fun i _ => lb - (intOf i).toNat)
  case atStart => exact ⟨0, Nat.zero_le _, rfl, Below.refl _ _, fun j hj => absurd hj (Nat.not_lt_zero _)⟩
  case round =>
    obtain ⟨k, hk, rfl, HW, HK⟩ := hrel
    have L1 := HL0.out.step HW.out
    have l0 := L1.1
    have l1 := L1.2.1
    have l2 := L1.2.2
    by_cases hlt : k < lb
    · obtain ⟨b1, o1, rfl, hc1, hm1, _⟩ := (HRA.out.below HW.out) k hlt
      obtain ⟨b2, o2, rfl, hc2, hm2, _⟩ := (HRB.out.below HW.out) k hlt
      unfold maxLen at hm1 hm2
      have hk' : (k : Int) < (lb : Int) := by omega
      by_cases e1 : ((SA k).2.1 : Int) = (lb : Int)
      · have e1' : (((SA k).2.1 : Int) != (lb : Int)) = false := by simpa using e1
        by_cases e2 : ((SB k).2.1 : Int) = (lb : Int)
        · have e2' : (((SB k).2.1 : Int) != (lb : Int)) = false := by simpa using e2
          have HN : Hid (∀ j, j < k + 1 → ((SA j).2.1 : Int) = (lb : Int) ∧ ((SB j).2.1 : Int) = (lb : Int)) := fun j hj => by
            by_cases e : j = k
            · subst e; exact ⟨e1, e2⟩
            · exact HK.out j (by omega)
          clear HK e1 e2
          go_wp2_with fail
          go_big_quiet (fail)
          go_wp2_with fail
          go_roundw
          case rel => exact ⟨k + 1, by omega, by go_num, below_drewN HW.out _, HN.out⟩
          case measure => simp [intOf]; omega
        · have e2' : (((SB k).2.1 : Int) != (lb : Int)) = true := by simpa using e2
          have HN : Hid (LCk lb lb SA FA lb SB FB 1) := .inr ⟨HN40.out, .inl ⟨rfl, fun h => e2 (h.2.2 k hlt)⟩⟩
          clear HK e1 e2
          go_wp2_with fail
          go_big_quiet (fail)
          go_wp2_with fail
          go_ret
          exact ⟨⟨1, rfl, HN.out⟩, Below.then HB1.out (below_drewN HW.out _)⟩
      · have e1' : (((SA k).2.1 : Int) != (lb : Int)) = true := by simpa using e1
        have HN : Hid (LCk lb lb SA FA lb SB FB 1) := .inr ⟨HN40.out, .inl ⟨rfl, fun h => e1 (h.1.2 k hlt)⟩⟩
        clear HK e1
        go_wp2_with fail
        go_big_quiet (fail)
        go_wp2_with fail
        go_ret
        exact ⟨⟨1, rfl, HN.out⟩, Below.then HB1.out (below_drewN HW.out _)⟩
    · obtain rfl : k = lb := by omega
      have HS : Hid (Sq k k SA ∧ Sq k k SB) := ⟨⟨rfl, fun j hj => (HK.out j hj).1⟩, rfl, fun j hj => (HK.out j hj).2⟩
      have HSL : Hid (∀ j, j < k → (SA j).2.1 = k ∧ (SB j).2.1 = k) := fun j hj => by have := HK.out j hj; omega
      clear HK hlt hk
      go_wp2_with fail
      clear l0 l1 l2 L1
      go_loopw [4] (fun i wx => ∃ x : Nat, x ≤ k ∧ i = .int .i64 x ∧ Hid (Below W.heap.size W wx) ∧ Hid (∀ j, j < x → ∀ y, y < k → (0 ≤ FA j y ∧ FA j y < k) ∧ (0 ≤ FB j y ∧ FB j y < k))) (fun i _ => k - (intOf i).toNat)
      case atStart => exact ⟨0, Nat.zero_le _, rfl, HW.out, fun j hj => absurd hj (Nat.not_lt_zero _)⟩
      case round =>
        clear HW
        obtain ⟨x, hx, rfl, HW, HX⟩ := hrel
        have l0 := (HL0.out.step HW.out).1
        by_cases hxl : x < k
        · go_wp2_with fail
          clear l0
          go_loopw [5] (fun i wx => ∃ y : Nat, y ≤ k ∧ i = .int .i64 y ∧ Hid (Below W.heap.size W wx) ∧ Hid (∀ t, t < y → (0 ≤ FA x t ∧ FA x t < k) ∧ (0 ≤ FB x t ∧ FB x t < k))) (fun i _ => k - (intOf i).toNat)
          case atStart => first | exact ⟨0, Nat.zero_le _, rfl, HW.out, fun j hj => absurd hj (Nat.not_lt_zero _)⟩
          case round =>
            clear HW
            obtain ⟨y, hy, rfl, HW, HY⟩ := hrel
            have L1 := HL0.out.step HW.out
            have l0 := L1.1
            by_cases hyl : y < k
            · have l1 := L1.2.1
              have l2 := L1.2.2
              obtain ⟨b1, o1, rfl, hc1, _, hr1⟩ := (HRA.out.below HW.out) x hxl
              obtain ⟨b2, o2, rfl, hc2, _, hr2⟩ := (HRB.out.below HW.out) x hxl
              rw [(HSL.out x hxl).1] at hc1 hr1
              rw [(HSL.out x hxl).2] at hc2 hr2
              obtain ⟨r1, p1, hs1, hd1⟩ := hr1 y hyl
              obtain ⟨r2, p2, hs2, hd2⟩ := hr2 y hyl
              rw [hs1] at hc1
              rw [hs2] at hc2
              have hx' : (x : Int) < (k : Int) := by omega
              have hy' : (y : Int) < (k : Int) := by omega
              clear hr1 hr2 hs1 hs2 L1
              by_cases f1 : FA x y < 0
              · have g : decide (FA x y < 0) = true := by simpa using f1
                have HN : Hid (LCk k k SA FA k SB FB 3) := .inr ⟨HN40.out, .inr ⟨HS.out, .inl ⟨rfl, fun h => by
                  have q1 := h.1 x hxl y (by rw [(HSL.out x hxl).1]; exact hyl)
                  have q2 := h.2 x hxl y (by rw [(HSL.out x hxl).2]; exact hyl)
                  omega⟩⟩⟩
                clear HY f1
                as_aux_lemma =>
                  go_wp2_with fail
                  go_big_quiet (fail)
                  go_wp2_with fail
                  go_ret
                  exact ⟨⟨3, rfl, HN.out⟩, Below.then HB1.out (below_drewN HW.out _)⟩
              · have g0 : decide (FA x y < 0) = false := by simpa using f1
                by_cases f2 : (k : Int) ≤ FA x y
                · have g : decide ((k : Int) ≤ FA x y) = true := by simpa using f2
                  have HN : Hid (LCk k k SA FA k SB FB 3) := .inr ⟨HN40.out, .inr ⟨HS.out, .inl ⟨rfl, fun h => by
                    have q1 := h.1 x hxl y (by rw [(HSL.out x hxl).1]; exact hyl)
                    have q2 := h.2 x hxl y (by rw [(HSL.out x hxl).2]; exact hyl)
                    omega⟩⟩⟩
                  clear HY f2
                  as_aux_lemma =>
                    go_wp2_with fail
                    go_big_quiet (fail)
                    go_wp2_with fail
                    go_ret
                    exact ⟨⟨3, rfl, HN.out⟩, Below.then HB1.out (below_drewN HW.out _)⟩
                · have g1 : decide ((k : Int) ≤ FA x y) = false := by simpa using f2
                  by_cases f3 : FB x y < 0
                  · have g : decide (FB x y < 0) = true := by simpa using f3
                    have HN : Hid (LCk k k SA FA k SB FB 3) := .inr ⟨HN40.out, .inr ⟨HS.out, .inl ⟨rfl, fun h => by
                      have q1 := h.1 x hxl y (by rw [(HSL.out x hxl).1]; exact hyl)
                      have q2 := h.2 x hxl y (by rw [(HSL.out x hxl).2]; exact hyl)
                      omega⟩⟩⟩
                    clear HY f3
                    as_aux_lemma =>
                      go_wp2_with fail
                      go_big_quiet (fail)
                      go_wp2_with fail
                      go_ret
                      exact ⟨⟨3, rfl, HN.out⟩, Below.then HB1.out (below_drewN HW.out _)⟩
                  · have g2 : decide (FB x y < 0) = false := by simpa using f3
                    by_cases f4 : (k : Int) ≤ FB x y
                    · have g : decide ((k : Int) ≤ FB x y) = true := by simpa using f4
                      have HN : Hid (LCk k k SA FA k SB FB 3) := .inr ⟨HN40.out, .inr ⟨HS.out, .inl ⟨rfl, fun h => by
                        have q1 := h.1 x hxl y (by rw [(HSL.out x hxl).1]; exact hyl)
                        have q2 := h.2 x hxl y (by rw [(HSL.out x hxl).2]; exact hyl)
                        omega⟩⟩⟩
                      clear HY f4
                      as_aux_lemma =>
                        go_wp2_with fail
                        go_big_quiet (fail)
                        go_wp2_with fail
                        go_ret
                        exact ⟨⟨3, rfl, HN.out⟩, Below.then HB1.out (below_drewN HW.out _)⟩
                    · have g3 : decide ((k : Int) ≤ FB x y) = false := by simpa using f4
                      have HN : Hid (∀ t, t < y + 1 → (0 ≤ FA x t ∧ FA x t < k) ∧ (0 ≤ FB x t ∧ FB x t < k)) := fun t ht => by
                        by_cases e : t = y
                        · subst e; omega
                        · exact HY.out t (by omega)
                      clear HY f1 f2 f3 f4
                      as_aux_lemma =>
                        go_wp2_with fail
                        go_big_quiet (fail)
                        go_wp2_with fail
                        go_roundw
                        case rel => first | exact ⟨y + 1, by omega, by go_num, below_drewN HW.out _, HN.out⟩
                        case measure => simp [intOf]; omega
            · obtain rfl : y = k := by omega
              have HN : Hid (∀ j, j < x + 1 → ∀ t, t < y → (0 ≤ FA j t ∧ FA j t < y) ∧ (0 ≤ FB j t ∧ FB j t < y)) := fun j hj => by
                by_cases e : j = x
                · subst e; exact HY.out
                · exact HX.out j (by omega)
              clear HX HY
              go_wp2_with fail
              go_roundw
              case rel => first | exact ⟨x + 1, by omega, by go_num, HW.out, HN.out⟩
              case measure => simp [intOf]; omega
        · obtain rfl : x = k := by omega
          have HG : Hid (Rg x x SA FA ∧ Rg x x SB FB) := ⟨fun j hj y hy => (HX.out j hj y (by rw [(HSL.out j hj).1] at hy; exact hy)).1, fun j hj y hy => (HX.out j hj y (by rw [(HSL.out j hj).2] at hy; exact hy)).2⟩
          obtain ⟨b1, o1, rfl, ht1, hi1⟩ := HRA.out.tb h1q HS.out.1 HG.out.1
          obtain ⟨b2, o2, rfl, ht2, hi2⟩ := HRB.out.tb h1q HS.out.2 HG.out.2
          have HT1 : Hid (Tb W b1 o1 x (fun k => rAt (SA k)) (nat2 FA)) := ht1
          have HT2 : Hid (Tb W b2 o2 x (fun k => rAt (SB k)) (nat2 FB)) := ht2
          have HI1 : Hid (Inn x (nat2 FA)) := hi1
          have HI2 : Hid (Inn x (nat2 FB)) := hi2
          have HBAD : Hid (∀ y, y < x → ¬ Full x (nat2 FA) (nat2 FB) y → LCk x x SA FA x SB FB 4) := fun y hy h => .inr ⟨HN40.out, .inr ⟨HS.out, .inr ⟨HG.out, .inl ⟨rfl, fun h' => h (full_iff.1 h' y hy)⟩⟩⟩⟩
          have HOK : Hid ((∀ y, y < x → Full x (nat2 FA) (nat2 FB) y) → LCk x x SA FA x SB FB 0) := fun h => .inr ⟨HN40.out, .inr ⟨HS.out, .inr ⟨HG.out, .inr ⟨rfl, full_iff.2 h⟩⟩⟩⟩
          clear HX ht1 ht2 hi1 hi2 hxl hx HRA HRB HS HG HSL
          generalize (fun k => rAt (SA k)) = RA at *
          generalize (fun k => rAt (SB k)) = RB at *
          generalize nat2 FA = m at *
          generalize nat2 FB = j at *
          go_wp2_with fail
          clear l0
          go_loopw [6] (fun i wx => ∃ y : Nat, y ≤ x ∧ i = .int .i64 y ∧ Hid (Below W.heap.size W wx) ∧ Hid (∀ t, t < y → Full x m j t)) (fun i _ => x - (intOf i).toNat)
          case atStart => first | exact ⟨0, Nat.zero_le _, rfl, HW.out, fun t ht => absurd ht (Nat.not_lt_zero _)⟩
          case round =>
            clear HW
            obtain ⟨y, hy, rfl, HW, HY⟩ := hrel
            have L1 := HL0.out.step HW.out
            have l0 := L1.1
            by_cases hyl : y < x
            · have l1 := L1.2.1
              have l2 := L1.2.2
              have T1 := HT1.out.step HW.out
              have T2 := HT2.out.step HW.out
              have r1 := (T1 y hyl).1
              have r2 := (T2 y hyl).1
              have d1 := (T1 y hyl).2 y hyl
              have d2 := (T2 y hyl).2 y hyl
              have hy' : (y : Int) < (x : Int) := by omega
              clear T1 T2 L1
              by_cases f1 : m y y = y
              rotate_left
              · skip
                have g1 := bne_not f1
                have HN : Hid (LCk x x SA FA x SB FB 4) := HBAD.out y hyl (fun h => f1 h.1.1)
                clear HY f1
                go_wp2_with fail
                go_ret
                exact ⟨⟨4, rfl, HN.out⟩, Below.then HB1.out HW.out⟩
              have g1 := bne_of f1
              by_cases f2 : j y y = y
              rotate_left
              · skip
                have g2 := bne_not f2
                have HN : Hid (LCk x x SA FA x SB FB 4) := HBAD.out y hyl (fun h => f2 h.1.2)
                clear HY f1 f2
                go_wp2_with fail
                go_ret
                exact ⟨⟨4, rfl, HN.out⟩, Below.then HB1.out HW.out⟩
              have g2 := bne_of f2
              have HI3 : Hid (I3 m j y) := ⟨f1, f2⟩
              clear f1 f2
              go_wp2_with fail
              clear l0 l1 l2 r1 r2 d1 d2 g1 g2
              go_loopw [7] (fun i wx => ∃ z : Nat, z ≤ x ∧ i = .int .i64 z ∧ Hid (Below W.heap.size W wx) ∧ Hid (∀ t, t < z → C3 m j y t ∧ ∀ s, s < x → A3 m j y t s)) (fun i _ => x - (intOf i).toNat)
              case atStart => first | exact ⟨0, Nat.zero_le _, rfl, HW.out, fun t ht => absurd ht (Nat.not_lt_zero _)⟩
              case round =>
                clear HW
                obtain ⟨z, hz, rfl, HW, HZ⟩ := hrel
                have L1 := HL0.out.step HW.out
                have l0 := L1.1
                by_cases hzl : z < x
                · have l1 := L1.2.1
                  have l2 := L1.2.2
                  have T1 := HT1.out.step HW.out
                  have T2 := HT2.out.step HW.out
                  have hm := HI1.out y z hyl hzl
                  have hj := HI2.out y z hyl hzl
                  have r1 := (T1 y hyl).1
                  have r2 := (T2 y hyl).1
                  have r3 := (T1 z hzl).1
                  have r4 := (T2 z hzl).1
                  have d1 := (T1 y hyl).2 z hzl
                  have d2 := (T2 y hyl).2 z hzl
                  have d3 := (T1 z hzl).2 y hyl
                  have d4 := (T2 z hzl).2 y hyl
                  have d5 := (T1 y hyl).2 _ hj
                  have d6 := (T2 y hyl).2 _ hm
                  have hz' : (z : Int) < (x : Int) := by omega
                  have hm' : ((m y z : Nat) : Int) < (x : Int) := by omega
                  have hj' : ((j y z : Nat) : Int) < (x : Int) := by omega
                  clear T1 T2 L1
                  go_wp2_with fail
                  go_big_quiet (fail)
                  have HWQ : Hid (Below W.heap.size W (wr.drewN nq)) := below_drewN HW.out _
                  by_cases f1 : m y z = m z y
                  rotate_left
                  · skip
                    have g0 := bne_not f1
                    have HN : Hid (LCk x x SA FA x SB FB 4) := HBAD.out y hyl (fun hh => by have h := hh.2 z hzl; exact f1 h.1.1)
                    clear HY HZ f1
                    as_aux_lemma =>
                     go_wp2_with fail
                     go_ret
                     exact ⟨⟨4, rfl, HN.out⟩, Below.then HB1.out HWQ.out⟩
                  have g0 := bne_of f1
                  by_cases f2 : j y z = j z y
                  rotate_left
                  · skip
                    have g1 := bne_not f2
                    have HN : Hid (LCk x x SA FA x SB FB 4) := HBAD.out y hyl (fun hh => by have h := hh.2 z hzl; exact f2 h.1.2.1)
                    clear HY HZ f1 f2
                    as_aux_lemma =>
                     go_wp2_with fail
                     go_ret
                     exact ⟨⟨4, rfl, HN.out⟩, Below.then HB1.out HWQ.out⟩
                  have g1 := bne_of f2
                  by_cases f3 : m y (j y z) = y
                  rotate_left
                  · skip
                    have g2 := bne_not f3
                    have HN : Hid (LCk x x SA FA x SB FB 4) := HBAD.out y hyl (fun hh => by have h := hh.2 z hzl; exact f3 h.1.2.2.1)
                    clear HY HZ f1 f2 f3
                    as_aux_lemma =>
                     go_wp2_with fail
                     go_ret
                     exact ⟨⟨4, rfl, HN.out⟩, Below.then HB1.out HWQ.out⟩
                  have g2 := bne_of f3
                  by_cases f4 : j y (m y z) = y
                  rotate_left
                  · skip
                    have g3 := bne_not f4
                    have HN : Hid (LCk x x SA FA x SB FB 4) := HBAD.out y hyl (fun hh => by have h := hh.2 z hzl; exact f4 h.1.2.2.2)
                    clear HY HZ f1 f2 f3 f4
                    as_aux_lemma =>
                     go_wp2_with fail
                     go_ret
                     exact ⟨⟨4, rfl, HN.out⟩, Below.then HB1.out HWQ.out⟩
                  have g3 := bne_of f4
                  have HC3 : Hid (C3 m j y z) := ⟨f1, f2, f3, f4⟩
                  clear f1 f2 f3 f4
                  go_wp2_with fail
                  clear l0 l1 l2 r1 r2 r3 r4 d1 d2 d3 d4 d5 d6 g0 g1 g2 g3 HW
                  generalize wr.drewN nq = W9 at *
                  go_loopw [10] (fun i wx => ∃ t : Nat, t ≤ x ∧ i = .int .i64 t ∧ Hid (Below W.heap.size W wx) ∧ Hid (∀ s, s < t → A3 m j y z s)) (fun i _ => x - (intOf i).toNat)
                  case atStart => first | exact ⟨0, Nat.zero_le _, rfl, HWQ.out, fun t ht => absurd ht (Nat.not_lt_zero _)⟩
                  case round =>
                    clear HWQ
                    obtain ⟨t, ht, rfl, HW, HTT⟩ := hrel
                    have L1 := HL0.out.step HW.out
                    have l0 := L1.1
                    by_cases htl : t < x
                    · have l1 := L1.2.1
                      have l2 := L1.2.2
                      have T1 := HT1.out.step HW.out
                      have T2 := HT2.out.step HW.out
                      have hm2 := HI1.out z t hzl htl
                      have hj2 := HI2.out z t hzl htl
                      have r1 := (T1 y hyl).1
                      have r2 := (T2 y hyl).1
                      have r3 := (T1 z hzl).1
                      have r4 := (T2 z hzl).1
                      have r5 := (T1 _ hm).1
                      have r6 := (T2 _ hj).1
                      have d1 := (T1 z hzl).2 t htl
                      have d2 := (T2 z hzl).2 t htl
                      have d3 := (T1 y hyl).2 _ hm2
                      have d4 := (T2 y hyl).2 _ hj2
                      have d5 := (T1 _ hm).2 t htl
                      have d6 := (T2 _ hj).2 t htl
                      have ht' : (t : Int) < (x : Int) := by omega
                      have hm2' : ((m z t : Nat) : Int) < (x : Int) := by omega
                      have hj2' : ((j z t : Nat) : Int) < (x : Int) := by omega
                      clear T1 T2 L1
                      by_cases f1 : m y (m z t) = m (m y z) t
                      rotate_left
                      · skip
                        have g0 := bne_not f1
                        have HN : Hid (LCk x x SA FA x SB FB 4) := HBAD.out y hyl (fun hh => f1 ((hh.2 z hzl).2 t htl).1)
                        clear HY HZ HTT f1
                        as_aux_lemma =>
                          go_wp2_with fail
                          go_big_quiet (fail)
                          go_wp2_with fail
                          go_ret
                          exact ⟨⟨4, rfl, HN.out⟩, Below.then HB1.out (below_drewN HW.out _)⟩
                      have g0 := bne_of f1
                      by_cases f2 : j y (j z t) = j (j y z) t
                      rotate_left
                      · skip
                        have g1 := bne_not f2
                        have HN : Hid (LCk x x SA FA x SB FB 4) := HBAD.out y hyl (fun hh => f2 ((hh.2 z hzl).2 t htl).2)
                        clear HY HZ HTT f1 f2
                        as_aux_lemma =>
                          go_wp2_with fail
                          go_big_quiet (fail)
                          go_wp2_with fail
                          go_ret
                          exact ⟨⟨4, rfl, HN.out⟩, Below.then HB1.out (below_drewN HW.out _)⟩
                      have g1 := bne_of f2
                      have HN : Hid (∀ s, s < t + 1 → A3 m j y z s) := fun s hs => by
                        by_cases e : s = t
                        · subst e; exact ⟨f1, f2⟩
                        · exact HTT.out s (by omega)
                      clear HTT f1 f2
                      as_aux_lemma =>
                        go_wp2_with fail
                        go_big_quiet (fail)
                        go_wp2_with fail
                        go_roundw
                        case rel => first | exact ⟨t + 1, by omega, by go_num, below_drewN HW.out _, HN.out⟩
                        case measure => simp [intOf]; omega
                    · obtain rfl : t = x := by omega
                      have HN : Hid (∀ s, s < z + 1 → C3 m j y s ∧ ∀ r, r < t → A3 m j y s r) := fun s hs => by
                        by_cases e : s = z
                        · subst e; exact ⟨HC3.out, HTT.out⟩
                        · exact HZ.out s (by omega)
                      clear HTT HZ
                      go_wp2_with fail
                      go_roundw
                      case rel => first | exact ⟨z + 1, by omega, by go_num, HW.out, HN.out⟩
                      case measure => simp [intOf]; omega
                · obtain rfl : z = x := by omega
                  have HN : Hid (∀ t, t < y + 1 → Full z m j t) := fun t ht => by
                    by_cases e : t = y
                    · subst e; exact ⟨HI3.out, HZ.out⟩
                    · exact HY.out t (by omega)
                  clear HY HZ
                  go_wp2_with fail
                  go_roundw
                  case rel => first | exact ⟨y + 1, by omega, by go_num, HW.out, HN.out⟩
                  case measure => simp [intOf]; omega
            · obtain rfl : y = x := by omega
              have HN : Hid (LCk y y SA FA y SB FB 0) := HOK.out HY.out
              clear HY
              go_wp2_with fail
              go_ret
              exact ⟨⟨0, rfl, HN.out⟩, Below.then HB1.out HW.out⟩
end Go.Proofs.YthhnngmfbbljaaaGreat
