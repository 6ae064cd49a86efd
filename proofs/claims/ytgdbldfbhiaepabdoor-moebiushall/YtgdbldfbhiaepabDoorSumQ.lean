/-
  What moebius.Sums answers. Condition: slices read as slices of numbers.
-/
import Derived.Test.YtgdbldfbhiaepabDoorSumP
import Derived.Test.YtgdbldfbhiaepabDoorMake
namespace Go.Proofs.YtgdbldfbhiaepabDoor
open Go.RowKit Go.Maps

/-- A slice of the call's own at the head of block b. -/
def OwnI (w : World) (b n : Nat) (F : Nat → Int) : Prop := ∀ k, k < n → w.cell? ⟨b, k, none⟩ = some (.int .i64 (F k)) ∧ w.frozen? ⟨b, k, none⟩ = false
def updI (F : Nat → Int) (u : Nat) (v : Int) (k : Nat) : Int := if k = u then v else F k
theorem updI_same (F : Nat → Int) (u : Nat) (v : Int) : updI F u v u = v := by simp [updI]
theorem updI_other (F : Nat → Int) (u : Nat) (v : Int) (k : Nat) (h : k ≠ u) : updI F u v k = F k := by simp [updI, h]
theorem updI_updI (F : Nat → Int) (u : Nat) (x y : Int) : updI (updI F u x) u y = updI F u y := by
  funext i
  by_cases e : i = u
  · subst e; rw [updI_same, updI_same]
  · rw [updI_other _ _ _ _ e, updI_other _ _ _ _ e, updI_other _ _ _ _ e]
/-- The first u of F, noughts behind. -/
def upToI (F : Nat → Int) (u i : Nat) : Int := if i < u then F i else 0
theorem upToI_zero (F : Nat → Int) : upToI F 0 = fun _ => 0 := by funext i; simp [upToI]
theorem upToI_succ (F : Nat → Int) (u : Nat) : upToI F (u + 1) = updI (upToI F u) u (F u) := by
  funext i
  by_cases e : i = u
  · subst e; rw [updI_same]; simp [upToI]
  · rw [updI_other _ _ _ _ e]
    have : (i < u + 1) = (i < u) := by simp; omega
    simp only [upToI, this]
theorem upToI_same (F : Nat → Int) (u : Nat) : updI (upToI F u) u 0 = upToI F u := by
  funext i
  by_cases e : i = u
  · subst e; rw [updI_same]; simp [upToI]
  · rw [updI_other _ _ _ _ e]
theorem OwnI.row {w : World} {b n : Nat} {F : Nat → Int} (h : OwnI w b n F) : Row w (some ⟨b, 0, none⟩) n F := fun k hk => ⟨b, 0, rfl, by rw [Nat.zero_add]; exact (h k hk).1⟩
theorem OwnI.set {w : World} {b n : Nat} {F : Nat → Int} (h : OwnI w b n F) (u : Nat) (v : Int) : OwnI (w.setCell ⟨b, u, none⟩ (.int .i64 v)) b n (updI F u v) := by
  intro k hk
  refine ⟨?_, by rw [World.frozen?_setCell]; exact (h k hk).2⟩
  by_cases e : k = u
  · subst e; rw [updI_same]; exact World.cell?_setCell_same _ _ _ (h k hk).1
  · rw [updI_other _ _ _ _ e, World.cell?_setCell_other _ _ _ _ (fun e2 => e (by injection e2 with _ h2; exact h2.symm))]; exact (h k hk).1
theorem OwnI.below {w w' : World} {b n : Nat} {F : Nat → Int} (h : OwnI w b n F) (hB : Below w.heap.size w w') : OwnI w' b n F := fun k hk =>
  ⟨(hB.cell (World.block_lt_of_cell? _ _ (h k hk).1)).trans (h k hk).1, (hB.frozen (World.block_lt_of_cell? _ _ (h k hk).1)).trans (h k hk).2⟩
theorem OwnI.congr {w : World} {b n : Nat} {F G : Nat → Int} (ho : OwnI w b n F) (e : ∀ k, k < n → F k = G k) : OwnI w b n G := fun k hk => by rw [← e k hk]; exact ho k hk
theorem ownI_made {w : World} {base b m : Nat} (h : w.ownsRow base 3 1 (.slice (some ⟨b, 0, none⟩) m m) m (madeCells (Value.int .i64 0).cells (m * 1)).toList) : OwnI w b m (fun _ => 0) := own_made h
/-- In a store's world, what lies elsewhere lies as it lay. -/
theorem OwnI.ext {w : World} {b n : Nat} {F G : Nat → Int} (ho : OwnI w b n F) (e : F = G) : OwnI w b n G := e ▸ ho

/-- What is summed up at u. -/
def smF (g : Nat → Nat) (F : Nat → Int) (u l : Nat) : Int := if l = u ∨ blw g l u = true then F l else 0
def smI (g : Nat → Nat) (F : Nat → Int) (n u : Nat) : Int := wz (sumI (smF g F u) n)
def SmPost (n : Int) (len : Nat) (f : Nat → Int) (la : Nat) (F : Nat → Int) (T : (Nat → Nat) → (Nat → Int) → Nat → Nat → Int) (e : Ending) (w' : World) : Prop := ∃ (c : Int) (v : Value), SmCk n len f la F c ∧ e = .returned (.tuple #[v, .int .i64 c]) ∧
  ((c ≠ 0 ∧ v = .slice none 0 0) ∨ (c = 0 ∧ ISl w' v len (T (nat f) F len)))

set_option maxHeartbeats 2000000 in
theorem sums_any (n : Int) (a : Option Addr) (len cap : Nat) (f : Nat → Int) (a' : Option Addr) (la cap' : Nat) (F : Nat → Int) (w : World) (hl : len ≤ maxLen) (hla : la ≤ maxLen) (hr : Row w a len f) (hr' : Row w a' la F) :
    Calls Tryd.prog 14 #[.agg #[.int .i64 n, .slice a len cap], .slice a' la cap'] w fun e w' => SmPost n len f la F smI e w' ∧ Below w.heap.size w w' := by
  have K0 : Held (w.alloc (.cells #[.int .i64 n, .slice a len cap] 24)) w.heap.size n a len cap f := Held.box hr
  have HB0 : Hid (Below w.heap.size w (w.alloc (.cells #[.int .i64 n, .slice a len cap] 24))) := (Below.refl _ _).alloc (Nat.le_refl _) _
  have HR : Hid (Row w a' la F) := hr'
  have HLA : Hid (la ≤ maxLen) := hla
  clear hr hr' hla
  go_enter Tryd.func14, Tryd.ntmps14
  go_wp2_with fail
  refine (checkS_any n a len cap f a' la cap' F _ hl HLA.out K0.row (HR.out.below HB0.out)).mono ?_
  rintro e w1 ⟨⟨c, rfl, hc⟩, hb⟩
  have K1 := K0.step hb
  have k0 := K1.c0
  have k1 := K1.c1
  have HB1 : Hid (Below w.heap.size w w1) := Below.then HB0.out hb
  have HC : Hid (SmCk n len f la F c) := hc
  clear hb K0 HB0 hc
  by_cases h0 : c = 0
  · subst h0
    obtain ⟨hck, rfl, hin⟩ : Chk n len f 0 ∧ la = len ∧ ∀ k, k < la → inR (F k) := by
      rcases HC.out with ⟨h, _⟩ | ⟨h, ⟨h1, _⟩ | ⟨h1, ⟨h2, _⟩ | ⟨_, h3⟩⟩⟩
      · exact absurd rfl h
      · cases h1
      · cases h2
      · exact ⟨h, h1, h3⟩
    obtain ⟨rfl, h10, hrng, hord⟩ := hck.good
    have HG : Hid (∀ k, k < la → nat f k < pw la) := hrng.small
    have HRW : Hid (Row w1 a la (fun k => (nat f k : Nat))) := hrng.row K1.row
    have HRF : Hid (Row w1 a' la (fun k => wz (F k))) := (HR.out.below HB1.out).congr fun k hk => (wz_small (by have := (hin k hk).1; omega) (by have := (hin k hk).2; omega)).symm
    clear hck hin hrng hord HR hl HLA
    go_wp2_with fail
    refine (pointsBelow_any la a la cap (nat f) _ HRW.out).mono ?_
    rintro e w2 ⟨⟨caps, rfl, hc8⟩, hb2⟩
    have HCL : Hid (CloL la 33 caps (blw (nat f)) w2) := clo_pb h10 HG.out (hc8 rfl)
    have HB2 : Hid (Below w.heap.size w w2) := Below.then HB1.out hb2
    have HRF2 : Hid (Row w2 a' la (fun k => wz (F k))) := HRF.out.below hb2
    have k0 := (K1.step hb2).c0
    clear hc8 hb2 HB1 HRF HRW K1 k1
    obtain ⟨g, HGF⟩ : ∃ g, Hid (nat f = g) := ⟨_, rfl⟩
    rw [HGF.out] at HG HCL
    obtain ⟨i0, hi, hz0, hz1, hz2⟩ := info_parts Tryd.info3
    go_wp2_with (at_make; refine wpList_make_full _ rfl _ _ 22 rfl w2.heap.size 3 i0 (.int .i64 0) 1 Tryd.underlying22 hi hz0 hz1 .i64 .i64 _ _ la rfl rfl rfl rfl (by rw [hz2]; omega) (by unfold maxLen; omega) (by simp) ?_; intro w3 hown3 hgrow3)
    have HB3 : Hid (Below w2.heap.size w2 w3) := (Below.refl _ _).grown hgrow3 (Nat.le_refl _) (by simp)
    have HO3 : Hid (OwnI w3 w2.heap.size la (upToI (smI g F la) 0)) := by rw [upToI_zero]; exact ownI_made hown3
    clear hown3 hgrow3 hi hz0 hz1 hz2 k0
    go_wp2_with fail
    go_loopw [25] (fun x wx => ∃ u : Nat, u ≤ la ∧ x = .int .i64 u ∧ Hid (OwnI wx w2.heap.size la (upToI (smI g F la) u)) ∧ Hid (Below w2.heap.size w2 wx)) (fun x _ => la - (intOf x).toNat)
    case atStart => exact ⟨0, Nat.zero_le _, rfl, HO3.out, HB3.out⟩
    case round =>
      clear HO3 HB3
      obtain ⟨u, hu, rfl, HO, HW⟩ := hrel
      by_cases hul : u < la
      · have HO2 : Hid (OwnI wr w2.heap.size la (updI (upToI (smI g F la) u) u (wz (sumI (smF g F u) 0)))) := by
          have e : updI (upToI (smI g F la) u) u (wz (sumI (smF g F u) 0)) = upToI (smI g F la) u := by
            rw [show wz (sumI (smF g F u) 0) = 0 by simp [sumI, wz]]; exact upToI_same _ _
          rw [e]; exact HO.out
        have HES : Hid (upToI (smI g F la) (u + 1) = updI (upToI (smI g F la) u) u (wz (sumI (smF g F u) la))) := upToI_succ _ _
        have hlu : (u : Int) < (la : Int) := by omega
        clear HO
        generalize upToI (smI g F la) u = A at *
        go_wp2_with fail
        go_loopw [30] (fun x wx => ∃ k : Nat, k ≤ la ∧ x = .int .i64 k ∧ Hid (OwnI wx w2.heap.size la (updI A u (wz (sumI (smF g F u) k)))) ∧ Hid (Below w2.heap.size w2 wx)) (fun x _ => la - (intOf x).toNat)
        case atStart => exact ⟨0, Nat.zero_le _, rfl, HO2.out, HW.out⟩
        case round =>
          clear HO2 HW
          obtain ⟨k, hk, rfl, HO, HW⟩ := hrel
          by_cases hkl : k < la
          · obtain ⟨bf, off, rfl, hcc⟩ := (HRF2.out.below HW.out).at hkl
            have hck := hcc k hkl
            have hlr : (k : Int) < (la : Int) := by omega
            have HSS : Hid (sumI (smF g F u) (k + 1) = sumI (smF g F u) k + smF g F u k) := rfl
            have HCB := HCL.out k u hkl hul wr HW.out
            clear hcc
            by_cases hku : k = u
            · subst hku
              have HY : Hid (wrap64 (wz (sumI (smF g F k) k) + wz (F k)) = wz (sumI (smF g F k) (k + 1))) := by
                show _ = _
                rw [HSS.out, wz_add, smF, if_pos (.inl rfl)]
              have hcI := (HO.out k hkl).1
              have hfI := (HO.out k hkl).2
              rw [updI_same] at hcI
              clear HSS HCB
              generalize hX : wz (sumI (smF g F k) k) = X at *
              clear hX
              generalize wz (F k) = Y at *
              have hY : wrap64 (X + Y) = wz (sumI (smF g F k) (k + 1)) := HY.out
              go_wp2_with fail
              go_roundw
              case rel => exact ⟨k + 1, by omega, by go_num, by have h := HO.out.set k (wz (sumI (smF g F k) (k + 1))); rw [updI_updI] at h; exact h, HW.out.setCell (p := ⟨w2.heap.size, k, none⟩) (Nat.le_refl _) _⟩
              case measure => simp [intOf]; omega
            · have hne : ((k : Int) == (u : Int)) = false := by simp; omega
              cases hbk : blw g k u
              · have HY : Hid (sumI (smF g F u) (k + 1) = sumI (smF g F u) k) := by
                  show _ = _
                  rw [HSS.out, smF, if_neg (by rw [hbk]; simp [hku])]; exact Int.add_zero _
                rw [hbk] at HCB
                clear hbk HSS
                go_wp2_with fail
                refine HCB.mono ?_
                rintro e w5 ⟨rfl, hb5⟩
                have HW5 : Hid (Below w2.heap.size w2 w5) := Below.then HW.out hb5
                have HO5 : Hid (OwnI w5 w2.heap.size la (updI A u (wz (sumI (smF g F u) k)))) := HO.out.below hb5
                clear HCB hb5 HW HO
                go_wp2_with fail
                go_roundw
                case rel => exact ⟨k + 1, by omega, by go_num, by rw [HY.out]; exact HO5.out, HW5.out⟩
                case measure => simp [intOf]; omega
              · have HY : Hid (wrap64 (wz (sumI (smF g F u) k) + wz (F k)) = wz (sumI (smF g F u) (k + 1))) := by
                  show _ = _
                  rw [HSS.out, wz_add, smF, if_pos (.inr hbk)]
                rw [hbk] at HCB
                clear hbk HSS
                go_wp2_with fail
                refine HCB.mono ?_
                rintro e w5 ⟨rfl, hb5⟩
                have HW5 : Hid (Below w2.heap.size w2 w5) := Below.then HW.out hb5
                have HO5 : Hid (OwnI w5 w2.heap.size la (updI A u (wz (sumI (smF g F u) k)))) := HO.out.below hb5
                have hcI := (HO5.out u hul).1
                have hfI := (HO5.out u hul).2
                rw [updI_same] at hcI
                clear HCB hb5 HW HO hck
                generalize hX : wz (sumI (smF g F u) k) = X at *
                clear hX
                generalize wz (F k) = Y at *
                have hY : wrap64 (X + Y) = wz (sumI (smF g F u) (k + 1)) := HY.out
                go_wp2_with fail
                go_roundw
                case rel => exact ⟨k + 1, by omega, by go_num, by have h := HO5.out.set u (wz (sumI (smF g F u) (k + 1))); rw [updI_updI] at h; exact h, HW5.out.setCell (p := ⟨w2.heap.size, u, none⟩) (Nat.le_refl _) _⟩
                case measure => simp [intOf]; omega
          · obtain rfl : k = la := by omega
            have HO3 : Hid (OwnI wr w2.heap.size k (upToI (smI g F k) (u + 1))) := by rw [HES.out]; exact HO.out
            clear HO
            go_wp2_with fail
            go_roundw
            case rel => exact ⟨u + 1, by omega, by go_num, HO3.out, HW.out⟩
            case measure => simp [intOf]; omega
      · obtain rfl : u = la := by omega
        have HF : Hid (ISl wr (.slice (some ⟨w2.heap.size, 0, none⟩) u u) u (smI g F u)) := ⟨_, _, rfl, (HO.out.congr fun k hk => by simp [upToI, hk]).row⟩
        clear HO
        go_wp2_with fail
        go_ret2
        exact ⟨⟨0, _, HC.out, rfl, .inr ⟨rfl, by rw [HGF.out]; exact HF.out⟩⟩, Below.then HB2.out HW.out⟩
  · have hne : (c != 0) = true := by simpa using h0
    go_wp2_with fail
    go_ret2
    exact ⟨⟨c, _, HC.out, rfl, .inl ⟨h0, rfl⟩⟩, HB1.out⟩
end Go.Proofs.YtgdbldfbhiaepabDoor
