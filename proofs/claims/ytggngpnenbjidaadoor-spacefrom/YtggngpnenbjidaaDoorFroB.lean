/-
  What the function literal of the reference's SpaceOf answers. Conditions: as the theorem says.
-/
import Derived.Test.YtggngpnenbjidaaDoorFroA
namespace Go.Proofs.YtggngpnenbjidaaDoor
set_option maxRecDepth 100000
open Go.RowKit

theorem ent_space : Ent 44 := fun _ _ => by kernel_rfl
set_option maxHeartbeats 2000000 in
theorem space1_any (B : Nat) (a : Option Addr) (len cap : Nat) (F : Nat → Nat) (x y : Nat) (w : World) (hll : len ≤ 1024) (hF : ∀ k, k < len → F k < 1024) (hx : x < 63) (hy : y < 63) (hc : w.cell? ⟨B, 0, none⟩ = some (.slice a len cap)) (hr : Row w a len (fun k => ((F k : Nat) : Int))) :
    Calls Tryd.prog 44 #[.int .i64 (x : Nat), .int .i64 (y : Nat), .pointer (some ⟨B, 0, none⟩)] w fun e w' => e = .returned (.bool (okT F x y len && decide (x ≠ y))) ∧ Below w.heap.size w w' := by
  have HR : Hid (Row w a len (fun k => ((F k : Nat) : Int))) := hr
  have HF : Hid (∀ k, k < len → F k < 1024) := hF
  clear hr hF
  go_enter Tryd.func44, Tryd.ntmps44
  go_wp2_with fail
  go_loop [6] (fun i => ∃ k : Nat, k ≤ len ∧ i = .int .i64 k ∧ Hid (okT F x y k = true)) (fun i => len - (intOf i).toNat)
  case atStart => exact ⟨0, Nat.zero_le _, rfl, rfl⟩
  case round =>
    obtain ⟨k, hk, rfl, HK⟩ := hrel
    by_cases hkl : k < len
    · have hkl' : (k : Int) < (len : Int) := by omega
      obtain ⟨b2, o2, rfl, c2⟩ := HR.out k hkl
      have hfk := HF.out k hkl
      have HS : Hid (okT F x y (k + 1) = (okT F x y k && (!(F k).testBit x || (F k).testBit y))) := rfl
      cases hbx : (F k).testBit x
      · have HK2 : Hid (okT F x y (k + 1) = true) := by show _ = _; rw [HS.out, HK.out, hbx]; rfl
        go_wp2_with (go_at_call 30; refine (in_any (F k) x _ (by omega) hx).mono ?_; rintro e w' ⟨rfl, rfl⟩; rw [hbx])
        go_round
        case rel => exact ⟨k + 1, by omega, by go_num, HK2⟩
        case measure => simp [intOf]; omega
      · cases hby : (F k).testBit y
        · have HNO : Hid (okT F x y len = false) := by
            cases e : okT F x y len
            · rfl
            · have := (okT_iff F x y len).1 e k hkl hbx
              rw [hby] at this; cases this
          go_wp2_with fail
          refine (in_any (F k) x _ (by omega) hx).mono ?_
          rintro e w' ⟨rfl, rfl⟩
          rw [hbx]
          go_wp2_with fail
          refine (in_any (F k) y _ (by omega) hy).mono ?_
          rintro e w' ⟨rfl, rfl⟩
          rw [hby]
          go_wp2_with fail
          go_ret
          exact ⟨ret_bool (by rw [HNO.out, Bool.false_and]), Below.refl _ _⟩
        · have HK2 : Hid (okT F x y (k + 1) = true) := by show _ = _; rw [HS.out, HK.out, hbx, hby]; rfl
          go_wp2_with fail
          refine (in_any (F k) x _ (by omega) hx).mono ?_
          rintro e w' ⟨rfl, rfl⟩
          rw [hbx]
          go_wp2_with fail
          refine (in_any (F k) y _ (by omega) hy).mono ?_
          rintro e w' ⟨rfl, rfl⟩
          rw [hby]
          go_wp2_with fail
          go_round
          case rel => exact ⟨k + 1, by omega, by go_num, HK2⟩
          case measure => simp [intOf]; omega
    · obtain rfl : k = len := by omega
      have HE : Hid ((((x : Nat) : Int) != ((y : Nat) : Int)) = (okT F x y k && decide (x ≠ y))) := by
        show _ = _
        rw [HK.out, Bool.true_and]
        by_cases e : x = y
        · subst e; simp
        · have : (((x : Nat) : Int) != ((y : Nat) : Int)) = true := by simp; omega
          rw [this, decide_eq_true e]
      go_wp2_with fail
      go_ret
      exact ⟨ret_bool (HE.out.trans (by simp)), Below.refl _ _⟩
end Go.Proofs.YtggngpnenbjidaaDoor
