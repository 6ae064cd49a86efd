/-
  The law ScalesDemuth. Condition: a number in its range.
-/
import Derived.Test.YtipgojoiakbaiaaWoG
import Derived.Test.YtipgojoiakbaiaaWoE
import Derived.Test.YtipgojoiakbaiaaChoose
namespace Go.Proofs.Ytipgojoiakbaiaa
open Go.RowKit
set_option maxRecDepth 100000

/-- An order of no sets but empty ones that is built in block w.heap.size. -/
def Bld (w wx : World) (n y : Nat) (v : Value) : Prop := wx.cell? ⟨w.heap.size, 0, none⟩ = some (.int .i64 (n : Nat)) ∧ wx.cell? ⟨w.heap.size, 1, none⟩ = some v ∧ wx.frozen? ⟨w.heap.size, 1, none⟩ = false ∧ wx.ownsRow (w.heap.size + 1) 3 1 v y (rowVals (fun _ => 0) y) ∧ Below w.heap.size w wx
theorem Bld.start (w : World) (n : Nat) : Bld w (w.alloc (.cells #[.int .i64 (n : Nat), .slice none 0 0] 24)) n 0 (.slice none 0 0) :=
  ⟨by simp, by simp, (World.frozen?_alloc_at _ _ _ _ (by simp)), World.ownsRow_nil _ _ _ _, (Below.refl _ _).alloc (Nat.le_refl _) _⟩
theorem Bld.size {w wx : World} {n y : Nat} {v : Value} (h : Bld w wx n y v) : w.heap.size + 1 ≤ wx.heap.size := World.block_lt_of_cell? _ _ h.1
theorem Bld.grown {w wx w1 : World} {o : Obj} {n y : Nat} {v v' : Value} (h : Bld w wx n y v)
    (hown : w1.ownsRow (w.heap.size + 1) 3 1 v' (y + 1) (rowVals (fun _ => 0) y ++ [.int .i64 0])) (hg : (wx.alloc o).grownBy w1 v.ownBlock) :
    w1.cell? ⟨w.heap.size, 1, none⟩ = some v ∧ w1.frozen? ⟨w.heap.size, 1, none⟩ = false ∧ Bld w (w1.setCell ⟨w.heap.size, 1, none⟩ v') n (y + 1) v' := by
  have hs := h.size
  obtain ⟨h1, h2, h3, h4, h5⟩ := h
  have hb0 : Below (w.heap.size + 1) wx (wx.alloc o) := (Below.refl _ _).alloc hs o
  have hb1 : Below (w.heap.size + 1) (wx.alloc o) w1 := (Below.refl _ _).grown hg (by simp; omega) (owns_block h4)
  have hb := hb0.trans hb1
  have c0 := (hb.cell (p := ⟨w.heap.size, 0, none⟩) (by simp)).trans h1
  have c1 := (hb.cell (p := ⟨w.heap.size, 1, none⟩) (by simp)).trans h2
  have f1 := (hb.frozen (p := ⟨w.heap.size, 1, none⟩) (by simp)).trans h3
  refine ⟨c1, f1, ?_, World.cell?_setCell_same _ _ _ c1, by rw [World.frozen?_setCell]; exact f1, ?_, ?_⟩
  · rw [World.cell?_setCell_other _ _ _ _ (fun e => by injection e with _ e2; cases e2)]; exact c0
  · rw [rowVals_succ]; exact ownsRow_setCell_below hown (by simp) _
  · exact (h5.trans (hb.mono (by omega))).setCell (p := ⟨w.heap.size, 1, none⟩) (Nat.le_refl _) _
theorem zero_chkW {n : Nat} (h : n ≤ 5) : WCk n n (fun _ => ((0 : Nat) : Int)) 0 := by
  refine .inr ⟨.inr ⟨n, rfl, by omega, .inr ⟨rfl, .inr ⟨?_, .inr ⟨rfl, ?_⟩⟩⟩⟩, .inr ⟨h, rfl⟩⟩
  · intro k _; have := pw_pos n; exact ⟨Int.le_refl _, by simpa using this⟩
  · intro u _; exact ⟨by simp [nat], fun p _ h => by simp [nat] at h⟩
theorem knw_zero (n : Nat) : knw (nat (fun _ => ((0 : Nat) : Int))) n = fun _ => 0 := by funext p; unfold knw nat; split <;> rfl
theorem dem_cell (w : World) {n : Nat} (h : n < 6) : (w.alloc (.cells #[.int .i64 0, .int .i64 0, .int .i64 1, .int .i64 3, .int .i64 5, .int .i64 7] 3)).cell? ⟨w.heap.size, n, none⟩ = some (.int .i64 (demN n : Nat)) := by
  match n, h with
  | 0, _ => simp [demN]
  | 1, _ => simp [demN]
  | 2, _ => simp [demN]
  | 3, _ => simp [demN]
  | 4, _ => simp [demN]
  | 5, _ => simp [demN]
set_option maxHeartbeats 4000000 in
theorem scalesDemuth_any (c : Int) (w : World) (h1 : -9223372036854775808 ≤ c) (h2 : c ≤ 9223372036854775807) :
    Calls Try.prog 8 #[.int .i64 c] w fun e w' => e = .returned (.bool true) ∧ Below w.heap.size w w' := by
  obtain ⟨i0, hi, hz0, hz1, hz2⟩ := info_parts Try.info3
  go_enter Try.func8, Try.ntmps8
  go_wp2_with fail
  refine (choose_any c 6 w (by omega) (by omega) h1 h2).mono ?_
  rintro e w1 ⟨⟨n, hn, rfl⟩, rfl⟩
  go_wp2_with fail
  go_loopw [4] (fun x wx => ∃ (y : Nat) (v : Value), y ≤ n ∧ x = .int .i64 y ∧ Bld w wx n y v) (fun x _ => n - (intOf x).toNat)
  case atStart => exact ⟨0, _, Nat.zero_le _, rfl, Bld.start w n⟩
  case round =>
    obtain ⟨y, v, hy, rfl, hB⟩ := hrel
    by_cases hyn : y < n
    · have hyni : (y : Int) < (n : Int) := by omega
      have c1 := hB.2.1
      have f1 := hB.2.2.1
      have hown := hB.2.2.2.1
      have hsz := hB.size
      go_wp2_with (at_builtin; refine wpList_append_own _ rfl _ _ 22 rfl (w.heap.size + 1) 3 i0 (.int .i64 0) 1 8 Try.underlying22 hi hz0 hz1 hz2 rfl (by decide) _ _ _ rfl (hown.alloc _) ⟨wr.heap.size, 0, none⟩ 1 1 [.int .i64 0] rfl rfl ?c1 ?c2 ?c3 ?c4 ?c5 ?_)
      case c1 =>
        intro j u hj
        match j, hj with
        | 0, hj => simp at hj; subst hj; simp [Addr.add]
      case c2 => intro u hu; simp at hu; subst hu; rfl
      case c3 => unfold maxLen; omega
      case c4 => omega
      case c5 => simp; omega
      intro v' w1 hown' hgrow _
      obtain ⟨k1, k2, hB'⟩ := hB.grown hown' hgrow
      obtain ⟨g', cap', hv'⟩ := owns_form hown' (by omega)
      have HB2 : Hid (Bld w (w1.setCell ⟨w.heap.size, 1, none⟩ v') n (y + 1) v') := hB'
      rw [hv'] at HB2
      rw [hv']
      clear hB' hB hown hown' hgrow hv' c1 f1
      go_wp2_with fail
      go_roundw
      case rel => exact ⟨y + 1, _, by omega, by go_num, HB2.out⟩
      case measure => simp [intOf]; omega
    · obtain rfl : y = n := by omega
      obtain ⟨a, cap, rfl, hr⟩ := owns_row hB.2.2.2.1
      have c0 := hB.1
      have c1 := hB.2.1
      have HR : Hid (Row wr a y (fun _ => ((0 : Nat) : Int))) := hr
      have HB : Hid (Below w.heap.size w wr) := hB.2.2.2.2
      clear hB hr
      go_wp2_with fail
      refine (cost_any y a y cap (fun _ => ((0 : Nat) : Int)) _ (by unfold maxLen; omega) HR.out).mono ?_
      rintro e w2 ⟨⟨d, v, rfl, hc, hv⟩, hb⟩
      obtain rfl : d = 0 := hc.unique (zero_chkW (by omega))
      obtain rfl : v = (demN y : Nat) := by
        rcases hv with ⟨h, _⟩ | ⟨_, h⟩
        · exact absurd rfl h
        · rw [h, knw_zero, demuth hn]
      have HB2 : Hid (Below w.heap.size w w2) := Below.then HB.out hb
      clear hc hv hb HR HB c0 c1
      go_wp2_with fail
      refine (scalesBegun_any _).mono ?_
      rintro e w4 ⟨rfl, hb4⟩
      have HB4 : Hid (Below w.heap.size w w4) := Below.then HB2.out hb4
      have hdc := dem_cell w4 hn
      have HB5 : Hid (Below w.heap.size w (w4.alloc (.cells #[.int .i64 0, .int .i64 0, .int .i64 1, .int .i64 3, .int .i64 5, .int .i64 7] 3))) := HB4.out.alloc HB4.out.size _
      have hyi : (y : Int) < 6 := by omega
      clear hb4 HB2
      go_wp2_with fail
      go_ret
      exact ⟨rfl, HB5.out⟩
end Go.Proofs.Ytipgojoiakbaiaa
