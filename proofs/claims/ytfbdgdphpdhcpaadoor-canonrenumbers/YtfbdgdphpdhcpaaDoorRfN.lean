/-
  What a call in company sees at its start: the blocks that it is handed, frozen. Condition: they hold cells.
  The two tables, as they lie. No condition but that they are laid.
  What the reference's OrderOf answers of a closure, and Renumbered. Conditions: at most ten points; the list's numbers are points.
-/
import Derived.Test.YtfbdgdphpdhcpaaDoorGqD
import Derived.Test.YtfbdgdphpdhcpaaDoorTie
import Derived.Test.YtfbdgdphpdhcpaaDoorCards
import Derived.Lay
import Derived.SizedLaws
import Derived.SevenTiedAt
import Derived.Stop.Joined
import Derived.ProofKit
import Derived.OpenShut
import Derived.ChangeOld
import Derived.Below
import Derived.Lib.SmallJoins
import Derived.Conc.Holds
import Derived.Conc.LeavingOf
import Derived.Test.YtfbdgdphpdhcpaaDoorCaR
import Derived.Test.YtfbdgdphpdhcpaaDoorLateM
import Derived.Test.YtfbdgdphpdhcpaaDoorSets
import Derived.BigQuiet
namespace Go.Proofs.YtfbdgdphpdhcpaaDoor
open Go Go.Conc Go.RowKit Sm
set_option maxRecDepth 100000

theorem glob2' : Tryd.prog.globals.size = 2 := by kernel_rfl
/-- What stands for a value; numbers for themselves. -/
theorem stand_num (v : Value) : ∃ p, (∀ R : Ren, VR R p v) ∧ ∀ (k : IntKind) (m : Int), v = Value.int k m → p = Value.int k m := by
  cases v with
  | int k m => exact ⟨.int k m, fun R => VR.int R k m, fun k' m' e => e⟩
  | _ =>
    obtain ⟨p, hp⟩ := vr_stand _
    exact ⟨p, hp, fun k m e => by cases e⟩
theorem stand_all : ∃ f : Value → Value, (∀ v (R : Ren), VR R (f v) v) ∧ ∀ (k : IntKind) (m : Int), f (.int k m) = .int k m :=
  ⟨fun v => (stand_num v).choose, fun v R => (stand_num v).choose_spec.1 R, fun k m => (stand_num (Value.int k m)).choose_spec.2 k m rfl⟩
/-- A block of numbers. -/
def NumB (W : World) (b : Nat) : Prop := ∃ (c : Array Value) (t : TypeId) (fr : Nat × Nat), W.heap[b]? = some (.cells c t fr) ∧ ∀ (i : Nat) (u : Value), c[i]? = some u → ∃ k m, u = Value.int k m
def frzO (f : Value → Value) : Obj → Obj
  | .cells c t fr => .cells (c.map f) t (0, max c.size fr.2)
  | o => o
theorem start_view (W : World) (h0 : NumB W 0) (h1 : NumB W 1) (S : List Nat) (hS : ∀ b ∈ S, ∃ c t fr, W.heap[b]? = some (.cells c t fr)) :
    ∃ v0 : World, v0.heap.size = W.heap.size ∧ (∀ b, b ∈ 0 :: 1 :: S → ∀ j k m, W.cell? ⟨b, j, none⟩ = some (.int k m) → v0.cell? ⟨b, j, none⟩ = some (.int k m)) ∧ PureB v0 0 ∧ PureB v0 1 ∧
      ∀ (Fin : Value → World → Prop) (g : Frame), Mc Fin W (fun b b' => b = b' ∧ b ∈ 0 :: 1 :: S) v0 (fun _ => none) none (G g []) → Win Tryd.prog Fin (solo (G g []) W) #[] := by
  obtain ⟨f, hf, hfi⟩ := stand_all
  have hall : ∀ b ∈ 0 :: 1 :: S, ∃ c t fr, W.heap[b]? = some (.cells c t fr) := fun b hb => by
    rcases List.mem_cons.1 hb with rfl | hb
    · obtain ⟨c, t, fr, h, _⟩ := h0; exact ⟨c, t, fr, h⟩
    · rcases List.mem_cons.1 hb with rfl | hb
      · obtain ⟨c, t, fr, h, _⟩ := h1; exact ⟨c, t, fr, h⟩
      · exact hS b hb
  obtain ⟨v0, hv0⟩ : ∃ v0 : World, v0 = { W with heap := W.heap.mapIdx fun b o => if b ∈ 0 :: 1 :: S then frzO f o else o } := ⟨_, rfl⟩
  have hh : ∀ b, v0.heap[b]? = (W.heap[b]?).map fun o => if b ∈ 0 :: 1 :: S then frzO f o else o := fun b => by
    rw [hv0]
    exact Array.getElem?_mapIdx
  have hin : ∀ b ∈ 0 :: 1 :: S, ∀ c t fr, W.heap[b]? = some (.cells c t fr) → v0.heap[b]? = some (.cells (c.map f) t (0, max c.size fr.2)) := fun b hb c t fr h => by
    rw [hh, h, Option.map_some, if_pos hb]
    rfl
  have gs : v0.heap.size = W.heap.size := by rw [hv0]; simp
  have h2w : 2 ≤ W.heap.size := by
    obtain ⟨c, t, fr, h, _⟩ := h1
    have := (Array.getElem?_eq_some_iff.1 h).1
    omega
  have hshut : ∀ (c : Array Value) t (fr : Nat × Nat), Sm.Shut (Obj.cells (c.map f) t (0, max c.size fr.2)) := fun c t fr k hk => ⟨Nat.zero_le _, Nat.lt_of_lt_of_le (by rw [Array.size_map] at hk; exact hk) (Nat.le_max_left _ _)⟩
  have hpure : ∀ b ∈ 0 :: 1 :: S, NumB W b → PureB v0 b := fun b hb ⟨c, t, fr, h, hn⟩ => ⟨_, _, _, hin b hb c t fr h, fun i u hu => by
    rw [Array.getElem?_map, Option.map_eq_some_iff] at hu
    obtain ⟨x, hx, rfl⟩ := hu
    obtain ⟨k, m, rfl⟩ := hn i x hx
    exact ⟨k, m, hfi k m⟩, hshut c t fr⟩
  have hno : ∀ b, ¬ Sm.Open (Rg Tryd.prog afs cgs fun b b' => b = b' ∧ b ∈ 0 :: 1 :: S) v0 b := fun b ⟨x, o, hx, z1, z2⟩ => by
    obtain ⟨rfl, hx2⟩ : x = b ∧ x ∈ 0 :: 1 :: S := hx
    obtain ⟨c, t, fr, h⟩ := hall x hx2
    rw [hin x hx2 c t fr h] at z1
    cases z1
    exact z2 (hshut c t fr)
  have hwr : WR0 (Rg Tryd.prog afs cgs fun b b' => b = b' ∧ b ∈ 0 :: 1 :: S) v0 W := by
    refine ⟨fun b c b' q1 q2 => q1.1.trans q2.1.symm, fun b b' c' q1 q2 => q1.1.symm.trans q2.1, fun b b' q => ?_, fun b b' o q ho => ?_, ⟨⟨by show Tryd.prog.globals.size ≤ _; rw [glob2', gs]; exact h2w, fun _ => rfl⟩, by show Tryd.prog.globals.size ≤ _; rw [glob2']; exact h2w⟩, fun b b' q _ => q.1.symm⟩
    · obtain ⟨rfl, q2⟩ : b = b' ∧ b ∈ 0 :: 1 :: S := q
      obtain ⟨c, t, fr, h⟩ := hall b q2
      have := (Array.getElem?_eq_some_iff.1 h).1
      exact ⟨by omega, this⟩
    · obtain ⟨rfl, q2⟩ : b = b' ∧ b ∈ 0 :: 1 :: S := q
      obtain ⟨c, t, fr, h⟩ := hall b q2
      rw [hin b q2 c t fr h] at ho
      cases ho
      refine ⟨_, h, rfl, ⟨by rw [Array.size_map]; exact Nat.le_refl _, fun i u u' _ z1 z2 => ?_⟩, fun o z1 z2 => ⟨Nat.zero_le _, Nat.lt_of_lt_of_le z2 (Nat.le_max_right _ _)⟩⟩
      rw [Array.getElem?_map, z2] at z1
      cases z1
      exact hf u' _
  refine ⟨v0, gs, fun b hb j k m hc => ?_, hpure 0 (by simp) h0, hpure 1 (by simp) h1, fun Fin g hmv => ?_⟩
  · obtain ⟨c, t, fr, h⟩ := hall b hb
    unfold World.cell? at hc ⊢
    simp only [h, Option.isSome_none, Bool.false_eq_true, if_false] at hc
    simp only [hin b hb c t fr h, Option.isSome_none, Bool.false_eq_true, if_false]
    rw [Array.getElem?_map, hc, Option.map_some, hfi]
  · have hms := hmv W (Kp.refl W) (fun b hb => absurd hb (hno b)) hwr (fun c q => absurd rfl q) (fun c e => by cases e)
    refine net_start hms (fun b hb => ?_) (fun b hb => ?_)
    · rcases hb with ⟨x, hx⟩ | hb | hb
      · exact (hwr.dom x b hx).2
      · cases hb
      · exact hb
    · rcases hb with hb | hb
      · exact absurd hb (hno b)
      · cases hb
end Go.Proofs.YtfbdgdphpdhcpaaDoor
namespace Go.Proofs.YtfbdgdphpdhcpaaDoor
open Go.ChangeShapes Go.WideShapes Go.ChangeAt Go.RowKit Go.Joins

theorem own : ownKnob Tryd.prog.godebug = none := by kernel_rfl
theorem laidOut : laidOutB Tryd.prog = true := by kernel_rfl
/-- The two tables, as the row lists them. -/
abbrev laid2 : List (String × DataW Unit) := [("math/bits.deBruijn32tab", Rows.laid_math_bits_deBruijn32tab), ("math/bits.deBruijn64tab", Rows.laid_math_bits_deBruijn64tab)]
theorem tab_datum : (Rows.laid_math_bits_deBruijn64tab : DataW Unit) = .agg (Lib.deBruijn64tab.map fun n => .lit (.int .u8 (n : Nat))) := by kernel_rfl
theorem tab_of_laid {W : World} (h : laidMetH Tryd.prog laid2 W) : Tab W := by
  rw [MakeChecks.laidMetH_plain _ _ _ (by kernel_rfl)] at h
  obtain ⟨ps, ⟨g0, t0, cs0, f0, p0, q0, hg0, ht0, hv0, hd0, ⟨g, t, cs, f1, p1, q1, hg, ht, hv, hd, _, _⟩, _⟩, _, _⟩ := h
  obtain rfl := Option.some.inj ((show Tryd.prog.globalNamed "math/bits.deBruijn64tab" = some 1 by kernel_rfl).symm.trans hg)
  obtain rfl := Option.some.inj ((show (Tryd.prog.globals[1]?).map (·.type) = some 100 by kernel_rfl).symm.trans ht)
  intro r hr
  obtain ⟨xs, m, _, ex, _, hl, hel⟩ := DataW.trod_array Tryd.underlying100 hd
  have c5 : Tryd.prog.cellsOf 5 = 1 := by kernel_rfl
  have hE := hel r hr
  rw [c5, Nat.mul_one, List.getElem?_eq_getElem (by omega)] at hE
  obtain ⟨z, e1, e2, _⟩ := DataW.trod_int Tryd.underlying5 hE
  have hlen : Lib.deBruijn64tab.length = 64 := by kernel_rfl
  rw [tab_datum] at ex
  have e3 : (xs.map (·.1)) = Lib.deBruijn64tab.map fun n => .lit (.int .u8 (n : Nat)) := (DataW.agg.inj (Prod.mk.inj ex).1).symm
  have e4 : (xs.map (·.1))[r]? = (Lib.deBruijn64tab.map fun n => (DataW.lit (.int .u8 (n : Nat)) : DataW Unit))[r]? := by rw [e3]
  rw [List.getElem?_map, List.getElem?_map, List.getElem?_eq_getElem (by omega : r < xs.length), List.getElem?_eq_getElem (by omega : r < Lib.deBruijn64tab.length), e2] at e4
  have hz : z = ((Lib.deBruijn64tab.getD r 0 : Nat) : Int) := by
    simp only [Option.map_some, Option.some.injEq, DataW.lit.injEq, Lit.int.injEq, true_and] at e4
    rw [e4, List.getD, List.getElem?_eq_getElem (by omega : r < Lib.deBruijn64tab.length)]; rfl
  rw [World.var?_cell hg hv r, ← hz]
  have : cs.toList[r]? = some (.int .u8 z) := by
    have h0 : ((cs.toList.drop r).take 1)[0]? = some (.int .u8 z) := by rw [e1]; rfl
    simpa using h0
  simpa using this

set_option maxRecDepth 100000 in
theorem nums_of_laid {W : World} (h : laidMetH Tryd.prog laid2 W) : NumB W 0 ∧ NumB W 1 := by
  rw [MakeChecks.laidMetH_plain _ _ _ (by kernel_rfl)] at h
  obtain ⟨ps, ⟨g0, t0, cs0, f0, p0, q0, hg0, ht0, hv0, hd0, ⟨g, t, cs, f1, p1, q1, hg, ht, hv, hd, _, _⟩, _⟩, _, _⟩ := h
  obtain rfl := Option.some.inj ((show Tryd.prog.globalNamed "math/bits.deBruijn32tab" = some 0 by kernel_rfl).symm.trans hg0)
  obtain rfl := Option.some.inj ((show (Tryd.prog.globals[0]?).map (·.type) = some 99 by kernel_rfl).symm.trans ht0)
  obtain rfl := Option.some.inj ((show Tryd.prog.globalNamed "math/bits.deBruijn64tab" = some 1 by kernel_rfl).symm.trans hg)
  obtain rfl := Option.some.inj ((show (Tryd.prog.globals[1]?).map (·.type) = some 100 by kernel_rfl).symm.trans ht)
  have c5 : Tryd.prog.cellsOf 5 = 1 := by kernel_rfl
  have c32 : Tryd.prog.cellsOf 99 = 32 := by kernel_rfl
  have c64 : Tryd.prog.cellsOf 100 = 64 := by kernel_rfl
  have blk : ∀ {nm : String} {b : Nat} {c : Array Value}, Tryd.prog.globalNamed nm = some b → W.var? Tryd.prog nm = some c → ∃ t fr, W.heap[b]? = some (.cells c t fr) := fun {nm b c} hn hc => by
    simp only [World.var?, hn, Option.bind_some] at hc
    cases ho : W.heap[b]? with
    | none => rw [ho] at hc; cases hc
    | some o =>
      rw [ho] at hc
      cases o with
      | cells c' t fr => cases hc; exact ⟨t, fr, rfl⟩
      | _ => cases hc
  constructor
  · obtain ⟨xs, m, _, ex, hcl, hl, hel⟩ := DataW.trod_array Tryd.underlying99 hd0
    obtain ⟨t, fr, hb⟩ := blk hg0 hv0
    refine ⟨cs0, t, fr, hb, fun i u hu => ?_⟩
    have hi : i < 32 := by
      have h1 := (Array.getElem?_eq_some_iff.1 hu).1
      rw [c32] at hcl
      simp at hcl
      omega
    have hE := hel i hi
    rw [c5, Nat.mul_one, List.getElem?_eq_getElem (by omega)] at hE
    obtain ⟨z, e1, e2, _⟩ := DataW.trod_int Tryd.underlying5 hE
    have h0 : ((cs0.toList.drop i).take 1)[0]? = some (.int .u8 z) := by rw [e1]; rfl
    have h2 : cs0[i]? = some (.int .u8 z) := by simpa using h0
    rw [hu] at h2
    cases h2
    exact ⟨_, _, rfl⟩
  · obtain ⟨xs, m, _, ex, hcl, hl, hel⟩ := DataW.trod_array Tryd.underlying100 hd
    obtain ⟨t, fr, hb⟩ := blk hg hv
    refine ⟨cs, t, fr, hb, fun i u hu => ?_⟩
    have hi : i < 64 := by
      have h1 := (Array.getElem?_eq_some_iff.1 hu).1
      rw [c64] at hcl
      simp at hcl
      omega
    have hE := hel i hi
    rw [c5, Nat.mul_one, List.getElem?_eq_getElem (by omega)] at hE
    obtain ⟨z, e1, e2, _⟩ := DataW.trod_int Tryd.underlying5 hE
    have h0 : ((cs.toList.drop i).take 1)[0]? = some (.int .u8 z) := by rw [e1]; rfl
    have h2 : cs[i]? = some (.int .u8 z) := by simpa using h0
    rw [hu] at h2
    cases h2
    exact ⟨_, _, rfl⟩
set_option maxRecDepth 100000 in
/-- A slice that came in lies in cells, or nowhere. -/
theorem slice_cells {W : World} {r : Reach} {base : Nat} {a : Option Addr} {len cap : Nat} (h : Cell.okWide Tryd.prog W r base 22 (.slice a len cap)) : a = none ∨ ∃ b off, a = some ⟨b, off, none⟩ ∧ ∃ c t fr, W.heap[b]? = some (.cells c t fr) := by
  cases a with
  | none => exact .inl rfl
  | some a =>
    have h2 : W.has Tryd.prog r base a 3 cap := by
      unfold Cell.okWide at h
      rw [Tryd.underlying22] at h
      have h3 : Cell.ok Tryd.prog W r base 22 (.slice (some a) len cap) := h
      unfold Cell.ok at h3
      rw [Tryd.underlying22] at h3
      exact h3.2.2
    obtain ⟨_, hs, row, cells, hsh, _⟩ := h2
    obtain ⟨b, off, spot⟩ := a
    have hs : spot = none := hs
    subst hs
    refine .inr ⟨b, off, rfl, ?_⟩
    unfold World.shape? at hsh
    cases ho : W.heap[b]? with
    | none => rw [ho] at hsh; cases hsh
    | some o =>
      rw [ho] at hsh
      cases o with
      | cells c t fr => exact ⟨c, t, fr, rfl⟩
      | _ => cases hsh
end Go.Proofs.YtfbdgdphpdhcpaaDoor
namespace Go.Proofs.YtfbdgdphpdhcpaaDoor
open Go.RowKit
set_option maxRecDepth 100000

/-- The number is that of a function with a body. -/
def Ent (F : Nat) : Prop := ∀ (args : Array Value) (w : World), Sem.run Tryd.prog (callFunc F args) w = .ok (.enter F args) w
set_option maxHeartbeats 1000000 in
theorem orderOf_clo (n F0 : Nat) (caps : Array Value) (P : Nat → Nat → Bool) (w : World) (h10 : n ≤ 10) (hF : Ent F0)
    (hcl : ∀ (x y : Nat) (wx : World), x < n → y < n → Below w.heap.size w wx → Calls Tryd.prog F0 (#[.int .i64 (x : Nat), .int .i64 (y : Nat)] ++ caps) wx fun e w' => e = .returned (.bool (P x y)) ∧ Below wx.heap.size wx w') :
    Calls Tryd.prog 40 #[.int .i64 n, .func (.func F0) #[] caps] w fun e w' => OrderPost w n (fun y => setBy (fun x => P x y) n) e w' ∧ Below w.heap.size w w' := by
  have HCL : Hid (∀ (x y : Nat) (wx : World), x < n → y < n → Below w.heap.size w wx → Calls Tryd.prog F0 (#[.int .i64 (x : Nat), .int .i64 (y : Nat)] ++ caps) wx fun e w' => e = .returned (.bool (P x y)) ∧ Below wx.heap.size wx w') := hcl
  clear hcl
  obtain ⟨F, HF⟩ : ∃ F : Nat → Nat, Hid (F = fun y => setBy (fun x => P x y) n) := ⟨_, rfl⟩
  rw [← HF.out]
  obtain ⟨i0, hi, hz0, hz1, hz2⟩ := info_parts Tryd.info3
  go_enter Tryd.func40, Tryd.ntmps40
  go_wp2
  go_loopw [6] (fun t wx => ∃ (y : Nat) (v : Value), y ≤ n ∧ t = .int .i64 y ∧ Building w wx n y F v ) (fun t _ => n - (intOf t).toNat)
  case atStart => exact ⟨0, .slice none 0 0, Nat.zero_le _, rfl, Building.start w n F⟩
  case round =>
    obtain ⟨y, v, hy, rfl, hB⟩ := hrel
    by_cases hlt : y < n
    · go_wp2
      have HB1 : Hid (Building w wr n y F v) := hB
      clear hB
      go_loopw [7, 8] (fun s t wx => ∃ x : Nat, x ≤ n ∧ t = .int .i64 x ∧ s = .int .i64 (setBy (fun x => P x y) x : Nat) ∧ Building w wx n y F v ) (fun _ t _ => n - (intOf t).toNat)
      case atStart => exact ⟨0, Nat.zero_le _, rfl, rfl, HB1.out⟩
      case round =>
        obtain ⟨x, hx, rfl, rfl, hB⟩ := hrel
        clear HB1
        by_cases hxl : x < n
        · have hs1 := setBy_lt (fun x => P x y) x
          have hp := pw_small x (Nat.lt_of_lt_of_le hxl (Nat.le_trans h10 (by decide)))
          rcases (Bool.eq_false_or_eq_true (P x y)).symm with hb | hb
          · have HF1 : Hid (setBy (fun x => P x y) (x + 1) = setBy (fun x => P x y) x) := setBy_no hb
            generalize setBy (fun x => P x y) x = S at *
            go_wp2_with fail
            rw [hF, Oper.upon_enter]
            refine (HCL.out x y _ hxl hlt (out_below hB.below)).mono ?_
            rintro e w1 ⟨rfl, hb1⟩
            have HB2 : Hid (Building w w1 n y F v) := hB.step hb1
            clear hb1 hB
            go_wp2_with fail
            go_roundw
            case rel => exact ⟨x + 1, by omega, by go_num, by rw [HF1.out], HB2.out⟩
            case measure => simp [intOf]; omega
          · have HF1 : Hid (setBy (fun x => P x y) (x + 1) = setBy (fun x => P x y) x + pw x) := setBy_yes hb
            generalize setBy (fun x => P x y) x = S at *
            go_wp2_with fail
            rw [hF, Oper.upon_enter]
            refine (HCL.out x y _ hxl hlt (out_below hB.below)).mono ?_
            rintro e w1 ⟨rfl, hb1⟩
            have HB2 : Hid (Building w w1 n y F v) := hB.step hb1
            clear hb1 hB
            go_wp2_with (go_at_call 37; refine (bit_any x _ (by omega)).mono ?_; rintro e w' ⟨rfl, rfl⟩)
            go_roundw
            case rel => exact ⟨x + 1, by omega, by go_num, by rw [HF1.out]; first | rfl | simp, HB2.out⟩
            case measure => simp [intOf]; omega
        · have hxn : x = n := by omega
          subst hxn
          obtain ⟨S, HS⟩ : ∃ S : Nat, Hid (S = setBy (fun x => P x y) x) := ⟨_, rfl⟩
          rw [← HS.out]
          have HFy : Hid (F y = S) := (congrFun HF.out y).trans HS.out.symm
          have c1 := hB.c1
          have f1 := hB.f1
          have hown := hB.own
          have hsz := hB.size
          go_wp2_with (at_builtin; refine wpList_append_own _ rfl _ _ 22 rfl (w.heap.size + 2) 3 i0 (.int .i64 0) 1 8 Tryd.underlying22 hi hz0 hz1 hz2 rfl (by decide) _ _ _ rfl (hown.alloc _) ⟨wr.heap.size, 0, none⟩ 1 1 [.int .i64 (S : Nat)] rfl rfl ?c1 ?c2 ?c3 ?c4 ?c5 ?_)
          case c1 =>
            intro j u hj
            match j, hj with
            | 0, hj => simp at hj; subst hj; simp [Addr.add]
          case c2 => intro u hu; simp at hu; subst hu; rfl
          case c3 => unfold maxLen; omega
          case c4 => omega
          case c5 => simp; omega
          intro v' w1 hown' hgrow _
          obtain ⟨k1, k2, hB'⟩ := hB.grown HFy.out hown' hgrow
          obtain ⟨g', cap', hv'⟩ := owns_form hown' (by omega)
          have HB2 : Hid (Building w (w1.setCell ⟨w.heap.size + 1, 1, none⟩ v') x (y + 1) F v') := hB'
          rw [hv'] at HB2
          rw [hv']
          clear hown' hgrow hB' hv' c1 f1 hown hB hi hz0 hz1 hz2
          go_wp2
          go_roundw
          case rel => exact ⟨y + 1, _, by omega, by go_num, HB2.out⟩
          case measure => simp [intOf]; omega
    · have hyn : y = n := by omega
      subst hyn
      obtain ⟨a', cap', rfl, hrow⟩ := owns_row hB.own
      have c0 := hB.c0
      have c1 := hB.c1
      obtain ⟨r0, r1, r2, r3⟩ := resbox hB.below
      have HBB : Hid (Below w.heap.size w wr) := out_below hB.below
      have HRW : Hid (Row wr a' y (fun k => (F k : Nat))) := hrow
      have hsz := hB.size
      have HOB : Hid (Fresh (w.heap.size + 1) a' y) := fun hk => by
        obtain ⟨g, cp, hv⟩ := owns_form hB.own hk
        simp at hv
        exact ⟨g, 0, hv.1, by have := owns_block hB.own g (by rw [hv.1]; rfl); omega⟩
      clear hB hrow hi hz0 hz1 hz2
      go_wp2
      exact bodyPost_ret (v := .agg #[.int .i64 (y : Int), .slice a' y cap']) (by simp [results, Tryd.results40, go_sem, r0, r1]) rfl ⟨⟨a', cap', rfl, row_set2 HRW.out HOB.out, HOB.out.mono (Nat.le_succ _)⟩, set2 HBB.out⟩

theorem p6_step {w w1 w2 : World} {b0 b1 b2 o2 x y : Nat} {u0 u1 u2 u3 u4 : Value}
    (h : w1.cell? ⟨b0, 0, none⟩ = some u0 ∧ w1.cell? ⟨b0, 1, none⟩ = some u1 ∧ w1.cell? ⟨b1, 0, none⟩ = some u2 ∧ w1.cell? ⟨b2, o2 + x, none⟩ = some u3 ∧ w1.cell? ⟨b2, o2 + y, none⟩ = some u4 ∧ Below w.heap.size w w1)
    (hb : Below w1.heap.size w1 w2) :
    w2.cell? ⟨b0, 0, none⟩ = some u0 ∧ w2.cell? ⟨b0, 1, none⟩ = some u1 ∧ w2.cell? ⟨b1, 0, none⟩ = some u2 ∧ w2.cell? ⟨b2, o2 + x, none⟩ = some u3 ∧ w2.cell? ⟨b2, o2 + y, none⟩ = some u4 ∧ Below w.heap.size w w2 := by
  obtain ⟨h1, h2, h3, h4, h5, h6⟩ := h
  exact ⟨(hb.cell (World.block_lt_of_cell? _ _ h1)).trans h1, (hb.cell (World.block_lt_of_cell? _ _ h2)).trans h2, (hb.cell (World.block_lt_of_cell? _ _ h3)).trans h3, (hb.cell (World.block_lt_of_cell? _ _ h4)).trans h4, (hb.cell (World.block_lt_of_cell? _ _ h5)).trans h5, Below.then h6 hb⟩
theorem p6_below {w w1 : World} {b0 b1 b2 o2 x y : Nat} {u0 u1 u2 u3 u4 : Value}
    (h : w1.cell? ⟨b0, 0, none⟩ = some u0 ∧ w1.cell? ⟨b0, 1, none⟩ = some u1 ∧ w1.cell? ⟨b1, 0, none⟩ = some u2 ∧ w1.cell? ⟨b2, o2 + x, none⟩ = some u3 ∧ w1.cell? ⟨b2, o2 + y, none⟩ = some u4 ∧ Below w.heap.size w w1) : Below w.heap.size w w1 := h.2.2.2.2.2

theorem cell_stp {w w' : World} {p : Addr} {v : Value} (hb : Below w.heap.size w w') (h : w.cell? p = some v) : w'.cell? p = some v := (hb.cell (World.block_lt_of_cell? _ _ h)).trans h
theorem ent_rn1 : Ent 41 := fun _ _ => rfl
set_option maxHeartbeats 1000000 in
theorem rn1_any (n B : Nat) (a a2 : Option Addr) (cap cap2 : Nat) (g : Nat → Nat) (L : List Nat) (x y : Nat) (w : World) (h10 : n ≤ 10) (hg : ∀ k, k < n → g k < 1024) (hx : x < n) (hy : y < n) (hLn : ∀ k, k < n → nth L k < n)
    (c0 : w.cell? ⟨B, 0, none⟩ = some (.int .i64 (n : Nat))) (c1 : w.cell? ⟨B, 1, none⟩ = some (.slice a n cap)) (c2 : w.cell? ⟨B + 1, 0, none⟩ = some (.slice a2 n cap2)) (hr : Row w a n (fun k => (g k : Nat))) (hr2 : Row w a2 n (fun k => (nth L k : Nat))) :
    Calls Tryd.prog 41 (#[.int .i64 (x : Nat), .int .i64 (y : Nat)] ++ #[.pointer (some ⟨B, 0, none⟩), .pointer (some ⟨B + 1, 0, none⟩)]) w fun e w' => e = .returned (.bool ((g (nth L y)).testBit (nth L x))) ∧ Below w.heap.size w w' := by
  obtain ⟨b2, o2, rfl, hc2⟩ := hr2.at hx
  have dx := hc2 x hx
  have dy := hc2 y hy
  have HR : Hid (Row w a n (fun k => (g k : Nat))) := hr
  have HG : Hid (∀ k, k < n → g k < 1024) := hg
  have hlx := hLn x hx
  have hly := hLn y hy
  have KK : w.drew.cell? ⟨B, 0, none⟩ = some (.int .i64 (n : Nat)) ∧ w.drew.cell? ⟨B, 1, none⟩ = some (.slice a n cap) ∧ w.drew.cell? ⟨B + 1, 0, none⟩ = some (.slice (some ⟨b2, o2, none⟩) n cap2) ∧ w.drew.cell? ⟨b2, o2 + x, none⟩ = some (.int .i64 (nth L x : Nat)) ∧ w.drew.cell? ⟨b2, o2 + y, none⟩ = some (.int .i64 (nth L y : Nat)) ∧ Below w.heap.size w w.drew := ⟨c0, c1, c2, dx, dy, (Below.refl _ _).drew⟩
  have hx' : (x : Int) < (n : Int) := by omega
  have hy' : (y : Int) < (n : Int) := by omega
  clear hc2 hr hr2 hg hLn dx dy c0 c1 c2
  generalize nth L x = X at *
  generalize nth L y = Y at *
  go_enter Tryd.func41, Tryd.ntmps41
  go_wp2_with fail
  go_region_held3 (fun w' => w'.cell? ⟨B, 0, none⟩ = some (.int .i64 (n : Nat)) ∧ w'.cell? ⟨B, 1, none⟩ = some (.slice a n cap) ∧ w'.cell? ⟨B + 1, 0, none⟩ = some (.slice (some ⟨b2, o2, none⟩) n cap2) ∧ w'.cell? ⟨b2, o2 + x, none⟩ = some (.int .i64 (X : Nat)) ∧ w'.cell? ⟨b2, o2 + y, none⟩ = some (.int .i64 (Y : Nat)) ∧ Below w.heap.size w w')
    (first | exact KK | assumption | exact p6_step (by assumption) (by assumption))
    (first
      | (go_at_call 38; refine (less_any n a n cap g X Y _ h10 HG.out (HR.out.below (p6_below (by assumption))) (by omega) hly).mono ?_; rintro e w' ⟨rfl, hb⟩))
  all_goals go_wp2
  all_goals go_ret
  all_goals exact ⟨rfl, p6_below (by assumption)⟩
theorem rnR_any (n : Nat) (a : Option Addr) (cap : Nat) (g : Nat → Nat) (a2 : Option Addr) (cap2 : Nat) (L : List Nat) (w : World) (h10 : n ≤ 10) (hg : ∀ k, k < n → g k < 1024) (hL : L.length = n) (hLn : ∀ k, k < n → nth L k < n)
    (hr : Row w a n (fun k => (g k : Nat))) (hr2 : Row w a2 n (fun k => (nth L k : Nat))) :
    Calls Tryd.prog 28 #[.agg #[.int .i64 (n : Nat), .slice a n cap], .slice a2 n cap2] w fun e w' => OrderPost w n (prt g L) e w' ∧ Below w.heap.size w w' := by
  obtain ⟨W, HWE⟩ : ∃ W, Hid (W = ((w.alloc (.cells #[.int .i64 (n : Nat), .slice a n cap] 24)).alloc (.cells #[.slice a2 n cap2] 22)).alloc (.cells #[.int .i64 0, .slice none 0 0] 24)) := ⟨_, rfl⟩
  have HB : Hid (Below w.heap.size w W) := by rw [HWE.out]; exact (((Below.refl _ _).alloc (Nat.le_refl _) _).alloc (by simp) _).alloc (by simp; omega) _
  have HX : Hid (∀ w', Below W.heap.size W w' → (w'.cell? ⟨w.heap.size, 0, none⟩ = some (.int .i64 (n : Nat)) ∧ w'.cell? ⟨w.heap.size, 1, none⟩ = some (.slice a n cap)) ∧ w'.cell? ⟨w.heap.size + 1, 0, none⟩ = some (.slice a2 n cap2)) := fun w' h =>
    ⟨⟨cell_stp h (by rw [HWE.out]; exact cell_al (cell_al (by simp))), cell_stp h (by rw [HWE.out]; exact cell_al (cell_al (by simp)))⟩, cell_stp h (by rw [HWE.out]; exact cell_al (by simp))⟩
  have HZ : Hid (∀ w', Below W.heap.size W w' → ZBox w' (w.heap.size + 2)) := fun w' h => by
    refine ZBox.step ?_ h
    rw [HWE.out]
    have := ZBox.new ((w.alloc (.cells #[.int .i64 (n : Nat), .slice a n cap] 24)).alloc (.cells #[.slice a2 n cap2] 22))
    simpa using this
  have HSW : Hid (W.heap.size = w.heap.size + 3) := by rw [Hid, HWE.out]; simp
  have HCL : Hid (∀ (x y : Nat) (wx : World), x < n → y < n → Below W.heap.size W wx → Calls Tryd.prog 41 (#[.int .i64 (x : Nat), .int .i64 (y : Nat)] ++ #[.pointer (some ⟨w.heap.size, 0, none⟩), .pointer (some ⟨w.heap.size + 1, 0, none⟩)]) wx fun e w' => e = .returned (.bool ((g (nth L y)).testBit (nth L x))) ∧ Below wx.heap.size wx w') := fun p q wx hp hq hbx => by
    obtain ⟨⟨z0, z1⟩, z2⟩ := HX.out _ hbx
    exact rn1_any n w.heap.size a a2 cap cap2 g L p q wx h10 hg hp hq hLn z0 z1 z2 (hr.below (Below.then HB.out hbx)) (hr2.below (Below.then HB.out hbx))
  obtain ⟨⟨z0, z1⟩, z2⟩ := HX.out W (Below.refl _ _)
  clear hr hr2 hg hLn
  go_enter Tryd.func28, Tryd.ntmps28
  go_wp2_with (rw [← HWE.out])
  refine (orderOf_clo n 41 #[.pointer (some ⟨w.heap.size, 0, none⟩), .pointer (some ⟨w.heap.size + 1, 0, none⟩)] (fun p q => (g (nth L q)).testBit (nth L p)) W h10 ent_rn1 HCL.out).mono ?_
  rintro e w4 ⟨⟨ar, cp, rfl, hrow, hfr⟩, hb4⟩
  have HB4 : Hid (Below w.heap.size w w4) := Below.then HB.out hb4
  obtain ⟨r0, r1, r2, r3⟩ := HZ.out _ hb4
  have HRW : Hid (Row w4 ar n (fun k => (prt g L k : Nat))) := by
    have e : (fun k => setBy (fun x => (g (nth L k)).testBit (nth L x)) n) = prt g L := by
      funext k
      unfold prt
      rw [hL]
    rw [e] at hrow
    exact hrow
  have HFR : Hid (Fresh (w.heap.size + 2 + 1) ar n) := hfr.mono (by have := HSW.out; omega)
  clear hrow hfr hb4
  go_wp2_with fail
  exact bodyPost_ret (v := .agg #[.int .i64 (n : Int), .slice ar n cp]) (by simp [results, Tryd.results28, go_sem, r0, r1]) rfl ⟨⟨ar, cp, rfl, row_set2 HRW.out HFR.out, HFR.out.mono (by omega)⟩, set2B HB4.out (by omega)⟩
end Go.Proofs.YtfbdgdphpdhcpaaDoor
