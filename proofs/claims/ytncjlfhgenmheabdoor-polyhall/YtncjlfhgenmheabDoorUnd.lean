/-
  What the closure that undoes sums answers, by induction on the rank. Conditions: a rank that falls; the closures for sums and for what is below answer s and B wherever all but the map lies as it lay.
-/
import Derived.Test.YtncjlfhgenmheabDoorPolM
import Derived.Test.YtncjlfhgenmheabDoorThree
import Derived.Maps.OwnSet
import Derived.Laws.EntriesVeiled
namespace Go.Proofs.YtncjlfhgenmheabDoor
open Go.RowKit Go.Maps

theorem keyedI : Keyed Tryd.prog 3 := int_keyed Tryd.underlying3
theorem zeroI (w : World) : (zeroValue 3).run Tryd.prog w = .ok (.int .i64 0) w := by kernel_rfl

/-- The key of a number. -/
def kI (x : Nat) : Lit := .int .i64 (x : Int)
/-- How many of the first n numbers are keys. -/
def cntK (D : DataW Unit) : Nat → Nat
  | 0 => 0
  | k + 1 => cntK D k + (if Maps.has D (kI k) = true then 1 else 0)
theorem cntK_le (D : DataW Unit) : ∀ k, cntK D k ≤ k
  | 0 => Nat.le_refl _
  | k + 1 => by have := cntK_le D k; rw [cntK]; split <;> omega
theorem kI_ne {x y : Nat} (h : x ≠ y) : kI x ≠ kI y := by
  unfold kI; intro e
  simp only [Lit.int.injEq, true_and] at e
  omega
theorem kI_key (x : Nat) : WideAt.IsKeyLit (kI x) := trivial
theorem cntK_put_far {D : DataW Unit} {x : Nat} (d : DataW Unit) : ∀ k, k ≤ x → cntK (D.put (kI x) d) k = cntK D k
  | 0, _ => rfl
  | k + 1, h => by rw [cntK, cntK, cntK_put_far d k (by omega), has_put_other (kI_ne (by omega))]
theorem cntK_put {D : DataW Unit} (hD : IsMap D) {x : Nat} (d : DataW Unit) : ∀ n, x < n → cntK (D.put (kI x) d) n = if Maps.has D (kI x) = true then cntK D n else cntK D n + 1
  | 0, h => absurd h (Nat.not_lt_zero _)
  | n + 1, h => by
    by_cases e : x = n
    · subst e
      rw [cntK, cntK, cntK_put_far d x (Nat.le_refl _), has_put_same hD (kI_key x)]
      split <;> simp_all
    · rw [cntK, cntK, cntK_put hD d n (by omega), has_put_other (kI_ne (fun h => e h.symm))]
      split <;> omega
/-- The map holds what is known, and nothing else than U of it. -/
structure MOk (n : Nat) (U : Nat → Int) (Bm : Nat) (W : World) (D : DataW Unit) : Prop where
  own : W.ownsMap Tryd.prog 3 (plainElem Tryd.prog 3) Bm (Maps.size D) D
  cnt : Maps.size D ≤ cntK D n
  val : ∀ x : Nat, x < n → Maps.has D (kI x) = true → D.atKey (kI x) (.lit (.int .i64 0)) = .lit (.int .i64 (wz (U x)))
theorem owns_tight {W : World} {Bm k : Nat} {D : DataW Unit} (h : W.ownsMap Tryd.prog 3 (plainElem Tryd.prog 3) Bm k D) : W.ownsMap Tryd.prog 3 (plainElem Tryd.prog 3) Bm (Maps.size D) D := by
  obtain ⟨es, clock, hb, F, _, rfl⟩ := h
  exact ⟨es, clock, hb, F, by rw [size_eq, length_read]; exact Nat.le_refl _, rfl⟩
theorem MOk.small {n : Nat} {U : Nat → Int} {Bm : Nat} {W : World} {D : DataW Unit} (h : MOk n U Bm W D) (hn : n ≤ 40) : Maps.size D < maxLen := by
  have := h.cnt; have := cntK_le D n; unfold maxLen; omega
theorem MOk.kept {n : Nat} {U : Nat → Int} {Bm : Nat} {W W' : World} {D : DataW Unit} (h : MOk n U Bm W D) (hg : W.grownBy W' none) : MOk n U Bm W' D :=
  ⟨h.own.kept hg (by simp), h.cnt, h.val⟩
theorem MOk.put {n : Nat} {U : Nat → Int} {Bm k : Nat} {W W' : World} {D : DataW Unit} (h : MOk n U Bm W D) {x : Nat} (hx : x < n)
    (ho : W'.ownsMap Tryd.prog 3 (plainElem Tryd.prog 3) Bm k (D.put (kI x) (.lit (.int .i64 (wz (U x)))))) : MOk n U Bm W' (D.put (kI x) (.lit (.int .i64 (wz (U x))))) := by
  refine ⟨owns_tight ho, ?_, fun y hy hh => ?_⟩
  · rw [size_put (h.own.tidy keyedI), cntK_put h.own.isMap _ n hx]
    have := h.cnt
    split <;> simp_all
  · by_cases e : y = x
    · subst e; exact atKey_put_same h.own.isMap (kI_key y) _ _
    · rw [has_put_other (kI_ne e)] at hh
      rw [atKey_put_other (kI_ne e)]
      exact h.val y hy hh
theorem MOk.made (n : Nat) (U : Nat → Int) (w : World) : MOk n U w.heap.size (w.alloc (.map #[] 0)) (.map []) :=
  ⟨World.ownsMap_made _ _ _ _, Nat.zero_le _, fun x _ h => by simp [has_eq] at h⟩

theorem grown_of_below {W W' : World} (h : Below W.heap.size W W') (row : Option Nat) : W.grownBy W' row := ⟨h.os, h.tape, h.output, h.size, fun k hk _ => h.block k hk⟩
theorem grown_drew (W : World) (row : Option Nat) : W.grownBy W.drew row := ⟨rfl, rfl, rfl, Nat.le_refl _, fun _ _ _ => rfl⟩

/-- A closure that answers s of a number below n, wherever all but block c lies as it lay. -/
def Clo1 (n F : Nat) (caps : Array Value) (s : Nat → Int) (c : Nat) (w : World) : Prop :=
  ∀ x : Nat, x < n → ∀ W : World, w.grownBy W (some c) → Calls Tryd.prog F (#[.int .i64 (x : Nat)] ++ caps) W fun e w' => e = .returned (.int .i64 (wz (s x))) ∧ Below W.heap.size W w'
/-- A closure that answers B of two numbers below n, wherever all but block c lies as it lay. -/
def CloB (n F : Nat) (caps : Array Value) (B : Nat → Nat → Bool) (c : Nat) (w : World) : Prop :=
  ∀ x y : Nat, x < n → y < n → ∀ W : World, w.grownBy W (some c) → Calls Tryd.prog F (#[.int .i64 (x : Nat), .int .i64 (y : Nat)] ++ caps) W fun e w' => e = .returned (.bool (B x y)) ∧ Below W.heap.size W w'

/-- What the closure has captured. -/
structure Cap (n : Nat) (K S N I M Bm Fs Fb : Nat) (cs cb : Array Value) (w : World) : Prop where
  k : w.cell? ⟨K, 0, none⟩ = some (.map (some Bm))
  s : w.cell? ⟨S, 0, none⟩ = some (.func (.func Fs) #[] cs)
  n : w.cell? ⟨N, 0, none⟩ = some (.int .i64 (n : Nat))
  i : w.cell? ⟨I, 0, none⟩ = some (.func (.func Fb) #[] cb)
  m : w.cell? ⟨M, 0, none⟩ = some (.func (.func 51) #[] #[.pointer (some ⟨K, 0, none⟩), .pointer (some ⟨S, 0, none⟩), .pointer (some ⟨N, 0, none⟩), .pointer (some ⟨I, 0, none⟩), .pointer (some ⟨M, 0, none⟩)])
theorem ne_map {w : World} {b : Nat} {a : Addr} {v : Value} {k : Nat} {D : DataW Unit} (h : w.ownsMap Tryd.prog 3 (plainElem Tryd.prog 3) b k D) (hc : w.cell? a = some v) : a.block ≠ b := by
  rintro rfl
  obtain ⟨es, clock, hb, _⟩ := h
  simp [World.cell?, hb] at hc
theorem Cap.kept {n K S N I M Bm Fs Fb : Nat} {cs cb : Array Value} {w w' : World} {k : Nat} {D : DataW Unit} (h : Cap n K S N I M Bm Fs Fb cs cb w) (hm : w.ownsMap Tryd.prog 3 (plainElem Tryd.prog 3) Bm k D) (hg : w.grownBy w' (some Bm)) : Cap n K S N I M Bm Fs Fb cs cb w' :=
  ⟨hg.cell h.k (fun e => ne_map hm h.k (Option.some.inj e)), hg.cell h.s (fun e => ne_map hm h.s (Option.some.inj e)), hg.cell h.n (fun e => ne_map hm h.n (Option.some.inj e)), hg.cell h.i (fun e => ne_map hm h.i (Option.some.inj e)), hg.cell h.m (fun e => ne_map hm h.m (Option.some.inj e))⟩

/-- What is left when the first k that are below have been taken off. -/
def cutU (B : Nat → Nat → Bool) (s U : Nat → Int) (x k : Nat) : Int := s x - sumI (fun l => if B l x = true then U l else 0) k
theorem cut_zero (B : Nat → Nat → Bool) (s U : Nat → Int) (x : Nat) : cutU B s U x 0 = s x := by simp [cutU, sumI]
theorem cut_yes {B : Nat → Nat → Bool} {s U : Nat → Int} {x k : Nat} (h : B k x = true) : cutU B s U x (k + 1) = cutU B s U x k - U k := by
  unfold cutU; rw [sumI, if_pos h]; omega
theorem cut_no {B : Nat → Nat → Bool} {s U : Nat → Int} {x k : Nat} (h : B k x = false) : cutU B s U x (k + 1) = cutU B s U x k := by
  unfold cutU; rw [sumI, if_neg (by rw [h]; decide)]; omega

theorem ent_und : Ent 51 := fun _ _ => rfl

set_option maxHeartbeats 2000000 in
theorem number_any {n K S N I M Bm Fs Fb : Nat} {cs cb : Array Value} {B : Nat → Nat → Bool} {s : Nat → Int} {r : Nat → Nat} {w : World} {k0 : Nat} {D0 : DataW Unit} (hn : n ≤ 40) (hr : Rk B n r) (eS : Ent Fs) (eB : Ent Fb)
    (hC : Cap n K S N I M Bm Fs Fb cs cb w) (h0 : w.ownsMap Tryd.prog 3 (plainElem Tryd.prog 3) Bm k0 D0) (hS : Clo1 n Fs cs s Bm w) (hB : CloB n Fb cb B Bm w) :
    ∀ (d x : Nat) (W : World) (D : DataW Unit), x < n → r x < d → w.grownBy W (some Bm) → MOk n (Uo B s n r) Bm W D →
      Calls Tryd.prog 51 #[.int .i64 (x : Nat), .pointer (some ⟨K, 0, none⟩), .pointer (some ⟨S, 0, none⟩), .pointer (some ⟨N, 0, none⟩), .pointer (some ⟨I, 0, none⟩), .pointer (some ⟨M, 0, none⟩)] W fun e w' =>
        e = .returned (.int .i64 (wz (Uo B s n r x))) ∧ w.grownBy w' (some Bm) ∧ ∃ D', MOk n (Uo B s n r) Bm w' D' := by
  intro d
  induction d with
  | zero => intro x W D _ h; exact absurd h (Nat.not_lt_zero _)
  | succ d ih =>
    intro x W D hx hd hg hm
    have HIH : Hid (∀ (x : Nat) (W : World) (D : DataW Unit), x < n → r x < d → w.grownBy W (some Bm) → MOk n (Uo B s n r) Bm W D →
      Calls Tryd.prog 51 #[.int .i64 (x : Nat), .pointer (some ⟨K, 0, none⟩), .pointer (some ⟨S, 0, none⟩), .pointer (some ⟨N, 0, none⟩), .pointer (some ⟨I, 0, none⟩), .pointer (some ⟨M, 0, none⟩)] W fun e w' =>
        e = .returned (.int .i64 (wz (Uo B s n r x))) ∧ w.grownBy w' (some Bm) ∧ ∃ D', MOk n (Uo B s n r) Bm w' D') := ih
    clear ih
    have HC : Hid (∀ W, w.grownBy W (some Bm) → Cap n K S N I M Bm Fs Fb cs cb W) := fun W h => hC.kept h0 h
    have HS : Hid (Clo1 n Fs cs s Bm w) := hS
    have HB : Hid (CloB n Fb cb B Bm w) := hB
    have HR : Hid (Rk B n r) := hr
    have HD : Hid (r x < d + 1) := hd
    have HG : Hid (w.grownBy W (some Bm)) := hg
    have HM : Hid (MOk n (Uo B s n r) Bm W D) := hm
    have hown := hm.own
    have k1 := (HC.out W hg).k
    have hwx : (Lit.int .i64 (x : Int)).wf = true := WalkArith.wf_i64 (by omega)
    have hkey : keyOf Tryd.prog 3 (.int .i64 (x : Int)) = some (kI x) := keyOf_int_mk Tryd.underlying3 hwx
    have HE : Hid (Uo B s n r x = cutU B s (Uo B s n r) x n) := Uo_eq hr hx
    have HV : Hid (Maps.has D (kI x) = true → D.atKey (kI x) (.lit (.int .i64 0)) = .lit (.int .i64 (wz (Uo B s n r x)))) := hm.val x hx
    clear hC h0 hS hB hr hd hg hm hwx
    cases hh : Maps.has D (kI x)
    · clear HV
      have k2 := (HC.out W HG.out).s
      go_enter Tryd.func51, Tryd.ntmps51
      go_wp2_with (at_lookup; refine wpList_lookup_own_ok_int _ rfl _ _ 65 rfl 3 3 .i64 keyedI Tryd.underlying65 Tryd.underlying3 (zeroI _) Bm _ _ rfl hown _ _ rfl hkey ?_; intro c hat hwc)
      clear hat hwc
      rw [eS, Oper.upon_enter]
      refine (HS.out x hx _ HG.out).mono ?_
      rintro e w1 ⟨rfl, hb1⟩
      have HG1 : Hid (w.grownBy w1 (some Bm)) := HG.out.trans (grown_of_below hb1 _)
      have HM1 : Hid (MOk n (Uo B s n r) Bm w1 D) := HM.out.kept (grown_of_below hb1 _)
      clear hb1 HG HM hown k1 k2 HS
      have k3 := (HC.out w1 HG1.out).n
      go_wp2_with fail
      clear k3
      go_loopw [10, 24] (fun v i wx => ∃ k : Nat, k ≤ n ∧ i = .int .i64 k ∧ v = .int .i64 (wz (cutU B s (Uo B s n r) x k)) ∧ Hid (w.grownBy wx (some Bm)) ∧ ∃ D, Hid (MOk n (Uo B s n r) Bm wx D)) (fun _ i _ => n - (intOf i).toNat)
      case atStart => exact ⟨0, Nat.zero_le _, rfl, by rw [cut_zero], HG1, D, HM1⟩
      case round =>
        clear HG1 HM1
        obtain ⟨k, hk, rfl, rfl, HG, D, HM⟩ := hrel
        have k4 := (HC.out wr HG.out).i
        by_cases hkn : k < n
        · have HBk := HB.out k x hkn hx wr HG.out
          cases hb : B k x
          · rw [hb] at HBk
            have HN : Hid (cutU B s (Uo B s n r) x (k + 1) = cutU B s (Uo B s n r) x k) := cut_no hb
            clear hb
            go_wp2_with fail
            rw [eB, Oper.upon_enter]
            refine HBk.mono ?_
            rintro e w2 ⟨rfl, hb2⟩
            have HG2 : Hid (w.grownBy w2 (some Bm)) := HG.out.trans (grown_of_below hb2 _)
            have HM2 : Hid (MOk n (Uo B s n r) Bm w2 D) := HM.out.kept (grown_of_below hb2 _)
            clear hb2 HG HM k4 HBk
            go_wp2_with fail
            go_roundw
            case rel => exact ⟨k + 1, by omega, by go_num, by rw [HN.out], HG2, D, HM2⟩
            case measure => simp [intOf]; omega
          · rw [hb] at HBk
            have HN : Hid (cutU B s (Uo B s n r) x (k + 1) = cutU B s (Uo B s n r) x k - Uo B s n r k) := cut_yes hb
            have HLT : Hid (r k < d) := by have := HR.out k x hkn hx hb; have := HD.out; show r k < d; omega
            clear hb
            go_wp2_with fail
            rw [eB, Oper.upon_enter]
            refine HBk.mono ?_
            rintro e w2 ⟨rfl, hb2⟩
            have HG2 : Hid (w.grownBy w2 (some Bm)) := HG.out.trans (grown_of_below hb2 _)
            have HM2 : Hid (MOk n (Uo B s n r) Bm w2 D) := HM.out.kept (grown_of_below hb2 _)
            have k5 := (HC.out w2 HG2.out).m
            clear hb2 HG HM k4 HBk
            go_wp2_with fail
            refine (HIH.out k w2 D hkn HLT.out HG2.out HM2.out).mono ?_
            rintro e w3 ⟨rfl, hg3, D3, hm3⟩
            have HG3 : Hid (w.grownBy w3 (some Bm)) := hg3
            have HM3 : Hid (MOk n (Uo B s n r) Bm w3 D3) := hm3
            clear hg3 hm3 HG2 HM2 k5
            obtain ⟨X, HX⟩ : ∃ X, Hid (X = cutU B s (Uo B s n r) x k) := ⟨_, rfl⟩
            obtain ⟨Y, HY⟩ : ∃ Y, Hid (Y = Uo B s n r k) := ⟨_, rfl⟩
            rw [← HX.out, ← HY.out]
            rw [← HX.out, ← HY.out] at HN
            go_wp2_with fail
            go_roundw
            case rel => exact ⟨k + 1, by omega, by go_num, by rw [HN.out, ← wz_sub], HG3, D3, HM3⟩
            case measure => simp [intOf]; omega
        · obtain rfl : k = n := by omega
          rw [← HE.out]
          have k6 := (HC.out wr HG.out).k
          have hown := HM.out.own
          have hsm := HM.out.small hn
          clear k4
          go_wp2_with (at_mapUpdate; refine wpList_mapUpdate_own _ rfl _ _ _ 65 rfl 3 3 keyedI Tryd.underlying65 _ Bm _ _ rfl hown hsm _ _ _ rfl rfl hkey _ [] (plainElem_int Tryd.underlying3 (wz_wf _)) ?_; intro w4 hown4 hgrow4)
          go_ret
          exact ⟨rfl, HG.out.trans hgrow4, _, HM.out.put hx hown4⟩
    · have HF := HV.out hh
      go_enter Tryd.func51, Tryd.ntmps51
      go_wp2_with (at_lookup; refine wpList_lookup_own_ok_int _ rfl _ _ 65 rfl 3 3 .i64 keyedI Tryd.underlying65 Tryd.underlying3 (zeroI _) Bm _ _ rfl hown _ _ rfl hkey ?_; intro c hat hwc)
      rw [HF] at hat
      simp only [DataW.lit.injEq, Lit.int.injEq, true_and] at hat
      subst hat
      go_ret
      exact ⟨rfl, HG.out, D, HM.out⟩
end Go.Proofs.YtncjlfhgenmheabDoor
