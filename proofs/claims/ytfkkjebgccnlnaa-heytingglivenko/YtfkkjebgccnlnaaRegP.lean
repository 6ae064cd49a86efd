/-
  What heyting.Regular and Boolean answer, whatever they are handed. No condition but that slices read as slices of rows.
-/
import Derived.Test.YtfkkjebgccnlnaaHeyP
namespace Go.Proofs.Ytfkkjebgccnlnaa
set_option maxRecDepth 100000
open Go.RowKit

/-- What Regular must answer. -/
def RPost (L : LA) (w : World) (v : Value) (c : Int) : Prop := HCk L c ∧ ((c ≠ 0 ∧ v = .slice none 0 0) ∨ (c = 0 ∧ NSl w v (regs L.q L.m L.j)))
/-- The table is laid out, and a row of the call's own holds l. -/
def RgL (L : LA) (w0 : World) (A b off b' off' : Nat) (v : Value) (l : List Nat) (wx : World) : Prop :=
  ∃ wl, AlgL w0 A L.q b off L.ca b' off' L.cb (imp L.q L.m L.j) wl ∧ Below wl.heap.size wl wx ∧ wx.ownsRow wl.heap.size 3 1 v l.length (natVals l)
def RgI (L : LA) (w0 : World) (A b off b' off' : Nat) (v : Value) (k : Nat) (wx : World) : Prop :=
  (k = 0 ∧ v = .slice none 0 0 ∧ AlgN w0 A L.q b off L.ca b' off' L.cb wx) ∨ RgL L w0 A b off b' off' v (filt (rgB L.q L.m L.j) k) wx
section
variable {L : LA} {w w0 w1 wx : World} {A b off b' off' k : Nat} {v : Value} {l : List Nat}
theorem RgL.alg (h : RgL L w0 A b off b' off' v l wx) : AlgL w0 A L.q b off L.ca b' off' L.cb (imp L.q L.m L.j) wx := by
  obtain ⟨wl, h1, h2, _⟩ := h
  exact h1.step h2
theorem not_one (N : NewA L w w0 w1 A b off b' off') (hk : k < L.q) (h : RgI L w0 A b off b' off' v k wx) :
    Calls Try.prog 19 #[.pointer (some ⟨A, 0, none⟩), .int .i64 (k : Nat)] wx fun e w' => e = .returned (.int .i64 (nt L.q L.m L.j k : Nat)) ∧ RgL L w0 A b off b' off' v (filt (rgB L.q L.m L.j) k) w' := by
  rcases h with ⟨rfl, rfl, h⟩ | h
  · exact (not_new N.base N.ha h hk).mono fun e w' ⟨h1, h2, _⟩ => ⟨h1, w', h2, Below.refl _ _, World.ownsRow_nil _ _ _ _⟩
  · exact (not_laid N.base N.ha h.alg hk).mono fun e w' ⟨h1, h2⟩ => ⟨h1, by rw [h2]; exact h⟩
theorem not_two (N : NewA L w w0 w1 A b off b' off') (h : RgL L w0 A b off b' off' v l wx) :
    Calls Try.prog 19 #[.pointer (some ⟨A, 0, none⟩), .int .i64 (nt L.q L.m L.j k : Nat)] wx fun e w' => e = .returned (.int .i64 (nt L.q L.m L.j (nt L.q L.m L.j k) : Nat)) ∧ w' = wx :=
  not_laid N.base N.ha h.alg (imp_lt N.base.lat N.base.h1 _ _)
theorem RgI.last (h : RgI L w0 A b off b' off' v L.q wx) (N : NewA L w w0 w1 A b off b' off') : NSl wx v (regs L.q L.m L.j) ∧ Below w.heap.size w wx := by
  rcases h with ⟨h, _⟩ | h
  · have := N.base.h1; omega
  · have hb := N.below h.alg
    obtain ⟨wl, _, _, h3⟩ := h
    exact ⟨owns_nats h3, hb⟩
set_option maxHeartbeats 2000000 in
theorem regular_any (L : LA) (w : World) (hL : L.In w) :
    Calls Try.prog 9 #[.agg #[.int .i64 L.n, .slice L.a L.la L.ca, .slice L.b L.lb L.cb]] w fun e w' => (∃ v c, e = .returned (.tuple #[v, .int .i64 c]) ∧ RPost L w' v c) ∧ Below w.heap.size w w' := by
  obtain ⟨i0, hi, hz0, hz1, hz2⟩ := info_parts Try.info3
  have B1 : Below w.heap.size w (w.alloc (.cells #[.int .i64 L.n, .slice L.a L.la L.ca, .slice L.b L.lb L.cb] 24)) := (Below.refl _ _).alloc (Nat.le_refl _) _
  have L0 := LB.new w L.n L.a L.la L.ca L.b L.lb L.cb
  have HI : Hid (L.In (w.alloc (.cells #[.int .i64 L.n, .slice L.a L.la L.ca, .slice L.b L.lb L.cb] 24))) := hL.step B1
  have HB1 : Hid _ := B1
  clear B1 hL
  go_enter Try.func9, Try.ntmps9
  go_wp2_with fail
  refine (algebraOf_any L _ HI.out).mono ?_
  rintro e w1 ⟨c, hc, ⟨h0, rfl, hb1⟩ | ⟨rfl, w0, A, b, off, b', off', rfl, hN⟩⟩
  · have HB2 : Hid (Below w.heap.size w w1) := Below.then HB1.out hb1
    have HC : Hid (HCk L c) := hc
    have hne : (c != 0) = true := by simpa using h0
    clear hb1 HB1 hc L0 HI
    go_wp2_with fail
    go_ret2
    exact ⟨⟨_, c, rfl, HC.out, .inl ⟨h0, rfl⟩⟩, HB2.out⟩
  · have HC : Hid (HCk L 0) := hc
    have L1 := L0.step hN.below0
    have l0 := L1.1
    have HN : Hid (NewA L _ w0 w1 A b off b' off') := hN
    have h40 := hN.base.h40
    rw [hN.nq] at l0
    clear hN hc L0 L1
    go_wp2_with fail
    go_loopw [6, 18] (fun v i wx => ∃ k : Nat, k ≤ L.q ∧ i = .int .i64 k ∧ Hid (RgI L w0 A b off b' off' v k wx)) (fun _ i _ => L.q - (intOf i).toNat)
    case atStart => exact ⟨0, Nat.zero_le _, rfl, .inl ⟨rfl, rfl, HN.out.alg⟩⟩
    case round =>
      obtain ⟨k, hk, rfl, HR⟩ := hrel
      by_cases hlt : k < L.q
      · have HC1 : Hid _ := not_one HN.out hlt HR.out
        go_wp2_with fail
        refine (Calls.mono HC1.out) ?_
        rintro e w5 ⟨rfl, h5⟩
        have HR5 : Hid (RgL L w0 A b off b' off' u6 (filt (rgB L.q L.m L.j) k) w5) := h5
        have HC2 : Hid _ := not_two (k := k) HN.out h5
        clear h5 HC1 HR l0
        go_wp2_with fail
        refine (Calls.mono HC2.out) ?_
        rintro e w6 ⟨rfl, hw6⟩
        subst w6
        clear HC2
        have hlen := filt_len (rgB L.q L.m L.j) k
        by_cases ho : nt L.q L.m L.j (nt L.q L.m L.j k) = k
        · have HN2 : Hid (filt (rgB L.q L.m L.j) (k + 1) = filt (rgB L.q L.m L.j) k ++ [k]) := filt_yes (by simp [rgB, ho])
          rw [ho]
          clear ho
          generalize filt (rgB L.q L.m L.j) k = P at *
          obtain ⟨wl, hal, hbl, hown⟩ := HR5.out
          have HAL : Hid _ := hal
          have HBL : Hid (Below wl.heap.size wl w5) := hbl
          have hsz := hbl.size
          clear hal hbl HR5
          go_wp2_with (at_builtin; refine wpList_append_own _ rfl _ _ 37 rfl wl.heap.size 3 i0 (.int .i64 0) 1 8 Try.underlying37 hi hz0 hz1 hz2 rfl (by decide) _ _ _ rfl (hown.alloc _) ⟨w5.heap.size, 0, none⟩ 1 1 [.int .i64 (k : Nat)] rfl rfl ?c1 ?c2 ?c3 ?c4 ?c5 ?_)
          case c1 =>
            intro j u hj
            match j, hj with
            | 0, hj => simp at hj; subst hj; simp [Addr.add]
          case c2 => intro u hu; simp at hu; subst hu; rfl
          case c3 => unfold maxLen; omega
          case c4 => omega
          case c5 => simp; omega
          intro v' w7 hown' hgrow _
          have HW7 : Hid (Below wl.heap.size wl w7) := (HBL.out.alloc hsz _).grown hgrow (by simp; omega) (owns_block hown)
          have HO7 : Hid (w7.ownsRow wl.heap.size 3 1 v' (P ++ [k]).length (natVals (P ++ [k]))) := by
            rw [natVals_append, List.length_append]; exact hown'
          clear hown' hgrow hown HBL
          go_wp2_with fail
          go_roundw
          case rel => exact ⟨k + 1, by omega, by go_num, .inr (by rw [HN2.out]; exact ⟨wl, HAL.out, HW7.out, HO7.out⟩)⟩
          case measure => simp [intOf]; omega
        · have hbe : (((nt L.q L.m L.j (nt L.q L.m L.j k) : Nat) : Int) == ((k : Nat) : Int)) = false := by simp; omega
          have HN2 : Hid (filt (rgB L.q L.m L.j) (k + 1) = filt (rgB L.q L.m L.j) k) := filt_no (by simp [rgB, ho])
          clear ho
          go_wp2_with fail
          go_roundw
          case rel => exact ⟨k + 1, by omega, by go_num, .inr (by rw [HN2.out]; exact HR5.out)⟩
          case measure => simp [intOf]; omega
      · have hge : (L.q : Int) ≤ (k : Int) := by omega
        have HF : Hid _ := RgI.last (by rw [show L.q = k by omega]; exact HR.out) HN.out
        go_wp2_with fail
        go_ret2
        exact ⟨⟨_, 0, rfl, HC.out, .inr ⟨rfl, HF.out.1⟩⟩, Below.then HB1.out HF.out.2⟩
end
end Go.Proofs.Ytfkkjebgccnlnaa
