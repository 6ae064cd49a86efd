/-
  For every context that is handed in, hasselaw.ConceptGanter returns true, and writes nothing that was there. No condition.
-/
import Derived.Laws.OwnMore
import Derived.Test.YtpmgengddnafeabGood2
import Derived.Test.YtpmgengddnafeabConL4
import Derived.Test.YtpmgengddnafeabGanM
import Derived.Test.YtpmgengddnafeabPlaceR
namespace Go.Proofs.Ytpmgengddnafeab
open Go.RowKit

theorem once_1024 {h : Nat → Nat} {n m : Nat} {l : List Nat} {x : Nat} (h10 : n ≤ 10) (m10 : m ≤ 10) (hh : ∀ k, k < n → h k < 1024) (hm : Met h n m l x) : l.length ≤ 1024 := Nat.le_trans (hm.le h10 m10 hh) (cons_len h m h10)
theorem nth_of_mem {l : List Nat} {x : Nat} (h : x ∈ l) : ∃ k, k < l.length ∧ nth l k = x := by
  obtain ⟨k, hk, e⟩ := List.getElem_of_mem h
  refine ⟨k, hk, ?_⟩
  unfold nth
  rw [List.getD_eq_getElem?_getD, List.getElem?_eq_getElem hk, e]; rfl
/-- What next comes at a good context and set. -/
theorem next_good (a : Option Addr) (len r cap : Nat) (f : Nat → Int) (s : Nat) (w : World) (hl : len ≤ maxLen) (hr : Row w a len f) (hc : GChk len r len f 0) (r10 : r ≤ 10) (hs : s < pw r) :
    Calls Try.prog 10 #[.agg #[.int .i64 (len : Int), .int .i64 (r : Int), .slice a len cap], .int .i64 (s : Nat)] w fun e w' => ((nxt (clm (nat f) len r) s r = none ∧ e = .returned (.tuple #[.int .i64 0, .int .i64 5])) ∨ ∃ x, nxt (clm (nat f) len r) s r = some x ∧ e = .returned (.tuple #[.int .i64 (x : Nat), .int .i64 0])) ∧ Below w.heap.size w w' := by
  refine (next_any len r a len cap f s w hl hr).mono ?_
  rintro e w' ⟨h, hb⟩
  refine ⟨?_, hb⟩
  have h0 : SChk len r r len f s 0 := .inr ⟨hc, r, rfl, r10, .inr ⟨rfl, by omega, by omega⟩⟩
  rcases h with ⟨c, hne, hcc, _⟩ | ⟨r', s', _, e2, _, _, _, e3, _, _, h⟩
  · exact absurd (SChk.unique hcc h0) hne
  · obtain rfl : r' = r := by omega
    obtain rfl : s' = s := by omega
    exact h

set_option maxHeartbeats 1000000 in
theorem conceptGanter_any (L R : Int) (a : Option Addr) (len cap : Nat) (f : Nat → Int) (w : World) (hl : len ≤ maxLen) (hr : Row w a len f) :
    Calls Try.prog 3 #[.agg #[.int .i64 L, .int .i64 R, .slice a len cap]] w fun e w' => e = .returned (.bool true) ∧ Below w.heap.size w w' := by
  have K0 : GHeld (w.alloc (.cells #[.int .i64 L, .int .i64 R, .slice a len cap] 24)) w.heap.size L R a len cap f := GHeld.box hr
  have HB0 : Hid (Below w.heap.size w (w.alloc (.cells #[.int .i64 L, .int .i64 R, .slice a len cap] 24))) := (Below.refl _ _).alloc (Nat.le_refl _) _
  clear hr
  go_enter Try.func3, Try.ntmps3
  go_wp2_with fail
  refine (conceptBegun_any _).mono ?_
  rintro e w1 ⟨rfl, hb⟩
  have K1 := K0.step hb
  have HB1 : Hid (Below w.heap.size w w1) := Below.then HB0.out hb
  have k0 := K1.c0
  have k1 := K1.c1
  have k2 := K1.c2
  clear hb K0 HB0
  go_wp2_with fail
  refine (concepts_any L R a len cap f _ hl K1.row).mono ?_
  rintro e W ⟨he, hb⟩
  have K2 := K1.step hb
  have HB2 : Hid (Below w.heap.size w W) := Below.then HB1.out hb
  clear hb K1 HB1 k0 k1 k2
  rcases he with ⟨c, h0, hc, rfl⟩ | ⟨r, v, hc, rfl, rfl, h10, r10, hrng, rfl, hv⟩
  · have hne : (c != 0) = true := by simpa using h0
    clear hc K2
    go_wp2_with fail
    go_ret
    exact ⟨rfl, HB2.out⟩
  have hg := hrng.small2 r10
  have HG : Hid (∀ k, k < len → nat f k < 1024) := hg
  have HH : Hid (∀ w', Below W.heap.size W w' → GHeld w' w.heap.size len r a len cap f) := fun w' h => K2.step h
  have HMK : Hid (∀ s, s < pw len → ∀ w', Below W.heap.size W w' → Calls Try.prog 9 #[.agg #[.int .i64 (len : Int), .int .i64 (r : Int), .slice a len cap], .int .i64 (s : Nat)] w' fun e w'' => e = .returned (.tuple #[.int .i64 ((mks (nat f) len r s : Nat) : Int), .int .i64 0]) ∧ Below w'.heap.size w' w'') := fun s hs w' h => marks_good a len r cap f s w' hl (K2.step h).row hc h10 r10 hs
  have HTH : Hid (∀ s, s < pw r → ∀ w', Below W.heap.size W w' → Calls Try.prog 8 #[.agg #[.int .i64 (len : Int), .int .i64 (r : Int), .slice a len cap], .int .i64 (s : Nat)] w' fun e w'' => e = .returned (.tuple #[.int .i64 ((ths (nat f) len s : Nat) : Int), .int .i64 0]) ∧ Below w'.heap.size w' w'') := fun s hs w' h => things_good a len r cap f s w' hl (K2.step h).row hc r10 hs
  have HNX : Hid (∀ s, s < pw r → ∀ w', Below W.heap.size W w' → Calls Try.prog 10 #[.agg #[.int .i64 (len : Int), .int .i64 (r : Int), .slice a len cap], .int .i64 (s : Nat)] w' fun e w'' => ((nxt (clm (nat f) len r) s r = none ∧ e = .returned (.tuple #[.int .i64 0, .int .i64 5])) ∨ ∃ x, nxt (clm (nat f) len r) s r = some x ∧ e = .returned (.tuple #[.int .i64 (x : Nat), .int .i64 0])) ∧ Below w'.heap.size w' w'') := fun s hs w' h => next_good a len r cap f s w' hl (K2.step h).row hc r10 hs
  obtain ⟨i0, hi, hz0, hz1, hz2⟩ := info_parts Try.info3
  obtain ⟨h, HHE⟩ : ∃ h, Hid (h = nat f) := ⟨_, rfl⟩
  rw [← HHE.out] at hv HMK HTH HNX HG
  have HHG : Hid (∀ k, k < len → h k < 1024) := HG
  obtain ⟨pa, pc, rfl, hpr⟩ := hv
  have HPR : Hid (∀ w', Below W.heap.size W w' → PRow w' pa (cons h len r).length (pairAt (cons h len r))) := fun w' h => hpr.below h
  have HQL : Hid ((cons h len r).length ≤ 1024) := cons_len h r h10
  have HMEM : Hid (∀ l : List Nat, (∀ x y, (x, y) ∈ cons h len r → y ∈ l) → ∀ k, k < (cons h len r).length → ∃ y : Nat, (pairAt (cons h len r) k).2 = (y : Int) ∧ y ∈ l) := fun l hl k hk => by
    refine ⟨((cons h len r).getD k (0, 0)).2, rfl, hl ((cons h len r).getD k (0, 0)).1 _ ?_⟩
    rw [List.getD_eq_getElem?_getD, List.getElem?_eq_getElem hk]
    exact List.getElem_mem hk
  obtain ⟨q, HQ⟩ : ∃ q, Hid (q = (cons h len r).length) := ⟨_, rfl⟩
  rw [← HQ.out] at HPR HQL HMEM ⊢
  have hq := HQL.out
  have k0 := K2.c0
  have k1 := K2.c1
  have k2 := K2.c2
  clear hc hrng hg K2 hpr
  go_wp2_with fail
  refine (HTH.out 0 (pw_pos r) _ (Below.refl _ _)).mono ?_
  rintro e w3 ⟨rfl, hb3⟩
  have HB3 : Hid (Below W.heap.size W w3) := hb3
  clear hb3 k0 k1 k2
  have k0 := (HH.out _ HB3.out).c0
  have k1 := (HH.out _ HB3.out).c1
  have k2 := (HH.out _ HB3.out).c2
  go_wp2_with fail
  refine (HMK.out _ (ths_lt _ _ _) _ HB3.out).mono ?_
  rintro e w4 ⟨rfl, hb4⟩
  have HB4 : Hid (Below W.heap.size W w4) := Below.then HB3.out hb4
  clear hb4 k0 k1 k2
  obtain ⟨x0, HX0⟩ : ∃ x0, Hid (x0 = mks h len r (ths h len 0)) := ⟨_, rfl⟩
  rw [← HX0.out]
  have HM0 : Hid (Met h len r [x0] x0) := by rw [Hid, HX0.out]; exact Met.first h10 r10 HHG.out
  obtain ⟨w5, HW5⟩ : ∃ w5, Hid (w5 = w4.alloc (.cells #[.int .i64 (x0 : Nat)] 3)) := ⟨_, rfl⟩
  have HB5 : Hid (Below W.heap.size W w5) := by rw [Hid, HW5.out]; exact HB4.out.alloc HB4.out.size _
  have HO5 : Hid (w5.ownsRow W.heap.size 3 1 (.slice (some ⟨w4.heap.size, 0, none⟩) 1 1) 1 (natVals [x0])) := by
    rw [Hid, HW5.out]; exact World.ownsRow_lit w4 #[.int .i64 (x0 : Nat)] 1 HB4.out.size (by unfold maxLen; omega) rfl
  clear HX0 HB3 HB4 HTH HMK
  go_wp2_with fail
  rw [← HW5.out]
  clear HW5
  go_loopw [8, 9] (fun v i wx => ∃ (l : List Nat) (y : Nat), i = .int .i64 (y : Nat) ∧ Hid (Met h len r l y) ∧ wx.ownsRow W.heap.size 3 1 v l.length (natVals l) ∧ Hid (∃ pb n' c', v = .slice pb n' c' ∧ n' = l.length) ∧ Hid (Below W.heap.size W wx)) (fun v _ _ => q - (match v with | .slice _ n _ => n | _ => 0))
  case atStart => exact ⟨[x0], x0, rfl, HM0, HO5.out, ⟨_, _, _, rfl, rfl⟩, HB5⟩
  case round =>
    clear HM0 HO5 HB5
    obtain ⟨l, y, rfl, hM, hown, ⟨pb, n', c', rfl, rfl⟩, hB⟩ := hrel
    have hle : l.length ≤ q := by rw [HQ.out]; exact hM.out.le h10 r10 HHG.out
    have hyr : y < pw r := (hM.out.2.1 y hM.out.2.2.1).1.1
    have hH := HH.out _ hB.out
    have k0 := hH.c0
    have k1 := hH.c1
    have k2 := hH.c2
    clear hH
    go_wp2_with fail
    refine (HNX.out y hyr _ hB.out).mono ?_
    rintro e w6 ⟨he, hb6⟩
    have HB6 : Hid (Below W.heap.size W w6) := Below.then hB.out hb6
    have hown6 := owns_below hown hb6
    clear hb6 k0 k1 k2 hown hB
    rcases he with ⟨hn, rfl⟩ | ⟨x, hx, rfl⟩
    · obtain ⟨hlen, hall⟩ := hM.out.done h10 r10 HHG.out hn
      have hlq : l.length = q := by rw [hlen, HQ.out]
      have HALL := (show Hid _ from HMEM.out l hall)
      have HNS := (show Hid _ from owns_nats hown6)
      clear hall hlen hn hown6
      subst hlq
      go_wp2_with fail
      go_loop [12] (fun i => ∃ k : Nat, k ≤ l.length ∧ i = .int .i64 k) (fun i => l.length - (intOf i).toNat)
      case atStart => exact ⟨0, Nat.zero_le _, rfl⟩
      case round =>
        obtain ⟨k, hk, rfl⟩ := hrel
        by_cases hlt : k < l.length
        · obtain ⟨b, off, rfl, _, hck⟩ := HPR.out _ HB6.out k hlt
          obtain ⟨z, hz, hzl⟩ := HALL.out k hlt
          rw [hz] at hck
          have hlt' : (k : Int) < (l.length : Int) := by omega
          obtain ⟨pb', pc', e', hrow⟩ := HNS.out
          cases e'
          have HCALL : Hid (Calls Try.prog 12 #[.slice pb l.length c', .int .i64 (z : Nat)] w6 _) := place_in l pb l.length c' z w6 (by unfold maxLen; omega) rfl hrow (nth_of_mem hzl)
          clear hrow hz hzl
          go_wp2_with fail
          refine HCALL.out.mono ?_
          rintro e w' ⟨⟨p, rfl⟩, rfl⟩
          have hneg : decide (((p : Nat) : Int) < 0) = false := by simp
          clear HCALL
          go_wp2_with fail
          go_round
          case rel => exact ⟨k + 1, by omega, by go_num⟩
          case measure => simp [intOf]; omega
        · obtain rfl : k = l.length := by omega
          go_wp2_with fail
          go_ret
          exact ⟨rfl, Below.then HB2.out HB6.out⟩
    · have HM2 : Hid (Met h len r (l ++ [x]) x) := hM.out.next h10 r10 HHG.out hx
      have hlec := Met.step_lec h10 r10 HHG.out hx
      have hx1 : x < 1024 := set_1024 r10 (HM2.out.2.1 x HM2.out.2.2.1).1.1
      have hy1 : y < 1024 := set_1024 r10 hyr
      have hl2 : (l ++ [x]).length ≤ q := by rw [HQ.out]; exact HM2.out.le h10 r10 HHG.out
      rw [List.length_append, List.length_singleton] at hl2
      have HLEC : Hid (Lec y x) := hlec
      have hsz : W.heap.size ≤ w6.heap.size := HB6.out.size
      clear hx hlec hM
      go_wp2_with fail
      refine (lectic_any y x _ hy1 hx1).mono ?_
      rintro e w' ⟨⟨b, rfl, hb⟩, rfl⟩
      obtain rfl : b = true := hb.2 HLEC.out
      clear hb
      go_wp2_with (at_builtin; refine wpList_append_own _ rfl _ _ 22 rfl W.heap.size 3 i0 (.int .i64 0) 1 8 Try.underlying22 hi hz0 hz1 hz2 rfl (by decide) _ _ _ rfl (hown6.alloc _) ⟨w6.heap.size, 0, none⟩ 1 1 [.int .i64 (x : Nat)] rfl rfl ?c1 ?c2 ?c3 ?c4 ?c5 ?_)
      case c1 =>
        intro j u hj
        match j, hj with
        | 0, hj => simp at hj; subst hj; simp [Addr.add]
      case c2 => intro u hu; simp at hu; subst hu; rfl
      case c3 => unfold maxLen; omega
      case c4 => omega
      case c5 => simp; omega
      intro v' w7 hown' hgrow _
      have HB7 : Hid (Below W.heap.size W w7) := below_append3 HB6.out hown6 hgrow
      have HO7 : Hid (w7.ownsRow W.heap.size 3 1 v' (l ++ [x]).length (natVals (l ++ [x]))) := by
        rw [natVals_append, List.length_append]; exact hown'
      obtain ⟨g7, c7, rfl⟩ := owns_form hown' (by omega)
      clear hown' hgrow hown6 HB6 hsz
      go_wp2_with fail
      go_roundw
      case rel => exact ⟨l ++ [x], x, rfl, HM2, HO7.out, ⟨_, _, _, rfl, by simp⟩, HB7⟩
      case measure => simp; omega
end Go.Proofs.Ytpmgengddnafeab
