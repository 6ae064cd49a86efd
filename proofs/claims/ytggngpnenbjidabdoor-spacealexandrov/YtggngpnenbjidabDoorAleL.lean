/-
  For every two orders and map that are handed in, hasselaw.SpaceAlexandrov returns true, and writes nothing that was there. Condition: the table of the least bits.
-/
import Derived.Test.YtggngpnenbjidabDoorAleM
namespace Go.Proofs.YtggngpnenbjidabDoor
set_option maxRecDepth 100000
open Go.RowKit

theorem sameOrder_any (n n' : Int) (a b : Option Addr) (la ca lb cb : Nat) (f g : Nat → Int) (w : World) (hl : la ≤ maxLen) (hl2 : lb ≤ maxLen) (ha : Row w a la f) (hb : Row w b lb g) :
    Calls Tryd.prog 9 #[.agg #[.int .i64 n, .slice a la ca], .agg #[.int .i64 n', .slice b lb cb]] w fun e w' => Ans e (SameOrders n n' la lb f g) ∧ Below w.heap.size w w' := by
  have HB2 : Hid (Below w.heap.size w ((w.alloc (.cells #[.int .i64 n, .slice a la ca] 24)).alloc (.cells #[.int .i64 n', .slice b lb cb] 24))) := ((Below.refl _ _).alloc (Nat.le_refl _) _).alloc (by simp) _
  have HA : Hid (Row w a la f) := ha
  have HB : Hid (Row w b lb g) := hb
  clear ha hb
  by_cases hn : n = n'
  · subst hn
    go_enter Tryd.func9, Tryd.ntmps9
    go_wp2_with fail
    refine (same_any a b la ca lb cb f g _ hl hl2 (HA.out.below HB2.out) (HB.out.below HB2.out)).mono ?_
    rintro e w1 ⟨⟨b, rfl, hb⟩, hB⟩
    have HBE : Hid (Below w.heap.size w w1) := Below.then HB2.out hB
    have HY : Hid (b = true ↔ SameRows la lb f g) := hb
    clear hB hb HB2
    go_wp2_with fail
    go_ret
    exact ⟨⟨_, rfl, HY.out.trans ⟨fun h => ⟨rfl, h⟩, fun h => h.2⟩⟩, HBE.out⟩
  · have hd : (n == n') = false := by simpa using hn
    have HN : Hid (¬ n = n') := hn
    clear hn
    go_enter Tryd.func9, Tryd.ntmps9
    go_wp2_with fail
    go_ret
    exact ⟨Ans.no (fun h => HN.out h.1), HB2.out⟩

set_option maxHeartbeats 8000000 in
theorem spaceAlexandrov_any (n1 : Int) (a1 : Option Addr) (l1 c1 : Nat) (F1 : Nat → Int) (n2 : Int) (a2 : Option Addr) (l2 c2 : Nat) (F2 : Nat → Int) (a3 : Option Addr) (l3 c3 : Nat) (F3 : Nat → Int) (w : World)
    (m1 : l1 ≤ maxLen) (m2 : l2 ≤ maxLen) (m3 : l3 ≤ maxLen) (r1 : Row w a1 l1 F1) (r2 : Row w a2 l2 F2) (r3 : Row w a3 l3 F3) (hT : Tab w) :
    Calls Tryd.prog 3 #[.agg #[.int .i64 n1, .slice a1 l1 c1], .agg #[.int .i64 n2, .slice a2 l2 c2], .slice a3 l3 c3] w fun e w' => e = .returned (.bool true) ∧ Below w.heap.size w w' := by
  have hb1 : Below w.heap.size w (w.alloc (.cells #[.int .i64 n1, .slice a1 l1 c1] 24)) := bel_one w _
  have hb2 := bel_one (w.alloc (.cells #[.int .i64 n1, .slice a1 l1 c1] 24)) (.cells #[.int .i64 n2, .slice a2 l2 c2] 24)
  have HB : Hid (Below w.heap.size w ((w.alloc (.cells #[.int .i64 n1, .slice a1 l1 c1] 24)).alloc (.cells #[.int .i64 n2, .slice a2 l2 c2] 24))) := Below.then hb1 hb2
  have K1 : Hid (Held ((w.alloc (.cells #[.int .i64 n1, .slice a1 l1 c1] 24)).alloc (.cells #[.int .i64 n2, .slice a2 l2 c2] 24)) w.heap.size n1 a1 l1 c1 F1) := (Held.box r1).step hb2
  have K2 : Hid (Held ((w.alloc (.cells #[.int .i64 n1, .slice a1 l1 c1] 24)).alloc (.cells #[.int .i64 n2, .slice a2 l2 c2] 24)) (w.heap.size + 1) n2 a2 l2 c2 F2) := by
    have := Held.box (n := n2) (cap := c2) (r2.below hb1)
    rw [World.size_alloc] at this
    exact this
  have R3 : Hid (Row ((w.alloc (.cells #[.int .i64 n1, .slice a1 l1 c1] 24)).alloc (.cells #[.int .i64 n2, .slice a2 l2 c2] 24)) a3 l3 F3) := r3.below HB.out
  have HT : Hid (Tab ((w.alloc (.cells #[.int .i64 n1, .slice a1 l1 c1] 24)).alloc (.cells #[.int .i64 n2, .slice a2 l2 c2] 24))) := hT.step HB.out
  clear r1 r2 r3 hT hb1 hb2
  go_enter Tryd.func3, Tryd.ntmps3
  generalize hC : Code.region 1 _ false = C
  go_wp2_with fail
  generalize (w.alloc (.cells #[.int .i64 n1, .slice a1 l1 c1] 24)).alloc (.cells #[.int .i64 n2, .slice a2 l2 c2] 24) = W at *
  rw [← hC]
  clear hC C
  go_wp2_with fail
  refine (spaceBegun_any W HT.out).mono ?_
  rintro e w1 ⟨rfl, hb1⟩
  have H1 : Hid (Below W.heap.size W w1) := hb1
  clear hb1
  have k0 := (K1.out.step H1.out).c0
  have k1 := (K1.out.step H1.out).c1
  go_wp2_with fail
  refine (opens_any n1 a1 l1 c1 F1 w1 m1 (K1.out.step H1.out).row).mono ?_
  rintro e w2 ⟨⟨c, v, rfl, hc, hv⟩, hb2⟩
  have H2 : Hid (Below W.heap.size W w2) := Below.then H1.out hb2
  clear hb2 H1 k0 k1
  by_cases h0 : c = 0
  · subst h0
    obtain ⟨rfl, h10, hrg1, hord1⟩ := hc.good
    have HCA : Hid (Chk (l1 : Int) l1 F1 0) := hc
    obtain ⟨va, vc, rfl, hrow⟩ : NSl w2 v (opn (nat F1) l1) := by
      rcases hv with ⟨h, _⟩ | ⟨_, h, _⟩
      · exact absurd rfl h
      · exact h
    have HRL : Hid (Row w2 va (opn (nat F1) l1).length (fun k => ((nth (opn (nat F1) l1) k : Nat) : Int))) := hrow
    have HLL : Hid ((opn (nat F1) l1).length ≤ maxLen) := Nat.le_trans (idls_len _ _ h10) (by decide)
    have HFC : Hid (FChk (l1 : Int) (opn (nat F1) l1).length (fun k => ((nth (opn (nat F1) l1) k : Nat) : Int)) 0) := .inr ⟨l1, rfl, h10, .inr ⟨opn_fin h10, .inr ⟨rfl, opn_ris _ _⟩⟩⟩
    have HFG : Hid (FG l1 (opn (nat F1) l1).length (fun k => ((nth (opn (nat F1) l1) k : Nat) : Int))) := fg_opn h10 hrg1.small hord1
    have HBL : Hid (∀ k, k < l1 → ((bl (nat (fun k => ((nth (opn (nat F1) l1) k : Nat) : Int))) (opn (nat F1) l1).length l1 k : Nat) : Int) = F1 k) := fun k hk => by
      rw [nat_cast, bl_is h10 hrg1.small hord1 hk]
      have := hrg1 k hk
      unfold nat; omega
    clear hc hv hrow hrg1 hord1
    have k0 := (K1.out.step H2.out).c0
    go_wp2_with fail
    refine (fromOpens_any l1 va _ vc _ w2 HLL.out HRL.out (HT.out.step H2.out)).mono ?_
    rintro e w3 ⟨⟨c, x, rfl, hx⟩, hb3⟩
    obtain ⟨rfl, xa, xc, rfl, hxr⟩ : c = 0 ∧ ∃ a cap, x = .agg #[.int .i64 (l1 : Int), .slice a l1 cap] ∧ Row w3 a l1 (fun k => ((bl (nat (fun k => ((nth (opn (nat F1) l1) k : Nat) : Int))) (opn (nat F1) l1).length l1 k : Nat) : Int)) := by
      rcases hx with ⟨h1, h2, _⟩ | ⟨n, h1, _, ⟨_, h3, _⟩ | ⟨h3, _, h4⟩⟩
      · exact absurd (h2.unique HFC.out) h1
      · obtain rfl : n = l1 := by omega
        exact absurd HFG.out h3
      · obtain rfl : n = l1 := by omega
        exact ⟨h3, h4⟩
    have HXR : Hid (Row w3 xa l1 F1) := fun k hk => by
      obtain ⟨b, off, e, hcell⟩ := hxr k hk
      exact ⟨b, off, e, by rw [hcell]; exact congrArg (fun z => some (Value.int .i64 z)) (HBL.out k hk)⟩
    have H3 : Hid (Below W.heap.size W w3) := Below.then H2.out hb3
    have hb4 := bel_one w3 (.cells #[.int .i64 (l1 : Int), .slice xa l1 xc] 24)
    have H4 : Hid (Below W.heap.size W (w3.alloc (.cells #[.int .i64 (l1 : Int), .slice xa l1 xc] 24))) := Below.then H3.out hb4
    have HX4 : Hid (Row (w3.alloc (.cells #[.int .i64 (l1 : Int), .slice xa l1 xc] 24)) xa l1 F1) := HXR.out.below hb4
    clear hx hxr hb3 hb4 H2 H3 HRL HLL HFC HFG HBL HXR k0
    have k0 := (K1.out.step H4.out).c0
    have k1 := (K1.out.step H4.out).c1
    go_wp2_with fail
    refine (sameOrder_any (l1 : Int) (l1 : Int) xa a1 l1 xc l1 c1 F1 F1 _ m1 m1 HX4.out (K1.out.step H4.out).row).mono ?_
    rintro e w5 ⟨⟨b, rfl, hb⟩, hb5⟩
    obtain rfl : b = true := hb.2 ⟨rfl, rfl, fun _ _ => rfl⟩
    have H5 : Hid (Below W.heap.size W w5) := Below.then H4.out hb5
    clear hb hb5 H4 HX4 k0 k1
    have k0 := (K1.out.step H5.out).c0
    have k1 := (K1.out.step H5.out).c1
    have k2 := (K2.out.step H5.out).c0
    have k3 := (K2.out.step H5.out).c1
    go_wp2_with fail
    refine (smooth_any l1 a1 l1 c1 F1 n2 a2 l2 c2 F2 a3 l3 c3 F3 w5 m1 m2 m3 (K1.out.step H5.out).row (K2.out.step H5.out).row (R3.out.below H5.out) (HT.out.step H5.out)).mono ?_
    rintro e w6 ⟨⟨c, v, hc, rfl, hv⟩, hb6⟩
    have H6 : Hid (Below W.heap.size W w6) := Below.then H5.out hb6
    have HC : Hid (MoCk ⟨(l1 : Int), a1, l1, c1, F1⟩ ⟨n2, a2, l2, c2, F2⟩ ⟨a3, l3, c3, F3⟩ c) := hc
    have HV : Hid ((c ≠ 0 ∧ v = false) ∨ (c = 0 ∧ (v = true ↔ SmL ⟨(l1 : Int), a1, l1, c1, F1⟩ ⟨n2, a2, l2, c2, F2⟩ ⟨a3, l3, c3, F3⟩))) := hv
    clear hc hv hb6 H5 k0 k1 k2 k3
    have k0 := (K1.out.step H6.out).c0
    have k1 := (K1.out.step H6.out).c1
    have k2 := (K2.out.step H6.out).c0
    have k3 := (K2.out.step H6.out).c1
    go_wp2_with fail
    refine (monotone_any ⟨(l1 : Int), a1, l1, c1, F1⟩ ⟨n2, a2, l2, c2, F2⟩ ⟨a3, l3, c3, F3⟩ w6 ⟨m1, (K1.out.step H6.out).row⟩ ⟨m2, (K2.out.step H6.out).row⟩ ⟨m3, R3.out.below H6.out⟩).mono ?_
    rintro e w7 ⟨⟨c', v', hc', rfl, hv'⟩, hb7⟩
    obtain rfl := HC.out.one hc'
    obtain rfl : v = v' := by
      rcases HV.out with ⟨h1, h2⟩ | ⟨h1, h2⟩
      · rcases hv' with ⟨_, h4⟩ | ⟨h3, _⟩
        · rw [h2, h4]
        · exact absurd h3 h1
      · rcases hv' with ⟨h3, _⟩ | ⟨_, h4⟩
        · exact absurd h1 h3
        · subst h1
          obtain ⟨hA, hB, hM⟩ := hc'.good
          rw [Bool.eq_iff_iff, h2, h4]
          exact smooth_iff hA hB hM
    have HF : Hid (Below w.heap.size w w7) := Below.then HB.out (Below.then H6.out hb7)
    clear hc' hv' hb7 HC HV k0 k1 k2 k3
    cases v <;> (go_wp2_with fail) <;> go_ret <;> exact ⟨ret_bool (by simp), HF.out⟩
  · have hne : (c != 0) = true := by simpa using h0
    have HF : Hid (Below w.heap.size w w2) := Below.then HB.out H2.out
    clear hc hv h0
    go_wp2_with fail
    go_ret
    exact ⟨rfl, HF.out⟩
end Go.Proofs.YtggngpnenbjidabDoor
