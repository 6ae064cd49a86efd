/-
  For every number and rules that are handed in, hasselaw.ImplyKeys returns true, and writes nothing that was there. Condition: the table of the least bits.
-/
import Derived.Test.YtgjdpgjaaaeglaaDoorRefCls
import Derived.BigQuiet
namespace Go.Proofs.YtgjdpgjaaaeglaaDoor
open Go.RowKit

theorem NSl.below {w w' : World} {v : Value} {l : List Nat} (h : NSl w v l) (hb : Below w.heap.size w w') : NSl w' v l := by
  obtain ⟨a, cap, rfl, hr⟩ := h
  exact ⟨a, cap, rfl, hr.below hb⟩
theorem numbersAre_any (c : Int) (l : List Nat) (v v' : Value) (w : World) (hl : l.length ≤ maxLen) (h1 : (c ≠ 0 ∧ v = .slice none 0 0 ∧ v' = .slice none 0 0) ∨ (c = 0 ∧ NSl w v l ∧ NSl w v' l)) :
    Calls Tryd.prog 14 #[v, .int .i64 c, .int .i64 c, v'] w fun e w' => e = .returned (.bool true) ∧ Below w.heap.size w w' := by
  rcases h1 with ⟨h0, rfl, rfl⟩ | ⟨rfl, ⟨a, ca, rfl, hr⟩, ⟨b, cb, rfl, hr'⟩⟩
  · have hne : (c != 0) = true := by simpa using h0
    go_enter Tryd.func14, Tryd.ntmps14
    go_wp2_with fail
    refine (same_any none none 0 0 0 0 (fun _ => 0) (fun _ => 0) _ (by unfold maxLen; omega) (by unfold maxLen; omega) (fun k hk => absurd hk (Nat.not_lt_zero _)) (fun k hk => absurd hk (Nat.not_lt_zero _))).mono ?_
    rintro e w1 ⟨⟨q, rfl, hq⟩, hB⟩
    obtain rfl : q = true := hq.2 ⟨rfl, fun _ _ => rfl⟩
    have HB : Hid (Below w.heap.size w w1) := hB
    clear hq hB
    go_wp2_with fail
    go_ret
    exact ⟨rfl, HB.out⟩
  · generalize l.length = m at *
    have HA : Hid (Row w a m (fun k => (nth l k : Nat))) := hr
    have HB' : Hid (Row w b m (fun k => (nth l k : Nat))) := hr'
    clear hr hr'
    go_enter Tryd.func14, Tryd.ntmps14
    go_wp2_with fail
    refine (same_any a b m ca m cb (fun k => (nth l k : Nat)) (fun k => (nth l k : Nat)) _ hl hl HA.out HB'.out).mono ?_
    rintro e w1 ⟨⟨q, rfl, hq⟩, hB⟩
    obtain rfl : q = true := hq.2 ⟨rfl, fun _ _ => rfl⟩
    have HB : Hid (Below w.heap.size w w1) := hB
    clear hq hB
    go_wp2_with fail
    go_ret
    exact ⟨rfl, HB.out⟩
theorem lack_pw {s p : Nat} (hs : s < 1024) (hp : p < 10) (h : s.testBit p = true) : lack s (pw p) = s - pw p := by
  have h1 : pw p < 1024 := Nat.lt_of_lt_of_le (Nat.pow_lt_pow_right (by decide) hp) (Nat.le_refl (2 ^ 10))
  have hb : ∀ i, (lack s (pw p)).testBit i = (s.testBit i && !decide (p = i)) := fun i => by rw [lack_bit _ _ _ (by omega) (by omega), pw_bit]
  have hz : (lack s (pw p)).testBit p = false := by rw [hb]; simp
  have e : lack s (pw p) + pw p = s := by
    rw [← or_free' hz]
    apply Nat.eq_of_testBit_eq
    intro i
    rw [Nat.testBit_or, hb, pw_bit]
    by_cases e : p = i
    · subst e; simp [h]
    · simp [e]
  omega
theorem pw_le_bit {s p : Nat} (h : s.testBit p = true) : pw p ≤ s := by
  rcases Nat.lt_or_ge s (pw p) with h3 | h3
  · rw [Nat.testBit_lt_two_pow h3] at h; cases h
  · exact h3
theorem sub_lt' {s p : Nat} (_hs : s < 1024) (_hp : p < 10) (h : s.testBit p = true) : s - pw p < s := by
  have h1 := pw_pos p
  have h2 := pw_le_bit h
  omega


theorem in_as (s p : Nat) (v : Bool) (w : World) (hs : s < 9223372036854775808) (hp : p < 63) (h : s.testBit p = v) :
    Calls Tryd.prog 12 #[.int .i64 s, .int .i64 p] w fun e w' => e = .returned (.bool v) ∧ w' = w :=
  (in_any s p w hs hp).mono fun _ _ ⟨h1, h2⟩ => ⟨by rw [h1, h], h2.symm⟩
theorem pts_mem (s : Nat) : ∀ k i, i ∈ pts s k ↔ i < k ∧ s.testBit i = true
  | 0, i => by simp [pts]
  | k + 1, i => by
    cases hb : s.testBit k
    · rw [pts_no hb, pts_mem s k i]
      constructor
      · rintro ⟨h1, h2⟩; exact ⟨by omega, h2⟩
      · rintro ⟨h1, h2⟩
        refine ⟨?_, h2⟩
        by_cases e : i = k
        · subst e; rw [hb] at h2; cases h2
        · omega
    · rw [pts_yes hb, List.mem_append, pts_mem s k i, List.mem_singleton]
      constructor
      · rintro (⟨h1, h2⟩ | rfl)
        · exact ⟨by omega, h2⟩
        · exact ⟨by omega, hb⟩
      · rintro ⟨h1, h2⟩
        by_cases e : i = k
        · exact .inr e
        · exact .inl ⟨by omega, h2⟩
/-- Is x a key, as far as its first j points go? -/
def kyB (C : Nat → Nat) (n x j : Nat) : Bool := (C x == pw n - 1) && allB (fun i => !x.testBit i || (C (x - pw i) != pw n - 1)) j
theorem kyB_succ (C : Nat → Nat) (n x j : Nat) : kyB C n x (j + 1) = (kyB C n x j && (!x.testBit j || (C (x - pw j) != pw n - 1))) := by
  unfold kyB; rw [allB, Bool.and_assoc]
theorem kyB_is {C : Nat → Nat} {n x : Nat} (h10 : n ≤ 10) (hx : x < pw n) : kyB C n x n = isKey C n x := by
  have hx1 : x < 1024 := Nat.lt_of_lt_of_le hx (pw_le n h10)
  unfold kyB isKey
  cases e : C x == pw n - 1
  · rfl
  · rw [Bool.true_and, Bool.true_and, Bool.eq_iff_iff, allB_iff, List.all_eq_true]
    constructor
    · intro h i hi
      obtain ⟨h1, h2⟩ := (pts_mem x 10 i).1 hi
      have h3 := h i (bit_of_lt hx h2)
      rw [h2] at h3
      rw [lack_pw hx1 h1 h2]
      simpa using h3
    · intro h i hi
      cases hb : x.testBit i
      · rfl
      · have h3 := h i ((pts_mem x 10 i).2 ⟨by omega, hb⟩)
        rw [lack_pw hx1 (by omega) hb] at h3
        simpa using h3

set_option maxHeartbeats 4000000 in
theorem implyKeys_any (N : Int) (a : Option Addr) (len cap : Nat) (p : Nat → Int × Int) (w : World) (hl : len ≤ maxLen) (hr : PRow w a len p) (hT : Tab w) :
    Calls Tryd.prog 3 #[.int .i64 N, .slice a len cap] w fun e w' => e = .returned (.bool true) ∧ Below w.heap.size w w' := by
  have HR : Hid (∀ w', Below w.heap.size w w' → PRow w' a len p) := fun w' h => hr.below h
  have HT : Hid (Tab w) := hT
  have HKX := (show Hid (Calls Tryd.prog 8 #[.int .i64 N, .slice a len cap] w _) from keysX_any N a len cap p w hl hr hT)
  obtain ⟨i0, hi, hz0, hz1, hz2⟩ := info_parts Tryd.info3
  clear hr hT
  go_enter Tryd.func3, Tryd.ntmps3
  go_wp2_with fail
  refine HKX.out.mono ?_
  rintro e w1 ⟨he, hb1⟩
  have HB1 : Hid (Below w.heap.size w w1) := hb1
  have HCK := (show Hid (Calls Tryd.prog 9 #[.int .i64 N, .slice a len cap] w1 _) from checkRules_any N a len cap p w1 hl (HR.out _ hb1))
  clear hb1 HKX
  rcases he with ⟨c, h0, hc, rfl⟩ | ⟨n, v, rfl, hc, h10, h60, hri, rfl, hv⟩
  · have hne : (c == 0) = false := by simpa using h0
    have HC : Hid (RChk N len p c) := hc
    clear hc
    go_wp2_with fail
    refine HCK.out.mono ?_
    rintro e w2 ⟨⟨c', rfl, hc'⟩, hb2⟩
    obtain rfl := hc'.unique HC.out
    have HB2 : Hid (Below w.heap.size w w2) := Below.then HB1.out hb2
    clear hc' hb2 HCK
    go_wp2_with fail
    refine (implyBegun_any _ (HT.out.step HB2.out)).mono ?_
    rintro e w3 ⟨rfl, hb3⟩
    have HB3 : Hid (Below w.heap.size w w3) := Below.then HB2.out hb3
    clear hb3
    go_wp2_with fail
    refine (numbersAre_any c' [] _ _ _ (Nat.zero_le _) (.inl ⟨h0, rfl, rfl⟩)).mono ?_
    rintro e w4 ⟨rfl, hb4⟩
    have HB4 : Hid (Below w.heap.size w w4) := Below.then HB3.out hb4
    clear hb4
    go_wp2_with fail
    go_ret
    exact ⟨rfl, HB4.out⟩
  · have HC : Hid (RChk (n : Int) len p 0) := hc
    have HRI : Hid (RIs n len p) := hri
    have hpn := pw_le n h10
    have hpp := pw_pos n
    have HV : Hid (NSl w1 v (keysL (clo (rls p len) n) n)) := hv
    obtain ⟨av, cv, rfl, _⟩ := hv
    have HCL : Hid (∀ w', Below w.heap.size w w' → Calls Tryd.prog 10 #[.int .i64 (n : Nat), .slice a len cap] w' fun e w'' => (∃ b cp, e = .returned (.slice b (pw n) cp) ∧ Row w'' b (pw n) (fun k => (clo (rls p len) n k : Nat))) ∧ Below w'.heap.size w' w'') := fun w' h => closes_any n (rls p len) a len cap w' h10 HRI.out.rin (rls_len p len).symm h60 (HRI.out.row' (HR.out w' h))
    have HCB : Hid (∀ s, clo (rls p len) n s < 1024) := fun s => Nat.lt_of_lt_of_le clo_lt hpn
    have HKL : Hid (keysL (clo (rls p len) n) n = fil (isKey (clo (rls p len) n) n) (pw n)) := rfl
    clear hc hri
    generalize keysL (clo (rls p len) n) n = J at *
    generalize clo (rls p len) n = C at *
    have HKS : Hid (∀ x j, kyB C n x (j + 1) = (kyB C n x j && (!x.testBit j || (C (x - pw j) != pw n - 1)))) := fun x j => kyB_succ C n x j
    have HKI : Hid (∀ x, x < pw n → kyB C n x n = isKey C n x) := fun x hx => kyB_is h10 hx
    generalize isKey C n = I at *
    go_wp2_with fail
    refine HCK.out.mono ?_
    rintro e w2 ⟨⟨c', rfl, hc'⟩, hb2⟩
    obtain rfl := hc'.unique HC.out
    have HB2 : Hid (Below w1.heap.size w1 w2) := hb2
    clear hc' hb2 HCK
    go_wp2_with fail
    refine (HCL.out _ (Below.then HB1.out HB2.out)).mono ?_
    rintro e W3 ⟨⟨b3, c3, rfl, hr3⟩, hb3⟩
    have HB3 : Hid (Below w1.heap.size w1 W3) := Below.then HB2.out hb3
    have HR3 : Hid (Row W3 b3 (pw n) (fun k => (C k : Nat))) := hr3
    clear hb3 hr3 HCL
    go_wp2_with fail
    go_loopw [8, 10] (fun v i wx => ∃ x : Nat, x ≤ pw n ∧ i = .int .i64 x ∧ wx.ownsRow W3.heap.size 3 1 v (fil I x).length (natVals (fil I x)) ∧ Hid (Below W3.heap.size W3 wx)) (fun _ i _ => pw n - (intOf i).toNat)
    case atStart => exact ⟨0, Nat.zero_le _, rfl, World.ownsRow_nil _ _ _ _, Below.refl _ _⟩
    case round =>
      obtain ⟨x, hx, rfl, hown, hB⟩ := hrel
      by_cases hlt : x < pw n
      · have hlt' : (x : Int) < ((pw n : Nat) : Int) := by omega
        have hx1 : x < 1024 := by omega
        obtain ⟨b4, off, rfl, hcc⟩ := (HR3.out.below hB.out) x hlt
        have hc2 : wr.cell? ⟨b4, off + x, none⟩ = some (.int .i64 (C x : Nat)) := hcc
        have h0 : (((C x : Nat) : Int) == ((pw n : Nat) : Int) - 1) = kyB C n x 0 := by
          show _ = ((C x == pw n - 1) && true)
          rw [Bool.and_true, Bool.eq_iff_iff]; simp; omega
        have hcx := HCB.out x
        have HO : Hid (wr.ownsRow W3.heap.size 3 1 u8 (fil I x).length (natVals (fil I x))) := hown
        obtain ⟨y, HY⟩ : ∃ y, Hid (C x = y) := ⟨_, rfl⟩
        rw [HY.out] at hc2 h0 hcx
        clear hcc hown
        go_wp2_with fail
        refine (bit_any n _ (by omega)).mono ?_
        rintro e w' ⟨rfl, rfl⟩
        go_wp2_with fail
        go_big_quiet (first | (go_at_call 11; exact Calls.quiet_of_same (bit_quiet n _ (by omega))))
        go_wp2_with fail
        try rw [h0]
        clear h0 hc2
        go_loopw [11, 12] (fun k i wy => ∃ j : Nat, j ≤ n ∧ i = .int .i64 (j : Nat) ∧ k = .bool (kyB C n x j) ∧ Hid (wy.ownsRow W3.heap.size 3 1 u8 (fil I x).length (natVals (fil I x))) ∧ Hid (Below W3.heap.size W3 wy)) (fun _ i _ => n - (intOf i).toNat)
        case atStart => exact ⟨0, Nat.zero_le _, rfl, rfl, owns_below HO.out (below_drewN (Below.refl _ _) _), below_drewN hB.out _⟩
        case round =>
          clear HO hB
          obtain ⟨j, hj, rfl, rfl, HO, hB⟩ := hrel
          by_cases hjn : j < n
          · have hjn' : (j : Int) < (n : Int) := by omega
            have HKJ : Hid (kyB C n x (j + 1) = (kyB C n x j && (!x.testBit j || (C (x - pw j) != pw n - 1)))) := HKS.out x j
            rcases (Bool.eq_false_or_eq_true (kyB C n x j)).symm with ha | ha
            · rw [ha]
              go_wp2_with fail
              go_big_quiet (fail)
              go_wp2_with fail
              go_roundw
              case rel => exact ⟨j + 1, by omega, by go_num, by rw [HKJ.out, ha]; rfl, owns_below HO.out (below_drewN (Below.refl _ _) _), below_drewN hB.out _⟩
              case measure => simp [intOf]; omega
            · rcases (Bool.eq_false_or_eq_true (x.testBit j)).symm with hb | hb
              · rw [ha]
                go_wp2_with fail
                go_big_quiet (first | (go_at_call 12; exact Calls.quiet_of_same (in_as x j false _ (by omega) (by omega) hb)))
                go_wp2_with fail
                go_roundw
                case rel => exact ⟨j + 1, by omega, by go_num, by rw [HKJ.out, ha, hb]; rfl, owns_below HO.out (below_drewN (Below.refl _ _) _), below_drewN hB.out _⟩
                case measure => simp [intOf]; omega
              · have hj10 : j < 10 := by omega
                have hsub := sub_lt' hx1 hj10 hb
                have hple := pw_le_bit hb
                obtain ⟨d, hd⟩ : ∃ d, x - pw j = d := ⟨_, rfl⟩
                rw [hd] at hsub HKJ
                have hds : ((x : Nat) : Int) - ((pw j : Nat) : Int) = (d : Int) := by omega
                have hdi : (d : Int) < ((pw n : Nat) : Int) := by omega
                obtain ⟨b5, off5, e5, hcc⟩ := (HR3.out.below hB.out) d (by omega)
                simp at e5
                obtain ⟨rfl, rfl⟩ := e5
                have hc2 : wr.cell? ⟨b4, off + d, none⟩ = some (.int .i64 (C d : Nat)) := hcc
                have hcd := HCB.out d
                have h1 : (((C d : Nat) : Int) != ((pw n : Nat) : Int) - 1) = (C d != pw n - 1) := by
                  rw [Bool.eq_iff_iff]; simp; omega
                obtain ⟨z, HZ⟩ : ∃ z, Hid (C d = z) := ⟨_, rfl⟩
                obtain ⟨B, HBB⟩ : ∃ B, Hid ((C d != pw n - 1) = B) := ⟨_, rfl⟩
                rw [HBB.out] at h1
                rw [HZ.out] at hc2 h1 hcd
                rw [ha]
                clear hcc hd hple
                go_wp2_with fail
                go_big_quiet (first | (go_at_call 12; exact Calls.quiet_of_same (in_as x j true _ (by omega) (by omega) hb)) | (go_at_call 11; exact Calls.quiet_of_same (bit_quiet _ _ (by omega))))
                go_wp2_with fail
                go_roundw
                case rel => exact ⟨j + 1, by omega, by go_num, by rw [HKJ.out, ha, hb, HBB.out]; rfl, owns_below HO.out (below_drewN (Below.refl _ _) _), below_drewN hB.out _⟩
                case measure => simp [intOf]; omega
          · obtain rfl : j = n := by omega
            have hki := HKI.out x hlt
            rw [hki]
            rcases (Bool.eq_false_or_eq_true (I x)).symm with ha | ha
            · have HE : Hid (fil I (x + 1) = fil I x) := fil_no ha
              rw [ha]
              clear hki
              go_wp2_with fail
              go_roundw
              case rel => exact ⟨x + 1, by omega, by go_num, by rw [HE.out]; exact HO.out, hB⟩
              case measure => simp [intOf]; omega
            · have HE : Hid (fil I (x + 1) = fil I x ++ [x]) := fil_yes ha
              have hlen := fil_len I x
              have hsz := hB.out.size
              rw [ha]
              have hown2 := HO.out
              obtain ⟨L, HL⟩ : ∃ L, Hid (L = fil I x) := ⟨_, rfl⟩
              rw [← HL.out] at hown2 hlen
              clear hki HO
              go_wp2_with (at_builtin; refine wpList_append_own _ rfl _ _ 23 rfl W3.heap.size 3 i0 (.int .i64 0) 1 8 Tryd.underlying23 hi hz0 hz1 hz2 rfl (by decide) _ _ _ rfl (hown2.alloc _) ⟨wr.heap.size, 0, none⟩ 1 1 [.int .i64 (x : Nat)] rfl rfl ?c1 ?c2 ?c3 ?c4 ?c5 ?_)
              case c1 =>
                intro j u hj
                match j, hj with
                | 0, hj => simp at hj; subst hj; simp [Addr.add]
              case c2 => intro u hu; simp at hu; subst hu; rfl
              case c3 => unfold maxLen; omega
              case c4 => omega
              case c5 => simp; omega
              intro v' w4 hown' hgrow _
              have HB5 : Hid (Below W3.heap.size W3 w4) := below_append3 hB.out hown2 hgrow
              have HO5 : Hid (w4.ownsRow W3.heap.size 3 1 v' (fil I (x + 1)).length (natVals (fil I (x + 1)))) := by
                rw [HE.out, ← HL.out, natVals_append, List.length_append]; exact hown'
              clear hown' hgrow hown2 hB hlen hsz HL
              go_wp2_with fail
              go_roundw
              case rel => exact ⟨x + 1, by omega, by go_num, HO5.out, HB5⟩
              case measure => simp [intOf]; omega
      · obtain rfl : x = pw n := by omega
        have HF : Hid (NSl wr u8 J) := by rw [HKL.out]; exact owns_nats hown
        have HJL : Hid (J.length ≤ maxLen) := by
          rw [Hid, HKL.out]
          have := fil_len I (pw n)
          unfold maxLen; omega
        have hle : ((pw n : Nat) : Int) ≤ ((pw n : Nat) : Int) := Int.le_refl _
        have HBA : Hid (Below w1.heap.size w1 wr) := Below.then HB3.out hB.out
        clear hown hB
        go_wp2_with fail
        refine (bit_any n _ (by omega)).mono ?_
        rintro e w' ⟨rfl, rfl⟩
        go_wp2_with fail
        refine (implyBegun_any _ (HT.out.step (Below.then HB1.out HBA.out))).mono ?_
        rintro e w5 ⟨rfl, hb5⟩
        have HB5 : Hid (Below w1.heap.size w1 w5) := Below.then HBA.out hb5
        have HV5 : Hid (NSl w5 u8 J) := HF.out.below hb5
        clear hb5
        go_wp2_with fail
        refine (numbersAre_any 0 J _ _ _ HJL.out (.inr ⟨rfl, HV.out.below HB5.out, HV5.out⟩)).mono ?_
        rintro e w6 ⟨rfl, hb6⟩
        have HB6 : Hid (Below w1.heap.size w1 w6) := Below.then HB5.out hb6
        clear hb6
        go_wp2_with fail
        go_ret
        exact ⟨rfl, Below.then HB1.out HB6.out⟩
end Go.Proofs.YtgjdpgjaaaeglaaDoor
