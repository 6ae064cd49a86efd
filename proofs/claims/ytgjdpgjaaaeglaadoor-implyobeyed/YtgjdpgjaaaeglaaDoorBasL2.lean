/-
  For every number and rules that are handed in, hasselaw.ImplyBases returns true, and writes nothing that was there. Condition: the table of the least bits.
-/
import Derived.Test.YtgjdpgjaaaeglaaDoorRefBas
namespace Go.Proofs.YtgjdpgjaaaeglaaDoor
open Go.RowKit

theorem psl_none (w : World) : PSl w (.slice none 0 0) [] := ⟨none, 0, rfl, fun _ hk => absurd hk (Nat.not_lt_zero _)⟩
theorem rulesAre_any (v v' : Value) (c d : Int) (L : List (Nat × Nat)) (w : World) (hL : L.length ≤ 1024)
    (h : (d ≠ 0 ∧ c = d ∧ v = .slice none 0 0 ∧ v' = .slice none 0 0) ∨ (d = 0 ∧ PSl w v' L ∧ ((60 < L.length ∧ c = 2 ∧ v = .slice none 0 0) ∨ (L.length ≤ 60 ∧ c = 0 ∧ PSl w v L)))) :
    Calls Tryd.prog 17 #[v, .int .i64 c, .int .i64 d, v'] w fun e w' => e = .returned (.bool true) ∧ Below w.heap.size w w' := by
  have HSN := (show Hid (Calls Tryd.prog 33 #[.slice none 0 0, .slice none 0 0] w _) from sameRules_any _ _ [] w (Nat.zero_le _) (psl_none w) (psl_none w))
  rcases h with ⟨h0, rfl, rfl, rfl⟩ | ⟨rfl, hv', ⟨h60, rfl, rfl⟩ | ⟨h60, rfl, hv⟩⟩
  · have hne : (c == 0) = false := by simpa using h0
    have hne2 : (c != 0) = true := by simpa using h0
    go_enter Tryd.func17, Tryd.ntmps17
    go_wp2_with fail
    refine HSN.out.mono ?_
    rintro e w1 ⟨rfl, hb⟩
    have HB : Hid (Below w.heap.size w w1) := hb
    clear hb
    go_wp2_with fail
    go_ret
    exact ⟨rfl, HB.out⟩
  · obtain ⟨a, cap, rfl, _⟩ := hv'
    have h60' : (60 : Int) < (L.length : Int) := by omega
    go_enter Tryd.func17, Tryd.ntmps17
    go_wp2_with fail
    refine HSN.out.mono ?_
    rintro e w1 ⟨rfl, hb⟩
    have HB : Hid (Below w.heap.size w w1) := hb
    clear hb
    go_wp2_with fail
    go_ret
    exact ⟨rfl, HB.out⟩
  · have HSS := (show Hid (Calls Tryd.prog 33 #[v, v'] w _) from sameRules_any v v' L w hL hv hv')
    obtain ⟨a, cap, rfl, _⟩ := hv'
    have h60' : ¬ (60 : Int) < (L.length : Int) := by omega
    clear hv
    go_enter Tryd.func17, Tryd.ntmps17
    go_wp2_with fail
    refine HSS.out.mono ?_
    rintro e w1 ⟨rfl, hb⟩
    have HB : Hid (Below w.heap.size w w1) := hb
    clear hb
    go_wp2_with fail
    go_ret
    exact ⟨rfl, HB.out⟩

set_option maxHeartbeats 2000000 in
theorem implyBases_any (N : Int) (a : Option Addr) (len cap : Nat) (p : Nat → Int × Int) (w : World) (hl : len ≤ maxLen) (hr : PRow w a len p) (hT : Tab w) :
    Calls Tryd.prog 4 #[.int .i64 N, .slice a len cap] w fun e w' => e = .returned (.bool true) ∧ Below w.heap.size w w' := by
  have HR : Hid (∀ w', Below w.heap.size w w' → PRow w' a len p) := fun w' h => hr.below h
  have HT : Hid (Tab w) := hT
  have HBX := (show Hid (Calls Tryd.prog 15 #[.int .i64 N, .slice a len cap] w _) from baseX_any N a len cap p w hl hr)
  clear hr hT
  go_enter Tryd.func4, Tryd.ntmps4
  go_wp2_with fail
  refine HBX.out.mono ?_
  rintro e w1 ⟨he, hb1⟩
  have HB1 : Hid (Below w.heap.size w w1) := hb1
  have HCK := (show Hid (Calls Tryd.prog 9 #[.int .i64 N, .slice a len cap] w1 _) from checkRules_any N a len cap p w1 hl (HR.out _ hb1))
  clear hb1 HBX
  rcases he with ⟨c, h0, hc, rfl⟩ | ⟨n, rfl, hc, h10, h60, hri, hbas⟩
  · have hne : (c == 0) = false := by simpa using h0
    have HC : Hid (RChk N len p c) := hc
    clear hc
    go_wp2_with fail
    refine HCK.out.mono ?_
    rintro e w2 ⟨⟨c', rfl, hc'⟩, hb2⟩
    obtain rfl := hc'.unique HC.out
    have HB2 : Hid (Below w.heap.size w w2) := Below.then HB1.out hb2
    clear hc' hb2 HCK
    go_wp2_with fail
    refine (implyBegun_any _ (HT.out.step HB2.out)).mono ?_
    rintro e w3 ⟨rfl, hb3⟩
    have HB3 : Hid (Below w.heap.size w w3) := Below.then HB2.out hb3
    clear hb3
    go_wp2_with fail
    refine (rulesAre_any _ _ _ _ [] _ (Nat.zero_le _) (.inl ⟨h0, rfl, rfl, rfl⟩)).mono ?_
    rintro e w4 ⟨rfl, hb4⟩
    have HB4 : Hid (Below w.heap.size w w4) := Below.then HB3.out hb4
    clear hb4
    go_wp2_with fail
    go_ret
    exact ⟨rfl, HB4.out⟩
  · have HC : Hid (RChk (n : Int) len p 0) := hc
    have HRI : Hid (RIs n len p) := hri
    obtain ⟨x, k, cp, c, HE⟩ : ∃ x k cp c, Hid (e = .returned (.tuple #[.slice x k cp, .int .i64 c])) := hbas.form
    have HBS : Hid (∀ W, Below w1.heap.size w1 W → (60 < (bas (clo (rls p len) n) (pw n)).length ∧ c = 2 ∧ (.slice x k cp : Value) = .slice none 0 0) ∨ ((bas (clo (rls p len) n) (pw n)).length ≤ 60 ∧ c = 0 ∧ PSl W (.slice x k cp) (bas (clo (rls p len) n) (pw n)))) := fun W hW => by
      rcases hbas with ⟨h1, h2⟩ | ⟨h1, v, h2, h3⟩
      · have := HE.out.symm.trans h2
        simp at this
        exact .inl ⟨h1, this.2, by simp [this.1]⟩
      · have := HE.out.symm.trans h2
        simp at this
        exact .inr ⟨h1, this.2, by rw [this.1]; exact h3.psl.below hW⟩
    obtain rfl := HE.out
    have HBL : Hid ((bas (clo (rls p len) n) (pw n)).length ≤ 1024) := Nat.le_trans (bas_le _ _) (pw_le n h10)
    have HCL : Hid (∀ w', Below w.heap.size w w' → Calls Tryd.prog 10 #[.int .i64 (n : Nat), .slice a len cap] w' fun e w'' => (∃ b cp, e = .returned (.slice b (pw n) cp) ∧ Row w'' b (pw n) (fun k => (clo (rls p len) n k : Nat))) ∧ Below w'.heap.size w' w'') := fun w' h => closes_any n (rls p len) a len cap w' h10 HRI.out.rin (rls_len p len).symm h60 (HRI.out.row' (HR.out w' h))
    have hpn := pw_le n h10
    have HBO : Hid (∀ w' b cp, Row w' b (pw n) (fun k => (clo (rls p len) n k : Nat)) → Calls Tryd.prog 16 #[.slice b (pw n) cp] w' fun e w'' => (∃ v, e = .returned v ∧ PSl w'' v (bas (clo (rls p len) n) (pw n))) ∧ Below w'.heap.size w' w'') := fun w' b cp h => baseOf_any (pw n) (clo (rls p len) n) b cp w' hpn (fun s _ => Nat.lt_of_lt_of_le clo_lt hpn) h
    clear hc hri hbas HE
    generalize bas (clo (rls p len) n) (pw n) = L at *
    generalize clo (rls p len) n = C at *
    go_wp2_with fail
    refine HCK.out.mono ?_
    rintro e w2 ⟨⟨c', rfl, hc'⟩, hb2⟩
    obtain rfl := hc'.unique HC.out
    have HB2 : Hid (Below w1.heap.size w1 w2) := hb2
    clear hc' hb2 HCK
    go_wp2_with fail
    refine (HCL.out _ (Below.then HB1.out HB2.out)).mono ?_
    rintro e w3 ⟨⟨b3, c3, rfl, hr3⟩, hb3⟩
    have HB3 : Hid (Below w1.heap.size w1 w3) := Below.then HB2.out hb3
    have HR3 : Hid (Row w3 b3 (pw n) (fun k => (C k : Nat))) := hr3
    clear hb3 hr3 HCL
    go_wp2_with fail
    refine (HBO.out _ _ _ HR3.out).mono ?_
    rintro e w4 ⟨⟨v4, rfl, hv4⟩, hb4⟩
    have HB4 : Hid (Below w1.heap.size w1 w4) := Below.then HB3.out hb4
    have HV4 : Hid (PSl w4 v4 L) := hv4
    clear hb4 hv4 HBO HR3
    go_wp2_with fail
    refine (implyBegun_any _ (HT.out.step (Below.then HB1.out HB4.out))).mono ?_
    rintro e w5 ⟨rfl, hb5⟩
    have HB5 : Hid (Below w1.heap.size w1 w5) := Below.then HB4.out hb5
    have HV5 : Hid (PSl w5 v4 L) := HV4.out.below hb5
    clear hb5 HV4
    go_wp2_with fail
    refine (rulesAre_any _ _ _ _ L _ HBL.out (.inr ⟨rfl, HV5.out, HBS.out _ HB5.out⟩)).mono ?_
    rintro e w6 ⟨rfl, hb6⟩
    have HB6 : Hid (Below w1.heap.size w1 w6) := Below.then HB5.out hb6
    clear hb6
    go_wp2_with fail
    go_ret
    exact ⟨rfl, Below.then HB1.out HB6.out⟩
end Go.Proofs.YtgjdpgjaaaeglaaDoor
