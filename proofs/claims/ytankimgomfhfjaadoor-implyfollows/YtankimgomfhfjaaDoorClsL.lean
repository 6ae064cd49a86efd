/-
  For every number, rules and set that are handed in, hasselaw.ImplyCloses returns true, and writes nothing that was there. Conditions: the table of the least bits.
-/
import Derived.Test.YtankimgomfhfjaaDoorImpQ
namespace Go.Proofs.YtankimgomfhfjaaDoor
open Go.RowKit

theorem RIs.bound {n len : Nat} {p : Nat → Int × Int} (h10 : n ≤ 10) (h : RIs n len p) : ∀ k, k < len → ((rls p len).getD k (0, 0)).1 < 1024 ∧ ((rls p len).getD k (0, 0)).2 < 1024 := fun k hk => by
  have := h.rin _ (getD_mem (0, 0) (by rw [rls_len]; exact hk))
  exact ⟨set_1024 h10 this.1, set_1024 h10 this.2⟩
theorem RIs.row' {n len : Nat} {p : Nat → Int × Int} {w : World} {a : Option Addr} (h : RIs n len p) (hr : PRow w a len p) : PRow w a len (pairAt (rls p len)) := by
  have := h.row hr
  rw [rls_len] at this; exact this

set_option maxHeartbeats 2000000 in
theorem implyCloses_any (N : Int) (a : Option Addr) (len cap : Nat) (p : Nat → Int × Int) (S : Int) (w : World) (hl : len ≤ maxLen) (hr : PRow w a len p) (hT : Tab w) :
    Calls Tryd.prog 4 #[.int .i64 N, .slice a len cap, .int .i64 S] w fun e w' => e = .returned (.bool true) ∧ Below w.heap.size w w' := by
  have HR : Hid (∀ w', Below w.heap.size w w' → PRow w' a len p) := fun w' h => hr.below h
  have HT : Hid (Tab w) := hT
  have HCL : Hid (Calls Tryd.prog 12 #[.int .i64 N, .slice a len cap, .int .i64 S] w _) := close_any N a len cap p S w hl hr
  clear hr hT
  go_enter Tryd.func4, Tryd.ntmps4
  go_wp2_with fail
  refine HCL.out.mono ?_
  rintro e w1 ⟨he, hb1⟩
  have HB1 : Hid (Below w.heap.size w w1) := hb1
  have HCK : Hid (Calls Tryd.prog 11 #[.int .i64 N, .slice a len cap] w1 _) := checkRules_any N a len cap p w1 hl (HR.out _ hb1)
  clear hb1 HCL
  rcases he with ⟨c, h0, hc, rfl⟩ | ⟨n, rfl, hc, h10, h60, hri, ⟨hs, rfl⟩ | ⟨s, rfl, hs, rfl⟩⟩
  · have hne : (c == 0) = false := by simpa using h0
    have HC : Hid (RChk N len p c) := hc
    clear hc
    go_wp2_with fail
    refine HCK.out.mono ?_
    rintro e w2 ⟨⟨c', rfl, hc'⟩, hb2⟩
    obtain rfl := hc'.unique HC.out
    have HB2 : Hid (Below w.heap.size w w2) := Below.then HB1.out hb2
    clear hc' hb2 HCK
    go_wp2_with fail
    refine (implyBegun_any _ (HT.out.step HB2.out)).mono ?_
    rintro e w3 ⟨rfl, hb3⟩
    have HB3 : Hid (Below w.heap.size w w3) := Below.then HB2.out hb3
    clear hb3
    go_wp2_with fail
    refine (numberIs_any _ _ _ _ _ rfl (.inl ⟨h0, rfl⟩)).mono ?_
    rintro e w' ⟨rfl, rfl⟩
    go_wp2_with fail
    go_ret
    exact ⟨rfl, HB3.out⟩
  · have HC : Hid (RChk (n : Int) len p 0) := hc
    have hsd : sts S n = false := by simpa [sts] using hs
    clear hc hs hri
    go_wp2_with fail
    refine HCK.out.mono ?_
    rintro e w2 ⟨⟨c', rfl, hc'⟩, hb2⟩
    obtain rfl := hc'.unique HC.out
    have HB2 : Hid (Below w.heap.size w w2) := Below.then HB1.out hb2
    clear hc' hb2 HCK
    go_wp2_with fail
    refine (isSetL_any S n _ h10).mono ?_
    rintro e w' ⟨rfl, rfl⟩
    rw [hsd]
    go_wp2_with fail
    refine (implyBegun_any _ (HT.out.step HB2.out)).mono ?_
    rintro e w3 ⟨rfl, hb3⟩
    have HB3 : Hid (Below w.heap.size w w3) := Below.then HB2.out hb3
    clear hb3
    go_wp2_with fail
    refine (numberIs_any _ _ _ _ _ rfl (.inl ⟨by decide, rfl⟩)).mono ?_
    rintro e w' ⟨rfl, rfl⟩
    go_wp2_with fail
    go_ret
    exact ⟨rfl, HB3.out⟩
  · have HC : Hid (RChk (n : Int) len p 0) := hc
    have hsd : sts (s : Int) n = true := by simp [sts]; omega
    have HRI : Hid (RIs n len p) := hri
    obtain ⟨R, HRE⟩ : ∃ R, Hid (R = rls p len) := ⟨_, rfl⟩
    have HCS : Hid (∀ w', Below w.heap.size w w' → Calls Tryd.prog 14 #[.int .i64 (n : Nat), .slice a len cap, .int .i64 (s : Nat)] w' fun e w'' => e = .returned (.int .i64 ((clo R n s : Nat) : Int)) ∧ Below w'.heap.size w' w'') := fun w' h => by
      rw [HRE.out]
      exact closeSet_any n (rls p len) a len cap s w' h10 (set_1024 h10 hs) (rls_len p len).symm h60 (HRI.out.bound h10) (HRI.out.row' (HR.out w' h))
    rw [← HRE.out]
    clear hc hri
    go_wp2_with fail
    refine HCK.out.mono ?_
    rintro e w2 ⟨⟨c', rfl, hc'⟩, hb2⟩
    obtain rfl := hc'.unique HC.out
    have HB2 : Hid (Below w.heap.size w w2) := Below.then HB1.out hb2
    clear hc' hb2 HCK
    go_wp2_with fail
    refine (isSetL_any (s : Int) n _ h10).mono ?_
    rintro e w' ⟨rfl, rfl⟩
    rw [hsd]
    go_wp2_with fail
    refine (HCS.out _ HB2.out).mono ?_
    rintro e w4 ⟨rfl, hb4⟩
    have HB4 : Hid (Below w.heap.size w w4) := Below.then HB2.out hb4
    clear hb4
    go_wp2_with fail
    refine (implyBegun_any _ (HT.out.step HB4.out)).mono ?_
    rintro e w3 ⟨rfl, hb3⟩
    have HB3 : Hid (Below w.heap.size w w3) := Below.then HB4.out hb3
    clear hb3
    go_wp2_with fail
    refine (numberIs_any _ _ _ _ _ rfl (.inr ⟨rfl, rfl⟩)).mono ?_
    rintro e w' ⟨rfl, rfl⟩
    go_wp2_with fail
    go_ret
    exact ⟨rfl, HB3.out⟩
end Go.Proofs.YtankimgomfhfjaaDoor
