/-
  hasselaw.PolyRows returns true for every order. Conditions: a slice reads as a slice of numbers; the table of the least bits.
-/
import Derived.Test.YtncjlfhgenmheabDoorRowN
namespace Go.Proofs.YtncjlfhgenmheabDoor
open Go.RowKit Go.Maps

set_option maxHeartbeats 2000000 in
theorem polyRows_any (N : Int) (a : Option Addr) (len cap : Nat) (f : Nat → Int) (w : World) (hl : len ≤ maxLen) (hr : Row w a len f) (hT : Tab w) :
    Calls Tryd.prog 3 #[.agg #[.int .i64 N, .slice a len cap]] w fun e w' => e = .returned (.bool true) ∧ Below w.heap.size w w' := by
  have K0 : Held (w.alloc (.cells #[.int .i64 N, .slice a len cap] 24)) w.heap.size N a len cap f := Held.box hr
  have HB0 : Hid (Below w.heap.size w (w.alloc (.cells #[.int .i64 N, .slice a len cap] 24))) := (Below.refl _ _).alloc (Nat.le_refl _) _
  have HT : Hid (Tab w) := hT
  clear hr hT
  go_enter Tryd.func3, Tryd.ntmps3
  go_wp2_with fail
  refine (polyBegun_any _ (HT.out.step HB0.out)).mono ?_
  rintro e w1 ⟨rfl, hb⟩
  have K1 := K0.step hb
  have k0 := K1.c0
  have k1 := K1.c1
  have HB1 : Hid (Below w.heap.size w w1) := Below.then HB0.out hb
  clear hb K0 HB0
  go_wp2_with fail
  refine (onto_any N a len cap f _ hl K1.row).mono ?_
  rintro e w2 ⟨⟨c, v, hc, rfl, he⟩, hb2⟩
  have K2 := K1.step hb2
  have d0 := K2.c0
  have d1 := K2.c1
  have HB2 : Hid (Below w.heap.size w w2) := Below.then HB1.out hb2
  clear hb2 K1 k0 k1 HB1
  rcases he with ⟨h0, rfl⟩ | ⟨rfl, b, rfl, hp⟩
  · have hne : (c != 0) = true := by simpa using h0
    go_wp2_with fail
    refine (count_any N a len cap f _ hl K2.row).mono ?_
    rintro e w3 ⟨⟨c', hc', h'⟩, hb3⟩
    obtain rfl := Chk.unique hc' hc
    have HB3 : Hid (Below w.heap.size w w3) := Below.then HB2.out hb3
    rcases h' with ⟨_, rfl⟩ | ⟨h1, _⟩
    · have hcs : (c' == c') = true := beq_self_eq_true _
      clear hb3 hc hc' K2 d0 d1 HB2
      go_wp2_with fail
      go_ret
      exact ⟨rfl, HB3.out⟩
    · exact absurd h1 h0
  · obtain ⟨rfl, h10, hrng, hord⟩ := hc.good
    have HP : Hid (Row w2 (some ⟨b, 0, none⟩) (len + 1) (fun k => wz (onF (nat f) len k))) := hp
    have HE : Hid (wz (onF (nat f) len len) = ((ways (nat f) len 0 : Nat) : Int)) := by
      show _ = _
      have := ways_small (u := nat f) (n := len) (s := 0) h10 (pw_pos len)
      rw [onto_rows h10 hrng.small hord, wz_small (by omega) (by omega)]
    have HZ : Hid (wz (onF (nat f) len 0) = if len = 0 then 1 else 0) := by
      show _ = _
      rw [onto_none h10 hrng.small]; split <;> decide
    clear hp
    go_wp2_with fail
    refine (count_any len a len cap f _ hl K2.row).mono ?_
    rintro e w3 ⟨⟨c', hc', h'⟩, hb3⟩
    obtain rfl := Chk.unique hc' hc
    have HB3 : Hid (Below w.heap.size w w3) := Below.then HB2.out hb3
    have K3 := K2.step hb3
    have e0 := K3.c0
    have hrow := HP.out.below hb3
    rcases h' with ⟨h1, _⟩ | ⟨_, rfl⟩
    · exact absurd rfl h1
    have hcn : w3.cell? ⟨b, len, none⟩ = some (.int .i64 ((ways (nat f) len 0 : Nat) : Int)) := by
      obtain ⟨b', off', e1, hc'⟩ := hrow len (by omega)
      simp only [Option.some.injEq, Addr.mk.injEq] at e1
      obtain ⟨rfl, rfl, _⟩ := e1
      rw [Nat.zero_add] at hc'
      refine hc'.trans ?_
      show some (Value.int .i64 (wz (onF (nat f) len len))) = _
      rw [HE.out]
    have hcz : w3.cell? ⟨b, 0, none⟩ = some (.int .i64 (if len = 0 then 1 else 0)) := by
      obtain ⟨b', off', e1, hc'⟩ := hrow 0 (by omega)
      simp only [Option.some.injEq, Addr.mk.injEq] at e1
      obtain ⟨rfl, rfl, _⟩ := e1
      rw [Nat.zero_add] at hc'
      refine hc'.trans ?_
      show some (Value.int .i64 (wz (onF (nat f) len 0))) = _
      rw [HZ.out]
    clear hb3 hc hc' K2 d0 d1 HB2 K3 hrow HP HE HZ hrng hord
    generalize ways (nat f) len 0 = V at *
    have hVV : ((V : Int) == (V : Int)) = true := beq_self_eq_true _
    have hll : (((len + 1 : Nat) : Int) == (len : Int) + 1) = true := by simp
    by_cases h0 : len = 0
    · subst h0
      rw [if_pos rfl] at hcz
      have hw := hcn.symm.trans hcz
      go_wp2_with fail
      go_big_quiet (fail)
      have HB4 : Hid (Below w.heap.size w (w3.drewN nq)) := below_drewN HB3.out _
      clear HB3 hcn hcz e0
      generalize w3.drewN nq = W3 at *
      go_wp2_with fail
      go_ret
      exact ⟨rfl, HB4.out⟩
    · rw [if_neg h0] at hcz
      have hnz : ((len : Int) == 0) = false := by simp; omega
      go_wp2_with fail
      go_big_quiet (fail)
      have HB4 : Hid (Below w.heap.size w (w3.drewN nq)) := below_drewN HB3.out _
      clear HB3 hcn hcz e0
      generalize w3.drewN nq = W3 at *
      go_wp2_with fail
      go_ret
      exact ⟨rfl, HB4.out⟩
end Go.Proofs.YtncjlfhgenmheabDoor
