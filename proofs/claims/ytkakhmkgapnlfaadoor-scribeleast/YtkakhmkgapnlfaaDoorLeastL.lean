/-
  hasselaw.ScribeLeast returns true for every text. No condition.
-/
import Derived.Test.YtkakhmkgapnlfaaDoorPrintP
import Derived.Test.YtkakhmkgapnlfaaDoorReadG
namespace Go.Proofs.YtkakhmkgapnlfaaDoor
open Go.RowKit

theorem way_split {R : Nat → Nat → Prop} : ∀ t a b, Way R t a b → R a b ∨ ∃ c, c < t ∧ Way R t a c ∧ Way R t c b
  | 0, _, _, h => .inl h
  | t + 1, a, b, h => by
    rcases h with h | ⟨h1, h2⟩
    · rcases way_split t a b h with h | ⟨c, hc, h1, h2⟩
      · exact .inl h
      · exact .inr ⟨c, by omega, .inl h1, .inl h2⟩
    · exact .inr ⟨t, by omega, .inl h1, .inl h2⟩
theorem nodup_len {α : Type} : ∀ (c l : List α), c.Nodup → (∀ x ∈ c, x ∈ l) → c.length ≤ l.length
  | [], _, _, _ => Nat.zero_le _
  | x :: c, l, hn, hs => by
    obtain ⟨l1, l2, rfl⟩ := List.append_of_mem (hs x (List.mem_cons_self ..))
    have hx := List.nodup_cons.1 hn
    have := nodup_len c (l1 ++ l2) hx.2 (fun y hy => by
      have h1 := hs y (List.mem_cons_of_mem _ hy)
      have h2 : y ≠ x := fun e => hx.1 (by rw [← e]; exact hy)
      rw [List.mem_append, List.mem_cons] at h1
      rw [List.mem_append]
      rcases h1 with h | h | h
      · exact .inl h
      · exact absurd h h2
      · exact .inr h)
    simp only [List.length_append, List.length_cons] at this ⊢
    omega
/-- Each cover of what pairs make is one of them. -/
theorem covs_sub {n : Nat} {l : List (Nat × Nat)} (h : ∀ q ∈ l, q.1 < n ∧ q.2 < n) : ∀ q ∈ covs (reachOut (mk (pairAt l) l.length) n n) n, q ∈ l := fun q hq => by
  obtain ⟨h1, h2, h3, h4⟩ := mem_covs.1 hq
  have hw := (reach_way (mk (pairAt l) l.length) n n (Nat.le_refl _) q.1 q.2 h2).1 h3
  rcases way_split n q.1 q.2 hw with hR | ⟨c, hc, w1, w2⟩
  · exact (mk_mem h q.1 q.2).1 hR
  · exact absurd ⟨(reach_way _ n n (Nat.le_refl _) q.1 c hc).2 w1, (reach_way _ n n (Nat.le_refl _) c q.2 h2).2 w2⟩ (h4 c hc)
theorem least_len {s : ByteArray} {n : Nat} {l : List (Nat × Nat)} (h : Got s n l) : (prt n (covs (reachOut (mk (pairAt l) l.length) n n) n)).length ≤ s.size := by
  obtain ⟨h10, hq, hsz, _⟩ := h
  have h1 := nodup_len _ _ (all_nodup _ _ _) (covs_sub hq)
  have h2 := acc_pos (n := n) (covs_PB (reachOut (mk (pairAt l) l.length) n n) h10) _ (Nat.le_refl _)
  show (acc n _ _).length ≤ _
  rw [h2]
  unfold covs at h1 ⊢
  omega
theorem got_chk {s : ByteArray} {n : Nat} {l : List (Nat × Nat)} (h : Got s n l) : Chk (n : Int) n (fun k => (reachOut (mk (pairAt l) l.length) n n k : Nat)) 0 := by
  obtain ⟨h10, hq, _, ho⟩ := h
  have hsm := reachOut_sm (mk_sm (n := n) l.length (pin_of hq)) n (Nat.le_refl _)
  refine .inr ⟨n, rfl, h10, .inr ⟨rfl, .inr ⟨fun k hk => ⟨Int.natCast_nonneg _, ?_⟩, .inr ⟨rfl, ?_⟩⟩⟩⟩
  · have := hsm k hk
    show ((reachOut (mk (pairAt l) l.length) n n k : Nat) : Int) < _
    omega
  · have : nat (fun k => ((reachOut (mk (pairAt l) l.length) n n k : Nat) : Int)) = reachOut (mk (pairAt l) l.length) n n := by funext k; simp [nat]
    rw [this]; exact ho
def gLad (k : Nat) : Nat := if k = 0 then 0 else if k = 1 then 1 else 3
def fLad (k : Nat) : Int := (gLad k : Nat)
theorem ladder_any (w : World) : Calls Tryd.prog 7 #[] w fun e w' => (∃ a, e = .returned (.agg #[.int .i64 3, .slice a 3 3]) ∧ Row w' a 3 fLad) ∧ Below w.heap.size w w' := by
  go_enter Tryd.func7, Tryd.ntmps7
  go_wp2_with fail
  refine bodyPost_ret (v := .agg #[.int .i64 3, .slice (some ⟨w.heap.size + 1, 0, none⟩) 3 3]) (by simp [results, Tryd.results7, go_sem]) rfl ⟨⟨_, rfl, ?_⟩, ?_⟩
  · intro k hk
    refine ⟨w.heap.size + 1, 0, rfl, ?_⟩
    match k, hk with
    | 0, _ => simp [fLad, gLad]
    | 1, _ => simp [fLad, gLad]
    | 2, _ => simp [fLad, gLad]
  · exact ((Below.refl _ _).alloc (Nat.le_refl _) _).alloc (by simp) _
theorem natLad : nat fLad = gLad := by funext k; simp [nat, fLad]
theorem lad_chk : Chk 3 3 fLad 0 := by
  refine .inr ⟨3, rfl, by omega, .inr ⟨rfl, .inr ⟨?_, .inr ⟨rfl, ?_⟩⟩⟩⟩
  · unfold Rng fLad; decide +kernel
  · rw [natLad]; unfold Ord OrdAt; decide +kernel
theorem lad_covs : covs gLad 3 = [(0, 1), (1, 2)] := by decide +kernel
theorem lad_prt : prt 3 (covs (nat fLad) 3) = [51, 58, 32, 48, 60, 49, 32, 49, 60, 50] := by
  rw [natLad, lad_covs]
  unfold prt acc prs
  simp only [List.length_cons, List.length_nil, prs, prPair, List.getD_cons_zero, List.getD_cons_succ]
  rw [dg_small (by decide : 3 < 10), dg_small (by decide : 0 < 10), dg_small (by decide : 1 < 10), dg_small (by decide : 2 < 10)]
  rfl
theorem scribeBegun_any (w : World) : Calls Tryd.prog 4 #[] w fun e w' => e = .returned (.bool true) ∧ Below w.heap.size w w' := by
  go_enter Tryd.func4, Tryd.ntmps4
  go_wp2_with fail
  refine (ladder_any _).mono ?_
  rintro e w1 ⟨⟨a, rfl, hr⟩, hb1⟩
  have HB1 : Hid (Below w.heap.size w w1) := hb1
  have HR : Hid (Row w1 a 3 fLad) := hr
  clear hb1 hr
  go_wp2_with fail
  refine (print_any 3 a 3 3 fLad _ (by unfold maxLen; omega) HR.out).mono ?_
  rintro e w2 ⟨⟨c, hc, hx⟩, hb2⟩
  obtain rfl := hc.unique lad_chk
  have HB2 : Hid (Below w.heap.size w w2) := Below.then HB1.out hb2
  rcases hx with ⟨h, _⟩ | ⟨_, rfl⟩
  · exact absurd rfl h
  rw [lad_prt]
  clear hc hb2 HB1 HR
  go_wp2_with fail
  go_ret
  exact ⟨rfl, HB2.out⟩

set_option maxRecDepth 20000 in
set_option maxHeartbeats 2000000 in
theorem scribeLeast_any (s : ByteArray) (w : World) (_hs : s.size ≤ 9223372036854775807) :
    Calls Tryd.prog 3 #[.string s] w fun e w' => e = .returned (.bool true) ∧ Below w.heap.size w w' := by
  go_enter Tryd.func3, Tryd.ntmps3
  go_wp2_with fail
  refine (scribeBegun_any _).mono ?_
  rintro e w0 ⟨rfl, hb0⟩
  have HB0 : Hid (Below w.heap.size w w0) := hb0
  clear hb0
  go_wp2_with fail
  refine (read_gen s _).mono ?_
  rintro e w1 ⟨hR, hb1⟩
  have HB1 : Hid (Below w.heap.size w w1) := Below.then HB0.out hb1
  clear hb1 HB0
  rcases hR with ⟨n, l, b, rfl, hgot, hrow⟩ | ⟨c, k, hc, rfl⟩
  · have HGOT : Hid (Got s n l) := hgot
    obtain ⟨g, HG⟩ : ∃ g, Hid (reachOut (mk (pairAt l) l.length) n n = g) := ⟨_, rfl⟩
    have HCH : Hid (Chk (n : Int) n (fun k => (g k : Nat)) 0) := by rw [← HG.out]; exact got_chk hgot
    have HLE : Hid ((prt n (covs g n)).length ≤ s.size) := by rw [← HG.out]; exact least_len hgot
    have HNC : Hid (nat (fun k => ((g k : Nat) : Int)) = g) := by unfold Hid; funext k; simp [nat]
    have hn10 : n ≤ 10 := hgot.1
    obtain ⟨W, HW⟩ : ∃ W, Hid (W = (w1.alloc (.cells #[.int .i64 (n : Int), .slice (some ⟨b, 0, none⟩) n n] 25)).alloc (.cells #[.int .i64 0, .int .i64 0] 28)) := ⟨_, rfl⟩
    have hbW : Below w1.heap.size w1 W := by rw [HW.out]; exact ((Below.refl _ _).alloc (Nat.le_refl _) _).alloc (by simp) _
    have HRW : Hid (Row W (some ⟨b, 0, none⟩) n (fun k => (g k : Nat))) := by rw [← HG.out]; exact hrow.below hbW
    have HBW : Hid (Below w.heap.size w W) := Below.then HB1.out hbW
    clear hgot hrow hbW HB1
    go_wp2_with fail
    rw [← HW.out]
    clear HW
    refine (print_any n (some ⟨b, 0, none⟩) n n (fun k => (g k : Nat)) _ (by unfold maxLen; omega) HRW.out).mono ?_
    rintro e w2 ⟨⟨c, hc, hx⟩, hb2⟩
    obtain rfl := hc.unique HCH.out
    have HB2 : Hid (Below w.heap.size w w2) := Below.then HBW.out hb2
    rcases hx with ⟨h, _⟩ | ⟨_, rfl⟩
    · exact absurd rfl h
    rw [HNC.out]
    obtain ⟨T, HT⟩ : ∃ T, Hid ((⟨(prt n (covs g n)).toArray⟩ : ByteArray) = T) := ⟨_, rfl⟩
    have hTs : (T.size : Int) ≤ (s.size : Int) := by
      rw [← HT.out]
      have h1 : (⟨(prt n (covs g n)).toArray⟩ : ByteArray).size = (prt n (covs g n)).length := by show (prt n (covs g n)).toArray.size = _; rw [List.size_toArray]
      have := HLE.out
      omega
    have hTs' : T.size ≤ s.size := by omega
    rw [HT.out]
    clear hc hb2
    go_wp2_with fail
    go_ret
    exact ⟨rfl, HB2.out⟩
  · have hne : (c != 0) = true := by simpa using hc
    have HB3 : Hid (Below w.heap.size w ((w1.alloc (.cells #[.int .i64 0, .slice none 0 0] 25)).alloc (.cells #[.int .i64 c, .int .i64 k] 28))) := (HB1.out.alloc HB1.out.size _).alloc (by have := HB1.out.size; simp; omega) _
    clear HB1
    go_wp2_with fail
    go_ret
    exact ⟨rfl, HB3.out⟩
end Go.Proofs.YtkakhmkgapnlfaaDoor
