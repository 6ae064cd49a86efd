/-
  What ideal.Lattice answers: too many; or the tables of the ideals. No condition but that a slice reads as a slice of numbers.
-/
import Derived.Test.YtpgbcnbhfgopdaaFilM
import Derived.Test.YtpgbcnbhfgopdaaIdealsL
import Derived.Test.YtpgbcnbhfgopdaaOfLat
namespace Go.Proofs.Ytpgbcnbhfgopdaa
open Go.RowKit

theorem ent_id1 : Ent 34 := fun _ _ => rfl
theorem id1_any (w : World) : CloJ 34 #[] (fun s => s) w := fun s _ W _ => by
  show Calls Try.prog 34 #[.int .i64 (s : Nat)] W _
  go_enter Try.func34, Try.ntmps34
  go_wp2
  go_ret
  exact ⟨rfl, Below.refl _ _⟩
def IdLat (n : Int) (len : Nat) (f : Nat → Int) (B : Nat) (e : Ending) (w' : World) : Prop :=
  (∃ c, c ≠ 0 ∧ Chk n len f c ∧ e = .returned (.tuple #[noLat, .int .i64 c])) ∨ (Chk n len f 0 ∧ OfIs (idls (nat f) len).length B (idm (nat f) len) (idj (nat f) len) e w')

set_option maxHeartbeats 2000000 in
theorem idealLattice_any (n : Int) (a : Option Addr) (len cap : Nat) (f : Nat → Int) (w : World) (hl : len ≤ maxLen) (hr : Row w a len f) :
    Calls Try.prog 9 #[.agg #[.int .i64 n, .slice a len cap]] w fun e w' => IdLat n len f w.heap.size e w' ∧ Below w.heap.size w w' := by
  obtain ⟨W, HW⟩ : ∃ W, Hid (W = (w.alloc (.cells #[.int .i64 n, .slice a len cap] 24)).alloc (.cells #[.int .i64 0, .slice none 0 0, .slice none 0 0] 27)) := ⟨_, rfl⟩
  have B1 : Below w.heap.size w (w.alloc (.cells #[.int .i64 n, .slice a len cap] 24)) := (Below.refl _ _).alloc (Nat.le_refl _) _
  have B2 : Below w.heap.size w W := by rw [HW.out]; exact B1.alloc (by simp) _
  have K0 : Held W w.heap.size n a len cap f := by rw [HW.out]; exact (Held.box hr).step ((Below.refl _ _).alloc (Nat.le_refl _) _)
  have Z0 : ZL W (w.heap.size + 1) := by
    rw [HW.out]
    have := ZL.new (w.alloc (.cells #[.int .i64 n, .slice a len cap] 24))
    rw [World.size_alloc] at this; exact this
  have HSZ : Hid (W.heap.size = w.heap.size + 2) := by rw [Hid, HW.out]; simp
  have HB0 : Hid (Below w.heap.size w W) := B2
  have HZ : Hid (ZL W (w.heap.size + 1)) := Z0
  have HK : Hid (Held W w.heap.size n a len cap f) := K0
  have k0 := K0.c0
  have k1 := K0.c1
  clear hr B1 B2 K0 Z0
  go_enter Try.func9, Try.ntmps9
  go_wp2_with fail
  rw [← HW.out]
  go_wp2_with fail
  refine (ideals_any n a len cap f _ hl HK.out.row).mono ?_
  rintro e w1 ⟨⟨c, v, hc, rfl, hv⟩, hb⟩
  have HB1 : Hid (Below w.heap.size w w1) := Below.then HB0.out hb
  obtain ⟨⟨c0, c1, c2⟩, f0, f1, f2⟩ := HZ.out.step hb
  have HZ1 : Hid (ZL w1 (w.heap.size + 1)) := HZ.out.step hb
  rcases hv with ⟨h0, rfl⟩ | ⟨rfl, hv⟩
  · have hne : (c != 0) = true := by simpa using h0
    have HC : Hid (Chk n len f c) := hc
    clear hc hb HW k0 k1
    go_wp2_with fail
    refine bodyPost_ret (v := .tuple #[noLat, .int .i64 c]) ?_ rfl ⟨.inl ⟨c, h0, HC.out, rfl⟩, ?_⟩
    · simp [results, Try.results9, go_sem, noLat, c0, c1, c2]
    · exact set3B HB1.out (Nat.le_succ _)
  · obtain ⟨rfl, h10, hrng, _⟩ := hc.good
    obtain ⟨va, vc, rfl, hvr⟩ := hv
    have HC : Hid (Chk (len : Int) len f 0) := hc
    have hg := hrng.small2 h10
    have hpw := pw_le len h10
    have HCALL : Hid (∀ W', Below w1.heap.size w1 W' → Calls Try.prog 33 #[.slice va (idls (nat f) len).length vc, .func (.func 34) #[] #[]] W' fun e w' => OfIs (idls (nat f) len).length W'.heap.size (idm (nat f) len) (idj (nat f) len) e w' ∧ Below W'.heap.size W' w') := fun W' h =>
      ofSets_any (idls (nat f) len) va vc 34 #[] (fun s => s) (idm (nat f) len) (idj (nat f) len) W' (idls_pos h10 hg) (idls_len _ len h10) (hvr.below h) (fil_rises _ _) (fun k hk => by have := (idls_at h10 hg hk).1; omega) ent_id1 (id1_any W') (fun x y hx hy => idm_is h10 hg hx hy) (fun x y hx hy => idj_is h10 hg hx hy)
    have HSZ1 : Hid (w.heap.size + 2 ≤ w1.heap.size) := by have h1 := hb.size; have h2 := HSZ.out; rw [Hid]; omega
    obtain ⟨q, HQ⟩ : ∃ q, Hid (q = (idls (nat f) len).length) := ⟨_, rfl⟩
    rw [← HQ.out] at HCALL ⊢
    clear hc hb HW k0 k1 hvr hrng hg hpw c0 c1 c2 f0 f1 f2
    go_wp2_with fail
    refine (HCALL.out _ (Below.refl _ _)).mono ?_
    rintro e w2 ⟨ho, hb2⟩
    have HB2 : Hid (Below w.heap.size w w2) := Below.then HB1.out hb2
    obtain ⟨⟨c0, c1, c2⟩, f0, f1, f2⟩ := HZ1.out.step hb2
    rcases ho with ⟨h40, rfl⟩ | ⟨h40, T1, T2, R1, R2, rfl, ht1, ht2, hT, hR⟩
    · clear hb2 HCALL
      unfold noLat
      go_wp2_with fail
      refine bodyPost_ret (v := .tuple #[noLat, .int .i64 2]) ?_ rfl ⟨.inr ⟨HC.out, .inl ⟨by rw [← HQ.out]; exact h40, rfl⟩⟩, ?_⟩
      · simp [results, Try.results9, go_sem, noLat, c0, c1, c2]
      · exact set3B HB2.out (Nat.le_succ _)
    · have HT1 : Hid (Tb w2 T1 0 q R1 (idm (nat f) len)) := ht1
      have HT2 : Hid (Tb w2 T2 0 q R2 (idj (nat f) len)) := ht2
      have HT : Hid (w1.heap.size ≤ T1 ∧ w1.heap.size ≤ T2) := hT
      have HR : Hid (∀ k, k < q → w1.heap.size ≤ (R1 k).1 ∧ w1.heap.size ≤ (R2 k).1) := hR
      clear hb2 HCALL ht1 ht2 hT hR
      go_wp2_with fail
      refine bodyPost_ret (v := .tuple #[.agg #[.int .i64 (q : Int), .slice (some ⟨T1, 0, none⟩) q q, .slice (some ⟨T2, 0, none⟩) q q], .int .i64 0]) ?_ rfl ⟨.inr ⟨HC.out, .inr ⟨by rw [← HQ.out]; exact h40, T1, T2, R1, R2, by rw [← HQ.out], ?_, ?_, ?_, ?_⟩⟩, ?_⟩
      · simp [results, Try.results9, go_sem, c0, c1, c2]
      · rw [← HQ.out]
        have h1 := HSZ1.out
        have h2 := HT.out
        exact ((HT1.out.set _ (show w.heap.size + 1 ≠ _ by omega) (fun k hk => show w.heap.size + 1 ≠ _ by have := HR.out k hk; omega)).set _ (show w.heap.size + 1 ≠ _ by omega) (fun k hk => show w.heap.size + 1 ≠ _ by have := HR.out k hk; omega)).set _ (show w.heap.size + 1 ≠ _ by omega) (fun k hk => show w.heap.size + 1 ≠ _ by have := HR.out k hk; omega)
      · rw [← HQ.out]
        have h1 := HSZ1.out
        have h2 := HT.out
        exact ((HT2.out.set _ (show w.heap.size + 1 ≠ _ by omega) (fun k hk => show w.heap.size + 1 ≠ _ by have := HR.out k hk; omega)).set _ (show w.heap.size + 1 ≠ _ by omega) (fun k hk => show w.heap.size + 1 ≠ _ by have := HR.out k hk; omega)).set _ (show w.heap.size + 1 ≠ _ by omega) (fun k hk => show w.heap.size + 1 ≠ _ by have := HR.out k hk; omega)
      · have h1 := HSZ1.out
        have h2 := HT.out
        exact ⟨by omega, by omega⟩
      · rw [← HQ.out]
        intro k hk
        have h1 := HSZ1.out
        have h2 := HR.out k hk
        exact ⟨by omega, by omega⟩
      · exact set3B HB2.out (Nat.le_succ _)
end Go.Proofs.Ytpgbcnbhfgopdaa
