/-
  hasselaw.QuotientAll returns true for every lattice. No condition but that slices read as slices of rows.
-/
import Derived.Test.YtappekjkcgmheaaLate
import Derived.Test.YtappekjkcgmheaaQaM
import Derived.Test.YtappekjkcgmheaaCgA
import Derived.Test.YtappekjkcgmheaaLsA
namespace Go.Proofs.Ytappekjkcgmheaa
open Go.RowKit
set_option maxRecDepth 100000

theorem congruences_row {n : Int} {a : Option Addr} {la ca : Nat} {SA : Nat → Option Addr × Nat × Nat} {FA : Nat → Nat → Int} {b : Option Addr} {lb cb : Nat} {SB : Nat → Option Addr × Nat × Nat} {FB : Nat → Nat → Int} {p : Option Addr} {m : Nat} {f : Nat → Int} {B : Nat} {w : World} (h : QS n a la ca SA FA b lb cb SB FB p m f B w) (hk : LCk n la SA FA lb SB FB 0) :
    Calls Try.prog 22 #[.agg #[.int .i64 n, .slice a la ca, .slice b lb cb]] w fun e w' => (∃ v ok, e = .returned (.tuple #[v, .bool ok]) ∧ CgsIs n.toNat (nat2 FA) (nat2 FB) w' v ok) ∧ Below w.heap.size w w' := by
  obtain ⟨q, rfl, h1, h40, rfl, rfl, hsa, hsb, hga, hgb, _⟩ := hk.good
  obtain ⟨bA, oA, rfl, hta, hia⟩ := h.ra.tb h1 hsa hga
  obtain ⟨bB, oB, rfl, htb, hib⟩ := h.rb.tb h1 hsb hgb
  have := congruences_any lb bA oA ca bB oB cb _ _ (nat2 FA) (nat2 FB) w h1 h40 hia hib hta htb
  simpa using this
/-- A list of rows as a slice of rows. -/
theorem CR.rrq {w : World} {base : Nat} {v : Value} {r : Nat → Nat} {n q : Nat} {G : Nat → Nat → Nat} (h : CR w base v r n q G) (hn : 0 < n) (hW : q ≤ maxLen) : ∃ g cap, v = .slice (some ⟨g, 0, none⟩) n cap ∧ RR w (some ⟨g, 0, none⟩) n (fun j => (some ⟨r j, 0, none⟩, q, q)) (fun j u => (G j u : Nat)) := by
  obtain ⟨g, cap, rfl⟩ := owns_form h.own hn
  refine ⟨g, cap, rfl, fun k hk => ⟨g, 0, rfl, ?_, hW, (h.rows k hk).row⟩⟩
  rw [Nat.zero_add, h.own.cellAt k (by omega)]
  simp [slv, hk]

set_option maxHeartbeats 8000000 in
theorem quotientAll_any (n : Int) (a : Option Addr) (la ca : Nat) (SA : Nat → Option Addr × Nat × Nat) (FA : Nat → Nat → Int) (b : Option Addr) (lb cb : Nat) (SB : Nat → Option Addr × Nat × Nat) (FB : Nat → Nat → Int) (w : World) (hla : la ≤ maxLen) (hlb : lb ≤ maxLen) (hra : RR w a la SA FA) (hrb : RR w b lb SB FB) :
    Calls Try.prog 5 #[.agg #[.int .i64 n, .slice a la ca, .slice b lb cb]] w fun e w' => e = .returned (.bool true) ∧ Below w.heap.size w w' := by
  have HB0 : Hid (Below w.heap.size w (w.alloc (.cells #[.int .i64 n, .slice a la ca, .slice b lb cb] 24))) := (Below.refl _ _).alloc (Nat.le_refl _) _
  have HS : Hid (QS n a la ca SA FA b lb cb SB FB none 0 (fun _ => 0) w.heap.size (w.alloc (.cells #[.int .i64 n, .slice a la ca, .slice b lb cb] 24))) := QS.new hra hrb (fun k hk => absurd hk (Nat.not_lt_zero _))
  clear hra hrb
  go_enter Try.func5, Try.ntmps5
  go_wp2_with fail
  refine (all_any n a la ca SA FA b lb cb SB FB _ hla hlb HS.out.ra HS.out.rb).mono ?_
  rintro e w1 ⟨⟨c, v, rfl, hc⟩, hb1⟩
  have HB1 : Hid (Below w.heap.size w w1) := Below.then HB0.out hb1
  have HS1 : Hid (QS n a la ca SA FA b lb cb SB FB none 0 (fun _ => 0) w.heap.size w1) := HS.out.step hb1
  have HA := (show Hid (AlIs n la SA FA lb SB FB _ w1 c v) from hc)
  clear hc hb1 HB0 HS
  obtain ⟨k0, k1, k2⟩ := HS1.out.bx
  go_wp2_with fail
  refine (simple_any n a la ca SA FA b lb cb SB FB _ hla hlb HS1.out.ra HS1.out.rb).mono ?_
  rintro e w2 ⟨⟨d, t, rfl, hd⟩, hb2⟩
  have HB2 : Hid (Below w.heap.size w w2) := Below.then HB1.out hb2
  have HS2 : Hid (QS n a la ca SA FA b lb cb SB FB none 0 (fun _ => 0) w.heap.size w2) := HS1.out.step hb2
  have HSM : Hid (SmIs n la SA FA lb SB FB d t) := hd
  have HBB2 : Hid (Below w1.heap.size w1 w2) := hb2
  clear hd hb2 HB1 HS1 k0 k1 k2
  obtain ⟨k0, k1, k2⟩ := HS2.out.bx
  go_wp2_with fail
  refine (checkLattice_any n a la ca SA FA b lb cb SB FB _ hla hlb HS2.out.ra HS2.out.rb).mono ?_
  rintro e w3 ⟨⟨f, rfl, hf⟩, hb3⟩
  have HB3 : Hid (Below w.heap.size w w3) := Below.then HB2.out hb3
  have HS3 : Hid (QS n a la ca SA FA b lb cb SB FB none 0 (fun _ => 0) w.heap.size w3) := HS2.out.step hb3
  have HF : Hid (LCk n la SA FA lb SB FB f) := hf
  have HBB3 : Hid (Below w1.heap.size w1 w3) := Below.then HBB2.out hb3
  clear hf hb3 HB2 HS2 HBB2 k0 k1 k2
  obtain ⟨k0, k1, k2⟩ := HS3.out.bx
  by_cases h0 : f = 0
  · subst h0
    obtain ⟨rfl, k, H, hop, rfl⟩ : d = 0 ∧ ∃ k H, OP n.toNat (nat2 FA) (nat2 FB) n.toNat 0 k H ∧ t = (k == 1) := by
      rcases HSM.out with ⟨h, hh, _⟩ | ⟨h, _, k, H, h1, h2⟩
      · exact absurd (hh.one HF.out) h
      · exact ⟨h, k, H, h1, h2⟩
    have HOP : Hid (OP n.toNat (nat2 FA) (nat2 FB) n.toNat 0 k H) := hop
    obtain ⟨q, hq, h1q, h40, hrest⟩ := HF.out.good
    clear hrest
    have HNT : Hid (n.toNat = q) := by unfold Hid; omega
    clear hop HSM hq
    go_wp2_with fail
    refine (congruences_row HS3.out HF.out).mono ?_
    rintro e w4 ⟨⟨v4, ok, rfl, hcg⟩, hb4⟩
    have HB4 : Hid (Below w.heap.size w w4) := Below.then HB3.out hb4
    have HBB4 : Hid (Below w1.heap.size w1 w4) := Below.then HBB3.out hb4
    clear hb4 HB3 HBB3 HS3 k0 k1 k2
    rcases hcg with ⟨rfl, rfl, nn, G, hnn, hcc, hdd⟩ | ⟨rfl, nn, B, cap, P, G, rfl, hn1, hn40, hcell, hcc, hss, hall⟩
    · obtain ⟨rfl, rfl⟩ : c = 2 ∧ v = .slice none 0 0 := by
        rcases HA.out with ⟨h, hh, _⟩ | ⟨_, ⟨h, hv, _⟩ | ⟨_, r, k', G', _, hk40, _, _, hall'⟩⟩
        · exact absurd (hh.one HF.out) h
        · exact ⟨h, hv⟩
        · have := few_of hcc hdd hall'; omega
      have hk1 : (k == 1) = false := by
        have hne : k ≠ 1 := fun e => by
          subst e
          -- with one least congruence of two elements there are two congruences at most
          obtain ⟨x, y, hyx, hxq, hk0⟩ := HOP.out.come 0 (by omega)
          have hle := few_of (k := 2) (H := fun a => if a = 0 then (fun x => x) else (fun _ => 0)) hcc hdd (fun dd hdc => by
            by_cases hx : ∃ x y, y < x ∧ x < n.toNat ∧ dd x = dd y
            · obtain ⟨x, y, hyx, hxq, e⟩ := hx
              refine ⟨1, by omega, fun i hi => ?_⟩
              have all0 : ∀ s, s < n.toNat → dd s = dd 0 := fun s hs => by
                rcases Nat.eq_zero_or_pos s with h0 | h0
                · rw [h0]
                · obtain ⟨b, hb, c1, hlc, e1⟩ := HOP.out.all x y hyx hxq (.inl hxq)
                  obtain rfl : b = 0 := by omega
                  obtain ⟨b', hb', c2, hlc2, e2⟩ := HOP.out.all s 0 h0 hs (.inl hs)
                  obtain rfl : b' = 0 := by omega
                  have hkc : Ker n.toNat c1 dd := hlc.2.2 dd hdc (fun p hp => by obtain rfl := List.mem_singleton.1 hp; exact e)
                  have h3 : nbr c2 s = nbr c2 0 := nbr_ker.2 (hlc2.2.1 (s, 0) (by simp))
                  have h4 := e2 s hs
                  have h5 := e2 0 (by omega)
                  have h6 : nbr c1 s = nbr c1 0 := by rw [← e1 s hs, ← e1 0 (by omega), h4, h5, h3]
                  exact hkc s 0 hs (by omega) (nbr_ker.1 h6)
              have h0' : nbr dd i = nbr dd 0 := nbr_ker.2 (all0 i hi)
              have h1' : nbr dd 0 ≤ 0 := nbr_le' dd 0
              show (0 : Nat) = nbr dd i
              omega
            · refine ⟨0, by omega, fun i hi => ?_⟩
              have k1 : Ker n.toNat dd (fun x => x) := fun s t hs ht e => by
                rcases Nat.lt_trichotomy s t with h | h | h
                · exact absurd ⟨t, s, h, ht, e.symm⟩ hx
                · exact h
                · exact absurd ⟨s, t, h, hs, e⟩ hx
              have k2 : Ker n.toNat (fun x => x) dd := fun s t _ _ e => by rw [show s = t from e]
              show i = nbr dd i
              rw [nbr_same k1 k2 i hi, nbr_id])
          omega
        simpa using hne
      rw [hk1]
      clear hcc hdd HA HOP hk1
      go_wp2_with fail
      refine (quotientBegun_any _).mono ?_
      rintro e w5 ⟨rfl, hb5⟩
      have HB5 : Hid (Below w.heap.size w w5) := Below.then HB4.out hb5
      clear hb5
      go_wp2_with fail
      refine (listsAre_no 2 _ (by decide)).mono ?_
      rintro e w6 ⟨rfl, hb6⟩
      have HB6 : Hid (Below w.heap.size w w6) := Below.then HB5.out hb6
      clear hb6
      go_wp2_with fail
      refine (truthIs_any 0 false false _ (.inr ⟨rfl, rfl⟩)).mono ?_
      rintro e w7 ⟨rfl, rfl⟩
      go_wp2_with fail
      go_ret
      exact ⟨rfl, HB6.out⟩
    · obtain ⟨rfl, g, cp, rfl, HRR⟩ : c = 0 ∧ ∃ g cp, v = .slice (some ⟨g, 0, none⟩) nn cp ∧ Hid (∃ S1 S2 F1 F2, RR w4 (some ⟨g, 0, none⟩) nn S1 F1 ∧ RR w4 (some ⟨B, 0, none⟩) nn S2 F2 ∧ ∀ k, k < nn → SameRows (S1 k).2.1 (S2 k).2.1 (F1 k) (F2 k)) := by
        rcases HA.out with ⟨h, hh, _⟩ | ⟨_, ⟨_, _, k', G', hk40, hcc', hdd'⟩ | ⟨h, r, k', G', hcr, hk40, hcc', hss', hall'⟩⟩
        · exact absurd (hh.one HF.out) h
        · have := few_of hcc' hdd' hall; omega
        · obtain ⟨rfl, he⟩ := srt_one hcc hss hall hcc' hss' hall'
          have hqm : n.toNat ≤ maxLen := by rw [HNT.out]; unfold maxLen; omega
          obtain ⟨g, cp, rfl, hrr⟩ := hcr.rrq (by omega) hqm
          refine ⟨h, g, cp, rfl, _, (fun k => (some ⟨(P k).1, 0, none⟩, n.toNat, (P k).2)), _, (fun k u => (G k u : Nat)), hrr.below HBB4.out, fun k hk => ⟨B, 0, rfl, by rw [Nat.zero_add]; exact (hcell k hk).1, hqm, fun i hi => ⟨_, 0, rfl, by rw [Nat.zero_add]; exact (hcell k hk).2 i hi⟩⟩, fun k hk => ⟨rfl, fun i hi => ?_⟩⟩
          have := he k hk i hi
          show ((G' k i : Nat) : Int) = ((G k i : Nat) : Int)
          rw [this]
      have HTW : Hid ((nn == 2) = (k == 1)) := by
        have h2 := two_iff hcc (srt_diff hss) hall HOP.out
        unfold Hid
        by_cases e : nn = 2
        · rw [h2.1 e, e]; rfl
        · have e' : k ≠ 1 := fun x => e (h2.2 x)
          have h3 : (nn == 2) = false := by simpa using e
          have h4 : (k == 1) = false := by simpa using e'
          rw [h3, h4]
      have hnm : nn ≤ maxLen := by unfold maxLen; omega
      obtain ⟨u, hu⟩ : ∃ u, (k == 1) = u := ⟨_, rfl⟩
      have gnn : ((nn : Int) == 2) = u := by
        rw [← hu, ← HTW.out]
        by_cases e : nn = 2
        · subst e; rfl
        · have h3 : (nn == 2) = false := by simpa using e
          rw [h3]
          simp
          omega
      rw [hu]
      clear hcell hcc hss hall HA HOP hu HTW
      go_wp2_with fail
      refine (quotientBegun_any _).mono ?_
      rintro e w5 ⟨rfl, hb5⟩
      have HB5 : Hid (Below w.heap.size w w5) := Below.then HB4.out hb5
      have HR5 : Hid (∃ S1 S2 F1 F2, RR w5 (some ⟨g, 0, none⟩) nn S1 F1 ∧ RR w5 (some ⟨B, 0, none⟩) nn S2 F2 ∧ ∀ k, k < nn → SameRows (S1 k).2.1 (S2 k).2.1 (F1 k) (F2 k)) := by
        obtain ⟨S1, S2, F1, F2, r1, r2, r3⟩ := HRR.out
        exact ⟨S1, S2, F1, F2, r1.below hb5, r2.below hb5, r3⟩
      clear hb5 HRR
      go_wp2_with fail
      obtain ⟨S1, S2, F1, F2, r1, r2, r3⟩ := HR5.out
      refine (listsAre_ok (some ⟨g, 0, none⟩) (some ⟨B, 0, none⟩) nn cp cap S1 S2 F1 F2 w5 hnm r1 r2 r3).mono ?_
      rintro e w6 ⟨rfl, hb6⟩
      have HB6 : Hid (Below w.heap.size w w6) := Below.then HB5.out hb6
      clear hb6 r1 r2 r3 HR5
      go_wp2_with fail
      refine (truthIs_any 0 u u _ (.inr ⟨rfl, rfl⟩)).mono ?_
      rintro e w7 ⟨rfl, rfl⟩
      go_wp2_with fail
      go_ret
      exact ⟨rfl, HB6.out⟩
  · have hne : (f == 0) = false := by simpa using h0
    obtain ⟨rfl, rfl⟩ : c = f ∧ v = .slice none 0 0 := by
      rcases HA.out with ⟨h, hh, hv⟩ | ⟨hh, _⟩
      · exact ⟨hh.one HF.out, hv⟩
      · exact absurd (HF.out.one hh) h0
    obtain ⟨rfl, rfl⟩ : d = c ∧ t = false := by
      rcases HSM.out with ⟨h, hh, hv⟩ | ⟨_, hh, _⟩
      · exact ⟨hh.one HF.out, hv⟩
      · exact absurd (HF.out.one hh) h0
    clear HA HSM
    go_wp2_with fail
    refine (quotientBegun_any _).mono ?_
    rintro e w5 ⟨rfl, hb5⟩
    have HB5 : Hid (Below w.heap.size w w5) := Below.then HB3.out hb5
    clear hb5
    go_wp2_with fail
    refine (listsAre_no d _ h0).mono ?_
    rintro e w6 ⟨rfl, hb6⟩
    have HB6 : Hid (Below w.heap.size w w6) := Below.then HB5.out hb6
    clear hb6
    go_wp2_with fail
    refine (truthIs_any d false false _ (.inl ⟨h0, rfl⟩)).mono ?_
    rintro e w7 ⟨rfl, rfl⟩
    go_wp2_with fail
    go_ret
    exact ⟨rfl, HB6.out⟩
end Go.Proofs.Ytappekjkcgmheaa
