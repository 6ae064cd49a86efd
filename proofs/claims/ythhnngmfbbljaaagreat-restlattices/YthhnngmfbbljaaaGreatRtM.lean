/-
  What comes of the four calls that make lattices is told by what is handed in; and it is a lattice in blocks of its own. Conditions: slices that read as slices of numbers and of rows.
-/
import Derived.Test.YthhnngmfbbljaaaGreatDualT
import Derived.Test.YthhnngmfbbljaaaGreatCutL
import Derived.Test.YthhnngmfbbljaaaGreatLate
import Derived.Test.YthhnngmfbbljaaaGreatLRows
import Derived.Test.YthhnngmfbbljaaaGreatFillP
import Derived.Test.YthhnngmfbbljaaaGreatOthM
import Derived.Test.YthhnngmfbbljaaaGreatByP
import Derived.Test.YthhnngmfbbljaaaGreatSpoM
namespace Go.Proofs.YthhnngmfbbljaaaGreat
set_option maxRecDepth 100000
open Go.RowKit

/-- A lattice of N elements in new blocks, each row in one of its own that may be written; or nothing. -/
def LatR (B U : Nat) (w : World) (N : Nat) (m j : Nat → Nat → Nat) (a1 : Option Addr) (c1 : Nat) (a2 : Option Addr) (c2 : Nat) : Prop :=
  (N = 0 ∧ a1 = none ∧ c1 = 0 ∧ a2 = none ∧ c2 = 0) ∨
  (1 ≤ N ∧ N ≤ 40 ∧ Lat N m j ∧ ∃ T1 T2 R1 R2, (a1 = some ⟨T1, 0, none⟩ ∧ c1 = N ∧ a2 = some ⟨T2, 0, none⟩ ∧ c2 = N) ∧ Tb w T1 0 N R1 m ∧ Tb w T2 0 N R2 j ∧ (B ≤ T1 ∧ B ≤ T2) ∧ (∀ k, k < N → B ≤ (R1 k).1 ∧ B ≤ (R2 k).1) ∧ Apt w N R1 R2 ∧ ∀ k, k < N → (R1 k).1 < U ∧ (R2 k).1 < U)
theorem LatR.nil (B U : Nat) (w : World) (m j : Nat → Nat → Nat) : LatR B U w 0 m j none 0 none 0 := .inl ⟨rfl, rfl, rfl, rfl, rfl⟩
theorem LatR.step {B U : Nat} {w w' : World} {N : Nat} {m j : Nat → Nat → Nat} {a1 : Option Addr} {c1 : Nat} {a2 : Option Addr} {c2 : Nat} (h : LatR B U w N m j a1 c1 a2 c2) (hb : Below w.heap.size w w') : LatR B U w' N m j a1 c1 a2 c2 := by
  rcases h with h | ⟨h1, h2, h3, T1, T2, R1, R2, h4, h5, h6, h7, h8, h9, hu⟩
  · exact .inl h
  · exact .inr ⟨h1, h2, h3, T1, T2, R1, R2, h4, h5.step hb, h6.step hb, h7, h8, h9.step hb, hu⟩
theorem Tb.off {K K' : Nat} {w w' : World} {b off n : Nat} {R : Nat → Nat × Nat × Nat} {m : Nat → Nat → Nat} (h : Tb w b off n R m) (hb : K' ≤ b) (hR : ∀ k, k < n → K' ≤ (R k).1) (ho : Off K K' w w') : Tb w' b off n R m := fun x hx =>
  ⟨ho.cell (.inr hb) (h x hx).1, fun y hy => ho.cell (.inr (hR x hx)) ((h x hx).2 y hy)⟩
theorem Apt.off {K K' : Nat} {w w' : World} {b1 b2 n : Nat} {R1 R2 : Nat → Nat × Nat × Nat} {m j : Nat → Nat → Nat} (h : Apt w n R1 R2) (h1 : Tb w b1 0 n R1 m) (h2 : Tb w b2 0 n R2 j) (hR : ∀ k, k < n → K' ≤ (R1 k).1 ∧ K' ≤ (R2 k).1) (ho : Off K K' w w') : Apt w' n R1 R2 := fun k hk => by
  obtain ⟨⟨h0, l1, l2⟩, h3, h4⟩ := h k hk
  refine ⟨⟨h0, Nat.lt_of_lt_of_le l1 ho.1, Nat.lt_of_lt_of_le l2 ho.1⟩, fun i hi => ⟨?_, ?_⟩, h4⟩
  · have c := (h1 k hk).2 i hi
    rw [h0.1, Nat.zero_add] at c
    exact (ho.2 ⟨(R1 k).1, i, none⟩ (.inr (hR k hk).1)).2 _ c (h3 i hi).1
  · have c := (h2 k hk).2 i hi
    rw [h0.2, Nat.zero_add] at c
    exact (ho.2 ⟨(R2 k).1, i, none⟩ (.inr (hR k hk).2)).2 _ c (h3 i hi).2
theorem LatR.off {B U K K' : Nat} {w w' : World} {N : Nat} {m j : Nat → Nat → Nat} {a1 : Option Addr} {c1 : Nat} {a2 : Option Addr} {c2 : Nat} (h : LatR B U w N m j a1 c1 a2 c2) (hB : K' ≤ B) (ho : Off K K' w w') : LatR B U w' N m j a1 c1 a2 c2 := by
  rcases h with h | ⟨h1, h2, h3, T1, T2, R1, R2, h4, h5, h6, h7, h8, h9, hu⟩
  · exact .inl h
  · exact .inr ⟨h1, h2, h3, T1, T2, R1, R2, h4, h5.off (by omega) (fun k hk => by have := h8 k hk; omega) ho, h6.off (by omega) (fun k hk => by have := h8 k hk; omega) ho, h7, h8, h9.off h5 h6 (fun k hk => by have := h8 k hk; omega) ho, hu⟩
/-- Two results of one call are the same. -/
theorem LatR.eqt {B U B' U' : Nat} {w : World} {N : Nat} {m j : Nat → Nat → Nat} {a1 : Option Addr} {c1 : Nat} {a2 : Option Addr} {c2 : Nat} {b1 : Option Addr} {d1 : Nat} {b2 : Option Addr} {d2 : Nat} (h : LatR B U w N m j a1 c1 a2 c2) (h' : LatR B' U' w N m j b1 d1 b2 d2) : EqT w a1 b1 N ∧ EqT w a2 b2 N := by
  rcases h with ⟨rfl, rfl, rfl, rfl, rfl⟩ | ⟨h1, h2, _, T1, T2, R1, R2, ⟨rfl, rfl, rfl, rfl⟩, h5, h6, _⟩
  · rcases h' with ⟨_, rfl, rfl, rfl, rfl⟩ | ⟨h1', _⟩
    · exact ⟨EqT.nil _, EqT.nil _⟩
    · omega
  · rcases h' with ⟨h0, _⟩ | ⟨_, _, _, U1, U2, S1, S2, ⟨rfl, rfl, rfl, rfl⟩, g5, g6, _⟩
    · omega
    · exact ⟨EqT.of h5 g5 (by unfold maxLen; omega) (fun _ _ _ _ => rfl), EqT.of h6 g6 (by unfold maxLen; omega) (fun _ _ _ _ => rfl)⟩

theorem ideal_det (n : Int) (len : Nat) (f : Nat → Int) (hl : len ≤ maxLen) : ∃ (N : Nat) (m j : Nat → Nat → Nat), N ≤ 40 ∧ ∀ (a : Option Addr) (cap : Nat) (w : World), Row w a len f →
    Calls Tryz.prog 10 #[.agg #[.int .i64 n, .slice a len cap]] w fun e w' => (∃ a1 c1 a2 c2, ∃ c : Int, e = .returned (.tuple #[.agg #[.int .i64 (N : Nat), .slice a1 N c1, .slice a2 N c2], .int .i64 c]) ∧ LatR w.heap.size w'.heap.size w' N m j a1 c1 a2 c2) ∧ Below w.heap.size w w' := by
  by_cases h : Chk n len f 0 ∧ (idls (nat f) len).length ≤ 40
  · obtain ⟨hc, h40⟩ := h
    obtain ⟨rfl, h10, hrng, ho⟩ := hc.good
    have hOT : OT (nat f) len := ⟨h10, hrng.small, ho⟩
    refine ⟨_, idm (nat f) len, idj (nat f) len, h40, fun a cap w hr => (idealLattice_any _ a len cap f w hl hr).mono ?_⟩
    rintro e w' ⟨hI, hb⟩
    refine ⟨?_, hb⟩
    rcases hI with ⟨c, hne, hc', _⟩ | ⟨_, ⟨h41, _⟩ | ⟨_, T1, T2, R1, R2, rfl, t1, t2, hT, hR, hap⟩⟩
    · exact absurd (hc'.unique hc) hne
    · omega
    · exact ⟨_, _, _, _, _, rfl, .inr ⟨hOT.pos, h40, hOT.lat, T1, T2, R1, R2, ⟨rfl, rfl, rfl, rfl⟩, t1, t2, hT, hR, hap, fun k hk => ((hap k hk).1).2⟩⟩
  · refine ⟨0, fun _ _ => 0, fun _ _ => 0, by omega, fun a cap w hr => (idealLattice_any _ a len cap f w hl hr).mono ?_⟩
    rintro e w' ⟨hI, hb⟩
    refine ⟨?_, hb⟩
    rcases hI with ⟨c, hne, hc', rfl⟩ | ⟨hc, ⟨h41, rfl⟩ | ⟨h40, _⟩⟩
    · exact ⟨none, 0, none, 0, c, rfl, LatR.nil _ _ _ _ _⟩
    · exact ⟨none, 0, none, 0, 2, rfl, LatR.nil _ _ _ _ _⟩
    · exact absurd ⟨hc, h40⟩ h

theorem fill_det (n : Int) (len : Nat) (f : Nat → Int) (hl : len ≤ maxLen) : ∃ (N : Nat) (m j : Nat → Nat → Nat), N ≤ 40 ∧ ∀ (a : Option Addr) (cap : Nat) (w : World), Row w a len f →
    Calls Tryz.prog 11 #[.agg #[.int .i64 n, .slice a len cap]] w fun e w' => (∃ a1 c1 a2 c2, ∃ (p : Option Addr) (pl pc : Nat) (c : Int), e = .returned (.tuple #[.agg #[.int .i64 (N : Nat), .slice a1 N c1, .slice a2 N c2], .slice p pl pc, .int .i64 c]) ∧ LatR w.heap.size w'.heap.size w' N m j a1 c1 a2 c2) ∧ Below w.heap.size w w' := by
  by_cases h : Chk n len f 0 ∧ (cuts (nat f) len).length ≤ 40
  · obtain ⟨hc, h40⟩ := h
    refine ⟨_, ctm (nat f) len, ctj (nat f) len, h40, fun a cap w hr => (fill_any _ a len cap f w hl hr).mono ?_⟩
    rintro e w' ⟨hI, hb⟩
    refine ⟨?_, hb⟩
    rcases hI with ⟨c, ⟨hne, hc'⟩ | ⟨_, _, h41⟩, _⟩ | ⟨_, T1, T2, R1, R2, pb, rfl, t1, t2, _, hT, hR, _, hap⟩
    · exact absurd (hc'.unique hc) hne
    · omega
    · exact ⟨_, _, _, _, _, _, _, _, rfl, .inr ⟨cuts_pos _ _, h40, cuts_lat, T1, T2, R1, R2, ⟨rfl, rfl, rfl, rfl⟩, t1, t2, hT, hR, hap, fun k hk => ((hap k hk).1).2⟩⟩
  · refine ⟨0, fun _ _ => 0, fun _ _ => 0, by omega, fun a cap w hr => (fill_any _ a len cap f w hl hr).mono ?_⟩
    rintro e w' ⟨hI, hb⟩
    refine ⟨?_, hb⟩
    rcases hI with ⟨c, _, rfl⟩ | ⟨hc, _⟩
    · exact ⟨none, 0, none, 0, none, 0, 0, c, rfl, LatR.nil _ _ _ _ _⟩
    · exact absurd hc h

theorem concept_det (L R : Int) (len : Nat) (f : Nat → Int) (hl : len ≤ maxLen) : ∃ (N : Nat) (m j : Nat → Nat → Nat), N ≤ 40 ∧ ∀ (a : Option Addr) (cap : Nat) (w : World), Row w a len f →
    Calls Tryz.prog 12 #[.agg #[.int .i64 L, .int .i64 R, .slice a len cap]] w fun e w' => (∃ a1 c1 a2 c2, ∃ c : Int, e = .returned (.tuple #[.agg #[.int .i64 (N : Nat), .slice a1 N c1, .slice a2 N c2], .int .i64 c]) ∧ LatR w.heap.size w'.heap.size w' N m j a1 c1 a2 c2) ∧ Below w.heap.size w w' := by
  have no : (∀ (r : Nat), ¬ (GChk L R len f 0 ∧ R = (r : Int) ∧ (tsets (nat f) len r).length ≤ 40)) → ∃ (N : Nat) (m j : Nat → Nat → Nat), N ≤ 40 ∧ ∀ (a : Option Addr) (cap : Nat) (w : World), Row w a len f →
    Calls Tryz.prog 12 #[.agg #[.int .i64 L, .int .i64 R, .slice a len cap]] w fun e w' => (∃ a1 c1 a2 c2, ∃ c : Int, e = .returned (.tuple #[.agg #[.int .i64 (N : Nat), .slice a1 N c1, .slice a2 N c2], .int .i64 c]) ∧ LatR w.heap.size w'.heap.size w' N m j a1 c1 a2 c2) ∧ Below w.heap.size w w' := fun h => by
    refine ⟨0, fun _ _ => 0, fun _ _ => 0, by omega, fun a cap w hr => (cLattice_any _ _ a len cap f w hl hr).mono ?_⟩
    rintro e w' ⟨hI, hb⟩
    refine ⟨?_, hb⟩
    rcases hI with ⟨c, _, _, rfl⟩ | ⟨r, hc, _, hR, _, _, _, ⟨_, rfl⟩ | ⟨h40, _⟩⟩
    · exact ⟨none, 0, none, 0, c, rfl, LatR.nil _ _ _ _ _⟩
    · exact ⟨none, 0, none, 0, 2, rfl, LatR.nil _ _ _ _ _⟩
    · exact absurd ⟨hc, hR, h40⟩ (h r)
  by_cases h : ∃ r : Nat, GChk L R len f 0 ∧ R = (r : Int) ∧ (tsets (nat f) len r).length ≤ 40
  · obtain ⟨r, hc, hR, h40⟩ := h
    obtain ⟨r', rfl, hR', h10, r10, hg⟩ := hc.good
    obtain rfl : r = r' := by omega
    subst hR
    have h1024 : ∀ k, k < len → nat f k < 1024 := hg.small2 r10
    refine ⟨_, cnm (nat f) len r, cnj (nat f) len r, h40, fun a cap w hr => (cLattice_any _ _ a len cap f w hl hr).mono ?_⟩
    rintro e w' ⟨hI, hb⟩
    refine ⟨?_, hb⟩
    rcases hI with ⟨c, hne, hc', _⟩ | ⟨r2, _, _, hR2, _, _, _, hof⟩
    · exact absurd (hc'.unique hc) hne
    · obtain rfl : r = r2 := by omega
      rcases hof with ⟨h41, _⟩ | ⟨_, T1, T2, R1, R2, rfl, t1, t2, hT, hR, hap⟩
      · omega
      · exact ⟨_, _, _, _, _, rfl, .inr ⟨tsets_pos h10 r10 h1024, h40, con_lat h10 r10 h1024, T1, T2, R1, R2, ⟨rfl, rfl, rfl, rfl⟩, t1, t2, hT, hR, hap, fun k hk => ((hap k hk).1).2⟩⟩
  · exact no fun r hr => h ⟨r, hr⟩

/-- What is taken together by a congruence is a lattice. -/
theorem quo_lat {q k : Nat} {m j : Nat → Nat → Nat} {c : Nat → Nat} {G H : Nat → Nat → Nat} (hL : Lat q m j) (hit : ∀ u, u < k → ∃ i, i < q ∧ c i = u) (hlt : ∀ i, i < q → c i < k) (hG : TabTo q m c G q 0) (hH : TabTo q j c H q 0) : Lat k G H := by
  have g : ∀ s t, s < q → t < q → G (c s) (c t) = c (m s t) := fun s t hs ht => hG s t hs ht (.inl hs)
  have h : ∀ s t, s < q → t < q → H (c s) (c t) = c (j s t) := fun s t hs ht => hH s t hs ht (.inl hs)
  refine ⟨fun u v hu hv => ?_, fun u v hu hv => ?_, lws_iff.2 fun x y z hx hy hz => ?_, lws_iff.2 fun x y z hx hy hz => ?_⟩
  · obtain ⟨a, ha, rfl⟩ := hit u hu
    obtain ⟨b, hb, rfl⟩ := hit v hv
    rw [g a b ha hb]; exact hlt _ (hL.im _ _ ha hb)
  · obtain ⟨a, ha, rfl⟩ := hit u hu
    obtain ⟨b, hb, rfl⟩ := hit v hv
    rw [h a b ha hb]; exact hlt _ (hL.ij _ _ ha hb)
  · obtain ⟨a, ha, rfl⟩ := hit x hx
    obtain ⟨b, hb, rfl⟩ := hit y hy
    obtain ⟨d, hd, rfl⟩ := hit z hz
    obtain ⟨l1, l2, l3, l4⟩ := hL.lm.at ha hb hd
    exact ⟨by rw [g a a ha ha, l1], by rw [g a b ha hb, g b a hb ha, l2], by rw [g b d hb hd, g a _ ha (hL.im _ _ hb hd), g a b ha hb, g _ d (hL.im _ _ ha hb) hd, l3], by rw [h a b ha hb, g a _ ha (hL.ij _ _ ha hb), l4]⟩
  · obtain ⟨a, ha, rfl⟩ := hit x hx
    obtain ⟨b, hb, rfl⟩ := hit y hy
    obtain ⟨d, hd, rfl⟩ := hit z hz
    obtain ⟨l1, l2, l3, l4⟩ := hL.lj.at ha hb hd
    exact ⟨by rw [h a a ha ha, l1], by rw [h a b ha hb, h b a hb ha, l2], by rw [h b d hb hd, h a _ ha (hL.ij _ _ hb hd), h a b ha hb, h _ d (hL.ij _ _ ha hb) hd, l3], by rw [g a b ha hb, h a _ ha (hL.im _ _ ha hb), l4]⟩
theorem CM.tb {w : World} {B n : Nat} {r : Nat → Nat} {G : Nat → Nat → Nat} (h : CM w B r n n n G) : Tb w B 0 n (fun k => (r k, 0, n)) G := fun x hx =>
  ⟨by rw [Nat.zero_add]; exact h.cells x hx, fun y hy => by rw [Nat.zero_add]; exact (h.rows x hx y hy).1⟩
theorem Sq.congr {n : Int} {la : Nat} {S S' : Nat → Option Addr × Nat × Nat} (e : ∀ x, x < la → (S x).2.1 = (S' x).2.1) : Sq n la S ↔ Sq n la S' :=
  ⟨fun h => ⟨h.1, fun k hk => by rw [← e k hk]; exact h.2 k hk⟩, fun h => ⟨h.1, fun k hk => by rw [e k hk]; exact h.2 k hk⟩⟩
theorem Rg.congr {n : Int} {la : Nat} {S S' : Nat → Option Addr × Nat × Nat} {F : Nat → Nat → Int} (e : ∀ x, x < la → (S x).2.1 = (S' x).2.1) : Rg n la S F ↔ Rg n la S' F :=
  ⟨fun h x hx y hy => h x hx y (by rw [e x hx]; exact hy), fun h x hx y hy => h x hx y (by rw [← e x hx]; exact hy)⟩
theorem QCk.congr {n : Int} {la : Nat} {SA SA' : Nat → Option Addr × Nat × Nat} {FA : Nat → Nat → Int} {lb : Nat} {SB SB' : Nat → Option Addr × Nat × Nat} {FB : Nat → Nat → Int} {m : Nat} {f : Nat → Int} {c : Int} (ea : ∀ x, x < la → (SA x).2.1 = (SA' x).2.1) (eb : ∀ x, x < lb → (SB x).2.1 = (SB' x).2.1) (h : QCk n la SA FA lb SB FB m f c) : QCk n la SA' FA lb SB' FB m f c := by
  unfold QCk LCk at h ⊢
  rw [Sq.congr ea, Sq.congr eb, Rg.congr (F := FA) ea, Rg.congr (F := FB) eb] at h
  exact h
theorem QCk.unique {n : Int} {la : Nat} {SA : Nat → Option Addr × Nat × Nat} {FA : Nat → Nat → Int} {lb : Nat} {SB : Nat → Option Addr × Nat × Nat} {FB : Nat → Nat → Int} {m : Nat} {f : Nat → Int} {c : Int} (h : QCk n la SA FA lb SB FB m f c) (h' : QCk n la SA FA lb SB FB m f 0) : c = 0 := by
  obtain ⟨g1, g2, g3⟩ := h'.good
  rcases h with ⟨hne, h⟩ | ⟨_, ⟨_, h⟩ | ⟨_, ⟨_, h⟩ | ⟨rfl, _⟩⟩⟩
  · exact h.one g1
  · exact absurd g2 h
  · exact absurd g3 h
  · rfl

theorem by_det (n : Int) (la : Nat) (LA : Nat → Nat) (FA : Nat → Nat → Int) (lb : Nat) (LB : Nat → Nat) (FB : Nat → Nat → Int) (q : Nat) (f : Nat → Int) (hla : la ≤ maxLen) (hlb : lb ≤ maxLen) : ∃ (N : Nat) (m j : Nat → Nat → Nat), N ≤ 40 ∧
    ∀ (a : Option Addr) (ca : Nat) (SA : Nat → Option Addr × Nat × Nat) (b : Option Addr) (cb : Nat) (SB : Nat → Option Addr × Nat × Nat) (p : Option Addr) (cq : Nat) (w : World), (∀ x, x < la → (SA x).2.1 = LA x) → (∀ x, x < lb → (SB x).2.1 = LB x) → RR w a la SA FA → RR w b lb SB FB → Row w p q f →
    Calls Tryz.prog 13 #[.agg #[.int .i64 n, .slice a la ca, .slice b lb cb], .slice p q cq] w fun e w' => (∃ a1 c1 a2 c2, ∃ c : Int, e = .returned (.tuple #[.agg #[.int .i64 (N : Nat), .slice a1 N c1, .slice a2 N c2], .int .i64 c]) ∧ LatR w.heap.size w'.heap.size w' N m j a1 c1 a2 c2) ∧ Below w.heap.size w w' := by
  have cg : ∀ {SA SB : Nat → Option Addr × Nat × Nat} {c : Int}, (∀ x, x < la → (SA x).2.1 = LA x) → (∀ x, x < lb → (SB x).2.1 = LB x) → QCk n la SA FA lb SB FB q f c → QCk n la (fun x => (none, LA x, 0)) FA lb (fun x => (none, LB x, 0)) FB q f c := fun ea eb h => h.congr ea eb
  by_cases h : QCk n la (fun x => (none, LA x, 0)) FA lb (fun x => (none, LB x, 0)) FB q f 0 ∧ Con q (nat2 FA) (nat2 FB) (natF f)
  · obtain ⟨hq, hc⟩ := h
    obtain ⟨hl, hm, hris⟩ := hq.good
    obtain ⟨k, hnk, k1, k40, _, _, _, _, _, _, hLat⟩ := hl.good
    have hqk : q = k := by omega
    subst hqk
    have hpos : ∀ i, i < q → 0 ≤ f i := fun i hi => by have : 0 ≤ f i ∧ f i < bgI f i + 1 := by simpa [pnt] using hris i (by omega)
                                                       exact this.1
    have hN : numK f q ≤ 40 := Nat.le_trans (natF_le k1 hris) k40
    have hN1 : 1 ≤ numK f q := by unfold numK; omega
    -- the tables told by what is handed in
    have hex : ∀ F : Nat → Nat → Nat, ∃ G : Nat → Nat → Nat, (∀ H : Nat → Nat → Nat, TabTo q F (natF f) H q 0 → ∀ u v, u < numK f q → v < numK f q → H u v = G u v) := fun F => by
      by_cases e : ∃ H, TabTo q F (natF f) H q 0
      · obtain ⟨G, hG⟩ := e
        refine ⟨G, fun H hH u v hu hv => ?_⟩
        obtain ⟨a, ha, rfl⟩ := natF_hit k1 hris hu
        obtain ⟨b, hb, rfl⟩ := natF_hit k1 hris hv
        rw [hH a b ha hb (.inl ha), hG a b ha hb (.inl ha)]
      · exact ⟨fun _ _ => 0, fun H hH => absurd ⟨H, hH⟩ e⟩
    obtain ⟨GM, hGM⟩ := hex (nat2 FA)
    obtain ⟨GJ, hGJ⟩ := hex (nat2 FB)
    refine ⟨numK f q, GM, GJ, hN, fun a ca SA b cb SB p cq w ea eb hra hrb hrp => (by_any _ a _ ca SA FA b _ cb SB FB p q cq f w hla hlb hra hrb hrp).mono ?_⟩
    rintro e w' ⟨⟨c, v, rfl, hI⟩, hb⟩
    refine ⟨?_, hb⟩
    rcases hI with ⟨hne, hck, _⟩ | ⟨_, ⟨_, hnc, _⟩ | ⟨rfl, _, B1, r1, G1, B2, r2, G2, rfl, hM1, hM2, hT1, hT2, hB, hr⟩⟩
    · exact absurd ((cg ea eb hck).unique hq) hne
    · exact absurd hc hnc
    · have hLq : Lat (numK f q) G1 G2 := quo_lat hLat (fun u hu => natF_hit k1 hris hu) (fun i hi => natF_lt hi hpos) hT1 hT2
      have e1 : ∀ u v, u < numK f q → v < numK f q → G1 u v = GM u v := hGM G1 hT1
      have e2 : ∀ u v, u < numK f q → v < numK f q → G2 u v = GJ u v := hGJ G2 hT2
      have im : Inn (numK f q) GM := fun u v hu hv => by rw [← e1 u v hu hv]; exact hLq.im u v hu hv
      have ij : Inn (numK f q) GJ := fun u v hu hv => by rw [← e2 u v hu hv]; exact hLq.ij u v hu hv
      have hLat2 : Lat (numK f q) GM GJ := by
        refine ⟨im, ij, lws_iff.2 fun x y z hx hy hz => ?_, lws_iff.2 fun x y z hx hy hz => ?_⟩
        · have := hLq.lm.at hx hy hz
          rw [e1 x x hx hx, e1 x y hx hy, e1 y x hy hx, e1 y z hy hz, e2 x y hx hy, e1 x _ hx (im _ _ hy hz), e1 _ z (im _ _ hx hy) hz, e1 x _ hx (ij _ _ hx hy)] at this
          exact this
        · have := hLq.lj.at hx hy hz
          rw [e2 x x hx hx, e2 x y hx hy, e2 y x hy hx, e2 y z hy hz, e1 x y hx hy, e2 x _ hx (ij _ _ hy hz), e2 _ z (ij _ _ hx hy) hz, e2 x _ hx (im _ _ hx hy)] at this
          exact this
      refine ⟨_, _, _, _, 0, rfl, .inr ⟨hN1, hN, hLat2, B1, B2, (fun k => (r1 k, 0, numK f q)), (fun k => (r2 k, 0, numK f q)), ⟨rfl, rfl, rfl, rfl⟩, ?_, ?_, hB, ?_, ?_, fun k hk => ⟨(hM1.lt k hk).2, (hM2.lt k hk).2⟩⟩⟩
      · exact fun x hx => ⟨(hM1.tb x hx).1, fun y hy => by rw [← e1 x y hx hy]; exact (hM1.tb x hx).2 y hy⟩
      · exact fun x hx => ⟨(hM2.tb x hx).1, fun y hy => by rw [← e2 x y hx hy]; exact (hM2.tb x hx).2 y hy⟩
      · intro k hk
        have h1 := (hM1.lt k hk).1
        have h2 := (hM2.lt k hk).1
        exact ⟨by show _ ≤ r1 k; omega, by show _ ≤ r2 k; omega⟩
      · intro k hk
        refine ⟨⟨⟨rfl, rfl⟩, (hM1.lt k hk).2, (hM2.lt k hk).2⟩, fun i hi => ⟨(hM1.rows k hk i hi).2, (hM2.rows k hk i hi).2⟩, fun l hl => ⟨?_, fun ne => ⟨hM1.inj k l hk hl ne, hM2.inj k l hk hl ne⟩⟩⟩
        have h1 := hr k hk
        have h2 := (hM2.lt l hl).1
        show r1 k ≠ r2 l
        omega
  · refine ⟨0, fun _ _ => 0, fun _ _ => 0, by omega, fun a ca SA b cb SB p cq w ea eb hra hrb hrp => (by_any _ a _ ca SA FA b _ cb SB FB p q cq f w hla hlb hra hrb hrp).mono ?_⟩
    rintro e w' ⟨⟨c, v, rfl, hI⟩, hb⟩
    refine ⟨?_, hb⟩
    rcases hI with ⟨_, _, rfl⟩ | ⟨hck, ⟨_, _, rfl⟩ | ⟨_, hcon, _⟩⟩
    · exact ⟨none, 0, none, 0, c, rfl, LatR.nil _ _ _ _ _⟩
    · exact ⟨none, 0, none, 0, c, rfl, LatR.nil _ _ _ _ _⟩
    · exact absurd ⟨cg ea eb hck, hcon⟩ h
end Go.Proofs.YthhnngmfbbljaaaGreat
