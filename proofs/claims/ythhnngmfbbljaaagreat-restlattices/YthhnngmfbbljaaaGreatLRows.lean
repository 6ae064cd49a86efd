/-
  What ideal.Lattice answers: too many; or the tables of the ideals. No condition but that a slice reads as a slice of numbers.
  Tables as they come in: slices of slices of numbers; what lattice.isSquare, isOfElements and tables answer. No condition but that slices read as slices of rows.
-/
import Derived.Test.YthhnngmfbbljaaaGreatFilM
import Derived.Test.YthhnngmfbbljaaaGreatLate
import Derived.Test.YthhnngmfbbljaaaGreatOfLat
import Derived.Test.YthhnngmfbbljaaaGreatTabs
namespace Go.Proofs.YthhnngmfbbljaaaGreat
set_option maxRecDepth 100000
open Go.RowKit

theorem ent_id1 : Ent 33 := fun _ _ => rfl
theorem id1_any (w : World) : CloJ 33 #[] (fun s => s) w := fun s _ W _ => by
  show Calls Tryz.prog 33 #[.int .i64 (s : Nat)] W _
  go_enter Tryz.func33, Tryz.ntmps33
  go_wp2
  go_ret
  exact ⟨rfl, Below.refl _ _⟩
def IdLat (n : Int) (len : Nat) (f : Nat → Int) (B : Nat) (e : Ending) (w' : World) : Prop :=
  (∃ c, c ≠ 0 ∧ Chk n len f c ∧ e = .returned (.tuple #[noLat, .int .i64 c])) ∨ (Chk n len f 0 ∧ OfIs (idls (nat f) len).length B (idm (nat f) len) (idj (nat f) len) e w')

set_option maxHeartbeats 2000000 in
theorem idealLattice_any (n : Int) (a : Option Addr) (len cap : Nat) (f : Nat → Int) (w : World) (hl : len ≤ maxLen) (hr : Row w a len f) :
    Calls Tryz.prog 10 #[.agg #[.int .i64 n, .slice a len cap]] w fun e w' => IdLat n len f w.heap.size e w' ∧ Below w.heap.size w w' := by
  obtain ⟨W, HW⟩ : ∃ W, Hid (W = (w.alloc (.cells #[.int .i64 n, .slice a len cap] 24)).alloc (.cells #[.int .i64 0, .slice none 0 0, .slice none 0 0] 27)) := ⟨_, rfl⟩
  have B1 : Below w.heap.size w (w.alloc (.cells #[.int .i64 n, .slice a len cap] 24)) := (Below.refl _ _).alloc (Nat.le_refl _) _
  have B2 : Below w.heap.size w W := by rw [HW.out]; exact B1.alloc (by simp) _
  have K0 : Held W w.heap.size n a len cap f := by rw [HW.out]; exact (Held.box hr).step ((Below.refl _ _).alloc (Nat.le_refl _) _)
  have Z0 : ZL W (w.heap.size + 1) := by
    rw [HW.out]
    have := ZL.new (w.alloc (.cells #[.int .i64 n, .slice a len cap] 24))
    rw [World.size_alloc] at this; exact this
  have HSZ : Hid (W.heap.size = w.heap.size + 2) := by rw [Hid, HW.out]; simp
  have HB0 : Hid (Below w.heap.size w W) := B2
  have HZ : Hid (ZL W (w.heap.size + 1)) := Z0
  have HK : Hid (Held W w.heap.size n a len cap f) := K0
  have k0 := K0.c0
  have k1 := K0.c1
  clear hr B1 B2 K0 Z0
  go_enter Tryz.func10, Tryz.ntmps10
  go_wp2_with fail
  rw [← HW.out]
  go_wp2_with fail
  refine (ideals_any n a len cap f _ hl HK.out.row).mono ?_
  rintro e w1 ⟨⟨c, v, hc, rfl, hv⟩, hb⟩
  have HB1 : Hid (Below w.heap.size w w1) := Below.then HB0.out hb
  obtain ⟨⟨c0, c1, c2⟩, f0, f1, f2⟩ := HZ.out.step hb
  have HZ1 : Hid (ZL w1 (w.heap.size + 1)) := HZ.out.step hb
  rcases hv with ⟨h0, rfl⟩ | ⟨rfl, hv⟩
  · have hne : (c != 0) = true := by simpa using h0
    have HC : Hid (Chk n len f c) := hc
    clear hc hb HW k0 k1
    go_wp2_with fail
    refine bodyPost_ret (v := .tuple #[noLat, .int .i64 c]) ?_ rfl ⟨.inl ⟨c, h0, HC.out, rfl⟩, ?_⟩
    · simp [results, Tryz.results10, go_sem, noLat, c0, c1, c2]
    · exact set3B HB1.out (Nat.le_succ _)
  · obtain ⟨rfl, h10, hrng, _⟩ := hc.good
    obtain ⟨va, vc, rfl, hvr⟩ := hv
    have HC : Hid (Chk (len : Int) len f 0) := hc
    have hg := hrng.small2 h10
    have hpw := pw_le len h10
    have HCALL : Hid (∀ W', Below w1.heap.size w1 W' → Calls Tryz.prog 32 #[.slice va (idls (nat f) len).length vc, .func (.func 33) #[] #[]] W' fun e w' => OfIs (idls (nat f) len).length W'.heap.size (idm (nat f) len) (idj (nat f) len) e w' ∧ Below W'.heap.size W' w') := fun W' h =>
      ofSets_any (idls (nat f) len) va vc 33 #[] (fun s => s) (idm (nat f) len) (idj (nat f) len) W' (idls_pos h10 hg) (idls_len _ len h10) (hvr.below h) (fil_rises _ _) (fun k hk => by have := (idls_at h10 hg hk).1; omega) ent_id1 (id1_any W') (fun x y hx hy => idm_is h10 hg hx hy) (fun x y hx hy => idj_is h10 hg hx hy)
    have HSZ1 : Hid (w.heap.size + 2 ≤ w1.heap.size) := by have h1 := hb.size; have h2 := HSZ.out; rw [Hid]; omega
    obtain ⟨q, HQ⟩ : ∃ q, Hid (q = (idls (nat f) len).length) := ⟨_, rfl⟩
    rw [← HQ.out] at HCALL ⊢
    clear hc hb HW k0 k1 hvr hrng hg hpw c0 c1 c2 f0 f1 f2
    go_wp2_with fail
    refine (HCALL.out _ (Below.refl _ _)).mono ?_
    rintro e w2 ⟨ho, hb2⟩
    have HB2 : Hid (Below w.heap.size w w2) := Below.then HB1.out hb2
    obtain ⟨⟨c0, c1, c2⟩, f0, f1, f2⟩ := HZ1.out.step hb2
    rcases ho with ⟨h40, rfl⟩ | ⟨h40, T1, T2, R1, R2, rfl, ht1, ht2, hT, hR, hap⟩
    · clear hb2 HCALL
      unfold noLat
      go_wp2_with fail
      refine bodyPost_ret (v := .tuple #[noLat, .int .i64 2]) ?_ rfl ⟨.inr ⟨HC.out, .inl ⟨by rw [← HQ.out]; exact h40, rfl⟩⟩, ?_⟩
      · simp [results, Tryz.results10, go_sem, noLat, c0, c1, c2]
      · exact set3B HB2.out (Nat.le_succ _)
    · have HT1 : Hid (Tb w2 T1 0 q R1 (idm (nat f) len)) := ht1
      have HT2 : Hid (Tb w2 T2 0 q R2 (idj (nat f) len)) := ht2
      have HT : Hid (w1.heap.size ≤ T1 ∧ w1.heap.size ≤ T2) := hT
      have HAP : Hid (Apt w2 q R1 R2) := hap
      have HR : Hid (∀ k, k < q → w1.heap.size ≤ (R1 k).1 ∧ w1.heap.size ≤ (R2 k).1) := hR
      clear hb2 HCALL ht1 ht2 hT hR hap
      go_wp2_with fail
      refine bodyPost_ret (v := .tuple #[.agg #[.int .i64 (q : Int), .slice (some ⟨T1, 0, none⟩) q q, .slice (some ⟨T2, 0, none⟩) q q], .int .i64 0]) ?_ rfl ⟨.inr ⟨HC.out, .inr ⟨by rw [← HQ.out]; exact h40, T1, T2, R1, R2, by rw [← HQ.out], ?_, ?_, ?_, ?_, ?_⟩⟩, ?_⟩
      · simp [results, Tryz.results10, go_sem, c0, c1, c2]
      · rw [← HQ.out]
        have h1 := HSZ1.out
        have h2 := HT.out
        exact ((HT1.out.set _ (show w.heap.size + 1 ≠ _ by omega) (fun k hk => show w.heap.size + 1 ≠ _ by have := HR.out k hk; omega)).set _ (show w.heap.size + 1 ≠ _ by omega) (fun k hk => show w.heap.size + 1 ≠ _ by have := HR.out k hk; omega)).set _ (show w.heap.size + 1 ≠ _ by omega) (fun k hk => show w.heap.size + 1 ≠ _ by have := HR.out k hk; omega)
      · rw [← HQ.out]
        have h1 := HSZ1.out
        have h2 := HT.out
        exact ((HT2.out.set _ (show w.heap.size + 1 ≠ _ by omega) (fun k hk => show w.heap.size + 1 ≠ _ by have := HR.out k hk; omega)).set _ (show w.heap.size + 1 ≠ _ by omega) (fun k hk => show w.heap.size + 1 ≠ _ by have := HR.out k hk; omega)).set _ (show w.heap.size + 1 ≠ _ by omega) (fun k hk => show w.heap.size + 1 ≠ _ by have := HR.out k hk; omega)
      · have h1 := HSZ1.out
        have h2 := HT.out
        exact ⟨by omega, by omega⟩
      · rw [← HQ.out]
        intro k hk
        have h1 := HSZ1.out
        have h2 := HR.out k hk
        exact ⟨by omega, by omega⟩
      · rw [← HQ.out]
        exact ((HAP.out.set _ _).set _ _).set _ _
      · exact set3B HB2.out (Nat.le_succ _)
end Go.Proofs.YthhnngmfbbljaaaGreat
namespace Go.Proofs.YthhnngmfbbljaaaGreat
set_option maxRecDepth 100000
open Go.RowKit

/-- A truth that says whether Q. -/
def BIs (e : Ending) (Q : Prop) : Prop := ∃ v, e = .returned (.bool v) ∧ (v = true ↔ Q)
/-- A slice of m rows. -/
def RR (w : World) (a : Option Addr) (m : Nat) (S : Nat → Option Addr × Nat × Nat) (F : Nat → Nat → Int) : Prop :=
  ∀ k, k < m → ∃ b off, a = some ⟨b, off, none⟩ ∧ w.cell? ⟨b, off + k, none⟩ = some (.slice (S k).1 (S k).2.1 (S k).2.2) ∧ (S k).2.1 ≤ maxLen ∧ Row w (S k).1 (S k).2.1 (F k)
theorem RR.below {w w' : World} {a : Option Addr} {m : Nat} {S : Nat → Option Addr × Nat × Nat} {F : Nat → Nat → Int} (h : RR w a m S F) (hb : Below w.heap.size w w') : RR w' a m S F := fun k hk => by
  obtain ⟨b, off, e, hc, hl, hr⟩ := h k hk
  exact ⟨b, off, e, (hb.cell (World.block_lt_of_cell? _ _ hc)).trans hc, hl, hr.below hb⟩
/-- n rows of n; all of them elements. -/
def Sq (n : Int) (la : Nat) (S : Nat → Option Addr × Nat × Nat) : Prop := (la : Int) = n ∧ ∀ k, k < la → ((S k).2.1 : Int) = n
def Rg (n : Int) (la : Nat) (S : Nat → Option Addr × Nat × Nat) (F : Nat → Nat → Int) : Prop := ∀ x, x < la → ∀ y, y < (S x).2.1 → 0 ≤ F x y ∧ F x y < n

set_option maxHeartbeats 1000000 in
theorem isSquare_any (n : Int) (a : Option Addr) (m cap : Nat) (S : Nat → Option Addr × Nat × Nat) (F : Nat → Nat → Int) (w : World) (hm : m ≤ maxLen) (hr : RR w a m S F) :
    Calls Tryz.prog 79 #[.slice a m cap, .int .i64 n] w fun e w' => BIs e (Sq n m S) ∧ w = w' := by
  have HR : Hid (RR w a m S F) := hr
  clear hr
  unfold maxLen at hm
  by_cases hn : (m : Int) = n
  · subst hn
    go_enter Tryz.func79, Tryz.ntmps79
    go_wp2_with fail
    go_loopw [13] (fun i wx => ∃ k : Nat, k ≤ m ∧ i = .int .i64 k ∧ wx = w ∧ Hid (∀ j, j < k → ((S j).2.1 : Int) = (m : Int))) (fun i _ => m - (intOf i).toNat)
    case atStart => exact ⟨0, Nat.zero_le _, rfl, rfl, fun j hj => absurd hj (Nat.not_lt_zero _)⟩
    case round =>
      obtain ⟨k, hk, rfl, rfl, HK⟩ := hrel
      by_cases hlt : k < m
      · obtain ⟨b, off, rfl, hc, hl, _⟩ := HR.out k hlt
        unfold maxLen at hl
        by_cases he : ((S k).2.1 : Int) = (m : Int)
        · have he' : (((S k).2.1 : Int) != (m : Int)) = false := by simpa using he
          have HN : Hid (∀ j, j < k + 1 → ((S j).2.1 : Int) = (m : Int)) := fun j hj => by
            by_cases e : j = k
            · subst e; exact he
            · exact HK.out j (by omega)
          go_wp2_with fail
          go_roundw
          case rel => exact ⟨k + 1, by omega, by go_num, by first | rfl | trivial, HN.out⟩
          case measure => simp [intOf]; omega
        · have he' : (((S k).2.1 : Int) != (m : Int)) = true := by simpa using he
          have HN : Hid (false = true ↔ Sq (m : Int) m S) := ⟨fun h => (by cases h), fun h => absurd (h.2 k hlt) he⟩
          go_wp2_with fail
          go_ret
          exact ⟨⟨_, rfl, HN.out⟩, rfl⟩
      · obtain rfl : k = m := by omega
        have HN : Hid (Sq (k : Int) k S) := ⟨rfl, HK.out⟩
        go_wp2_with fail
        go_ret
        exact ⟨⟨true, rfl, fun _ => HN.out, fun _ => rfl⟩, rfl⟩
  · have hn' : ((m : Int) != n) = true := by simpa using hn
    have HN : Hid (false = true ↔ Sq n m S) := ⟨fun h => (by cases h), fun h => absurd h.1 hn⟩
    go_enter Tryz.func79, Tryz.ntmps79
    go_wp2_with fail
    go_ret
    exact ⟨⟨_, rfl, HN.out⟩, rfl⟩

theorem isPoint_as (p n : Int) (w : World) (v : Bool) (h : pnt p n = v) :
    Calls Tryz.prog 47 #[.int .i64 p, .int .i64 n] w fun e w' => e = .returned (.bool v) ∧ w = w' :=
  (isPoint_any p n w).mono fun _ _ ⟨h1, h2⟩ => ⟨by rw [← h]; exact h1, h2⟩

set_option maxHeartbeats 1000000 in
theorem isOfElements_any (n : Int) (a : Option Addr) (m cap : Nat) (S : Nat → Option Addr × Nat × Nat) (F : Nat → Nat → Int) (w : World) (hm : m ≤ maxLen) (hr : RR w a m S F) :
    Calls Tryz.prog 80 #[.slice a m cap, .int .i64 n] w fun e w' => BIs e (Rg n m S F) ∧ w = w' := by
  have HR : Hid (RR w a m S F) := hr
  clear hr
  unfold maxLen at hm
  go_enter Tryz.func80, Tryz.ntmps80
  go_wp2_with fail
  go_loopw [11] (fun i wx => ∃ k : Nat, k ≤ m ∧ i = .int .i64 k ∧ wx = w ∧ Hid (Rg n k S F)) (fun i _ => m - (intOf i).toNat)
  case atStart => exact ⟨0, Nat.zero_le _, rfl, rfl, fun j hj => absurd hj (Nat.not_lt_zero _)⟩
  case round =>
    obtain ⟨k, hk, rfl, rfl, HK⟩ := hrel
    by_cases hlt : k < m
    · obtain ⟨b, off, rfl, hc, hl, hrow⟩ := HR.out k hlt
      unfold maxLen at hl
      have HW : Hid (Row wr (S k).1 (S k).2.1 (F k)) := hrow
      clear hrow
      generalize hs1 : (S k).1 = r1 at *
      generalize hs2 : (S k).2.1 = r2 at *
      generalize hs3 : (S k).2.2 = r3 at *
      go_wp2_with fail
      go_loopw [17] (fun i wx => ∃ y : Nat, y ≤ r2 ∧ i = .int .i64 y ∧ wx = wr ∧ Hid (∀ j, j < y → 0 ≤ F k j ∧ F k j < n)) (fun i _ => r2 - (intOf i).toNat)
      case atStart => exact ⟨0, Nat.zero_le _, rfl, rfl, fun j hj => absurd hj (Nat.not_lt_zero _)⟩
      case round =>
        obtain ⟨y, hy, rfl, rfl, HY⟩ := hrel
        by_cases hylt : y < r2
        · obtain ⟨b', off', hr1, hc'⟩ := HW.out y hylt
          subst hr1
          obtain ⟨p, hp⟩ : ∃ p, pnt (F k y) n = p := ⟨_, rfl⟩
          rcases p with _ | _
          · have HN : Hid (false = true ↔ Rg n m S F) := ⟨fun h => (by cases h), fun h => by
              have := h k hlt y (by omega)
              simp [pnt] at hp; omega⟩
            go_wp2_with (go_at_call 47; refine (isPoint_as _ _ _ _ hp).mono ?_; rintro e w' ⟨rfl, hww⟩; subst hww)
            go_ret
            exact ⟨⟨_, rfl, HN.out⟩, rfl⟩
          · have HN : Hid (∀ j, j < y + 1 → 0 ≤ F k j ∧ F k j < n) := fun j hj => by
              by_cases e : j = y
              · subst e; simp [pnt] at hp; omega
              · exact HY.out j (by omega)
            go_wp2_with (go_at_call 47; refine (isPoint_as _ _ _ _ hp).mono ?_; rintro e w' ⟨rfl, hww⟩; subst hww)
            go_roundw
            case rel => exact ⟨y + 1, by omega, by go_num, by first | rfl | trivial, HN.out⟩
            case measure => simp [intOf]; omega
        · obtain rfl : y = r2 := by omega
          have HN : Hid (Rg n (k + 1) S F) := fun x hx j hj => by
            by_cases e : x = k
            · subst e; exact HY.out j (by omega)
            · exact HK.out x (by omega) j hj
          go_wp2_with fail
          go_roundw
          case rel => exact ⟨k + 1, by omega, by go_num, by first | rfl | trivial, HN.out⟩
          case measure => simp [intOf]; omega
    · obtain rfl : k = m := by omega
      go_wp2_with fail
      go_ret
      exact ⟨⟨true, rfl, fun _ => HK.out, fun _ => rfl⟩, rfl⟩

theorem tables_any (n : Int) (a b : Option Addr) (la ca lb cb : Nat) (w : World) :
    Calls Tryz.prog 78 #[.agg #[.int .i64 n, .slice a la ca, .slice b lb cb]] w fun e w' => e = .returned (.agg #[.slice a la ca, .slice b lb cb]) ∧ Below w.heap.size w w' := by
  have HB : Hid (Below w.heap.size w ((w.alloc (.cells #[.int .i64 n, .slice a la ca, .slice b lb cb] 27)).alloc (.cells #[.slice a la ca, .slice b lb cb] 106))) := ((Below.refl _ _).alloc (Nat.le_refl _) _).alloc (by simp) _
  go_enter Tryz.func78, Tryz.ntmps78
  go_wp2_with fail
  exact bodyPost_ret (v := .agg #[.slice a la ca, .slice b lb cb]) (by simp [results, Tryz.results78, go_sem]) rfl ⟨rfl, HB.out⟩
end Go.Proofs.YthhnngmfbbljaaaGreat
