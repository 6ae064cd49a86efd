/-
  Tables of numbers that lie in slices of slices, and what lattice.isLawful answers of two. Conditions: at most forty elements, all that stands there is one of them.
  Tables as they come in: slices of slices of numbers; what lattice.isSquare, isOfElements and tables answer. No condition but that slices read as slices of rows.
-/
import Derived.Test.YtappekjkcgmheaaAlways
namespace Go.Proofs.Ytappekjkcgmheaa
open Go.RowKit

/-- A table of n rows of n elements. -/
def Tb (w : World) (b off n : Nat) (R : Nat → Nat × Nat × Nat) (m : Nat → Nat → Nat) : Prop :=
  ∀ x, x < n → w.cell? ⟨b, off + x, none⟩ = some (.slice (some ⟨(R x).1, (R x).2.1, none⟩) n (R x).2.2) ∧ ∀ y, y < n → w.cell? ⟨(R x).1, (R x).2.1 + y, none⟩ = some (.int .i64 (m x y : Nat))
theorem Tb.step {w w' : World} {b off n : Nat} {R : Nat → Nat × Nat × Nat} {m : Nat → Nat → Nat} (h : Tb w b off n R m) (hb : Below w.heap.size w w') : Tb w' b off n R m := fun x hx =>
  ⟨(hb.cell (World.block_lt_of_cell? _ _ (h x hx).1)).trans (h x hx).1, fun y hy => (hb.cell (World.block_lt_of_cell? _ _ ((h x hx).2 y hy))).trans ((h x hx).2 y hy)⟩
theorem cell_step {w w' : World} {p : Addr} {v : Value} (hb : Below w.heap.size w w') (h : w.cell? p = some v) : w'.cell? p = some v := (hb.cell (World.block_lt_of_cell? _ _ h)).trans h
theorem int_beq (a b : Nat) : (((a : Nat) : Int) == ((b : Nat) : Int)) = (a == b) := by
  rw [Bool.eq_iff_iff, beq_iff_eq, beq_iff_eq]
  omega

theorem ent_lawful1 : Ent 62 := fun _ _ => rfl

set_option maxHeartbeats 4000000 in
theorem lawful1_any (n c d b off cap b' off' cap' : Nat) (R R' : Nat → Nat × Nat × Nat) (m j : Nat → Nat → Nat) (w : World) (_ : n ≤ 40) (hm : Inn n m) (hj : Inn n j)
    (hc : w.cell? ⟨c, 0, none⟩ = some (.slice (some ⟨b, off, none⟩) n cap)) (hd : w.cell? ⟨d, 0, none⟩ = some (.slice (some ⟨b', off', none⟩) n cap')) (ht : Tb w b off n R m) (ho : Tb w b' off' n R' j) :
    Clo n 62 #[.pointer (some ⟨c, 0, none⟩), .pointer (some ⟨d, 0, none⟩)] (lawB m j) w := fun x y z hx hy hz W hW => by
  show Calls Try.prog 62 #[.int .i64 (x : Nat), .int .i64 (y : Nat), .int .i64 (z : Nat), .pointer (some ⟨c, 0, none⟩), .pointer (some ⟨d, 0, none⟩)] W _
  have cT := cell_step hW hc
  have cO := cell_step hW hd
  have hxy := hm x y hx hy
  have hyz := hm y z hy hz
  have hjxy := hj x y hx hy
  have HT := ht.step hW
  have HO := ho.step hW
  have r1 := (HT x hx).1
  have r2 := (HT y hy).1
  have r3 := (HT _ hxy).1
  have r4 := (HO x hx).1
  have e1 := (HT x hx).2 x hx
  have e2 := (HT x hx).2 y hy
  have e3 := (HT y hy).2 x hx
  have e4 := (HT y hy).2 z hz
  have e5 := (HT x hx).2 _ hyz
  have e6 := (HT _ hxy).2 z hz
  have e7 := (HO x hx).2 y hy
  have e8 := (HT x hx).2 _ hjxy
  clear HT HO ht ho hc hd hm hj hW
  unfold lawB
  obtain ⟨v1, hv1⟩ : ∃ v, (m x x == x) = v := ⟨_, rfl⟩
  obtain ⟨v2, hv2⟩ : ∃ v, (m x y == m y x) = v := ⟨_, rfl⟩
  obtain ⟨v3, hv3⟩ : ∃ v, (m x (m y z) == m (m x y) z) = v := ⟨_, rfl⟩
  obtain ⟨v4, hv4⟩ : ∃ v, (m x (j x y) == x) = v := ⟨_, rfl⟩
  rw [hv1, hv2, hv3, hv4]
  rw [← int_beq] at hv1 hv2 hv3 hv4
  have ix : (x : Int) < (n : Int) := by omega
  have iy : (y : Int) < (n : Int) := by omega
  have iz : (z : Int) < (n : Int) := by omega
  have ixy : ((m x y : Nat) : Int) < (n : Int) := by omega
  have iyz : ((m y z : Nat) : Int) < (n : Int) := by omega
  have jxy : ((j x y : Nat) : Int) < (n : Int) := by omega
  have hKK : Hid (Below W.heap.size W W) := Below.refl _ _
  rcases v1 with _ | _
  · go_enter Try.func62, Try.ntmps62
    go_wp2
    simp only [List.append_eq, List.cons_append, List.nil_append]
    go_big_quiet (fail)
    go_wp2
    go_ret
    exact ⟨rfl, below_drewN hKK.out _⟩
  · rcases v2 with _ | _
    · go_enter Try.func62, Try.ntmps62
      go_wp2
      simp only [List.append_eq, List.cons_append, List.nil_append]
      go_big_quiet (fail)
      go_wp2
      go_ret
      exact ⟨rfl, below_drewN hKK.out _⟩
    · rcases v3 with _ | _
      · go_enter Try.func62, Try.ntmps62
        go_wp2
        simp only [List.append_eq, List.cons_append, List.nil_append]
        go_big_quiet (fail)
        go_wp2
        go_ret
        exact ⟨rfl, below_drewN hKK.out _⟩
      · rcases v4 with _ | _
        · go_enter Try.func62, Try.ntmps62
          go_wp2
          simp only [List.append_eq, List.cons_append, List.nil_append]
          go_big_quiet (fail)
          go_wp2
          go_ret
          exact ⟨rfl, below_drewN hKK.out _⟩
        · go_enter Try.func62, Try.ntmps62
          go_wp2
          simp only [List.append_eq, List.cons_append, List.nil_append]
          go_big_quiet (fail)
          go_wp2
          go_ret
          exact ⟨rfl, below_drewN hKK.out _⟩

set_option maxHeartbeats 1000000 in
theorem lawful_any (n b off cap b' off' cap' : Nat) (R R' : Nat → Nat × Nat × Nat) (m j : Nat → Nat → Nat) (w : World) (h40 : n ≤ 40) (hm : Inn n m) (hj : Inn n j) (ht : Tb w b off n R m) (ho : Tb w b' off' n R' j) :
    Calls Try.prog 52 #[.slice (some ⟨b, off, none⟩) n cap, .slice (some ⟨b', off', none⟩) n cap'] w fun e w' => (∃ v, e = .returned (.bool v) ∧ (v = true ↔ Lws n m j)) ∧ Below w.heap.size w w' := by
  have B1 : Below w.heap.size w (w.alloc (.cells #[.slice (some ⟨b, off, none⟩) n cap] 22)) := (Below.refl _ _).alloc (Nat.le_refl _) _
  have B2 : Below w.heap.size w ((w.alloc (.cells #[.slice (some ⟨b, off, none⟩) n cap] 22)).alloc (.cells #[.slice (some ⟨b', off', none⟩) n cap'] 22)) := B1.alloc (by simp) _
  have c1 : ((w.alloc (.cells #[.slice (some ⟨b, off, none⟩) n cap] 22)).alloc (.cells #[.slice (some ⟨b', off', none⟩) n cap'] 22)).cell? ⟨w.heap.size, 0, none⟩ = some (.slice (some ⟨b, off, none⟩) n cap) := by simp
  have c2 : ((w.alloc (.cells #[.slice (some ⟨b, off, none⟩) n cap] 22)).alloc (.cells #[.slice (some ⟨b', off', none⟩) n cap'] 22)).cell? ⟨w.heap.size + 1, 0, none⟩ = some (.slice (some ⟨b', off', none⟩) n cap') := by simp
  have HQ := (show Hid _ from lawful1_any n w.heap.size (w.heap.size + 1) b off cap b' off' cap' R R' m j _ h40 hm hj c1 c2 (ht.step B2) (ho.step B2))
  have HB2 : Hid (Below w.heap.size w _) := B2
  clear c1 c2 B1 B2 ht ho hm hj
  go_enter Try.func52, Try.ntmps52
  go_wp2_with fail
  refine (always_any n 62 _ _ _ h40 ent_lawful1 HQ.out).mono ?_
  rintro e w' ⟨⟨v, rfl, hv⟩, hbw⟩
  have HW2 : Hid (Below w.heap.size w w') := Below.then HB2.out hbw
  clear hbw HB2 HQ
  go_wp2_with fail
  go_ret
  exact ⟨⟨_, rfl, hv⟩, HW2.out⟩
end Go.Proofs.Ytappekjkcgmheaa
namespace Go.Proofs.Ytappekjkcgmheaa
open Go.RowKit

/-- A truth that says whether Q. -/
def BIs (e : Ending) (Q : Prop) : Prop := ∃ v, e = .returned (.bool v) ∧ (v = true ↔ Q)
/-- A slice of m rows. -/
def RR (w : World) (a : Option Addr) (m : Nat) (S : Nat → Option Addr × Nat × Nat) (F : Nat → Nat → Int) : Prop :=
  ∀ k, k < m → ∃ b off, a = some ⟨b, off, none⟩ ∧ w.cell? ⟨b, off + k, none⟩ = some (.slice (S k).1 (S k).2.1 (S k).2.2) ∧ (S k).2.1 ≤ maxLen ∧ Row w (S k).1 (S k).2.1 (F k)
theorem RR.below {w w' : World} {a : Option Addr} {m : Nat} {S : Nat → Option Addr × Nat × Nat} {F : Nat → Nat → Int} (h : RR w a m S F) (hb : Below w.heap.size w w') : RR w' a m S F := fun k hk => by
  obtain ⟨b, off, e, hc, hl, hr⟩ := h k hk
  exact ⟨b, off, e, (hb.cell (World.block_lt_of_cell? _ _ hc)).trans hc, hl, hr.below hb⟩
/-- n rows of n; all of them elements. -/
def Sq (n : Int) (la : Nat) (S : Nat → Option Addr × Nat × Nat) : Prop := (la : Int) = n ∧ ∀ k, k < la → ((S k).2.1 : Int) = n
def Rg (n : Int) (la : Nat) (S : Nat → Option Addr × Nat × Nat) (F : Nat → Nat → Int) : Prop := ∀ x, x < la → ∀ y, y < (S x).2.1 → 0 ≤ F x y ∧ F x y < n

set_option maxHeartbeats 1000000 in
theorem isSquare_any (n : Int) (a : Option Addr) (m cap : Nat) (S : Nat → Option Addr × Nat × Nat) (F : Nat → Nat → Int) (w : World) (hm : m ≤ maxLen) (hr : RR w a m S F) :
    Calls Try.prog 50 #[.slice a m cap, .int .i64 n] w fun e w' => BIs e (Sq n m S) ∧ w = w' := by
  have HR : Hid (RR w a m S F) := hr
  clear hr
  unfold maxLen at hm
  by_cases hn : (m : Int) = n
  · subst hn
    go_enter Try.func50, Try.ntmps50
    go_wp2_with fail
    go_loopw [13] (fun i wx => ∃ k : Nat, k ≤ m ∧ i = .int .i64 k ∧ wx = w ∧ Hid (∀ j, j < k → ((S j).2.1 : Int) = (m : Int))) (fun i _ => m - (intOf i).toNat)
    case atStart => exact ⟨0, Nat.zero_le _, rfl, rfl, fun j hj => absurd hj (Nat.not_lt_zero _)⟩
    case round =>
      obtain ⟨k, hk, rfl, rfl, HK⟩ := hrel
      by_cases hlt : k < m
      · obtain ⟨b, off, rfl, hc, hl, _⟩ := HR.out k hlt
        unfold maxLen at hl
        by_cases he : ((S k).2.1 : Int) = (m : Int)
        · have he' : (((S k).2.1 : Int) != (m : Int)) = false := by simpa using he
          have HN : Hid (∀ j, j < k + 1 → ((S j).2.1 : Int) = (m : Int)) := fun j hj => by
            by_cases e : j = k
            · subst e; exact he
            · exact HK.out j (by omega)
          go_wp2_with fail
          go_roundw
          case rel => exact ⟨k + 1, by omega, by go_num, by first | rfl | trivial, HN.out⟩
          case measure => simp [intOf]; omega
        · have he' : (((S k).2.1 : Int) != (m : Int)) = true := by simpa using he
          have HN : Hid (false = true ↔ Sq (m : Int) m S) := ⟨fun h => (by cases h), fun h => absurd (h.2 k hlt) he⟩
          go_wp2_with fail
          go_ret
          exact ⟨⟨_, rfl, HN.out⟩, rfl⟩
      · obtain rfl : k = m := by omega
        have HN : Hid (Sq (k : Int) k S) := ⟨rfl, HK.out⟩
        go_wp2_with fail
        go_ret
        exact ⟨⟨true, rfl, fun _ => HN.out, fun _ => rfl⟩, rfl⟩
  · have hn' : ((m : Int) != n) = true := by simpa using hn
    have HN : Hid (false = true ↔ Sq n m S) := ⟨fun h => (by cases h), fun h => absurd h.1 hn⟩
    go_enter Try.func50, Try.ntmps50
    go_wp2_with fail
    go_ret
    exact ⟨⟨_, rfl, HN.out⟩, rfl⟩

theorem isPoint_as (p n : Int) (w : World) (v : Bool) (h : pnt p n = v) :
    Calls Try.prog 32 #[.int .i64 p, .int .i64 n] w fun e w' => e = .returned (.bool v) ∧ w = w' :=
  (isPoint_any p n w).mono fun _ _ ⟨h1, h2⟩ => ⟨by rw [← h]; exact h1, h2⟩

set_option maxHeartbeats 1000000 in
theorem isOfElements_any (n : Int) (a : Option Addr) (m cap : Nat) (S : Nat → Option Addr × Nat × Nat) (F : Nat → Nat → Int) (w : World) (hm : m ≤ maxLen) (hr : RR w a m S F) :
    Calls Try.prog 51 #[.slice a m cap, .int .i64 n] w fun e w' => BIs e (Rg n m S F) ∧ w = w' := by
  have HR : Hid (RR w a m S F) := hr
  clear hr
  unfold maxLen at hm
  go_enter Try.func51, Try.ntmps51
  go_wp2_with fail
  go_loopw [11] (fun i wx => ∃ k : Nat, k ≤ m ∧ i = .int .i64 k ∧ wx = w ∧ Hid (Rg n k S F)) (fun i _ => m - (intOf i).toNat)
  case atStart => exact ⟨0, Nat.zero_le _, rfl, rfl, fun j hj => absurd hj (Nat.not_lt_zero _)⟩
  case round =>
    obtain ⟨k, hk, rfl, rfl, HK⟩ := hrel
    by_cases hlt : k < m
    · obtain ⟨b, off, rfl, hc, hl, hrow⟩ := HR.out k hlt
      unfold maxLen at hl
      have HW : Hid (Row wr (S k).1 (S k).2.1 (F k)) := hrow
      clear hrow
      generalize hs1 : (S k).1 = r1 at *
      generalize hs2 : (S k).2.1 = r2 at *
      generalize hs3 : (S k).2.2 = r3 at *
      go_wp2_with fail
      go_loopw [17] (fun i wx => ∃ y : Nat, y ≤ r2 ∧ i = .int .i64 y ∧ wx = wr ∧ Hid (∀ j, j < y → 0 ≤ F k j ∧ F k j < n)) (fun i _ => r2 - (intOf i).toNat)
      case atStart => exact ⟨0, Nat.zero_le _, rfl, rfl, fun j hj => absurd hj (Nat.not_lt_zero _)⟩
      case round =>
        obtain ⟨y, hy, rfl, rfl, HY⟩ := hrel
        by_cases hylt : y < r2
        · obtain ⟨b', off', hr1, hc'⟩ := HW.out y hylt
          subst hr1
          obtain ⟨p, hp⟩ : ∃ p, pnt (F k y) n = p := ⟨_, rfl⟩
          rcases p with _ | _
          · have HN : Hid (false = true ↔ Rg n m S F) := ⟨fun h => (by cases h), fun h => by
              have := h k hlt y (by omega)
              simp [pnt] at hp; omega⟩
            go_wp2_with (go_at_call 32; refine (isPoint_as _ _ _ _ hp).mono ?_; rintro e w' ⟨rfl, hww⟩; subst hww)
            go_ret
            exact ⟨⟨_, rfl, HN.out⟩, rfl⟩
          · have HN : Hid (∀ j, j < y + 1 → 0 ≤ F k j ∧ F k j < n) := fun j hj => by
              by_cases e : j = y
              · subst e; simp [pnt] at hp; omega
              · exact HY.out j (by omega)
            go_wp2_with (go_at_call 32; refine (isPoint_as _ _ _ _ hp).mono ?_; rintro e w' ⟨rfl, hww⟩; subst hww)
            go_roundw
            case rel => exact ⟨y + 1, by omega, by go_num, by first | rfl | trivial, HN.out⟩
            case measure => simp [intOf]; omega
        · obtain rfl : y = r2 := by omega
          have HN : Hid (Rg n (k + 1) S F) := fun x hx j hj => by
            by_cases e : x = k
            · subst e; exact HY.out j (by omega)
            · exact HK.out x (by omega) j hj
          go_wp2_with fail
          go_roundw
          case rel => exact ⟨k + 1, by omega, by go_num, by first | rfl | trivial, HN.out⟩
          case measure => simp [intOf]; omega
    · obtain rfl : k = m := by omega
      go_wp2_with fail
      go_ret
      exact ⟨⟨true, rfl, fun _ => HK.out, fun _ => rfl⟩, rfl⟩

theorem tables_any (n : Int) (a b : Option Addr) (la ca lb cb : Nat) (w : World) :
    Calls Try.prog 49 #[.agg #[.int .i64 n, .slice a la ca, .slice b lb cb]] w fun e w' => e = .returned (.agg #[.slice a la ca, .slice b lb cb]) ∧ Below w.heap.size w w' := by
  have HB : Hid (Below w.heap.size w ((w.alloc (.cells #[.int .i64 n, .slice a la ca, .slice b lb cb] 24)).alloc (.cells #[.slice a la ca, .slice b lb cb] 77))) := ((Below.refl _ _).alloc (Nat.le_refl _) _).alloc (by simp) _
  go_enter Try.func49, Try.ntmps49
  go_wp2_with fail
  exact bodyPost_ret (v := .agg #[.slice a la ca, .slice b lb cb]) (by simp [results, Try.results49, go_sem]) rfl ⟨rfl, HB.out⟩
end Go.Proofs.Ytappekjkcgmheaa
