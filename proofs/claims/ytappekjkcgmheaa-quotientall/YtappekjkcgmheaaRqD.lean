/-
  What the reference's IsCongruence answers: whether classes are a congruence. Conditions: tables of at most forty elements, and as many classes.
-/
import Derived.Test.YtappekjkcgmheaaCgrQ
namespace Go.Proofs.Ytappekjkcgmheaa
open Go.RowKit
set_option maxRecDepth 100000

/-- No two of one class are torn apart by x, y and z. -/
def Whole (c : Nat → Nat) (m j : Nat → Nat → Nat) (x y z : Nat) : Prop := c x = c y → c (m x z) = c (m y z) ∧ c (j x z) = c (j y z)

set_option maxHeartbeats 8000000 in
theorem isCongruence_any (n b off ca b' off' cb p o cm : Nat) (R R' : Nat → Nat × Nat × Nat) (m j : Nat → Nat → Nat) (c : Nat → Nat) (w : World) (h40 : n ≤ 40) (hm : Inn n m) (hj : Inn n j)
    (ht : Tb w b off n R m) (ho : Tb w b' off' n R' j) (hr : ∀ i, i < n → w.cell? ⟨p, o + i, none⟩ = some (.int .i64 (c i : Nat))) :
    Calls Try.prog 14 #[.agg #[.int .i64 n, .slice (some ⟨b, off, none⟩) n ca, .slice (some ⟨b', off', none⟩) n cb], .slice (some ⟨p, o, none⟩) n cm] w fun e w' => BIs e (Con n m j c) ∧ Below w.heap.size w w' := by
  have hb0 : Below w.heap.size w (w.alloc (.cells #[.int .i64 n, .slice (some ⟨b, off, none⟩) n ca, .slice (some ⟨b', off', none⟩) n cb] 24)) := (Below.refl _ _).alloc (Nat.le_refl _) _
  have HL0 : Hid (LB (w.alloc (.cells #[.int .i64 n, .slice (some ⟨b, off, none⟩) n ca, .slice (some ⟨b', off', none⟩) n cb] 24)) w.heap.size n (some ⟨b, off, none⟩) n ca (some ⟨b', off', none⟩) n cb) := LB.new _ _ _ _ _ _ _ _
  have HB0 : Hid (Below w.heap.size w (w.alloc (.cells #[.int .i64 n, .slice (some ⟨b, off, none⟩) n ca, .slice (some ⟨b', off', none⟩) n cb] 24))) := hb0
  have HT1 := ht.step hb0
  have HT2 := ho.step hb0
  have HT1 : Hid (Tb (w.alloc (.cells #[.int .i64 n, .slice (some ⟨b, off, none⟩) n ca, .slice (some ⟨b', off', none⟩) n cb] 24)) b off n R m) := HT1
  have HT2 : Hid (Tb (w.alloc (.cells #[.int .i64 n, .slice (some ⟨b, off, none⟩) n ca, .slice (some ⟨b', off', none⟩) n cb] 24)) b' off' n R' j) := HT2
  have HR : Hid (∀ i, i < n → (w.alloc (.cells #[.int .i64 n, .slice (some ⟨b, off, none⟩) n ca, .slice (some ⟨b', off', none⟩) n cb] 24)).cell? ⟨p, o + i, none⟩ = some (.int .i64 (c i : Nat))) := fun i hi => cell_step hb0 (hr i hi)
  have HI1 : Hid (Inn n m) := hm
  have HI2 : Hid (Inn n j) := hj
  clear ht ho hr hm hj hb0
  go_enter Try.func14, Try.ntmps14
  go_wp2_with fail
  generalize w.alloc (.cells #[.int .i64 n, .slice (some ⟨b, off, none⟩) n ca, .slice (some ⟨b', off', none⟩) n cb] 24) = W at *
  have HW0 : Hid (Below W.heap.size W W) := Below.refl _ _
  go_loopw [5] (fun i wx => ∃ x : Nat, x ≤ n ∧ i = .int .i64 x ∧ Hid (Below W.heap.size W wx) ∧ Hid (∀ s, s < x → ∀ y, y < n → ∀ z, z < n → Whole c m j s y z)) (fun i _ => n - (intOf i).toNat)
  case atStart => exact ⟨0, Nat.zero_le _, rfl, HW0.out, fun s hs => absurd hs (Nat.not_lt_zero _)⟩
  case round =>
    clear HW0
    obtain ⟨x, hx, rfl, HW, HX⟩ := hrel
    have l0 := (HL0.out.step HW.out).1
    by_cases hxl : x < n
    · go_wp2_with fail
      clear l0
      go_loopw [6] (fun i wx => ∃ y : Nat, y ≤ n ∧ i = .int .i64 y ∧ Hid (Below W.heap.size W wx) ∧ Hid (∀ s, s < y → ∀ z, z < n → Whole c m j x s z)) (fun i _ => n - (intOf i).toNat)
      case atStart => exact ⟨0, Nat.zero_le _, rfl, HW.out, fun s hs => absurd hs (Nat.not_lt_zero _)⟩
      case round =>
        clear HW
        obtain ⟨y, hy, rfl, HW, HY⟩ := hrel
        have l0 := (HL0.out.step HW.out).1
        by_cases hyl : y < n
        · go_wp2_with fail
          clear l0
          go_loopw [7] (fun i wx => ∃ z : Nat, z ≤ n ∧ i = .int .i64 z ∧ Hid (Below W.heap.size W wx) ∧ Hid (∀ s, s < z → Whole c m j x y s)) (fun i _ => n - (intOf i).toNat)
          case atStart => exact ⟨0, Nat.zero_le _, rfl, HW.out, fun s hs => absurd hs (Nat.not_lt_zero _)⟩
          case round =>
            clear HW
            obtain ⟨z, hz, rfl, HW, HZ⟩ := hrel
            have L1 := HL0.out.step HW.out
            have l0 := L1.1
            by_cases hzl : z < n
            · have l1 := L1.2.1
              have l2 := L1.2.2
              have T1 := HT1.out.step HW.out
              have T2 := HT2.out.step HW.out
              have hmx := HI1.out x z hxl hzl
              have hmy := HI1.out y z hyl hzl
              have hjx := HI2.out x z hxl hzl
              have hjy := HI2.out y z hyl hzl
              have r1 := (T1 x hxl).1
              have r2 := (T1 y hyl).1
              have r3 := (T2 x hxl).1
              have r4 := (T2 y hyl).1
              have e1 := (T1 x hxl).2 z hzl
              have e2 := (T1 y hyl).2 z hzl
              have e3 := (T2 x hxl).2 z hzl
              have e4 := (T2 y hyl).2 z hzl
              have f1 := cell_step HW.out (HR.out x hxl)
              have f2 := cell_step HW.out (HR.out y hyl)
              have f3 := cell_step HW.out (HR.out _ hmx)
              have f4 := cell_step HW.out (HR.out _ hmy)
              have f5 := cell_step HW.out (HR.out _ hjx)
              have f6 := cell_step HW.out (HR.out _ hjy)
              have ix : (x : Int) < (n : Int) := by omega
              have iy : (y : Int) < (n : Int) := by omega
              have iz : (z : Int) < (n : Int) := by omega
              have i1 : ((m x z : Nat) : Int) < (n : Int) := by omega
              have i2 : ((m y z : Nat) : Int) < (n : Int) := by omega
              have i3 : ((j x z : Nat) : Int) < (n : Int) := by omega
              have i4 : ((j y z : Nat) : Int) < (n : Int) := by omega
              clear T1 T2 L1
              have HOK : Hid (Whole c m j x y z → ∀ s, s < z + 1 → Whole c m j x y s) := fun h s hs => by
                by_cases e : s = z
                · subst e; exact h
                · exact HZ.out s (by omega)
              have HBD : Hid (¬ Whole c m j x y z → ¬ Con n m j c) := fun h hc => h (hc x y z hxl hyl hzl)
              clear HZ
              obtain ⟨v1, hv1⟩ : ∃ v, (c x == c y) = v := ⟨_, rfl⟩
              obtain ⟨v2, hv2⟩ : ∃ v, (c (m x z) == c (m y z)) = v := ⟨_, rfl⟩
              obtain ⟨v3, hv3⟩ : ∃ v, (c (j x z) == c (j y z)) = v := ⟨_, rfl⟩
              have g2 := int_bne hv2
              have g3 := int_bne hv3
              rcases v1 with _ | _
              · have HN : Hid (∀ s, s < z + 1 → Whole c m j x y s) := HOK.out (fun e => absurd e (by simpa using hv1))
                rw [← int_beq] at hv1 hv2 hv3
                clear HOK HBD
                as_aux_lemma =>
                  go_wp2_with fail
                  try simp only [List.append_eq, List.cons_append, List.nil_append]
                  go_big_quiet (fail)
                  go_wp2_with fail
                  go_roundw
                  case rel => exact ⟨z + 1, by omega, by go_num, below_drewN HW.out _, HN.out⟩
                  case measure => simp [intOf]; omega
              · rcases v2 with _ | _
                · have HN : Hid (¬ Con n m j c) := HBD.out (fun h => by
                    have := (h (by simpa using hv1)).1
                    simp at hv2
                    exact hv2 this)
                  rw [← int_beq] at hv1 hv2 hv3
                  clear HOK HBD
                  as_aux_lemma =>
                    go_wp2_with fail
                    try simp only [List.append_eq, List.cons_append, List.nil_append]
                    go_big_quiet (fail)
                    go_wp2_with fail
                    go_ret
                    exact ⟨⟨_, rfl, ⟨(fun h => by cases h), fun h => absurd h HN.out⟩⟩, Below.then HB0.out (below_drewN HW.out _)⟩
                · rcases v3 with _ | _
                  · have HN : Hid (¬ Con n m j c) := HBD.out (fun h => by
                      have := (h (by simpa using hv1)).2
                      simp at hv3
                      exact hv3 this)
                    rw [← int_beq] at hv1 hv2 hv3
                    clear HOK HBD
                    as_aux_lemma =>
                      go_wp2_with fail
                      try simp only [List.append_eq, List.cons_append, List.nil_append]
                      go_big_quiet (fail)
                      go_wp2_with fail
                      go_ret
                      exact ⟨⟨_, rfl, ⟨(fun h => by cases h), fun h => absurd h HN.out⟩⟩, Below.then HB0.out (below_drewN HW.out _)⟩
                  · have HN : Hid (∀ s, s < z + 1 → Whole c m j x y s) := HOK.out (fun _ => ⟨by simpa using hv2, by simpa using hv3⟩)
                    rw [← int_beq] at hv1 hv2 hv3
                    clear HOK HBD
                    as_aux_lemma =>
                      go_wp2_with fail
                      try simp only [List.append_eq, List.cons_append, List.nil_append]
                      go_big_quiet (fail)
                      go_wp2_with fail
                      go_roundw
                      case rel => exact ⟨z + 1, by omega, by go_num, below_drewN HW.out _, HN.out⟩
                      case measure => simp [intOf]; omega
            · obtain rfl : z = n := by omega
              have HN : Hid (∀ s, s < y + 1 → ∀ t, t < z → Whole c m j x s t) := fun s hs => by
                by_cases e : s = y
                · subst e; exact HZ.out
                · exact HY.out s (by omega)
              clear HY HZ
              go_wp2_with fail
              go_roundw
              case rel => exact ⟨y + 1, by omega, by go_num, HW.out, HN.out⟩
              case measure => simp [intOf]; omega
        · obtain rfl : y = n := by omega
          have HN : Hid (∀ s, s < x + 1 → ∀ u, u < y → ∀ t, t < y → Whole c m j s u t) := fun s hs => by
            by_cases e : s = x
            · subst e; exact HY.out
            · exact HX.out s (by omega)
          clear HX HY
          go_wp2_with fail
          go_roundw
          case rel => exact ⟨x + 1, by omega, by go_num, HW.out, HN.out⟩
          case measure => simp [intOf]; omega
    · obtain rfl : x = n := by omega
      have HN : Hid (Con x m j c) := fun a b z ha hb hz => HX.out a ha b hb z hz
      clear HX
      go_wp2_with fail
      go_ret
      exact ⟨⟨_, rfl, ⟨fun _ => HN.out, fun _ => rfl⟩⟩, Below.then HB0.out HW.out⟩
end Go.Proofs.Ytappekjkcgmheaa
