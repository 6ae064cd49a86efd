/-
  What imply.byRules' closure, byRules, base and Close answer. Conditions: as each theorem says.
-/
import Derived.Test.YtgjdpgjaaaeglaaDoorImpR
import Derived.WalkMore
namespace Go.Proofs.YtgjdpgjaaaeglaaDoor
open Go.RowKit

/-- A call of F enters F. -/
def EntF (F : Nat) : Prop := ∀ (args : Array Value) (w : World), Sem.run Tryd.prog (callFunc F args) w = .ok (.enter F args) w
/-- A closure that answers J of a set of n marks, wherever what lay at first still lies. -/
def CloN (n F : Nat) (caps : Array Value) (J : Nat → Nat) (w : World) : Prop :=
  ∀ s : Nat, s < pw n → ∀ W : World, Below w.heap.size w W → Calls Tryd.prog F (#[.int .i64 (s : Nat)] ++ caps) W fun e w' => e = .returned (.int .i64 (J s : Nat)) ∧ Below W.heap.size W w'
theorem CloN.step {n F : Nat} {caps : Array Value} {J : Nat → Nat} {w W : World} (h : CloN n F caps J w) (hb : Below w.heap.size w W) : CloN n F caps J W :=
  fun s hs W' hW => h s hs W' (Below.then hb hW)
theorem ent_br : EntF 41 := fun _ _ => rfl

/-- How far it still is. -/
def mz (a b : Int) : Nat := 2 * (1024 - a.toNat) + if a = b then 0 else 1
theorem mz_step {x z : Nat} {y : Int} (h : ¬ (x : Int) = y) (h1 : x ≤ z) (h2 : z < 1024) : mz (z : Int) (x : Int) < mz (x : Int) y := by
  unfold mz
  rw [if_neg h]
  by_cases e : (z : Int) = (x : Int)
  · rw [if_pos e]; omega
  · rw [if_neg e]; omega

set_option maxHeartbeats 2000000 in
theorem br_any (n B : Nat) (R : List (Nat × Nat)) (a : Option Addr) (cap : Nat) (w : World) (h10 : n ≤ 10) (hR : RIn n R) (h60 : R.length ≤ 60) (hc : w.cell? ⟨B, 0, none⟩ = some (.slice a R.length cap)) (hr : PRow w a R.length (pairAt R)) :
    CloN n 41 #[.pointer (some ⟨B, 0, none⟩)] (clo R n) w := fun s hs W hW => by
  show Calls Tryd.prog 41 #[.int .i64 (s : Nat), .pointer (some ⟨B, 0, none⟩)] W _
  have hcW : W.cell? ⟨B, 0, none⟩ = some (.slice a R.length cap) := (hW.cell (World.block_lt_of_cell? _ _ hc)).trans hc
  have HCC : Hid (∀ w', Below W.heap.size W w' → w'.cell? ⟨B, 0, none⟩ = some (.slice a R.length cap)) := fun w' h => (h.cell (World.block_lt_of_cell? _ _ hcW)).trans hcW
  have HR : Hid (∀ w', Below W.heap.size W w' → PRow w' a R.length (pairAt R)) := fun w' h => (hr.below hW).below h
  have HRI : Hid (∀ k, k < R.length → (R.getD k (0, 0)).1 < 1024 ∧ (R.getD k (0, 0)).2 < 1024) := fun k hk => by
    have := hR _ (getD_mem (0, 0) hk)
    exact ⟨set_1024 h10 this.1, set_1024 h10 this.2⟩
  obtain ⟨q, HQ⟩ : ∃ q, Hid (q = R.length) := ⟨_, rfl⟩
  have hcl := clo_is h10 hR hs
  have HS0 : Hid (Sb s (clo R n s)) := hcl.2.1
  have HRD : Hid (RIn n R) := hR
  rw [← HQ.out] at HR HCC HRI h60
  have hpn := pw_le n h10
  clear hcW hc hr hW hcl hR
  go_enter Tryd.func41, Tryd.ntmps41
  go_wp2_with fail
  go_loopw [0, 4] (fun t b wx => ∃ (x : Nat) (y : Int), t = .int .i64 (x : Nat) ∧ b = .int .i64 y ∧ x < pw n ∧ Hid (Sb s x) ∧ Hid (Sb x (clo R n s)) ∧ Hid (y = x → x = clo R n s) ∧ Hid (Below W.heap.size W wx)) (fun t b _ => mz (intOf t) (intOf b))
  case atStart => exact ⟨s, -1, rfl, rfl, hs, Sb.refl s, HS0.out, fun h => by omega, Below.refl _ _⟩
  case round =>
    obtain ⟨x, y, rfl, rfl, hx, h1, h2, h3, hB⟩ := hrel
    by_cases hxy : (x : Int) = y
    · have HE : Hid (x = clo R n s) := h3.out hxy.symm
      have hne : ((x : Int) != y) = false := by simpa using hxy
      go_wp2_with fail
      go_ret
      exact ⟨by rw [← HE.out]; rfl, hB.out⟩
    · have hne : ((x : Int) != y) = true := by simpa using hxy
      have c0 := HCC.out _ hB.out
      have HR0 : Hid (Rnd R n s x x 0) := Rnd.start hx h1.out h2.out
      go_wp2_with fail
      clear c0
      go_loopw [0, 13] (fun t i wy => ∃ (z k : Nat), k ≤ q ∧ t = .int .i64 (z : Nat) ∧ i = .int .i64 (k : Nat) ∧ Hid (Rnd R n s x z k) ∧ Hid (Below W.heap.size W wy)) (fun _ i _ => q - (intOf i).toNat)
      case atStart => exact ⟨x, 0, Nat.zero_le _, rfl, rfl, HR0, hB⟩
      case round =>
        clear HR0 hB
        obtain ⟨z, k, hk, rfl, rfl, hN, hB⟩ := hrel
        have hz : z < pw n := hN.out.2.1
        by_cases hlt : k < q
        · obtain ⟨b, off, rfl, c1, c2⟩ := HR.out _ hB.out k hlt
          have hlt' : (k : Int) < (q : Int) := by omega
          obtain ⟨r, HRR⟩ : ∃ r, Hid (r = R.getD k (0, 0)) := ⟨_, rfl⟩
          obtain ⟨g1, g2⟩ := HRI.out k hlt
          rw [← HRR.out] at g1 g2
          have d1 : wr.cell? ⟨b, off + k * 2, none⟩ = some (.int .i64 (r.1 : Nat)) := by rw [c1, HRR.out]; rfl
          have d2 : wr.cell? ⟨b, off + k * 2 + 1, none⟩ = some (.int .i64 (r.2 : Nat)) := by rw [c2, HRR.out]; rfl
          have HBA : Hid (∀ o, Below W.heap.size W (wr.alloc o)) := fun o => hB.out.alloc hB.out.size o
          have hbo := obe_iff (s := z) (r := r) (by omega) g1 g2
          clear c1 c2
          rcases (Bool.eq_false_or_eq_true (obe z r)).symm with ho | ho
          · have HA := (show Hid _ from hN.out.add h10 HRD.out hs (by rw [← HQ.out]; exact hlt) (by rw [← HRR.out, ← hbo, ho]; decide))
            rw [← HRR.out] at HA
            have HV : Hid (bits .or .i64 ((z : Nat) : Int) ((r.2 : Nat) : Int) = ((z ||| r.2 : Nat) : Int)) := i64_or _ _ (by omega) (by omega)
            clear hbo
            go_wp2_with fail
            refine (obeys_any z r.1 r.2 _ (by omega) g1 g2).mono ?_
            rintro e w2 ⟨rfl, hb2⟩
            rw [show obe z (r.1, r.2) = false from ho]
            have HB2 : Hid (Below W.heap.size W w2) := Below.then (HBA.out _) hb2
            have d3 : w2.cell? ⟨wr.heap.size, 1, none⟩ = some (.int .i64 (r.2 : Nat)) := (hb2.cell (by simp)).trans (by simp)
            clear hb2 d1 d2 HBA
            go_wp2_with fail
            go_roundw
            case rel => exact ⟨z ||| r.2, k + 1, by omega, by rw [← HV.out], by go_num, HA.out.1, HB2⟩
            case measure => simp [intOf]; omega
          · have HA : Hid (Rnd R n s x z (k + 1)) := hN.out.keep (by rw [← HRR.out]; exact hbo.1 ho)
            clear hbo
            go_wp2_with fail
            refine (obeys_any z r.1 r.2 _ (by omega) g1 g2).mono ?_
            rintro e w2 ⟨rfl, hb2⟩
            rw [show obe z (r.1, r.2) = true from ho]
            have HB2 : Hid (Below W.heap.size W w2) := Below.then (HBA.out _) hb2
            clear hb2 d1 d2 HBA
            go_wp2_with fail
            go_roundw
            case rel => exact ⟨z, k + 1, by omega, rfl, by go_num, HA, HB2⟩
            case measure => simp [intOf]; omega
        · obtain rfl : k = q := by omega
          obtain ⟨_, m2, m3, m4, m5, _⟩ := hN.out
          have hle := sb_le m4
          have HSS : Hid (Sb s z) := m3.trans m4
          have HZC : Hid (Sb z (clo R n s)) := m5
          have HD : Hid ((x : Int) = (z : Int) → z = clo R n s) := fun e => by
            obtain rfl : x = z := by omega
            exact Rnd.done h10 HRD.out hs (by rw [← HQ.out]; exact hN.out)
          clear m3 m4 m5 hN
          go_wp2_with fail
          go_roundw
          case rel => exact ⟨z, x, rfl, rfl, m2, HSS, HZC, HD, hB⟩
          case measure =>
            simp only [intOf]
            exact mz_step hxy (by omega) (by omega)

theorem byRules_any (n : Nat) (R : List (Nat × Nat)) (a : Option Addr) (cap : Nat) (w : World) (h10 : n ≤ 10) (hR : RIn n R) (h60 : R.length ≤ 60) (hr : PRow w a R.length (pairAt R)) :
    Calls Tryd.prog 28 #[.slice a R.length cap] w fun e w' => e = .returned (.func (.func 41) #[] #[.pointer (some ⟨w.heap.size, 0, none⟩)]) ∧ CloN n 41 #[.pointer (some ⟨w.heap.size, 0, none⟩)] (clo R n) w' ∧ Below w.heap.size w w' := by
  have HB0 : Hid (Below w.heap.size w (w.alloc (.cells #[.slice a R.length cap] 22))) := (Below.refl _ _).alloc (Nat.le_refl _) _
  have HC : Hid (CloN n 41 #[.pointer (some ⟨w.heap.size, 0, none⟩)] (clo R n) (w.alloc (.cells #[.slice a R.length cap] 22))) := br_any n _ R a cap _ h10 hR h60 (by simp) (hr.below HB0.out)
  clear hr hR
  go_enter Tryd.func28, Tryd.ntmps28
  go_wp2
  go_ret
  exact ⟨rfl, HC.out, HB0.out⟩

/-- What base finds among the first k sets. -/
def bas (C : Nat → Nat) : Nat → List (Nat × Nat)
  | 0 => []
  | k + 1 => if C k ≠ k ∧ (bas C k).all (obe k) = true then bas C k ++ [(k, C k)] else bas C k
theorem bas_yes {C : Nat → Nat} {k : Nat} (h : C k ≠ k) (h' : (bas C k).all (obe k) = true) : bas C (k + 1) = bas C k ++ [(k, C k)] := by rw [bas, if_pos ⟨h, h'⟩]
theorem bas_no {C : Nat → Nat} {k : Nat} (h : C k = k ∨ (bas C k).all (obe k) = false) : bas C (k + 1) = bas C k := by
  rw [bas, if_neg]
  rintro ⟨h1, h2⟩
  rcases h with h | h
  · exact h1 h
  · rw [h2] at h; cases h
theorem bas_len (C : Nat → Nat) : ∀ k, (bas C k).length ≤ (bas C (k + 1)).length := fun k => by
  by_cases h : C k ≠ k ∧ (bas C k).all (obe k) = true
  · rw [bas_yes h.1 h.2, List.length_append]; omega
  · rw [bas, if_neg h]; exact Nat.le_refl _
theorem bas_mono (C : Nat → Nat) {k m : Nat} (h : k ≤ m) : (bas C k).length ≤ (bas C m).length := by
  induction m with
  | zero => obtain rfl : k = 0 := by omega
            exact Nat.le_refl _
  | succ m ih =>
    by_cases e : k = m + 1
    · rw [e]; exact Nat.le_refl _
    · exact Nat.le_trans (ih (by omega)) (bas_len C m)
theorem bas_mem {C : Nat → Nat} : ∀ {k : Nat} {r : Nat × Nat}, r ∈ bas C k → r.1 < k ∧ r.2 = C r.1
  | 0, r, h => by cases h
  | k + 1, r, h => by
    by_cases e : C k ≠ k ∧ (bas C k).all (obe k) = true
    · rw [bas_yes e.1 e.2, List.mem_append, List.mem_singleton] at h
      rcases h with h | rfl
      · have := bas_mem h; exact ⟨by omega, this.2⟩
      · exact ⟨by show k < k + 1; omega, rfl⟩
    · rw [bas, if_neg e] at h
      have := bas_mem h; exact ⟨by omega, this.2⟩
theorem all_getD {l : List (Nat × Nat)} {P : Nat × Nat → Bool} (h : ∀ k, k < l.length → P (l.getD k (0, 0)) = true) : l.all P = true := by
  rw [List.all_eq_true]
  intro r hr
  obtain ⟨k, hk, e⟩ := List.getElem_of_mem hr
  have := h k hk
  rw [List.getD_eq_getElem?_getD, List.getElem?_eq_getElem hk, Option.getD_some, e] at this
  exact this
theorem not_all_getD {l : List (Nat × Nat)} {P : Nat × Nat → Bool} {k : Nat} (hk : k < l.length) (h : P (l.getD k (0, 0)) = false) : l.all P = false := by
  cases e : l.all P
  · rfl
  · have := List.all_eq_true.1 e _ (getD_mem (0, 0) hk)
    rw [h] at this; cases this
theorem below_append2 {w wx w1 : World} {o2 : Obj} {e : TypeId} {size n : Nat} {v : Value} {xs : List Value} (h : Below w.heap.size w wx) (hown : wx.ownsRow w.heap.size e size v n xs) (hg : (wx.alloc o2).grownBy w1 v.ownBlock) : Below w.heap.size w w1 :=
  (h.alloc h.size o2).grown hg (by have := h.size; simp; omega) (owns_block hown)
/-- A value that is a slice of the pairs l, with room for them. -/
def PSc (w : World) (v : Value) (l : List (Nat × Nat)) : Prop := ∃ a cap, v = .slice a l.length cap ∧ l.length ≤ cap ∧ PRow w a l.length (pairAt l)
theorem PSc.psl {w : World} {v : Value} {l : List (Nat × Nat)} (h : PSc w v l) : PSl w v l := by
  obtain ⟨a, cap, h1, _, h3⟩ := h
  exact ⟨a, cap, h1, h3⟩
theorem PSc.below {w w' : World} {v : Value} {l : List (Nat × Nat)} (h : PSc w v l) (hb : Below w.heap.size w w') : PSc w' v l := by
  obtain ⟨a, cap, h1, h2, h3⟩ := h
  exact ⟨a, cap, h1, h2, h3.below hb⟩
theorem owns_pairs2 {w : World} {base : Nat} {v : Value} {l : List (Nat × Nat)} (h : w.ownsRow base 47 2 v l.length (pairVals l)) : PSc w v l := by
  obtain ⟨a, cap, e, hr⟩ := owns_pairs h
  refine ⟨a, cap, e, ?_, hr⟩
  rcases h.2 with ⟨h1, h2⟩ | ⟨g, cap', cur, h1, _, _, h2, _⟩
  · rw [h2]; exact Nat.zero_le _
  · rw [e] at h1; simp at h1; rw [h1.2]; exact h2

/-- What base must answer. -/
def BasIs (L : List (Nat × Nat)) (e : Ending) (w' : World) : Prop :=
  (60 < L.length ∧ e = .returned (.tuple #[.slice none 0 0, .int .i64 2])) ∨ (L.length ≤ 60 ∧ ∃ v, e = .returned (.tuple #[v, .int .i64 0]) ∧ PSc w' v L)

set_option maxHeartbeats 4000000 in
theorem base_any (n F : Nat) (caps : Array Value) (C : Nat → Nat) (w : World) (h10 : n ≤ 10) (hF : EntF F) (hC : CloN n F caps C w) (hCl : ∀ s, s < pw n → C s < 1024) :
    Calls Tryd.prog 31 #[.int .i64 (n : Int), .func (.func F) #[] caps] w fun e w' => BasIs (bas C (pw n)) e w' ∧ Below w.heap.size w w' := by
  have HC : Hid (CloN n F caps C w) := hC
  have HCl : Hid (∀ s, s < pw n → C s < 1024) := hCl
  have hpw := pw_le n h10
  have hsh := wrap_pow n (by omega)
  obtain ⟨i0, hi, hz0, hz1, hz2⟩ := info_parts Tryd.infoRU
  clear hC hCl
  go_enter Tryd.func31, Tryd.ntmps31
  try go_step3
  go_wp2_with fail
  go_step3
  go_wp2_with fail
  try go_step3
  go_wp2_with fail
  try rw [hsh]
  clear hsh
  go_loopw [6, 13] (fun v i wx => ∃ s : Nat, s ≤ pw n ∧ i = .int .i64 s ∧ wx.ownsRow w.heap.size 47 2 v (bas C s).length (pairVals (bas C s)) ∧ (bas C s).length ≤ 60 ∧ Hid (∃ pb n' c', v = .slice pb n' c' ∧ n' = (bas C s).length) ∧ Hid (Below w.heap.size w wx)) (fun _ i _ => pw n - (intOf i).toNat)
  case atStart => exact ⟨0, Nat.zero_le _, rfl, World.ownsRow_nil _ _ _ _, Nat.zero_le _, ⟨_, _, _, rfl, rfl⟩, Below.refl _ _⟩
  case round =>
    obtain ⟨s, hs, rfl, hown, hlen, ⟨pb, n', c', rfl, rfl⟩, hB⟩ := hrel
    by_cases hlt : s < pw n
    · have hlt' : (s : Int) < ((pw n : Nat) : Int) := by omega
      have hcs := HCl.out s hlt
      go_wp2_with fail
      rw [hF, Oper.upon_enter]
      refine (HC.out s hlt _ hB.out).mono ?_
      rintro e w1 ⟨rfl, hb1⟩
      have HB1 : Hid (Below w.heap.size w w1) := Below.then hB.out hb1
      have hown1 := owns_below hown hb1
      clear hown hb1 hB
      by_cases hfix : C s = s
      · have HE : Hid (bas C (s + 1) = bas C s) := bas_no (.inl hfix)
        have hq : (((C s : Nat) : Int) == ((s : Nat) : Int)) = true := by rw [hfix]; exact beq_self_eq_true _
        go_wp2_with fail
        go_roundw
        case rel => exact ⟨s + 1, by omega, by go_num, by rw [HE.out]; exact hown1, by rw [HE.out]; exact hlen, ⟨_, _, _, rfl, by rw [HE.out]⟩, HB1⟩
        case measure => simp [intOf]; omega
      · have hq : (((C s : Nat) : Int) == ((s : Nat) : Int)) = false := beq_false_of_ne (by omega)
        obtain ⟨L, HL⟩ : ∃ L, Hid (L = bas C s) := ⟨_, rfl⟩
        have HLM : Hid (∀ k, k < L.length → (L.getD k (0, 0)).1 < 1024 ∧ (L.getD k (0, 0)).2 < 1024) := fun k hk => by
          rw [HL.out] at hk ⊢
          have hm := bas_mem (getD_mem (0, 0) hk)
          exact ⟨by omega, by rw [hm.2]; exact HCl.out _ (by omega)⟩
        rw [← HL.out] at hown1 hlen ⊢
        have HO1 : Hid (w1.ownsRow w.heap.size 47 2 (.slice pb L.length c') L.length (pairVals L)) := hown1
        clear hown1
        go_wp2_with fail
        go_loopw [24] (fun i wy => ∃ k : Nat, k ≤ L.length ∧ i = .int .i64 (k : Nat) ∧ Hid (∀ j, j < k → obe s (L.getD j (0, 0)) = true) ∧ Hid (wy.ownsRow w.heap.size 47 2 (.slice pb L.length c') L.length (pairVals L)) ∧ Hid (Below w.heap.size w wy)) (fun i _ => L.length - (intOf i).toNat)
        case atStart => exact ⟨0, Nat.zero_le _, rfl, upto_zero, HO1, HB1⟩
        case round =>
          clear HO1 HB1
          obtain ⟨k, hk, rfl, hok, hO, hB⟩ := hrel
          by_cases hkl : k < L.length
          · obtain ⟨pa', pc', e', hrow⟩ := owns_pairs hO.out
            cases e'
            obtain ⟨b, off, rfl, c1, c2⟩ := hrow k hkl
            have hkl' : (k : Int) < (L.length : Int) := by omega
            obtain ⟨r, HRR⟩ : ∃ r, Hid (r = L.getD k (0, 0)) := ⟨_, rfl⟩
            obtain ⟨g1, g2⟩ := HLM.out k hkl
            rw [← HRR.out] at g1 g2
            have d1 : wr.cell? ⟨b, off + k * 2, none⟩ = some (.int .i64 (r.1 : Nat)) := by rw [c1, HRR.out]; rfl
            have d2 : wr.cell? ⟨b, off + k * 2 + 1, none⟩ = some (.int .i64 (r.2 : Nat)) := by rw [c2, HRR.out]; rfl
            have HBA : Hid (∀ o, Below wr.heap.size wr (wr.alloc o)) := fun o => (Below.refl _ _).alloc (Nat.le_refl _) o
            clear c1 c2 hrow
            rcases (Bool.eq_false_or_eq_true (obe s r)).symm with ho | ho
            · have HE : Hid (bas C (s + 1) = bas C s) := bas_no (.inr (not_all_getD (by rw [← HL.out]; exact hkl) (by rw [← HL.out, ← HRR.out]; exact ho)))
              go_wp2_with fail
              refine (obeys_any s r.1 r.2 _ (by omega) g1 g2).mono ?_
              rintro e w2 ⟨rfl, hb2⟩
              rw [show obe s (r.1, r.2) = false from ho]
              have HB2 : Hid (Below w.heap.size w w2) := Below.then hB.out (Below.then (HBA.out _) hb2)
              have HO2 : Hid (w2.ownsRow w.heap.size 47 2 (.slice (some ⟨b, off, none⟩) L.length c') L.length (pairVals L)) := owns_below hO.out (Below.then (HBA.out _) hb2)
              clear hb2 d1 d2 HBA
              go_wp2_with fail
              go_roundw
              case rel => exact ⟨s + 1, by omega, by go_num, by rw [HE.out, ← HL.out]; exact HO2.out, by rw [HE.out, ← HL.out]; exact hlen, ⟨_, _, _, rfl, by rw [HE.out, ← HL.out]⟩, HB2⟩
              case measure => simp [intOf]; omega
            · have HOK : Hid (∀ j, j < k + 1 → obe s (L.getD j (0, 0)) = true) := upto_succ hok.out (by rw [← HRR.out]; exact ho)
              go_wp2_with fail
              refine (obeys_any s r.1 r.2 _ (by omega) g1 g2).mono ?_
              rintro e w2 ⟨rfl, hb2⟩
              rw [show obe s (r.1, r.2) = true from ho]
              have HB2 : Hid (Below w.heap.size w w2) := Below.then hB.out (Below.then (HBA.out _) hb2)
              have HO2 : Hid (w2.ownsRow w.heap.size 47 2 (.slice (some ⟨b, off, none⟩) L.length c') L.length (pairVals L)) := owns_below hO.out (Below.then (HBA.out _) hb2)
              clear hb2 d1 d2 HBA
              go_wp2_with fail
              go_roundw
              case rel => exact ⟨k + 1, by omega, by go_num, HOK, HO2, HB2⟩
              case measure => simp [intOf]; omega
          · have hkn : k = L.length := by omega
            have HALL : Hid ((bas C s).all (obe s) = true) := by
              rw [Hid, ← HL.out]; exact all_getD (fun j hj => hok.out j (by omega))
            have HE : Hid (bas C (s + 1) = bas C s ++ [(s, C s)]) := bas_yes hfix HALL.out
            have hke : (L.length : Int) ≤ (k : Int) := by omega
            clear hok HALL
            by_cases h60 : L.length = 60
            · have h60' : ((L.length : Int) == 60) = true := by rw [h60]; rfl
              have HF : Hid (60 < (bas C (pw n)).length) := by
                have h1 := bas_mono C (show s + 1 ≤ pw n by omega)
                rw [HE.out, List.length_append, ← HL.out] at h1
                simp only [List.length_singleton] at h1
                rw [Hid]; omega
              go_wp2_with fail
              rw [Exit.noGoto_ret]
              go_ret2
              exact ⟨.inl ⟨HF.out, rfl⟩, hB.out⟩
            · have h60' : ((L.length : Int) == 60) = false := beq_false_of_ne (by omega)
              have hown3 := hO.out
              have hsz : w.heap.size ≤ wr.heap.size := hB.out.size
              obtain ⟨y, HY⟩ : ∃ y, Hid (y = C s) := ⟨_, rfl⟩
              rw [← HY.out] at HE hcs ⊢
              clear hO
              go_wp2_with (at_builtin; refine wpList_append_own _ rfl _ _ 22 rfl w.heap.size 47 i0 (.agg #[.int .i64 0, .int .i64 0]) 2 16 Tryd.underlying22 hi hz0 hz1 hz2 rfl (by decide) _ _ _ rfl (hown3.alloc _) ⟨wr.heap.size, 0, none⟩ 1 1 [.int .i64 (s : Nat), .int .i64 (y : Nat)] rfl rfl ?c1 ?c2 ?c3 ?c4 ?c5 ?_)
              case c1 =>
                intro j u hj
                match j, hj with
                | 0, hj => simp at hj; subst hj; simp [Addr.add]
                | 1, hj => simp at hj; subst hj; simp [Addr.add]
              case c2 => intro u hu; simp at hu; rcases hu with rfl | rfl <;> rfl
              case c3 => unfold maxLen; omega
              case c4 => omega
              case c5 => simp; omega
              intro v' w4 hown' hgrow _
              have HB5 : Hid (Below w.heap.size w w4) := below_append2 hB.out hown3 hgrow
              have HO5 : Hid (w4.ownsRow w.heap.size 47 2 v' (bas C (s + 1)).length (pairVals (bas C (s + 1)))) := by
                rw [HE.out, ← HL.out, pairVals_append, List.length_append]; exact hown'
              obtain ⟨g7, c7, rfl⟩ := owns_form hown' (by omega)
              have HLE : Hid ((bas C (s + 1)).length = L.length + 1) := by rw [Hid, HE.out, ← HL.out, List.length_append]; rfl
              clear hown' hgrow hown3 hB hsz
              go_wp2_with fail
              go_roundw
              case rel => exact ⟨s + 1, by omega, by go_num, HO5.out, by rw [HLE.out]; omega, ⟨_, _, _, rfl, by rw [HLE.out]⟩, HB5⟩
              case measure => simp [intOf]; omega
    · have hsn : s = pw n := by omega
      have HF : Hid (PSc wr (.slice pb (bas C s).length c') (bas C (pw n))) := by rw [← hsn]; exact owns_pairs2 hown
      have HLE : Hid ((bas C (pw n)).length ≤ 60) := by rw [← hsn]; exact hlen
      have hle : ((pw n : Nat) : Int) ≤ (s : Int) := by omega
      clear hown hsn hlt
      go_wp2_with fail
      rw [Exit.noGoto_ret]
      go_ret2
      exact ⟨.inr ⟨HLE.out, _, rfl, HF.out⟩, hB.out⟩
end Go.Proofs.YtgjdpgjaaaeglaaDoor
