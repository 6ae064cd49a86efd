/-
  What series.checkForm, series.points, sets.EachOnce and series.check answer. Conditions: the value reads as a term.
-/
import Derived.Deep.Onto
import Derived.Test.YtjhpegjcknaioaaDoorTmC
namespace Go.Proofs.YtjhpegjcknaioaaDoor
set_option maxRecDepth 100000
open Go.RowKit

set_option maxHeartbeats 4000000 in
theorem checkForm_any (T : TT) : ∀ (v : Value) (w : World), TRep 0 w T v → Calls Tryd.prog 64 #[v] w fun e w' => (∃ c : Int, e = .returned (.int .i64 c) ∧ (c = 0 ↔ Gd T)) ∧ Below w.heap.size w w' := by
  induction T using TT.ind with
  | leaf => exact fun _ _ h => h.elim
  | mk k x n kid ih =>
    intro v w hf
    obtain ⟨a, cap, rfl, hn, hk⟩ := hf
    have hn' : n ≤ 9223372036854775807 := by unfold maxLen at hn; omega
    have HIH : Hid (∀ i (v : Value) (w : World), TRep 0 w (kid i) v → Calls Tryd.prog 64 #[v] w fun e w' => (∃ c : Int, e = .returned (.int .i64 c) ∧ (c = 0 ↔ Gd (kid i))) ∧ Below w.heap.size w w') := ih
    obtain ⟨W, hW⟩ : ∃ W, W = w.alloc (.cells #[.int .i64 k, .int .i64 x, .slice a n cap] 27) := ⟨_, rfl⟩
    have HB1 : Hid (Below w.heap.size w W) := by rw [hW]; exact (Below.refl _ _).alloc (Nat.le_refl _) _
    have HX : Hid (∀ w', Below W.heap.size W w' → (w'.cell? ⟨w.heap.size, 0, none⟩ = some (.int .i64 k) ∧ w'.cell? ⟨w.heap.size, 1, none⟩ = some (.int .i64 x)) ∧ w'.cell? ⟨w.heap.size, 2, none⟩ = some (.slice a n cap)) := fun w' h =>
      ⟨⟨cell_stp h (by rw [hW]; simp), cell_stp h (by rw [hW]; simp)⟩, cell_stp h (by rw [hW]; simp)⟩
    have HWE : Hid (W = w.alloc (.cells #[.int .i64 k, .int .i64 x, .slice a n cap] 27)) := hW
    have HK : Hid (∀ i, i < n → ∃ b off, a = some ⟨b, off, none⟩ ∧ ∃ (k' x' : Int) (a' : Option Addr) (n' c' : Nat), ∀ w', Below W.heap.size W w' →
        (w'.cell? ⟨b, off + i * 3, none⟩ = some (.int .i64 k') ∧ w'.cell? ⟨b, off + i * 3 + 1, none⟩ = some (.int .i64 x') ∧ w'.cell? ⟨b, off + i * 3 + 2, none⟩ = some (.slice a' n' c')) ∧ TRep 0 w' (kid i) (.agg #[.int .i64 k', .int .i64 x', .slice a' n' c'])) := fun i hi => by
      obtain ⟨b, off, e, _, k', x', a', n', c', ⟨h1, h2, h3⟩, h4⟩ := hk i hi
      exact ⟨b, off, e, k', x', a', n', c', fun w' hb0 => by
        have hb := Below.then HB1.out hb0
        exact ⟨⟨cell_stp hb h1, cell_stp hb h2, cell_stp hb h3⟩, TRep.step hb _ _ h4⟩⟩
    have x0 : W.cell? ⟨w.heap.size, 0, none⟩ = some (.int .i64 k) := (HX.out W (Below.refl _ _)).1.1
    have x1 : W.cell? ⟨w.heap.size, 1, none⟩ = some (.int .i64 x) := (HX.out W (Below.refl _ _)).1.2
    have x2 : W.cell? ⟨w.heap.size, 2, none⟩ = some (.slice a n cap) := (HX.out W (Below.refl _ _)).2
    clear hk ih hn hW
    by_cases hk1 : k = 1
    · subst hk1
      by_cases hnn : n = 0
      · subst hnn
        have HG : Hid (Gd (.mk 1 x 0 kid)) := .inl ⟨rfl, rfl⟩
        go_enter Tryd.func64, Tryd.ntmps64
        go_wp2_with fail
        rw [← HWE.out]
        clear HWE x0 x1 x2
        go_loopw [29] (fun i wx => i = .int .i64 0 ∧ Hid (Below W.heap.size W wx)) (fun _ _ => 0)
        case atStart => exact ⟨rfl, Below.refl _ _⟩
        case round =>
          obtain ⟨rfl, HW⟩ := hrel
          go_wp2_with fail
          go_ret
          exact ⟨⟨_, rfl, ⟨fun _ => HG.out, fun _ => rfl⟩⟩, Below.then HB1.out HW.out⟩
      · have hni : (0 : Int) < (n : Int) := by omega
        have HG : Hid ((1 : Int) = 0 ↔ Gd (.mk 1 x n kid)) := ⟨fun h => by omega, fun h => by rcases h with ⟨_, h⟩ | ⟨h, _⟩ <;> omega⟩
        go_enter Tryd.func64, Tryd.ntmps64
        go_wp2_with fail
        go_ret
        exact ⟨⟨_, rfl, HG.out⟩, by rw [← HWE.out]; exact HB1.out⟩
    have hb1 : (k == 1) = false := by simpa using hk1
    by_cases hk2 : k = 2
    · subst hk2
      by_cases hn2 : n < 2
      · have hn2i : (n : Int) < 2 := by omega
        have HG : Hid ((1 : Int) = 0 ↔ Gd (.mk 2 x n kid)) := ⟨fun h => by omega, fun h => by rcases h with ⟨h, _⟩ | ⟨_, h, _⟩ <;> omega⟩
        go_enter Tryd.func64, Tryd.ntmps64
        go_wp2_with fail
        go_ret
        exact ⟨⟨_, rfl, HG.out⟩, by rw [← HWE.out]; exact HB1.out⟩
      · have hn2i : ¬ (n : Int) < 2 := by omega
        by_cases hx : x = 0
        · subst hx
          go_enter Tryd.func64, Tryd.ntmps64
          go_wp2_with fail
          rw [← HWE.out]
          clear HWE x0 x1 x2
          go_loopw [29] (fun i wx => ∃ t : Nat, t ≤ n ∧ i = .int .i64 (t : Nat) ∧ Hid (∀ j, j < t → Gd (kid j)) ∧ Hid (Below W.heap.size W wx)) (fun i _ => n - (intOf i).toNat)
          case atStart => exact ⟨0, Nat.zero_le _, rfl, fun j hj => absurd hj (Nat.not_lt_zero _), Below.refl _ _⟩
          case round =>
            obtain ⟨t, ht, rfl, HZ, HW⟩ := hrel
            by_cases htn : t < n
            · have htI : (t : Int) < (n : Int) := by omega
              obtain ⟨b, off, HA, k', x', a', n', c', HC⟩ := HK.out t htn
              obtain ⟨⟨q1, q2, q3⟩, _⟩ := HC _ HW.out
              subst HA
              have HR : Hid (∀ w', Below W.heap.size W w' → TRep 0 w' (kid t) (.agg #[.int .i64 k', .int .i64 x', .slice a' n' c'])) := fun w' h => (HC w' h).2
              have HW9 : Hid (∀ o, Below W.heap.size W (wr.alloc o)) := fun o => HW.out.alloc HW.out.size o
              clear HC
              go_wp2_with fail
              refine (HIH.out t _ _ (HR.out _ (HW9.out _))).mono ?_
              rintro e w7 ⟨⟨c, rfl, hc⟩, hb7⟩
              have HW7 : Hid (Below W.heap.size W w7) := Below.then (HW9.out _) hb7
              have HC2 : Hid (c = 0 ↔ Gd (kid t)) := hc
              clear hb7 HW HR q1 q2 q3 HW9 hc
              by_cases h0 : c = 0
              · subst h0
                have HZ2 : Hid (∀ j, j < t + 1 → Gd (kid j)) := fun j hj => by
                  by_cases e : j = t
                  · subst e; exact HC2.out.1 rfl
                  · exact HZ.out j (by omega)
                clear HC2 HZ
                go_wp2_with fail
                go_roundw
                case rel => exact ⟨t + 1, by omega, by go_num, HZ2.out, HW7.out⟩
                case measure => simp [intOf]; omega
              · have hne : (c != 0) = true := by simpa using h0
                have HN : Hid (c = 0 ↔ Gd (.mk 2 0 n kid)) := ⟨fun h => absurd h h0, fun h => by
                  rcases h with ⟨h, _⟩ | ⟨_, _, _, h⟩
                  · omega
                  · exact absurd (HC2.out.2 (h t htn)) h0⟩
                clear HC2 HZ
                go_wp2_with fail
                go_ret
                exact ⟨⟨_, rfl, HN.out⟩, Below.then HB1.out HW7.out⟩
            · obtain rfl : t = n := by omega
              have HN : Hid (Gd (.mk 2 0 t kid)) := .inr ⟨by omega, by omega, rfl, HZ.out⟩
              clear HZ
              go_wp2_with fail
              go_ret
              exact ⟨⟨_, rfl, ⟨fun _ => HN.out, fun _ => rfl⟩⟩, Below.then HB1.out HW.out⟩
        · have hxB : (x != 0) = true := by simpa using hx
          have HG : Hid ((1 : Int) = 0 ↔ Gd (.mk 2 x n kid)) := ⟨fun h => by omega, fun h => by rcases h with ⟨h, _⟩ | ⟨_, _, h, _⟩ <;> omega⟩
          go_enter Tryd.func64, Tryd.ntmps64
          go_wp2_with fail
          go_ret
          exact ⟨⟨_, rfl, HG.out⟩, by rw [← HWE.out]; exact HB1.out⟩
    have hb2 : (k == 2) = false := by simpa using hk2
    by_cases hk3 : k = 3
    · subst hk3
      by_cases hn2 : n < 2
      · have hn2i : (n : Int) < 2 := by omega
        have HG : Hid ((1 : Int) = 0 ↔ Gd (.mk 3 x n kid)) := ⟨fun h => by omega, fun h => by rcases h with ⟨h, _⟩ | ⟨_, h, _⟩ <;> omega⟩
        go_enter Tryd.func64, Tryd.ntmps64
        go_wp2_with fail
        go_ret
        exact ⟨⟨_, rfl, HG.out⟩, by rw [← HWE.out]; exact HB1.out⟩
      · have hn2i : ¬ (n : Int) < 2 := by omega
        by_cases hx : x = 0
        · subst hx
          go_enter Tryd.func64, Tryd.ntmps64
          go_wp2_with fail
          rw [← HWE.out]
          clear HWE x0 x1 x2
          go_loopw [29] (fun i wx => ∃ t : Nat, t ≤ n ∧ i = .int .i64 (t : Nat) ∧ Hid (∀ j, j < t → Gd (kid j)) ∧ Hid (Below W.heap.size W wx)) (fun i _ => n - (intOf i).toNat)
          case atStart => exact ⟨0, Nat.zero_le _, rfl, fun j hj => absurd hj (Nat.not_lt_zero _), Below.refl _ _⟩
          case round =>
            obtain ⟨t, ht, rfl, HZ, HW⟩ := hrel
            by_cases htn : t < n
            · have htI : (t : Int) < (n : Int) := by omega
              obtain ⟨b, off, HA, k', x', a', n', c', HC⟩ := HK.out t htn
              obtain ⟨⟨q1, q2, q3⟩, _⟩ := HC _ HW.out
              subst HA
              have HR : Hid (∀ w', Below W.heap.size W w' → TRep 0 w' (kid t) (.agg #[.int .i64 k', .int .i64 x', .slice a' n' c'])) := fun w' h => (HC w' h).2
              have HW9 : Hid (∀ o, Below W.heap.size W (wr.alloc o)) := fun o => HW.out.alloc HW.out.size o
              clear HC
              go_wp2_with fail
              refine (HIH.out t _ _ (HR.out _ (HW9.out _))).mono ?_
              rintro e w7 ⟨⟨c, rfl, hc⟩, hb7⟩
              have HW7 : Hid (Below W.heap.size W w7) := Below.then (HW9.out _) hb7
              have HC2 : Hid (c = 0 ↔ Gd (kid t)) := hc
              clear hb7 HW HR q1 q2 q3 HW9 hc
              by_cases h0 : c = 0
              · subst h0
                have HZ2 : Hid (∀ j, j < t + 1 → Gd (kid j)) := fun j hj => by
                  by_cases e : j = t
                  · subst e; exact HC2.out.1 rfl
                  · exact HZ.out j (by omega)
                clear HC2 HZ
                go_wp2_with fail
                go_roundw
                case rel => exact ⟨t + 1, by omega, by go_num, HZ2.out, HW7.out⟩
                case measure => simp [intOf]; omega
              · have hne : (c != 0) = true := by simpa using h0
                have HN : Hid (c = 0 ↔ Gd (.mk 3 0 n kid)) := ⟨fun h => absurd h h0, fun h => by
                  rcases h with ⟨h, _⟩ | ⟨_, _, _, h⟩
                  · omega
                  · exact absurd (HC2.out.2 (h t htn)) h0⟩
                clear HC2 HZ
                go_wp2_with fail
                go_ret
                exact ⟨⟨_, rfl, HN.out⟩, Below.then HB1.out HW7.out⟩
            · obtain rfl : t = n := by omega
              have HN : Hid (Gd (.mk 3 0 t kid)) := .inr ⟨by omega, by omega, rfl, HZ.out⟩
              clear HZ
              go_wp2_with fail
              go_ret
              exact ⟨⟨_, rfl, ⟨fun _ => HN.out, fun _ => rfl⟩⟩, Below.then HB1.out HW.out⟩
        · have hxB : (x != 0) = true := by simpa using hx
          have HG : Hid ((1 : Int) = 0 ↔ Gd (.mk 3 x n kid)) := ⟨fun h => by omega, fun h => by rcases h with ⟨h, _⟩ | ⟨_, _, h, _⟩ <;> omega⟩
          go_enter Tryd.func64, Tryd.ntmps64
          go_wp2_with fail
          go_ret
          exact ⟨⟨_, rfl, HG.out⟩, by rw [← HWE.out]; exact HB1.out⟩
    have hb3 : (k == 3) = false := by simpa using hk3
    have HG : Hid ((7 : Int) = 0 ↔ Gd (.mk k x n kid)) := ⟨fun h => by omega, fun h => by rcases h with ⟨h, _⟩ | ⟨h, _⟩ <;> omega⟩
    go_enter Tryd.func64, Tryd.ntmps64
    go_wp2_with fail
    go_ret
    exact ⟨⟨_, rfl, HG.out⟩, by rw [← HWE.out]; exact HB1.out⟩
def ivals (l : List Int) : List Value := l.map fun x => .int .i64 x
theorem ivals_len (l : List Int) : (ivals l).length = l.length := by simp [ivals]
theorem ivals_app (l m : List Int) : ivals (l ++ m) = ivals l ++ ivals m := by simp [ivals]
theorem Gd.pos : ∀ {T : TT}, Gd T → 0 < (pl T).length := by
  intro T
  induction T using TT.ind with
  | leaf => exact fun h => h.elim
  | mk k x n kid IHK =>
    intro h
    rw [pl_eq]
    rcases h with ⟨h, _⟩ | ⟨h1, h2, _, h4⟩
    · rw [if_pos h]; simp
    · rw [if_neg (by omega)]
      have hK : ∀ i, 0 < i → i ≤ n → 0 < (plK kid i).length := fun i h0 hi => by
        cases i with
        | zero => omega
        | succ i => rw [plK_succ, List.length_append]; have := (IHK _ (h4 i (by omega))); omega
      exact hK n (by omega) (Nat.le_refl _)
set_option maxHeartbeats 4000000 in
theorem points_any (T : TT) : ∀ (v : Value) (w : World), (Gd T ∧ sz T ≤ 40) → TRep 0 w T v → Calls Tryd.prog 43 #[v] w fun e w' => (∃ v, e = .returned v ∧ w'.ownsRow w.heap.size 3 1 v (pl T).length (ivals (pl T))) ∧ Below w.heap.size w w' := by
  induction T using TT.ind with
  | leaf => exact fun _ _ _ h => h.elim
  | mk k x n kid ih =>
    intro v w hG hf
    obtain ⟨a, cap, rfl, hn, hk⟩ := hf
    have hn' : n ≤ 9223372036854775807 := by unfold maxLen at hn; omega
    have HIH : Hid (∀ i (v : Value) (w : World), (Gd (kid i) ∧ sz (kid i) ≤ 40) → TRep 0 w (kid i) v → Calls Tryd.prog 43 #[v] w fun e w' => (∃ v, e = .returned v ∧ w'.ownsRow w.heap.size 3 1 v (pl (kid i)).length (ivals (pl (kid i)))) ∧ Below w.heap.size w w') := ih
    obtain ⟨W, hW⟩ : ∃ W, W = w.alloc (.cells #[.int .i64 k, .int .i64 x, .slice a n cap] 27) := ⟨_, rfl⟩
    have HB1 : Hid (Below w.heap.size w W) := by rw [hW]; exact (Below.refl _ _).alloc (Nat.le_refl _) _
    have HX : Hid (∀ w', Below W.heap.size W w' → (w'.cell? ⟨w.heap.size, 0, none⟩ = some (.int .i64 k) ∧ w'.cell? ⟨w.heap.size, 1, none⟩ = some (.int .i64 x)) ∧ w'.cell? ⟨w.heap.size, 2, none⟩ = some (.slice a n cap)) := fun w' h =>
      ⟨⟨cell_stp h (by rw [hW]; simp), cell_stp h (by rw [hW]; simp)⟩, cell_stp h (by rw [hW]; simp)⟩
    have HWE : Hid (W = w.alloc (.cells #[.int .i64 k, .int .i64 x, .slice a n cap] 27)) := hW
    have HK : Hid (∀ i, i < n → ∃ b off, a = some ⟨b, off, none⟩ ∧ ∃ (k' x' : Int) (a' : Option Addr) (n' c' : Nat), ∀ w', Below W.heap.size W w' →
        (w'.cell? ⟨b, off + i * 3, none⟩ = some (.int .i64 k') ∧ w'.cell? ⟨b, off + i * 3 + 1, none⟩ = some (.int .i64 x') ∧ w'.cell? ⟨b, off + i * 3 + 2, none⟩ = some (.slice a' n' c')) ∧ TRep 0 w' (kid i) (.agg #[.int .i64 k', .int .i64 x', .slice a' n' c'])) := fun i hi => by
      obtain ⟨b, off, e, _, k', x', a', n', c', ⟨h1, h2, h3⟩, h4⟩ := hk i hi
      exact ⟨b, off, e, k', x', a', n', c', fun w' hb0 => by
        have hb := Below.then HB1.out hb0
        exact ⟨⟨cell_stp hb h1, cell_stp hb h2, cell_stp hb h3⟩, TRep.step hb _ _ h4⟩⟩
    have x0 : W.cell? ⟨w.heap.size, 0, none⟩ = some (.int .i64 k) := (HX.out W (Below.refl _ _)).1.1
    have x1 : W.cell? ⟨w.heap.size, 1, none⟩ = some (.int .i64 x) := (HX.out W (Below.refl _ _)).1.2
    have x2 : W.cell? ⟨w.heap.size, 2, none⟩ = some (.slice a n cap) := (HX.out W (Below.refl _ _)).2
    clear hk ih hn hW
    have HBR : Hid (Below w.heap.size w (W.alloc (.cells #[.int .i64 x] 3))) := HB1.out.alloc HB1.out.size _
    by_cases hk1 : k = 1
    · subst hk1
      have HO : Hid ((W.alloc (.cells #[.int .i64 x] 3)).ownsRow w.heap.size 3 1 (.slice (some ⟨W.heap.size, 0, none⟩) 1 1) 1 [.int .i64 x]) := row_made (by omega) HB1.out.size rfl (heap_one W (.int .i64 x))
      rw [HWE.out] at HO HBR
      have HE : Hid (pl (.mk 1 x n kid) = [x]) := rfl
      rw [HE.out]
      clear hG
      go_enter Tryd.func43, Tryd.ntmps43
      go_wp2_with fail
      go_ret
      exact ⟨⟨_, rfl, by simpa [ivals] using HO.out⟩, HBR.out⟩
    · have hkB : (k == 1) = false := by simpa using hk1
      obtain ⟨hG, h40⟩ := hG
      have HKG : Hid (∀ i, i < n → Gd (kid i)) := by
        rcases hG with ⟨h, _⟩ | ⟨_, _, _, h⟩
        · exact absurd h hk1
        · exact h
      have HSZ : Hid (∀ i, i < n → sz (kid i) ≤ 40 ∧ (plK kid i).length + (pl (kid i)).length ≤ 40) := fun i hi => by
        have h1 := szK_mono kid (i + 1) (n - (i + 1))
        rw [show i + 1 + (n - (i + 1)) = n by omega] at h1
        have h2 := szK_succ kid i
        have h3 := plK_len kid i
        have h4 := pl_len (kid i)
        have h5 : szK kid n ≤ 40 := h40
        exact ⟨by omega, by omega⟩
      have HE : Hid (pl (.mk k x n kid) = plK kid n) := by rw [Hid, pl_eq, if_neg hk1]
      rw [HE.out]
      obtain ⟨i0, hi, hz0, hz1, hz2⟩ := info_parts Tryd.info3
      clear hG h40
      go_enter Tryd.func43, Tryd.ntmps43
      go_wp2_with fail
      rw [← HWE.out]
      clear HWE x0 x1 x2 HBR
      go_loopw [3, 15] (fun l i wx => ∃ t : Nat, t ≤ n ∧ i = .int .i64 (t : Nat) ∧ wx.ownsRow W.heap.size 3 1 l (plK kid t).length (ivals (plK kid t)) ∧ Hid (Below W.heap.size W wx)) (fun _ i _ => n - (intOf i).toNat)
      case atStart => exact ⟨0, Nat.zero_le _, rfl, World.ownsRow_nil _ _ _ _, Below.refl _ _⟩
      case round =>
        obtain ⟨t, ht, rfl, hown, HW⟩ := hrel
        skip
        by_cases htn : t < n
        · have htI : (t : Int) < (n : Int) := by omega
          obtain ⟨b, off, HA, k', x', a', n', c', HC⟩ := HK.out t htn
          obtain ⟨⟨q1, q2, q3⟩, _⟩ := HC _ HW.out
          subst HA
          have HR : Hid (∀ w', Below W.heap.size W w' → TRep 0 w' (kid t) (.agg #[.int .i64 k', .int .i64 x', .slice a' n' c'])) := fun w' h => (HC w' h).2
          have HW9 : Hid (∀ o, Below W.heap.size W (wr.alloc o)) := fun o => HW.out.alloc HW.out.size o
          obtain ⟨s1, s2⟩ := HSZ.out t htn
          have HG2 : Hid (Gd (kid t) ∧ sz (kid t) ≤ 40) := ⟨HKG.out t htn, s1⟩
          have HS2 : Hid ((plK kid t).length + (pl (kid t)).length ≤ 40) := s2
          have HP2 : Hid (0 < (pl (kid t)).length) := (HKG.out t htn).pos
          have HSU : Hid (plK kid (t + 1) = plK kid t ++ pl (kid t)) := rfl
          clear HC s1 s2
          go_wp2_with fail
          refine (HIH.out t _ _ HG2.out (HR.out _ (HW9.out _))).mono ?_
          rintro e w7 ⟨⟨vk, rfl, hok⟩, hb7⟩
          have HW7 : Hid (Below W.heap.size W w7) := Below.then (HW9.out _) hb7
          have hown7 := owns_below (hown.alloc (.cells #[.int .i64 k', .int .i64 x', .slice a' n' c'] 27)) hb7
          obtain ⟨gk, ck, rfl⟩ := owns_form hok HP2.out
          have HCE : Hid (∀ j u, (ivals (pl (kid t)))[j]? = some u → w7.cell? ((⟨gk, 0, none⟩ : Addr).add j) = some u) := hok.cells rfl
          have h40 := HS2.out
          have HSW : Hid (W.heap.size ≤ w7.heap.size) := HW7.out.size
          clear hb7 HW HR q1 q2 q3 HW9 hok hown
          go_wp2_with (at_builtin; refine wpList_append_own _ rfl _ _ 22 rfl W.heap.size 3 i0 (.int .i64 0) 1 8 Tryd.underlying22 hi hz0 hz1 hz2 rfl (by decide) _ _ _ rfl hown7 ⟨gk, 0, none⟩ (pl (kid t)).length ck (ivals (pl (kid t))) rfl (by rw [ivals_len]; omega) HCE.out ?c2 ?c3 ?c4 HSW.out ?_)
          case c2 => intro u hu; simp only [ivals, List.mem_map] at hu; obtain ⟨y, _, rfl⟩ := hu; rfl
          case c3 => unfold maxLen; omega
          case c4 => omega
          intro v' w8 hown8 hgrow _
          have HB8 : Hid (Below W.heap.size W w8) := HW7.out.grown hgrow HSW.out (owns_block hown7)
          have HO8 : Hid (w8.ownsRow W.heap.size 3 1 v' (plK kid (t + 1)).length (ivals (plK kid (t + 1)))) := by rw [HSU.out, ivals_app, List.length_append]; exact hown8
          clear hown7 hgrow hown8
          go_wp2_with fail
          go_roundw
          case rel => exact ⟨t + 1, by omega, by go_num, HO8.out, HB8.out⟩
          case measure => simp [intOf]; omega
        · obtain rfl : t = n := by omega
          have HO : Hid (wr.ownsRow w.heap.size 3 1 u3 (plK kid t).length (ivals (plK kid t))) := hown.mono HB1.out.size
          clear hown
          go_wp2_with fail
          go_ret
          exact ⟨⟨_, rfl, HO.out⟩, Below.then HB1.out HW.out⟩
end Go.Proofs.YtjhpegjcknaioaaDoor
