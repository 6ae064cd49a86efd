/-
  hasselaw.QuotientFunayama returns true for every lattice. No condition but that slices read as slices of rows.
-/
import Derived.Test.YtappekjkcgmheabLFrame
import Derived.Test.YtappekjkcgmheabLofB
import Derived.Test.YtappekjkcgmheabCgrQ
import Derived.Test.YtappekjkcgmheabFinP
import Derived.Deep.Cut
namespace Go.Proofs.Ytappekjkcgmheab
open Go.RowKit
set_option maxRecDepth 100000

theorem QCk.one {n : Int} {la : Nat} {SA : Nat → Option Addr × Nat × Nat} {FA : Nat → Nat → Int} {lb : Nat} {SB : Nat → Option Addr × Nat × Nat} {FB : Nat → Nat → Int} {m : Nat} {f : Nat → Int} {c d : Int} (h : QCk n la SA FA lb SB FB m f c) (h' : QCk n la SA FA lb SB FB m f d) : c = d := by
  rcases h with ⟨h0, h⟩ | ⟨h, hh⟩ <;> rcases h' with ⟨h0', h'⟩ | ⟨h', hh'⟩
  · exact h.one h'
  · exact absurd (h.one h') h0
  · exact absurd (h'.one h) h0'
  · rcases hh with ⟨rfl, e⟩ | ⟨e, ⟨rfl, k⟩ | ⟨rfl, k⟩⟩ <;> rcases hh' with ⟨rfl, e'⟩ | ⟨e', ⟨rfl, k'⟩ | ⟨rfl, k'⟩⟩ <;> first | rfl | exact absurd e e' | exact absurd e' e | exact absurd k k' | exact absurd k' k
theorem bool_eq {u v : Bool} {Q : Prop} (h : u = true ↔ Q) (h' : v = true ↔ Q) : u = v := by
  cases u <;> cases v <;> simp_all
theorem ent_fun1 : Ent 9 := fun _ _ => rfl
set_option maxHeartbeats 4000000 in
theorem fun1_any (n q X gv cv : Nat) (r : Nat → Nat) (G : Nat → Nat → Nat) (P : Nat → Nat → Bool) (w : World) (hq : q ≤ maxLen) (hP : ∀ x y, P x y = true ↔ Ker q (G x) (G y)) (hX : w.cell? ⟨X, 0, none⟩ = some (.slice (some ⟨gv, 0, none⟩) n cv))
    (hc : ∀ i, i < n → w.cell? ⟨gv, i, none⟩ = some (.slice (some ⟨r i, 0, none⟩) q q)) (hr : ∀ i, i < n → Row w (some ⟨r i, 0, none⟩) q (fun k => (G i k : Nat))) :
    Clo2 n 9 #[.pointer (some ⟨X, 0, none⟩)] P w := fun x y hx hy W hW => by
  show Calls Try.prog 9 #[.int .i64 (x : Nat), .int .i64 (y : Nat), .pointer (some ⟨X, 0, none⟩)] W _
  have ix : (x : Int) < (n : Int) := by omega
  have iy : (y : Int) < (n : Int) := by omega
  have l0 : ∀ w', Below W.heap.size W w' → w'.cell? ⟨X, 0, none⟩ = some (.slice (some ⟨gv, 0, none⟩) n cv) := fun w' h => cell_step (Below.then hW h) hX
  have l1 : ∀ w', Below W.heap.size W w' → w'.cell? ⟨gv, x, none⟩ = some (.slice (some ⟨r x, 0, none⟩) q q) := fun w' h => cell_step (Below.then hW h) (hc x hx)
  have l2 : ∀ w', Below W.heap.size W w' → w'.cell? ⟨gv, y, none⟩ = some (.slice (some ⟨r y, 0, none⟩) q q) := fun w' h => cell_step (Below.then hW h) (hc y hy)
  have HROW : Hid (∀ w', Below W.heap.size W w' → ∀ i, i < n → Row w' (some ⟨r i, 0, none⟩) q (fun k => (G i k : Nat))) := fun w' h i hi => (hr i hi).below (Below.then hW h)
  have HP : Hid (∀ x y, P x y = true ↔ Ker q (G x) (G y)) := hP
  clear hX hc hr hP hW
  go_enter Try.func9, Try.ntmps9
  go_wp2_with fail
  refine wp_region_held_drew (S := (fun w' => Below W.heap.size W w')) (by kernel_rfl) ((Below.refl _ _).drew) (fun hHeld => ?_)
  refine wpAnyH_take (i := 0) (oi := { dst := some 6, op := Go.Op.load 22 (Go.Operand.tmp 2), type := 22, pos := "quotient.go:136", after := #[], guard := none }) (v := ?_) rfl (by kernel_rfl) (by kernel_rfl) (by kernel_rfl) (fun _ _ _ h => h) (Or.inl ⟨by rfl, ?hy⟩) (by assumption) ?_
  case hy => (intro w9 hSw; (try dsimp only at hSw); go_simp; try with_reducible rfl)
  try simp only [Act.put, List.setIfInBounds_toArray, List.set_cons_zero, List.set_cons_succ]
  refine wpAnyH_take (i := 1) (oi := { dst := some 7, op := Go.Op.move (Go.Operand.tmp 0), type := 3, pos := "quotient.go:136", after := #[], guard := none }) (v := ?_) rfl (by kernel_rfl) (by kernel_rfl) (by kernel_rfl) (fun _ _ _ h => h) (Or.inl ⟨by rfl, ?hy⟩) (by assumption) ?_
  case hy => (intro w9 hSw; (try dsimp only at hSw); go_simp; try with_reducible rfl)
  try simp only [Act.put, List.setIfInBounds_toArray, List.set_cons_zero, List.set_cons_succ]
  refine wpAnyH_take (i := 2) (oi := { dst := some 8, op := Go.Op.indexAddr 22 (Go.Operand.tmp 6) (Go.Operand.tmp 7), type := 0, pos := "quotient.go:136", after := #[{ on := 0, ground := Go.Ground.data }, { on := 1, ground := Go.Ground.data }], guard := none }) (v := ?_) rfl (by kernel_rfl) (by kernel_rfl) (by kernel_rfl) (fun _ _ _ h => h) (Or.inl ⟨by rfl, ?hy⟩) (by assumption) ?_
  case hy => (intro w9 hSw; (try dsimp only at hSw); go_simp; try with_reducible rfl)
  try simp only [Act.put, List.setIfInBounds_toArray, List.set_cons_zero, List.set_cons_succ]
  refine wpAnyH_take (i := 3) (oi := { dst := some 9, op := Go.Op.load 31 (Go.Operand.tmp 8), type := 31, pos := "quotient.go:136", after := #[{ on := 2, ground := Go.Ground.data }], guard := none }) (v := ?_) rfl (by kernel_rfl) (by kernel_rfl) (by kernel_rfl) (fun _ _ _ h => h) (Or.inl ⟨by rfl, ?hy⟩) (by assumption) ?_
  case hy => (intro w9 hSw; (try dsimp only at hSw); go_simp; try with_reducible rfl)
  try simp only [Act.put, List.setIfInBounds_toArray, List.set_cons_zero, List.set_cons_succ]
  refine wpAnyH_take (i := 4) (oi := { dst := some 10, op := Go.Op.load 22 (Go.Operand.tmp 2), type := 22, pos := "quotient.go:136", after := #[], guard := none }) (v := ?_) rfl (by kernel_rfl) (by kernel_rfl) (by kernel_rfl) (fun _ _ _ h => h) (Or.inl ⟨by rfl, ?hy⟩) (by assumption) ?_
  case hy => (intro w9 hSw; (try dsimp only at hSw); go_simp; try with_reducible rfl)
  try simp only [Act.put, List.setIfInBounds_toArray, List.set_cons_zero, List.set_cons_succ]
  refine wpAnyH_take (i := 5) (oi := { dst := some 11, op := Go.Op.move (Go.Operand.tmp 1), type := 3, pos := "quotient.go:136", after := #[], guard := none }) (v := ?_) rfl (by kernel_rfl) (by kernel_rfl) (by kernel_rfl) (fun _ _ _ h => h) (Or.inl ⟨by rfl, ?hy⟩) (by assumption) ?_
  case hy => (intro w9 hSw; (try dsimp only at hSw); go_simp; try with_reducible rfl)
  try simp only [Act.put, List.setIfInBounds_toArray, List.set_cons_zero, List.set_cons_succ]
  refine wpAnyH_take (i := 6) (oi := { dst := some 12, op := Go.Op.indexAddr 22 (Go.Operand.tmp 10) (Go.Operand.tmp 11), type := 0, pos := "quotient.go:136", after := #[{ on := 4, ground := Go.Ground.data }, { on := 5, ground := Go.Ground.data }], guard := none }) (v := ?_) rfl (by kernel_rfl) (by kernel_rfl) (by kernel_rfl) (fun _ _ _ h => h) (Or.inl ⟨by rfl, ?hy⟩) (by assumption) ?_
  case hy => (intro w9 hSw; (try dsimp only at hSw); go_simp; try with_reducible rfl)
  try simp only [Act.put, List.setIfInBounds_toArray, List.set_cons_zero, List.set_cons_succ]
  refine wpAnyH_take (i := 7) (oi := { dst := some 13, op := Go.Op.load 31 (Go.Operand.tmp 12), type := 31, pos := "quotient.go:136", after := #[{ on := 6, ground := Go.Ground.data }], guard := none }) (v := ?_) rfl (by kernel_rfl) (by kernel_rfl) (by kernel_rfl) (fun _ _ _ h => h) (Or.inl ⟨by rfl, ?hy⟩) (by assumption) ?_
  case hy => (intro w9 hSw; (try dsimp only at hSw); go_simp; try with_reducible rfl)
  try simp only [Act.put, List.setIfInBounds_toArray, List.set_cons_zero, List.set_cons_succ]
  refine wpAnyH_ready (rs := [8]) (by kernel_rfl) (by simp) ?_
  refine AllReadyH.cons (o := { dst := some 14, op := Go.Op.call { callee := Go.Callee.value (Go.Operand.func 10), args := #[Go.Operand.tmp 9, Go.Operand.tmp 13], argTypes := #[31, 31] }, type := 4, pos := "quotient.go:136", after := #[{ on := 3, ground := Go.Ground.data }, { on := 7, ground := Go.Ground.data }], guard := none }) rfl (fun K hK => ?_) AllReadyH.nil
  go_simp
  refine (finer_any (r x) 0 (r y) 0 q q q (G x) (G y) _ hq (HROW.out _ (by assumption) x hx) (HROW.out _ (by assumption) y hy)).mono ?_
  rintro e w5 ⟨⟨u, rfl, hu⟩, hb5⟩
  obtain rfl : u = P x y := bool_eq hu (HP.out x y)
  refine hK.out _ _ ?_ (fun hHeld => ?_)
  · exact Below.then hHeld hb5
  clear hK K
  try simp only [Act.put, List.setIfInBounds_toArray, List.set_cons_zero, List.set_cons_succ]
  refine wpAnyH_take (i := 9) (oi := { dst := some 5, op := Go.Op.assign (Go.Operand.tmp 14), type := 4, pos := "quotient.go:136", after := #[{ on := 8, ground := Go.Ground.data }, { on := 8, ground := Go.Ground.chain }, { on := 0, ground := Go.Ground.phase }, { on := 1, ground := Go.Ground.phase }, { on := 2, ground := Go.Ground.phase }, { on := 3, ground := Go.Ground.phase }, { on := 4, ground := Go.Ground.phase }, { on := 5, ground := Go.Ground.phase }, { on := 6, ground := Go.Ground.phase }, { on := 7, ground := Go.Ground.phase }, { on := 8, ground := Go.Ground.phase }], guard := none }) (v := ?_) rfl (by kernel_rfl) (by kernel_rfl) (by kernel_rfl) (fun _ _ _ h => h) (Or.inl ⟨by rfl, ?hy⟩) (by assumption) ?_
  case hy => (intro w9 hSw; (try dsimp only at hSw); go_simp; try with_reducible rfl)
  try simp only [Act.put, List.setIfInBounds_toArray, List.set_cons_zero, List.set_cons_succ]
  refine wpAnyH_done (by kernel_rfl) ?_ _
  try simp only [Act.put, List.setIfInBounds_toArray, List.set_cons_zero, List.set_cons_succ]
  have HB5 : Hid (Below W.heap.size W w5) := Below.then ((Below.refl _ _).drew) hb5
  clear hb5 hu hHeld l0 l1 l2
  go_wp2_with fail
  go_ret
  exact ⟨rfl, HB5.out⟩
/-- The tables that LatticeOf finds. -/
theorem glb_of {q : Nat} {m j : Nat → Nat → Nat} {n : Nat} {G : Nat → Nat → Nat} {P : Nat → Nat → Bool} (h : Cgs q m j n G) (hm : Inn q m) (hj : Inn q j) (hP : ∀ x y, P x y = true ↔ Ker q (G x) (G y)) :
    (∀ x y, x < n → y < n → 0 ≤ mZ P n x y ∧ 0 ≤ jZ P n x y) ∧ Glb n P (mT P n) ∧ Glb n (fun a b => P b a) (jT P n) := by
  have lo : ∀ x y, x < n → y < n → ∃ z, z < n ∧ mZ P n x y = (z : Int) ∧ loB P x y z n = true := fun x y hx hy => lst_so (I := fun z => loB P x y z n) n (h.low hm hj hP hx hy)
  have hi : ∀ x y, x < n → y < n → ∃ z, z < n ∧ jZ P n x y = (z : Int) ∧ loB (fun a b => P b a) x y z n = true := fun x y hx hy => by
    obtain ⟨z, hz, e, hI⟩ := lst_so (I := fun z => hgB P x y z n) n (h.high hm hj hP hx hy)
    exact ⟨z, hz, e, by rw [← hgB_is]; exact hI⟩
  refine ⟨fun x y hx hy => ?_, ?_, ?_⟩
  · obtain ⟨z, _, e, _⟩ := lo x y hx hy
    obtain ⟨z', _, e', _⟩ := hi x y hx hy
    omega
  · have key : ∀ x y, x < n → y < n → mT P n x y < n ∧ loB P x y (mT P n x y) n = true := fun x y hx hy => by
      obtain ⟨z, hz, e, hI⟩ := lo x y hx hy
      have : mT P n x y = z := by unfold mT; rw [e]; simp
      rw [this]; exact ⟨hz, hI⟩
    exact ⟨fun x y hx hy => (key x y hx hy).1, fun x y hx hy => ((loB_iff n).1 (key x y hx hy).2).1.1, fun x y hx hy => ((loB_iff n).1 (key x y hx hy).2).1.2, fun x y w hx hy hw h1 h2 => ((loB_iff n).1 (key x y hx hy).2).2 w hw h1 h2⟩
  · have key : ∀ x y, x < n → y < n → jT P n x y < n ∧ loB (fun a b => P b a) x y (jT P n x y) n = true := fun x y hx hy => by
      obtain ⟨z, hz, e, hI⟩ := hi x y hx hy
      have : jT P n x y = z := by unfold jT; rw [e]; simp
      rw [this]; exact ⟨hz, hI⟩
    exact ⟨fun x y hx hy => (key x y hx hy).1, fun x y hx hy => ((loB_iff n).1 (key x y hx hy).2).1.1, fun x y hx hy => ((loB_iff n).1 (key x y hx hy).2).1.2, fun x y w hx hy hw h1 h2 => ((loB_iff n).1 (key x y hx hy).2).2 w hw h1 h2⟩
theorem bgI_nbr (c : Nat → Nat) : ∀ k, bgI (fun i => ((nbr c i : Nat) : Int)) k = ((clsN c k : Nat) : Int)
  | 0 => rfl
  | k + 1 => by
    rw [bgI, bgI_nbr c k]
    cases h : frst c k
    · obtain ⟨a, ha, ea, fa⟩ := first_of c (c k) k rfl
      have hak : a < k := by
        rcases Nat.lt_or_eq_of_le ha with h' | h'
        · exact h'
        · subst h'; rw [h] at fa; cases fa
      have h1 := nbr_first fa ha ea
      have h2 := cls_less fa hak
      have h3 : clsN c (k + 1) = clsN c k := cntB_no h
      rw [if_neg (by omega), h3]
    · have h1 := nbr_new h
      have h3 : clsN c (k + 1) = clsN c k + 1 := cntB_yes h
      rw [if_pos (by omega), h1, h3]
      simp
theorem bgI_congr {f g : Nat → Int} : ∀ {k : Nat}, (∀ i, i < k → f i = g i) → bgI f k = bgI g k
  | 0, _ => rfl
  | k + 1, h => by
    rw [bgI, bgI, bgI_congr (k := k) (fun i hi => h i (by omega)), h k (by omega)]
theorem ris_cg {q : Nat} {m j : Nat → Nat → Nat} {g : Nat → Nat} (h : Cg q m j g) : RisC (fun i => ((g i : Nat) : Int)) q := fun k hk => by
  obtain ⟨c, _, e⟩ := h
  have h1 : bgI (fun i => ((g i : Nat) : Int)) k = ((clsN c k : Nat) : Int) := by
    rw [← bgI_nbr c k]
    exact bgI_congr (fun i hi => by rw [e i (by omega)])
  have h2 := nbr_rise c k
  rw [h1]
  have h3 := e k hk
  simp [pnt]
  omega
theorem con_cg {q : Nat} {m j : Nat → Nat → Nat} {g : Nat → Nat} (hm : Inn q m) (hj : Inn q j) (h : Cg q m j g) : Con q m j (natF (fun i => ((g i : Nat) : Int))) := by
  obtain ⟨c, hc, e⟩ := h
  have en : natF (fun i => ((g i : Nat) : Int)) = g := by funext i; simp [natF]
  rw [en]
  intro x y z hx hy hz e'
  rw [e x hx, e y hy] at e'
  have := hc x y z hx hy hz (nbr_ker.1 e')
  rw [e _ (hm x z hx hz), e _ (hm y z hy hz), e _ (hj x z hx hz), e _ (hj y z hy hz)]
  exact ⟨nbr_ker.2 this.1, nbr_ker.2 this.2⟩

set_option maxHeartbeats 8000000 in
theorem quotientFunayama_any (n : Int) (a : Option Addr) (la ca : Nat) (SA : Nat → Option Addr × Nat × Nat) (FA : Nat → Nat → Int) (b : Option Addr) (lb cb : Nat) (SB : Nat → Option Addr × Nat × Nat) (FB : Nat → Nat → Int) (w : World) (hla : la ≤ maxLen) (hlb : lb ≤ maxLen) (hra : RR w a la SA FA) (hrb : RR w b lb SB FB) :
    Calls Try.prog 3 #[.agg #[.int .i64 n, .slice a la ca, .slice b lb cb]] w fun e w' => e = .returned (.bool true) ∧ Below w.heap.size w w' := by
  have HB0 : Hid (Below w.heap.size w (w.alloc (.cells #[.int .i64 n, .slice a la ca, .slice b lb cb] 24))) := (Below.refl _ _).alloc (Nat.le_refl _) _
  have HS : Hid (QL n a la ca SA FA b lb cb SB FB w.heap.size (w.alloc (.cells #[.int .i64 n, .slice a la ca, .slice b lb cb] 24))) := QL.new hra hrb
  clear hra hrb
  go_enter Try.func3, Try.ntmps3
  go_wp2_with fail
  refine (quotientBegun_any _).mono ?_
  rintro e w1 ⟨rfl, hb1⟩
  have HB1 : Hid (Below w.heap.size w w1) := Below.then HB0.out hb1
  have HS1 : Hid (QL n a la ca SA FA b lb cb SB FB w.heap.size w1) := HS.out.step hb1
  clear hb1 HB0 HS
  obtain ⟨k0, k1, k2⟩ := HS1.out.bx
  go_wp2_with fail
  refine (all_any n a la ca SA FA b lb cb SB FB _ hla hlb HS1.out.ra HS1.out.rb).mono ?_
  rintro e w2 ⟨⟨c, v, rfl, hA⟩, hb2⟩
  have HB2 : Hid (Below w.heap.size w w2) := Below.then HB1.out hb2
  have HS2 : Hid (QL n a la ca SA FA b lb cb SB FB w.heap.size w2) := HS1.out.step hb2
  clear hb2 HB1 HS1 k0 k1 k2
  by_cases h0 : c = 0
  rotate_left
  · skip
    have hne : (c != 0) = true := by simpa using h0
    have HF : Hid (∀ o : Obj, Below w.heap.size w (w2.alloc o)) := fun o => HB2.out.alloc HB2.out.size o
    obtain ⟨av, lv, cv, rfl⟩ : ∃ av lv cv, v = .slice av lv cv := by
      rcases hA with ⟨_, _, rfl⟩ | ⟨_, ⟨_, rfl, _⟩ | ⟨h, _⟩⟩
      · exact ⟨_, _, _, rfl⟩
      · exact ⟨_, _, _, rfl⟩
      · exact absurd h h0
    clear hA
    go_wp2_with fail
    go_ret
    exact ⟨rfl, HF.out _⟩
  subst h0
  rcases hA with ⟨h, _⟩ | ⟨hlk, ⟨h, _⟩ | ⟨_, r, k, G, hcr, hk40, hcg, hss, hall⟩⟩
  · exact absurd rfl h
  · cases h
  have hlkH : LCk n la SA FA lb SB FB 0 := hlk
  obtain ⟨q, rfl, h1, h40, rfl, rfl, hsa, hsb, hga, hgb, hLat⟩ := hlk.good
  simp only [Int.toNat_natCast] at hcr hcg hss hall
  have HCGS : Hid (Cgs lb (nat2 FA) (nat2 FB) k G) := ⟨hcg, srt_diff hss, hall⟩
  have hk1 : 1 ≤ k := by
    obtain ⟨x, hx, _⟩ := hall (fun x => x) (con_id _ _ _)
    omega
  obtain ⟨gv, cv, rfl⟩ := owns_form hcr.own (by omega)
  have HQC : Hid (∀ i, i < k → QCk (lb : Int) lb SA FA lb SB FB lb (fun t => ((G i t : Nat) : Int)) 0) := fun i hi => .inr ⟨hlkH, .inr ⟨rfl, .inr ⟨rfl, ris_cg (hcg i hi)⟩⟩⟩
  have HQT : Hid (∀ i, i < k → Con lb (nat2 FA) (nat2 FB) (natF (fun t => ((G i t : Nat) : Int)))) := fun i hi => con_cg hLat.im hLat.ij (hcg i hi)
  have HLAT : Hid (Lat lb (nat2 FA) (nat2 FB)) := hLat
  have hlbm : lb ≤ maxLen := hlb
  obtain ⟨W4, HW4⟩ : ∃ W4, Hid (W4 = w2.alloc (.cells #[.slice (some ⟨gv, 0, none⟩) k cv] 22)) := ⟨_, rfl⟩
  obtain ⟨X, HX⟩ : ∃ X, Hid (X = w2.heap.size) := ⟨_, rfl⟩
  have hb4 : Below w2.heap.size w2 W4 := by rw [HW4.out]; exact (Below.refl _ _).alloc (Nat.le_refl _) _
  have HXC : Hid (W4.cell? ⟨X, 0, none⟩ = some (.slice (some ⟨gv, 0, none⟩) k cv)) := by rw [HW4.out, HX.out]; simp [Hid]
  have HCR := (show Hid _ from hcr.step hb4)
  have HB4 : Hid (Below w.heap.size w W4) := Below.then HB2.out hb4
  have HS4 : Hid (QL (lb : Int) a lb ca SA FA b lb cb SB FB w.heap.size W4) := HS2.out.step hb4
  have HCELL : Hid (∀ wx, Below W4.heap.size W4 wx → ∀ i, i < k → wx.cell? ⟨gv, i, none⟩ = some (.slice (some ⟨r i, 0, none⟩) lb lb)) := fun wx h i hi => by
    refine cell_step h ?_
    rw [HCR.out.own.cellAt i (by omega)]
    simp [slv, hi]
  have HROW : Hid (∀ wx, Below W4.heap.size W4 wx → ∀ i, i < k → Row wx (some ⟨r i, 0, none⟩) lb (fun t => ((G i t : Nat) : Int))) := fun wx h i hi => (HCR.out.rows i hi).row.below h
  clear hlk hlkH hsa hsb hga hgb hLat hcr hcg hss hall hb4 HB2 HS2 HCR
  go_upto_region 4 with fail
  rw [← HW4.out, ← HX.out]
  clear HW4 HX
  have HW0 : Hid (Below W4.heap.size W4 W4) := Below.refl _ _
  go_wp2_with fail
  go_loopw [5] (fun t wx => ∃ i : Nat, i ≤ k ∧ t = .int .i64 i ∧ Hid (Below W4.heap.size W4 wx)) (fun t _ => k - (intOf t).toNat)
  case atStart => exact ⟨0, Nat.zero_le _, rfl, HW0.out⟩
  case round =>
    clear HW0
    obtain ⟨i, hi, rfl, HW⟩ := hrel
    have x0 := cell_step HW.out HXC.out
    by_cases hil : i < k
    · have hii : (i : Int) < (k : Int) := by omega
      have l0 : ∀ w', Below wr.heap.size wr w' → w'.cell? ⟨w.heap.size, 0, none⟩ = some (.int .i64 lb) := fun w' h => (HS4.out.bx.step (Below.then HW.out h)).1
      have l1 : ∀ w', Below wr.heap.size wr w' → w'.cell? ⟨w.heap.size, 1, none⟩ = some (.slice a lb ca) := fun w' h => (HS4.out.bx.step (Below.then HW.out h)).2.1
      have l2 : ∀ w', Below wr.heap.size wr w' → w'.cell? ⟨w.heap.size, 2, none⟩ = some (.slice b lb cb) := fun w' h => (HS4.out.bx.step (Below.then HW.out h)).2.2
      have l3 : ∀ w', Below wr.heap.size wr w' → w'.cell? ⟨X, 0, none⟩ = some (.slice (some ⟨gv, 0, none⟩) k cv) := fun w' h => cell_step (Below.then HW.out h) HXC.out
      have l4 : ∀ w', Below wr.heap.size wr w' → w'.cell? ⟨gv, i, none⟩ = some (.slice (some ⟨r i, 0, none⟩) lb lb) := fun w' h => HCELL.out _ (Below.then HW.out h) i hil
      go_wp2_with fail
      refine wp_region_held_drew (S := (fun w' => Below wr.heap.size wr w')) (by kernel_rfl) ((Below.refl _ _).drew) (fun hHeld => ?_)
      refine wpAnyH_take (i := 0) (oi := { dst := some 27, op := Go.Op.load 24 (Go.Operand.tmp 1), type := 24, pos := "quotient.go:131", after := #[], guard := none }) (v := ?_) rfl (by kernel_rfl) (by kernel_rfl) (by kernel_rfl) (fun _ _ _ h => h) (Or.inl ⟨by rfl, ?hy⟩) (by assumption) ?_
      case hy => (intro w9 hSw; (try dsimp only at hSw); go_simp; try with_reducible rfl)
      try simp only [Act.put, List.setIfInBounds_toArray, List.set_cons_zero, List.set_cons_succ]
      refine wpAnyH_take (i := 1) (oi := { dst := some 28, op := Go.Op.load 22 (Go.Operand.tmp 3), type := 22, pos := "quotient.go:131", after := #[], guard := none }) (v := ?_) rfl (by kernel_rfl) (by kernel_rfl) (by kernel_rfl) (fun _ _ _ h => h) (Or.inl ⟨by rfl, ?hy⟩) (by assumption) ?_
      case hy => (intro w9 hSw; (try dsimp only at hSw); go_simp; try with_reducible rfl)
      try simp only [Act.put, List.setIfInBounds_toArray, List.set_cons_zero, List.set_cons_succ]
      refine wpAnyH_take (i := 2) (oi := { dst := some 29, op := Go.Op.move (Go.Operand.tmp 5), type := 3, pos := "quotient.go:131", after := #[], guard := none }) (v := ?_) rfl (by kernel_rfl) (by kernel_rfl) (by kernel_rfl) (fun _ _ _ h => h) (Or.inl ⟨by rfl, ?hy⟩) (by assumption) ?_
      case hy => (intro w9 hSw; (try dsimp only at hSw); go_simp; try with_reducible rfl)
      try simp only [Act.put, List.setIfInBounds_toArray, List.set_cons_zero, List.set_cons_succ]
      refine wpAnyH_take (i := 3) (oi := { dst := some 30, op := Go.Op.indexAddr 22 (Go.Operand.tmp 28) (Go.Operand.tmp 29), type := 0, pos := "quotient.go:131", after := #[{ on := 1, ground := Go.Ground.data }, { on := 2, ground := Go.Ground.data }], guard := none }) (v := ?_) rfl (by kernel_rfl) (by kernel_rfl) (by kernel_rfl) (fun _ _ _ h => h) (Or.inl ⟨by rfl, ?hy⟩) (by assumption) ?_
      case hy => (intro w9 hSw; (try dsimp only at hSw); go_simp; try with_reducible rfl)
      try simp only [Act.put, List.setIfInBounds_toArray, List.set_cons_zero, List.set_cons_succ]
      refine wpAnyH_take (i := 4) (oi := { dst := some 31, op := Go.Op.load 31 (Go.Operand.tmp 30), type := 31, pos := "quotient.go:131", after := #[{ on := 3, ground := Go.Ground.data }], guard := none }) (v := ?_) rfl (by kernel_rfl) (by kernel_rfl) (by kernel_rfl) (fun _ _ _ h => h) (Or.inl ⟨by rfl, ?hy⟩) (by assumption) ?_
      case hy => (intro w9 hSw; (try dsimp only at hSw); go_simp; try with_reducible rfl)
      try simp only [Act.put, List.setIfInBounds_toArray, List.set_cons_zero, List.set_cons_succ]
      refine wpAnyH_ready (rs := [5]) (by kernel_rfl) (by simp) ?_
      refine AllReadyH.cons (o := { dst := some 32, op := Go.Op.call { callee := Go.Callee.value (Go.Operand.func 7), args := #[Go.Operand.tmp 27, Go.Operand.tmp 31], argTypes := #[24, 31] }, type := 29, pos := "quotient.go:131", after := #[{ on := 0, ground := Go.Ground.data }, { on := 4, ground := Go.Ground.data }], guard := none }) rfl (fun K hK => ?_) AllReadyH.nil
      go_simp
      refine (congruent_any lb a lb ca SA FA b lb cb SB FB (some ⟨r i, 0, none⟩) lb lb (fun t => ((G i t : Nat) : Int)) _ hla hlb (HS4.out.ra.below (Below.then HW.out hHeld)) (HS4.out.rb.below (Below.then HW.out hHeld)) (HROW.out _ (Below.then HW.out hHeld) i hil)).mono ?_
      rintro e w5 ⟨⟨d, u, rfl, hd, hu⟩, hb5⟩
      obtain rfl := hd.one (HQC.out i hil)
      obtain rfl : u = true := by
        rcases hu with ⟨h, _⟩ | ⟨_, h⟩
        · exact absurd rfl h
        · exact h.2 (HQT.out i hil)
      refine hK.out _ _ ?_ (fun hHeld => ?_)
      · exact Below.then hHeld hb5
      clear hK K
      try simp only [Act.put, List.setIfInBounds_toArray, List.set_cons_zero, List.set_cons_succ]
      refine wpAnyH_take (i := 6) (oi := { dst := some 26, op := Go.Op.move (Go.Operand.tmp 32), type := 29, pos := "quotient.go:131", after := #[{ on := 5, ground := Go.Ground.data }], guard := none }) (v := ?_) rfl (by kernel_rfl) (by kernel_rfl) (by kernel_rfl) (fun _ _ _ h => h) (Or.inl ⟨by rfl, ?hy⟩) (by assumption) ?_
      case hy => (intro w9 hSw; (try dsimp only at hSw); go_simp; try with_reducible rfl)
      try simp only [Act.put, List.setIfInBounds_toArray, List.set_cons_zero, List.set_cons_succ]
      refine wpAnyH_take (i := 7) (oi := { dst := some 33, op := Go.Op.extract (Go.Operand.tmp 26) 0, type := 4, pos := "quotient.go:131", after := #[{ on := 6, ground := Go.Ground.data }], guard := none }) (v := ?_) rfl (by kernel_rfl) (by kernel_rfl) (by kernel_rfl) (fun _ _ _ h => h) (Or.inl ⟨by rfl, ?hy⟩) (by assumption) ?_
      case hy => (intro w9 hSw; (try dsimp only at hSw); go_simp; try with_reducible rfl)
      try simp only [Act.put, List.setIfInBounds_toArray, List.set_cons_zero, List.set_cons_succ]
      refine wpAnyH_take (i := 8) (oi := { dst := some 34, op := Go.Op.extract (Go.Operand.tmp 26) 1, type := 26, pos := "quotient.go:131", after := #[{ on := 6, ground := Go.Ground.data }, { on := 9, ground := Go.Ground.gcOnly Go.Departure.lateStores }], guard := none }) (v := ?_) rfl (by kernel_rfl) (by kernel_rfl) (by kernel_rfl) (fun _ _ _ h => h) (Or.inl ⟨by rfl, ?hy⟩) (by assumption) ?_
      case hy => (intro w9 hSw; (try dsimp only at hSw); go_simp; try with_reducible rfl)
      try simp only [Act.put, List.setIfInBounds_toArray, List.set_cons_zero, List.set_cons_succ]
      refine wpAnyH_take (i := 9) (oi := { dst := some 6, op := Go.Op.assign (Go.Operand.tmp 33), type := 4, pos := "quotient.go:131", after := #[{ on := 7, ground := Go.Ground.data }, { on := 5, ground := Go.Ground.chain }, { on := 0, ground := Go.Ground.phase }, { on := 1, ground := Go.Ground.phase }, { on := 2, ground := Go.Ground.phase }, { on := 3, ground := Go.Ground.phase }, { on := 4, ground := Go.Ground.phase }, { on := 5, ground := Go.Ground.phase }, { on := 6, ground := Go.Ground.phase }, { on := 7, ground := Go.Ground.phase }, { on := 8, ground := Go.Ground.textOnly Go.Departure.lateStores }], guard := none }) (v := ?_) rfl (by kernel_rfl) (by kernel_rfl) (by kernel_rfl) (fun _ _ _ h => h) (Or.inl ⟨by rfl, ?hy⟩) (by assumption) ?_
      case hy => (intro w9 hSw; (try dsimp only at hSw); go_simp; try with_reducible rfl)
      try simp only [Act.put, List.setIfInBounds_toArray, List.set_cons_zero, List.set_cons_succ]
      refine wpAnyH_take (i := 10) (oi := { dst := some 7, op := Go.Op.assign (Go.Operand.tmp 34), type := 26, pos := "quotient.go:131", after := #[{ on := 8, ground := Go.Ground.data }, { on := 9, ground := Go.Ground.chain }, { on := 0, ground := Go.Ground.phase }, { on := 1, ground := Go.Ground.phase }, { on := 2, ground := Go.Ground.phase }, { on := 3, ground := Go.Ground.phase }, { on := 4, ground := Go.Ground.phase }, { on := 5, ground := Go.Ground.phase }, { on := 6, ground := Go.Ground.phase }, { on := 7, ground := Go.Ground.phase }, { on := 8, ground := Go.Ground.phase }, { on := 9, ground := Go.Ground.phase }], guard := none }) (v := ?_) rfl (by kernel_rfl) (by kernel_rfl) (by kernel_rfl) (fun _ _ _ h => h) (Or.inl ⟨by rfl, ?hy⟩) (by assumption) ?_
      case hy => (intro w9 hSw; (try dsimp only at hSw); go_simp; try with_reducible rfl)
      try simp only [Act.put, List.setIfInBounds_toArray, List.set_cons_zero, List.set_cons_succ]
      refine wpAnyH_done (by kernel_rfl) ?_ _
      try simp only [Act.put, List.setIfInBounds_toArray, List.set_cons_zero, List.set_cons_succ]
      have HW5 : Hid (Below W4.heap.size W4 w5) := Below.then HW.out (Below.then ((Below.refl _ _).drew) hb5)
      clear hb5 hd hu hHeld l0 l1 l2 l3 l4 x0 HW
      go_wp2_with fail
      go_roundw
      case rel => exact ⟨i + 1, by omega, by go_num, HW5.out⟩
      case measure => simp [intOf]; omega
    · obtain rfl : i = k := by omega
      have hPex : ∀ x, ∃ f : Nat → Bool, ∀ y, f y = true ↔ Ker lb (G x) (G y) := fun x => by
        have : ∀ y, ∃ u : Bool, u = true ↔ Ker lb (G x) (G y) := fun y => by
          by_cases h : Ker lb (G x) (G y)
          · exact ⟨true, by simp [h]⟩
          · exact ⟨false, by simp [h]⟩
        exact Classical.axiomOfChoice this
      obtain ⟨P, hP⟩ := Classical.axiomOfChoice hPex
      have HP : Hid (∀ x y, P x y = true ↔ Ker lb (G x) (G y)) := hP
      have HCLO : Hid (Clo2 i 9 #[.pointer (some ⟨X, 0, none⟩)] P wr) := fun1_any i lb X gv cv r G P wr hlbm hP x0 (HCELL.out _ HW.out) (HROW.out _ HW.out)
      obtain ⟨hpos, hgM, hgJ⟩ := glb_of HCGS.out HLAT.out.im HLAT.out.ij hP
      have HPOS : Hid (∀ x y, x < i → y < i → 0 ≤ mZ P i x y ∧ 0 ≤ jZ P i x y) := hpos
      have HLT : Hid (Lat i (mT P i) (jT P i)) := HCGS.out.lat hP hgM hgJ
      have HDS : Hid (All3 i (disB (mT P i) (jT P i))) := fun x y z hx hy hz => by
        unfold disB
        rw [HCGS.out.dis HLAT.out hP hgM hgJ hx hy hz]
        simp
      clear hP hPex hpos hgM hgJ hil
      go_wp2_with fail
      refine (latticeOf_any i 9 _ P wr (by omega) (by omega) ent_fun1 HCLO.out).mono ?_
      rintro e w5 ⟨hof, hb5⟩
      rcases hof with ⟨⟨x, y, hx, hy, hneg⟩, _⟩ | ⟨_, T1, c1, T2, c2, R1, R2, rfl, ht1, ht2, _, _⟩
      · have := HPOS.out x y hx hy
        omega
      have HB5 : Hid (Below w.heap.size w w5) := Below.then HB4.out (Below.then HW.out hb5)
      obtain ⟨W6, HW6⟩ : ∃ W6, Hid (W6 = w5.alloc (.cells #[.int .i64 (i : Int), .slice (some ⟨T1, 0, none⟩) i c1, .slice (some ⟨T2, 0, none⟩) i c2] 24)) := ⟨_, rfl⟩
      obtain ⟨B8, HB8⟩ : ∃ B8, Hid (B8 = w5.heap.size) := ⟨_, rfl⟩
      have hb6 : Below w5.heap.size w5 W6 := by rw [HW6.out]; exact (Below.refl _ _).alloc (Nat.le_refl _) _
      have HL8 : Hid (LB W6 B8 i (some ⟨T1, 0, none⟩) i c1 (some ⟨T2, 0, none⟩) i c2) := by rw [HW6.out, HB8.out]; exact LB.new _ _ _ _ _ _ _ _
      have him : i ≤ maxLen := by unfold maxLen; omega
      have HR1 : Hid (RR W6 (some ⟨T1, 0, none⟩) i (fun x => (some ⟨(R1 x).1, (R1 x).2.1, none⟩, i, (R1 x).2.2)) (fun x y => (mT P i x y : Nat))) := (ht1.step hb6).rr him
      have HR2 : Hid (RR W6 (some ⟨T2, 0, none⟩) i (fun x => (some ⟨(R2 x).1, (R2 x).2.1, none⟩, i, (R2 x).2.2)) (fun x y => (jT P i x y : Nat))) := (ht2.step hb6).rr him
      have HB6 : Hid (Below w.heap.size w W6) := Below.then HB5.out hb6
      have HLK : Hid (LCk i i (fun x => (some ⟨(R1 x).1, (R1 x).2.1, none⟩, i, (R1 x).2.2)) (fun x y => (mT P i x y : Nat)) i (fun x => (some ⟨(R2 x).1, (R2 x).2.1, none⟩, i, (R2 x).2.2)) (fun x y => (jT P i x y : Nat)) 0) := LCk.of (by omega) (by omega) (fun _ _ => rfl) (fun _ _ => rfl) HLT.out
      clear ht1 ht2 hb5 hb6 HB5 HB4 HW
      go_upto_region 13 with fail
      rw [← HW6.out, ← HB8.out]
      clear HW6 HB8
      obtain ⟨p0, p1, p2⟩ := HL8.out
      go_wp2_with fail
      refine (distr_any (i : Int) (some ⟨T1, 0, none⟩) i c1 _ _ (some ⟨T2, 0, none⟩) i c2 _ _ W6 him him HR1.out HR2.out).mono ?_
      rintro e w7 ⟨⟨c, v, hc, rfl, hv⟩, hb7⟩
      obtain rfl := hc.one HLK.out
      obtain rfl : v = true := by
        rcases hv with ⟨h, _⟩ | ⟨_, h⟩
        · exact absurd rfl h
        · refine h.2 ?_
          rw [nat2_cast, nat2_cast]
          simpa using HDS.out
      have HB7 : Hid (Below w.heap.size w w7) := Below.then HB6.out hb7
      clear hb7 hc hv
      go_wp2_with fail
      go_ret
      exact ⟨rfl, HB7.out⟩
end Go.Proofs.Ytappekjkcgmheab
