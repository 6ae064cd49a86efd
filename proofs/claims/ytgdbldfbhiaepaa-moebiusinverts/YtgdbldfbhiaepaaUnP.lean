/-
  What moebius.Undo answers. Condition: slices read as slices of numbers.
-/
import Derived.Test.YtgdbldfbhiaepaaSumQ
namespace Go.Proofs.Ytgdbldfbhiaepaa
open Go.RowKit Go.Maps

theorem OwnI.over {hi : Nat} {w w' : World} {b n : Nat} {F : Nat → Int} (h : OwnI w b n F) (ho : Over hi w w') (hb : hi ≤ b) : OwnI w' b n F := fun k hk => by
  have hlt := World.block_lt_of_cell? _ _ (h k hk).1
  have e := ho b hb hlt
  exact ⟨(World.cell?_of_block (w := w) e).trans (h k hk).1, (World.frozen?_of_block (w := w) e).trans (h k hk).2⟩
/-- What is undone. -/
def unI (g : Nat → Nat) (F : Nat → Int) (n x : Nat) : Int := wz (Uo (blw g) F n (ht g n) x)
theorem ent_u1 : Ent 42 := fun _ _ => rfl
theorem u1_any {n x b : Nat} {a : Option Addr} {cap : Nat} {F : Nat → Int} {w : World} (_hn : n ≤ 10) (hx : x < n) (hc : w.cell? ⟨b, 0, none⟩ = some (.slice a n cap)) (hr : Row w a n (fun k => wz (F k))) :
    Calls Try.prog 42 #[.int .i64 (x : Nat), .pointer (some ⟨b, 0, none⟩)] w fun e w' => e = .returned (.int .i64 (wz (F x))) ∧ Below w.heap.size w w' := by
  obtain ⟨b2, off, rfl, hcc⟩ := hr.at hx
  have hck := hcc x hx
  clear hcc hr
  generalize wz (F x) = Y at *
  go_enter Try.func42, Try.ntmps42
  go_wp2
  go_ret
  exact ⟨rfl, Below.refl _ _⟩

set_option maxHeartbeats 2000000 in
theorem undoX_any (n : Int) (a : Option Addr) (len cap : Nat) (f : Nat → Int) (a' : Option Addr) (la cap' : Nat) (F : Nat → Int) (w : World) (hl : len ≤ maxLen) (hla : la ≤ maxLen) (hr : Row w a len f) (hr' : Row w a' la F) :
    Calls Try.prog 21 #[.agg #[.int .i64 n, .slice a len cap], .slice a' la cap'] w fun e w' => SmPost n len f la F unI e w' ∧ Below w.heap.size w w' := by
  have K0 : Held (w.alloc (.cells #[.int .i64 n, .slice a len cap] 24)) w.heap.size n a len cap f := Held.box hr
  obtain ⟨W0, HW0⟩ : ∃ W0, Hid (W0 = (w.alloc (.cells #[.int .i64 n, .slice a len cap] 24)).alloc (.cells #[.slice a' la cap'] 22)) := ⟨_, rfl⟩
  have HB0 : Hid (Below w.heap.size w W0) := by rw [HW0.out]; exact ((Below.refl _ _).alloc (Nat.le_refl _) _).alloc (by simp) _
  have KW : Held W0 w.heap.size n a len cap f := by rw [HW0.out]; exact K0.step ((Below.refl _ _).alloc (Nat.le_refl _) _)
  have cW : W0.cell? ⟨w.heap.size + 1, 0, none⟩ = some (.slice a' la cap') := by rw [HW0.out]; exact cell_new _ _ _ _ (by simp)
  have HR : Hid (Row w a' la F) := hr'
  have HLA : Hid (la ≤ maxLen) := hla
  clear hr hr' hla K0
  go_enter Try.func21, Try.ntmps21
  go_wp2_with fail
  rw [← HW0.out]
  refine (checkS_any n a len cap f a' la cap' F _ hl HLA.out KW.row (HR.out.below HB0.out)).mono ?_
  rintro e w1 ⟨⟨c, rfl, hc⟩, hb⟩
  have K1 := KW.step hb
  have c2 := (hb.cell (World.block_lt_of_cell? _ _ cW)).trans cW
  have HB1 : Hid (Below w.heap.size w w1) := Below.then HB0.out hb
  have HC : Hid (SmCk n len f la F c) := hc
  clear hb KW cW HB0 hc HW0
  by_cases h0 : c = 0
  · subst h0
    obtain ⟨hck, rfl, hin⟩ : Chk n len f 0 ∧ la = len ∧ ∀ k, k < la → inR (F k) := by
      rcases HC.out with ⟨h, _⟩ | ⟨h, ⟨h1, _⟩ | ⟨h1, ⟨h2, _⟩ | ⟨_, h3⟩⟩⟩
      · exact absurd rfl h
      · cases h1
      · cases h2
      · exact ⟨h, h1, h3⟩
    obtain ⟨rfl, h10, hrng, hord⟩ := hck.good
    have HG : Hid (∀ k, k < la → nat f k < pw la) := hrng.small
    have HRK : Hid (Rk (blw (nat f)) la (ht (nat f) la)) := rk_ord h10 HG.out hord
    have HRW : Hid (∀ wx, Below w1.heap.size w1 wx → Row wx a la (fun k => (nat f k : Nat))) := fun wx h => hrng.row (K1.step h).row
    have HRF : Hid (Row w1 a' la (fun k => wz (F k))) := (HR.out.below HB1.out).congr fun k hk => (wz_small (by have := (hin k hk).1; omega) (by have := (hin k hk).2; omega)).symm
    have HCS : Hid (∀ wx, Below w1.heap.size w1 wx → CloS la 42 #[.pointer (some ⟨w.heap.size + 1, 0, none⟩)] F wx) := fun wx h x hx W hW =>
      u1_any h10 hx (((Below.then h hW).cell (World.block_lt_of_cell? _ _ c2)).trans c2) (HRF.out.below (Below.then h hW))
    have hc0 : ∀ wx, Below w1.heap.size w1 wx → wx.cell? ⟨w.heap.size, 0, none⟩ = some (.int .i64 (la : Nat)) := fun wx h => (K1.step h).c0
    have hc1 : ∀ wx, Below w1.heap.size w1 wx → wx.cell? ⟨w.heap.size, 1, none⟩ = some (.slice a la cap) := fun wx h => (K1.step h).c1
    have HC0 : Hid (∀ wx, Below w1.heap.size w1 wx → wx.cell? ⟨w.heap.size, 0, none⟩ = some (.int .i64 (la : Nat))) := hc0
    have HB2 : Hid (Below w1.heap.size w1 w1) := Below.refl _ _
    clear hck hin hrng hord HR hl HLA K1 c2 HRF
    obtain ⟨g, HGF⟩ : ∃ g, Hid (nat f = g) := ⟨_, rfl⟩
    rw [HGF.out] at HG HRK HRW
    go_wp2_with fail
    refine wp_region_held_drew (S := (fun w' => Below w1.heap.size w1 w')) (by kernel_rfl) (HB2.out.drew) (fun hHeld => ?_)
    refine wpAnyH_take (i := 0) (oi := { dst := some 16, op := Go.Op.fieldAddr 24 (Go.Operand.tmp 2) 0, type := 0, pos := "moebius.go:58", after := #[], guard := none }) (v := ?_) rfl (by kernel_rfl) (by kernel_rfl) (by kernel_rfl) (fun _ _ _ h => h) (Or.inl ⟨by rfl, ?hy⟩) (by assumption) ?_
    case hy => (intro w9 hSw; (try dsimp only at hSw); go_simp; try with_reducible rfl)
    try simp only [Act.put, List.setIfInBounds_toArray, List.set_cons_zero, List.set_cons_succ]
    refine wpAnyH_take (i := 1) (oi := { dst := some 17, op := Go.Op.load 3 (Go.Operand.tmp 16), type := 3, pos := "moebius.go:58", after := #[{ on := 0, ground := Go.Ground.data }], guard := none }) (v := ?_) rfl (by kernel_rfl) (by kernel_rfl) (by kernel_rfl) (fun _ _ _ h => h) (Or.inl ⟨by rfl, ?hy⟩) (by assumption) ?_
    case hy => (intro w9 hSw; (try dsimp only at hSw); go_simp; try with_reducible rfl)
    try simp only [Act.put, List.setIfInBounds_toArray, List.set_cons_zero, List.set_cons_succ]
    refine wpAnyH_take (i := 2) (oi := { dst := some 18, op := Go.Op.load 24 (Go.Operand.tmp 2), type := 24, pos := "moebius.go:58", after := #[], guard := none }) (v := ?_) rfl (by kernel_rfl) (by kernel_rfl) (by kernel_rfl) (fun _ _ _ h => h) (Or.inl ⟨by rfl, ?hy⟩) (by assumption) ?_
    case hy => (intro w9 hSw; (try dsimp only at hSw); go_simp; try with_reducible rfl)
    try simp only [Act.put, List.setIfInBounds_toArray, List.set_cons_zero, List.set_cons_succ]
    refine wpAnyH_take (i := 4) (oi := { dst := some 20, op := Go.Op.makeFunc (Go.Fn.func 42) #[] #[Go.Operand.tmp 3], type := 53, pos := "moebius.go:58", after := #[], guard := none }) (v := ?_) rfl (by kernel_rfl) (by kernel_rfl) (by kernel_rfl) (fun _ _ _ h => h) (Or.inl ⟨by rfl, ?hy⟩) (by assumption) ?_
    case hy => (intro w9 hSw; (try dsimp only at hSw); go_simp; try with_reducible rfl)
    try simp only [Act.put, List.setIfInBounds_toArray, List.set_cons_zero, List.set_cons_succ]
    refine wpAnyH_ready (rs := [3]) (by kernel_rfl) (by simp) ?_
    refine AllReadyH.cons (o := { dst := some 19, op := Go.Op.call { callee := Go.Callee.value (Go.Operand.func 29), args := #[Go.Operand.tmp 18], argTypes := #[24] }, type := 50, pos := "moebius.go:58", after := #[{ on := 2, ground := Go.Ground.data }], guard := none }) rfl (fun K hK => ?_) AllReadyH.nil
    go_simp
    refine (pointsBelow_any la a la cap g _ (HRW.out _ (by assumption))).mono ?_
    rintro e w8 ⟨⟨caps, rfl, hc8⟩, hb8⟩
    refine hK.out _ _ ?_ (fun hHeld => ?_)
    · first | assumption | exact Below.then (by assumption) (by assumption)
    clear hK K
    try simp only [Act.put, List.setIfInBounds_toArray, List.set_cons_zero, List.set_cons_succ]
    refine wpAnyH_ready (rs := [5]) (by kernel_rfl) (by simp) ?_
    refine AllReadyH.cons (o := { dst := some 21, op := Go.Op.call { callee := Go.Callee.value (Go.Operand.func 41), args := #[Go.Operand.tmp 17, Go.Operand.tmp 19, Go.Operand.tmp 20], argTypes := #[3, 50, 53] }, type := 53, pos := "moebius.go:58", after := #[{ on := 1, ground := Go.Ground.data }, { on := 3, ground := Go.Ground.data }, { on := 4, ground := Go.Ground.data }, { on := 3, ground := Go.Ground.chain }], guard := none }) rfl (fun K hK => ?_) AllReadyH.nil
    go_simp
    refine (undo_any (HRK.out) ent_u1 ent_pb (HCS.out _ (by assumption)) (clo_pb h10 HG.out (by first | exact hc8 rfl | exact (hc8 rfl).step (by assumption)))).mono ?_
    rintro e w9 ⟨⟨v9, rfl, hk9⟩, hb9⟩
    refine hK.out _ _ ?_ (fun hHeld => ?_)
    · first | assumption | exact Below.then (by assumption) (by assumption)
    clear hK K
    try simp only [Act.put, List.setIfInBounds_toArray, List.set_cons_zero, List.set_cons_succ]
    refine wpAnyH_take (i := 6) (oi := { dst := some 7, op := Go.Op.assign (Go.Operand.tmp 21), type := 53, pos := "moebius.go:58", after := #[{ on := 5, ground := Go.Ground.data }, { on := 5, ground := Go.Ground.chain }, { on := 0, ground := Go.Ground.phase }, { on := 1, ground := Go.Ground.phase }, { on := 2, ground := Go.Ground.phase }, { on := 3, ground := Go.Ground.phase }, { on := 4, ground := Go.Ground.phase }, { on := 5, ground := Go.Ground.phase }], guard := none }) (v := ?_) rfl (by kernel_rfl) (by kernel_rfl) (by kernel_rfl) (fun _ _ _ h => h) (Or.inl ⟨by rfl, ?hy⟩) (by assumption) ?_
    case hy => (intro w9 hSw; (try dsimp only at hSw); go_simp; try with_reducible rfl)
    try simp only [Act.put, List.setIfInBounds_toArray, List.set_cons_zero, List.set_cons_succ]
    refine wpAnyH_done (by kernel_rfl) ?_ _
    try simp only [Act.put, List.setIfInBounds_toArray, List.set_cons_zero, List.set_cons_succ]
    clear hc0 hc1
    obtain ⟨w7, HK9, HB79, HB17⟩ : ∃ w7, Hid (Knows la (Uo (blw g) F la (ht g la)) w7 w9.heap.size w9 v9) ∧ Hid (Below w7.heap.size w7 w9) ∧ Hid (Below w1.heap.size w1 w7) := ⟨_, hk9, hb9, by assumption⟩
    have HBW7 : Hid (Below w.heap.size w w7) := Below.then HB1.out HB17.out
    have HB9 : Hid (Below w1.heap.size w1 w9) := hHeld
    have k0 := HC0.out _ HB9.out
    clear hk9 hb9 hb8 hc8 hHeld HRW HRK HCS HB2 HG
    obtain ⟨U, HU⟩ : ∃ U, Hid (Uo (blw g) F la (ht g la) = U) := ⟨_, rfl⟩
    rw [HU.out] at HK9
    obtain ⟨caps9, rfl, -⟩ : ∃ caps, v9 = .func (.func 58) #[] caps ∧ True := by
      obtain ⟨K, S, N, I, M, Bm, Fs, Fb, cs, cb, D, B, s, r, e, _⟩ := HK9.out
      exact ⟨_, e, trivial⟩
    obtain ⟨i0, hi, hz0, hz1, hz2⟩ := info_parts Try.info3
    go_wp2_with (at_make; refine wpList_make_full _ rfl _ _ 22 rfl w9.heap.size 3 i0 (.int .i64 0) 1 Try.underlying22 hi hz0 hz1 .i64 .i64 _ _ la rfl rfl rfl rfl (by rw [hz2]; omega) (by unfold maxLen; omega) (by simp) ?_; intro w3 hown3 hgrow3)
    have hb3 : Below w9.heap.size w9 w3 := (Below.refl _ _).grown hgrow3 (Nat.le_refl _) (by simp)
    have HB3 : Hid (Below w7.heap.size w7 w3) := Below.then HB79.out hb3
    have HB13 : Hid (Below w1.heap.size w1 w3) := Below.then HB9.out hb3
    have HK3 : Hid (Knows la U w7 w9.heap.size w3 (.func (.func 58) #[] caps9)) := HK9.out.step hb3
    have HO3 : Hid (OwnI w3 w9.heap.size la (upToI (fun x => wz (U x)) 0)) := by rw [upToI_zero]; exact ownI_made hown3
    have HS3 : Hid (w9.heap.size ≤ w3.heap.size) := hb3.size
    have HS7 : Hid (w7.heap.size ≤ w9.heap.size) := HB79.out.size
    have HS1 : Hid (w1.heap.size ≤ w9.heap.size) := HB9.out.size
    clear hown3 hgrow3 hi hz0 hz1 hz2 k0 hb3 HK9 HB9 HB79
    go_wp2_with fail
    go_loopw [27] (fun x wx => ∃ u : Nat, u ≤ la ∧ x = .int .i64 u ∧ Hid (OwnI wx w9.heap.size la (upToI (fun x => wz (U x)) u)) ∧ Hid (Below w7.heap.size w7 wx) ∧ Hid (Knows la U w7 w9.heap.size wx (.func (.func 58) #[] caps9))) (fun x _ => la - (intOf x).toNat)
    case atStart => exact ⟨0, Nat.zero_le _, rfl, HO3.out, HB3.out, HK3.out⟩
    case round =>
      clear HO3 HB3 HK3 HB13
      obtain ⟨u, hu, rfl, HO, HW, HK⟩ := hrel
      by_cases hul : u < la
      · obtain ⟨caps, ec, hcall⟩ := HK.out.call (by omega) HW.out hul
        obtain rfl : caps9 = caps := by injection ec
        have HES : Hid (upToI (fun x => wz (U x)) (u + 1) = updI (upToI (fun x => wz (U x)) u) u (wz (U u))) := upToI_succ _ _
        have hlu : (u : Int) < (la : Int) := by omega
        have HCA : Hid (Calls Try.prog 58 (#[.int .i64 (u : Nat)] ++ caps9) wr fun e w' => e = .returned (.int .i64 (wz (U u))) ∧ Below w7.heap.size w7 w' ∧ Over w9.heap.size wr w' ∧ Knows la U w7 w9.heap.size w' (.func (.func 58) #[] caps9)) := hcall
        clear hcall ec
        go_wp2_with fail
        refine (Calls.mono HCA.out) ?_
        rintro e w5 ⟨rfl, hb5, ho5, hk5⟩
        have HO5 : Hid (OwnI w5 w9.heap.size la (upToI (fun x => wz (U x)) u)) := HO.out.over ho5 (Nat.le_refl _)
        have HW5 : Hid (Below w7.heap.size w7 w5) := hb5
        have HK5 : Hid (Knows la U w7 w9.heap.size w5 (.func (.func 58) #[] caps9)) := hk5
        have hcI := (HO5.out u hul).1
        have hfI := (HO5.out u hul).2
        clear hb5 ho5 hk5 HO HW HK HCA
        obtain ⟨Y, HY⟩ : ∃ Y, Hid (wz (U u) = Y) := ⟨_, rfl⟩
        rw [HY.out]
        rw [HY.out] at HES
        go_wp2_with fail
        go_roundw
        case rel => exact ⟨u + 1, by omega, by go_num, by rw [HES.out]; exact HO5.out.set u Y, HW5.out.setCell (p := ⟨w9.heap.size, u, none⟩) HS7.out _, HK5.out.step ((Below.refl _ _).setCell (p := ⟨w9.heap.size, u, none⟩) (Nat.le_refl _) _)⟩
        case measure => simp [intOf]; omega
      · obtain rfl : u = la := by omega
        have HF : Hid (ISl wr (.slice (some ⟨w9.heap.size, 0, none⟩) u u) u (fun x => wz (U x))) := ⟨_, _, rfl, (HO.out.congr fun k hk => by simp [upToI, hk]).row⟩
        clear HO
        go_wp2_with fail
        go_ret2
        refine ⟨⟨0, _, HC.out, rfl, .inr ⟨rfl, ?_⟩⟩, Below.then HBW7.out HW.out⟩
        have e : unI (nat f) F u = fun x => wz (U x) := by funext x; rw [HGF.out, unI, HU.out]
        rw [e]; exact HF.out
  · have hne : (c != 0) = true := by simpa using h0
    go_wp2_with fail
    go_ret2
    exact ⟨⟨c, _, HC.out, rfl, .inl ⟨h0, rfl⟩⟩, HB1.out⟩
end Go.Proofs.Ytgdbldfbhiaepaa
