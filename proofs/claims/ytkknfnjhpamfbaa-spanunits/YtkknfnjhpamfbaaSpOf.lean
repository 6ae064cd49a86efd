/-
  What span.Of answers, whatever list of pairs it is handed: the order of the stretches. No condition but that a slice reads as a slice of pairs.
-/
import Derived.Test.YtkknfnjhpamfbaaGiven
import Derived.Test.YtkknfnjhpamfbaaBuild
namespace Go.Proofs.Ytkknfnjhpamfbaa
open Go.RowKit

/-- Who is below y. -/
def sp (p : Nat → Int × Int) (n y : Nat) : Nat := setBy (fun x => decide ((p x).2 < (p y).1)) n
/-- The sets up to y, and of y's own as far as the first x points go. -/
def spTo (p : Nat → Int × Int) (n y x k : Nat) : Nat := if k < y then sp p n k else if k = y then sp p x y else 0
theorem spTo_start (p : Nat → Int × Int) (n : Nat) : ∀ k, spTo p n 0 0 k = 0 := fun k => by
  unfold spTo sp
  split
  · omega
  · split <;> rfl
theorem spTo_next (p : Nat → Int × Int) (n y : Nat) : ∀ k, spTo p n y n k = spTo p n (y + 1) 0 k := fun k => by
  unfold spTo
  by_cases h1 : k < y
  · rw [if_pos h1, if_pos (by omega)]
  · rw [if_neg h1]
    by_cases h2 : k = y
    · subst h2; rw [if_pos rfl, if_pos (by omega)]
    · rw [if_neg h2, if_neg (by omega)]
      split <;> rfl
theorem spTo_end (p : Nat → Int × Int) (n : Nat) : ∀ k, k < n → spTo p n n 0 k = sp p n k := fun k hk => by
  unfold spTo; rw [if_pos hk]
theorem spTo_no {p : Nat → Int × Int} {y x : Nat} (n : Nat) (h : ¬ (p x).2 < (p y).1) : ∀ k, spTo p n y x k = spTo p n y (x + 1) k := fun k => by
  unfold spTo
  have : sp p (x + 1) y = sp p x y := setBy_no (by simpa using h)
  rw [this]
theorem spTo_yes {p : Nat → Int × Int} {y x : Nat} (n : Nat) (h : (p x).2 < (p y).1) : ∀ k, upd (spTo p n y x) y (sp p x y ||| pw x) k = spTo p n y (x + 1) k := fun k => by
  have h1 : sp p (x + 1) y = sp p x y + pw x := setBy_yes (by simpa using h)
  have h2 : sp p x y ||| pw x = sp p x y + pw x := or_pw_add (setBy_lt _ x)
  by_cases e : k = y
  · subst e
    rw [upd_same, h2, ← h1]
    unfold spTo
    rw [if_neg (Nat.lt_irrefl _), if_pos rfl]
  · rw [upd_other _ _ _ _ e]
    unfold spTo
    simp only [e, if_false]
theorem spTo_at (p : Nat → Int × Int) (n y x : Nat) : spTo p n y x y = sp p x y := by
  unfold spTo; rw [if_neg (Nat.lt_irrefl _), if_pos rfl]

/-- What Of must answer. -/
def SCk (len : Nat) (p : Nat → Int × Int) (c : Int) : Prop :=
  (c = 2 ∧ 10 < len) ∨ (c = 3 ∧ len ≤ 10 ∧ ∃ k, k < len ∧ (p k).2 < (p k).1) ∨ (c = 0 ∧ len ≤ 10 ∧ ∀ k, k < len → (p k).1 ≤ (p k).2)
theorem SCk.one {len : Nat} {p : Nat → Int × Int} {c d : Int} (h : SCk len p c) (h' : SCk len p d) : c = d := by
  rcases h with ⟨rfl, h1⟩ | ⟨rfl, h1, k, h2, h3⟩ | ⟨rfl, h1, h2⟩ <;> rcases h' with ⟨rfl, g1⟩ | ⟨rfl, g1, j, g2, g3⟩ | ⟨rfl, g1, g2⟩ <;> first | rfl | omega | (exfalso; have := g2 k h2; omega) | (exfalso; have := h2 j g2; omega)

/-- The pairs lie from off on in block b. -/
def PCs (W : World) (b off len : Nat) (p : Nat → Int × Int) : Prop := ∀ k, k < len → W.cell? ⟨b, off + k * 2, none⟩ = some (.int .i64 (p k).1) ∧ W.cell? ⟨b, off + k * 2 + 1, none⟩ = some (.int .i64 (p k).2)
theorem PCs.alloc {W : World} {b off len : Nat} {p : Nat → Int × Int} (h : PCs W b off len p) (o : Obj) : PCs (W.alloc o) b off len p := fun k hk => by
  obtain ⟨k1, k2⟩ := h k hk
  have h1 := World.block_lt_of_cell? _ _ k1
  have h2 := World.block_lt_of_cell? _ _ k2
  exact ⟨(World.cell?_alloc_old _ _ _ (Nat.ne_of_lt h1)).trans k1, (World.cell?_alloc_old _ _ _ (Nat.ne_of_lt h2)).trans k2⟩
theorem PCs.set {W : World} {b off len : Nat} {p : Nat → Int × Int} (h : PCs W b off len p) (B y : Nat) (v : Value) (hb : b ≠ B) : PCs (W.setCell ⟨B, y, none⟩ v) b off len p := fun k hk => by
  obtain ⟨k1, k2⟩ := h k hk
  exact ⟨(World.cell?_setCell_other _ _ _ _ (fun e => by injection e with e1; first | exact hb e1 | exact hb e1.symm)).trans k1, (World.cell?_setCell_other _ _ _ _ (fun e => by injection e with e1; first | exact hb e1 | exact hb e1.symm)).trans k2⟩

set_option maxHeartbeats 2000000 in
theorem spOf_any (a : Option Addr) (len cap : Nat) (p : Nat → Int × Int) (w : World) (hl : len ≤ maxLen) (hr : PRow w a len p) :
    Calls Try.prog 9 #[.slice a len cap] w fun e w' => (∃ c x, e = .returned (.tuple #[x, .int .i64 c]) ∧ SCk len p c ∧ OrdErr c len len (fun k => (sp p len k : Nat)) x w') ∧ Below w.heap.size w w' := by
  unfold maxLen at hl
  have HR := (show Hid (PRow w a len p) from hr)
  clear hr
  by_cases h10 : len ≤ 10
  · have hd : cnt (len : Int) = true := by simp [cnt]; omega
    obtain ⟨i0, hi, hz0, hz1, hz2⟩ := info_parts Try.info3
    go_enter Try.func9, Try.ntmps9
    go_wp2_with (first | (go_at_call 26; refine (isCount_any _ _).mono ?_; rintro e w' ⟨rfl, rfl⟩) | (at_make; refine wpList_make_full _ rfl _ _ 23 rfl (w.heap.size + 1) 3 i0 (.int .i64 0) 1 Try.underlying23 hi hz0 hz1 .i64 .i64 _ _ len rfl rfl rfl rfl (by rw [hz2]; omega) (by unfold maxLen; omega) (by simp) ?_; intro w1 hown1 hgrow1))
    have hB1 : Below (w.heap.size + 1) (w.alloc (.cells #[.int .i64 0, .slice none 0 0] 25)) w1 := (Below.refl _ _).grown hgrow1 (by simp) (by simp)
    have hO1 : Own w1 (w.heap.size + 1) len (spTo p len 0 0) := (own_made (by rw [World.size_alloc] at hown1; exact hown1)).congr (fun k _ => (spTo_start p len k).symm)
    have HO1 := (show Hid _ from hO1)
    have HB1 := (show Hid _ from hB1)
    clear hown1 hgrow1 hi hz0 hz1 hz2 hO1 hB1
    go_loopw [19] (fun i wx => ∃ y : Nat, y ≤ len ∧ i = .int .i64 y ∧ Hid (∀ j, j < y → (p j).1 ≤ (p j).2) ∧ Hid (Own wx (w.heap.size + 1) len (spTo p len y 0)) ∧ Hid (Below (w.heap.size + 1) (w.alloc (.cells #[.int .i64 0, .slice none 0 0] 25)) wx)) (fun i _ => len - (intOf i).toNat)
    case atStart => exact ⟨0, Nat.zero_le _, rfl, fun j hj => absurd hj (Nat.not_lt_zero _), HO1.out, HB1.out⟩
    case round =>
      obtain ⟨y, hy, rfl, Hok, HO, HB⟩ := hrel
      clear HO1 HB1
      by_cases hlt : y < len
      · obtain ⟨b, off, rfl, hca, hcb⟩ := HR.out.below ((Below.refl _ _).alloc (Nat.le_refl _) (.cells #[.int .i64 0, .slice none 0 0] 25)) y hlt
        have hba := World.block_lt_of_cell? _ _ hca
        have hca' := (HB.out.cell (by simpa using hba)).trans hca
        have hcb' := (HB.out.cell (by simpa using hba)).trans hcb
        have hbs := World.block_lt_of_cell? _ _ hca'
        clear hca hcb hba
        have HP : Hid (PCs wr b off len p) := fun k hk => by
          obtain ⟨b', off', e, k1, k2⟩ := HR.out.below ((Below.refl _ _).alloc (Nat.le_refl _) (.cells #[.int .i64 0, .slice none 0 0] 25)) k hk
          simp only [Option.some.injEq, Addr.mk.injEq, and_true] at e
          obtain ⟨rfl, rfl⟩ := e
          have := World.block_lt_of_cell? _ _ k1
          exact ⟨(HB.out.cell (by simpa using this)).trans k1, (HB.out.cell (by simpa using this)).trans k2⟩
        obtain ⟨L0, HL0⟩ : ∃ L, Hid ((p y).1 = L) := ⟨_, rfl⟩
        obtain ⟨L1, HL1⟩ : ∃ L, Hid ((p y).2 = L) := ⟨_, rfl⟩
        rw [HL0.out] at hca'
        rw [HL1.out] at hcb'
        have HBA : Hid (Below (w.heap.size + 1) (w.alloc (.cells #[.int .i64 0, .slice none 0 0] 25)) (wr.alloc (.cells #[.int .i64 L0, .int .i64 L1] 49))) := HB.out.alloc (by have := HB.out.size; simpa using this) _
        by_cases hbad : L1 < L0
        · have HM : Hid (SCk len p 3) := .inr (.inl ⟨rfl, h10, y, hlt, by rw [HL0.out, HL1.out]; exact hbad⟩)
          have HBZ : Hid (Below w.heap.size w (wr.alloc (.cells #[.int .i64 L0, .int .i64 L1] 49))) := out_below HBA.out
          obtain ⟨r0, r1, r2, r3⟩ := resbox HBA.out
          clear HO HB HBA Hok HP HL0 HL1
          go_wp2_with fail
          exact bodyPost_ret (v := .tuple #[noOrder, .int .i64 3]) (by simp [results, Try.results9, go_sem, noOrder, r0, r1]) rfl ⟨⟨3, noOrder, rfl, HM.out, .inl ⟨by decide, rfl⟩⟩, set2 HBZ.out⟩
        · have hok2 : L0 ≤ L1 := by omega
          have Hok2 : Hid (∀ j, j < y + 1 → (p j).1 ≤ (p j).2) := fun j hj => by
            by_cases e : j = y
            · subst e; rw [HL0.out, HL1.out]; exact hok2
            · exact Hok.out j (by omega)
          have H0 : Hid (Own (wr.alloc (.cells #[.int .i64 L0, .int .i64 L1] 49)) (w.heap.size + 1) len (spTo p len y 0)) := HO.out.alloc _
          have hLB : (wr.alloc (.cells #[.int .i64 L0, .int .i64 L1] 49)).cell? ⟨wr.heap.size, 0, none⟩ = some (.int .i64 L0) := by simp
          have HP2 : Hid (PCs (wr.alloc (.cells #[.int .i64 L0, .int .i64 L1] 49)) b off len p) := PCs.alloc HP.out _
          have hBS : w.heap.size + 1 < wr.heap.size := HO.out.lt hlt
          have HIA : Hid (b ≠ w.heap.size + 1 ∧ b < wr.heap.size) := by
            refine ⟨fun e => ?_, hbs⟩
            obtain ⟨b', off', e', k1, _⟩ := HR.out y hlt
            simp only [Option.some.injEq, Addr.mk.injEq, and_true] at e'
            obtain ⟨rfl, rfl⟩ := e'
            have h1 : b < w.heap.size := World.block_lt_of_cell? _ _ k1
            omega
          clear HO HB HP Hok
          go_wp2_with fail
          generalize hLBe : wr.heap.size = LB at *
          generalize wr.alloc (.cells #[.int .i64 L0, .int .i64 L1] 49) = W2 at *
          go_loopw [32] (fun i wx => ∃ x : Nat, x ≤ len ∧ i = .int .i64 x ∧ wx.cell? ⟨LB, 0, none⟩ = some (.int .i64 L0) ∧ Hid (PCs wx b off len p) ∧ Hid (Own wx (w.heap.size + 1) len (spTo p len y x)) ∧ Hid (Below (w.heap.size + 1) (w.alloc (.cells #[.int .i64 0, .slice none 0 0] 25)) wx)) (fun i _ => len - (intOf i).toNat)
          case atStart => exact ⟨0, Nat.zero_le _, rfl, hLB, HP2.out, H0.out, HBA.out⟩
          case round =>
            clear HP2 H0 HBA hLB hca' hcb'
            obtain ⟨x, hx, rfl, hLB, HP, HO, HB⟩ := hrel
            by_cases hxl : x < len
            · obtain ⟨c0, c1⟩ := HP.out x hxl
              obtain ⟨M0, HM0⟩ : ∃ L, Hid ((p x).1 = L) := ⟨_, rfl⟩
              obtain ⟨M1, HM1⟩ : ∃ L, Hid ((p x).2 = L) := ⟨_, rfl⟩
              rw [HM0.out] at c0
              rw [HM1.out] at c1
              have hblt := World.block_lt_of_cell? _ _ c0
              have hLlt := World.block_lt_of_cell? _ _ hLB
              have hOlt := HO.out.lt hxl
              have HBA : Hid (Below (w.heap.size + 1) (w.alloc (.cells #[.int .i64 0, .slice none 0 0] 25)) (wr.alloc (.cells #[.int .i64 M0, .int .i64 M1] 49))) := HB.out.alloc (by have := HB.out.size; simpa using this) _
              have HOA : Hid (Own (wr.alloc (.cells #[.int .i64 M0, .int .i64 M1] 49)) (w.heap.size + 1) len (spTo p len y x)) := HO.out.alloc _
              have HPA : Hid (PCs (wr.alloc (.cells #[.int .i64 M0, .int .i64 M1] 49)) b off len p) := PCs.alloc HP.out _
              have hLB2 : (wr.alloc (.cells #[.int .i64 M0, .int .i64 M1] 49)).cell? ⟨LB, 0, none⟩ = some (.int .i64 L0) := (World.cell?_alloc_old _ _ _ (Nat.ne_of_lt hLlt)).trans hLB
              have hMB : (wr.alloc (.cells #[.int .i64 M0, .int .i64 M1] 49)).cell? ⟨wr.heap.size, 1, none⟩ = some (.int .i64 M1) := by simp
              by_cases hab : M1 < L0
              · have HF : Hid (∀ k, upd (spTo p len y x) y (sp p x y ||| pw x) k = spTo p len y (x + 1) k) := spTo_yes len (by rw [HM1.out, HL0.out]; exact hab)
                obtain ⟨S, HS⟩ : ∃ S, Hid (sp p x y = S) := ⟨_, rfl⟩
                have hS : S < pw x := by rw [← HS.out]; exact setBy_lt _ x
                have hsh := wrap_pow x (Nat.lt_of_lt_of_le hxl (Nat.le_trans h10 (by decide)))
                have hor : bits .or .i64 (S : Int) ((pw x : Nat) : Int) = ((S ||| pw x : Nat) : Int) := or_pw h10 (Nat.lt_of_lt_of_le hS (Nat.pow_le_pow_right (by decide) hx)) hxl
                have cU : (wr.alloc (.cells #[.int .i64 M0, .int .i64 M1] 49)).cell? ⟨w.heap.size + 1, y, none⟩ = some (.int .i64 (S : Nat)) := by
                  have := (HOA.out y hlt).1
                  rw [spTo_at, HS.out] at this
                  exact this
                have fU := (HOA.out y hlt).2
                rw [HS.out] at HF
                have hne : LB ≠ w.heap.size + 1 := by omega
                clear hS HS HO HP HB HM0 HM1
                go_wp2_with fail
                clear c0 c1 hblt hLlt hOlt hMB hLB
                generalize wr.alloc (.cells #[.int .i64 M0, .int .i64 M1] 49) = W3 at *
                have HR1 : Hid ((W3.setCell ⟨w.heap.size + 1, y, none⟩ (.int .i64 ((S ||| pw x : Nat) : Int))).cell? ⟨LB, 0, none⟩ = some (.int .i64 L0)) := (World.cell?_setCell_other _ _ _ _ (fun e => by injection e with e1; first | exact hne e1 | exact hne e1.symm)).trans hLB2
                have HR2 : Hid (PCs (W3.setCell ⟨w.heap.size + 1, y, none⟩ (.int .i64 ((S ||| pw x : Nat) : Int))) b off len p) := PCs.set HPA.out _ _ _ HIA.out.1
                have HR3 : Hid (Own (W3.setCell ⟨w.heap.size + 1, y, none⟩ (.int .i64 ((S ||| pw x : Nat) : Int))) (w.heap.size + 1) len (spTo p len y (x + 1))) := (HOA.out.set y (S ||| pw x) hlt).congr (fun k _ => HF.out k)
                have HR4 : Hid (Below (w.heap.size + 1) (w.alloc (.cells #[.int .i64 0, .slice none 0 0] 25)) (W3.setCell ⟨w.heap.size + 1, y, none⟩ (.int .i64 ((S ||| pw x : Nat) : Int))).drew) := Below.drew (Below.setCell (p := ⟨w.heap.size + 1, y, none⟩) HBA.out (Nat.le_refl _) _)
                clear HPA HOA HBA HF hLB2
                go_region
                go_wp2
                go_roundw
                case rel => exact ⟨x + 1, by omega, by go_num, HR1.out, HR2.out, HR3.out, HR4.out⟩
                case measure => simp [intOf]; omega
              · have HF : Hid (Own (wr.alloc (.cells #[.int .i64 M0, .int .i64 M1] 49)) (w.heap.size + 1) len (spTo p len y (x + 1))) := HOA.out.congr (fun k _ => spTo_no len (by rw [HM1.out, HL0.out]; exact hab) k)
                clear HOA HO HP HB HM0 HM1
                go_wp2_with fail
                go_roundw
                case rel => exact ⟨x + 1, by omega, by go_num, hLB2, HPA.out, HF.out, HBA.out⟩
                case measure => simp [intOf]; omega
            · obtain rfl : x = len := by omega
              have HE : Hid (Own wr (w.heap.size + 1) x (spTo p x (y + 1) 0)) := HO.out.congr (fun k _ => spTo_next p x y k)
              clear HO HP
              go_wp2_with fail
              go_roundw
              case rel => exact ⟨y + 1, by omega, by go_num, Hok2.out, HE.out, HB.out⟩
              case measure => simp [intOf]; omega
      · obtain rfl : y = len := by omega
        have HM : Hid (SCk y p 0) := .inr (.inr ⟨rfl, h10, Hok.out⟩)
        obtain ⟨r0, r1, r2, r3⟩ := resbox HB.out
        have HBZ : Hid (Below w.heap.size w wr) := out_below HB.out
        have HE : Hid (Own wr (w.heap.size + 1) y (sp p y)) := HO.out.congr (spTo_end p y)
        clear HO HB Hok
        go_wp2_with fail
        exact bodyPost_ret (v := .tuple #[.agg #[.int .i64 (y : Nat), .slice (some ⟨w.heap.size + 1, 0, none⟩) y y], .int .i64 0]) (by simp [results, Try.results9, go_sem, r0, r1]) rfl ⟨⟨0, _, rfl, HM.out, .inr ⟨rfl, _, _, rfl, (Own.set2 HE.out).row⟩⟩, set2 HBZ.out⟩
  · have hd : cnt (len : Int) = false := by simp [cnt]; omega
    have HM : Hid (SCk len p 2) := .inl ⟨rfl, by omega⟩
    go_enter Try.func9, Try.ntmps9
    go_wp2_with (go_at_call 26; refine (isCount_any _ _).mono ?_; rintro e w' ⟨rfl, rfl⟩)
    obtain ⟨r0, r1, r2, r3⟩ := resbox (w := w) (Below.refl _ _)
    have HB : Hid (Below w.heap.size w (w.alloc (.cells #[.int .i64 0, .slice none 0 0] 25))) := (Below.refl _ _).alloc (Nat.le_refl _) _
    generalize w.alloc (.cells #[.int .i64 0, .slice none 0 0] 25) = W2 at *
    exact bodyPost_ret (v := .tuple #[noOrder, .int .i64 2]) (by simp [results, Try.results9, go_sem, noOrder, r0, r1]) rfl ⟨⟨2, noOrder, rfl, HM.out, .inl ⟨by decide, rfl⟩⟩, HB.out⟩
end Go.Proofs.Ytkknfnjhpamfbaa
