/-
  What lattice.Tables answers, whatever it is handed. Conditions: the library's table lies in its variable; a slice reads as a slice of numbers.
-/
import Derived.Test.YtcngjmbiinifnaaDoorMeets
import Derived.Test.YtcngjmbiinifnaaDoorDualT
namespace Go.Proofs.YtcngjmbiinifnaaDoor
open Go.RowKit

theorem trn_bit (g : Nat → Nat) (n x k : Nat) : (trn g n x).testBit k = (decide (k < n) && (g k).testBit x) := setBy_bit _ n k
theorem trn_sm (g : Nat → Nat) (n : Nat) : Sm n n (trn g n) := fun _ _ => setBy_lt _ n
theorem trn_ord {g : Nat → Nat} {n : Nat} (hn : n ≤ 10) (hg : Sm n n g) (ho : Ord n g) : Ord n (trn g n) := by
  intro u hu
  refine ⟨?_, fun p hp h => ?_⟩
  · rw [trn_bit, (ho u hu).1, Bool.and_false]
  · rw [lack_zero _ _ (sm_big hn (trn_sm g n) hp) (sm_big hn (trn_sm g n) hu)]
    intro i hi
    rw [trn_bit, Bool.and_eq_true, decide_eq_true_iff] at h hi ⊢
    exact ⟨hi.1, ord_tr hn hg ho h.1 hi.1 h.2 hi.2⟩

def noLat : Value := .agg #[.int .i64 0, .slice none 0 0, .slice none 0 0]
/-- The result's place, nothing in it yet. -/
def ZL (X : World) (B : Nat) : Prop := (X.cell? ⟨B, 0, none⟩ = some (.int .i64 0) ∧ X.cell? ⟨B, 1, none⟩ = some (.slice none 0 0) ∧ X.cell? ⟨B, 2, none⟩ = some (.slice none 0 0)) ∧ X.frozen? ⟨B, 0, none⟩ = false ∧ X.frozen? ⟨B, 1, none⟩ = false ∧ X.frozen? ⟨B, 2, none⟩ = false
theorem ZL.new (w : World) : ZL (w.alloc (.cells #[.int .i64 0, .slice none 0 0, .slice none 0 0] 24)) w.heap.size :=
  ⟨⟨by simp, by simp, by simp⟩, World.frozen?_alloc_at _ _ _ _ rfl, World.frozen?_alloc_at _ _ _ _ rfl, World.frozen?_alloc_at _ _ _ _ rfl⟩
theorem ZL.step {X X' : World} {B : Nat} (h : ZL X B) (hb : Below X.heap.size X X') : ZL X' B := by
  have hlt : B < X.heap.size := World.block_lt_of_cell? _ _ h.1.1
  obtain ⟨⟨h1, h2, h3⟩, h4, h5, h6⟩ := h
  exact ⟨⟨(hb.cell (p := ⟨B, 0, none⟩) hlt).trans h1, (hb.cell (p := ⟨B, 1, none⟩) hlt).trans h2, (hb.cell (p := ⟨B, 2, none⟩) hlt).trans h3⟩, (hb.frozen (p := ⟨B, 0, none⟩) hlt).trans h4, (hb.frozen (p := ⟨B, 1, none⟩) hlt).trans h5, (hb.frozen (p := ⟨B, 2, none⟩) hlt).trans h6⟩
theorem ZL.other {X : World} {B U j : Nat} {v : Value} (h : ZL X B) (hne : B ≠ U) : ZL (X.setCell ⟨U, j, none⟩ v) B := by
  obtain ⟨⟨h1, h2, h3⟩, h4, h5, h6⟩ := h
  have e : ∀ k, (X.setCell ⟨U, j, none⟩ v).cell? ⟨B, k, none⟩ = X.cell? ⟨B, k, none⟩ := fun k => World.cell?_setCell_other _ _ _ _ (fun e2 => hne (by injection e2 with q _; exact q.symm))
  exact ⟨⟨(e 0).trans h1, (e 1).trans h2, (e 2).trans h3⟩, by rw [World.frozen?_setCell]; exact h4, by rw [World.frozen?_setCell]; exact h5, by rw [World.frozen?_setCell]; exact h6⟩
theorem Tb.set {w : World} {b off n : Nat} {R : Nat → Nat × Nat × Nat} {m : Nat → Nat → Nat} (h : Tb w b off n R m) {p : Addr} (v : Value) (h1 : p.block ≠ b) (h2 : ∀ x, x < n → p.block ≠ (R x).1) : Tb (w.setCell p v) b off n R m := fun x hx =>
  ⟨by rw [World.cell?_setCell_other _ _ _ _ (fun e => h1 (by rw [e]))]; exact (h x hx).1, fun y hy => by
    rw [World.cell?_setCell_other _ _ _ _ (fun e => h2 x hx (by rw [e]))]; exact (h x hx).2 y hy⟩
theorem set3B {w X : World} {B : Nat} {u v x : Value} (h : Below w.heap.size w X) (hB : w.heap.size ≤ B) : Below w.heap.size w (((X.setCell ⟨B, 0, none⟩ u).setCell ⟨B, 1, none⟩ v).setCell ⟨B, 2, none⟩ x) :=
  ((h.setCell (p := ⟨B, 0, none⟩) hB _).setCell (p := ⟨B, 1, none⟩) hB _).setCell (p := ⟨B, 2, none⟩) hB _

/-- What Tables must answer. -/
def TabPost (n : Int) (len : Nat) (f : Nat → Int) (e : Ending) (w' : World) : Prop :=
  ∃ (c : Int) (x : Value) (ok : Bool), Chk n len f c ∧ e = .returned (.tuple #[x, .bool ok, .int .i64 c]) ∧
    ((c ≠ 0 ∧ ok = false ∧ x = noLat) ∨ (c = 0 ∧ ((ok = false ∧ x = noLat ∧ ¬ (1 ≤ len ∧ AllMt (nat f) len ∧ AllMt (trn (nat f) len) len)) ∨
      (ok = true ∧ (1 ≤ len ∧ AllMt (nat f) len ∧ AllMt (trn (nat f) len) len) ∧ ∃ b cb R b' cb' R', x = .agg #[.int .i64 (len : Nat), .slice (some ⟨b, 0, none⟩) len cb, .slice (some ⟨b', 0, none⟩) len cb'] ∧ Tb w' b 0 len R (mF (nat f)) ∧ Tb w' b' 0 len R' (mF (trn (nat f) len))))))

theorem index4_0 (A B C D : Value) (w : World) : Sem.run Tryd.prog (Instr.index 63 (.agg #[A, B, C, D]) (.int .i64 0)) w = .ok (.agg #[A, B]) w := by
  simp [go_sem, Instr.index]
theorem index4_1 (A B C D : Value) (w : World) : Sem.run Tryd.prog (Instr.index 63 (.agg #[A, B, C, D]) (.int .i64 1)) w = .ok (.agg #[C, D]) w := by
  simp [go_sem, Instr.index]

set_option maxHeartbeats 4000000 in
theorem tables2_any (n : Int) (a : Option Addr) (len cap : Nat) (f : Nat → Int) (w : World) (hl : len ≤ maxLen) (hr : Row w a len f) (hT : Tab w) :
    Calls Tryd.prog 16 #[.agg #[.int .i64 n, .slice a len cap]] w fun e w' => TabPost n len f e w' ∧ Below w.heap.size w w' := by
  have b1 : Below w.heap.size w (w.alloc (.cells #[.int .i64 n, .slice a len cap] 40)) := (Below.refl _ _).alloc (Nat.le_refl _) _
  have K0 : Held ((w.alloc (.cells #[.int .i64 n, .slice a len cap] 40)).alloc (.cells #[.int .i64 0, .slice none 0 0, .slice none 0 0] 24)) w.heap.size n a len cap f := (Held.box hr).step ((Below.refl _ _).alloc (Nat.le_refl _) _)
  have HB0 : Hid (Below w.heap.size w ((w.alloc (.cells #[.int .i64 n, .slice a len cap] 40)).alloc (.cells #[.int .i64 0, .slice none 0 0, .slice none 0 0] 24))) := b1.alloc (by simp) _
  have HZ0 : Hid (ZL ((w.alloc (.cells #[.int .i64 n, .slice a len cap] 40)).alloc (.cells #[.int .i64 0, .slice none 0 0, .slice none 0 0] 24)) (w.heap.size + 1)) := by have := ZL.new (w.alloc (.cells #[.int .i64 n, .slice a len cap] 40)); rw [World.size_alloc] at this; exact this
  have HT : Hid (Tab w) := hT
  have HR0 : Hid (Row w a len f) := hr
  clear hr hT b1
  go_enter Tryd.func16, Tryd.ntmps16
  go_wp2_with fail
  refine (dual_any n a len cap f _ hl K0.row).mono ?_
  rintro e w1 ⟨⟨c, x, hc, rfl, hx⟩, hb1⟩
  have K1 := K0.step hb1
  have HB1 : Hid (Below w.heap.size w w1) := Below.then HB0.out hb1
  have HZ1 : Hid (ZL w1 (w.heap.size + 1)) := HZ0.out.step hb1
  have HC : Hid (Chk n len f c) := hc
  clear hb1 HB0 HZ0 K0 hc
  rcases hx with ⟨h0, rfl⟩ | ⟨rfl, a', cap', rfl, hr'⟩
  · have hne : (c != 0) = true := by simpa using h0
    obtain ⟨⟨z0, z1, z2⟩, z3, z4, z5⟩ := (HZ1.out.step ((Below.refl _ _).alloc (Nat.le_refl _) (.cells #[.int .i64 0, .slice none 0 0] 40)))
    have HB2 : Hid (Below w.heap.size w (w1.alloc (.cells #[.int .i64 0, .slice none 0 0] 40))) := HB1.out.alloc HB1.out.size _
    unfold noOrder
    clear K1 HB1 HZ1
    go_wp2_with fail
    exact bodyPost_ret (v := .tuple #[noLat, .bool false, .int .i64 c]) (by simp [results, Tryd.results16, go_sem, noLat, z0, z1, z2]) rfl ⟨⟨c, noLat, false, HC.out, rfl, .inl ⟨h0, rfl, rfl⟩⟩, set3B HB2.out (by omega)⟩
  · obtain ⟨rfl, h10, hrng, hord⟩ := HC.out.good
    have HSM : Hid (Sm len len (nat f)) := hrng.small
    have HO : Hid (Ord len (nat f)) := hord
    have HRG : Hid (Rng len f) := hrng
    have BA : Below w1.heap.size w1 (w1.alloc (.cells #[.int .i64 (len : Int), .slice a' len cap'] 40)) := (Below.refl _ _).alloc (Nat.le_refl _) _
    have K2 := K1.step BA
    have k0 := K2.c0
    have k1 := K2.c1
    have HB2 : Hid (Below w.heap.size w (w1.alloc (.cells #[.int .i64 (len : Int), .slice a' len cap'] 40))) := Below.then HB1.out BA
    have HZ2 : Hid (ZL (w1.alloc (.cells #[.int .i64 (len : Int), .slice a' len cap'] 40)) (w.heap.size + 1)) := HZ1.out.step BA
    have HR2 : Hid (Row (w1.alloc (.cells #[.int .i64 (len : Int), .slice a' len cap'] 40)) a' len (fun k => (trn (nat f) len k : Nat))) := hr'.below BA
    have d0 : (w1.alloc (.cells #[.int .i64 (len : Int), .slice a' len cap'] 40)).cell? ⟨w1.heap.size, 0, none⟩ = some (.int .i64 (len : Int)) := by simp
    have d1 : (w1.alloc (.cells #[.int .i64 (len : Int), .slice a' len cap'] 40)).cell? ⟨w1.heap.size, 1, none⟩ = some (.slice a' len cap') := by simp
    have HSZ : Hid (w.heap.size + 1 < w1.heap.size) := World.block_lt_of_cell? _ _ HZ1.out.1.1
    have HRD : Hid (Row w1 a' len (fun k => (trn (nat f) len k : Nat))) := hr'
    clear hrng hord BA HZ1 HB1 hr' K1
    by_cases hz : len = 0
    · have hz' : ((len : Int) == 0) = true := by simpa using hz
      obtain ⟨⟨z0, z1, z2⟩, z3, z4, z5⟩ := HZ2.out
      have HN : Hid (¬ (1 ≤ len ∧ AllMt (nat f) len ∧ AllMt (trn (nat f) len) len)) := fun h => by omega
      clear hz
      go_wp2_with fail
      exact bodyPost_ret (v := .tuple #[noLat, .bool false, .int .i64 0]) (by simp [results, Tryd.results16, go_sem, noLat, z0, z1, z2]) rfl ⟨⟨0, noLat, false, HC.out, rfl, .inr ⟨rfl, .inl ⟨rfl, rfl, HN.out⟩⟩⟩, set3B HB2.out (by omega)⟩
    · have hz' : ((len : Int) == 0) = false := by simpa using hz
      have BB : Below (w1.alloc (.cells #[.int .i64 (len : Int), .slice a' len cap'] 40)).heap.size (w1.alloc (.cells #[.int .i64 (len : Int), .slice a' len cap'] 40)) ((w1.alloc (.cells #[.int .i64 (len : Int), .slice a' len cap'] 40)).alloc (.cells #[.slice none 0 0, .slice none 0 0] 62)) := (Below.refl _ _).alloc (Nat.le_refl _) _
      have ix0 := index4_0 (.int .i64 (len : Nat)) (.slice a len cap) (.int .i64 (len : Nat)) (.slice a' len cap')
      have ix1 := index4_1 (.int .i64 (len : Nat)) (.slice a len cap) (.int .i64 (len : Nat)) (.slice a' len cap')
      have e1 : (w1.alloc (.cells #[.int .i64 (len : Int), .slice a' len cap'] 40)).heap.size = w1.heap.size + 1 := by simp
      have K3 := K2.step BB
      have x0 := K3.c0
      have x1 := K3.c1
      have x2 := cell_step BB d0
      have x3 := cell_step BB d1
      have HB3 : Hid (Below w.heap.size w _) := Below.then HB2.out BB
      have HZ3 : Hid (ZL _ (w.heap.size + 1)) := HZ2.out.step BB
      have HR3 : Hid (Row _ a' len (fun k => (trn (nat f) len k : Nat))) := HR2.out.below BB
      have HU : Hid (OwnS ((w1.alloc (.cells #[.int .i64 (len : Int), .slice a' len cap'] 40)).alloc (.cells #[.slice none 0 0, .slice none 0 0] 62)) (w1.heap.size + 1) 2 (fun _ => .slice none 0 0)) := fun k hk => by
        rcases (by omega : k = 0 ∨ k = 1) with rfl | rfl
        · exact ⟨by simp, World.frozen?_alloc_at _ _ _ _ (by simp)⟩
        · exact ⟨by simp, World.frozen?_alloc_at _ _ _ _ (by simp)⟩
      go_wp2_with fail
      generalize (w1.alloc (.cells #[.int .i64 (len : Int), .slice a' len cap'] 40)).alloc (.cells #[.slice none 0 0, .slice none 0 0] 62) = W3 at *
      have HADU : Hid (∀ b off, a' = some ⟨b, off, none⟩ → b < w1.heap.size + 1) := fun b off e => by
        have hlen : 0 < len := by omega
        obtain ⟨b2, off2, e2, hc2⟩ := HRD.out 0 hlen
        rw [e] at e2
        cases e2
        have := World.block_lt_of_cell? _ _ hc2
        simp only at this
        omega
      have hszu := HSZ.out
      generalize hu : w1.heap.size + 1 = U at *
      have hU : w.heap.size + 1 < U := by omega
      clear hszu hu e1 HSZ BB d0 d1 k0 k1 K2 HB2 HZ2 HR2 x0 x1 x2 x3
      have HAR : Hid (∀ wx, Below w.heap.size w wx → Row wx a len f) := fun wx h => HR0.out.below h
      have HAD : Hid (∀ {X : World} {j : Nat} {v : Value}, Row X a' len (fun k => (trn (nat f) len k : Nat)) → Row (X.setCell ⟨U, j, none⟩ v) a' len (fun k => (trn (nat f) len k : Nat))) := fun {X j v} h k hk => by
        obtain ⟨b, off, e, hc⟩ := h k hk
        refine ⟨b, off, e, ?_⟩
        have hbU : b < U := HADU.out b off e
        rw [World.cell?_setCell_other _ _ _ _ (fun e => by injection e with e1; omega)]; exact hc
      go_loopw [28] (fun i wx => ∃ k : Nat, k ≤ 2 ∧ i = .int .i64 k ∧ Hid (Below W3.heap.size W3 wx ∨ k ≠ 0) ∧ Hid (Below w.heap.size w wx) ∧ Hid (ZL wx (w.heap.size + 1)) ∧ Hid (Held wx w.heap.size (len : Int) a len cap f) ∧ Hid (Row wx a' len (fun k => (trn (nat f) len k : Nat))) ∧ ∃ v0 v1, Hid (OwnS wx U 2 (fun j => if j = 0 then v0 else v1)) ∧
        Hid (0 < k → AllMt (nat f) len ∧ ∃ b cb R, v0 = .slice (some ⟨b, 0, none⟩) len cb ∧ (U < b ∧ ∀ x, x < len → U < (R x).1) ∧ Tb wx b 0 len R (mF (nat f))) ∧
        Hid (1 < k → AllMt (trn (nat f) len) len ∧ ∃ b cb R, v1 = .slice (some ⟨b, 0, none⟩) len cb ∧ (U < b ∧ ∀ x, x < len → U < (R x).1) ∧ Tb wx b 0 len R (mF (trn (nat f) len)))) (fun i _ => 2 - (intOf i).toNat)
      case atStart => exact ⟨0, Nat.zero_le _, rfl, .inl (Below.refl _ _), HB3.out, HZ3.out, K3, HR3.out, .slice none 0 0, .slice none 0 0, HU.out.congr (fun k _ => by split <;> rfl), fun h => absurd h (Nat.lt_irrefl _), fun h => absurd h (by omega)⟩
      case round =>
        clear HB3 HZ3 K3 HR3 HU
        obtain ⟨k, hk, rfl, _, HB, HZ, HK, HR, v0, v1, HU, H0, H1⟩ := hrel
        have hk0 := HK.out.c0
        have hk1 := HK.out.c1
        rcases (by omega : k = 0 ∨ k = 1 ∨ k = 2) with rfl | rfl | rfl
        · skip
          have WB : Below wr.heap.size wr (wr.alloc (.cells #[.int .i64 (len : Int), .slice a len cap] 40)) := (Below.refl _ _).alloc (Nat.le_refl _) _
          have hUs : U < wr.heap.size := World.block_lt_of_cell? _ _ (HU.out 0 (by omega)).1
          have hWs : (wr.alloc (.cells #[.int .i64 (len : Int), .slice a len cap] 40)).heap.size = wr.heap.size + 1 := by simp
          have HRW : Hid (Row (wr.alloc (.cells #[.int .i64 (len : Int), .slice a len cap] 40)) a len (fun k => (nat f k : Nat))) := HRG.out.row (HK.out.row.below WB)
          have HTW : Hid (Tab (wr.alloc (.cells #[.int .i64 (len : Int), .slice a len cap] 40))) := HT.out.step (Below.then HB.out WB)
          have HX : Hid (∀ w5, Below (wr.alloc (.cells #[.int .i64 (len : Int), .slice a len cap] 40)).heap.size (wr.alloc (.cells #[.int .i64 (len : Int), .slice a len cap] 40)) w5 → Below wr.heap.size wr w5) := fun w5 h => Below.then WB h
          go_wp2_with fail
          refine (meets_any len a cap (nat f) _ (by omega) h10 HSM.out HO.out HRW.out HTW.out).mono ?_
          rintro e w5 ⟨⟨v, ok, rfl, hm⟩, hb5⟩
          have hbw := HX.out w5 hb5
          have HB5 : Hid (Below w.heap.size w w5) := Below.then HB.out hbw
          have HZ5 : Hid (ZL w5 (w.heap.size + 1)) := HZ.out.step hbw
          have HK5 : Hid (Held w5 w.heap.size (len : Int) a len cap f) := HK.out.step hbw
          have HR5 : Hid (Row w5 a' len (fun k => (trn (nat f) len k : Nat))) := HR.out.below hbw
          have hu5 : OwnS w5 U 2 (fun j => if j = 0 then v0 else v1) := HU.out.keep hbw hUs
          rcases hm with ⟨rfl, hall, b, cb, R, rfl, ⟨hbb, hbR⟩, htb⟩ | ⟨rfl, rfl, hno⟩
          · rw [hWs] at hbb hbR
            have c5 := (hu5 0 (by omega)).1
            have f5 := (hu5 0 (by omega)).2
            have HB6 : Hid (Below w.heap.size w (w5.setCell ⟨U, 0, none⟩ (.slice (some ⟨b, 0, none⟩) len cb))) := HB5.out.setCell (p := ⟨U, 0, none⟩) (by show w.heap.size ≤ U; omega) _
            have HZ6 : Hid (ZL (w5.setCell ⟨U, 0, none⟩ (.slice (some ⟨b, 0, none⟩) len cb)) (w.heap.size + 1)) := HZ5.out.other (by omega)
            have HK6 : Hid (Held (w5.setCell ⟨U, 0, none⟩ (.slice (some ⟨b, 0, none⟩) len cb)) w.heap.size (len : Int) a len cap f) := ⟨by rw [World.cell?_setCell_other _ _ _ _ (fun e => by injection e with e1; omega)]; exact HK5.out.c0, by rw [World.cell?_setCell_other _ _ _ _ (fun e => by injection e with e1; omega)]; exact HK5.out.c1, HAR.out _ HB6.out⟩
            have HR6 : Hid (Row (w5.setCell ⟨U, 0, none⟩ (.slice (some ⟨b, 0, none⟩) len cb)) a' len (fun k => (trn (nat f) len k : Nat))) := HAD.out HR5.out
            have HU6 : Hid (OwnS (w5.setCell ⟨U, 0, none⟩ (.slice (some ⟨b, 0, none⟩) len cb)) U 2 (fun j => if j = 0 then .slice (some ⟨b, 0, none⟩) len cb else v1)) := (hu5.set 0 _).congr (fun j hj => by
              rcases (by omega : j = 0 ∨ j = 1) with rfl | rfl <;> simp)
            have HT6 : Hid (Tb (w5.setCell ⟨U, 0, none⟩ (.slice (some ⟨b, 0, none⟩) len cb)) b 0 len R (mF (nat f))) := htb.set _ (by show U ≠ b; omega) (fun x hx => by have := hbR x hx; show U ≠ (R x).1; omega)
            have HF : Hid (AllMt (nat f) len ∧ (U < b ∧ ∀ x, x < len → U < (R x).1)) := ⟨hall, by omega, fun x hx => by have := hbR x hx; omega⟩
            clear hu5 htb hbb hbR hall HB5 HZ5 HK5 HR5 hb5 hbw HX WB hWs
            go_wp2_with fail
            go_roundw
            case rel => exact ⟨1, by omega, rfl, .inr (by omega), HB6.out, HZ6.out, HK6.out, HR6.out, _, v1, HU6.out, fun _ => ⟨HF.out.1, b, cb, R, rfl, HF.out.2, HT6.out⟩, fun h => absurd h (by omega)⟩
            case measure => simp [intOf]
          · obtain ⟨⟨z0, z1, z2⟩, z3, z4, z5⟩ := HZ5.out
            have HN : Hid (¬ (1 ≤ len ∧ AllMt (nat f) len ∧ AllMt (trn (nat f) len) len)) := fun h => hno h.2.1
            clear hu5 hno HZ5 HK5 HR5 hb5 hbw HX WB hWs
            go_wp2_with fail
            exact bodyPost_ret (v := .tuple #[noLat, .bool false, .int .i64 0]) (by simp [results, Tryd.results16, go_sem, noLat, z0, z1, z2]) rfl ⟨⟨0, noLat, false, HC.out, rfl, .inr ⟨rfl, .inl ⟨rfl, rfl, HN.out⟩⟩⟩, set3B HB5.out (by omega)⟩
        · skip
          have WB : Below wr.heap.size wr (wr.alloc (.cells #[.int .i64 (len : Int), .slice a' len cap'] 40)) := (Below.refl _ _).alloc (Nat.le_refl _) _
          have hUs : U < wr.heap.size := World.block_lt_of_cell? _ _ (HU.out 0 (by omega)).1
          have hWs : (wr.alloc (.cells #[.int .i64 (len : Int), .slice a' len cap'] 40)).heap.size = wr.heap.size + 1 := by simp
          have HRW : Hid (Row (wr.alloc (.cells #[.int .i64 (len : Int), .slice a' len cap'] 40)) a' len (fun k => (trn (nat f) len k : Nat))) := HR.out.below WB
          have HTW : Hid (Tab (wr.alloc (.cells #[.int .i64 (len : Int), .slice a' len cap'] 40))) := HT.out.step (Below.then HB.out WB)
          have HX : Hid (∀ w5, Below (wr.alloc (.cells #[.int .i64 (len : Int), .slice a' len cap'] 40)).heap.size (wr.alloc (.cells #[.int .i64 (len : Int), .slice a' len cap'] 40)) w5 → Below wr.heap.size wr w5) := fun w5 h => Below.then WB h
          go_wp2_with fail
          refine (meets_any len a' cap' (trn (nat f) len) _ (by omega) h10 (trn_sm _ _) (trn_ord h10 HSM.out HO.out) HRW.out HTW.out).mono ?_
          rintro e w5 ⟨⟨v, ok, rfl, hm⟩, hb5⟩
          have hbw := HX.out w5 hb5
          have HB5 : Hid (Below w.heap.size w w5) := Below.then HB.out hbw
          have HZ5 : Hid (ZL w5 (w.heap.size + 1)) := HZ.out.step hbw
          have HK5 : Hid (Held w5 w.heap.size (len : Int) a len cap f) := HK.out.step hbw
          have HR5 : Hid (Row w5 a' len (fun k => (trn (nat f) len k : Nat))) := HR.out.below hbw
          have hu5 : OwnS w5 U 2 (fun j => if j = 0 then v0 else v1) := HU.out.keep hbw hUs
          rcases hm with ⟨rfl, hall, b, cb, R, rfl, ⟨hbb, hbR⟩, htb⟩ | ⟨rfl, rfl, hno⟩
          · rw [hWs] at hbb hbR
            have c5 := (hu5 1 (by omega)).1
            have f5 := (hu5 1 (by omega)).2
            have HB6 : Hid (Below w.heap.size w (w5.setCell ⟨U, 1, none⟩ (.slice (some ⟨b, 0, none⟩) len cb))) := HB5.out.setCell (p := ⟨U, 1, none⟩) (by show w.heap.size ≤ U; omega) _
            have HZ6 : Hid (ZL (w5.setCell ⟨U, 1, none⟩ (.slice (some ⟨b, 0, none⟩) len cb)) (w.heap.size + 1)) := HZ5.out.other (by omega)
            have HK6 : Hid (Held (w5.setCell ⟨U, 1, none⟩ (.slice (some ⟨b, 0, none⟩) len cb)) w.heap.size (len : Int) a len cap f) := ⟨by rw [World.cell?_setCell_other _ _ _ _ (fun e => by injection e with e1; omega)]; exact HK5.out.c0, by rw [World.cell?_setCell_other _ _ _ _ (fun e => by injection e with e1; omega)]; exact HK5.out.c1, HAR.out _ HB6.out⟩
            have HR6 : Hid (Row (w5.setCell ⟨U, 1, none⟩ (.slice (some ⟨b, 0, none⟩) len cb)) a' len (fun k => (trn (nat f) len k : Nat))) := HAD.out HR5.out
            have HU6 : Hid (OwnS (w5.setCell ⟨U, 1, none⟩ (.slice (some ⟨b, 0, none⟩) len cb)) U 2 (fun j => if j = 0 then v0 else .slice (some ⟨b, 0, none⟩) len cb)) := (hu5.set 1 _).congr (fun j hj => by
              rcases (by omega : j = 0 ∨ j = 1) with rfl | rfl <;> simp)
            have HT6 : Hid (Tb (w5.setCell ⟨U, 1, none⟩ (.slice (some ⟨b, 0, none⟩) len cb)) b 0 len R (mF (trn (nat f) len))) := htb.set _ (by show U ≠ b; omega) (fun x hx => by have := hbR x hx; show U ≠ (R x).1; omega)
            have HF : Hid (AllMt (trn (nat f) len) len ∧ (U < b ∧ ∀ x, x < len → U < (R x).1)) := ⟨hall, by omega, fun x hx => by have := hbR x hx; omega⟩
            have HO6 : Hid (AllMt (nat f) len ∧ ∃ b' cb' R', v0 = .slice (some ⟨b', 0, none⟩) len cb' ∧ (U < b' ∧ ∀ x, x < len → U < (R' x).1) ∧ Tb (w5.setCell ⟨U, 1, none⟩ (.slice (some ⟨b, 0, none⟩) len cb)) b' 0 len R' (mF (nat f))) := by
              obtain ⟨q1, b', cb', R', q2, q3, q4⟩ := H0.out (by omega)
              exact ⟨q1, b', cb', R', q2, q3, (q4.step hbw).set _ (by show U ≠ b'; omega) (fun x hx => by have := q3.2 x hx; show U ≠ (R' x).1; omega)⟩
            clear hu5 htb hbb hbR hall HB5 HZ5 HK5 HR5 hb5 hbw HX WB hWs
            go_wp2_with fail
            go_roundw
            case rel => exact ⟨2, by omega, rfl, .inr (by omega), HB6.out, HZ6.out, HK6.out, HR6.out, v0, _, HU6.out, fun _ => HO6.out, fun _ => ⟨HF.out.1, b, cb, R, rfl, HF.out.2, HT6.out⟩⟩
            case measure => simp [intOf]
          · obtain ⟨⟨z0, z1, z2⟩, z3, z4, z5⟩ := HZ5.out
            have HN : Hid (¬ (1 ≤ len ∧ AllMt (nat f) len ∧ AllMt (trn (nat f) len) len)) := fun h => hno h.2.2
            clear hu5 hno HZ5 HK5 HR5 hb5 hbw HX WB hWs
            go_wp2_with fail
            exact bodyPost_ret (v := .tuple #[noLat, .bool false, .int .i64 0]) (by simp [results, Tryd.results16, go_sem, noLat, z0, z1, z2]) rfl ⟨⟨0, noLat, false, HC.out, rfl, .inr ⟨rfl, .inl ⟨rfl, rfl, HN.out⟩⟩⟩, set3B HB5.out (by omega)⟩
        · obtain ⟨q1, b, cb, R, rfl, q2, q3⟩ := H0.out (by omega)
          obtain ⟨q4, b', cb', R', rfl, q5, q6⟩ := H1.out (by omega)
          have u0 : wr.cell? ⟨U, 0, none⟩ = some (.slice (some ⟨b, 0, none⟩) len cb) := (HU.out 0 (by omega)).1
          have u1 : wr.cell? ⟨U, 1, none⟩ = some (.slice (some ⟨b', 0, none⟩) len cb') := (HU.out 1 (by omega)).1
          obtain ⟨⟨z0, z1, z2⟩, z3, z4, z5⟩ := HZ.out
          have HALL : Hid (1 ≤ len ∧ AllMt (nat f) len ∧ AllMt (trn (nat f) len) len) := ⟨by omega, q1, q4⟩
          have HS1 : Hid (Tb (((wr.setCell ⟨w.heap.size + 1, 0, none⟩ (.int .i64 (len : Nat))).setCell ⟨w.heap.size + 1, 1, none⟩ (.slice (some ⟨b, 0, none⟩) len cb)).setCell ⟨w.heap.size + 1, 2, none⟩ (.slice (some ⟨b', 0, none⟩) len cb')) b 0 len R (mF (nat f))) :=
            ((q3.set _ (by show w.heap.size + 1 ≠ b; omega) (fun x hx => by have := q2.2 x hx; show w.heap.size + 1 ≠ (R x).1; omega)).set _ (by show w.heap.size + 1 ≠ b; omega) (fun x hx => by have := q2.2 x hx; show w.heap.size + 1 ≠ (R x).1; omega)).set _ (by show w.heap.size + 1 ≠ b; omega) (fun x hx => by have := q2.2 x hx; show w.heap.size + 1 ≠ (R x).1; omega)
          have HS2 : Hid (Tb (((wr.setCell ⟨w.heap.size + 1, 0, none⟩ (.int .i64 (len : Nat))).setCell ⟨w.heap.size + 1, 1, none⟩ (.slice (some ⟨b, 0, none⟩) len cb)).setCell ⟨w.heap.size + 1, 2, none⟩ (.slice (some ⟨b', 0, none⟩) len cb')) b' 0 len R' (mF (trn (nat f) len))) :=
            ((q6.set _ (by show w.heap.size + 1 ≠ b'; omega) (fun x hx => by have := q5.2 x hx; show w.heap.size + 1 ≠ (R' x).1; omega)).set _ (by show w.heap.size + 1 ≠ b'; omega) (fun x hx => by have := q5.2 x hx; show w.heap.size + 1 ≠ (R' x).1; omega)).set _ (by show w.heap.size + 1 ≠ b'; omega) (fun x hx => by have := q5.2 x hx; show w.heap.size + 1 ≠ (R' x).1; omega)
          clear q1 q2 q3 q4 q5 q6 H0 H1
          go_wp2_with fail
          exact bodyPost_ret (v := .tuple #[.agg #[.int .i64 (len : Nat), .slice (some ⟨b, 0, none⟩) len cb, .slice (some ⟨b', 0, none⟩) len cb'], .bool true, .int .i64 0]) (by simp [results, Tryd.results16, go_sem, z0, z1, z2]) rfl ⟨⟨0, _, true, HC.out, rfl, .inr ⟨rfl, .inr ⟨rfl, HALL.out, b, cb, R, b', cb', R', rfl, HS1.out, HS2.out⟩⟩⟩, set3B HB.out (by omega)⟩
end Go.Proofs.YtcngjmbiinifnaaDoor
