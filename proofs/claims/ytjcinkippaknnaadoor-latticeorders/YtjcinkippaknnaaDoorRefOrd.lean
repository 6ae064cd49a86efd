/-
  What the reference's LatticeOrder answers. Conditions: at most ten elements.
-/
import Derived.Test.YtjcinkippaknnaaDoorRefTri
import Derived.Test.YtjcinkippaknnaaDoorOfAny
import Derived.Test.YtjcinkippaknnaaDoorLBegun
namespace Go.Proofs.YtjcinkippaknnaaDoor
open Go.RowKit

theorem ent_lord : Ent 42 := fun _ _ => rfl
set_option maxHeartbeats 1000000 in
theorem lord1_any (n B b off cap : Nat) (b' : Option Addr) (lb cb : Nat) (R : Nat → Nat × Nat × Nat) (m : Nat → Nat → Nat) (w : World) (hL : LB w B (n : Nat) (some ⟨b, off, none⟩) n cap b' lb cb) (ht : Tb w b off n R m) :
    ∀ (x y : Nat) (W : World), x < n → y < n → Below w.heap.size w W → Calls Tryd.prog 42 (#[.int .i64 (x : Nat), .int .i64 (y : Nat)] ++ #[.pointer (some ⟨B, 0, none⟩)]) W fun e w' => e = .returned (.bool (!(x == y) && m x y == x)) ∧ Below W.heap.size W w' := fun x y W hx hy hW => by
  show Calls Tryd.prog 42 #[.int .i64 (x : Nat), .int .i64 (y : Nat), .pointer (some ⟨B, 0, none⟩)] W _
  have LL := hL.step hW
  have HU := under_any n b off cap b' lb cb R m x y W (ht.step hW) hx hy
  have l0 := LL.1
  have l1 := LL.2.1
  have l2 := LL.2.2
  have hKK : Hid (Below W.heap.size W W) := Below.refl _ _
  clear LL hL ht hW
  obtain ⟨v1, hv1⟩ : ∃ v, (x == y) = v := ⟨_, rfl⟩
  rw [hv1]
  rw [← int_beq] at hv1
  rcases v1 with _ | _
  · have hq : ((x : Int) != (y : Int)) = true := by simp only [bne, hv1, Bool.not_false]
    go_enter Tryd.func42, Tryd.ntmps42
    go_wp2_with fail
    refine HU.mono ?_
    rintro e w1 ⟨rfl, hb1⟩
    have HB1 : Hid (Below W.heap.size W w1) := hb1
    clear hb1 HU l0 l1 l2
    go_wp2_with fail
    go_ret
    exact ⟨rfl, HB1.out⟩
  · have hq : ((x : Int) != (y : Int)) = false := by simp only [bne, hv1, Bool.not_true]
    go_enter Tryd.func42, Tryd.ntmps42
    go_wp2_with fail
    go_ret
    exact ⟨rfl, hKK.out⟩

set_option maxHeartbeats 2000000 in
theorem latticeOrder_any (n b off cap : Nat) (b' : Option Addr) (lb cb : Nat) (R : Nat → Nat × Nat × Nat) (m : Nat → Nat → Nat) (w : World) (h10 : n ≤ 10) (ht : Tb w b off n R m) :
    Calls Tryd.prog 17 #[.agg #[.int .i64 (n : Nat), .slice (some ⟨b, off, none⟩) n cap, .slice b' lb cb]] w fun e w' => (∃ a2 cap2, e = .returned (.agg #[.int .i64 (n : Int), .slice a2 n cap2]) ∧ Row w' a2 n (fun k => (trn (upF m n) n k : Nat)) ∧ Fresh w.heap.size a2 n) ∧ Below w.heap.size w w' := by
  have B1 : Below w.heap.size w (w.alloc (.cells #[.int .i64 (n : Nat), .slice (some ⟨b, off, none⟩) n cap, .slice b' lb cb] 24)) := (Below.refl _ _).alloc (Nat.le_refl _) _
  have B2 : Below (w.alloc (.cells #[.int .i64 (n : Nat), .slice (some ⟨b, off, none⟩) n cap, .slice b' lb cb] 24)).heap.size (w.alloc (.cells #[.int .i64 (n : Nat), .slice (some ⟨b, off, none⟩) n cap, .slice b' lb cb] 24)) ((w.alloc (.cells #[.int .i64 (n : Nat), .slice (some ⟨b, off, none⟩) n cap, .slice b' lb cb] 24)).alloc (.cells #[.int .i64 0, .slice none 0 0] 31)) := (Below.refl _ _).alloc (Nat.le_refl _) _
  have L0 := (LB.new w (n : Nat) (some ⟨b, off, none⟩) n cap b' lb cb).step B2
  have HZ0 : Hid (ZBox ((w.alloc (.cells #[.int .i64 (n : Nat), .slice (some ⟨b, off, none⟩) n cap, .slice b' lb cb] 24)).alloc (.cells #[.int .i64 0, .slice none 0 0] 31)) (w.heap.size + 1)) := by have := ZBox.new (w.alloc (.cells #[.int .i64 (n : Nat), .slice (some ⟨b, off, none⟩) n cap, .slice b' lb cb] 24)); rw [World.size_alloc] at this; exact this
  have HB1 : Hid (Below w.heap.size w ((w.alloc (.cells #[.int .i64 (n : Nat), .slice (some ⟨b, off, none⟩) n cap, .slice b' lb cb] 24)).alloc (.cells #[.int .i64 0, .slice none 0 0] 31))) := Below.then B1 B2
  have hcl := lord1_any n w.heap.size b off cap b' lb cb R m _ L0 ((ht.step B1).step B2)
  have l0 := L0.1
  have HSW : Hid (((w.alloc (.cells #[.int .i64 (n : Nat), .slice (some ⟨b, off, none⟩) n cap, .slice b' lb cb] 24)).alloc (.cells #[.int .i64 0, .slice none 0 0] 31)).heap.size = w.heap.size + 2) := by simp [Hid]
  have HCL := (show Hid _ from hcl)
  clear B1 B2 L0 ht hcl
  go_enter Tryd.func17, Tryd.ntmps17
  go_wp2_with fail
  refine (orderOf_clo n 42 _ (fun x y => !(x == y) && m x y == x) _ h10 ent_lord HCL.out).mono ?_
  rintro e w2 ⟨⟨a2, cap2, rfl, hr2, hf2⟩, hb2⟩
  have HB3 : Hid (Below w.heap.size w w2) := Below.then HB1.out hb2
  obtain ⟨z0, z1, z2, z3⟩ := HZ0.out.step hb2
  rw [HSW.out] at hf2
  have HFR : Hid (Fresh w.heap.size a2 n) := hf2.mono (by omega)
  have HROW : Hid (Row ((w2.setCell ⟨w.heap.size + 1, 0, none⟩ (.int .i64 (n : Int))).setCell ⟨w.heap.size + 1, 1, none⟩ (.slice a2 n cap2)) a2 n (fun k => (trn (upF m n) n k : Nat))) := row_set2 (B := w.heap.size + 1) (fun k hk => by
    obtain ⟨bb, off, e, hc⟩ := hr2 k hk
    refine ⟨bb, off, e, ?_⟩
    rw [hc]
    have e2 : setBy (fun x => !(x == k) && m x k == x) n = trn (upF m n) n k := setBy_congr n (fun x _ => (upF_at hk).symm)
    show some (Value.int .i64 ((setBy (fun x => !(x == k) && m x k == x) n : Nat) : Int)) = _
    rw [e2]) hf2
  clear hb2 hr2 hf2 HB1 HCL HZ0 l0
  go_wp2_with fail
  exact bodyPost_ret (v := .agg #[.int .i64 (n : Int), .slice a2 n cap2]) (by simp [results, Tryd.results17, go_sem, z0, z1]) rfl ⟨⟨a2, cap2, rfl, HROW.out, HFR.out⟩, set2B HB3.out (by omega)⟩
end Go.Proofs.YtjcinkippaknnaaDoor
