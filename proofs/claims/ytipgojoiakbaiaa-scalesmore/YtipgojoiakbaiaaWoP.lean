/-
  What package scales knows: isOpen, with, knownOf. Conditions: at most five points.
-/
import Derived.Test.YtipgojoiakbaiaaWoM
import Derived.Test.YtipgojoiakbaiaaRank
import Derived.Test.YtipgojoiakbaiaaRefRows

import Derived.BigQuiet
import Derived.Deep.RegionLaw
import Derived.Laws.CopyOwn
namespace Go.Proofs.Ytipgojoiakbaiaa
open Go.RowKit
set_option maxRecDepth 100000

theorem hs_as (s p : Nat) (b : Bool) (w : World) (h : s.testBit p = b) (hs : s < 9223372036854775808) (hp : p < 63) :
    Calls Try.prog 48 #[.int .i64 s, .int .i64 p] w fun e w' => e = .returned (.bool b) ∧ w = w' := by
  rw [← h]; exact has_any s p w hs hp
/-- What is known, as a value. -/
def kva (g : Nat → Nat) : Array Value := #[.int .i64 (g 0 : Nat), .int .i64 (g 1 : Nat), .int .i64 (g 2 : Nat), .int .i64 (g 3 : Nat), .int .i64 (g 4 : Nat)]
theorem kva_at (g : Nat → Nat) {i : Nat} (h : i < 5) : (kva g)[i]? = some (.int .i64 (g i : Nat)) := by
  unfold kva
  match i, h with
  | 0, _ => rfl
  | 1, _ => rfl
  | 2, _ => rfl
  | 3, _ => rfl
  | 4, _ => rfl
/-- A box in which something known lies. -/
def KB (w : World) (b : Nat) (g : Nat → Nat) : Prop := ∀ i, i < 5 → w.cell? ⟨b, i, none⟩ = some (.int .i64 (g i : Nat)) ∧ w.frozen? ⟨b, i, none⟩ = false
theorem KB.box (w : World) (g : Nat → Nat) : KB (w.alloc (.cells (kva g) 62)) w.heap.size g := fun i h => by
  have := kva_at g h
  constructor
  · simp [this]
  · simp
theorem isOpen_any (g : Nat → Nat) (a b : Nat) (o : Bool) (w : World) (h : opn g a b = o) (ha : a < 5) (hb : b < 5) (hg : ∀ i, g i < 1024) :
    Calls Try.prog 53 #[.agg (kva g), .int .i64 a, .int .i64 b] w fun e w' => e = .returned (.bool o) ∧ Below w.heap.size w w' := by
  have HK := KB.box w g
  have ca := (HK a ha).1
  have cb := (HK b hb).1
  have HB : Hid (Below w.heap.size w (w.alloc (.cells (kva g) 62))) := (Below.refl _ _).alloc (Nat.le_refl _) _
  have h1 := hg a
  have h2 := hg b
  have HO : Hid (opn g a b = o) := h
  clear HK h hg
  unfold opn at HO
  generalize g a = A at *
  generalize g b = B at *
  generalize kva g = K at *
  cases e1 : A.testBit b
  · cases e2 : B.testBit a
    · obtain rfl : o = true := by have := HO.out; rw [e1, e2] at this; exact this.symm
      have E1 : Hid (A.testBit b = false) := e1
      have E2 : Hid (B.testBit a = false) := e2
      clear e1 e2 HO
      go_enter Try.func53, Try.ntmps53
      go_wp2_with fail
      refine (hs_as A b false _ E1.out (by omega) (by omega)).mono ?_
      rintro e w1 ⟨rfl, rfl⟩
      go_wp2_with fail
      refine (hs_as B a false _ E2.out (by omega) (by omega)).mono ?_
      rintro e w1 ⟨rfl, rfl⟩
      go_wp2_with fail
      go_ret
      exact ⟨rfl, HB.out⟩
    · obtain rfl : o = false := by have := HO.out; rw [e1, e2] at this; exact this.symm
      have E1 : Hid (A.testBit b = false) := e1
      have E2 : Hid (B.testBit a = true) := e2
      clear e1 e2 HO
      go_enter Try.func53, Try.ntmps53
      go_wp2_with fail
      refine (hs_as A b false _ E1.out (by omega) (by omega)).mono ?_
      rintro e w1 ⟨rfl, rfl⟩
      go_wp2_with fail
      refine (hs_as B a true _ E2.out (by omega) (by omega)).mono ?_
      rintro e w1 ⟨rfl, rfl⟩
      go_wp2_with fail
      go_ret
      exact ⟨rfl, HB.out⟩
  · obtain rfl : o = false := by have := HO.out; rw [e1] at this; exact this.symm
    have E1 : Hid (A.testBit b = true) := e1
    clear e1 HO cb
    go_enter Try.func53, Try.ntmps53
    go_wp2_with fail
    refine (hs_as A b true _ E1.out (by omega) (by omega)).mono ?_
    rintro e w1 ⟨rfl, rfl⟩
    go_wp2_with fail
    go_ret
    exact ⟨rfl, HB.out⟩

/-- The first k sets of what comes out, the others as they were. -/
def wmid (g : Nat → Nat) (a b k p : Nat) : Nat := if p < k then wth g a b p else g p
theorem wmid_zero (g : Nat → Nat) (a b : Nat) : wmid g a b 0 = g := by funext p; simp [wmid]
theorem wmid_self (g : Nat → Nat) (a b k : Nat) : wmid g a b k k = g k := by simp [wmid]
theorem wmid_yes {g : Nat → Nat} {a b k : Nat} (h : k = b ∨ (g k).testBit b = true) : wmid g a b (k + 1) = upd (wmid g a b k) k (g k ||| (g a ||| pw a)) := by
  funext p
  by_cases e : p = k
  · subst e; rw [upd_same]; unfold wmid; rw [if_pos (by omega)]; unfold wth; rw [if_pos h]
  · rw [upd_other _ _ _ _ e]; unfold wmid
    by_cases e2 : p < k
    · rw [if_pos (by omega), if_pos e2]
    · rw [if_neg (by omega), if_neg e2]
theorem wmid_no {g : Nat → Nat} {a b k : Nat} (h : ¬ (k = b ∨ (g k).testBit b = true)) : wmid g a b (k + 1) = wmid g a b k := by
  funext p
  by_cases e : p = k
  · subst e; unfold wmid; rw [if_pos (by omega), if_neg (by omega)]; unfold wth; rw [if_neg h]
  · unfold wmid
    by_cases e2 : p < k
    · rw [if_pos (by omega), if_pos e2]
    · rw [if_neg (by omega), if_neg e2]
theorem KB.set {w : World} {b : Nat} {g : Nat → Nat} (h : KB w b g) {u v : Nat} (hu : u < 5) : KB (w.setCell ⟨b, u, none⟩ (.int .i64 (v : Nat))) b (upd g u v) := Own.set (n := 5) h u v hu
theorem KB.keep {w w' : World} {b B : Nat} {g : Nat → Nat} (h : KB w b g) (hB : Below B w w') (hb : b < B) : KB w' b g := Own.keep (n := 5) h hB hb
theorem pw_five {a : Nat} (h : a < 5) : pw a < 32 := Nat.pow_lt_pow_right (a := 2) (m := a) (n := 5) (by decide) h
theorem or_five {x y : Nat} (hx : x < 32) (hy : y < 32) : x ||| y < 32 := Nat.or_lt_two_pow (n := 5) hx hy
theorem wmid_small {g : Nat → Nat} (hg : ∀ i, g i < 32) {a b : Nat} (ha : a < 5) (k p : Nat) : wmid g a b k p < 32 := by
  unfold wmid wth
  split
  · split
    · exact or_five (hg p) (or_five (hg a) (pw_five ha))
    · exact hg p
  · exact hg p
theorem KB.congr {w : World} {b : Nat} {g h : Nat → Nat} (k : KB w b g) (e : ∀ i, i < 5 → g i = h i) : KB w b h := fun i hi => by rw [← e i hi]; exact k i hi
theorem KB.set5 {w : World} {b : Nat} {g : Nat → Nat} (h : KB w b g) (u : Nat → Nat) :
    KB (((((w.setCell ⟨b, 0, none⟩ (.int .i64 (u 0 : Nat))).setCell ⟨b, 1, none⟩ (.int .i64 (u 1 : Nat))).setCell ⟨b, 2, none⟩ (.int .i64 (u 2 : Nat))).setCell ⟨b, 3, none⟩ (.int .i64 (u 3 : Nat))).setCell ⟨b, 4, none⟩ (.int .i64 (u 4 : Nat))) b u :=
  (((((h.set (u := 0) (v := u 0) (by decide)).set (u := 1) (v := u 1) (by decide)).set (u := 2) (v := u 2) (by decide)).set (u := 3) (v := u 3) (by decide)).set (u := 4) (v := u 4) (by decide)).congr fun i hi => by
    match i, hi with
    | 0, _ => rfl
    | 1, _ => rfl
    | 2, _ => rfl
    | 3, _ => rfl
    | 4, _ => rfl
theorem res_known {fn : Func} {p : Tmp} (h : fn.results = #[.cell p 62]) (tmps : Array Value) (W : World) (b : Nat) (g : Nat → Nat) (hp : tmps.getD p undef = .pointer (some ⟨b, 0, none⟩)) (hk : KB W b g) :
    (results fn tmps).run Try.prog W = .ok (.agg (kva g)) W := by
  have hp' : tmps[p]?.getD undef = .pointer (some ⟨b, 0, none⟩) := by simpa using hp
  have k0 := (hk 0 (by decide)).1
  have k1 := (hk 1 (by decide)).1
  have k2 := (hk 2 (by decide)).1
  have k3 := (hk 3 (by decide)).1
  have k4 := (hk 4 (by decide)).1
  simp [results, h, hp', asAddr, loadVar, go_sem, k0, k1, k2, k3, k4, kva]
theorem KB.two (w : World) (g : Nat → Nat) (W : World) (h : (w.alloc (.cells (kva g) 62)).alloc (.cells #[.int .i64 0, .int .i64 0, .int .i64 0, .int .i64 0, .int .i64 0] 62) = W) :
    KB W w.heap.size g ∧ KB W (w.heap.size + 1) (fun _ => 0) ∧ Below w.heap.size w W := by
  subst h
  refine ⟨(KB.box w g).keep (B := w.heap.size + 1) ((Below.refl _ _).alloc (by simp) _) (by omega), ?_, ((Below.refl _ _).alloc (Nat.le_refl _) _).alloc (by simp) _⟩
  have := KB.box (w.alloc (.cells (kva g) 62)) (fun _ => 0)
  simp only [World.size_alloc] at this
  exact this
theorem KB.drewN {w : World} {b : Nat} {g : Nat → Nat} (h : KB w b g) (m : Nat) : KB (w.drewN m) b g := h
set_option maxHeartbeats 2000000 in
theorem with_any (g : Nat → Nat) (a b : Nat) (w : World) (ha : a < 5) (hb : b < 5) (hg : ∀ i, g i < 32) :
    Calls Try.prog 37 #[.agg (kva g), .int .i64 a, .int .i64 b] w fun e w' => e = .returned (.agg (kva (wth g a b))) ∧ Below w.heap.size w w' := by
  obtain ⟨W, HW⟩ : ∃ W, Hid ((w.alloc (.cells (kva g) 62)).alloc (.cells #[.int .i64 0, .int .i64 0, .int .i64 0, .int .i64 0, .int .i64 0] 62) = W) := ⟨_, rfl⟩
  obtain ⟨hK, hZ, hB⟩ := KB.two w g W HW.out
  have HK : Hid (KB W w.heap.size g) := hK
  have HZ : Hid (KB W (w.heap.size + 1) (fun _ => 0)) := hZ
  have HB : Hid (Below w.heap.size w W) := hB
  have HG : Hid (∀ i, g i < 32) := hg
  have ca := (hK a ha).1
  have hga := hg a
  have hpa := pw_five ha
  have hpw := wrap_pow a (by omega)
  have hsh2 := iwrap_pow a (by omega)
  have ho := i64_or (g a) (pw a) (by omega) (by omega)
  obtain ⟨M, HM⟩ : ∃ M, Hid (g a ||| pw a = M) := ⟨_, rfl⟩
  have hM : M < 32 := by rw [← HM.out]; exact or_five hga hpa
  have HP : Hid (∀ k p, wmid g a b k p < 32) := wmid_small hg ha
  rw [HM.out] at ho
  clear hK hZ hB hg
  go_enter Try.func37, Try.ntmps37
  go_wp2_with fail
  rw [HW.out]
  go_region
  clear HW ca hpw hsh2 ho hpa hga
  have HB2 : Hid (Below w.heap.size w W.drew) := HB.out.drew
  have HK2 : Hid (KB W.drew w.heap.size g) := HK.out
  have HZ2 : Hid (KB W.drew (w.heap.size + 1) (fun _ => 0)) := HZ.out
  clear HB HK HZ
  generalize W.drew = W at *
  go_wp2_with fail
  go_loopw [8, 15] (fun _ x wx => ∃ k : Nat, k ≤ 5 ∧ x = .int .i64 k ∧ Hid (KB wx w.heap.size (wmid g a b k)) ∧ Hid (KB wx (w.heap.size + 1) (fun _ => 0)) ∧ Hid (Below w.heap.size w wx)) (fun _ x _ => 5 - (intOf x).toNat)
  case atStart => exact ⟨0, by omega, rfl, by rw [wmid_zero]; exact HK2, HZ2, HB2⟩
  case round =>
    clear HB2 HK2 HZ2
    obtain ⟨k, hk, rfl, hK, hZ, hB⟩ := hrel
    by_cases hk5 : k < 5
    · have hki : (k : Int) < 5 := by omega
      have ck := (hK.out k hk5).1
      have fk := (hK.out k hk5).2
      rw [wmid_self] at ck
      have hgk := HG.out k
      by_cases hkb : k = b
      · subst hkb
        have HE : Hid (wmid g a k (k + 1) = upd (wmid g a k k) k (g k ||| M)) := by rw [← HM.out]; exact wmid_yes (.inl rfl)
        have hor := i64_or (g k) M (by omega) (by omega)
        obtain ⟨X, HX⟩ : ∃ X, Hid (g k ||| M = X) := ⟨_, rfl⟩
        rw [HX.out] at hor
        have HK3 : Hid (KB (wr.setCell ⟨w.heap.size, k, none⟩ (.int .i64 (X : Nat))) w.heap.size (wmid g a k (k + 1))) := by rw [HE.out, HX.out]; exact hK.out.set hk5
        have HZ3 : Hid (KB (wr.setCell ⟨w.heap.size, k, none⟩ (.int .i64 (X : Nat))) (w.heap.size + 1) (fun _ => 0)) := fun i hi => ⟨by rw [World.cell?_setCell_other _ _ _ _ (fun e2 => by injection e2; omega)]; exact (hZ.out i hi).1, by rw [World.frozen?_setCell]; exact (hZ.out i hi).2⟩
        have HB3 : Hid (Below w.heap.size w (wr.setCell ⟨w.heap.size, k, none⟩ (.int .i64 (X : Nat)))) := Below.setCell (p := ⟨w.heap.size, k, none⟩) hB.out (Nat.le_refl _) _
        clear hK hZ hB HE HX
        go_wp2_with fail
        go_roundw
        case rel => exact ⟨k + 1, by omega, by go_num, HK3, HZ3, HB3⟩
        case measure => simp [intOf]; omega
      · have hkb' : ((k : Int) == (b : Int)) = false := by simp; omega
        cases hbit : (g k).testBit b
        · have HE : Hid (wmid g a b (k + 1) = wmid g a b k) := wmid_no (by rw [hbit]; simp [hkb])
          have HT : Hid ((g k).testBit b = false) := hbit
          have HK3 : Hid (KB wr w.heap.size (wmid g a b (k + 1))) := by rw [HE.out]; exact hK
          clear hK HE hbit
          go_wp2_with fail
          refine (hs_as (g k) b false _ HT.out (by omega) (by omega)).mono ?_
          rintro e w1 ⟨rfl, rfl⟩
          go_wp2_with fail
          go_roundw
          case rel => exact ⟨k + 1, by omega, by go_num, HK3, hZ, hB⟩
          case measure => simp [intOf]; omega
        · have HT : Hid ((g k).testBit b = true) := hbit
          have HE : Hid (wmid g a b (k + 1) = upd (wmid g a b k) k (g k ||| M)) := by rw [← HM.out]; exact wmid_yes (.inr hbit)
          have hor := i64_or (g k) M (by omega) (by omega)
          obtain ⟨X, HX⟩ : ∃ X, Hid (g k ||| M = X) := ⟨_, rfl⟩
          rw [HX.out] at hor
          have HK3 : Hid (KB (wr.setCell ⟨w.heap.size, k, none⟩ (.int .i64 (X : Nat))) w.heap.size (wmid g a b (k + 1))) := by rw [HE.out, HX.out]; exact hK.out.set hk5
          have HZ3 : Hid (KB (wr.setCell ⟨w.heap.size, k, none⟩ (.int .i64 (X : Nat))) (w.heap.size + 1) (fun _ => 0)) := fun i hi => ⟨by rw [World.cell?_setCell_other _ _ _ _ (fun e2 => by injection e2; omega)]; exact (hZ.out i hi).1, by rw [World.frozen?_setCell]; exact (hZ.out i hi).2⟩
          have HB3 : Hid (Below w.heap.size w (wr.setCell ⟨w.heap.size, k, none⟩ (.int .i64 (X : Nat)))) := Below.setCell (p := ⟨w.heap.size, k, none⟩) hB.out (Nat.le_refl _) _
          clear hK hZ hB HE HX hbit
          go_wp2_with fail
          refine (hs_as (g k) b true _ HT.out (by omega) (by omega)).mono ?_
          rintro e w1 ⟨rfl, rfl⟩
          go_wp2_with fail
          go_roundw
          case rel => exact ⟨k + 1, by omega, by go_num, HK3, HZ3, HB3⟩
          case measure => simp [intOf]; omega
    · obtain rfl : k = 5 := by omega
      have z0 := (hZ.out 0 (by decide)).1
      have z1 := (hZ.out 1 (by decide)).1
      have z2 := (hZ.out 2 (by decide)).1
      have z3 := (hZ.out 3 (by decide)).1
      have z4 := (hZ.out 4 (by decide)).1
      have y0 := (hZ.out 0 (by decide)).2
      have y1 := (hZ.out 1 (by decide)).2
      have y2 := (hZ.out 2 (by decide)).2
      have y3 := (hZ.out 3 (by decide)).2
      have y4 := (hZ.out 4 (by decide)).2
      have k0 := (hK.out 0 (by decide)).1
      have k1 := (hK.out 1 (by decide)).1
      have k2 := (hK.out 2 (by decide)).1
      have k3 := (hK.out 3 (by decide)).1
      have k4 := (hK.out 4 (by decide)).1
      have HE : Hid (kva (wmid g a b 5) = kva (wth g a b)) := rfl
      have HZ : Hid (KB wr (w.heap.size + 1) (fun _ => 0)) := hZ
      clear hK hZ
      go_wp2_with fail
      exact bodyPost_ret (res_known (p := 6) rfl _ _ (w.heap.size + 1) (wmid g a b 5) rfl (HZ.out.set5 _)) rfl ⟨by rw [HE.out], Below.setCell (p := ⟨w.heap.size + 1, 4, none⟩) (Below.setCell (p := ⟨w.heap.size + 1, 3, none⟩) (Below.setCell (p := ⟨w.heap.size + 1, 2, none⟩) (Below.setCell (p := ⟨w.heap.size + 1, 1, none⟩) (Below.setCell (p := ⟨w.heap.size + 1, 0, none⟩) hB.out (by simp) _) (by simp) _) (by simp) _) (by simp) _) (by simp) _⟩

/-- The sets of an order, and nothing beyond. -/
def knw (g : Nat → Nat) (n p : Nat) : Nat := if p < n then g p else 0
/-- The sets of an order as values. -/
def ksV (g : Nat → Nat) (n : Nat) : List Value := (List.range n).map fun k => .int .i64 (g k : Nat)
theorem ks_len (g : Nat → Nat) (n : Nat) : (ksV g n).length = n := by simp [ksV]
theorem ks_at (g : Nat → Nat) {n j : Nat} {v : Value} (h : (ksV g n)[j]? = some v) : j < n ∧ v = .int .i64 (g j : Nat) := by
  unfold ksV at h
  rw [List.getElem?_map] at h
  rcases Nat.lt_or_ge j n with hj | hj
  · rw [List.getElem?_range hj] at h
    exact ⟨hj, by simpa using h.symm⟩
  · rw [List.getElem?_eq_none (by simpa using hj)] at h; cases h
theorem KB.of_splice {w : World} {b : Nat} {g : Nat → Nat} {n : Nat} (h : w.heap[b]? = some (.cells (splice [.int .i64 0, .int .i64 0, .int .i64 0, .int .i64 0, .int .i64 0] 0 (ksV g n)).toArray 62 (0, 0))) : KB w b (knw g n) := by
  intro i hi
  have hi' : (splice [.int .i64 0, .int .i64 0, .int .i64 0, .int .i64 0, .int .i64 0] 0 (ksV g n))[i]? = some (.int .i64 (knw g n i : Nat)) := by
    unfold splice knw
    simp only [List.take_zero, List.nil_append, Nat.zero_add, ks_len]
    by_cases hin : i < n
    · rw [List.getElem?_append_left (by rw [ks_len]; exact hin), if_pos hin]
      unfold ksV
      rw [List.getElem?_map, List.getElem?_range hin]; rfl
    · rw [List.getElem?_append_right (by rw [ks_len]; omega), if_neg hin, ks_len, List.getElem?_drop]
      have : n + (i - n) = i := by omega
      rw [this]
      match i, hi with
      | 0, _ => rfl
      | 1, _ => rfl
      | 2, _ => rfl
      | 3, _ => rfl
      | 4, _ => rfl
  constructor
  · simp [World.cell?, h, hi']
  · simp [World.frozen?, h]
set_option maxHeartbeats 2000000 in
theorem knownOf_any (n : Nat) (a : Option Addr) (cap : Nat) (g : Nat → Nat) (w : World) (hn : n ≤ 5) (hr : Row w a n (fun k => (g k : Nat))) :
    Calls Try.prog 31 #[.agg #[.int .i64 (n : Nat), .slice a n cap]] w fun e w' => e = .returned (.agg (kva (knw g n))) ∧ Below w.heap.size w w' := by
  obtain ⟨W1, HW1⟩ : ∃ W1, Hid (w.alloc (.cells #[.int .i64 (n : Nat), .slice a n cap] 24) = W1) := ⟨_, rfl⟩
  obtain ⟨W, HW⟩ : ∃ W, Hid ((W1.alloc (.cells #[.int .i64 0, .int .i64 0, .int .i64 0, .int .i64 0, .int .i64 0] 62)).alloc (.cells #[.int .i64 0, .int .i64 0, .int .i64 0, .int .i64 0, .int .i64 0] 62) = W) := ⟨_, rfl⟩
  have hs1 : W1.heap.size = w.heap.size + 1 := by rw [← HW1.out]; simp
  have hB1 : Below w.heap.size w W1 := by rw [← HW1.out]; exact (Below.refl _ _).alloc (Nat.le_refl _) _
  have h2 := KB.two W1 (fun _ => 0) W HW.out
  rw [hs1] at h2
  have HZ : Hid (KB W (w.heap.size + 1) (fun _ => 0)) := h2.1
  have c1 : W.cell? ⟨w.heap.size, 1, none⟩ = some (.slice a n cap) := by
    refine (h2.2.2.cell (p := ⟨w.heap.size, 1, none⟩) (by simp)).trans ?_
    rw [← HW1.out]; simp
  have hB : Below w.heap.size w W := Below.then hB1 (h2.2.2.mono (by omega))
  have HH : Hid (W.heap[w.heap.size + 2]? = some (.cells [Value.int .i64 0, .int .i64 0, .int .i64 0, .int .i64 0, .int .i64 0].toArray 62 (0, 0))) := by
    show _ = _
    have e : w.heap.size + 2 = (W1.alloc (.cells #[.int .i64 0, .int .i64 0, .int .i64 0, .int .i64 0, .int .i64 0] 62)).heap.size := by simp [hs1]
    rw [← HW.out, e, heap_alloc_new]
  have HS : Hid (0 < (ksV g n).length → ∃ ad, a = some ad ∧ ∀ j v, (ksV g n)[j]? = some v → W.drew.cell? (ad.add j) = some v) := by
    intro h0
    rw [ks_len] at h0
    obtain ⟨b0, off, rfl, hc⟩ := hr.at h0
    refine ⟨_, rfl, fun j v hv => ?_⟩
    obtain ⟨hj, rfl⟩ := ks_at g hv
    have hlt := World.block_lt_of_cell? _ _ (hc j hj)
    have hadd : (⟨b0, off, none⟩ : Addr).add j = ⟨b0, off + j, none⟩ := by unfold Addr.add; split <;> simp_all
    rw [hadd]
    exact (hB.cell (p := ⟨b0, off + j, none⟩) hlt).trans (hc j hj)
  have HB : Hid (Below w.heap.size w W.drew) := hB.drew
  have hsz : (Try.prog.info? 3).map (·.size) = some 1 := by kernel_rfl
  have HL : Hid ((ksV g n).length = Nat.min n 5) := by show _ = _; rw [ks_len]; exact (Nat.min_eq_left hn).symm
  have HF : Hid (0 + (ksV g n).length ≤ [Value.int .i64 0, .int .i64 0, .int .i64 0, .int .i64 0, .int .i64 0].length) := by show _ ≤ _; rw [ks_len]; simpa using hn
  have H1 : Hid (∀ v ∈ ksV g n, v.oneCell' = true) := fun v hv => by
    obtain ⟨k, _, rfl⟩ := List.mem_map.1 hv; rfl
  clear h2 hs1 hB1 hB hr
  go_enter Try.func31, Try.ntmps31
  go_wp2_with fail
  rw [HW1.out, HW.out]
  go_region_law (refine step_copy_splice rfl (.tmp 4) (.tmp 6) 22 22 rfl 3 Try.underlying22 hsz (some ⟨w.heap.size + 1 + 1, 0, none⟩) a 5 5 n cap rfl rfl (w.heap.size + 1 + 1) 0 [Value.int .i64 0, .int .i64 0, .int .i64 0, .int .i64 0, .int .i64 0] 62 HH.out (ksV g n) HL.out (fun h => ⟨rfl, HS.out h⟩) HF.out H1.out (w.heap.size + 1 + 1) W.drew (Below.refl _ _) (Nat.le_refl _) ?_; intro w4 hg4 hb4)
  have HK4 : KB w4 (w.heap.size + 1 + 1) (knw g n) := KB.of_splice hg4.out
  have HZ4 : Hid (KB w4 (w.heap.size + 1) (fun _ => 0)) := KB.keep (KB.drewN HZ.out 1) hb4 (by omega)
  have HB4 : Hid (Below w.heap.size w w4) := Below.trans HB.out (hb4.mono (by omega))
  have z0 := (HZ4.out 0 (by decide)).1
  have z1 := (HZ4.out 1 (by decide)).1
  have z2 := (HZ4.out 2 (by decide)).1
  have z3 := (HZ4.out 3 (by decide)).1
  have z4 := (HZ4.out 4 (by decide)).1
  have y0 := (HZ4.out 0 (by decide)).2
  have y1 := (HZ4.out 1 (by decide)).2
  have y2 := (HZ4.out 2 (by decide)).2
  have y3 := (HZ4.out 3 (by decide)).2
  have y4 := (HZ4.out 4 (by decide)).2
  have k0 := (HK4 0 (by decide)).1
  have k1 := (HK4 1 (by decide)).1
  have k2 := (HK4 2 (by decide)).1
  have k3 := (HK4 3 (by decide)).1
  have k4 := (HK4 4 (by decide)).1
  clear HW1 HW HZ HH HS HB HL HF H1 hg4 hb4 HK4 c1 hsz
  go_wp2_with fail
  exact bodyPost_ret (res_known (p := 2) rfl _ _ (w.heap.size + 1) (knw g n) rfl (HZ4.out.set5 _)) rfl ⟨rfl, Below.setCell (p := ⟨w.heap.size + 1, 4, none⟩) (Below.setCell (p := ⟨w.heap.size + 1, 3, none⟩) (Below.setCell (p := ⟨w.heap.size + 1, 2, none⟩) (Below.setCell (p := ⟨w.heap.size + 1, 1, none⟩) (Below.setCell (p := ⟨w.heap.size + 1, 0, none⟩) HB4.out (by simp) _) (by simp) _) (by simp) _) (by simp) _) (by simp) _⟩
end Go.Proofs.Ytipgojoiakbaiaa
