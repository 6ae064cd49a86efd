/-
  What convex.Ends answers, whatever it is handed. No condition but that a slice reads as a slice of numbers.
-/
import Derived.Test.YtjoklkbfcobfeaaDoorFamP
import Derived.Test.YtjoklkbfcobfeaaDoorRefHul
import Derived.Test.YtjoklkbfcobfeaaDoorLate
namespace Go.Proofs.YtjoklkbfcobfeaaDoor
open Go.RowKit

theorem fil_lt {I : Nat → Bool} : ∀ {K x : Nat}, x ∈ fil I K → x < K
  | 0, x, h => by cases h
  | K + 1, x, h => by
    cases e : I K
    · rw [fil_no e] at h; have := fil_lt h; omega
    · rw [fil_yes e, List.mem_append, List.mem_singleton] at h
      rcases h with h | rfl
      · have := fil_lt h; omega
      · omega
theorem nth_mem {l : List Nat} {k : Nat} (h : k < l.length) : nth l k ∈ l := by
  have e : nth l k = l[k] := by simp [nth, h]
  rw [e]; exact List.getElem_mem h
theorem idls_lt {g : Nat → Nat} {n k : Nat} (hk : k < (idls g n).length) : nth (idls g n) k < pw n := fil_lt (nth_mem hk)
/-- The end that an ideal and the rest of another one make. -/
def enx (n : Nat) (L : List Nat) (k j : Nat) : Nat := nth L k ||| rst n (nth L j)
/-- The ends of the first k ideals, and of the next one with the first j. -/
def enB (n : Nat) (L : List Nat) (k j s : Nat) : Bool := anyB (fun i => anyB (fun t => enx n L i t == s) L.length) k || anyB (fun t => enx n L k t == s) j
theorem enB_zero (n : Nat) (L : List Nat) : enB n L 0 0 = fun _ => false := rfl
theorem enB_step (n : Nat) (L : List Nat) (k j : Nat) : enB n L k (j + 1) = updB (enB n L k j) (enx n L k j) := by
  funext s
  show (_ || (_ || (enx n L k j == s))) = _
  by_cases e : s = enx n L k j
  · subst e; rw [updB_same]; simp
  · rw [updB_other _ e]
    have : (enx n L k j == s) = false := by simpa using fun h : enx n L k j = s => e h.symm
    rw [this, Bool.or_false]; rfl
theorem enB_next (n : Nat) (L : List Nat) (k : Nat) : enB n L k L.length = enB n L (k + 1) 0 := by
  funext s
  show (_ || _) = ((_ || _) || false)
  rw [Bool.or_false]
def ends (g : Nat → Nat) (n : Nat) : List Nat := fil (enB n (idls g n) (idls g n).length 0) (pw n)
theorem lack_full {n x : Nat} (h10 : n ≤ 10) (hx : x < pw n) : lack (pw n - 1) x = rst n x := by
  have h1 := full_lt h10
  have h2 := pw_le n h10
  apply Nat.eq_of_testBit_eq
  intro i
  rw [lack_bit _ _ _ (by omega) (by omega), full_bit, rst_bit hx]
theorem rst_lt {n x : Nat} : rst n x < pw n := by have := pw_pos n; unfold rst; omega

set_option maxHeartbeats 2000000 in
theorem cEnds_any (n : Int) (a : Option Addr) (len cap : Nat) (f : Nat → Int) (w : World) (hl : len ≤ maxLen) (hr : Row w a len f) :
    Calls Tryd.prog 16 #[.agg #[.int .i64 n, .slice a len cap]] w fun e w' => FamPost n len f (ends (nat f) len) e w' ∧ Below w.heap.size w w' := by
  obtain ⟨W0, HW0⟩ : ∃ W0, Hid (W0 = (w.alloc (.cells #[.int .i64 n, .slice a len cap] 33)).alloc (.cells #[.int .i64 0, .slice none 0 0] 24)) := ⟨_, rfl⟩
  have HB0 : Hid (Below w.heap.size w W0) := by rw [HW0.out]; exact ((Below.refl _ _).alloc (Nat.le_refl _) _).alloc (by simp) _
  have K0 : Held W0 w.heap.size n a len cap f := by rw [HW0.out]; exact (Held.box hr).step ((Below.refl _ _).alloc (Nat.le_refl _) _)
  have Z0 : ZBox W0 (w.heap.size + 1) := by rw [HW0.out]; have := ZBox.newF (w.alloc (.cells #[.int .i64 n, .slice a len cap] 33)); rw [World.size_alloc] at this; exact this
  have k0 := K0.c0
  have k1 := K0.c1
  clear hr
  go_enter Tryd.func16, Tryd.ntmps16
  go_wp2_with fail
  rw [← HW0.out]
  refine (ideals_any n a len cap f W0 hl K0.row).mono ?_
  rintro e W1 ⟨⟨c, v, hc, rfl, hv⟩, hb1⟩
  have HB1 : Hid (Below w.heap.size w W1) := Below.then HB0.out hb1
  have K1 := K0.step hb1
  have Z1 := Z0.step hb1
  have HSZ : Hid (w.heap.size + 1 < W1.heap.size) := World.block_lt_of_cell? _ _ Z1.1
  clear hb1 k0 k1
  have k0 := K1.c0
  have HC : Hid (Chk n len f c) := hc
  rcases hv with ⟨h0, rfl⟩ | ⟨rfl, ⟨a1, cap1, rfl, hr1⟩, _⟩
  · have hne : (c != 0) = true := by simpa using h0
    obtain ⟨r0, r1, r2, r3⟩ := Z1
    clear hc
    go_wp2_with fail
    exact bodyPost_ret (v := .tuple #[.agg #[.int .i64 0, .slice none 0 0], .int .i64 c]) (by simp [results, Tryd.results16, go_sem, r0, r1]) rfl ⟨⟨c, _, HC.out, rfl, .inl ⟨h0, rfl⟩⟩, set2B HB1.out (by omega)⟩
  · obtain ⟨rfl, h10, _, _⟩ := hc.good
    have hpn := pw_le len h10
    have hpp := pw_pos len
    have hc0 : ∀ w', Below W1.heap.size W1 w' → w'.cell? ⟨w.heap.size, 0, none⟩ = some (.int .i64 (len : Nat)) := fun w' h => (K1.step h).c0
    have HZ : Hid (ZBox W1 (w.heap.size + 1)) := Z1
    have HLT : Hid (∀ k, k < (idls (nat f) len).length → nth (idls (nat f) len) k < pw len) := fun k hk => idls_lt hk
    have HLL := idls_len (nat f) len h10
    have HFI : Hid (fil (enB len (idls (nat f) len) (idls (nat f) len).length 0) (pw len) = ends (nat f) len) := rfl
    have HR1 : Hid (Row W1 a1 (idls (nat f) len).length (fun k => (nth (idls (nat f) len) k : Nat))) := hr1
    obtain ⟨B, HB⟩ : ∃ B, Hid (B = W1.heap.size) := ⟨_, rfl⟩
    have HNM := (show Hid (Calls Tryd.prog 39 #[.int .i64 (len : Nat)] W1 _) from newMarks_any len W1 h10)
    obtain ⟨L, HLE⟩ : ∃ L, Hid (L = idls (nat f) len) := ⟨_, rfl⟩
    rw [← HLE.out] at HLT HLL HFI HR1 ⊢
    obtain ⟨m, HM⟩ : ∃ m, Hid (m = L.length) := ⟨_, rfl⟩
    have HSTEP : Hid (∀ k j, enB len L k (j + 1) = updB (enB len L k j) (enx len L k j)) := fun k j => enB_step _ _ _ _
    have HNEXT : Hid (∀ k, enB len L k m = enB len L (k + 1) 0) := fun k => by rw [HM.out]; exact enB_next _ _ _
    rw [← HM.out] at HLT HLL HFI HR1 ⊢
    clear hc hr1 K1 Z1
    go_wp2_with fail
    refine HNM.out.mono ?_
    rintro e w2 ⟨rfl, ho2, hb2⟩
    rw [← HB.out] at ho2 ⊢
    have HO2 : Hid (BOwn w2 B (pw len) (enB len L 0 0)) := ho2
    have HB2 : Hid (Below W1.heap.size W1 w2) := hb2
    clear ho2 hb2 HNM k0
    go_wp2_with fail
    go_loopw [25] (fun i wx => ∃ k : Nat, k ≤ m ∧ i = .int .i64 k ∧ Hid (BOwn wx B (pw len) (enB len L k 0)) ∧ Hid (Below W1.heap.size W1 wx)) (fun i _ => m - (intOf i).toNat)
    case atStart => exact ⟨0, Nat.zero_le _, rfl, HO2, HB2⟩
    case round =>
      clear HO2 HB2
      obtain ⟨k, hk, rfl, HO, HBx⟩ := hrel
      by_cases hlt : k < m
      · obtain ⟨b2, off, rfl, hcc⟩ := (HR1.out.below HBx.out) k hlt
        have hc2 : wr.cell? ⟨b2, off + k, none⟩ = some (.int .i64 (nth L k : Nat)) := hcc
        have hlt' : (k : Int) < (m : Int) := by omega
        have hx := HLT.out k hlt
        obtain ⟨x, HX⟩ : ∃ x, Hid (nth L k = x) := ⟨_, rfl⟩
        rw [HX.out] at hc2 hx
        clear hcc
        go_wp2_with fail
        go_loopw [31] (fun i wy => ∃ j : Nat, j ≤ m ∧ i = .int .i64 j ∧ Hid (BOwn wy B (pw len) (enB len L k j)) ∧ Hid (Below W1.heap.size W1 wy)) (fun i _ => m - (intOf i).toNat)
        case atStart => exact ⟨0, Nat.zero_le _, rfl, HO, HBx⟩
        case round =>
          clear HO HBx hc2
          obtain ⟨j, hj, rfl, HO, HBx⟩ := hrel
          by_cases hlt2 : j < m
          · obtain ⟨b3, off3, e3, hcc⟩ := (HR1.out.below HBx.out) j hlt2
            simp at e3
            obtain ⟨rfl, rfl⟩ := e3
            have hc2 : wr.cell? ⟨b2, off + j, none⟩ = some (.int .i64 (nth L j : Nat)) := hcc
            have hlt2' : (j : Int) < (m : Int) := by omega
            have hy := HLT.out j hlt2
            have k0 := hc0 _ HBx.out
            have hE : enx len L k j = x ||| rst len (nth L j) := by unfold enx; rw [HX.out]
            have hst := HSTEP.out k j
            obtain ⟨y, HY⟩ : ∃ y, Hid (nth L j = y) := ⟨_, rfl⟩
            rw [HY.out] at hc2 hy hE
            have hrl : rst len y < pw len := rst_lt
            have han : bits .andNot .i64 (((pw len : Nat) : Int) - 1) ((y : Nat) : Int) = ((rst len y : Nat) : Int) := by
              rw [show (((pw len : Nat) : Int) - 1) = ((pw len - 1 : Nat) : Int) by omega, i64_andNot _ _ (by omega) (by omega), lack_full h10 hy]
            have hol : x ||| rst len y < pw len := Nat.or_lt_two_pow hx hrl
            have hor := i64_or x (rst len y) (by omega) (by omega)
            obtain ⟨q, hq⟩ : ∃ q, x ||| rst len y = q := ⟨_, rfl⟩
            rw [hq] at hol hor hE
            rw [hE] at hst
            have hqi : (q : Int) < ((pw len : Nat) : Int) := by omega
            obtain ⟨hcm, hfm⟩ := HO.out q hol
            have HO2 : Hid (BOwn (wr.setCell ⟨B, q, none⟩ (.bool true)) B (pw len) (enB len L k (j + 1))) := by rw [hst]; exact HO.out.set q
            have HB2 : Hid (Below W1.heap.size W1 (wr.setCell ⟨B, q, none⟩ (.bool true))) := below_set HBx.out (by rw [HB.out]; exact Nat.le_refl _)
            clear hcc hst hE hq
            go_wp2_with fail
            refine (all_any len _ h10).mono ?_
            rintro e w' ⟨rfl, rfl⟩
            go_wp2_with (first | rw [han] | rw [hor])
            go_roundw
            case rel => exact ⟨j + 1, by omega, by go_num, HO2, HB2⟩
            case measure => simp [intOf]; omega
          · obtain rfl : j = m := by omega
            rw [HNEXT.out k] at HO
            go_wp2_with fail
            go_roundw
            case rel => exact ⟨k + 1, by omega, by go_num, HO, HBx⟩
            case measure => simp [intOf]; omega
      · obtain rfl : k = m := by omega
        obtain ⟨M, HMM⟩ : ∃ M, Hid (enB len L k 0 = M) := ⟨_, rfl⟩
        rw [HMM.out] at HO HFI
        have HFIN : Hid (fil M (pw len) = ends (nat f) len) := HFI.out
        have HMX : Hid (BOwn wr.drew B (pw len) M) := HO.out
        clear HO
        go_wp2_with fail
        refine wp_lates (S := (fun w' => Below W1.heap.size W1 w')) (late := (fun i => i == 5 || i == 6)) (by kernel_rfl) ?_
        have HS : Hid (Below W1.heap.size W1 wr.drew) := HBx.out.drew
        refine lates_take (i := 0) (oi := { dst := some 46, op := Go.Op.fieldAddr 33 (Go.Operand.tmp 1) 0, type := 0, pos := "convex.go:42", after := #[], guard := none }) (v := ?_) rfl (by kernel_rfl) (by kernel_rfl) (by kernel_rfl) ⟨rfl, by kernel_rfl⟩ (fun _ _ _ h => h) (Or.inl ⟨by rfl, ?hy⟩) HS.out ?_
        case hy => (intro w9 hSw; (have e0 := hc0 _ hSw); go_simp; try with_reducible rfl)
        try simp only [Act.put, List.setIfInBounds_toArray, List.set_cons_zero, List.set_cons_succ]
        refine lates_take (i := 1) (oi := { dst := some 47, op := Go.Op.load 3 (Go.Operand.tmp 46), type := 3, pos := "convex.go:42", after := #[{ on := 0, ground := Go.Ground.data }], guard := none }) (v := ?_) rfl (by kernel_rfl) (by kernel_rfl) (by kernel_rfl) ⟨rfl, by kernel_rfl⟩ (fun _ _ _ h => h) (Or.inl ⟨by rfl, ?hy⟩) HS.out ?_
        case hy => (intro w9 hSw; (have e0 := hc0 _ hSw); go_simp; try with_reducible rfl)
        try simp only [Act.put, List.setIfInBounds_toArray, List.set_cons_zero, List.set_cons_succ]
        refine lates_take (i := 2) (oi := { dst := some 48, op := Go.Op.move (Go.Operand.tmp 6), type := 57, pos := "convex.go:42", after := #[], guard := none }) (v := ?_) rfl (by kernel_rfl) (by kernel_rfl) (by kernel_rfl) ⟨rfl, by kernel_rfl⟩ (fun _ _ _ h => h) (Or.inl ⟨by rfl, ?hy⟩) HS.out ?_
        case hy => (intro w9 hSw; (have e0 := hc0 _ hSw); go_simp; try with_reducible rfl)
        try simp only [Act.put, List.setIfInBounds_toArray, List.set_cons_zero, List.set_cons_succ]
        refine lates_ready (rs := [3]) (by kernel_rfl) (by simp) ?_
        refine AllLate.cons (o := { dst := some 49, op := Go.Op.call { callee := Go.Callee.value (Go.Operand.func 41), args := #[Go.Operand.tmp 48], argTypes := #[57] }, type := 22, pos := "convex.go:42", after := #[{ on := 2, ground := Go.Ground.data }], guard := none }) rfl (fun K hK => ?_) ?_
        · go_simp
          refine (mlist_any B (pw len) M _ hpn HMX.out).mono ?_
          rintro e w4 ⟨⟨v4, rfl, ⟨a4, cap4, rfl, hr4⟩, hnew4⟩, hb4⟩
          have HW4 : Hid (Below W1.heap.size W1 w4) := Below.then HS.out hb4
          obtain ⟨r0, r1, r2, r3⟩ := HZ.out.step HW4.out
          have HRR : Hid (Row ((w4.setCell ⟨w.heap.size + 1, 0, none⟩ (.int .i64 (len : Int))).setCell ⟨w.heap.size + 1, 1, none⟩ (.slice a4 (fil M (pw len)).length cap4)) a4 (fil M (pw len)).length (fun k => (nth (fil M (pw len)) k : Nat))) := row_new hr4 (fun k hk => by have h1 := hnew4 k hk; have h2 := HSZ.out; have h3 := HS.out.size; omega)
          clear hr4 hnew4 hb4
          refine hK.out _ _ (fun _ => ?_) ?_
          · exact HW4.out
          have HS := HW4
          clear hK K
          try simp only [Act.put, List.setIfInBounds_toArray, List.set_cons_zero, List.set_cons_succ]
          refine lates_take (i := 4) (oi := { dst := some 50, op := Go.Op.build 24 #[(0, Go.Operand.tmp 47), (1, Go.Operand.tmp 49)], type := 24, pos := "convex.go:42", after := #[{ on := 1, ground := Go.Ground.data }, { on := 3, ground := Go.Ground.data }], guard := none }) (v := ?_) rfl (by kernel_rfl) (by kernel_rfl) (by kernel_rfl) ⟨rfl, by kernel_rfl⟩ (fun _ _ _ h => h) (Or.inl ⟨by rfl, ?hy⟩) HS.out ?_
          case hy => (intro w9 hSw; (have e0 := hc0 _ hSw); go_simp; try with_reducible rfl)
          try simp only [Act.put, List.setIfInBounds_toArray, List.set_cons_zero, List.set_cons_succ]
          refine lates_ready (rs := [5]) (by kernel_rfl) (by simp) ?_
          refine AllLate.cons (o := { dst := none, op := Go.Op.store 24 (Go.Operand.tmp 2) (Go.Operand.tmp 50), type := 0, pos := "convex.go:42", after := #[{ on := 4, ground := Go.Ground.data }, { on := 3, ground := Go.Ground.chain }, { on := 0, ground := Go.Ground.phase }, { on := 1, ground := Go.Ground.phase }, { on := 2, ground := Go.Ground.phase }, { on := 3, ground := Go.Ground.phase }, { on := 4, ground := Go.Ground.phase }], guard := none }) rfl (fun K hK => ?_) ?_
          · go_simp
            skip
            refine hK.out _ _ (fun h => by cases h) ?_
            clear hK K
            try simp only [Act.put, List.setIfInBounds_toArray, List.set_cons_zero, List.set_cons_succ]
            refine lates_ready (rs := [6]) (by kernel_rfl) (by simp) ?_
            refine AllLate.cons (o := { dst := some 3, op := Go.Op.assign (Go.Operand.const (Go.Value.int Go.IntKind.i64 0)), type := 25, pos := "convex.go:42", after := #[{ on := 5, ground := Go.Ground.chain }, { on := 0, ground := Go.Ground.phase }, { on := 1, ground := Go.Ground.phase }, { on := 2, ground := Go.Ground.phase }, { on := 3, ground := Go.Ground.phase }, { on := 4, ground := Go.Ground.phase }, { on := 5, ground := Go.Ground.phase }], guard := none }) rfl (fun K hK => ?_) ?_
            · go_simp
              skip
              refine hK.out _ _ (fun h => by cases h) ?_
              clear hK K
              try simp only [Act.put, List.setIfInBounds_toArray, List.set_cons_zero, List.set_cons_succ]
              refine lates_done (by kernel_rfl) ?_ _
              try simp only [Act.put, List.setIfInBounds_toArray, List.set_cons_zero, List.set_cons_succ]
              go_wp2_with fail
              rw [HFIN.out] at HRR ⊢
              refine bodyPost_ret (v := .tuple #[.agg #[.int .i64 (len : Nat), .slice a4 (ends (nat f) len).length cap4], .int .i64 0]) ?_ rfl ⟨⟨0, _, HC.out, rfl, .inr ⟨rfl, _, _, rfl, HRR.out⟩⟩, ?_⟩
              · simp [results, Tryd.results16, go_sem, r0, r1]
              · exact set2B (Below.then HB1.out HW4.out) (by omega)
            exact AllLate.nil
          exact AllLate.nil
        exact AllLate.nil
end Go.Proofs.YtjoklkbfcobfeaaDoor
