/-
  What the algebra's layOut leaves: a table of what each two elements imply. Conditions: a lattice of one to forty elements, and a place for the table.
-/
import Derived.Deep.OwnRows
import Derived.Test.YtfkkjebgccnlnaaLayR
import Derived.Test.YtfkkjebgccnlnaaAlgP
namespace Go.Proofs.Ytfkkjebgccnlnaa
set_option maxRecDepth 100000
open Go.RowKit

theorem Try.infoLI : (Try.prog.info? 37).map (fun i => (i.zero, i.size, i.bytes)) = some (some (.slice none 0 0), 1, 12 + 12) := by kernel_rfl
/-- What layOut leaves in w', the algebra at A being as in wa. -/
structure Laid (wa : World) (A n : Nat) (f : Nat → Nat → Nat) (w : World) : Prop where
  bel : Below A wa w
  cs : ∀ k, k ≠ 6 → w.cell? ⟨A, k, none⟩ = wa.cell? ⟨A, k, none⟩
  fz : ∀ k, w.frozen? ⟨A, k, none⟩ = wa.frozen? ⟨A, k, none⟩
  tb : ∃ T R, (w.cell? ⟨A, 6, none⟩ = some (.slice (some ⟨T, 0, none⟩) n n) ∧ Tb w T 0 n R f) ∧ A < T ∧ ∀ k, k < n → A < (R k).1
  b2 : ∃ V, Below wa.heap.size (wa.setCell ⟨A, 6, none⟩ V) w
theorem one_start {wa : World} {A n : Nat} {f : Nat → Nat → Nat} {x6 : Value} (hA : wa.cell? ⟨A, 6, none⟩ = some x6) :
    One wa A wa.heap.size (wa.heap.size + 1) n 0 (fun _ => (0, 0)) f (.slice none 0 0) 0 ((wa.alloc (.cells (madeCells #[.slice none 0 0] n) 37)).setCell ⟨A, 6, none⟩ (.slice (some ⟨wa.heap.size, 0, none⟩) n n)) := by
  have hlt : A < wa.heap.size := World.block_lt_of_cell? _ _ hA
  have B0 : Below wa.heap.size wa (wa.alloc (.cells (madeCells #[.slice none 0 0] n) 37)) := (Below.refl _ _).alloc (Nat.le_refl _) _
  have HO : OwnS (wa.alloc (.cells (madeCells #[.slice none 0 0] n) 37)) wa.heap.size n (fun _ => .slice none 0 0) := fun k hk => by
    refine ⟨?_, World.frozen?_alloc_at _ _ _ _ rfl⟩
    simp
    rw [← Array.getElem?_toList, toList_madeCells_one]
    simp [hk]
  refine ⟨?_, ?_, ?_, ?_, ?_, fun k hk => absurd hk (Nat.not_lt_zero _), World.ownsRow_nil _ _ _ _, hlt, by omega, by simp, ?_⟩
  · exact (B0.mono (show A ≤ wa.heap.size by omega)).setCell (p := ⟨A, 6, none⟩) (Nat.le_refl _) _
  · intro k hk
    rw [World.cell?_setCell_other _ _ _ _ (fun e => hk (by injection e with _ e2; exact e2.symm))]
    exact B0.cell (p := ⟨A, k, none⟩) hlt
  · intro k
    rw [World.frozen?_setCell]
    exact B0.frozen (p := ⟨A, k, none⟩) hlt
  · exact World.cell?_setCell_same _ _ _ ((B0.cell (p := ⟨A, 6, none⟩) hlt).trans hA)
  · refine (HO.other (show A ≠ wa.heap.size by omega) _).congr (fun k _ => ?_)
    unfold rowF
    rw [if_neg (Nat.not_lt_zero _)]
    split <;> rfl
  · rw [World.setCell_alloc_past _ _ _ _ hlt]
    exact (Below.refl _ _).alloc (by simp) _
set_option maxHeartbeats 2000000 in
theorem layOut_any {A n b off ca b' off' cb : Nat} {R R' : Nat → Nat × Nat × Nat} {m j : Nat → Nat → Nat} {wa : World} {x6 : Value} (h1 : 1 ≤ n) (h40 : n ≤ 40) (hl : Lat n m j) (hL : LB wa A (n : Nat) (some ⟨b, off, none⟩) n ca (some ⟨b', off', none⟩) n cb)
    (ht : ∀ w', Below A wa w' → Tb w' b off n R m) (ho : ∀ w', Below A wa w' → Tb w' b' off' n R' j) (h6 : wa.cell? ⟨A, 6, none⟩ = some x6) (f6 : wa.frozen? ⟨A, 6, none⟩ = false) :
    Calls Try.prog 27 #[.pointer (some ⟨A, 0, none⟩)] wa fun e w' => e = .returned (.tuple #[]) ∧ Laid wa A n (imp n m j) w' := by
  have HT0 : Hid (One wa A wa.heap.size (wa.heap.size + 1) n 0 (fun _ => (0, 0)) (imp n m j) (.slice none 0 0) 0 ((wa.setCell ⟨A, 6, none⟩ (.slice (some ⟨wa.heap.size, 0, none⟩) n n)).alloc (.cells (madeCells #[.slice none 0 0] n) 37))) := by
    rw [← World.setCell_alloc_past _ _ _ _ (World.block_lt_of_cell? _ _ h6)]; exact one_start h6
  have hmk := run_make_row' (P := Try.prog) 22 37 (.slice none 0 0) (12 + 12) Try.underlying22 Try.infoLI rfl .i64 .i64 n (by omega) (by omega) wa
  have hlt : A < wa.heap.size := World.block_lt_of_cell? _ _ h6
  have B0 : Below wa.heap.size wa (wa.alloc (.cells (madeCells #[.slice none 0 0] n) 37)) := (Below.refl _ _).alloc (Nat.le_refl _) _
  have g6 : (wa.alloc (.cells (madeCells #[.slice none 0 0] n) 37)).cell? ⟨A, 6, none⟩ = some x6 := (B0.cell (p := ⟨A, 6, none⟩) hlt).trans h6
  have k6 : (wa.alloc (.cells (madeCells #[.slice none 0 0] n) 37)).frozen? ⟨A, 6, none⟩ = false := (B0.frozen (p := ⟨A, 6, none⟩) hlt).trans f6
  have HLB : Hid (∀ {T H x Rr v y} w', One wa A T H n x Rr (imp n m j) v y w' → LB w' A (n : Nat) (some ⟨b, off, none⟩) n ca (some ⟨b', off', none⟩) n cb) := fun w' h => ⟨(h.cs 0 (by omega)).trans hL.1, (h.cs 1 (by omega)).trans hL.2.1, (h.cs 2 (by omega)).trans hL.2.2⟩
  have HC : Hid (∀ {T H x Rr v y} , x < n → y < n → ∀ w', One wa A T H n x Rr (imp n m j) v y w' → Calls Try.prog 39 #[.pointer (some ⟨A, 0, none⟩), .int .i64 (x : Nat), .int .i64 (y : Nat)] w' fun e w'' => e = .returned (.int .i64 (imp n m j x y : Nat)) ∧ Below w'.heap.size w' w'') :=
    fun hx hy w' h => greatest_any h1 h40 hl (HLB.out w' h) (ht w' h.bel) (ho w' h.bel) hx hy
  have c0 := hL.1
  have HN1 : Hid (1 ≤ n) := h1
  clear hl hL ht ho B0
  go_enter Try.func27, Try.ntmps27
  go_wp2_with fail
  generalize (wa.setCell ⟨A, 6, none⟩ (.slice (some ⟨wa.heap.size, 0, none⟩) n n)).alloc (.cells (madeCells #[.slice none 0 0] n) 37) = w1 at *
  generalize hTE : wa.heap.size = T at *
  have HTE : Hid (wa.heap.size = T) := hTE
  clear hTE
  clear hmk g6 k6 c0 hlt h6 f6
  go_loopw [18] (fun i wx => ∃ x : Nat, x ≤ n ∧ i = .int .i64 x ∧ ∃ Rr H, Hid (One wa A T H n x Rr (imp n m j) (.slice none 0 0) 0 wx)) (fun i _ => n - (intOf i).toNat)
  case atStart => exact ⟨0, Nat.zero_le _, rfl, _, _, HT0⟩
  case round =>
    clear HT0
    obtain ⟨x, hx, rfl, Rr, H, HT⟩ := hrel
    by_cases hxn : x < n
    · have d0 := (HLB.out wr HT.out).1
      go_wp2_with fail
      go_loopw [26] (fun i wx => ∃ y : Nat, y ≤ n ∧ i = .int .i64 y ∧ ∃ v, Hid (One wa A T H n x Rr (imp n m j) v y wx)) (fun i _ => n - (intOf i).toNat)
      case atStart => exact ⟨0, Nat.zero_le _, rfl, _, HT⟩
      case round =>
        clear HT d0
        obtain ⟨y, hy, rfl, v, HT⟩ := hrel
        by_cases hyn : y < n
        · go_wp2_with fail
          have HCC : Hid (∀ w', One wa A T H n x Rr (imp n m j) v y w' → Calls Try.prog 39 #[.pointer (some ⟨A, 0, none⟩), .int .i64 (x : Nat), .int .i64 (y : Nat)] w' fun e w'' => e = .returned (.int .i64 (imp n m j x y : Nat)) ∧ Below w'.heap.size w' w'') := HC.out hxn hyn
          refine reg7 HT hxn hyn h40 HCC ?_ ?_
          · exact fun _ _ _ _ _ h => h
          intro v3 w3 h3 zcj zda zdb zdc zdd zde zdf zdg zdh zdi zdj zea zeb zec zed zee zef zeg zeh
          have HT3 : Hid (One wa A T H n x Rr (imp n m j) v3 (y + 1) w3) := h3
          clear h3 HT HCC
          go_wp2_with fail
          go_roundw
          case rel => exact ⟨y + 1, by omega, by go_num, _, HT3⟩
          case measure => simp [intOf]; omega
        · obtain rfl : y = n := by omega
          obtain ⟨R5, h5⟩ := HT.out.next HN1.out
          have HT5 : Hid (One wa A T wr.heap.size y (x + 1) R5 (imp y m j) (.slice none 0 0) 0 wr) := h5
          clear h5 HT
          go_wp2_with fail
          go_roundw
          case rel => exact ⟨x + 1, by omega, by go_num, _, _, HT5⟩
          case measure => simp [intOf]; omega
    · obtain rfl : x = n := by omega
      have HD : Hid (Laid wa A x (imp x m j) wr) := ⟨HT.out.bel, HT.out.cs, HT.out.fz, ⟨T, _, ⟨HT.out.tb, HT.out.full⟩, HT.out.aa, fun k hk => by
        have q1 := (HT.out.d k hk).1.1
        have q2 := HT.out.aa
        show A < (Rr k).1
        omega⟩, ⟨_, by rw [HTE.out]; exact HT.out.b2⟩⟩
      clear HT
      go_wp2_with fail
      go_end0
      exact ⟨rfl, HD.out⟩
end Go.Proofs.Ytfkkjebgccnlnaa
