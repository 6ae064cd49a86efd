/-
  What hasselaw.spoil and spoilAll write over, and what stays. Conditions: slices of at most 17592186043904 numbers, rows that may be written.
  What hasselaw.twins answers: the same rows, each in new memory that may be written. Conditions: a slice of at most 5864062014805 rows, of at most 17592186043904 numbers each.
-/
import Derived.Test.YthhnngmfbbljaaaGreatSpoM
import Derived.Test.YthhnngmfbbljaaaGreatLRows
import Derived.Maps.AppendAt
import Derived.Test.YthhnngmfbbljaaaGreatOfMade
namespace Go.Proofs.YthhnngmfbbljaaaGreat
set_option maxRecDepth 100000
open Go.RowKit

/-- A row that may be written, whatever it holds. -/
def Wr (w : World) (K K' : Nat) (a : Option Addr) (n : Nat) : Prop := ∃ g, FRow w K K' a n g
theorem FRow.wr {w : World} {K K' : Nat} {a : Option Addr} {n : Nat} {f : Nat → Int} (h : FRow w K K' a n f) : Wr w K K' a n := ⟨f, h⟩
/-- Numbers alone were written: what is no number stays, and rows of numbers are such. -/
def Kp (w w' : World) : Prop := (∀ q v, (∀ k i, v ≠ .int k i) → w.cell? q = some v → w'.cell? q = some v) ∧ ∀ K K' a n, Wr w K K' a n → Wr w' K K' a n
theorem Kp.refl (w : World) : Kp w w := ⟨fun _ _ _ h => h, fun _ _ _ _ h => h⟩
theorem Kp.trans {w w1 w2 : World} (h : Kp w w1) (h' : Kp w1 w2) : Kp w w2 := ⟨fun q v hv hc => h'.1 q v hv (h.1 q v hv hc), fun K K' a n hw => h'.2 K K' a n (h.2 K K' a n hw)⟩
theorem Kp.set {w : World} {p : Addr} {i : Int} (hc : w.cell? p = some (.int .i64 i)) (x : Int) : Kp w (w.setCell p (.int .i64 x)) := by
  refine ⟨fun q v hv h => ?_, fun K K' a n hw => ?_⟩
  · rw [World.cell?_setCell_other _ _ _ _ (fun e => by subst e; rw [hc] at h; injection h with h; exact hv _ _ h.symm)]; exact h
  · obtain ⟨g, hg⟩ := hw
    rcases a with _ | ad
    · exact ⟨g, fun k hk => by obtain ⟨b, e, _⟩ := hg k hk; cases e⟩
    · refine ⟨fun k => if (⟨ad.block, k, none⟩ : Addr) = p then x else g k, fun k hk => ?_⟩
      obtain ⟨b, e, hK, h1, h2⟩ := hg k hk
      have eb : ad.block = b := by injection e with e; rw [e]
      refine ⟨b, e, hK, ?_, by rw [World.frozen?_setCell]; exact h2⟩
      show _ = some (Value.int .i64 (if (⟨ad.block, k, none⟩ : Addr) = p then x else g k))
      rw [eb]
      by_cases ep : (⟨b, k, none⟩ : Addr) = p
      · rw [if_pos ep, ep]; exact World.cell?_setCell_same _ _ _ hc
      · rw [if_neg ep, World.cell?_setCell_other _ _ _ _ (fun q => ep q.symm)]; exact h1
theorem Kp.rr_out {w w' : World} {a : Option Addr} {n : Nat} {S : Nat → Option Addr × Nat × Nat} (h : Kp w w') (hc : ∀ k, k < n → ∃ b off, a = some ⟨b, off, none⟩ ∧ w.cell? ⟨b, off + k, none⟩ = some (.slice (S k).1 (S k).2.1 (S k).2.2)) :
    ∀ k, k < n → ∃ b off, a = some ⟨b, off, none⟩ ∧ w'.cell? ⟨b, off + k, none⟩ = some (.slice (S k).1 (S k).2.1 (S k).2.2) := fun k hk => by
  obtain ⟨b, off, e, h1⟩ := hc k hk
  exact ⟨b, off, e, h.1 _ _ (fun _ _ q => by cases q) h1⟩
theorem Off.wide {K K' L L' : Nat} {w w' : World} (h : Off K K' w w') (h1 : L ≤ K) (h2 : K' ≤ L') : Off L L' w w' := ⟨h.1, fun p hp => h.2 p (by omega)⟩
theorem Off.then {K K' : Nat} {w w1 w2 : World} (h : Off K K' w w1) (h' : Off K K' w1 w2) : Off K K' w w2 :=
  ⟨Nat.le_trans h.1 h'.1, fun p hp => ⟨fun v hv => (h'.2 p hp).1 v ((h.2 p hp).1 v hv), fun v hv hf => (h'.2 p hp).2 v ((h.2 p hp).1 v hv) ((h.2 p hp).2 v hv hf)⟩⟩
/-- What spoiling leaves. -/
def Spo (K K' : Nat) (w w' : World) : Prop := Off K K' w w' ∧ (∀ w0 : World, w0.heap.size ≤ K → Below w0.heap.size w0 w → Below w0.heap.size w0 w') ∧ Kp w w'
theorem Spo.refl (K K' : Nat) (w : World) : Spo K K' w w := ⟨Off.refl _ _ _, fun _ _ h => h, Kp.refl _⟩
theorem Spo.then {K K' : Nat} {w w1 w2 : World} (h : Spo K K' w w1) (h' : Spo K K' w1 w2) : Spo K K' w w2 := ⟨h.1.then h'.1, fun w0 h0 hb => h'.2.1 w0 h0 (h.2.1 w0 h0 hb), h.2.2.trans h'.2.2⟩
theorem Spo.wide {K K' L L' : Nat} {w w' : World} (h : Spo K K' w w') (h1 : L ≤ K) (h2 : K' ≤ L') : Spo L L' w w' := ⟨h.1.wide h1 h2, fun w0 h0 hb => h.2.1 w0 (Nat.le_trans h0 h1) hb, h.2.2⟩
theorem Spo.below {K K' : Nat} {w w' w0 : World} (h : Spo K K' w w') (h0 : w0.heap.size ≤ K) (hb : Below w0.heap.size w0 w) : Below w0.heap.size w0 w' := h.2.1 w0 h0 hb

set_option maxHeartbeats 1000000 in
theorem spoil2_any (K K' : Nat) (a : Option Addr) (n cap : Nat) (w : World) (hn : n ≤ 17592186043904) (h : Wr w K K' a n) :
    Calls Tryz.prog 14 #[.slice a n cap] w fun e w' => e = .returned (.tuple #[]) ∧ Spo K K' w w' := by
  have HF : Hid (Wr w K K' a n) := h
  clear h
  go_enter Tryz.func14, Tryz.ntmps14
  go_wp2_with fail
  go_loopw [2] (fun i wx => ∃ k : Nat, k ≤ n ∧ i = .int .i64 k ∧ Hid (Wr wx K K' a n ∧ Spo K K' w wx)) (fun i _ => n - (intOf i).toNat)
  case atStart => exact ⟨0, Nat.zero_le _, rfl, HF.out, Spo.refl _ _ _⟩
  case round =>
    clear HF
    obtain ⟨k, hk, rfl, HH⟩ := hrel
    by_cases hkn : k < n
    · obtain ⟨⟨f', hF⟩, hO⟩ := HH.out
      obtain ⟨b, rfl, hKb, hc, hz⟩ := hF k hkn
      have hkp : Kp wr (wr.setCell ⟨b, k, none⟩ (.int .i64 (-7))) := Kp.set hc (-7)
      have HN : Hid (Wr (wr.setCell ⟨b, k, none⟩ (.int .i64 (-7))) K K' (some ⟨b, 0, none⟩) n ∧ Spo K K' w (wr.setCell ⟨b, k, none⟩ (.int .i64 (-7)))) :=
        ⟨hkp.2 _ _ _ _ ⟨f', hF⟩, hO.1.set hKb.1 hKb.2, fun w0 h1 h2 => (hO.2.1 w0 h1 h2).setCell (p := ⟨b, k, none⟩) (by show w0.heap.size ≤ b; omega) _, hO.2.2.trans hkp⟩
      have hkI : (k : Int) < (n : Int) := by omega
      clear HH hF hO hKb hkp
      go_wp2_with fail
      go_roundw
      case rel => exact ⟨k + 1, by omega, by go_num, HN.out⟩
      case measure => simp [intOf]; omega
    · obtain rfl : k = n := by omega
      go_wp2_with fail
      go_end0
      exact ⟨rfl, HH.out.2⟩

/-- Rows that may be written, told by a slice of rows. -/
def Wrs (w : World) (K K' : Nat) (a : Option Addr) (n : Nat) (S : Nat → Option Addr × Nat × Nat) : Prop :=
  ∀ k, k < n → (∃ b off, a = some ⟨b, off, none⟩ ∧ w.cell? ⟨b, off + k, none⟩ = some (.slice (S k).1 (S k).2.1 (S k).2.2)) ∧ (S k).2.1 ≤ 17592186043904 ∧ Wr w K K' (S k).1 (S k).2.1
theorem Wrs.kp {w w' : World} {K K' : Nat} {a : Option Addr} {n : Nat} {S : Nat → Option Addr × Nat × Nat} (h : Wrs w K K' a n S) (hk : Kp w w') : Wrs w' K K' a n S := fun k hkn => by
  obtain ⟨⟨b, off, e, h1⟩, h2, h3⟩ := h k hkn
  exact ⟨⟨b, off, e, hk.1 _ _ (fun _ _ q => by cases q) h1⟩, h2, hk.2 _ _ _ _ h3⟩
theorem Wr.step {w w' : World} {K K' : Nat} {a : Option Addr} {n : Nat} (h : Wr w K K' a n) (hb : Below w.heap.size w w') : Wr w' K K' a n := by
  obtain ⟨g, hg⟩ := h
  exact ⟨g, hg.step hb⟩
theorem Wrs.step {w w' : World} {K K' : Nat} {a : Option Addr} {n : Nat} {S : Nat → Option Addr × Nat × Nat} (h : Wrs w K K' a n S) (hb : Below w.heap.size w w') : Wrs w' K K' a n S := fun k hkn => by
  obtain ⟨⟨b, off, e, h1⟩, h2, h3⟩ := h k hkn
  exact ⟨⟨b, off, e, (hb.cell (p := ⟨b, off + k, none⟩) (World.block_lt_of_cell? _ _ h1)).trans h1⟩, h2, h3.step hb⟩
theorem Wrs.wide {w : World} {K K' L L' : Nat} {a : Option Addr} {n : Nat} {S : Nat → Option Addr × Nat × Nat} (h : Wrs w K K' a n S) (h1 : L ≤ K) (h2 : K' ≤ L') : Wrs w L L' a n S := fun k hkn => by
  obtain ⟨h3, h4, g, h5⟩ := h k hkn
  exact ⟨h3, h4, g, h5.wide h1 h2⟩

set_option maxHeartbeats 1000000 in
theorem spoilAll_any (K K' : Nat) (a : Option Addr) (n cap : Nat) (S : Nat → Option Addr × Nat × Nat) (w : World) (hn : n ≤ 17592186043904) (h : Wrs w K K' a n S) :
    Calls Tryz.prog 15 #[.slice a n cap] w fun e w' => e = .returned (.tuple #[]) ∧ Spo K K' w w' := by
  have HF : Hid (Wrs w K K' a n S) := h
  clear h
  go_enter Tryz.func15, Tryz.ntmps15
  go_wp2_with fail
  go_loopw [2] (fun i wx => ∃ k : Nat, k ≤ n ∧ i = .int .i64 k ∧ Hid (Wrs wx K K' a n S) ∧ Hid (Spo K K' w wx)) (fun i _ => n - (intOf i).toNat)
  case atStart => exact ⟨0, Nat.zero_le _, rfl, HF.out, Spo.refl _ _ _⟩
  case round =>
    clear HF
    obtain ⟨k, hk, rfl, HW, HO⟩ := hrel
    by_cases hkn : k < n
    · obtain ⟨⟨b, off, rfl, hc⟩, hl, hw⟩ := HW.out k hkn
      have HC : Hid (Calls Tryz.prog 14 #[.slice (S k).1 (S k).2.1 (S k).2.2] wr fun e w' => e = .returned (.tuple #[]) ∧ Spo K K' wr w') := spoil2_any K K' _ _ _ wr hl hw
      have hkI : (k : Int) < (n : Int) := by omega
      clear hl hw
      go_wp2_with fail
      refine HC.out.mono ?_
      rintro e w1 ⟨rfl, hs⟩
      have HW1 : Hid (Wrs w1 K K' (some ⟨b, off, none⟩) n S) := HW.out.kp hs.2.2
      have HO1 : Hid (Spo K K' w w1) := HO.out.then hs
      clear hs HC HW HO hc
      go_wp2_with fail
      go_roundw
      case rel => exact ⟨k + 1, by omega, by go_num, HW1.out, HO1.out⟩
      case measure => simp [intOf]; omega
    · obtain rfl : k = n := by omega
      go_wp2_with fail
      go_end0
      exact ⟨rfl, HO.out⟩
end Go.Proofs.YthhnngmfbbljaaaGreat
namespace Go.Proofs.YthhnngmfbbljaaaGreat
set_option maxRecDepth 100000
open Go.RowKit

/-- Rows as values. -/
def svl (S : Nat → Option Addr × Nat × Nat) (n : Nat) : List Value := (List.range n).map fun k => .slice (S k).1 (S k).2.1 (S k).2.2
theorem svl_len (S : Nat → Option Addr × Nat × Nat) (n : Nat) : (svl S n).length = n := by simp [svl]
theorem svl_at (S : Nat → Option Addr × Nat × Nat) (n k : Nat) (h : k < n) : (svl S n)[k]? = some (.slice (S k).1 (S k).2.1 (S k).2.2) := by simp [svl, h]
theorem svl_snoc (S : Nat → Option Addr × Nat × Nat) (n : Nat) (r : Option Addr × Nat × Nat) : svl (fun j => if j = n then r else S j) (n + 1) = svl S n ++ [.slice r.1 r.2.1 r.2.2] := by
  unfold svl
  rw [List.range_succ, List.map_append]
  congr 1
  · apply List.map_congr_left
    intro j hj
    have := List.mem_range.1 hj
    simp [show ¬ j = n by omega]
  · simp
theorem svl_one (S : Nat → Option Addr × Nat × Nat) (n : Nat) : ∀ u ∈ svl S n, u.oneCell' = true := fun u hu => by
  simp [svl] at hu
  obtain ⟨k, _, rfl⟩ := hu
  rfl
/-- Rows of the call's own that are hung into a row that grows. -/
structure TwR (K : Nat) (w : World) (v : Value) (k : Nat) (S' : Nat → Option Addr × Nat × Nat) (LS : Nat → Nat) (F : Nat → Nat → Int) : Prop where
  own : w.ownsRow K 22 1 v k (svl S' k)
  rows : ∀ j, j < k → (S' j).2.1 = LS j ∧ FRow w K w.heap.size (S' j).1 (LS j) (F j)
  ne : ∀ j, j < k → ∀ b off, (S' j).1 = some ⟨b, off, none⟩ → 0 < LS j → some b ≠ v.ownBlock
theorem TwR.step {K : Nat} {w w' : World} {v : Value} {k : Nat} {S' : Nat → Option Addr × Nat × Nat} {LS : Nat → Nat} {F : Nat → Nat → Int} (h : TwR K w v k S' LS F) (hb : Below w.heap.size w w') : TwR K w' v k S' LS F where
  own := owns_below h.own hb
  rows j hj := ⟨(h.rows j hj).1, ((h.rows j hj).2.step hb).wide (Nat.le_refl _) hb.size⟩
  ne := h.ne
theorem FRow.grown {w w' : World} {K : Nat} {a : Option Addr} {n : Nat} {f : Nat → Int} {row : Option Nat} (h : FRow w K w.heap.size a n f) (hg : w.grownBy w' row) (hne : ∀ b off, a = some ⟨b, off, none⟩ → 0 < n → some b ≠ row) : FRow w' K w'.heap.size a n f := fun k hk => by
  obtain ⟨b, rfl, hK, hc, hz⟩ := h k hk
  have e1 : w'.heap[b]? = w.heap[b]? := hg.block b hK.2 (hne b 0 rfl (by omega))
  exact ⟨b, rfl, ⟨hK.1, Nat.lt_of_lt_of_le hK.2 hg.size⟩, (World.cell?_of_block (a := ⟨b, k, none⟩) e1).trans hc, (World.frozen?_of_block (a := ⟨b, k, none⟩) e1).trans hz⟩
theorem TwR.app {K : Nat} {w w1 : World} {v v' : Value} {k : Nat} {S' : Nat → Option Addr × Nat × Nat} {LS : Nat → Nat} {F : Nat → Nat → Int} {r : Option Addr × Nat × Nat} {o : Obj} (h : TwR K w v k S' LS F)
    (hr : r.2.1 = LS k ∧ FRow w K w.heap.size r.1 (LS k) (F k)) (hne : ∀ b off, r.1 = some ⟨b, off, none⟩ → 0 < LS k → some b ≠ v.ownBlock)
    (hown : w1.ownsRow K 22 1 v' (k + 1) (svl S' k ++ [.slice r.1 r.2.1 r.2.2])) (hg : (w.alloc o).grownBy w1 v.ownBlock) (hat : v'.ownBlock = v.ownBlock ∨ v'.ownBlock = some (w.heap.size + 1)) :
    TwR K w1 v' (k + 1) (fun j => if j = k then r else S' j) LS F := by
  have hal : Below w.heap.size w (w.alloc o) := (Below.refl _ _).alloc (Nat.le_refl _) _
  have key : ∀ {a : Option Addr} {n : Nat} {f : Nat → Int}, FRow w K w.heap.size a n f → (∀ b off, a = some ⟨b, off, none⟩ → 0 < n → some b ≠ v.ownBlock) → FRow w1 K w1.heap.size a n f := fun {a n f} hf hn =>
    FRow.grown ((hf.step hal).wide (Nat.le_refl _) hal.size) hg hn
  have key2 : ∀ {a : Option Addr} {n : Nat} {f : Nat → Int}, FRow w K w.heap.size a n f → (∀ b off, a = some ⟨b, off, none⟩ → 0 < n → some b ≠ v.ownBlock) → ∀ b off, a = some ⟨b, off, none⟩ → 0 < n → some b ≠ v'.ownBlock := fun {a n f} hf hn b off e h0 => by
    rcases hat with q | q
    · rw [q]; exact hn b off e h0
    · rw [q]
      obtain ⟨b', e', hK, _⟩ := hf 0 h0
      rw [e] at e'
      injection e' with e'
      injection e' with e1 _
      intro z
      injection z with z
      omega
  refine ⟨by rw [svl_snoc]; exact hown, fun j hj => ?_, fun j hj => ?_⟩
  · by_cases e : j = k
    · subst e; simp only [if_true]; exact ⟨hr.1, key hr.2 hne⟩
    · simp only [e, if_false]; exact ⟨(h.rows j (by omega)).1, key (h.rows j (by omega)).2 (h.ne j (by omega))⟩
  · by_cases e : j = k
    · subst e; simp only [if_true]; exact key2 hr.2 hne
    · simp only [e, if_false]; exact key2 (h.rows j (by omega)).2 (h.ne j (by omega))
/-- Rows as they are told by a slice of rows: from block K on, they may be written. -/
def Tws (w : World) (K : Nat) (a : Option Addr) (n : Nat) (S : Nat → Option Addr × Nat × Nat) (LS : Nat → Nat) (F : Nat → Nat → Int) : Prop :=
  ∀ k, k < n → (∃ b, a = some ⟨b, 0, none⟩ ∧ (K ≤ b ∧ b < w.heap.size) ∧ w.cell? ⟨b, k, none⟩ = some (.slice (S k).1 (S k).2.1 (S k).2.2)) ∧ (S k).2.1 = LS k ∧ FRow w K w.heap.size (S k).1 (LS k) (F k)
theorem TwR.tws {K : Nat} {w : World} {v : Value} {n : Nat} {S' : Nat → Option Addr × Nat × Nat} {LS : Nat → Nat} {F : Nat → Nat → Int} (h : TwR K w v n S' LS F) : ∃ a cap, v = .slice a n cap ∧ Tws w K a n S' LS F := by
  rcases h.own.2 with ⟨rfl, rfl⟩ | ⟨g, cap, cur, rfl, hb, _⟩
  · exact ⟨none, 0, rfl, fun k hk => absurd hk (Nat.not_lt_zero _)⟩
  · refine ⟨_, cap, rfl, fun k hk => ⟨⟨g, rfl, ⟨hb, ?_⟩, ?_⟩, h.rows k hk⟩⟩
    · have hc := h.own.cellAt k (by omega)
      rw [svl_at _ _ _ hk] at hc
      exact World.block_lt_of_cell? _ _ hc
    · rw [h.own.cellAt k (by omega)]; exact svl_at _ _ _ hk
theorem Tws.step {w w' : World} {K : Nat} {a : Option Addr} {n : Nat} {S : Nat → Option Addr × Nat × Nat} {LS : Nat → Nat} {F : Nat → Nat → Int} (h : Tws w K a n S LS F) (hb : Below w.heap.size w w') : Tws w' K a n S LS F := fun k hk => by
  obtain ⟨⟨b, e, h1, h2⟩, h3, h4⟩ := h k hk
  exact ⟨⟨b, e, ⟨h1.1, Nat.lt_of_lt_of_le h1.2 hb.size⟩, (hb.cell (p := ⟨b, k, none⟩) h1.2).trans h2⟩, h3, (h4.step hb).wide (Nat.le_refl _) hb.size⟩
theorem Tws.rr {w : World} {K : Nat} {a : Option Addr} {n : Nat} {S : Nat → Option Addr × Nat × Nat} {LS : Nat → Nat} {F : Nat → Nat → Int} (h : Tws w K a n S LS F) (hl : ∀ k, k < n → LS k ≤ maxLen) : RR w a n S F := fun k hk => by
  obtain ⟨⟨b, rfl, _, h2⟩, h3, h4⟩ := h k hk
  exact ⟨b, 0, rfl, by rw [Nat.zero_add]; exact h2, by rw [h3]; exact hl k hk, by rw [h3]; exact h4.row⟩
theorem Tws.wrs {w : World} {K : Nat} {a : Option Addr} {n : Nat} {S : Nat → Option Addr × Nat × Nat} {LS : Nat → Nat} {F : Nat → Nat → Int} (h : Tws w K a n S LS F) (hl : ∀ k, k < n → LS k ≤ 17592186043904) : Wrs w K w.heap.size a n S := fun k hk => by
  obtain ⟨⟨b, rfl, _, h2⟩, h3, h4⟩ := h k hk
  exact ⟨⟨b, 0, rfl, by rw [Nat.zero_add]; exact h2⟩, by rw [h3]; exact hl k hk, by rw [h3]; exact h4.wr⟩

set_option maxHeartbeats 2000000 in
theorem twins_any (a : Option Addr) (n cap : Nat) (S : Nat → Option Addr × Nat × Nat) (F : Nat → Nat → Int) (w : World) (hn : n ≤ 5864062014805) (hl : ∀ k, k < n → (S k).2.1 ≤ 17592186043904) (h : RR w a n S F) :
    Calls Tryz.prog 9 #[.slice a n cap] w fun e w' => (∃ a' cap' S', e = .returned (.slice a' n cap') ∧ Tws w' w.heap.size a' n S' (fun k => (S k).2.1) F) ∧ Below w.heap.size w w' := by
  obtain ⟨i5, hi5, hz0, hz1, hz2⟩ := info_parts Tryz.infoLI
  have HR : Hid (RR w a n S F) := h
  have HL : Hid (∀ k, k < n → (S k).2.1 ≤ 17592186043904) := hl
  clear h hl
  go_enter Tryz.func9, Tryz.ntmps9
  go_wp2_with fail
  go_loopw [4, 3] (fun i v wx => ∃ k : Nat, k ≤ n ∧ i = .int .i64 k ∧ ∃ S', Hid (TwR w.heap.size wx v k S' (fun k => (S k).2.1) F) ∧ Hid (Below w.heap.size w wx)) (fun i _ _ => n - (intOf i).toNat)
  case atStart => exact ⟨0, Nat.zero_le _, rfl, fun _ => (none, 0, 0), ⟨World.ownsRow_nil _ _ _ _, fun j hj => absurd hj (Nat.not_lt_zero _), fun j hj => absurd hj (Nat.not_lt_zero _)⟩, Below.refl _ _⟩
  case round =>
    obtain ⟨k, hk, rfl, S', HT, HB⟩ := hrel
    by_cases hkn : k < n
    · obtain ⟨b, off, rfl, hc, hlen, hrow⟩ := HR.out.below HB.out k hkn
      have HC : Hid (Calls Tryz.prog 8 #[.slice (S k).1 (S k).2.1 (S k).2.2] wr fun e w' => (∃ a' cap', e = .returned (.slice a' (S k).2.1 cap') ∧ FRow w' wr.heap.size w'.heap.size a' (S k).2.1 (F k) ∧ (a' = none → (S k).2.1 = 0 ∧ cap' = 0)) ∧ Below wr.heap.size wr w') := twin_any _ _ _ _ wr (HL.out k hkn) hrow
      have hkI : (k : Int) < (n : Int) := by omega
      clear hlen hrow
      go_wp2_with fail
      refine HC.out.mono ?_
      rintro e w1 ⟨⟨a1, c1, rfl, hf, _⟩, hb⟩
      obtain ⟨lk, HLK⟩ : ∃ lk, Hid (lk = (S k).2.1) := ⟨_, rfl⟩
      rw [← HLK.out] at hf ⊢
      have hsz : w.heap.size ≤ wr.heap.size := HB.out.size
      have HT1 : Hid (TwR w.heap.size w1 u3 k S' (fun k => (S k).2.1) F) := HT.out.step hb
      have HF1 : Hid (FRow w1 w.heap.size w1.heap.size a1 lk (F k)) := hf.wide hsz (Nat.le_refl _)
      have HNE : Hid (∀ b off, a1 = some ⟨b, off, none⟩ → 0 < lk → some b ≠ u3.ownBlock) := fun b' off' e h0 => by
        obtain ⟨b2, e2, hK, _⟩ := hf 0 h0
        rw [e] at e2
        injection e2 with e2
        injection e2 with e3 _
        intro z
        have := own_lt HT.out.own z.symm
        omega
      have HB1 : Hid (Below w.heap.size w w1) := Below.then HB.out hb
      have hown1 := HT1.out.own
      have hw1 : w.heap.size ≤ w1.heap.size := HB1.out.size
      clear hf hb HC HT HB hc hsz
      go_wp2_with (at_builtin; refine wpList_append_own_at _ rfl _ _ 25 rfl w.heap.size 22 i5 (.slice none 0 0) 1 24 Tryz.underlying25 hi5 hz0 hz1 hz2 rfl (by decide) _ _ _ rfl (hown1.alloc _) ⟨w1.heap.size, 0, none⟩ 1 1 [.slice a1 lk c1] rfl rfl ?c1 ?c2 ?c3 ?c4 ?c5 ?_)
      case c1 => exact cell_one_new _ _ _
      case c2 => intro u hu; simp at hu; subst hu; rfl
      case c3 => unfold maxLen; omega
      case c4 => omega
      case c5 => first | omega | (simp; omega)
      intro v' w2 hown' hgrow _ hat
      have HTF : Hid (TwR w.heap.size w2 v' (k + 1) (fun j => if j = k then (a1, lk, c1) else S' j) (fun k => (S k).2.1) F) :=
        HT1.out.app (r := (a1, lk, c1)) ⟨HLK.out, by show FRow w1 _ _ a1 (S k).2.1 (F k); rw [← HLK.out]; exact HF1.out⟩ (by show ∀ b off, a1 = _ → 0 < (S k).2.1 → _; rw [← HLK.out]; exact HNE.out) hown' hgrow (by simpa using hat)
      have HB2 : Hid (Below w.heap.size w w2) := (HB1.out.alloc hw1 _).grown hgrow (by simp; omega) (fun q hq => own_ge hown1 hq)
      clear hown' hgrow hat hown1 HT1 HF1 HNE HB1
      go_wp2_with fail
      go_roundw
      case rel => exact ⟨k + 1, by omega, by go_num, _, HTF.out, HB2.out⟩
      case measure => simp [intOf]; omega
    · obtain rfl : k = n := by omega
      obtain ⟨a', cap', rfl, ht⟩ := HT.out.tws
      have HF : Hid (Tws wr w.heap.size a' k S' (fun k => (S k).2.1) F) := ht
      clear ht HT
      go_wp2_with fail
      go_ret
      exact ⟨⟨_, _, _, rfl, HF.out⟩, HB.out⟩
end Go.Proofs.YthhnngmfbbljaaaGreat
