/-
  What sets.Pieces answers: the pieces of a set, the one with the least point first. Conditions: at most ten points; the table of the least bits.
-/
import Derived.Deep.RegionHeld3
import Derived.Test.YtglkjeidkjkdaaaDoorPieM
namespace Go.Proofs.YtglkjeidkjkdaaaDoor
set_option maxRecDepth 100000
open Go.RowKit

def NewV (K : Nat) (v : Value) : Prop := ∀ k, v.ownBlock = some k → K ≤ k
theorem lo_bit {S : Nat} (hS : S < 1024) (h0 : S ≠ 0) : S.testBit (lo S) = true := by
  have h := pts_lo hS h0
  have hm : lo S ∈ pts S 10 := by rw [h]; exact List.mem_cons_self
  exact ((pts_mem 10).1 hm).2
def prv (h : Nat → Nat) (S p : Nat) : Nat → Nat
  | 0 => 0
  | k + 1 => itr h S p k
theorem prv_le {h : Nat → Nat} {S n p : Nat} (hn : n ≤ 10) (hS : S < pw n) (hp : p < n) : ∀ k, prv h S p k ≤ itr h S p k
  | 0 => Nat.zero_le _
  | k + 1 => sub_le (itr_sub hn hS hp k)
theorem Pc.self {h : Nat → Nat} {S n p P : Nat} (hn : n ≤ 10) (hS : S < pw n) (hp : p < n) (a : Pc h S p P) : P.testBit p = true := (a.bit hn hS hp p).2 (Cn.self h S p)
theorem lack_less {S P i : Nat} (hS : S < 1024) (hP : P < 1024) (h1 : S.testBit i = true) (h2 : P.testBit i = true) : lack S P < S := by
  have hle := lack_le S P
  rcases Nat.lt_or_ge (lack S P) S with h | h
  · exact h
  · have e : lack S P = S := by omega
    have hb := lack_bit S P i (by omega) (by omega)
    rw [e, h1, h2] at hb
    cases hb
/-- What Pieces answers. -/
def PcsPost (K : Nat) (h : Nat → Nat) (S : Nat) (e : Ending) (w' : World) : Prop := ∃ v L, e = .returned v ∧ NSl w' v L ∧ PcL h L S 0 ∧ NewV K v ∧ L.length ≤ 1024 ∧ w'.ownsRow K 3 1 v L.length (natVals L)

set_option maxHeartbeats 4000000 in
theorem pieces_any (a : Option Addr) (n cap : Nat) (h : Nat → Nat) (S : Nat) (w : World) (h10 : n ≤ 10) (hh : ∀ k, k < n → h k < 1024) (hr : Row w a n (fun k => (h k : Nat))) (hS : S < pw n) (hT : Tab w) :
    Calls Tryd.prog 56 #[.int .i64 (S : Nat), .slice a n cap] w fun e w' => PcsPost w.heap.size h S e w' ∧ Below w.heap.size w w' := by
  have hpl := pw_le n h10
  have HH : Hid (∀ k, k < n → h k < 1024) := hh
  have HR : Hid (∀ w', Below w.heap.size w w' → Row w' a n (fun k => ((h k : Nat) : Int))) := fun w' hb => hr.below hb
  have HT : Hid (∀ w', (Below w.heap.size w w' ∧ ∀ _ : Unit, True) → Tab w') := fun w' hb => hT.step hb.1
  have HT2 : Hid (∀ w', Below w.heap.size w w' → Tab w') := fun w' hb => hT.step hb
  clear hh hr hT HT
  obtain ⟨i0, hi, hz0, hz1, hz2⟩ := info_parts Tryd.info3
  go_enter Tryd.func56, Tryd.ntmps56
  go_wp2_with fail
  go_loopw [0, 5] (fun c v wx => ∃ (S' : Nat) (L : List Nat), S' < pw n ∧ c = .int .i64 S' ∧ L.length + S' ≤ 1024 ∧ Hid (PcL h L S S') ∧ wx.ownsRow w.heap.size 3 1 v L.length (natVals L) ∧ Hid (Below w.heap.size w wx)) (fun c _ _ => (intOf c).toNat)
  case atStart => exact ⟨S, [], hS, rfl, by simp; omega, rfl, World.ownsRow_nil _ _ _ _, Below.refl _ _⟩
  case round =>
    obtain ⟨S', L, hS', rfl, hLS, HL, hown, HB⟩ := hrel
    by_cases h0 : S' = 0
    · subst h0
      have HF : Hid (PcsPost w.heap.size h S (.returned u5) wr) := ⟨u5, L, rfl, owns_nats hown, HL.out, owns_block hown, by omega, hown⟩
      clear hown
      go_wp2_with fail
      go_ret
      exact ⟨HF.out, HB.out⟩
    · have hne : ((S' : Int) != 0) = true := by simp; omega
      have hlb := lo_bit (S := S') (by omega) h0
      have hlo : lo S' < n := bit_of_lt hS' hlb
      have hpow : IntKind.i64.wrap ((2 : Int) ^ lo S') = ((pw (lo S') : Nat) : Int) := by
        have hq := pw_small (lo S') (by omega)
        rw [show ((2 : Int) ^ lo S') = ((pw (lo S') : Nat) : Int) by simp [pw]]
        exact wrap_i64_small _ (by omega) (by omega)
      have HT : Hid (∀ w', (Below w.heap.size w w' ∧ w'.ownsRow w.heap.size 3 1 u5 L.length (natVals L)) → Tab w') := fun w' hb => HT2.out w' hb.1
      have HLB : Hid (S'.testBit (lo S') = true) := hlb
      clear hlb
      go_wp2_with fail
      refine wp_region_held_drew (S := (fun w' => Below w.heap.size w w' ∧ w'.ownsRow w.heap.size 3 1 u5 L.length (natVals L))) (by kernel_rfl) (⟨below_drewN HB.out 1, hown.drew⟩) (fun hHeld => ?_)
      refine wpAnyH_take (i := 0) (oi := { dst := some 12, op := Go.Op.move (Go.Operand.tmp 0), type := 3, pos := "sets.go:99", after := #[], guard := none }) (v := ?_) rfl (by kernel_rfl) (by kernel_rfl) (by kernel_rfl) (fun _ _ _ h => h) (Or.inl ⟨by rfl, ?hy⟩) (by assumption) ?_
      case hy => (intro w9 hSw; (try dsimp only at hSw); go_simp; try with_reducible rfl)
      try simp only [Act.put, List.setIfInBounds_toArray, List.set_cons_zero, List.set_cons_succ]
      refine wpAnyH_ready (rs := [1]) (by kernel_rfl) (by simp) ?_
      refine AllReadyH.cons (o := { dst := some 13, op := Go.Op.call { callee := Go.Callee.value (Go.Operand.func 55), args := #[Go.Operand.tmp 12], argTypes := #[3] }, type := 3, pos := "sets.go:99", after := #[{ on := 0, ground := Go.Ground.data }], guard := none }) rfl (fun K hK => ?_) AllReadyH.nil
      go_simp
      refine (first_any S' _ (by omega) h0 (HT.out _ (by assumption))).mono ?_
      rintro e w1 ⟨rfl, rfl⟩
      refine hK.out _ _ ?_ (fun hHeld => ?_)
      · first | assumption | exact hHeld
      clear hK K
      try simp only [Act.put, List.setIfInBounds_toArray, List.set_cons_zero, List.set_cons_succ]
      refine wpAnyH_take (i := 2) (oi := { dst := some 14, op := Go.Op.binOp Go.BinOp.shl 3 (Go.Operand.const (Go.Value.int Go.IntKind.i64 1)) (Go.Operand.tmp 13) 3, type := 3, pos := "sets.go:99", after := #[{ on := 1, ground := Go.Ground.data }, { on := 3, ground := Go.Ground.gcOnly Go.Departure.lateStores }], guard := none }) (v := .int .i64 ((pw (lo S') : Nat) : Int)) rfl (by kernel_rfl) (by kernel_rfl) (by kernel_rfl) (fun _ _ _ h => h) (Or.inl ⟨by rfl, ?hy⟩) (by assumption) ?_
      case hy => (intro w9 hSw; (try dsimp only at hSw); go_simp <;> (first | with_reducible rfl | (simp; omega) | omega))
      try simp only [Act.put, List.setIfInBounds_toArray, List.set_cons_zero, List.set_cons_succ]
      refine wpAnyH_take (i := 3) (oi := { dst := some 6, op := Go.Op.assign (Go.Operand.const (Go.Value.int Go.IntKind.i64 0)), type := 3, pos := "sets.go:99", after := #[{ on := 1, ground := Go.Ground.chain }, { on := 0, ground := Go.Ground.textOnly Go.Departure.lateStores }, { on := 1, ground := Go.Ground.textOnly Go.Departure.lateStoresUnsure }, { on := 2, ground := Go.Ground.textOnly Go.Departure.lateStores }], guard := none }) (v := ?_) rfl (by kernel_rfl) (by kernel_rfl) (by kernel_rfl) (fun _ _ _ h => h) (Or.inl ⟨by rfl, ?hy⟩) (by assumption) ?_
      case hy => (intro w9 hSw; (try dsimp only at hSw); go_simp; try with_reducible rfl)
      try simp only [Act.put, List.setIfInBounds_toArray, List.set_cons_zero, List.set_cons_succ]
      refine wpAnyH_take (i := 4) (oi := { dst := some 7, op := Go.Op.assign (Go.Operand.tmp 14), type := 3, pos := "sets.go:99", after := #[{ on := 2, ground := Go.Ground.data }, { on := 3, ground := Go.Ground.chain }, { on := 0, ground := Go.Ground.phase }, { on := 1, ground := Go.Ground.phase }, { on := 2, ground := Go.Ground.phase }, { on := 3, ground := Go.Ground.phase }], guard := none }) (v := ?_) rfl (by kernel_rfl) (by kernel_rfl) (by kernel_rfl) (fun _ _ _ h => h) (Or.inl ⟨by rfl, ?hy⟩) (by assumption) ?_
      case hy => (intro w9 hSw; (try dsimp only at hSw); go_simp; try with_reducible rfl)
      try simp only [Act.put, List.setIfInBounds_toArray, List.set_cons_zero, List.set_cons_succ]
      refine wpAnyH_done (by kernel_rfl) ?_ _
      try simp only [Act.put, List.setIfInBounds_toArray, List.set_cons_zero, List.set_cons_succ]
      obtain ⟨hHB, hHO⟩ := hHeld
      have HBN : Hid (Below w.heap.size w wr.drew) := hHB
      generalize hp : lo S' = p at *
      clear hHB hown HB
      go_wp2_with fail
      go_loopw [6, 7] (fun pt gr wx => ∃ k : Nat, pt = .int .i64 (prv h S' p k : Nat) ∧ gr = .int .i64 (itr h S' p k : Nat) ∧ wx.ownsRow w.heap.size 3 1 u5 L.length (natVals L) ∧ Hid (Below w.heap.size w wx)) (fun pt _ _ => 1024 - (intOf pt).toNat)
      case atStart => exact ⟨0, rfl, rfl, hHO, HBN.out⟩
      case round =>
        clear hHO HBN
        obtain ⟨k, rfl, rfl, hown, HB⟩ := hrel
        have hle := prv_le (h := h) h10 hS' hlo k
        have hil := itr_lt (h := h) hS' hlo k
        by_cases he : prv h S' p k = itr h S' p k
        · have hne2 : (((prv h S' p k : Nat) : Int) != ((itr h S' p k : Nat) : Int)) = false := by simp; omega
          obtain ⟨j, rfl⟩ : ∃ j, k = j + 1 := by
            cases k with
            | zero =>
              have h1 : itr h S' p 0 = 0 := he.symm
              have h2 : itr h S' p 0 = pw p := rfl
              have := pw_pos p
              omega
            | succ j => exact ⟨j, rfl⟩
          have HPc : Hid (Pc h S' p (itr h S' p j)) := ⟨j, rfl, he.symm⟩
          have hpv : prv h S' p (j + 1) = itr h S' p j := rfl
          rw [hpv] at hne2 hle ⊢
          have hjl := itr_lt (h := h) hS' hlo j
          have hself := HPc.out.self h10 hS' hlo
          have hless := lack_less (by omega) (by omega) HLB.out hself
          have HM : Hid (PcL h (L ++ [itr h S' p j]) S (lack S' (itr h S' p j))) := HL.out.more h0 (by rw [hp]; exact HPc.out)
          have han := i64_andNot S' (itr h S' p j) (by omega) (by omega)
          have hsz := HB.out.size
          clear HPc he hpv hself HL
          generalize itr h S' p j = P at *
          generalize itr h S' p (j + 1) = P2 at *
          generalize lack S' P = S2 at *
          go_wp2_with (at_builtin; refine wpList_append_own _ rfl _ _ 22 rfl w.heap.size 3 i0 (.int .i64 0) 1 8 Tryd.underlying22 hi hz0 hz1 hz2 rfl (by decide) _ _ _ rfl (hown.alloc _) ⟨wr.heap.size, 0, none⟩ 1 1 [.int .i64 (P : Nat)] rfl rfl ?c1 ?c2 ?c3 ?c4 ?c5 ?_)
          case c1 =>
            intro j u hj
            match j, hj with
            | 0, hj => simp at hj; subst hj; simp [Addr.add]
          case c2 => intro u hu; simp at hu; subst hu; rfl
          case c3 => unfold maxLen; omega
          case c4 => omega
          case c5 => simp; omega
          intro v' w1 hown' hgrow _
          have HB5 : Hid (Below w.heap.size w w1) := below_append3 HB.out hown hgrow
          have HO5 : Hid (w1.ownsRow w.heap.size 3 1 v' (L ++ [P]).length (natVals (L ++ [P]))) := by
            rw [natVals_append, List.length_append]; exact hown'
          clear hown' hgrow hown HB
          go_wp2_with fail
          go_roundw
          case rel => exact ⟨S2, L ++ [P], by omega, rfl, by simp; omega, HM.out, HO5.out, HB5.out⟩
          case measure => simp [intOf]; omega
        · have hne2 : (((prv h S' p k : Nat) : Int) != ((itr h S' p k : Nat) : Int)) = true := by simp; omega
          have HPL : Hid ((pts (itr h S' p k) 10).length ≤ 10) := pts_len _ 10
          have HPM : Hid (∀ x, x ∈ pts (itr h S' p k) 10 → x < n) := fun x hx => bit_of_lt hil ((pts_mem 10).1 hx).2
          have HNX : Hid (itr h S' p (k + 1) = orH h S' (pts (itr h S' p k) 10) (itr h S' p k) (pts (itr h S' p k) 10).length) := rfl
          have HPV : Hid (prv h S' p (k + 1) = itr h S' p k) := rfl
          have HOL : Hid (∀ j, orH h S' (pts (itr h S' p k) 10) (itr h S' p k) j < pw n) := fun j => orH_lt hS' hil j
          have HT0 := HT2.out _ HB.out
          go_wp2_with fail
          refine (members_new (itr h S' p k) _ (by omega) HT0).mono ?_
          rintro e w1 ⟨⟨v, rfl, ⟨b, mc, rfl, hrow⟩, _⟩, hb1⟩
          have HB1 : Hid (Below w.heap.size w w1) := Below.then HB.out hb1
          have hown1 := owns_below hown hb1
          have HM : Hid (Row w1 b (pts (itr h S' p k) 10).length (fun j => (nth (pts (itr h S' p k) 10) j : Nat))) := hrow
          clear hb1 hrow HT0 hown HB
          generalize hl : pts (itr h S' p k) 10 = l at *
          have hl10 := HPL.out
          go_wp2_with fail
          go_loopw [7, 22] (fun gr i wx => ∃ j : Nat, j ≤ l.length ∧ gr = .int .i64 (orH h S' l (itr h S' p k) j : Nat) ∧ i = .int .i64 j ∧ Hid (Row wx b l.length (fun j => (nth l j : Nat))) ∧ wx.ownsRow w.heap.size 3 1 u5 L.length (natVals L) ∧ Hid (Below w.heap.size w wx)) (fun _ i _ => l.length - (intOf i).toNat)
          case atStart => exact ⟨0, Nat.zero_le _, rfl, rfl, HM.out, hown1, HB1.out⟩
          case round =>
            clear HM hown1 HB1
            obtain ⟨j, hj, rfl, rfl, HM, hown, HB⟩ := hrel
            by_cases hjl : j < l.length
            · obtain ⟨b2, off2, rfl, c2⟩ := HM.out j hjl
              have hx := HPM.out _ (nth_mem hjl)
              obtain ⟨b3, off3, rfl, c3⟩ := HR.out _ HB.out _ hx
              have hjl' : (j : Int) < (l.length : Int) := by omega
              have hx' : ((nth l j : Nat) : Int) < (n : Int) := by omega
              have hhx := HH.out _ hx
              have hol := HOL.out j
              have ha := i64_and (h (nth l j)) S' (by omega) (by omega)
              have hal : h (nth l j) &&& S' < pw n := Nat.and_lt_two_pow _ hS'
              have ho := i64_or (orH h S' l (itr h S' p k) j) (h (nth l j) &&& S') (by omega) (by omega)
              have HN : Hid (orH h S' l (itr h S' p k) (j + 1) = orH h S' l (itr h S' p k) j ||| (h (nth l j) &&& S')) := rfl
              go_wp2_with fail
              go_roundw
              case rel => exact ⟨j + 1, by omega, by rw [HN.out, ← ho], by go_num, HM, hown, HB⟩
              case measure => simp [intOf]; omega
            · obtain rfl : j = l.length := by omega
              go_wp2_with fail
              go_roundw
              case rel => exact ⟨k + 1, by rw [HPV.out], by rw [HNX.out], hown, HB.out⟩
              case measure => simp [intOf]; omega
end Go.Proofs.YtglkjeidkjkdaaaDoor
