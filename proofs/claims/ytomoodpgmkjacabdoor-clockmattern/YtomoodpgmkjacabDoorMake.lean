/-
  What order.Make answers, whatever it is handed: the sets that Warshall's rounds come to. No condition but that a slice reads as a slice of pairs.
-/
import Derived.Test.YtomoodpgmkjacabDoorReach
namespace Go.Proofs.YtomoodpgmkjacabDoor
open Go.RowKit

theorem Tryd.info3 : (Tryd.prog.info? 3).map (fun i => (i.zero, i.size, i.bytes)) = some (some (.int .i64 0), 1, 8) := by kernel_rfl

/-- A slice of len pairs. -/
def PRow (w : World) (a : Option Addr) (len : Nat) (p : Nat → Int × Int) : Prop :=
  ∀ k, k < len → ∃ b off, a = some ⟨b, off, none⟩ ∧ w.cell? ⟨b, off + k * 2, none⟩ = some (.int .i64 (p k).1) ∧ w.cell? ⟨b, off + k * 2 + 1, none⟩ = some (.int .i64 (p k).2)
theorem PRow.below {w w' : World} {a : Option Addr} {len : Nat} {p : Nat → Int × Int} (h : PRow w a len p) (hb : Below w.heap.size w w') : PRow w' a len p := by
  intro k hk
  obtain ⟨b, off, rfl, hc, hd⟩ := h k hk
  exact ⟨b, off, rfl, (hb.cell (World.block_lt_of_cell? _ _ hc)).trans hc, (hb.cell (World.block_lt_of_cell? _ _ hd)).trans hd⟩

theorem own_made {w : World} {base b m : Nat} (h : w.ownsRow base 3 1 (.slice (some ⟨b, 0, none⟩) m m) m (madeCells (Value.int .i64 0).cells (m * 1)).toList) : Own w b m (fun _ => 0) := by
  intro k hk
  refine ⟨?_, h.frozenAt k⟩
  rw [h.cellAt k (by omega)]
  have e : (Value.int .i64 0).cells = #[Value.int .i64 0] := rfl
  rw [e, toList_madeCells_one]
  simp [hk]

theorem or_pw {x m b : Nat} (hm : m ≤ 10) (hx : x < pw m) (hb : b < m) : bits .or .i64 (x : Int) ((pw b : Nat) : Int) = ((x ||| pw b : Nat) : Int) := by
  have h1 := pw_le m hm
  have h2 := pw_le b (by omega)
  generalize pw m = P at *
  generalize pw b = Q at *
  exact i64_or x Q (by omega) (by omega)
def mk (p : Nat → Int × Int) : Nat → Nat → Nat
  | 0 => fun _ => 0
  | k + 1 => upd (mk p k) (p k).2.toNat (mk p k (p k).2.toNat ||| pw (p k).1.toNat)
def PIn (n : Int) (p : Nat → Int × Int) (k : Nat) : Prop := (0 ≤ (p k).1 ∧ (p k).1 < n) ∧ (0 ≤ (p k).2 ∧ (p k).2 < n)
theorem mk_sm {n : Nat} {p : Nat → Int × Int} : ∀ k, (∀ j, j < k → PIn n p j) → Sm n n (mk p k)
  | 0, _ => fun _ _ => pw_pos n
  | k + 1, h => by
    have ih := mk_sm (n := n) k (fun j hj => h j (by omega))
    obtain ⟨⟨h1, h2⟩, h3, h4⟩ := h k (by omega)
    refine ih.upd_or (ih _ (by omega)) ?_
    exact Nat.pow_lt_pow_right (by decide) (by omega)
/-- What Make must answer. -/
def Mk (n : Int) (len : Nat) (p : Nat → Int × Int) (c : Int) : Prop :=
  (c = 2 ∧ ¬ (0 ≤ n ∧ n ≤ 10)) ∨
  ∃ m : Nat, n = m ∧ m ≤ 10 ∧ ((c = 3 ∧ ¬ ∀ k, k < len → PIn m p k) ∨
    ((∀ k, k < len → PIn m p k) ∧ ((c = 4 ∧ ¬ Ord m (reachOut (mk p len) m m)) ∨ (c = 0 ∧ Ord m (reachOut (mk p len) m m)))))
def noOrder : Value := .agg #[.int .i64 0, .slice none 0 0]
def Made (n : Int) (len : Nat) (p : Nat → Int × Int) (w : World) (e : Ending) (w' : World) : Prop :=
  (∃ c, c ≠ 0 ∧ Mk n len p c ∧ e = .returned (.tuple #[noOrder, .int .i64 c])) ∨
  ∃ (m b : Nat), Mk n len p 0 ∧ n = m ∧ m ≤ 10 ∧ w.heap.size ≤ b ∧ e = .returned (.tuple #[.agg #[.int .i64 n, .slice (some ⟨b, 0, none⟩) m m], .int .i64 0]) ∧ Own w' b m (reachOut (mk p len) m m)

theorem resbox {w X : World} (h : Below (w.heap.size + 1) (w.alloc (.cells #[.int .i64 0, .slice none 0 0] 26)) X) :
    X.cell? ⟨w.heap.size, 0, none⟩ = some (.int .i64 0) ∧ X.cell? ⟨w.heap.size, 1, none⟩ = some (.slice none 0 0) ∧ X.frozen? ⟨w.heap.size, 0, none⟩ = false ∧ X.frozen? ⟨w.heap.size, 1, none⟩ = false :=
  ⟨(h.cell (p := ⟨w.heap.size, 0, none⟩) (Nat.lt_succ_self _)).trans (by simp), (h.cell (p := ⟨w.heap.size, 1, none⟩) (Nat.lt_succ_self _)).trans (by simp),
   (h.frozen (p := ⟨w.heap.size, 0, none⟩) (Nat.lt_succ_self _)).trans (by simp [World.frozen?_alloc_at]), (h.frozen (p := ⟨w.heap.size, 1, none⟩) (Nat.lt_succ_self _)).trans (by simp [World.frozen?_alloc_at])⟩
theorem out_below {w X : World} {o : Obj} (h : Below (w.heap.size + 1) (w.alloc o) X) : Below w.heap.size w X :=
  ((Below.refl _ _).alloc (Nat.le_refl _) o).trans (h.mono (Nat.le_succ _))

theorem set2 {w X : World} {u v : Value} (h : Below w.heap.size w X) : Below w.heap.size w ((X.setCell ⟨w.heap.size, 0, none⟩ u).setCell ⟨w.heap.size, 1, none⟩ v) :=
  (h.setCell (p := ⟨w.heap.size, 0, none⟩) (Nat.le_refl _) _).setCell (p := ⟨w.heap.size, 1, none⟩) (Nat.le_refl _) _
theorem Own.set2 {w X : World} {m : Nat} {g : Nat → Nat} {u v : Value} (h : Own X (w.heap.size + 1) m g) : Own ((X.setCell ⟨w.heap.size, 0, none⟩ u).setCell ⟨w.heap.size, 1, none⟩ v) (w.heap.size + 1) m g := by
  intro k hk
  refine ⟨?_, by rw [World.frozen?_setCell, World.frozen?_setCell]; exact (h k hk).2⟩
  rw [World.cell?_setCell_other _ _ _ _ (fun e => by injection e with e1; omega), World.cell?_setCell_other _ _ _ _ (fun e => by injection e with e1; omega)]
  exact (h k hk).1

set_option maxHeartbeats 1000000 in
theorem make_any (n : Int) (a : Option Addr) (len cap : Nat) (p : Nat → Int × Int) (w : World) (hl : len ≤ maxLen) (hr : PRow w a len p) :
    Calls Tryd.prog 13 #[.int .i64 n, .slice a len cap] w fun e w' => Made n len p w e w' ∧ Below w.heap.size w w' := by
  unfold maxLen at hl
  have HR := (show Hid (PRow w a len p) from hr)
  clear hr
  by_cases hn : 0 ≤ n ∧ n ≤ 10
  · obtain ⟨m, rfl⟩ := Int.eq_ofNat_of_zero_le hn.1
    have hm : m ≤ 10 := by omega
    have hd : cnt (m : Int) = true := by simpa [cnt] using hn
    clear hn
    obtain ⟨i0, hi, hz0, hz1, hz2⟩ := info_parts Tryd.info3
    go_enter Tryd.func13, Tryd.ntmps13
    go_wp2_with (first | (go_at_call 21; refine (isCount_any _ _).mono ?_; rintro e w' ⟨rfl, rfl⟩) | (at_make; refine wpList_make_full _ rfl _ _ 24 rfl (w.heap.size + 1) 3 i0 (.int .i64 0) 1 Tryd.underlying24 hi hz0 hz1 .i64 .i64 _ _ m rfl rfl rfl rfl (by rw [hz2]; omega) (by unfold maxLen; omega) (by simp) ?_; intro w1 hown1 hgrow1))
    have hB1 : Below (w.heap.size + 1) (w.alloc (.cells #[.int .i64 0, .slice none 0 0] 26)) w1 := (Below.refl _ _).grown hgrow1 (by simp) (by simp)
    have hO1 : Own w1 (w.heap.size + 1) m (mk p 0) := own_made (by rw [World.size_alloc] at hown1; exact hown1)
    have HO1 := (show Hid _ from hO1)
    have HB1 := (show Hid _ from hB1)
    clear hown1 hgrow1 hi hz0 hz1 hz2 hO1 hB1
    go_loopw [19] (fun i wx => ∃ k : Nat, k ≤ len ∧ i = .int .i64 k ∧ Hid (∀ j, j < k → PIn m p j) ∧ Own wx (w.heap.size + 1) m (mk p k) ∧ Hid (Below (w.heap.size + 1) (w.alloc (.cells #[.int .i64 0, .slice none 0 0] 26)) wx)) (fun i _ => len - (intOf i).toNat)
    case atStart => exact ⟨0, Nat.zero_le _, rfl, upto_zero, HO1.out, HB1.out⟩
    case round =>
      obtain ⟨k, hk, rfl, hok, hO, hB⟩ := hrel
      clear HO1 HB1
      by_cases hlt : k < len
      · obtain ⟨b, off, rfl, hca, hcb⟩ := HR.out.below ((Below.refl _ _).alloc (Nat.le_refl _) (.cells #[.int .i64 0, .slice none 0 0] 26)) k hlt
        have hba := World.block_lt_of_cell? _ _ hca
        have hca' := (hB.out.cell (by simpa using hba)).trans hca
        have hcb' := (hB.out.cell (by simpa using hba)).trans hcb
        have hbs := World.block_lt_of_cell? _ _ hca'
        clear hca hcb hba
        have HPQ : Hid (PIn m p k ↔ (0 ≤ (p k).1 ∧ (p k).1 < m) ∧ (0 ≤ (p k).2 ∧ (p k).2 < m)) := Iff.rfl
        have HMK : Hid (mk p (k + 1) = upd (mk p k) (p k).2.toNat (mk p k (p k).2.toNat ||| pw (p k).1.toNat)) := rfl
        have HE : Hid (¬ PIn m p k → Mk m len p 3) := fun h => .inr ⟨m, rfl, hm, .inl ⟨rfl, fun h2 => h (h2 k hlt)⟩⟩
        generalize (p k).1 = x at *
        generalize (p k).2 = y at *
        by_cases hx : 0 ≤ x ∧ x < m
        · have hxd : pnt x m = true := by simpa [pnt] using hx
          by_cases hy : 0 ≤ y ∧ y < m
          · have hyd : pnt y m = true := by simpa [pnt] using hy
            obtain ⟨A, rfl⟩ := Int.eq_ofNat_of_zero_le hx.1
            obtain ⟨U, rfl⟩ := Int.eq_ofNat_of_zero_le hy.1
            have hA : A < m := by omega
            have hU : U < m := by omega
            rw [Int.toNat_natCast, Int.toNat_natCast] at HMK
            have HP : Hid (PIn m p k) := HPQ.out.2 ⟨hx, hy⟩
            clear HPQ HE hx hy
            have hsm := mk_sm (n := m) k hok.out
            have hg := hsm U hU
            have hsh := wrap_pow A (Nat.lt_of_lt_of_le hA (Nat.le_trans hm (by decide)))
            have hor := or_pw hm hg hA
            have hOB := hO.alloc (.cells #[.int .i64 (A : Nat), .int .i64 (U : Nat)] 43)
            have hcU : ∀ nq, ((wr.alloc (.cells #[.int .i64 (A : Nat), .int .i64 (U : Nat)] 43)).drewN nq).cell? ⟨w.heap.size + 1, U, none⟩ = some (.int .i64 (mk p k U : Nat)) := fun nq => (hOB U hU).1
            have hfU : ∀ nq, ((wr.alloc (.cells #[.int .i64 (A : Nat), .int .i64 (U : Nat)] 43)).drewN nq).frozen? ⟨w.heap.size + 1, U, none⟩ = false := fun nq => (hOB U hU).2
            have HOB := (show Hid _ from hOB); clear hOB hsm
            go_wp2
            go_quiet (fail)
            go_wp2_with (go_at_call 22; refine (isPoint_any _ _ _).mono ?_; rintro e w' ⟨rfl, rfl⟩)
            have cU := hcU nq
            have fU := hfU nq
            have HO2 : Hid (Own ((wr.alloc (.cells #[.int .i64 (A : Nat), .int .i64 (U : Nat)] 43)).drewN nq) (w.heap.size + 1) m (mk p k)) := HOB.out
            have HB2 : Hid (Below (w.heap.size + 1) (w.alloc (.cells #[.int .i64 0, .slice none 0 0] 26)) ((wr.alloc (.cells #[.int .i64 (A : Nat), .int .i64 (U : Nat)] 43)).drewN nq)) := below_drewN (hB.out.alloc (by have := hB.out.size; simpa using this) _) _
            clear hcU hfU HOB hB hO
            generalize (wr.alloc (.cells #[.int .i64 (A : Nat), .int .i64 (U : Nat)] 43)).drewN nq = W2 at *
            go_region
            all_goals go_wp2
            all_goals go_roundw
            case rel => exact ⟨k + 1, by omega, by go_num, upto_succ hok.out HP.out, by rw [HMK.out]; exact HO2.out.set U _ hU, Below.drew (Below.setCell (p := ⟨w.heap.size + 1, U, none⟩) HB2.out (Nat.le_refl _) _)⟩
            case measure => simp [intOf]; omega
          · have hyd : pnt y m = false := by simpa [pnt] using hy
            have HM := (show Hid (Mk m len p 3) from HE.out fun h => hy (HPQ.out.1 h).2)
            have HB2 : Hid (∀ nq, Below (w.heap.size + 1) (w.alloc (.cells #[.int .i64 0, .slice none 0 0] 26)) ((wr.alloc (.cells #[.int .i64 x, .int .i64 y] 43)).drewN nq)) := fun nq => below_drewN (hB.out.alloc (by have := hB.out.size; simpa using this) _) _
            have HBW : Hid (∀ nq, Below w.heap.size w ((wr.alloc (.cells #[.int .i64 x, .int .i64 y] 43)).drewN nq)) := fun nq => out_below (HB2.out nq)
            clear HE HPQ HMK hy hO
            go_wp2
            go_quiet (fail)
            go_wp2_with fail
            refine (isPoint_any _ _ _).mono ?_
            rintro e w' ⟨rfl, rfl⟩
            go_wp2_with fail
            refine (isPoint_any _ _ _).mono ?_
            rintro e w' ⟨rfl, rfl⟩
            obtain ⟨r0, r1, r2, r3⟩ := resbox (HB2.out nq)
            have HBZ := (show Hid _ from HBW.out nq)
            clear hB HB2 HBW hbs
            generalize (wr.alloc (.cells #[.int .i64 x, .int .i64 y] 43)).drewN nq = W2 at *
            go_wp2
            exact bodyPost_ret (v := .tuple #[noOrder, .int .i64 3]) (by simp [results, Tryd.results13, go_sem, noOrder, r0, r1]) rfl ⟨.inl ⟨3, by decide, HM.out, rfl⟩, set2 HBZ.out⟩
        · have hxd : pnt x m = false := by simpa [pnt] using hx
          have HM := (show Hid (Mk m len p 3) from HE.out fun h => hx (HPQ.out.1 h).1)
          have HB2 : Hid (∀ nq, Below (w.heap.size + 1) (w.alloc (.cells #[.int .i64 0, .slice none 0 0] 26)) ((wr.alloc (.cells #[.int .i64 x, .int .i64 y] 43)).drewN nq)) := fun nq => below_drewN (hB.out.alloc (by have := hB.out.size; simpa using this) _) _
          have HBW : Hid (∀ nq, Below w.heap.size w ((wr.alloc (.cells #[.int .i64 x, .int .i64 y] 43)).drewN nq)) := fun nq => out_below (HB2.out nq)
          clear HE HPQ HMK hx hO
          go_wp2
          go_quiet (fail)
          go_wp2_with fail
          refine (isPoint_any _ _ _).mono ?_
          rintro e w' ⟨rfl, rfl⟩
          obtain ⟨r0, r1, r2, r3⟩ := resbox (HB2.out nq)
          have HBZ := (show Hid _ from HBW.out nq)
          clear hB HB2 HBW hbs
          generalize (wr.alloc (.cells #[.int .i64 x, .int .i64 y] 43)).drewN nq = W2 at *
          go_wp2
          exact bodyPost_ret (v := .tuple #[noOrder, .int .i64 3]) (by simp [results, Tryd.results13, go_sem, noOrder, r0, r1]) rfl ⟨.inl ⟨3, by decide, HM.out, rfl⟩, set2 HBZ.out⟩
      · have hkn : k = len := by omega
        subst hkn
        have hsm := mk_sm (n := m) k hok.out
        have HSR : Hid (Sm m m (reachOut (mk p k) m m)) := reachOut_sm hsm m (Nat.le_refl _)
        have HS2 : Hid (∀ j, j < m → reachOut (mk p k) m m j < 1024) := fun j hj => Nat.lt_of_lt_of_le (HSR.out j hj) (pw_le m hm)
        have HSM := (show Hid _ from hsm); clear hsm
        have HM4 : Hid (¬ Ord m (reachOut (mk p k) m m) → Mk m k p 4) := fun h => .inr ⟨m, rfl, hm, .inr ⟨hok.out, .inl ⟨rfl, h⟩⟩⟩
        have HM0 : Hid (Ord m (reachOut (mk p k) m m) → Mk m k p 0) := fun h => .inr ⟨m, rfl, hm, .inr ⟨hok.out, .inr ⟨rfl, h⟩⟩⟩
        go_wp2_with fail
        refine (reach_any m (mk p k) (w.heap.size + 1) m _ hm HSM.out hO).mono ?_
        rintro e w2 ⟨rfl, hO2, hB2⟩
        have HB3 : Hid (Below (w.heap.size + 1) (w.alloc (.cells #[.int .i64 0, .slice none 0 0] 26)) w2) := hB.out.trans hB2
        clear hB hB2 hO
        go_wp2_with fail
        refine (isOrdered_any m _ _ m _ hm HS2.out hO2.row).mono ?_
        rintro e w3 ⟨⟨b, rfl, hb⟩, rfl⟩
        obtain ⟨r0, r1, r2, r3⟩ := resbox HB3.out
        have HBZ : Hid (Below w.heap.size w w2) := out_below HB3.out
        have HO2 := (show Hid _ from hO2)
        clear HB3 hO2
        cases b
        · have HN := (show Hid (Mk m k p 4) from HM4.out fun h => by have := hb.2 h; cases this)
          clear hb
          go_wp2
          exact bodyPost_ret (v := .tuple #[noOrder, .int .i64 4]) (by simp [results, Tryd.results13, go_sem, noOrder, r0, r1]) rfl ⟨.inl ⟨4, by decide, HN.out, rfl⟩, set2 HBZ.out⟩
        · have HN := (show Hid (Mk m k p 0) from HM0.out (hb.1 rfl))
          clear hb
          go_wp2
          exact bodyPost_ret (v := .tuple #[.agg #[.int .i64 m, .slice (some ⟨w.heap.size + 1, 0, none⟩) m m], .int .i64 0]) (by simp [results, Tryd.results13, go_sem, r0, r1]) rfl ⟨.inr ⟨m, w.heap.size + 1, HN.out, rfl, hm, Nat.le_succ _, rfl, Own.set2 HO2.out⟩, set2 HBZ.out⟩
  · have hd : cnt n = false := by simpa [cnt] using hn
    have HN := (show Hid _ from hn); clear hn
    go_enter Tryd.func13, Tryd.ntmps13
    go_wp2_with (go_at_call 21; refine (isCount_any _ _).mono ?_; rintro e w' ⟨rfl, rfl⟩)
    exact bodyPost_ret (v := .tuple #[noOrder, .int .i64 2]) (by simp [results, Tryd.results13, go_sem, noOrder]) rfl ⟨.inl ⟨2, by decide, .inl ⟨rfl, HN.out⟩, rfl⟩, (Below.refl _ _).alloc (Nat.le_refl _) _⟩
end Go.Proofs.YtomoodpgmkjacabDoor
