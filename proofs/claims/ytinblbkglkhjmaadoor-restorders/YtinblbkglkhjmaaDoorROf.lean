/-
  What realize.Of answers, whatever it is handed: the order of the rows. No condition but that slices read as slices of rows.
  What realize.Of answers, whatever it is handed: the order of the rows. No condition but that slices read as slices of rows.
-/
import Derived.Test.YtinblbkglkhjmaaDoorPacked
import Derived.Test.YtinblbkglkhjmaaDoorRepeat
import Derived.Test.YtinblbkglkhjmaaDoorBuild
namespace Go.Proofs.YtinblbkglkhjmaaDoor
open Go.RowKit

/-- A slice of m rows. -/
def RR (w : World) (a : Option Addr) (m : Nat) (S : Nat → Option Addr × Nat × Nat) (F : Nat → Nat → Int) : Prop :=
  ∀ k, k < m → ∃ b off, a = some ⟨b, off, none⟩ ∧ w.cell? ⟨b, off + k, none⟩ = some (.slice (S k).1 (S k).2.1 (S k).2.2) ∧ (S k).2.1 ≤ maxLen ∧ Row w (S k).1 (S k).2.1 (F k)
theorem RR.below {w w' : World} {a : Option Addr} {m : Nat} {S : Nat → Option Addr × Nat × Nat} {F : Nat → Nat → Int} (h : RR w a m S F) (hb : Below w.heap.size w w') : RR w' a m S F := fun k hk => by
  obtain ⟨b, off, e, hc, hl, hr⟩ := h k hk
  exact ⟨b, off, e, (hb.cell (World.block_lt_of_cell? _ _ hc)).trans hc, hl, hr.below hb⟩
/-- What is in all of the first r rows. -/
def acc (F : Nat → Nat → Int) (n : Nat) : Nat → Nat → Nat
  | 0 => fun _ => pw n - 1
  | r + 1 => fun y => acc F n r y &&& bf (F r) n n y
def accTo (F : Nat → Nat → Int) (n r y k : Nat) : Nat := if k < y then acc F n (r + 1) k else acc F n r k
theorem acc_lt (F : Nat → Nat → Int) (n : Nat) : ∀ r y, acc F n r y < pw n
  | 0, _ => by have := pw_pos n; show pw n - 1 < pw n; omega
  | r + 1, y => Nat.lt_of_le_of_lt Nat.and_le_left (acc_lt F n r y)
theorem accTo_zero (F : Nat → Nat → Int) (n r : Nat) : ∀ k, accTo F n r 0 k = acc F n r k := fun k => by unfold accTo; rw [if_neg (Nat.not_lt_zero _)]
theorem accTo_at (F : Nat → Nat → Int) (n r y : Nat) : accTo F n r y y = acc F n r y := by unfold accTo; rw [if_neg (Nat.lt_irrefl _)]
theorem accTo_next (F : Nat → Nat → Int) (n r y : Nat) : ∀ k, upd (accTo F n r y) y (acc F n r y &&& bf (F r) n n y) k = accTo F n r (y + 1) k := fun k => by
  by_cases e : k = y
  · subst e; rw [upd_same]; unfold accTo; rw [if_pos (Nat.lt_succ_self _)]; rfl
  · rw [upd_other _ _ _ _ e]
    unfold accTo
    by_cases q : k < y
    · rw [if_pos q, if_pos (by omega)]
    · rw [if_neg q, if_neg (by omega)]
theorem accTo_end (F : Nat → Nat → Int) (n r : Nat) : ∀ k, k < n → accTo F n r n k = acc F n (r + 1) k := fun k hk => by unfold accTo; rw [if_pos hk]
/-- What Of must answer. -/
def RCk (n : Int) (m : Nat) (S : Nat → Option Addr × Nat × Nat) (F : Nat → Nat → Int) (c : Int) : Prop :=
  (c = 2 ∧ ¬ (0 ≤ n ∧ n ≤ 10 ∧ 0 < m ∧ m ≤ 10)) ∨
  ∃ q : Nat, n = q ∧ q ≤ 10 ∧ 0 < m ∧ m ≤ 10 ∧ ((c = 1 ∧ ∃ k, k < m ∧ ¬ ((S k).2.1 = q ∧ Once (F k) q q)) ∨ (c = 0 ∧ ∀ k, k < m → (S k).2.1 = q ∧ Once (F k) q q))
theorem RCk.one {n : Int} {m : Nat} {S : Nat → Option Addr × Nat × Nat} {F : Nat → Nat → Int} {c d : Int} (h : RCk n m S F c) (h' : RCk n m S F d) : c = d := by
  rcases h with ⟨rfl, h⟩ | ⟨q, rfl, q1, q2, q3, h⟩
  · rcases h' with ⟨rfl, _⟩ | ⟨p, hp, p1, p2, p3, _⟩
    · rfl
    · exact absurd ⟨by omega, by omega, p2, p3⟩ h
  · rcases h' with ⟨rfl, h'⟩ | ⟨p, hp, p1, p2, p3, h'⟩
    · exact absurd ⟨by omega, by omega, q2, q3⟩ h'
    · obtain rfl : q = p := by omega
      rcases h with ⟨rfl, k, hk, h⟩ | ⟨rfl, h⟩ <;> rcases h' with ⟨rfl, k', hk', h'⟩ | ⟨rfl, h'⟩
      · rfl
      · exact absurd (h' k hk) h
      · exact absurd (h k' hk') h'
      · rfl
end Go.Proofs.YtinblbkglkhjmaaDoor
namespace Go.Proofs.YtinblbkglkhjmaaDoor
open Go.RowKit

/-- What a call answers that hands back an order of its own and an errno. -/
def OrdNew (Z : Nat) (c : Int) (n : Int) (len : Nat) (F : Nat → Int) (x : Value) (w : World) : Prop :=
  (c ≠ 0 ∧ x = noOrder) ∨ (c = 0 ∧ ∃ a cap, x = .agg #[.int .i64 n, .slice a len cap] ∧ Row w a len F ∧ (∀ b off, a = some ⟨b, off, none⟩ → Z ≤ b) ∧ ∀ k, k < len → ∃ b, a = some ⟨b, 0, none⟩ ∧ w.frozen? ⟨b, k, none⟩ = false)
theorem OrdNew.err {Z : Nat} {c n : Int} {len : Nat} {F : Nat → Int} {x : Value} {w : World} (h : OrdNew Z c n len F x w) : OrdErr c n len F x w := by
  rcases h with h | ⟨h0, a, cap, hx, hr, _⟩
  · exact .inl h
  · exact .inr ⟨h0, a, cap, hx, hr⟩
set_option maxHeartbeats 4000000 in
theorem rOf_new (n : Int) (a : Option Addr) (m cap : Nat) (S : Nat → Option Addr × Nat × Nat) (F : Nat → Nat → Int) (w : World) (hm : m ≤ maxLen) (hr : RR w a m S F) :
    Calls Tryd.prog 36 #[.int .i64 n, .slice a m cap] w fun e w' => (∃ c x, e = .returned (.tuple #[x, .int .i64 c]) ∧ RCk n m S F c ∧ OrdNew w.heap.size c n n.toNat (fun k => (acc F n.toNat m k : Nat)) x w') ∧ Below w.heap.size w w' := by
  unfold maxLen at hm
  have HR : Hid (RR w a m S F) := hr
  clear hr
  obtain ⟨r0, r1, r2, r3⟩ := resbox (w := w) (Below.refl _ _)
  have HB0 : Hid (Below w.heap.size w (w.alloc (.cells #[.int .i64 0, .slice none 0 0] 24))) := (Below.refl _ _).alloc (Nat.le_refl _) _
  by_cases hn : 0 ≤ n ∧ n ≤ 10
  · obtain ⟨q, rfl⟩ := Int.eq_ofNat_of_zero_le hn.1
    have hd : cnt (q : Int) = true := by simpa [cnt] using hn
    have h10 : q ≤ 10 := by omega
    by_cases hm0 : m = 0
    · subst hm0
      have HM : Hid (RCk q 0 S F 2) := .inl ⟨rfl, fun h => by omega⟩
      go_enter Tryd.func36, Tryd.ntmps36
      go_wp2_with (go_at_call 26; refine (isCount_any _ _).mono ?_; rintro e w' ⟨rfl, hww⟩; subst hww)
      exact bodyPost_ret (v := .tuple #[noOrder, .int .i64 2]) (by simp [results, Tryd.results36, go_sem, noOrder]) rfl ⟨⟨2, noOrder, rfl, HM.out, .inl ⟨by decide, rfl⟩⟩, HB0.out⟩
    · have hm0' : ((m : Int) == 0) = false := by simpa using hm0
      by_cases hm10 : 10 < m
      · have hm10' : (10 : Int) < (m : Int) := by omega
        have HM : Hid (RCk q m S F 2) := .inl ⟨rfl, fun h => by omega⟩
        go_enter Tryd.func36, Tryd.ntmps36
        go_wp2_with (go_at_call 26; refine (isCount_any _ _).mono ?_; rintro e w' ⟨rfl, hww⟩; subst hww)
        exact bodyPost_ret (v := .tuple #[noOrder, .int .i64 2]) (by simp [results, Tryd.results36, go_sem, noOrder]) rfl ⟨⟨2, noOrder, rfl, HM.out, .inl ⟨by decide, rfl⟩⟩, HB0.out⟩
      · have hm10' : ¬ (10 : Int) < (m : Int) := by omega
        have hpl := pw_le q h10
        have hpp := pw_pos q
        go_enter Tryd.func36, Tryd.ntmps36
        go_wp2_with (first
          | (go_at_call 26; refine (isCount_any _ _).mono ?_; rintro e w' ⟨rfl, hww⟩; subst hww)
          | (go_at_call 25; refine (all_any q _ h10).mono ?_; rintro e w' ⟨rfl, hww⟩; subst hww))
        have hz : ((w.alloc (.cells #[.int .i64 0, .slice none 0 0] 24)).alloc (.cells #[.int .i64 ((pw q : Nat) - 1 : Int)] 3)).cell? ⟨w.heap.size + 1, 0, none⟩ = some (.int .i64 ((pw q : Nat) - 1 : Int)) := by simp
        refine (repeat_any q ((pw q : Nat) - 1 : Int) ⟨w.heap.size + 1, 0, none⟩ 1 _ h10 hz).mono ?_
        rintro e w1 ⟨⟨rfl, hown1⟩, hb1⟩
        have hsz : ((w.alloc (.cells #[.int .i64 0, .slice none 0 0] 24)).alloc (.cells #[.int .i64 ((pw q : Nat) - 1 : Int)] 3)).heap.size = w.heap.size + 2 := by simp
        have HO1 : Hid (Own w1 (w.heap.size + 2) q (acc F q 0)) := fun k hk => by
          rw [hsz] at hown1
          refine ⟨?_, hown1.frozenAt k⟩
          rw [hown1.cellAt k (by omega)]
          have : ((pw q : Nat) - 1 : Int) = ((pw q - 1 : Nat) : Int) := by omega
          rw [this]
          simp [hk, acc]
        have HB1 : Hid (Below (w.heap.size + 1) (w.alloc (.cells #[.int .i64 0, .slice none 0 0] 24)) w1) := ((Below.refl _ _).alloc (by simp) _).trans (hb1.mono (by rw [hsz]; omega))
        clear hown1 hb1 hz r0 r1 r2 r3
        rw [hsz]
        clear hsz
        go_wp2_with fail
        go_loopw [32] (fun i wx => ∃ r : Nat, r ≤ m ∧ i = .int .i64 r ∧ Hid (∀ k, k < r → (S k).2.1 = q ∧ Once (F k) q q) ∧ Hid (Own wx (w.heap.size + 2) q (acc F q r)) ∧ Hid (Below (w.heap.size + 1) (w.alloc (.cells #[.int .i64 0, .slice none 0 0] 24)) wx)) (fun i _ => m - (intOf i).toNat)
        case atStart => exact ⟨0, Nat.zero_le _, rfl, fun k hk => absurd hk (Nat.not_lt_zero _), HO1.out, HB1.out⟩
        case round =>
          clear HO1 HB1
          obtain ⟨r, hrm, rfl, HK, HO, HB⟩ := hrel
          by_cases hlt : r < m
          · obtain ⟨b, off, rfl, hc0, hsl, hrow0⟩ := HR.out r hlt
            have hbw := out_below HB.out
            have hc := (hbw.cell (World.block_lt_of_cell? _ _ hc0)).trans hc0
            have HRow : Hid (Row wr (S r).1 (S r).2.1 (F r)) := hrow0.below hbw
            have HNF : Hid (¬ ((S r).2.1 = q ∧ Once (F r) q q) → RCk q m S F 1) := fun h => .inr ⟨q, rfl, h10, by omega, by omega, .inl ⟨rfl, r, hlt, h⟩⟩
            have HKN : Hid ((S r).2.1 = q ∧ Once (F r) q q → ∀ k, k < r + 1 → (S k).2.1 = q ∧ Once (F k) q q) := fun h k hk => by
              by_cases e : k = r
              · subst e; exact h
              · exact HK.out k (by omega)
            clear hc0 hrow0 HK
            generalize S r = s at *
            obtain ⟨sa, sl, sc⟩ := s
            simp only at hc hsl HRow HNF HKN
            go_wp2_with fail
            refine (once_any sa sl sc q (F r) _ hsl h10 HRow.out).mono ?_
            rintro e w2 ⟨⟨v, rfl, hv⟩, hww⟩
            subst hww
            rcases v with _ | _
            · have HM : Hid (RCk q m S F 1) := HNF.out (fun h => by have := hv.2 h; cases this)
              obtain ⟨r0, r1, r2, r3⟩ := resbox HB.out
              have HBE : Hid (Below w.heap.size w wr) := out_below HB.out
              clear HNF HKN hv HRow
              go_wp2_with fail
              exact bodyPost_ret (v := .tuple #[noOrder, .int .i64 1]) (by simp [results, Tryd.results36, go_sem, noOrder, r0, r1]) rfl ⟨⟨1, noOrder, rfl, HM.out, .inl ⟨by decide, rfl⟩⟩, set2 HBE.out⟩
            · obtain ⟨rfl, hon⟩ := hv.1 rfl
              have HK2 := (show Hid _ from HKN.out ⟨rfl, hon⟩)
              have HAH := ahead_any sa sl sc (F r) wr h10 hon HRow.out
              clear HNF HKN hv
              go_wp2_with fail
              refine HAH.mono ?_
              rintro e w3 ⟨rfl, hA3, hb3⟩
              clear HAH
              have HA3 : Hid (Own w3 wr.heap.size sl (bf (F r) sl sl)) := hA3
              have HO3 : Hid (Own w3 (w.heap.size + 2) sl (acc F sl r)) := fun k hk => (HO.out.keep hb3 (HO.out.lt hk)) k hk
              have HB3 : Hid (Below (w.heap.size + 1) (w.alloc (.cells #[.int .i64 0, .slice none 0 0] 24)) w3) := HB.out.trans (hb3.mono (by have := HB.out.size; simpa using this))
              have hAB : 0 < sl → w.heap.size + 2 < wr.heap.size := fun h => HO.out.lt h
              clear hA3 hb3 HO HB HRow
              generalize wr.heap.size = Ab at *
              go_wp2_with fail
              go_loopw [44] (fun i wx => ∃ y : Nat, y ≤ sl ∧ i = .int .i64 y ∧ Hid (Own wx Ab sl (bf (F r) sl sl)) ∧ Hid (Own wx (w.heap.size + 2) sl (accTo F sl r y)) ∧ Hid (Below (w.heap.size + 1) (w.alloc (.cells #[.int .i64 0, .slice none 0 0] 24)) wx)) (fun i _ => sl - (intOf i).toNat)
              case atStart => exact ⟨0, Nat.zero_le _, rfl, HA3.out, HO3.out.congr (fun k _ => (accTo_zero F sl r k).symm), HB3.out⟩
              case round =>
                clear HA3 HO3 HB3
                obtain ⟨y, hy, rfl, HA, HO, HB⟩ := hrel
                by_cases hyl : y < sl
                · have ca := (HA.out y hyl).1
                  have cb := (HO.out y hyl).1
                  have fb := (HO.out y hyl).2
                  rw [accTo_at] at cb
                  have h1 := acc_lt F sl r y
                  have h2 := bf_lt (f := F r) (n := sl) sl y
                  have hand : bits .and .i64 ((acc F sl r y : Nat) : Int) ((bf (F r) sl sl y : Nat) : Int) = ((acc F sl r y &&& bf (F r) sl sl y : Nat) : Int) := i64_and _ _ (by omega) (by omega)
                  have hne := hAB (by omega)
                  have HA2 : Hid (Own (wr.setCell ⟨w.heap.size + 2, y, none⟩ (.int .i64 ((acc F sl r y &&& bf (F r) sl sl y : Nat) : Int))) Ab sl (bf (F r) sl sl)) := fun k hk => by
                    obtain ⟨q1, q2⟩ := HA.out k hk
                    exact ⟨(World.cell?_setCell_other _ _ _ _ (fun e => by injection e with e1; omega)).trans q1, by rw [World.frozen?_setCell]; exact q2⟩
                  have HO2 : Hid (Own (wr.setCell ⟨w.heap.size + 2, y, none⟩ (.int .i64 ((acc F sl r y &&& bf (F r) sl sl y : Nat) : Int))) (w.heap.size + 2) sl (accTo F sl r (y + 1))) := (HO.out.set y _ hyl).congr (fun k _ => accTo_next F sl r y k)
                  have HB2 : Hid (Below (w.heap.size + 1) (w.alloc (.cells #[.int .i64 0, .slice none 0 0] 24)) (wr.setCell ⟨w.heap.size + 2, y, none⟩ (.int .i64 ((acc F sl r y &&& bf (F r) sl sl y : Nat) : Int)))) := Below.setCell (p := ⟨w.heap.size + 2, y, none⟩) HB.out (Nat.le_succ (w.heap.size + 1)) _
                  generalize acc F sl r y = X at *
                  generalize bf (F r) sl sl y = Y at *
                  clear HA HO HB h1 h2
                  go_wp2_with fail
                  go_roundw
                  case rel => exact ⟨y + 1, by omega, by go_num, HA2.out, HO2.out, HB2.out⟩
                  case measure => simp [intOf]; omega
                · obtain rfl : y = sl := by omega
                  have HN : Hid (Own wr (w.heap.size + 2) y (acc F y (r + 1))) := HO.out.congr (accTo_end F y r)
                  go_wp2_with fail
                  go_roundw
                  case rel => exact ⟨r + 1, by omega, by go_num, HK2.out, HN.out, HB.out⟩
                  case measure => simp [intOf]; omega
          · obtain rfl : r = m := by omega
            have HM : Hid (RCk q r S F 0) := .inr ⟨q, rfl, h10, by omega, by omega, .inr ⟨rfl, HK.out⟩⟩
            obtain ⟨r0, r1, r2, r3⟩ := resbox HB.out
            have HBE : Hid (Below w.heap.size w wr) := out_below HB.out
            have HRE : Hid (Row ((wr.setCell ⟨w.heap.size, 0, none⟩ (.int .i64 (q : Int))).setCell ⟨w.heap.size, 1, none⟩ (.slice (some ⟨w.heap.size + 2, 0, none⟩) q q)) (some ⟨w.heap.size + 2, 0, none⟩) q (fun k => (acc F q r k : Nat))) := row_set2 HO.out.row (fun _ => ⟨_, _, rfl, by omega⟩)
            have HFZ : Hid (∀ k, k < q → wr.frozen? ⟨w.heap.size + 2, k, none⟩ = false) := fun k hk => (HO.out k hk).2
            clear HO HB HK
            go_wp2_with fail
            exact bodyPost_ret (v := .tuple #[.agg #[.int .i64 (q : Int), .slice (some ⟨w.heap.size + 2, 0, none⟩) q q], .int .i64 0]) (by simp [results, Tryd.results36, go_sem, r0, r1]) rfl ⟨⟨0, _, rfl, HM.out, .inr ⟨rfl, _, _, rfl, HRE.out, (fun b off e => by cases e; omega), fun k hk => ⟨_, rfl, by rw [World.frozen?_setCell, World.frozen?_setCell]; exact HFZ.out k hk⟩⟩⟩, set2 HBE.out⟩
  · have hd : cnt n = false := by simpa [cnt] using hn
    have HM : Hid (RCk n m S F 2) := .inl ⟨rfl, fun h => hn ⟨h.1, h.2.1⟩⟩
    go_enter Tryd.func36, Tryd.ntmps36
    go_wp2_with (go_at_call 26; refine (isCount_any _ _).mono ?_; rintro e w' ⟨rfl, hww⟩; subst hww)
    exact bodyPost_ret (v := .tuple #[noOrder, .int .i64 2]) (by simp [results, Tryd.results36, go_sem, noOrder]) rfl ⟨⟨2, noOrder, rfl, HM.out, .inl ⟨by decide, rfl⟩⟩, HB0.out⟩
theorem rOf_any (n : Int) (a : Option Addr) (m cap : Nat) (S : Nat → Option Addr × Nat × Nat) (F : Nat → Nat → Int) (w : World) (hm : m ≤ maxLen) (hr : RR w a m S F) :
    Calls Tryd.prog 36 #[.int .i64 n, .slice a m cap] w fun e w' => (∃ c x, e = .returned (.tuple #[x, .int .i64 c]) ∧ RCk n m S F c ∧ OrdErr c n n.toNat (fun k => (acc F n.toNat m k : Nat)) x w') ∧ Below w.heap.size w w' :=
  (rOf_new n a m cap S F w hm hr).mono fun _ _ ⟨⟨c, x, h1, h2, h3⟩, hb⟩ => ⟨⟨c, x, h1, h2, h3.err⟩, hb⟩
end Go.Proofs.YtinblbkglkhjmaaDoor
