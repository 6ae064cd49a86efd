/-
  The seven calls that hand back orders: what comes is told by what is handed in, and lies in new memory that may be written. Conditions: slices read as slices of numbers; the library's table.
-/
import Derived.Test.YtinblbkglkhjmaaDoorReM
import Derived.Test.YtinblbkglkhjmaaDoorRzC
import Derived.Test.YtinblbkglkhjmaaDoorRzT
import Derived.Test.YtinblbkglkhjmaaDoorPaW
import Derived.Test.YtinblbkglkhjmaaDoorTimes
namespace Go.Proofs.YtinblbkglkhjmaaDoor
open Go.RowKit
set_option maxRecDepth 100000

/-- Told by what is handed in. -/
def Det (P : Prop) (l0 : Nat) (G0 : Nat → Nat) (N : Int) (l : Nat) (G : Nat → Nat) : Prop := (¬ P ∧ N = 0 ∧ l = 0) ∨ (P ∧ N = (l0 : Nat) ∧ l = l0 ∧ ∀ j, j < l0 → G j = G0 j)
theorem Det.one {P : Prop} {l0 : Nat} {G0 : Nat → Nat} {N N' : Int} {l l' : Nat} {G G' : Nat → Nat} (h : Det P l0 G0 N l G) (h' : Det P l0 G0 N' l' G') : N = N' ∧ l = l' ∧ ∀ j, j < l → G j = G' j := by
  rcases h with ⟨h1, rfl, rfl⟩ | ⟨h1, rfl, rfl, hg⟩
  · rcases h' with ⟨_, rfl, rfl⟩ | ⟨h2, _⟩
    · exact ⟨rfl, rfl, fun j hj => absurd hj (Nat.not_lt_zero _)⟩
    · exact absurd h2 h1
  · rcases h' with ⟨h2, _⟩ | ⟨_, rfl, rfl, hg'⟩
    · exact absurd h1 h2
    · exact ⟨rfl, rfl, fun j hj => by rw [hg j hj, hg' j hj]⟩
/-- What comes out: an order by value. -/
def Out (P : Prop) (l0 : Nat) (G0 : Nat → Nat) (K : Nat) (w : World) (x : Value) : Prop := ∃ (N : Int) (a : Option Addr) (l cap : Nat) (G : Nat → Nat), x = .agg #[.int .i64 N, .slice a l cap] ∧ Det P l0 G0 N l G ∧ Row w a l (fun j => (G j : Nat)) ∧ WrB K w x
theorem out_no {P : Prop} {l0 : Nat} {G0 : Nat → Nat} {K : Nat} {w : World} (h : ¬ P) : Out P l0 G0 K w noOrder := ⟨0, none, 0, 0, fun _ => 0, rfl, .inl ⟨h, rfl, rfl⟩, fun _ hk => absurd hk (Nat.not_lt_zero _), wrb_no _ _⟩
theorem out_err {P : Prop} {l0 : Nat} {G0 : Nat → Nat} {K : Nat} {w : World} {x : Value} {c : Int} (hP : P ↔ c = 0) (h : OrdErr c (l0 : Nat) l0 (fun j => (G0 j : Nat)) x w) (hw : WrB K w x) : Out P l0 G0 K w x := by
  rcases h with ⟨h0, rfl⟩ | ⟨h0, a, cap, rfl, hr⟩
  · exact out_no (fun p => h0 (hP.1 p))
  · exact ⟨_, a, l0, cap, G0, rfl, .inr ⟨hP.2 h0, rfl, rfl, fun _ _ => rfl⟩, hr, hw⟩
section
variable (na : Int) (a : Option Addr) (la ca : Nat) (fa : Nat → Int) (nb : Int) (b : Option Addr) (lb cb : Nat) (fb : Nat → Int) (set : Int) (w : World)
theorem o0_any (hl : la ≤ maxLen) (hr : Row w a la fa) : Calls Tryd.prog 6 #[.agg #[.int .i64 na, .slice a la ca]] w fun e w' => (∃ x c, e = .returned (.tuple #[x, .int .i64 c]) ∧ Out (Chk na la fa 0) la (trn (nat fa) la) w.heap.size w' x) ∧ Below w.heap.size w w' :=
  (dual_w na a la ca fa w hl hr).mono fun _ _ ⟨⟨c, x, hc, he, ho, hw⟩, hb⟩ => ⟨⟨x, c, he, out_err ⟨fun h => hc.unique h, fun h => by rw [h] at hc; exact hc⟩ ho hw⟩, hb⟩
theorem o1_any (hl : la ≤ maxLen) (hr : Row w a la fa) (hT : Tab w) : Calls Tryd.prog 7 #[.agg #[.int .i64 na, .slice a la ca], .int .i64 set] w fun e w' => (∃ x c, e = .returned (.tuple #[x, .int .i64 c]) ∧ Out (PChk na la fa set 0) (pts set.toNat la).length (prt (nat fa) (pts set.toNat la)) w.heap.size w' x) ∧ Below w.heap.size w w' :=
  (part_w na a la ca fa set w hl hr hT).mono fun _ _ ⟨⟨c, x, hc, he, ho, hw⟩, hb⟩ => ⟨⟨x, c, he, out_err ⟨fun h => hc.unique h, fun h => by rw [h] at hc; exact hc⟩ ho hw⟩, hb⟩
theorem o2_any (hl : la ≤ maxLen) (hl2 : lb ≤ maxLen) (hz : a = none → la = 0 ∧ ca = 0) (hr : Row w a la fa) (hr2 : Row w b lb fb) : Calls Tryd.prog 8 #[.agg #[.int .i64 na, .slice a la ca], .agg #[.int .i64 nb, .slice b lb cb]] w fun e w' => (∃ x c, e = .returned (.tuple #[x, .int .i64 c]) ∧ Out (JChk na la fa nb lb fb 0) (la + lb) (jn (nat fa) la (nat fb) 0) w.heap.size w' x) ∧ Below w.heap.size w w' :=
  (beside_any na a la ca fa nb b lb cb fb w hl hl2 hz hr hr2).mono fun _ _ ⟨⟨c, x, hc, he, ho, hw⟩, hb⟩ => ⟨⟨x, c, he, out_err ⟨fun h => hc.unique h, fun h => by rw [h] at hc; exact hc⟩ ho hw⟩, hb⟩
theorem o3_any (hl : la ≤ maxLen) (hl2 : lb ≤ maxLen) (hz : a = none → la = 0 ∧ ca = 0) (hr : Row w a la fa) (hr2 : Row w b lb fb) : Calls Tryd.prog 9 #[.agg #[.int .i64 na, .slice a la ca], .agg #[.int .i64 nb, .slice b lb cb]] w fun e w' => (∃ x c, e = .returned (.tuple #[x, .int .i64 c]) ∧ Out (JChk na la fa nb lb fb 0) (la + lb) (jn (nat fa) la (nat fb) (pw la - 1)) w.heap.size w' x) ∧ Below w.heap.size w w' :=
  (over_any na a la ca fa nb b lb cb fb w hl hl2 hz hr hr2).mono fun _ _ ⟨⟨c, x, hc, he, ho, hw⟩, hb⟩ => ⟨⟨x, c, he, out_err ⟨fun h => hc.unique h, fun h => by rw [h] at hc; exact hc⟩ ho hw⟩, hb⟩
theorem o4_any (hl : la ≤ maxLen) (hl2 : lb ≤ maxLen) (hr : Row w a la fa) (hr2 : Row w b lb fb) (hT : Tab w) : Calls Tryd.prog 10 #[.agg #[.int .i64 na, .slice a la ca], .agg #[.int .i64 nb, .slice b lb cb]] w fun e w' => (∃ x c, e = .returned (.tuple #[x, .int .i64 c]) ∧ Out (TChk na la fa nb lb fb 0) (la * lb) (tmq (nat fa) (nat fb) lb) w.heap.size w' x) ∧ Below w.heap.size w w' :=
  (times_any na a la ca fa nb b lb cb fb w hl hl2 hr hr2 hT).mono fun _ _ ⟨⟨c, x, hc, he, ho, hw⟩, hb⟩ => ⟨⟨x, c, he, out_err ⟨fun h => hc.unique h, fun h => by rw [h] at hc; exact hc⟩ ho hw⟩, hb⟩
theorem o5_any (hl : la ≤ maxLen) (hr : Row w a la fa) (hT : Tab w) : Calls Tryd.prog 11 #[.agg #[.int .i64 na, .slice a la ca]] w fun e w' => (∃ x v c, e = .returned (.tuple #[x, v, .int .i64 c]) ∧ Out (FCk na la fa 0) la (prt (nat fa) ((bst (nat fa) la (per la [] (pw la - 1))).getD [])) w.heap.size w' x) ∧ Below w.heap.size w w' :=
  (form_any na a la ca fa w hl hr hT).mono fun _ _ ⟨⟨c, hc, hv⟩, hb⟩ => by
    refine ⟨?_, hb⟩
    rcases hv with ⟨h0, rfl⟩ | ⟨rfl, x, bl, bv, hx, rfl, hO, hK, _⟩
    · exact ⟨_, _, _, rfl, out_no fun h => h0 (hc.one h)⟩
    · refine ⟨_, _, _, rfl, _, _, la, la, prt (nat fa) x, rfl, .inr ⟨hc, rfl, rfl, fun j _ => by rw [hx]; rfl⟩, Own.row hO, wrb_own hO hK⟩
theorem o6_any (hl : la ≤ maxLen) (hr : Row w a la fa) : Calls Tryd.prog 12 #[.agg #[.int .i64 na, .slice a la ca]] w fun e w' => (∃ x v c, e = .returned (.tuple #[x, v, .int .i64 c]) ∧ Out (SCk na la fa 0 ∧ RzS (· < la) (ltU (nat fa) la) 2) la (acc (tF (nat fa) la ((pkF (hasK (nat fa) la) (ways (nat fa) la 0) 2 (opn (nat fa) la)).getD [])) la 2) w.heap.size w' x) ∧ Below w.heap.size w w' :=
  (turned_any na a la ca fa w hl hr).mono fun _ _ ⟨⟨c, hc, hv⟩, hb⟩ => by
    refine ⟨?_, hb⟩
    rcases hv with ⟨h0, rfl⟩ | ⟨rfl, hn, rfl⟩ | ⟨rfl, hy, ax, cx, l, hl', rfl, hrow, _, hw⟩
    · exact ⟨_, _, _, rfl, out_no fun h => h0 (hc.one h.1)⟩
    · exact ⟨_, _, _, rfl, out_no fun h => hn h.2⟩
    · exact ⟨_, _, _, rfl, _, ax, la, cx, _, rfl, .inr ⟨⟨hc, hy⟩, rfl, rfl, fun j _ => by rw [hl']; rfl⟩, hrow, hw⟩
end
/-- The seven of them. -/
def PP (na : Int) (la : Nat) (fa : Nat → Int) (nb : Int) (lb : Nat) (fb : Nat → Int) (set : Int) : Nat → Prop
  | 0 => Chk na la fa 0
  | 1 => PChk na la fa set 0
  | 2 => JChk na la fa nb lb fb 0
  | 3 => JChk na la fa nb lb fb 0
  | 4 => TChk na la fa nb lb fb 0
  | 5 => FCk na la fa 0
  | _ => SCk na la fa 0 ∧ RzS (· < la) (ltU (nat fa) la) 2
def LL (la lb : Nat) (set : Int) : Nat → Nat
  | 0 => la
  | 1 => (pts set.toNat la).length
  | 2 => la + lb
  | 3 => la + lb
  | 4 => la * lb
  | 5 => la
  | _ => la
def GG (la : Nat) (fa : Nat → Int) (lb : Nat) (fb : Nat → Int) (set : Int) : Nat → Nat → Nat
  | 0 => trn (nat fa) la
  | 1 => prt (nat fa) (pts set.toNat la)
  | 2 => jn (nat fa) la (nat fb) 0
  | 3 => jn (nat fa) la (nat fb) (pw la - 1)
  | 4 => tmq (nat fa) (nat fb) lb
  | 5 => prt (nat fa) ((bst (nat fa) la (per la [] (pw la - 1))).getD [])
  | _ => acc (tF (nat fa) la ((pkF (hasK (nat fa) la) (ways (nat fa) la 0) 2 (opn (nat fa) la)).getD [])) la 2
theorem Chk.ord {n : Int} {len : Nat} {f : Nat → Int} (h : Chk n len f 0) : n = (len : Nat) ∧ len ≤ 10 ∧ Sm len len (nat f) ∧ Ord len (nat f) := by
  obtain ⟨e, h10, hrng, hord⟩ := h.good
  exact ⟨e, h10, hrng.small, hord⟩
theorem pp_good {na : Int} {la : Nat} {fa : Nat → Int} {nb : Int} {lb : Nat} {fb : Nat → Int} {set : Int} : ∀ k, k < 7 → PP na la fa nb lb fb set k → LL la lb set k ≤ 10 ∧ Sm (LL la lb set k) (LL la lb set k) (GG la fa lb fb set k) ∧ Ord (LL la lb set k) (GG la fa lb fb set k) := by
  intro k hk h
  have hj : ∀ u, u = 0 ∨ u = pw la - 1 → JChk na la fa nb lb fb 0 → la + lb ≤ 10 ∧ Sm (la + lb) (la + lb) (jn (nat fa) la (nat fb) u) ∧ Ord (la + lb) (jn (nat fa) la (nat fb) u) := fun u hu h => by
    rcases h with ⟨h0, _⟩ | ⟨h2, h3⟩
    · exact absurd rfl h0
    · obtain ⟨k1, k2⟩ := h2.good
      obtain ⟨_, a1, a2, a3⟩ := k1.ord
      obtain ⟨_, b1, b2, b3⟩ := k2.ord
      have h10 : la + lb ≤ 10 := by
        rcases h3 with ⟨h, _⟩ | ⟨_, h⟩
        · cases h
        · exact h
      exact ⟨h10, jn_good h10 a2 a3 b2 b3 hu⟩
  match k, hk, h with
  | 0, _, h =>
    obtain ⟨_, h10, hs, ho⟩ := h.ord
    exact ⟨h10, trn_good h10 hs ho⟩
  | 1, _, h =>
    have hc : Chk na la fa 0 := by
      rcases h with ⟨h0, _⟩ | ⟨h, _⟩
      · exact absurd rfl h0
      · exact h
    obtain ⟨_, h10, hs, ho⟩ := hc.ord
    obtain ⟨k1, k2, k3⟩ := prt_good (s := set.toNat) h10 hs ho
    exact ⟨Nat.le_trans k1 h10, k2, k3⟩
  | 2, _, h => exact hj 0 (.inl rfl) h
  | 3, _, h => exact hj _ (.inr rfl) h
  | 4, _, h =>
    rcases h with ⟨h0, _⟩ | ⟨h2, h3⟩
    · exact absurd rfl h0
    · obtain ⟨k1, k2⟩ := h2.good
      obtain ⟨_, a1, a2, a3⟩ := k1.ord
      obtain ⟨_, b1, b2, b3⟩ := k2.ord
      have h10 : la * lb ≤ 10 := by
        rcases h3 with ⟨h, _⟩ | ⟨_, h⟩
        · cases h
        · exact h
      exact ⟨h10, tm_good h10 a1 b1 a2 a3 b2 b3⟩
  | 5, _, h =>
    obtain ⟨_, _, hck⟩ := h.good
    obtain ⟨_, h10, hs, ho⟩ := hck.ord
    obtain ⟨y, hy⟩ := bst_some (g := nat fa) (n := la) (per_ne la [] _ (pc_all h10).1 (pc_all h10).2)
    obtain ⟨l1, l2, _⟩ := per_good h10 (bst_mem hy)
    show la ≤ 10 ∧ Sm la la (prt (nat fa) ((bst (nat fa) la (per la [] (pw la - 1))).getD [])) ∧ _
    rw [show GG la fa lb fb set 5 = prt (nat fa) ((bst (nat fa) la (per la [] (pw la - 1))).getD []) from rfl, hy]
    exact ⟨h10, lst_good h10 l1 l2 hs ho⟩
  | 6, _, h =>
    obtain ⟨_, h7, hck⟩ := h.1.good
    obtain ⟨_, h10, hs, ho⟩ := hck.ord
    have hne := (pick_rz h7 hs ho (m := 2) (by omega)).2 h.2
    obtain ⟨l, hl⟩ := Option.ne_none_iff_exists'.1 hne
    obtain ⟨hl0, hl2, hcv⟩ := pick_cov h7 hl
    have ht := (hcv.tnd h7 hs hl0 hl2).2
    show la ≤ 10 ∧ Sm la la (acc (tF (nat fa) la ((pkF (hasK (nat fa) la) (ways (nat fa) la 0) 2 (opn (nat fa) la)).getD [])) la 2) ∧ _
    rw [show GG la fa lb fb set 6 = acc (tF (nat fa) la ((pkF (hasK (nat fa) la) (ways (nat fa) la 0) 2 (opn (nat fa) la)).getD [])) la 2 from rfl, hl]
    exact ⟨h10, ht.1, ht.2.1⟩
end Go.Proofs.YtinblbkglkhjmaaDoor
