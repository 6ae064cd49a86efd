/-
  What the reference's Inside, MarksOf and ThingsOf answer. Conditions: a context of at most ten things and ten marks that lies in a slice of numbers.
  What concept.Concepts and the reference's ConceptsOf answer. Conditions: of the first none but that a slice reads as a slice of numbers.
-/
import Derived.Test.YthhnngmfbbljaaaGreatConN
import Derived.Test.YthhnngmfbbljaaaGreatFilM
namespace Go.Proofs.YthhnngmfbbljaaaGreat
set_option maxRecDepth 100000
open Go.RowKit

end Go.Proofs.YthhnngmfbbljaaaGreat
namespace Go.Proofs.YthhnngmfbbljaaaGreat
set_option maxRecDepth 100000
open Go.RowKit

theorem take_next {α : Type} (d : α) : ∀ (l : List α) (i : Nat), i < l.length → l.take (i + 1) = l.take i ++ [l.getD i d]
  | [], i, h => absurd h (Nat.not_lt_zero _)
  | x :: l, 0, _ => by simp
  | x :: l, i + 1, h => by
    have ih := take_next d l i (by simpa using h)
    simp only [List.take_succ_cons, ih, List.cons_append, List.getD_cons_succ]
theorem tsets_at {h : Nat → Nat} {n m i : Nat} (hi : i < (tsets h n m).length) : nth (tsets h n m) i < pw n ∧ clt h n m (nth (tsets h n m) i) = nth (tsets h n m) i := by
  have h1 : nth (tsets h n m) i < pw n ∧ isT h n m (nth (tsets h n m) i) = true := (fil_mem (isT h n m) (pw n) _).1 (nth_mem hi)
  exact ⟨h1.1, by simpa [isT] using h1.2⟩
theorem below_append2 {w wx w1 : World} {o2 : Obj} {e : TypeId} {size n : Nat} {v : Value} {xs : List Value} (h : Below w.heap.size w wx) (hown : wx.ownsRow w.heap.size e size v n xs) (hg : (wx.alloc o2).grownBy w1 v.ownBlock) : Below w.heap.size w w1 :=
  (h.alloc h.size o2).grown hg (by have := h.size; simp; omega) (owns_block hown)

/-- What Concepts must answer. -/
def ConIs (L R : Int) (len : Nat) (f : Nat → Int) (e : Ending) (w' : World) : Prop :=
  (∃ c : Int, c ≠ 0 ∧ GChk L R len f c ∧ e = .returned (.tuple #[.slice none 0 0, .int .i64 c])) ∨
  (∃ (r : Nat) (v : Value), GChk L R len f 0 ∧ L = (len : Int) ∧ R = (r : Int) ∧ len ≤ 10 ∧ r ≤ 10 ∧ GRng len r f ∧ e = .returned (.tuple #[v, .int .i64 0]) ∧ PSl w' v (cons (nat f) len r))

set_option maxHeartbeats 2000000 in
theorem concepts_any (L R : Int) (a : Option Addr) (len cap : Nat) (f : Nat → Int) (w : World) (hl : len ≤ maxLen) (hr : Row w a len f) :
    Calls Tryz.prog 26 #[.agg #[.int .i64 L, .int .i64 R, .slice a len cap]] w fun e w' => ConIs L R len f e w' ∧ Below w.heap.size w w' := by
  have K0 : GHeld (w.alloc (.cells #[.int .i64 L, .int .i64 R, .slice a len cap] 29)) w.heap.size L R a len cap f := GHeld.box hr
  have HB0 : Hid (Below w.heap.size w (w.alloc (.cells #[.int .i64 L, .int .i64 R, .slice a len cap] 29))) := (Below.refl _ _).alloc (Nat.le_refl _) _
  clear hr
  go_enter Tryz.func26, Tryz.ntmps26
  go_wp2_with fail
  refine (ccheck_any L R a len cap f _ hl K0.row).mono ?_
  rintro e w1 ⟨⟨c, rfl, hc⟩, hb⟩
  have K1 := K0.step hb
  have HB1 : Hid (Below w.heap.size w w1) := Below.then HB0.out hb
  clear hb K0 HB0
  by_cases h0 : c = 0
  · subst h0
    have HC : Hid (GChk L R len f 0) := hc
    obtain ⟨r, rfl, rfl, h10, r10, hrng⟩ := hc.good
    have HRG : Hid (GRng len r f) := hrng
    have HG : Hid (∀ k, k < len → nat f k < 1024) := hrng.small2 r10
    have H1 : Hid (GHeld w1 w.heap.size len r a len cap (fun k => (nat f k : Nat))) := ⟨K1.c0, K1.c1, K1.c2, hrng.row K1.row⟩
    have k0 := K1.c0
    have k1 := K1.c1
    have k2 := K1.c2
    clear hc hrng K1
    obtain ⟨i0, hi, hz0, hz1, hz2⟩ := info_parts Tryz.info59
    go_wp2_with fail
    refine (closedThings_any len r a cap (nat f) _ h10 r10 HG.out H1.out.row).mono ?_
    rintro e w2 ⟨⟨v, rfl, hv⟩, hb2⟩
    obtain ⟨l, HLE⟩ : ∃ l, Hid (l = tsets (nat f) len r) := ⟨_, rfl⟩
    rw [← HLE.out] at hv
    obtain ⟨pa, pc, rfl, hpr⟩ := hv
    have H2 : Hid (GHeld w2 w.heap.size len r a len cap (fun k => (nat f k : Nat))) := H1.out.step hb2
    have HPR : Hid (∀ w', Below w2.heap.size w2 w' → Row w' pa l.length (fun k => ((nth l k : Nat) : Int))) := fun w' h => hpr.below h
    have HB2 : Hid (Below w.heap.size w w2) := Below.then HB1.out hb2
    have hll : l.length ≤ 1024 := by rw [HLE.out]; exact Nat.le_trans (fil_len _ _) (pw_le len h10)
    have HLT : Hid (∀ i, i < l.length → nth l i < 1024) := fun i hi => by
      have := pw_le len h10
      rw [HLE.out] at hi ⊢
      have := (tsets_at hi).1
      omega
    obtain ⟨M, HM⟩ : ∃ M : Nat → Nat, Hid (M = mks (nat f) len r) := ⟨_, rfl⟩
    obtain ⟨C, HCC⟩ : ∃ C : List (Nat × Nat), Hid (C = l.map fun s => (s, M s)) := ⟨_, rfl⟩
    have HCE : Hid (cons (nat f) len r = C) := by rw [Hid, HCC.out, HM.out, HLE.out]; rfl
    have HST : Hid (∀ i, i < l.length → C.take (i + 1) = C.take i ++ [(nth l i, M (nth l i))]) := fun i hi => by
      have hlen : i < C.length := by rw [HCC.out, List.length_map]; exact hi
      rw [take_next (0, 0) C i hlen]
      congr 2
      rw [HCC.out]
      unfold nth
      rw [List.getD_eq_getElem?_getD, List.getD_eq_getElem?_getD, List.getElem?_map, List.getElem?_eq_getElem hi]; rfl
    have HTL : Hid (∀ i, (C.take i).length ≤ 1024) := fun i => by rw [List.length_take, HCC.out, List.length_map]; omega
    have HTE : Hid (C.take l.length = C) := by rw [Hid]; refine List.take_of_length_le ?_; rw [HCC.out, List.length_map]; exact Nat.le_refl _
    clear hpr hb2 H1 HB1 k0 k1 k2 HCC
    obtain ⟨q, HQ⟩ : ∃ q, Hid (q = l.length) := ⟨_, rfl⟩
    rw [← HQ.out] at HPR HLT HST HTE hll ⊢
    go_wp2_with fail
    go_loopw [5, 16] (fun v i wx => ∃ x : Nat, x ≤ q ∧ i = .int .i64 x ∧ wx.ownsRow w2.heap.size 59 2 v (C.take x).length (pairVals (C.take x)) ∧ Hid (Below w2.heap.size w2 wx)) (fun _ i _ => q - (intOf i).toNat)
    case atStart => exact ⟨0, Nat.zero_le _, rfl, World.ownsRow_nil _ _ _ _, Below.refl _ _⟩
    case round =>
      obtain ⟨x, hx, rfl, hown, hB⟩ := hrel
      by_cases hlt : x < q
      · obtain ⟨b, off, rfl, hck⟩ := HPR.out _ hB.out x hlt
        have hlt' : (x : Int) < (q : Int) := by omega
        have hH := H2.out.step hB.out
        have c0 := hH.c0
        have c1 := hH.c1
        have c2 := hH.c2
        have HE : Hid (C.take (x + 1) = C.take x ++ [(nth l x, M (nth l x))]) := HST.out x hlt
        have HCALL : Hid (Calls Tryz.prog 53 #[.agg #[.int .i64 (len : Int), .int .i64 (r : Int), .slice a len cap], .int .i64 (nth l x : Nat)] wr fun e w' => e = .returned (.int .i64 (M (nth l x) : Nat)) ∧ Below wr.heap.size wr w') := by
          rw [HM.out]; exact marksOf_any a len r cap (nat f) (nth l x) wr h10 r10 HG.out hH.row (HLT.out x hlt)
        have hlen := HTL.out x
        clear hH
        obtain ⟨T, HT⟩ : ∃ T, Hid (T = C.take x) := ⟨_, rfl⟩
        rw [← HT.out] at hown hlen
        go_wp2_with fail
        refine HCALL.out.mono ?_
        rintro e w3 ⟨rfl, hb3⟩
        have HB3 : Hid (Below w2.heap.size w2 w3) := Below.then hB.out hb3
        have hown2 := owns_below hown hb3
        have hsz : w2.heap.size ≤ w3.heap.size := HB3.out.size
        clear hown hb3 hB c0 c1 c2 hck HCALL
        obtain ⟨y, HY⟩ : ∃ y, Hid (y = nth l x) := ⟨_, rfl⟩
        rw [← HY.out] at HE ⊢
        obtain ⟨z, HZ⟩ : ∃ z, Hid (z = M y) := ⟨_, rfl⟩
        rw [← HZ.out] at HE ⊢
        go_wp2_with (at_builtin; refine wpList_append_own _ rfl _ _ 54 rfl w2.heap.size 59 i0 (.agg #[.int .i64 0, .int .i64 0]) 2 16 Tryz.underlying54 hi hz0 hz1 hz2 rfl (by decide) _ _ _ rfl (hown2.alloc _) ⟨w3.heap.size, 0, none⟩ 1 1 [.int .i64 (y : Nat), .int .i64 (z : Nat)] rfl rfl ?c1 ?c2 ?c3 ?c4 ?c5 ?_)
        case c1 =>
          intro j u hj
          match j, hj with
          | 0, hj => simp at hj; subst hj; simp [Addr.add]
          | 1, hj => simp at hj; subst hj; simp [Addr.add]
        case c2 => intro u hu; simp at hu; rcases hu with rfl | rfl <;> rfl
        case c3 => unfold maxLen; omega
        case c4 => omega
        case c5 => simp; omega
        intro v' w4 hown' hgrow _
        have HB5 : Hid (Below w2.heap.size w2 w4) := below_append2 HB3.out hown2 hgrow
        have HO5 : Hid (w4.ownsRow w2.heap.size 59 2 v' (C.take (x + 1)).length (pairVals (C.take (x + 1)))) := by
          rw [HE.out, ← HT.out, pairVals_append, List.length_append]; exact hown'
        clear hown' hgrow hown2 HB3 hlen hsz HT
        go_wp2_with fail
        go_roundw
        case rel => exact ⟨x + 1, by omega, by go_num, HO5.out, HB5.out⟩
        case measure => simp [intOf]; omega
      · obtain rfl : x = q := by omega
        have HF : Hid (PSl wr u5 (cons (nat f) len r)) := by
          have := owns_pairs hown
          rw [HTE.out, ← HCE.out] at this; exact this
        clear hown
        go_wp2_with fail
        go_ret2
        exact ⟨.inr ⟨r, _, HC.out, rfl, rfl, h10, r10, HRG.out, rfl, HF.out⟩, Below.then HB2.out hB.out⟩
  · have hne : (c != 0) = true := by simpa using h0
    have HC : Hid (GChk L R len f c) := hc
    clear hc K1
    go_wp2_with fail
    go_ret2
    exact ⟨.inl ⟨c, h0, HC.out, rfl⟩, HB1.out⟩

theorem cons_len (h : Nat → Nat) {n : Nat} (m : Nat) (h10 : n ≤ 10) : (cons h n m).length ≤ 1024 := by
  unfold cons
  rw [List.length_map]
  exact Nat.le_trans (fil_len _ _) (pw_le n h10)
/-- The first k rounds of ConceptsOf. -/
def conR (h : Nat → Nat) (n m k : Nat) : List (Nat × Nat) := (fil (isT h n m) k).map fun s => (s, mks h n m s)
theorem conR_yes {h : Nat → Nat} {n m k : Nat} (e : isT h n m k = true) : conR h n m (k + 1) = conR h n m k ++ [(k, mks h n m k)] := by unfold conR; rw [fil_yes e, List.map_append]; rfl
theorem conR_no {h : Nat → Nat} {n m k : Nat} (e : isT h n m k = false) : conR h n m (k + 1) = conR h n m k := by unfold conR; rw [fil_no e]
theorem conR_len (h : Nat → Nat) (n m k : Nat) : (conR h n m k).length ≤ k := by unfold conR; rw [List.length_map]; exact fil_len _ _

end Go.Proofs.YthhnngmfbbljaaaGreat
