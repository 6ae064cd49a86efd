/-
  What the reference's Lectic and NextMarks answer; for every context and set that are handed in hasselaw.ConceptNexts returns true, and writes nothing that was there. No condition on the last.
-/
import Derived.Test.YtpmgengddnafeaaConB
import Derived.Test.YtpmgengddnafeaaNxtM
namespace Go.Proofs.Ytpmgengddnafeaa
open Go.RowKit

set_option maxHeartbeats 1000000 in
theorem lectic_any (a b : Nat) (w : World) (ha : a < 1024) (hb : b < 1024) :
    Calls Try.prog 46 #[.int .i64 a, .int .i64 b] w fun e w' => Ans e (Lec a b) ∧ w = w' := by
  go_enter Try.func46, Try.ntmps46
  go_wp2_with fail
  go_loop [5] (fun i => ∃ k : Nat, k ≤ 10 ∧ i = .int .i64 k ∧ Hid (∀ j, j < k → a.testBit j = b.testBit j)) (fun i => 10 - (intOf i).toNat)
  case atStart => exact ⟨0, Nat.zero_le _, rfl, upto_zero⟩
  case round =>
    obtain ⟨k, hk, rfl, hok⟩ := hrel
    by_cases hlt : k < 10
    · have hlt' : (k : Int) < 10 := by omega
      rcases (Bool.eq_false_or_eq_true (a.testBit k)).symm with h1 | h1
      · rcases (Bool.eq_false_or_eq_true (b.testBit k)).symm with h2 | h2
        · have HE : Hid (a.testBit k = b.testBit k) := by rw [Hid, h1, h2]
          go_wp2_with fail
          refine (in_any a k _ (by omega) (by omega)).mono ?_
          rintro e w' ⟨rfl, rfl⟩
          rw [h1]
          go_wp2_with fail
          refine (in_any b k _ (by omega) (by omega)).mono ?_
          rintro e w' ⟨rfl, rfl⟩
          rw [h2]
          go_wp2_with fail
          go_round
          case rel => exact ⟨k + 1, by omega, by go_num, upto_succ hok.out HE.out⟩
          case measure => simp [intOf]; omega
        · have HL : Hid (Lec a b) := ⟨k, hlt, hok.out, h1, h2⟩
          go_wp2_with fail
          refine (in_any a k _ (by omega) (by omega)).mono ?_
          rintro e w' ⟨rfl, rfl⟩
          rw [h1]
          go_wp2_with fail
          refine (in_any b k _ (by omega) (by omega)).mono ?_
          rintro e w' ⟨rfl, rfl⟩
          rw [h2]
          go_wp2_with fail
          refine (in_any b k _ (by omega) (by omega)).mono ?_
          rintro e w' ⟨rfl, rfl⟩
          rw [h2]
          go_wp2_with fail
          go_ret
          exact ⟨Ans.yes HL.out, rfl⟩
      · rcases (Bool.eq_false_or_eq_true (b.testBit k)).symm with h2 | h2
        · have HL : Hid (¬ Lec a b) := fun h => h.asymm ⟨k, hlt, fun j hj => (hok.out j hj).symm, h2, h1⟩
          go_wp2_with fail
          refine (in_any a k _ (by omega) (by omega)).mono ?_
          rintro e w' ⟨rfl, rfl⟩
          rw [h1]
          go_wp2_with fail
          refine (in_any b k _ (by omega) (by omega)).mono ?_
          rintro e w' ⟨rfl, rfl⟩
          rw [h2]
          go_wp2_with fail
          refine (in_any b k _ (by omega) (by omega)).mono ?_
          rintro e w' ⟨rfl, rfl⟩
          rw [h2]
          go_wp2_with fail
          go_ret
          exact ⟨Ans.no HL.out, rfl⟩
        · have HE : Hid (a.testBit k = b.testBit k) := by rw [Hid, h1, h2]
          go_wp2_with fail
          refine (in_any a k _ (by omega) (by omega)).mono ?_
          rintro e w' ⟨rfl, rfl⟩
          rw [h1]
          go_wp2_with fail
          refine (in_any b k _ (by omega) (by omega)).mono ?_
          rintro e w' ⟨rfl, rfl⟩
          rw [h2]
          go_wp2_with fail
          go_round
          case rel => exact ⟨k + 1, by omega, by go_num, upto_succ hok.out HE.out⟩
          case measure => simp [intOf]; omega
    · obtain rfl : k = 10 := by omega
      have HL : Hid (¬ Lec a b) := by
        rintro ⟨i, hi, _, h2, h3⟩
        have := hok.out i hi
        rw [h2, h3] at this; cases this
      go_wp2_with fail
      go_ret
      exact ⟨Ans.no HL.out, rfl⟩

/-- The best of the first k sets that come behind s. -/
def Bst (x : Nat → Nat) (s k : Nat) (v : Int) : Prop :=
  (v = -1 ∧ ∀ i, i < k → ¬ Lec s (x i)) ∨ ∃ i, i < k ∧ v = (x i : Nat) ∧ Lec s (x i) ∧ ∀ j, j < k → Lec s (x j) → ¬ Lec (x j) (x i)
theorem Bst.keep {x : Nat → Nat} {s k : Nat} {v : Int} (h : Bst x s k v) (hn : ¬ Lec s (x k)) : Bst x s (k + 1) v := by
  rcases h with ⟨rfl, h⟩ | ⟨i, hi, rfl, h1, h2⟩
  · exact .inl ⟨rfl, upto_succ h hn⟩
  · exact .inr ⟨i, by omega, rfl, h1, upto_succ h2 (fun h => absurd h hn)⟩
theorem Bst.first {x : Nat → Nat} {s k : Nat} (h : ∀ i, i < k → ¬ Lec s (x i)) (hn : Lec s (x k)) : Bst x s (k + 1) (x k : Nat) :=
  .inr ⟨k, by omega, rfl, hn, upto_succ (P := fun j => Lec s (x j) → ¬ Lec (x j) (x k)) (fun j hj h' => absurd h' (h j hj)) (fun _ h => h.irrefl)⟩
theorem Bst.better {x : Nat → Nat} {s k i : Nat} (h2 : ∀ j, j < k → Lec s (x j) → ¬ Lec (x j) (x i)) (hn : Lec s (x k)) (hb : Lec (x k) (x i)) : Bst x s (k + 1) (x k : Nat) :=
  .inr ⟨k, by omega, rfl, hn, upto_succ (P := fun j => Lec s (x j) → ¬ Lec (x j) (x k)) (fun j hj h' h'' => h2 j hj h' (h''.trans hb)) (fun _ h => h.irrefl)⟩
theorem Bst.worse {x : Nat → Nat} {s k i : Nat} (hi : i < k) (h1 : Lec s (x i)) (h2 : ∀ j, j < k → Lec s (x j) → ¬ Lec (x j) (x i)) (hb : ¬ Lec (x k) (x i)) : Bst x s (k + 1) (x i : Nat) :=
  .inr ⟨i, by omega, rfl, h1, upto_succ (P := fun j => Lec s (x j) → ¬ Lec (x j) (x i)) h2 (fun _ => hb)⟩

/-- The marks of the concepts, by their places. -/
def ints (h : Nat → Nat) (n m k : Nat) : Nat := ((cons h n m).getD k (0, 0)).2
theorem getD_mem {α : Type} {l : List α} {i : Nat} (d : α) (h : i < l.length) : l.getD i d ∈ l := by
  rw [List.getD_eq_getElem?_getD, List.getElem?_eq_getElem h]
  exact List.getElem_mem h
theorem ints_at {h : Nat → Nat} {n m k : Nat} (h10 : n ≤ 10) (m10 : m ≤ 10) (hh : ∀ k, k < n → h k < 1024) (hk : k < (cons h n m).length) : ints h n m k < pw m ∧ clm h n m (ints h n m k) = ints h n m k :=
  (intent_iff h10 m10 hh).1 ⟨((cons h n m).getD k (0, 0)).1, getD_mem _ hk⟩
theorem ints_all {h : Nat → Nat} {n m y : Nat} (h10 : n ≤ 10) (m10 : m ≤ 10) (hh : ∀ k, k < n → h k < 1024) (hy : y < pw m) (hc : clm h n m y = y) : ∃ k, k < (cons h n m).length ∧ ints h n m k = y := by
  obtain ⟨x, hx⟩ := (intent_iff h10 m10 hh).2 ⟨hy, hc⟩
  obtain ⟨k, hk, e⟩ := List.getElem_of_mem hx
  refine ⟨k, hk, ?_⟩
  unfold ints
  rw [List.getD_eq_getElem?_getD, List.getElem?_eq_getElem hk, e]; rfl
/-- The best of all is what nxt finds. -/
theorem bst_nxt {h : Nat → Nat} {n m s : Nat} {v : Int} (h10 : n ≤ 10) (m10 : m ≤ 10) (hh : ∀ k, k < n → h k < 1024) (hb : Bst (ints h n m) s (cons h n m).length v) :
    (nxt (clm h n m) s m = none ∧ v = -1) ∨ ∃ x : Nat, nxt (clm h n m) s m = some x ∧ v = (x : Nat) := by
  obtain ⟨hS, hN⟩ := nxt_is (s := s) (clm_closing h10 m10 hh) m10
  cases e : nxt (clm h n m) s m with
  | none =>
    refine .inl ⟨rfl, ?_⟩
    rcases hb with ⟨rfl, _⟩ | ⟨i, hi, _, h1, _⟩
    · rfl
    · obtain ⟨g1, g2⟩ := ints_at h10 m10 hh hi
      exact absurd h1 (hN e _ g1 g2)
  | some x =>
    obtain ⟨h1, h2, h3, h4⟩ := hS x e
    refine .inr ⟨x, rfl, ?_⟩
    obtain ⟨k, hk, rfl⟩ := ints_all h10 m10 hh h1 h2
    rcases hb with ⟨_, hb⟩ | ⟨i, hi, rfl, g1, g2⟩
    · exact absurd h3 (hb k hk)
    · obtain ⟨q1, q2⟩ := ints_at h10 m10 hh hi
      by_cases en : ints h n m i = ints h n m k
      · rw [en]
      · rcases Lec.total (set_1024 m10 q1) (set_1024 m10 h1) en with l | l
        · exact absurd l (h4 _ q1 q2 g1)
        · exact absurd l (g2 k hk h3)

set_option maxHeartbeats 2000000 in
theorem nextMarks_any (a : Option Addr) (n m cap : Nat) (h : Nat → Nat) (s : Nat) (w : World) (h10 : n ≤ 10) (m10 : m ≤ 10) (hh : ∀ k, k < n → h k < 1024) (hr : Row w a n (fun k => (h k : Nat))) (hs : s < 1024) :
    Calls Try.prog 25 #[.agg #[.int .i64 (n : Int), .int .i64 (m : Int), .slice a n cap], .int .i64 (s : Nat)] w fun e w' => (∃ v : Int, e = .returned (.int .i64 v) ∧ ((nxt (clm h n m) s m = none ∧ v = -1) ∨ ∃ x : Nat, nxt (clm h n m) s m = some x ∧ v = (x : Nat))) ∧ Below w.heap.size w w' := by
  have K0 : GHeld (w.alloc (.cells #[.int .i64 (n : Int), .int .i64 (m : Int), .slice a n cap] 24)) w.heap.size n m a n cap (fun k => (h k : Nat)) := GHeld.box hr
  have HB0 : Hid (Below w.heap.size w (w.alloc (.cells #[.int .i64 (n : Int), .int .i64 (m : Int), .slice a n cap] 24))) := (Below.refl _ _).alloc (Nat.le_refl _) _
  obtain ⟨x, HX⟩ : ∃ x, Hid (x = ints h n m) := ⟨_, rfl⟩
  have HFIN : Hid (∀ v, Bst x s (cons h n m).length v → (nxt (clm h n m) s m = none ∧ v = -1) ∨ ∃ x : Nat, nxt (clm h n m) s m = some x ∧ v = (x : Nat)) := fun v hb => by rw [HX.out] at hb; exact bst_nxt h10 m10 hh hb
  have HLT : Hid (∀ k, k < (cons h n m).length → x k < 1024) := fun k hk => by rw [HX.out]; exact set_1024 m10 (ints_at h10 m10 hh hk).1
  have HLN : Hid ((cons h n m).length ≤ 1024) := cons_len h m h10
  clear hr
  go_enter Try.func25, Try.ntmps25
  go_wp2_with fail
  refine (conceptsOf_any a n m cap h _ h10 m10 hh K0.row).mono ?_
  rintro e w1 ⟨⟨v, rfl, hv⟩, hb⟩
  have HB1 : Hid (Below w.heap.size w w1) := Below.then HB0.out hb
  obtain ⟨pa, pc, rfl, hpr⟩ := hv
  have HPR : Hid (∀ k, k < (cons h n m).length → ∃ b off, pa = some ⟨b, off, none⟩ ∧ w1.cell? ⟨b, off + k * 2 + 1, none⟩ = some (.int .i64 (x k : Nat))) := fun k hk => by
    obtain ⟨b, off, e, _, h2⟩ := hpr k hk
    exact ⟨b, off, e, by rw [HX.out]; exact h2⟩
  clear hb K0 HB0 hpr HX hh
  obtain ⟨q, HQ⟩ : ∃ q, Hid (q = (cons h n m).length) := ⟨_, rfl⟩
  rw [← HQ.out] at HFIN HLT HLN HPR ⊢
  have hq : q ≤ 1024 := HLN.out
  clear HQ HLN
  go_wp2_with fail
  go_loop [5, 7] (fun v i => ∃ k : Nat, k ≤ q ∧ i = .int .i64 k ∧ ∃ u : Int, v = .int .i64 u ∧ Hid (Bst x s k u)) (fun _ i => q - (intOf i).toNat)
  case atStart => exact ⟨0, Nat.zero_le _, rfl, -1, rfl, .inl ⟨rfl, upto_zero⟩⟩
  case round =>
    obtain ⟨k, hk, rfl, u, rfl, hB⟩ := hrel
    by_cases hlt : k < q
    · obtain ⟨b, off, rfl, hck⟩ := HPR.out k hlt
      have hlt' : (k : Int) < (q : Int) := by omega
      have hxk := HLT.out k hlt
      go_wp2_with fail
      refine (lectic_any s (x k) _ hs hxk).mono ?_
      rintro e w' ⟨⟨v1, rfl, hv1⟩, rfl⟩
      rcases v1 with _ | _
      · have HN : Hid (¬ Lec s (x k)) := fun h => by have := hv1.2 h; cases this
        clear hv1
        go_wp2_with fail
        go_round
        case rel => exact ⟨k + 1, by omega, by go_num, u, rfl, hB.out.keep HN.out⟩
        case measure => simp [intOf]; omega
      · have HN : Hid (Lec s (x k)) := hv1.1 rfl
        clear hv1
        rcases hB.out with ⟨rfl, hB1⟩ | ⟨i, hi, rfl, h1, h2⟩
        · have HR : Hid (Bst x s (k + 1) (x k : Nat)) := Bst.first hB1 HN.out
          clear hB1
          go_wp2_with fail
          go_round
          case rel => exact ⟨k + 1, by omega, by go_num, _, rfl, HR⟩
          case measure => simp [intOf]; omega
        · have hxi := HLT.out i (by omega)
          have H1 : Hid (Lec s (x i)) := h1
          have H2 : Hid (∀ j, j < k → Lec s (x j) → ¬ Lec (x j) (x i)) := h2
          have hneg : decide (((x i : Nat) : Int) < 0) = false := by simp
          clear h1 h2
          go_wp2_with fail
          refine (lectic_any (x k) (x i) _ hxk hxi).mono ?_
          rintro e w' ⟨⟨v2, rfl, hv2⟩, rfl⟩
          rcases v2 with _ | _
          · have HR : Hid (Bst x s (k + 1) (x i : Nat)) := Bst.worse hi H1.out H2.out (fun h => by have := hv2.2 h; cases this)
            clear hv2
            go_wp2_with fail
            go_round
            case rel => exact ⟨k + 1, by omega, by go_num, _, rfl, HR⟩
            case measure => simp [intOf]; omega
          · have HR : Hid (Bst x s (k + 1) (x k : Nat)) := Bst.better H2.out HN.out (hv2.1 rfl)
            clear hv2
            go_wp2_with fail
            go_round
            case rel => exact ⟨k + 1, by omega, by go_num, _, rfl, HR⟩
            case measure => simp [intOf]; omega
    · obtain rfl : k = q := by omega
      go_wp2_with fail
      go_ret
      exact ⟨⟨_, rfl, HFIN.out _ hB.out⟩, HB1.out⟩

set_option maxHeartbeats 2000000 in
theorem conceptNexts_any (L R : Int) (a : Option Addr) (len cap : Nat) (f : Nat → Int) (S : Int) (w : World) (hl : len ≤ maxLen) (hr : Row w a len f) :
    Calls Try.prog 7 #[.agg #[.int .i64 L, .int .i64 R, .slice a len cap], .int .i64 S] w fun e w' => e = .returned (.bool true) ∧ Below w.heap.size w w' := by
  have K0 : GHeld (w.alloc (.cells #[.int .i64 L, .int .i64 R, .slice a len cap] 24)) w.heap.size L R a len cap f := GHeld.box hr
  have HB0 : Hid (Below w.heap.size w (w.alloc (.cells #[.int .i64 L, .int .i64 R, .slice a len cap] 24))) := (Below.refl _ _).alloc (Nat.le_refl _) _
  clear hr
  go_enter Try.func7, Try.ntmps7
  go_wp2_with fail
  refine (next_any L R a len cap f S _ hl K0.row).mono ?_
  rintro e w1 ⟨he, hb⟩
  have K1 := K0.step hb
  have HB1 : Hid (Below w.heap.size w w1) := Below.then HB0.out hb
  have k0 := K1.c0
  have k1 := K1.c1
  have k2 := K1.c2
  clear hb K0 HB0
  have HIN : Hid (Calls Try.prog 14 #[.agg #[.int .i64 L, .int .i64 R, .slice a len cap], .int .i64 S, .bool true] w1 _) := inContext_any L R a len cap f S true w1 hl K1.row
  rcases he with ⟨c, h0, hc, rfl⟩ | ⟨r, s, rfl, rfl, h10, r10, hrng, rfl, hsp, hc, he⟩
  · have hne : (c == 0) = false := by simpa using h0
    have HC : Hid (SChk L R R len f S c) := hc
    clear hc K1
    go_wp2_with fail
    refine HIN.out.mono ?_
    rintro e w2 ⟨⟨d, rfl, hd⟩, hb2⟩
    obtain rfl := SChk.unique hd HC.out
    have HB2 : Hid (Below w.heap.size w w2) := Below.then HB1.out hb2
    clear hb2 hd k0 k1 k2 HIN HB1
    go_wp2_with fail
    refine (conceptBegun_any _).mono ?_
    rintro e w3 ⟨rfl, hb3⟩
    have HB3 : Hid (Below w.heap.size w w3) := Below.then HB2.out hb3
    clear hb3
    go_wp2_with fail
    refine (numberIs_any _ _ _ _ _ rfl (.inl ⟨h0, rfl⟩)).mono ?_
    rintro e w' ⟨rfl, rfl⟩
    go_wp2_with fail
    go_ret
    exact ⟨rfl, HB3.out⟩
  · have HC : Hid (SChk (len : Int) r r len f s 0) := hc
    have HG : Hid (∀ k, k < len → nat f k < 1024) := hrng.small2 r10
    have HRW : Hid (∀ w', Below w1.heap.size w1 w' → GHeld w' w.heap.size len r a len cap (fun k => (nat f k : Nat))) := fun w' h => ⟨(K1.step h).c0, (K1.step h).c1, (K1.step h).c2, hrng.row (K1.step h).row⟩
    have hs : s < 1024 := set_1024 r10 hsp
    clear hc K1 hrng
    rcases he with ⟨hn, rfl⟩ | ⟨x, hx, rfl⟩
    · go_wp2_with fail
      refine HIN.out.mono ?_
      rintro e w2 ⟨⟨d, rfl, hd⟩, hb2⟩
      obtain rfl := SChk.unique hd HC.out
      have HB2 : Hid (Below w.heap.size w w2) := Below.then HB1.out hb2
      have K2 := HRW.out _ hb2
      clear hb2 hd k0 k1 k2 HIN HB1
      have k0 := K2.c0
      have k1 := K2.c1
      have k2 := K2.c2
      go_wp2_with fail
      refine (nextMarks_any a len r cap (nat f) s _ h10 r10 HG.out K2.row hs).mono ?_
      rintro e w3 ⟨⟨v, rfl, hv⟩, hb3⟩
      have HB3 : Hid (Below w.heap.size w w3) := Below.then HB2.out hb3
      obtain rfl : v = -1 := by
        rcases hv with ⟨_, h⟩ | ⟨x, h, _⟩
        · exact h
        · rw [hn] at h; cases h
      clear hb3 k0 k1 k2 K2 hv
      go_wp2_with fail
      refine (conceptBegun_any _).mono ?_
      rintro e w4 ⟨rfl, hb4⟩
      have HB4 : Hid (Below w.heap.size w w4) := Below.then HB3.out hb4
      clear hb4
      go_wp2_with fail
      refine (numberIs_any _ _ _ _ _ rfl (.inl ⟨by decide, rfl⟩)).mono ?_
      rintro e w' ⟨rfl, rfl⟩
      go_wp2_with fail
      go_ret
      exact ⟨rfl, HB4.out⟩
    · go_wp2_with fail
      refine HIN.out.mono ?_
      rintro e w2 ⟨⟨d, rfl, hd⟩, hb2⟩
      obtain rfl := SChk.unique hd HC.out
      have HB2 : Hid (Below w.heap.size w w2) := Below.then HB1.out hb2
      have K2 := HRW.out _ hb2
      clear hb2 hd k0 k1 k2 HIN HB1
      have k0 := K2.c0
      have k1 := K2.c1
      have k2 := K2.c2
      go_wp2_with fail
      refine (nextMarks_any a len r cap (nat f) s _ h10 r10 HG.out K2.row hs).mono ?_
      rintro e w3 ⟨⟨v, rfl, hv⟩, hb3⟩
      have HB3 : Hid (Below w.heap.size w w3) := Below.then HB2.out hb3
      obtain rfl : v = (x : Nat) := by
        rcases hv with ⟨h, _⟩ | ⟨y, h, rfl⟩
        · rw [hx] at h; cases h
        · rw [hx] at h; cases h; rfl
      have hneg : decide (((x : Nat) : Int) < 0) = false := by simp
      clear hb3 k0 k1 k2 K2 hv
      go_wp2_with fail
      refine (conceptBegun_any _).mono ?_
      rintro e w4 ⟨rfl, hb4⟩
      have HB4 : Hid (Below w.heap.size w w4) := Below.then HB3.out hb4
      clear hb4
      go_wp2_with fail
      refine (numberIs_any _ _ _ _ _ rfl (.inr ⟨rfl, rfl⟩)).mono ?_
      rintro e w' ⟨rfl, rfl⟩
      go_wp2_with fail
      go_ret
      exact ⟨rfl, HB4.out⟩
end Go.Proofs.Ytpmgengddnafeaa
