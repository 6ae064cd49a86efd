/-
  What space.comesFrom and Smooth answer, whatever they are handed: the document's X3. Condition: the table of the least bits.
-/
import Derived.Test.YtggngpnenbjidabDoorMoP
namespace Go.Proofs.YtggngpnenbjidabDoor
set_option maxRecDepth 100000
open Go.RowKit

theorem fil_in {I : Nat → Bool} {x : Nat} : ∀ k, x ∈ fil I k ↔ x < k ∧ I x = true
  | 0 => by simp [fil]
  | k + 1 => by
    cases h : I k
    · rw [fil_no h, fil_in k]
      constructor
      · rintro ⟨h1, h2⟩; exact ⟨by omega, h2⟩
      · rintro ⟨h1, h2⟩
        refine ⟨?_, h2⟩
        rcases Nat.lt_or_ge x k with h3 | h3
        · exact h3
        · obtain rfl : x = k := by omega
          rw [h] at h2; cases h2
    · rw [fil_yes h, List.mem_append, List.mem_singleton, fil_in k]
      constructor
      · rintro (⟨h1, h2⟩ | rfl)
        · exact ⟨by omega, h2⟩
        · exact ⟨by omega, h⟩
      · rintro ⟨h1, h2⟩
        rcases Nat.lt_or_ge x k with h3 | h3
        · exact .inl ⟨h3, h2⟩
        · exact .inr (by omega)
/-- A set is open, if it has with a point all above it. -/
def Opn (g : Nat → Nat) (n s : Nat) : Prop := s < pw n ∧ ∀ p q, p < n → q < n → s.testBit p = true → (g q).testBit p = true → s.testBit q = true
theorem opn_mem {g : Nat → Nat} {n s : Nat} (hn : n ≤ 10) : s ∈ opn g n ↔ Opn g n s := by
  have hpl := pw_le n hn
  unfold opn
  have e : idls (trn g n) n = fil (fun s => idlTo (trn g n) s n) (pw n) := rfl
  rw [e, fil_in]
  refine and_congr_right fun hs => ?_
  rw [idlTo_iff]
  constructor
  · intro h p q hp hq h1 h2
    have ht := trn_lt g n p
    have hl := (lack_zero _ _ (by omega) (by omega)).1 (h p hp h1) q
    exact hl (by rw [trn_bit]; simp [hq, h2])
  · intro h p hp h1
    have ht := trn_lt g n p
    refine (lack_zero _ _ (by omega) (by omega)).2 fun q hq => ?_
    rw [trn_bit, Bool.and_eq_true] at hq
    exact h p q hp (of_decide_eq_true hq.1) h1 hq.2
theorem opn_inside {g : Nat → Nat} {n s : Nat} (hn : n ≤ 10) (hg : ∀ k, k < n → g k < pw n) (hs : s < pw n) : rst n (clo g (rst n s)) = s ↔ Opn g n s := by
  have hr : rst n s < pw n := rst_lt
  have hc := clo_lt hg hr
  constructor
  · intro e
    refine ⟨hs, fun p q hp hq h1 h2 => ?_⟩
    cases hb : s.testBit q
    · have h3 : (clo g (rst n s)).testBit p = true := (clo_bit hn hr p).2 ⟨q, hq, by rw [rst_bit hn hs]; simp [hq, hb], by simp [upt, h2]⟩
      have h4 : (rst n (clo g (rst n s))).testBit p = true := by rw [e]; exact h1
      rw [rst_bit hn hc, h3] at h4
      simp at h4
    · rfl
  · rintro ⟨_, h⟩
    refine Sub.anti rst_lt hs (fun i hi => ?_) (fun i hi => ?_)
    · rw [rst_bit hn hc, Bool.and_eq_true] at hi
      cases hb : s.testBit i
      · have h3 := clo_sub (g := g) hn hr i (by rw [rst_bit hn hs, hi.1, hb]; rfl)
        rw [h3] at hi
        exact absurd hi.2 (by simp)
      · rfl
    · have hin := bit_of_lt hs hi
      rw [rst_bit hn hc, Bool.and_eq_true]
      refine ⟨decide_eq_true hin, ?_⟩
      cases hb : (clo g (rst n s)).testBit i
      · rfl
      · obtain ⟨p, h1, h2, h3⟩ := (clo_bit hn hr i).1 hb
        rw [rst_bit hn hs, Bool.and_eq_true] at h2
        unfold upt at h3
        rw [Bool.or_eq_true] at h3
        rcases h3 with h3 | h3
        · have e := of_decide_eq_true h3
          subst e
          rw [hi] at h2
          exact absurd h2.2 (by simp)
        · rw [h i p hin h1 hi h3] at h2
          exact absurd h2.2 (by simp)
/-- All points that a map takes into a set. -/
def frm (f : Nat → Nat) (n s : Nat) : Nat := setBy (fun k => s.testBit (f k)) n
set_option maxHeartbeats 1000000 in
theorem comesFrom_any (a : Option Addr) (n cap : Nat) (f : Nat → Nat) (s : Nat) (w : World) (h10 : n ≤ 10) (hf : ∀ k, k < n → f k < 63) (hr : Row w a n (fun k => (f k : Nat))) (hs : s < 1024) :
    Calls Tryd.prog 28 #[.slice a n cap, .int .i64 (s : Nat)] w fun e w' => e = .returned (.int .i64 (frm f n s : Nat)) ∧ w = w' := by
  have HR : Hid (Row w a n (fun k => ((f k : Nat) : Int))) := hr
  have HF : Hid (∀ k, k < n → f k < 63) := hf
  clear hr hf
  obtain ⟨P, HP⟩ : ∃ P : Nat → Bool, Hid ((fun k => s.testBit (f k)) = P) := ⟨_, rfl⟩
  have HPI : Hid (∀ k, P k = s.testBit (f k)) := fun k => by rw [← HP.out]
  have HE : Hid (frm f n s = setBy P n) := by rw [← HP.out]; rfl
  rw [HE.out]
  go_enter Tryd.func28, Tryd.ntmps28
  go_wp2_with fail
  go_loop [5, 10] (fun o i => ∃ k : Nat, k ≤ n ∧ o = .int .i64 (setBy P k : Nat) ∧ i = .int .i64 k) (fun _ i => n - (intOf i).toNat)
  case atStart => exact ⟨0, Nat.zero_le _, rfl, rfl⟩
  case round =>
    obtain ⟨k, hk, rfl, rfl⟩ := hrel
    by_cases hlt : k < n
    · obtain ⟨b, off, rfl, c0⟩ := HR.out k hlt
      have hlt' : (k : Int) < (n : Int) := by omega
      have hsk := setBy_lt P k
      have hpk : pw k ≤ 1024 := pw_le k (by omega)
      have hpow := wrap_pow k (by omega)
      have hor := i64_or (setBy P k) (pw k) (by omega) (by omega)
      have HFK := HF.out k hlt
      cases hb : s.testBit (f k)
      · have HS : Hid (setBy P (k + 1) = setBy P k) := setBy_no (by rw [HPI.out, hb])
        go_wp2_with (go_at_call 42; refine (has_any s (f k) _ (by omega) HFK).mono ?_; rintro e w' ⟨rfl, rfl⟩; rw [hb])
        go_round
        case rel => exact ⟨k + 1, by omega, by rw [HS.out], by go_num⟩
        case measure => simp [intOf]; omega
      · have HS : Hid (setBy P (k + 1) = setBy P k ||| pw k) := by
          show _ = _
          rw [setBy_yes (by rw [HPI.out, hb]), or_pw_add hsk]
        go_wp2_with (go_at_call 42; refine (has_any s (f k) _ (by omega) HFK).mono ?_; rintro e w' ⟨rfl, rfl⟩; rw [hb])
        go_round
        case rel => exact ⟨k + 1, by omega, by rw [HS.out, ← hor], by go_num⟩
        case measure => simp [intOf]; omega
    · obtain rfl : k = n := by omega
      go_wp2_with fail
      go_ret
      exact ⟨rfl, rfl⟩
/-- Is a map smooth? -/
def SmL (A B : OA) (f : MA) : Prop := ∀ s, s ∈ opn B.g B.q → frm f.f A.q s ∈ opn A.g A.q
def SmPost (A B : OA) (f : MA) (e : Ending) : Prop := ∃ c v, MoCk A B f c ∧ e = .returned (.tuple #[.bool v, .int .i64 c]) ∧ ((c ≠ 0 ∧ v = false) ∨ (c = 0 ∧ (v = true ↔ SmL A B f)))
theorem MoCk.good {A B : OA} {f : MA} (h : MoCk A B f 0) : A.Ck 0 ∧ B.Ck 0 ∧ MCk A.n B.n f.la f.F 0 := by
  rcases h with ⟨h, _⟩ | ⟨h, h1⟩
  · exact absurd rfl h
  · rcases h with ⟨h0, _⟩ | ⟨h2, h3⟩
    · exact absurd rfl h0
    · exact ⟨h2, h3, h1⟩

set_option maxHeartbeats 8000000 in
theorem smooth_any (n1 : Int) (a1 : Option Addr) (l1 c1 : Nat) (F1 : Nat → Int) (n2 : Int) (a2 : Option Addr) (l2 c2 : Nat) (F2 : Nat → Int) (a3 : Option Addr) (l3 c3 : Nat) (F3 : Nat → Int) (w : World)
    (m1 : l1 ≤ maxLen) (m2 : l2 ≤ maxLen) (m3 : l3 ≤ maxLen) (r1 : Row w a1 l1 F1) (r2 : Row w a2 l2 F2) (r3 : Row w a3 l3 F3) (hT : Tab w) :
    Calls Tryd.prog 10 #[.agg #[.int .i64 n1, .slice a1 l1 c1], .agg #[.int .i64 n2, .slice a2 l2 c2], .slice a3 l3 c3] w fun e w' => SmPost ⟨n1, a1, l1, c1, F1⟩ ⟨n2, a2, l2, c2, F2⟩ ⟨a3, l3, c3, F3⟩ e ∧ Below w.heap.size w w' := by
  have hb1 : Below w.heap.size w (w.alloc (.cells #[.int .i64 n1, .slice a1 l1 c1] 24)) := bel_one w _
  have hb2 := bel_one (w.alloc (.cells #[.int .i64 n1, .slice a1 l1 c1] 24)) (.cells #[.int .i64 n2, .slice a2 l2 c2] 24)
  have HB : Hid (Below w.heap.size w ((w.alloc (.cells #[.int .i64 n1, .slice a1 l1 c1] 24)).alloc (.cells #[.int .i64 n2, .slice a2 l2 c2] 24))) := Below.then hb1 hb2
  have K1 : Hid (Held ((w.alloc (.cells #[.int .i64 n1, .slice a1 l1 c1] 24)).alloc (.cells #[.int .i64 n2, .slice a2 l2 c2] 24)) w.heap.size n1 a1 l1 c1 F1) := (Held.box r1).step hb2
  have K2 : Hid (Held ((w.alloc (.cells #[.int .i64 n1, .slice a1 l1 c1] 24)).alloc (.cells #[.int .i64 n2, .slice a2 l2 c2] 24)) (w.heap.size + 1) n2 a2 l2 c2 F2) := by
    have := Held.box (n := n2) (cap := c2) (r2.below hb1)
    rw [World.size_alloc] at this
    exact this
  have R3 : Hid (Row ((w.alloc (.cells #[.int .i64 n1, .slice a1 l1 c1] 24)).alloc (.cells #[.int .i64 n2, .slice a2 l2 c2] 24)) a3 l3 F3) := r3.below HB.out
  have HT : Hid (Tab ((w.alloc (.cells #[.int .i64 n1, .slice a1 l1 c1] 24)).alloc (.cells #[.int .i64 n2, .slice a2 l2 c2] 24))) := hT.step HB.out
  clear r1 r2 r3 hT hb1 hb2
  go_enter Tryd.func10, Tryd.ntmps10
  generalize hC : Code.region 1 _ false = C
  go_wp2_with fail
  generalize (w.alloc (.cells #[.int .i64 n1, .slice a1 l1 c1] 24)).alloc (.cells #[.int .i64 n2, .slice a2 l2 c2] 24) = W at *
  rw [← hC]
  clear hC C
  have k0 := K1.out.c0
  have k1 := K1.out.c1
  have k2 := K2.out.c0
  have k3 := K2.out.c1
  go_wp2_with fail
  refine (monotone_any ⟨n1, a1, l1, c1, F1⟩ ⟨n2, a2, l2, c2, F2⟩ ⟨a3, l3, c3, F3⟩ W ⟨m1, K1.out.row⟩ ⟨m2, K2.out.row⟩ ⟨m3, R3.out⟩).mono ?_
  rintro e w1 ⟨⟨c, v, hc, rfl, _⟩, hb1⟩
  have HC : Hid (MoCk ⟨n1, a1, l1, c1, F1⟩ ⟨n2, a2, l2, c2, F2⟩ ⟨a3, l3, c3, F3⟩ c) := hc
  have HB1 : Hid (Below w.heap.size w w1) := Below.then HB.out hb1
  have J1 : Hid (Held w1 w.heap.size n1 a1 l1 c1 F1) := K1.out.step hb1
  have J2 : Hid (Held w1 (w.heap.size + 1) n2 a2 l2 c2 F2) := K2.out.step hb1
  have S3 : Hid (Row w1 a3 l3 F3) := R3.out.below hb1
  have HT1 : Hid (Tab w1) := HT.out.step hb1
  clear hb1 K1 K2 R3 HT HB k0 k1 k2 k3
  by_cases h0 : c = 0
  · subst h0
    obtain ⟨hA, hB, hM⟩ := hc.good
    obtain ⟨e1, h10, hrg1, hord1⟩ := Chk.good hA
    obtain ⟨e2, h20, hrg2, hord2⟩ := Chk.good hB
    have e1' : n1 = (l1 : Int) := e1
    have e2' : n2 = (l2 : Int) := e2
    subst e1'
    subst e2'
    obtain ⟨e3, hf3, hrow3⟩ := MA.open (f := ⟨a3, l3, c3, F3⟩) (n := l1) (n' := l2) hM
    have e3' : l3 = l1 := e3
    subst e3'
    have HF3 : Hid (∀ k, k < l3 → nat F3 k < l2) := hf3
    have HRW : Hid (∀ w', Row w' a3 l3 F3 → Row w' a3 l3 (fun k => ((nat F3 k : Nat) : Int))) := fun w' h => hrow3 w' ⟨m3, h⟩
    have HG1 : Hid (∀ k, k < l3 → nat F1 k < pw l3) := hrg1.small
    have HR1 : Hid (∀ w', Row w' a1 l3 F1 → Row w' a1 l3 (fun k => ((nat F1 k : Nat) : Int))) := fun w' h => hrg1.row h
    have HCB : Hid (Chk (l2 : Int) l2 F2 0) := hB
    have hpl := pw_le l3 h10
    have hpl2 := pw_le l2 h20
    have k2 := J2.out.c0
    have k3 := J2.out.c1
    have HSL : Hid (SmL ⟨(l3 : Int), a1, l3, c1, F1⟩ ⟨(l2 : Int), a2, l2, c2, F2⟩ ⟨a3, l3, c3, F3⟩ ↔ ∀ s, s ∈ opn (nat F2) l2 → frm (nat F3) l3 s ∈ opn (nat F1) l3) := by
      have q1 : OA.q ⟨(l3 : Int), a1, l3, c1, F1⟩ = l3 := Int.toNat_natCast l3
      have q2 : OA.q ⟨(l2 : Int), a2, l2, c2, F2⟩ = l2 := Int.toNat_natCast l2
      unfold SmL
      rw [q1, q2]
      exact Iff.rfl
    clear hc hA hB hM e1 e2 e3 hf3 hrow3 hrg1 hrg2 hord1 hord2
    go_wp2_with fail
    refine (opens_any l2 a2 l2 c2 F2 _ m2 J2.out.row).mono ?_
    rintro e w2 ⟨⟨c, v, rfl, hc, hv⟩, hb2⟩
    obtain rfl : c = 0 := hc.unique HCB.out
    obtain ⟨b, mc, rfl, hrow⟩ : NSl w2 v (opn (nat F2) l2) := by
      rcases hv with ⟨h, _⟩ | ⟨_, h, _⟩
      · exact absurd rfl h
      · exact h
    have HB2 : Hid (Below w.heap.size w w2) := Below.then HB1.out hb2
    have J1b : Hid (Held w2 w.heap.size l3 a1 l3 c1 F1) := J1.out.step hb2
    have S3b : Hid (Row w2 a3 l3 F3) := S3.out.below hb2
    have HTb : Hid (Tab w2) := HT1.out.step hb2
    have HLs : Hid (Row w2 b (opn (nat F2) l2).length (fun k => (nth (opn (nat F2) l2) k : Nat))) := hrow
    have HLL : Hid ((opn (nat F2) l2).length ≤ 1024) := idls_len _ _ h20
    have HLM : Hid (∀ s, s ∈ opn (nat F2) l2 → s < pw l2) := fun s hs => ((opn_mem h20).1 hs).1
    clear hc hv hb2 hrow HB1 J1 J2 S3 HT1 k2 k3
    generalize opn (nat F2) l2 = L at *
    have hll := HLL.out
    go_wp2_with fail
    go_loopw [32] (fun i wx => ∃ k : Nat, k ≤ L.length ∧ i = .int .i64 k ∧ Hid (∀ j, j < k → frm (nat F3) l3 (nth L j) ∈ opn (nat F1) l3) ∧ Hid (Held wx w.heap.size l3 a1 l3 c1 F1) ∧ Hid (Row wx a3 l3 F3) ∧ Hid (Tab wx) ∧ Hid (Row wx b L.length (fun k => (nth L k : Nat))) ∧ Hid (Below w.heap.size w wx)) (fun i _ => L.length - (intOf i).toNat)
    case atStart => exact ⟨0, Nat.zero_le _, rfl, upto_zero, J1b, S3b, HTb, HLs, HB2⟩
    case round =>
      clear J1b S3b HTb HLs HB2
      obtain ⟨k, hk, rfl, HU, J1, S3, HT, HL, HB⟩ := hrel
      by_cases hkl : k < L.length
      · have hkl' : (k : Int) < (L.length : Int) := by omega
        obtain ⟨b2, o2, rfl, c2'0⟩ := HL.out k hkl
        have c2' : wr.cell? ⟨b2, o2 + k, none⟩ = some (.int .i64 ((nth L k : Nat) : Int)) := c2'0
        clear c2'0
        have hs := HLM.out _ (nth_mem hkl)
        obtain ⟨s, hse⟩ : ∃ s, nth L k = s := ⟨_, rfl⟩
        rw [hse] at c2' hs
        have hfl : frm (nat F3) l3 s < pw l3 := setBy_lt _ _
        have hop : rst l3 (clo (nat F1) (rst l3 (frm (nat F3) l3 s))) = frm (nat F3) l3 s ↔ frm (nat F3) l3 s ∈ opn (nat F1) l3 := (opn_inside h10 HG1.out hfl).trans (opn_mem h10).symm
        obtain ⟨z, hz⟩ : ∃ z, rst l3 (clo (nat F1) (rst l3 (frm (nat F3) l3 s))) = z := ⟨_, rfl⟩
        have k0 := J1.out.c0
        have k1 := J1.out.c1
        have HFF : Hid (∀ k, k < l3 → nat F3 k < 63) := fun k hk => by have := HF3.out k hk; omega
        rw [hz] at hop
        by_cases he : z = frm (nat F3) l3 s
        · have HU2 : Hid (∀ j, j < k + 1 → frm (nat F3) l3 (nth L j) ∈ opn (nat F1) l3) := upto_succ HU.out (by rw [hse]; exact hop.1 he)
          have hne : ((((z : Nat) : Int)) != ((frm (nat F3) l3 s : Nat) : Int)) = false := by simp; omega
          clear HU hop
          go_wp2_with (go_at_call 28; refine (comesFrom_any a3 l3 c3 (nat F3) s _ h10 HFF.out (HRW.out _ S3.out) (by omega)).mono ?_; rintro e w' ⟨rfl, rfl⟩)
          refine (inside_good a1 l3 c1 (nat F1) (frm (nat F3) l3 s) _ h10 HG1.out (HR1.out _ J1.out.row) hfl HT.out).mono ?_
          rintro e w4 ⟨rfl, hb4⟩
          rw [hz]
          have HB4 : Hid (Below w.heap.size w w4) := Below.then HB.out hb4
          have J4 : Hid (Held w4 w.heap.size l3 a1 l3 c1 F1) := J1.out.step hb4
          have S4 : Hid (Row w4 a3 l3 F3) := S3.out.below hb4
          have HT4 : Hid (Tab w4) := HT.out.step hb4
          have HL4 := (show Hid (Row w4 _ L.length (fun k => (nth L k : Nat))) from HL.out.below hb4)
          clear hb4 HB J1 S3 HT HL k0 k1 c2' hz he
          go_wp2_with fail
          go_roundw
          case rel => exact ⟨k + 1, by omega, by go_num, HU2, J4, S4, HT4, HL4, HB4⟩
          case measure => simp [intOf]; omega
        · have HNS : Hid (¬ SmL ⟨(l3 : Int), a1, l3, c1, F1⟩ ⟨(l2 : Int), a2, l2, c2, F2⟩ ⟨a3, l3, c3, F3⟩) := fun h => he (hop.2 (by rw [← hse]; exact HSL.out.1 h _ (nth_mem hkl)))
          have hne : ((((z : Nat) : Int)) != ((frm (nat F3) l3 s : Nat) : Int)) = true := by simp; omega
          clear HU hop
          go_wp2_with (go_at_call 28; refine (comesFrom_any a3 l3 c3 (nat F3) s _ h10 HFF.out (HRW.out _ S3.out) (by omega)).mono ?_; rintro e w' ⟨rfl, rfl⟩)
          refine (inside_good a1 l3 c1 (nat F1) (frm (nat F3) l3 s) _ h10 HG1.out (HR1.out _ J1.out.row) hfl HT.out).mono ?_
          rintro e w4 ⟨rfl, hb4⟩
          rw [hz]
          have HB4 : Hid (Below w.heap.size w w4) := Below.then HB.out hb4
          have HFI : Hid (SmPost ⟨(l3 : Int), a1, l3, c1, F1⟩ ⟨(l2 : Int), a2, l2, c2, F2⟩ ⟨a3, l3, c3, F3⟩ (.returned (.tuple #[.bool false, .int .i64 0]))) := ⟨0, false, HC.out, rfl, .inr ⟨rfl, ⟨fun h => (by cases h), fun h => absurd h HNS.out⟩⟩⟩
          clear hb4 HB J1 S3 HT HL k0 k1 c2' hz he HNS
          go_wp2_with fail
          go_ret2
          exact ⟨HFI.out, HB4.out⟩
      · obtain rfl : k = L.length := by omega
        have HYS : Hid (SmL ⟨(l3 : Int), a1, l3, c1, F1⟩ ⟨(l2 : Int), a2, l2, c2, F2⟩ ⟨a3, l3, c3, F3⟩) := HSL.out.2 fun s hs => by
          obtain ⟨j, hj, rfl⟩ := mem_nth hs
          exact HU.out j hj
        have HFI : Hid (SmPost ⟨(l3 : Int), a1, l3, c1, F1⟩ ⟨(l2 : Int), a2, l2, c2, F2⟩ ⟨a3, l3, c3, F3⟩ (.returned (.tuple #[.bool true, .int .i64 0]))) := ⟨0, true, HC.out, rfl, .inr ⟨rfl, ⟨fun _ => HYS.out, fun _ => rfl⟩⟩⟩
        clear HU HYS
        go_wp2_with fail
        go_ret2
        exact ⟨HFI.out, HB.out⟩
  · have hne : (c != 0) = true := by simpa using h0
    have H0 : Hid (c ≠ 0) := h0
    clear hc h0
    go_wp2_with fail
    go_ret2
    exact ⟨⟨_, _, HC.out, rfl, .inl ⟨H0.out, rfl⟩⟩, HB1.out⟩
end Go.Proofs.YtggngpnenbjidabDoor
