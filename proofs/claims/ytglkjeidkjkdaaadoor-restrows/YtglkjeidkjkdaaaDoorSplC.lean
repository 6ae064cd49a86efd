/-
  What series.split answers of a set of an order's points: its term, or none, just if it has a zig. Conditions: an order of ten points at most; the table of the least bits.
-/
import Derived.Test.YtglkjeidkjkdaaaDoorSplB
namespace Go.Proofs.YtglkjeidkjkdaaaDoor
set_option maxRecDepth 100000
open Go.RowKit

def okp (c : Nat) : Bool := !(pc c == 1) || (c == 2 ^ lo c && decide (lo c < 10))
theorem okp_all : ((List.range 1024).all okp) = true := by decide +kernel
theorem pc_one {S : Nat} (hS : S < 1024) (h : pc S = 1) : S = pw (lo S) ∧ lo S < 10 := by
  have := List.all_eq_true.1 okp_all S (List.mem_range.2 hS)
  simpa [okp, h, pw] using this
theorem trm_point {g : Nat → Nat} {n S : Nat} (hS : S < 1024) (h : pc S = 1) : Trm g n S (.mk 1 (lo S : Nat) 0 (fun _ => .leaf)) := by
  obtain ⟨h1, h2⟩ := pc_one hS h
  refine ⟨.inl ⟨rfl, rfl, by omega, by omega⟩, ?_, fun i hi => absurd hi (Nat.not_lt_zero _), fun k => by simp [kd] at k, fun k => by simp [kd] at k⟩
  rw [st_eq, if_pos rfl]
  simpa using h1.symm
theorem NZ.sub {g : Nat → Nat} {S P : Nat} (h : NZ g S) (hs : ∀ x, P.testBit x = true → S.testBit x = true) : NZ g P := fun a b c d ha hb hc hd => h a b c d (hs a ha) (hs b hb) (hs c hc) (hs d hd)
theorem PcF.many {h : Nat → Nat} {L : List Nat} {S : Nat} (f : PcF h L S) (hS : S < 1024) (h2 : 2 ≤ L.length) : ¬ Cnn h S := fun hc => by
  have h0 : 0 < L.length := by omega
  have l0 := lo_bit (f.lt 0 h0).1 (f.lt 0 h0).2
  have S0 : S ≠ 0 := fun e => by
    have := (f.un _).2 ⟨0, h0, l0⟩
    rw [e] at this; simp at this
  have hl := lo_bit hS S0
  obtain ⟨i, hi, hx⟩ := (f.un _).1 hl
  have e : i = 0 := by
    rcases Nat.eq_zero_or_pos i with e | e
    · exact e
    · have a1 := f.ri 0 i e hi
      have a2 := lo_min (f.lt i hi).1 hx
      have a3 := lo_min hS ((f.un _).2 ⟨0, h0, l0⟩)
      omega
  subst e
  have l1 := lo_bit (f.lt 1 (by omega)).1 (f.lt 1 (by omega)).2
  have hall := hc _ ((f.un _).2 ⟨1, by omega, l1⟩) (fun y => (nth L 0).testBit y = true) hx fun y z k h1 h2 => by
    obtain ⟨j, hj, hz⟩ := (f.un z).1 h2
    rcases Nat.eq_zero_or_pos j with e | e
    · subst e; exact hz
    · have := (f.ap 0 j e hj y z k hz).2
      rw [h1] at this; cases this
  exact (f.ap 0 1 (by omega) (by omega) _ _ hall l1).1 rfl
theorem st_of {k x : Int} {m : Nat} {kid : Nat → TT} {h : Nat → Nat} {S : Nat} (hk : k ≠ 1) (hst : ∀ i, i < m → st (kid i) = h i) (hun : ∀ x, S.testBit x = true ↔ ∃ i, i < m ∧ (h i).testBit x = true) : st (.mk k x m kid) = S := by
  rw [st_eq, if_neg hk]
  apply Nat.eq_of_testBit_eq
  intro a
  rw [Bool.eq_iff_iff, stK_bit, hun a]
  constructor
  · rintro ⟨i, hi, ha⟩; exact ⟨i, hi, by rw [← hst i hi]; exact ha⟩
  · rintro ⟨i, hi, ha⟩; exact ⟨i, hi, by rw [hst i hi]; exact ha⟩
theorem trm_beside {g : Nat → Nat} {n : Nat} (hn : n ≤ 10) {L : List Nat} {S : Nat} (hS : S < pw n) (f : PcF (lkF g n 1) L S) (h2 : 2 ≤ L.length) {kid : Nat → TT} (hk : ∀ i, i < L.length → Trm g n (nth L i) (kid i)) : Trm g n S (.mk 2 0 L.length kid) := by
  have hpl := pw_le n hn
  refine ⟨.inr ⟨.inl rfl, h2, rfl, fun i hi => (hk i hi).ok, fun i j hij hj a b ha hb => ?_⟩, st_of (by omega) (fun i hi => (hk i hi).st) f.un, fun i hi => ⟨(hk i hi).can, fun e => (hk i hi).k2 e (f.co i hi), fun _ j hj => ?_⟩, fun _ => f.many (by omega) h2, fun e => by simp [kd] at e⟩
  · rw [(hk i (by omega)).st] at ha
    rw [(hk j hj).st] at hb
    have := split0 hn hS f hij hj ha hb
    exact ⟨this.1, fun _ => this.2.1, fun e => by simp at e, this.2.2⟩
  · rw [(hk i hi).st, (hk j (by omega)).st]
    exact f.ri j i hj hi
theorem trm_over {g : Nat → Nat} {n : Nat} (hn : n ≤ 10) (hg : Sm n n g) (ho : Ord n g) {L : List Nat} {S : Nat} (hS : S < pw n) (f : PcF (lkF g n 2) L S) (h2 : 2 ≤ L.length) {h : Nat → Nat} (hi : InjT h L.length) (hm : ∀ v, Mem h L.length v ↔ Mem (nth L) L.length v) (hr : Ris (fun P => lkF g n 0 (lo P)) h L.length)
    {kid : Nat → TT} (hk : ∀ i, i < L.length → Trm g n (h i) (kid i)) : Trm g n S (.mk 3 0 L.length kid) := by
  have hpl := pw_le n hn
  refine ⟨.inr ⟨.inr rfl, h2, rfl, fun i hi => (hk i hi).ok, fun i j hij hj a b ha hb => ?_⟩, st_of (by omega) (fun i hi => (hk i hi).st) (fun x => (f.un x).trans ?_), fun i hi => ⟨(hk i hi).can, fun e => ?_, fun e => by simp at e⟩, fun e => by simp [kd] at e, fun _ => f.many (by omega) h2⟩
  · rw [(hk i (by omega)).st] at ha
    rw [(hk j hj).st] at hb
    have := over_ris hn hg ho hS f hi hm hr hij hj ha hb
    exact ⟨this.1, fun e => by simp at e, fun _ => this.2.1, this.2.2⟩
  · constructor
    · rintro ⟨i, hi', hx⟩
      obtain ⟨j, hj, e⟩ := (hm (nth L i)).2 ⟨i, hi', rfl⟩
      exact ⟨j, hj, by rw [e]; exact hx⟩
    · rintro ⟨i, hi', hx⟩
      obtain ⟨j, hj, e⟩ := (hm (h i)).1 ⟨i, hi', rfl⟩
      exact ⟨j, hj, by rw [e]; exact hx⟩
  · obtain ⟨j, hj, e'⟩ := (hm (h i)).1 ⟨i, hi, rfl⟩
    have := (hk i hi).k3 e
    rw [← e'] at this
    exact this (f.co j hj)
theorem own_of_owns {w : World} {base : Nat} {v : Value} {l : List Nat} (h : w.ownsRow base 3 1 v l.length (natVals l)) : ∃ a b cap, v = .slice a l.length cap ∧ (0 < l.length → a = some ⟨b, 0, none⟩) ∧ Own w b l.length (nth l) ∧ base ≤ b := by
  rcases h.2 with ⟨rfl, h0⟩ | ⟨g, cap, cur, rfl, hb, _⟩
  · exact ⟨none, base, 0, by rw [h0], fun hn => absurd hn (by omega), fun k hk => absurd hk (by omega), Nat.le_refl _⟩
  · refine ⟨_, g, cap, rfl, fun _ => rfl, fun k hk => ⟨?_, h.frozenAt k⟩, hb⟩
    rw [h.cellAt k (by omega)]
    exact natVals_at l k hk
theorem PcF.inj {h : Nat → Nat} {L : List Nat} {S : Nat} (f : PcF h L S) : InjT (nth L) L.length := fun p q hp hq e => by
  rcases Nat.lt_trichotomy p q with k | k | k
  · have := f.ri p q k hq; rw [e] at this; omega
  · exact k
  · have := f.ri q p k hp; rw [e] at this; omega
theorem idx0 (w : World) : Sem.run Tryd.prog (Instr.index 82 (.agg #[.int .i64 2, .int .i64 3]) (.int .i64 0)) w = .ok (.int .i64 2) w := by simp [go_sem, Instr.index]
theorem idx1 (w : World) : Sem.run Tryd.prog (Instr.index 82 (.agg #[.int .i64 2, .int .i64 3]) (.int .i64 1)) w = .ok (.int .i64 3) w := by simp [go_sem, Instr.index]
theorem Lks.step {w w' : World} {v : Value} {g : Nat → Nat} {n : Nat} (h : Lks w v g n) (hb : Below w.heap.size w w') : Lks w' v g n := by
  obtain ⟨a0, a1, a2, c0, c1, c2, e, h0, h1, h2⟩ := h.ex
  exact ⟨a0, a1, a2, c0, c1, c2, e, h0.below hb, h1.below hb, h2.below hb⟩
theorem sub_lt {S P n : Nat} (hS : S < pw n) (h : ∀ x, P.testBit x = true → S.testBit x = true) : P < pw n := Nat.lt_of_le_of_lt (sub_le (fun i hi => h i hi)) hS
theorem ent_spl1 : Ent 58 := fun _ _ => rfl
theorem lkF_lt {g : Nat → Nat} {n : Nat} (hn : n ≤ 10) (hg : Sm n n g) (i : Nat) (hi : i = 1 ∨ i = 2) : ∀ k, k < n → lkF g n i k < 1024 := fun k hk => by
  have hpl := pw_le n hn
  have hpp := pw_pos n
  have h1 : kno g n k < pw n := Nat.or_lt_two_pow (hg k hk) (trn_lt g n k)
  rcases hi with rfl | rfl
  · show kno g n k < 1024; omega
  · have := lack_le (pw n - 1) (kno g n k)
    show lack (pw n - 1) (kno g n k) < 1024; omega
set_option maxHeartbeats 4000000 in
theorem split_step {g : Nat → Nat} {n : Nat} (h10 : n ≤ 10) (hg : Sm n n g) (ho : Ord n g) (S : Nat) (hS : S < pw n) (h0 : S ≠ 0) (lv : Value) (w : World) (hL : Lks w lv g n) (hT : Tab w)
    (hIH : ∀ P, pc P < pc S → P < pw n → P ≠ 0 → ∀ W, Below w.heap.size w W → Calls Tryd.prog 29 #[lv, .int .i64 (P : Nat)] W fun e w' => SpRes W.heap.size g n P e w' ∧ Below W.heap.size W w') :
    Calls Tryd.prog 29 #[lv, .int .i64 (S : Nat)] w fun e w' => SpRes w.heap.size g n S e w' ∧ Below w.heap.size w w' := by
  have hpl := pw_le n h10
  obtain ⟨a0, a1, a2, c0, c1, c2, rfl, r0, r1, r2⟩ := hL.ex
  have HIH : Hid (∀ P, pc P < pc S → P < pw n → P ≠ 0 → ∀ W, Below w.heap.size w W → Calls Tryd.prog 29 #[.agg #[.slice a0 n c0, .slice a1 n c1, .slice a2 n c2], .int .i64 (P : Nat)] W fun e w' => SpRes W.heap.size g n P e w' ∧ Below W.heap.size W w') := hIH
  have HL : Hid (Lks w (.agg #[.slice a0 n c0, .slice a1 n c1, .slice a2 n c2]) g n) := hL
  have HR0 : Hid (Row w a0 n (fun k => (lkF g n 0 k : Nat))) := r0
  have HR1 : Hid (Row w a1 n (fun k => (lkF g n 1 k : Nat))) := r1
  have HR2 : Hid (Row w a2 n (fun k => (lkF g n 2 k : Nat))) := r2
  have HT : Hid (Tab w) := hT
  have HG : Hid (Sm n n g) := hg
  have HO : Hid (Ord n g) := ho
  have hS1 : S < 1024 := by omega
  have HB2 : Hid (Below w.heap.size w ((w.alloc (.cells #[.slice a0 n c0, .slice a1 n c1, .slice a2 n c2] 62)).alloc (.cells #[.int .i64 0, .int .i64 0, .slice none 0 0] 32))) := ((Below.refl _ _).alloc (Nat.le_refl _) _).alloc (by simp) _
  have HX : Hid (∀ w', Below (w.heap.size + 1 + 1) ((w.alloc (.cells #[.slice a0 n c0, .slice a1 n c1, .slice a2 n c2] 62)).alloc (.cells #[.int .i64 0, .int .i64 0, .slice none 0 0] 32)) w' →
      (w'.cell? ⟨w.heap.size, 0, none⟩ = some (.slice a0 n c0) ∧ w'.cell? ⟨w.heap.size, 1, none⟩ = some (.slice a1 n c1) ∧ w'.cell? ⟨w.heap.size, 2, none⟩ = some (.slice a2 n c2)) ∧
      (w'.cell? ⟨w.heap.size + 1, 0, none⟩ = some (.int .i64 0) ∧ w'.cell? ⟨w.heap.size + 1, 1, none⟩ = some (.int .i64 0) ∧ w'.cell? ⟨w.heap.size + 1, 2, none⟩ = some (.slice none 0 0)) ∧
      (w'.frozen? ⟨w.heap.size + 1, 0, none⟩ = false ∧ w'.frozen? ⟨w.heap.size + 1, 1, none⟩ = false ∧ w'.frozen? ⟨w.heap.size + 1, 2, none⟩ = false)) := fun w' hb => by
    have c : ∀ b o, b < w.heap.size + 1 + 1 → w'.cell? ⟨b, o, none⟩ = _ := fun b o k => hb.cell (p := ⟨b, o, none⟩) k
    have f : ∀ b o, b < w.heap.size + 1 + 1 → w'.frozen? ⟨b, o, none⟩ = _ := fun b o k => hb.frozen (p := ⟨b, o, none⟩) k
    rw [c _ 0 (by omega : w.heap.size < _), c _ 1 (by omega : w.heap.size < _), c _ 2 (by omega : w.heap.size < _), c (w.heap.size + 1) 0 (by omega), c (w.heap.size + 1) 1 (by omega), c (w.heap.size + 1) 2 (by omega), f (w.heap.size + 1) 0 (by omega), f (w.heap.size + 1) 1 (by omega), f (w.heap.size + 1) 2 (by omega)]
    refine ⟨⟨?_, ?_, ?_⟩, ⟨?_, ?_, ?_⟩, World.frozen?_alloc_at _ _ _ _ (by simp), World.frozen?_alloc_at _ _ _ _ (by simp), World.frozen?_alloc_at _ _ _ _ (by simp)⟩ <;> simp
  have HSZ : Hid (((w.alloc (.cells #[.slice a0 n c0, .slice a1 n c1, .slice a2 n c2] 62)).alloc (.cells #[.int .i64 0, .int .i64 0, .slice none 0 0] 32)).heap.size = w.heap.size + 1 + 1) := by simp [Hid]
  clear hL r0 r1 r2 hT hg ho hIH
  go_enter Tryd.func29, Tryd.ntmps29
  by_cases hp : pc S = 1
  · have hpI : ((pc S : Nat) : Int) = 1 := by omega
    have hpB : (((pc S : Nat) : Int) == 1) = true := by simp [hp]
    go_wp2_with (first | (go_at_call 54; refine (size_any S _ hS1).mono ?_; rintro e w' ⟨rfl, rfl⟩) | (go_at_call 55; refine (first_any S _ hS1 h0 (HT.out.step HB2.out)).mono ?_; rintro e w' ⟨rfl, rfl⟩))
    refine bodyPost_ret (res_split _ 4 5 rfl _ _ (w.heap.size + 1) 1 (lo S : Nat) none 0 0 true rfl rfl (by simp) (by simp) (by simp)) rfl ⟨⟨_, _, rfl, .inl ⟨rfl, .mk 1 (lo S : Nat) 0 (fun _ => .leaf), ⟨none, 0, rfl, by unfold maxLen; omega, fun i hi => absurd hi (Nat.not_lt_zero _)⟩, trm_point hS1 hp⟩⟩, ?_⟩
    exact ((Below.refl _ _).alloc (Nat.le_refl _) _).alloc (by simp) _
  · have hpB : (((pc S : Nat) : Int) == 1) = false := by simp; omega
    have h2 : 2 ≤ pc S := by
      have := pcn_pos (lo_bit hS1 h0) 10 (bit_of_lt (n := 10) hS1 (lo_bit hS1 h0))
      unfold pc at hp ⊢
      omega
    have i0 := idx0
    have i1 := idx1
    go_wp2_with (go_at_call 54; refine (size_any S _ hS1).mono ?_; rintro e w' ⟨rfl, rfl⟩)
    generalize (w.alloc (.cells #[.slice a0 n c0, .slice a1 n c1, .slice a2 n c2] 62)).alloc (.cells #[.int .i64 0, .int .i64 0, .slice none 0 0] 32) = W2 at *
    have HT2 : Hid (∀ wx, Below (w.heap.size + 1 + 1) W2 wx → Below w.heap.size w wx) := fun wx hb => Below.then HB2.out (by rw [HSZ.out]; exact hb)
    go_loopw [16] (fun t wx => ∃ i : Nat, i ≤ 2 ∧ t = .int .i64 i ∧ Hid ((1 ≤ i → Cnn (lkF g n 1) S) ∧ (2 ≤ i → Cnn (lkF g n 2) S)) ∧ Hid (Below (w.heap.size + 1 + 1) W2 wx)) (fun t _ => 2 - (intOf t).toNat)
    case atStart => exact ⟨0, by omega, rfl, ⟨fun k => by omega, fun k => by omega⟩, Below.refl _ _⟩
    case round =>
      obtain ⟨i, hi, rfl, HC, HW⟩ := hrel
      obtain ⟨⟨x0, x1, x2⟩, _, _⟩ := HX.out _ HW.out
      have HWw : Hid (Below w.heap.size w wr) := HT2.out _ HW.out
      rcases (by omega : i = 0 ∨ i = 1 ∨ i = 2) with rfl | rfl | rfl
      · go_wp2_with fail
        refine (pieces_any a1 n c1 (lkF g n 1) S wr h10 (lkF_lt h10 HG.out 1 (by omega)) (HR1.out.below HWw.out) hS (HT.out.step HWw.out)).mono ?_
        rintro e w3 ⟨⟨v, L, rfl, _, hP, _, _, hown⟩, hb3⟩
        have HF : Hid (PcF (lkF g n 1) L S) := PcL.facts h10 hS hP
        obtain ⟨ap, bp, cp, rfl, hap, hO, hbp⟩ := own_of_owns hown
        have hl10 : L.length ≤ 10 := HF.out.len
        have hl0 : 0 < L.length := HF.out.pos hS1 h0
        obtain rfl := hap hl0
        have HW3 : Hid (Below (w.heap.size + 1 + 1) W2 w3) := HW.out.trans (hb3.mono (by have := World.block_lt_of_cell? _ _ x0; have := HW.out.size; rw [HSZ.out] at this; exact this))
        have HSW : Hid (w.heap.size + 1 + 1 ≤ w3.heap.size) := by have := HW3.out.size; rw [HSZ.out] at this; exact this
        have HB3 : Hid (Below w.heap.size w w3) := HT2.out _ HW3.out
        have HOw : Hid (Own w3 bp L.length (nth L)) := hO
        have HBP : Hid (wr.heap.size ≤ bp) := hbp
        have HBR : Hid (Below wr.heap.size wr w3) := hb3
        clear hown hP hap hO hbp hb3 x0 x1 x2
        obtain ⟨⟨x0, x1, x2⟩, _, _⟩ := HX.out _ HW3.out
        by_cases h1 : L.length = 1
        · have HC2 : Hid (Cnn (lkF g n 1) S) := by
            match L, h1, HF with
            | [P], _, HF => exact (HF.out.one hS1).2
          rw [h1]
          clear HF HOw
          go_wp2_with fail
          go_roundw
          case rel => exact ⟨1, by omega, by go_num, ⟨fun _ => HC2.out, fun k => by omega⟩, HW3.out⟩
          case measure => simp [intOf]
        · have hl2 : 2 ≤ L.length := by omega
          have hne1 : ((L.length : Int) == 1) = false := by simp; omega
          have HLS : Hid (∀ i, i < L.length → pc (nth L i) < pc S ∧ nth L i < pw n ∧ nth L i ≠ 0) := fun i hi => ⟨HF.out.less hS1 hl2 hi, sub_lt hS (fun x hx => (HF.out.un x).2 ⟨i, hi, hx⟩), (HF.out.lt i hi).2⟩
          have HTM : Hid (∀ kid, (∀ i, i < L.length → Trm g n (nth L i) (kid i)) → Trm g n S (.mk 2 0 L.length kid)) := fun kid hk => trm_beside h10 hS HF.out hl2 hk
          have HSUB : Hid (∀ i, i < L.length → NZ g S → NZ g (nth L i)) := fun i hi k => k.sub fun x hx => (HF.out.un x).2 ⟨i, hi, hx⟩
          have HRW : Hid (Row w3 (some ⟨bp, 0, none⟩) L.length (fun k => (nth L k : Nat))) := Own.row HOw.out
          obtain ⟨m, hm⟩ : ∃ m, L.length = m := ⟨_, rfl⟩
          rw [hm] at HTM HSUB HRW hl10 hl0 hne1 HLS ⊢
          clear h1 hl2 HF HOw hm
          go_wp2_with fail
          refine (splitAll_of _ g n 2 _ m cp (nth L) w3 hl0 hl10 (HL.out.step HB3.out) HRW.out (fun i hi W hW => HIH.out _ (HLS.out i hi).1 (HLS.out i hi).2.1 (HLS.out i hi).2.2 W (Below.then HB3.out hW))).mono ?_
          rintro e w4 ⟨⟨v, ok, rfl, hres⟩, hb4⟩
          have HW4 : Hid (Below (w.heap.size + 1 + 1) W2 w4) := HW3.out.trans (hb4.mono (by have := HSW.out; omega))
          have HB4 : Hid (Below w.heap.size w w4) := HT2.out _ HW4.out
          obtain ⟨_, ⟨r0, r1, r2⟩, f0, f1, f2⟩ := HX.out _ HW4.out
          rcases hres with ⟨rfl, kid, hT, hk⟩ | ⟨rfl, rfl, i, hi, hnz⟩
          · obtain ⟨k', x', a', n', c', rfl⟩ := hT.agg
            have HTk : Hid (Trm g n S (.mk 2 0 m kid)) := HTM.out kid hk
            have HTT : Hid (TRep (w.heap.size + 1 + 1) w4 (.mk 2 0 m kid) (.agg #[.int .i64 k', .int .i64 x', .slice a' n' c'])) := TRep.low (by have := HSW.out; omega) _ _ hT
            clear hT hk hb4 HTM
            go_wp2_with fail
            have S3 := set3 (.int .i64 k') (.int .i64 x') (.slice a' n' c') r0 r1 r2 _ rfl
            refine bodyPost_ret (res_split _ 4 5 rfl _ _ _ _ _ _ _ _ _ rfl rfl S3.1 S3.2.1 S3.2.2) rfl ⟨⟨_, _, rfl, .inl ⟨rfl, _, ?_, HTk.out⟩⟩, below3 HB4.out (by omega)⟩
            exact TRep.low (show w.heap.size ≤ w.heap.size + 1 + 1 by omega) _ _ (TRep.set (by omega) _ _ (TRep.set (by omega) _ _ (TRep.set (by omega) _ _ HTT.out)))
          · have HN : Hid (¬ NZ g S) := fun k => hnz (HSUB.out i hi k)
            unfold zeroT
            clear hnz hb4 HTM
            go_wp2_with fail
            have S3 := set3 (.int .i64 0) (.int .i64 0) (.slice none 0 0) r0 r1 r2 _ rfl
            exact bodyPost_ret (res_split _ 4 5 rfl _ _ _ _ _ _ _ _ _ rfl rfl S3.1 S3.2.1 S3.2.2) rfl ⟨⟨_, _, rfl, .inr ⟨rfl, rfl, HN.out⟩⟩, below3 HB4.out (by omega)⟩
      · go_wp2_with fail
        refine (pieces_any a2 n c2 (lkF g n 2) S wr h10 (lkF_lt h10 HG.out 2 (by omega)) (HR2.out.below HWw.out) hS (HT.out.step HWw.out)).mono ?_
        rintro e w3 ⟨⟨v, L, rfl, _, hP, _, _, hown⟩, hb3⟩
        have HF : Hid (PcF (lkF g n 2) L S) := PcL.facts h10 hS hP
        obtain ⟨ap, bp, cp, rfl, hap, hO, hbp⟩ := own_of_owns hown
        have hl10 : L.length ≤ 10 := HF.out.len
        have hl0 : 0 < L.length := HF.out.pos hS1 h0
        obtain rfl := hap hl0
        have HW3 : Hid (Below (w.heap.size + 1 + 1) W2 w3) := HW.out.trans (hb3.mono (by have := World.block_lt_of_cell? _ _ x0; have := HW.out.size; rw [HSZ.out] at this; exact this))
        have HSW : Hid (w.heap.size + 1 + 1 ≤ w3.heap.size) := by have := HW3.out.size; rw [HSZ.out] at this; exact this
        have HB3 : Hid (Below w.heap.size w w3) := HT2.out _ HW3.out
        have HOw : Hid (Own w3 bp L.length (nth L)) := hO
        have HBP : Hid (wr.heap.size ≤ bp) := hbp
        have HBR : Hid (Below wr.heap.size wr w3) := hb3
        clear hown hP hap hO hbp hb3 x0 x1 x2
        obtain ⟨⟨x0, x1, x2⟩, _, _⟩ := HX.out _ HW3.out
        by_cases h1 : L.length = 1
        · have HC2 : Hid (Cnn (lkF g n 2) S) := by
            match L, h1, HF with
            | [P], _, HF => exact (HF.out.one hS1).2
          rw [h1]
          clear HF HOw
          go_wp2_with fail
          go_roundw
          case rel => exact ⟨2, by omega, by go_num, ⟨fun _ => HC.out.1 (by omega), fun _ => HC2.out⟩, HW3.out⟩
          case measure => simp [intOf]
        · have hl2 : 2 ≤ L.length := by omega
          have hne1 : ((L.length : Int) == 1) = false := by simp; omega
          have HLS : Hid (∀ i, i < L.length → pc (nth L i) < pc S ∧ nth L i < pw n ∧ nth L i ≠ 0) := fun i hi => ⟨HF.out.less hS1 hl2 hi, sub_lt hS (fun x hx => (HF.out.un x).2 ⟨i, hi, hx⟩), (HF.out.lt i hi).2⟩
          have hQ : CloC 58 #[.pointer (some ⟨w.heap.size, 0, none⟩)] (fun P => lkF g n 0 (lo P)) (Mem (nth L) L.length) wr := fun x y hx hy W hW => by
            obtain ⟨i, hi, rfl⟩ := hx
            obtain ⟨j, hj, rfl⟩ := hy
            have hWw := Below.then HWw.out hW
            have l1 := bit_of_lt (HLS.out i hi).2.1 (lo_bit (HF.out.lt i hi).1 (HF.out.lt i hi).2)
            have l2 := bit_of_lt (HLS.out j hj).2.1 (lo_bit (HF.out.lt j hj).1 (HF.out.lt j hj).2)
            exact spl1_any w.heap.size a0 n c0 (lkF g n 0) (nth L i) (nth L j) W (HF.out.lt i hi).1 (HF.out.lt j hj).1 (HF.out.lt i hi).2 (HF.out.lt j hj).2 l1 l2 (cellS hW (HX.out _ HW.out).1.1) (HR0.out.below hWw) (HT.out.step hWw)
          have HSO : Hid (Calls Tryd.prog 57 #[.slice (some ⟨bp, 0, none⟩) L.length cp, .func (.func 58) #[] #[.pointer (some ⟨w.heap.size, 0, none⟩)]] w3 fun e w' => (∃ v, e = .returned v) ∧ ∃ h, Own w' bp L.length h ∧ InjT h L.length ∧ Ris (fun P => lkF g n 0 (lo P)) h L.length ∧ (∀ v, Mem h L.length v ↔ Mem (nth L) L.length v) ∧ Below wr.heap.size wr w') := sortF_any (some ⟨bp, 0, none⟩) bp L.length cp (nth L) (fun P => lkF g n 0 (lo P)) 58 #[.pointer (some ⟨w.heap.size, 0, none⟩)] wr w3 hl10 ent_spl1 hQ HF.out.inj (fun _ => rfl) HOw.out HBR.out HBP.out
          clear hQ
          obtain ⟨m, HM⟩ : ∃ m, Hid (m = L.length) := ⟨_, rfl⟩
          rw [← HM.out] at HSO hl10 hl0 hne1 ⊢
          go_wp2_with fail
          refine HSO.out.mono ?_
          rintro e w5 ⟨⟨z, rfl⟩, h, hO5, hI5, hR5, hM5, hB5⟩
          have HBx : Hid (Below wr.heap.size wr w5) := hB5
          have HW5 : Hid (Below (w.heap.size + 1 + 1) W2 w5) := HW.out.trans (hB5.mono (by have := HW.out.size; rw [HSZ.out] at this; exact this))
          have HSW : Hid (w.heap.size + 1 + 1 ≤ w5.heap.size) := by have := HW5.out.size; rw [HSZ.out] at this; exact this
          have HB5 : Hid (Below w.heap.size w w5) := HT2.out _ HW5.out
          have HTM : Hid (∀ kid, (∀ i, i < m → Trm g n (h i) (kid i)) → Trm g n S (.mk 3 0 m kid)) := fun kid hk => by rw [HM.out] at hk hI5 hM5 hR5 ⊢; exact trm_over h10 HG.out HO.out hS HF.out hl2 hI5 hM5 hR5 hk
          have HSUB : Hid (∀ i, i < m → NZ g S → NZ g (h i)) := fun i hi k => by
            obtain ⟨j, hj, e⟩ := (hM5 (h i)).1 ⟨i, hi, rfl⟩
            exact k.sub fun x hx => (HF.out.un x).2 ⟨j, by have := HM.out; omega, by rw [e]; exact hx⟩
          have HRW : Hid (Row w5 (some ⟨bp, 0, none⟩) m (fun k => (h k : Nat))) := Own.row hO5
          have HLH : Hid (∀ i, i < m → pc (h i) < pc S ∧ h i < pw n ∧ h i ≠ 0) := fun i hi => by
            obtain ⟨j, hj, e⟩ := (hM5 (h i)).1 ⟨i, hi, rfl⟩
            rw [← e]; exact HLS.out j (by have := HM.out; omega)
          obtain ⟨⟨x0, x1, x2⟩, _, _⟩ := HX.out _ HW5.out
          clear h1 hl2 HF HOw hO5 hI5 hR5 hM5 hB5 HLS HSO HW3 HM
          have HW3 := HW5
          clear HW5
          go_wp2_with fail
          refine (splitAll_of _ g n 3 _ m cp h w5 hl0 hl10 (HL.out.step HB5.out) HRW.out (fun i hi W hW => HIH.out _ (HLH.out i hi).1 (HLH.out i hi).2.1 (HLH.out i hi).2.2 W (Below.then HB5.out hW))).mono ?_
          rintro e w4 ⟨⟨v, ok, rfl, hres⟩, hb4⟩
          have HW4 : Hid (Below (w.heap.size + 1 + 1) W2 w4) := HW3.out.trans (hb4.mono (by have := HSW.out; omega))
          have HB4 : Hid (Below w.heap.size w w4) := HT2.out _ HW4.out
          obtain ⟨_, ⟨r0, r1, r2⟩, f0, f1, f2⟩ := HX.out _ HW4.out
          rcases hres with ⟨rfl, kid, hT, hk⟩ | ⟨rfl, rfl, i, hi, hnz⟩
          · obtain ⟨k', x', a', n', c', rfl⟩ := hT.agg
            have HTk : Hid (Trm g n S (.mk 3 0 m kid)) := HTM.out kid hk
            have HTT : Hid (TRep (w.heap.size + 1 + 1) w4 (.mk 3 0 m kid) (.agg #[.int .i64 k', .int .i64 x', .slice a' n' c'])) := TRep.low (by have := HSW.out; omega) _ _ hT
            clear hT hk hb4 HTM
            go_wp2_with fail
            have S3 := set3 (.int .i64 k') (.int .i64 x') (.slice a' n' c') r0 r1 r2 _ rfl
            refine bodyPost_ret (res_split _ 4 5 rfl _ _ _ _ _ _ _ _ _ rfl rfl S3.1 S3.2.1 S3.2.2) rfl ⟨⟨_, _, rfl, .inl ⟨rfl, _, ?_, HTk.out⟩⟩, below3 HB4.out (by omega)⟩
            exact TRep.low (show w.heap.size ≤ w.heap.size + 1 + 1 by omega) _ _ (TRep.set (by omega) _ _ (TRep.set (by omega) _ _ (TRep.set (by omega) _ _ HTT.out)))
          · have HN : Hid (¬ NZ g S) := fun k => hnz (HSUB.out i hi k)
            unfold zeroT
            clear hnz hb4 HTM
            go_wp2_with fail
            have S3 := set3 (.int .i64 0) (.int .i64 0) (.slice none 0 0) r0 r1 r2 _ rfl
            exact bodyPost_ret (res_split _ 4 5 rfl _ _ _ _ _ _ _ _ _ rfl rfl S3.1 S3.2.1 S3.2.2) rfl ⟨⟨_, _, rfl, .inr ⟨rfl, rfl, HN.out⟩⟩, below3 HB4.out (by omega)⟩
      · obtain ⟨_, ⟨r0, r1, r2⟩, f0, f1, f2⟩ := HX.out _ HW.out
        have HN : Hid (¬ NZ g S) := fun k => not_both h10 HG.out HO.out hS h2 k (HC.out.1 (by omega)) (HC.out.2 (by omega))
        go_wp2_with fail
        have S3 := set3 (.int .i64 0) (.int .i64 0) (.slice none 0 0) r0 r1 r2 _ rfl
        exact bodyPost_ret (res_split _ 4 5 rfl _ _ _ _ _ _ _ _ _ rfl rfl S3.1 S3.2.1 S3.2.2) rfl ⟨⟨_, _, rfl, .inr ⟨rfl, rfl, HN.out⟩⟩, below3 HWw.out (by omega)⟩
end Go.Proofs.YtglkjeidkjkdaaaDoor
