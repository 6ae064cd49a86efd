/-
  All congruences: what is closed under putting together with the least congruences of two elements each has them all. Plain facts on numbers.
  What slices.Compare answers of two lists of one length. No other condition.
-/
import Derived.Test.YthhnngmfbbljaaaGreatOfpP
import Derived.Test.YthhnngmfbbljaaaGreatPofP
import Derived.Test.YthhnngmfbbljaaaGreatFilM
namespace Go.Proofs.YthhnngmfbbljaaaGreat
open Go.RowKit
set_option maxRecDepth 100000

theorem fstC_facts (c : Nat → Nat) (x : Nat) : fstC c x ≤ x ∧ c (fstC c x) = c x ∧ frst c (fstC c x) = true := by
  obtain ⟨a, ha, e, hf⟩ := first_of c (c x) x rfl
  rw [fstC_is ha e hf]
  exact ⟨ha, e, hf⟩
theorem fstC_le (c : Nat → Nat) (x : Nat) : fstC c x ≤ x := (fstC_facts c x).1
theorem fstC_ker (c : Nat → Nat) (x : Nat) : c (fstC c x) = c x := (fstC_facts c x).2.1
theorem fstC_same {c : Nat → Nat} {x y : Nat} (e : c x = c y) : fstC c x = fstC c y :=
  first_one (fstC_facts c x).2.2 (fstC_facts c y).2.2 ((fstC_ker c x).trans (e.trans (fstC_ker c y).symm))
/-- Each element with the first one of its class. -/
def prsL (q : Nat) (g : Nat → Nat) : List (Nat × Nat) := (List.range q).map fun x => (fstC g x, x)
theorem prsL_len (q : Nat) (g : Nat → Nat) : (prsL q g).length = q := by simp [prsL]
theorem prsL_has {q : Nat} {g d : Nat → Nat} : Has (prsL q g) d ↔ Ker q g d := by
  constructor
  · intro h x y hx hy e
    have h1 : d (fstC g x) = d x := h (fstC g x, x) (List.mem_map.2 ⟨x, List.mem_range.2 hx, rfl⟩)
    have h2 : d (fstC g y) = d y := h (fstC g y, y) (List.mem_map.2 ⟨y, List.mem_range.2 hy, rfl⟩)
    have : fstC g x = fstC g y := fstC_same e
    rw [← h1, ← h2, this]
  · intro h p hp
    obtain ⟨x, hx, rfl⟩ := List.mem_map.1 hp
    have hx' := List.mem_range.1 hx
    exact h (fstC g x) x (Nat.lt_of_le_of_lt (fstC_le g x) hx') hx' (fstC_ker g x)
theorem Has.append {L M : List (Nat × Nat)} {d : Nat → Nat} : Has (L ++ M) d ↔ Has L d ∧ Has M d :=
  ⟨fun h => ⟨fun p hp => h p (List.mem_append.2 (.inl hp)), fun p hp => h p (List.mem_append.2 (.inr hp))⟩, fun h p hp => (List.mem_append.1 hp).elim (h.1 p) (h.2 p)⟩
theorem ker_nbr {q : Nat} {c d g : Nat → Nat} (e : ∀ i, i < q → g i = nbr c i) : Ker q g d ↔ Ker q c d :=
  ⟨fun h x y hx hy ec => h x y hx hy (by rw [e x hx, e y hy]; exact nbr_ker.2 ec), fun h x y hx hy eg => h x y hx hy (nbr_ker.1 (by rw [← e x hx, ← e y hy]; exact eg))⟩
/-- The list of a congruence. -/
def Cg (q : Nat) (m j : Nat → Nat → Nat) (g : Nat → Nat) : Prop := ∃ c, Con q m j c ∧ ∀ i, i < q → g i = nbr c i
theorem Kn.cg {q : Nat} {m j : Nat → Nat → Nat} {L : List (Nat × Nat)} {g : Nat → Nat} (h : Kn q m j L g) : Cg q m j g := by
  obtain ⟨c, hc, e⟩ := h
  exact ⟨c, hc.1, e⟩
theorem Kn.join {q : Nat} {m j : Nat → Nat → Nat} {L M : List (Nat × Nat)} {g h f : Nat → Nat} (hg : Kn q m j L g) (hh : Kn q m j M h) (hf : Kn q m j (prsL q g ++ prsL q h) f) (hL : ∀ p, p ∈ L → p.1 < q ∧ p.2 < q) (hM : ∀ p, p ∈ M → p.1 < q ∧ p.2 < q) : Kn q m j (L ++ M) f := by
  obtain ⟨c, hc, ec⟩ := hg
  obtain ⟨d, hd, ed⟩ := hh
  obtain ⟨k, hk, ek⟩ := hf
  have h1 := Has.append.1 hk.2.1
  have k1 : Ker q c k := (ker_nbr ec).1 (prsL_has.1 h1.1)
  have k2 : Ker q d k := (ker_nbr ed).1 (prsL_has.1 h1.2)
  refine ⟨k, ⟨hk.1, Has.append.2 ⟨fun p hp => k1 p.1 p.2 (hL p hp).1 (hL p hp).2 (hc.2.1 p hp), fun p hp => k2 p.1 p.2 (hM p hp).1 (hM p hp).2 (hd.2.1 p hp)⟩, fun x hx hhas => ?_⟩, ek⟩
  obtain ⟨h3, h4⟩ := Has.append.1 hhas
  exact hk.2.2 x hx (Has.append.2 ⟨prsL_has.2 ((ker_nbr ec).2 (hc.2.2 x hx h3)), prsL_has.2 ((ker_nbr ed).2 (hd.2.2 x hx h4))⟩)
/-- What is on the shelf of all congruences: those ahead of i are put together with all single ones, number i with k of them. -/
structure AShf (q : Nat) (m j : Nat → Nat → Nat) (ns : Nat) (Gs : Nat → Nat → Nat) (n : Nat) (G : Nat → Nat → Nat) (i k : Nat) : Prop where
  cg : ∀ a, a < n → Cg q m j (G a)
  one : ∃ a, a < n ∧ Kn q m j [] (G a)
  diff : ∀ a b, a < b → b < n → ¬ ∀ i, i < q → G a i = G b i
  shut : ∀ a s, a < n → s < ns → (a < i ∨ a = i ∧ s < k) → ∃ b, b < n ∧ Kn q m j (prsL q (G a) ++ prsL q (Gs s)) (G b)
theorem AShf.next {q : Nat} {m j : Nat → Nat → Nat} {ns : Nat} {Gs : Nat → Nat → Nat} {n : Nat} {G : Nat → Nat → Nat} {i : Nat} (h : AShf q m j ns Gs n G i ns) : AShf q m j ns Gs n G (i + 1) 0 :=
  ⟨h.cg, h.one, h.diff, fun a s ha hs hx => h.shut a s ha hs (by omega)⟩
theorem AShf.start {q : Nat} {m j : Nat → Nat → Nat} {ns : Nat} {Gs : Nat → Nat → Nat} {G : Nat → Nat → Nat} (h : Kn q m j [] (G 0)) : AShf q m j ns Gs 1 G 0 0 :=
  ⟨fun a ha => (by have e : a = 0 := by omega
                   rw [e]; exact h.cg), ⟨0, by omega, h⟩, fun a b hab hb => by omega, fun a s _ _ hx => by omega⟩
theorem AShf.put {q : Nat} {m j : Nat → Nat → Nat} {ns : Nat} {Gs : Nat → Nat → Nat} {n n' : Nat} {G G' : Nat → Nat → Nat} {i k : Nat} {g : Nat → Nat} (h : AShf q m j ns Gs n G i k) (hi : i < n) (hg : Kn q m j (prsL q (G i) ++ prsL q (Gs k)) g)
    (hp : (n' = n ∧ G' = G ∧ ∃ j, j < n ∧ ∀ i, i < q → G j i = g i) ∨ (n' = n + 1 ∧ G' = (fun j => if j = n then g else G j) ∧ ∀ j, j < n → ¬ ∀ i, i < q → G j i = g i)) : AShf q m j ns Gs n' G' i (k + 1) := by
  rcases hp with ⟨rfl, rfl, b, hb, e⟩ | ⟨rfl, hG, hne⟩
  · refine ⟨h.cg, h.one, h.diff, fun a s ha hs hx => ?_⟩
    by_cases hh : a = i ∧ s = k
    · obtain ⟨rfl, rfl⟩ := hh; exact ⟨b, hb, hg.congr e⟩
    · exact h.shut a s ha hs (by omega)
  · have old : ∀ a, a < n → G' a = G a := fun a ha => by rw [hG]; simp [show ¬ a = n by omega]
    have new : G' n = g := by rw [hG]; simp
    refine ⟨fun a ha => ?_, ?_, fun a b hab hb => ?_, fun a s ha hs hx => ?_⟩
    · by_cases e : a = n
      · subst e; rw [new]; exact hg.cg
      · rw [old a (by omega)]; exact h.cg a (by omega)
    · obtain ⟨a, ha, hk⟩ := h.one
      exact ⟨a, by omega, by rw [old a ha]; exact hk⟩
    · by_cases e : b = n
      · subst e; rw [new, old a hab]; exact hne a hab
      · rw [old b (by omega), old a (by omega)]; exact h.diff a b hab (by omega)
    · have hai : a < n := by omega
      rw [old a hai]
      by_cases hh : a = i ∧ s = k
      · obtain ⟨rfl, rfl⟩ := hh; exact ⟨n, by omega, by rw [new]; exact hg⟩
      · obtain ⟨b, hb, hk⟩ := h.shut a s hai hs (by omega)
        exact ⟨b, by omega, by rw [old b hb]; exact hk⟩
/-- In the end every congruence is there. -/
theorem AShf.all {q : Nat} {m j : Nat → Nat → Nat} {ns : Nat} {Gs : Nat → Nat → Nat} {n : Nat} {G : Nat → Nat → Nat} (h : AShf q m j ns Gs n G n 0) (ho : OP q m j q 0 ns Gs) (d : Nat → Nat) (hd : Con q m j d) : ∃ a, a < n ∧ ∀ i, i < q → G a i = nbr d i := by
  have key : ∀ L : List (Nat × Nat), (∀ p, p ∈ L → p.2 < p.1 ∧ p.1 < q) → ∃ a, a < n ∧ Kn q m j L.reverse (G a) := fun L => by
    induction L with
    | nil => exact fun _ => h.one
    | cons p L ih =>
      intro hp
      obtain ⟨a, ha, hk⟩ := ih (fun p' hp' => hp p' (List.mem_cons_of_mem _ hp'))
      have hpp := hp p (List.mem_cons_self ..)
      obtain ⟨s, hs, hks⟩ := ho.all p.1 p.2 hpp.1 hpp.2 (by omega)
      obtain ⟨b, hb, hkb⟩ := h.shut a s ha hs (by omega)
      refine ⟨b, hb, ?_⟩
      rw [List.reverse_cons]
      refine hk.join hks hkb (fun p' hp' => ?_) (fun p' hp' => ?_)
      · have := hp p' (List.mem_cons_of_mem _ (List.mem_reverse.1 hp')); omega
      · have e := List.mem_singleton.1 hp'
        rw [e]
        show p.1 < q ∧ p.2 < q
        omega
  let L := ((List.range q).flatMap fun x => (List.range x).map fun y => (x, y)).filter fun p => d p.1 == d p.2
  have memL : ∀ x y, (x, y) ∈ L ↔ (x < q ∧ y < x) ∧ d x = d y := fun x y => by
    simp [L]
  obtain ⟨a, ha, c, hc, ec⟩ := key L (fun p hp => by
    have := (memL p.1 p.2).1 hp
    exact ⟨this.1.2, this.1.1⟩)
  refine ⟨a, ha, fun i hi => ?_⟩
  rw [ec i hi]
  refine nbr_same (hc.2.2 d hd (fun p hp => ((memL p.1 p.2).1 (List.mem_reverse.1 hp)).2)) (fun x y hx hy e => ?_) i hi
  rcases Nat.lt_trichotomy x y with hlt | rfl | hlt
  · exact (hc.2.1 (y, x) (List.mem_reverse.2 ((memL y x).2 ⟨⟨hy, hlt⟩, e.symm⟩))).symm
  · rfl
  · exact hc.2.1 (x, y) (List.mem_reverse.2 ((memL x y).2 ⟨⟨hx, hlt⟩, e⟩))
end Go.Proofs.YthhnngmfbbljaaaGreat
namespace Go.Proofs.YthhnngmfbbljaaaGreat
open Go.RowKit
set_option maxRecDepth 100000

/-- Two numbers, compared. -/
def cmpI (x y : Nat) : Int := if x < y then -1 else if y < x then 1 else 0
theorem cmpC_any (x y : Nat) (w : World) : Calls Tryz.prog 89 #[.int .i64 (x : Nat), .int .i64 (y : Nat)] w fun e w' => e = .returned (.int .i64 (cmpI x y)) ∧ w = w' := by
  rcases Nat.lt_trichotomy x y with h | h | h
  · have e : cmpI x y = -1 := by simp [cmpI, h]
    have h' : (x : Int) < (y : Int) := by omega
    rw [e]
    go_enter Tryz.func89, Tryz.ntmps89
    go_wp2_with (go_at_call 107; refine (nanC_any _ _).mono ?_; rintro e w' ⟨rfl, rfl⟩)
    go_ret
    exact ⟨rfl, rfl⟩
  · subst h
    have e : cmpI x x = 0 := by simp [cmpI]
    have h' : ¬ (x : Int) < (x : Int) := by omega
    rw [e]
    go_enter Tryz.func89, Tryz.ntmps89
    go_wp2_with (go_at_call 107; refine (nanC_any _ _).mono ?_; rintro e w' ⟨rfl, rfl⟩)
    go_ret
    exact ⟨rfl, rfl⟩
  · have e : cmpI x y = 1 := by simp [cmpI, h]; omega
    have h1 : ¬ (x : Int) < (y : Int) := by omega
    have h' : (y : Int) < (x : Int) := by omega
    rw [e]
    go_enter Tryz.func89, Tryz.ntmps89
    go_wp2_with (go_at_call 107; refine (nanC_any _ _).mono ?_; rintro e w' ⟨rfl, rfl⟩)
    go_ret
    exact ⟨rfl, rfl⟩
/-- Two lists from place k on, compared. -/
def cmpF (f g : Nat → Nat) : Nat → Nat → Int
  | 0, _ => 0
  | n + 1, k => if f k = g k then cmpF f g n (k + 1) else cmpI (f k) (g k)
set_option maxHeartbeats 1000000 in
theorem compare_any (q : Nat) (a b : Option Addr) (ca cb : Nat) (f g : Nat → Nat) (w : World) (h40 : q ≤ 40) (ha : Row w a q (fun k => (f k : Nat))) (hb : Row w b q (fun k => (g k : Nat))) :
    Calls Tryz.prog 64 #[.slice a q ca, .slice b q cb] w fun e w' => e = .returned (.int .i64 (cmpF f g q 0)) ∧ w = w' := by
  have HA : Hid (Row w a q (fun k => (f k : Nat))) := ha
  have HB : Hid (Row w b q (fun k => (g k : Nat))) := hb
  clear ha hb
  go_enter Tryz.func64, Tryz.ntmps64
  go_wp2_with fail
  go_loop [11] (fun t => ∃ k : Nat, k ≤ q ∧ t = .int .i64 k ∧ Hid (cmpF f g q 0 = cmpF f g (q - k) k)) (fun t => q - (intOf t).toNat)
  case atStart => exact ⟨0, Nat.zero_le _, rfl, rfl⟩
  case round =>
    obtain ⟨k, hk, rfl, HE⟩ := hrel
    by_cases hlt : k < q
    · have hlt' : (k : Int) < (q : Int) := by omega
      have hge : ¬ ((q : Int) ≤ (k : Int)) := by omega
      obtain ⟨ba, oa, rfl, e1'⟩ := HA.out k hlt
      obtain ⟨bb, ob, rfl, e2'⟩ := HB.out k hlt
      have e1 : w.cell? ⟨ba, oa + k, none⟩ = some (.int .i64 (f k : Nat)) := e1'
      have e2 : w.cell? ⟨bb, ob + k, none⟩ = some (.int .i64 (g k : Nat)) := e2'
      clear e1' e2'
      have HS : Hid (cmpF f g (q - k) k = if f k = g k then cmpF f g (q - (k + 1)) (k + 1) else cmpI (f k) (g k)) := by
        rw [show q - k = (q - (k + 1)) + 1 by omega]; rfl
      generalize hx : f k = x at e1
      generalize hy : g k = y at e2
      rw [hx, hy] at HS
      by_cases e : x = y
      · subst e
        have hcc := cmpC_any x x w
        rw [show cmpI x x = 0 by simp [cmpI]] at hcc
        have HCC := (show Hid _ from hcc)
        clear hcc
        have HS2 : Hid (cmpF f g q 0 = cmpF f g (q - (k + 1)) (k + 1)) := HE.out.trans (HS.out.trans (if_pos rfl))
        clear HS HE hx hy
        go_wp2_with (go_at_call 89; refine Calls.mono HCC.out ?_; rintro e w' ⟨rfl, rfl⟩)
        go_round
        case rel => exact ⟨k + 1, by omega, by go_num, HS2⟩
        case measure => simp [intOf]; omega
      · have hne : (cmpI x y != 0) = true := by
          unfold cmpI
          rcases Nat.lt_or_ge x y with h | h
          · simp [h]
          · simp [show ¬ x < y by omega, show y < x by omega]
        have HS2 : Hid (cmpF f g q 0 = cmpI x y) := HE.out.trans (HS.out.trans (if_neg e))
        clear HS HE hx hy
        have HCC := (show Hid _ from cmpC_any x y w)
        generalize cmpI x y = c at HS2 hne HCC
        go_wp2_with (go_at_call 89; refine Calls.mono HCC.out ?_; rintro e w' ⟨rfl, rfl⟩)
        go_ret
        exact ⟨by rw [HS2.out]; rfl, rfl⟩
    · obtain rfl : k = q := by omega
      have hno : ¬ ((k : Int) < (k : Int)) := by omega
      have HF : Hid (cmpF f g k 0 = 0) := by rw [HE.out, Nat.sub_self]; rfl
      go_wp2_with fail
      go_ret
      exact ⟨by rw [HF.out]; rfl, rfl⟩
end Go.Proofs.YthhnngmfbbljaaaGreat
