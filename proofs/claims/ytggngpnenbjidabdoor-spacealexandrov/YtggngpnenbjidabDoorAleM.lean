/-
  The open sets say what the order is; a map is smooth just if it is monotone. Plain facts: no Go text here. Conditions: as each theorem says.
-/
import Derived.Test.YtggngpnenbjidabDoorFroQ
import Derived.Test.YtggngpnenbjidabDoorConM
namespace Go.Proofs.YtggngpnenbjidabDoor

theorem fil_pair (I : Nat → Bool) : ∀ k, (fil I k).Pairwise (· < ·)
  | 0 => List.Pairwise.nil
  | k + 1 => by
    cases h : I k
    · rw [fil_no h]; exact fil_pair I k
    · rw [fil_yes h, List.pairwise_append]
      refine ⟨fil_pair I k, List.pairwise_singleton _ _, fun a ha b hb => ?_⟩
      rw [List.mem_singleton] at hb
      subst hb
      exact ((fil_in _).1 ha).1
theorem nth_get {l : List Nat} {k : Nat} (h : k < l.length) : nth l k = l[k] := by simp [nth, h]
theorem opn_ris (g : Nat → Nat) (n : Nat) : Ris (opn g n).length (fun k => ((nth (opn g n) k : Nat) : Int)) := fun k hk h0 => by
  have hp : (opn g n).Pairwise (· < ·) := fil_pair _ _
  have h1 := List.pairwise_iff_getElem.1 hp (k - 1) k (by omega) hk (by omega)
  show ((nth (opn g n) (k - 1) : Nat) : Int) < ((nth (opn g n) k : Nat) : Int)
  rw [nth_get hk, nth_get (show k - 1 < (opn g n).length by omega)]
  omega
theorem opn_fin {g : Nat → Nat} {n : Nat} (hn : n ≤ 10) : FIn n (opn g n).length (fun k => ((nth (opn g n) k : Nat) : Int)) := fun k hk => by
  have := ((opn_mem hn).1 (nth_mem hk)).1
  exact ⟨Int.natCast_nonneg _, Int.ofNat_lt.2 this⟩
theorem bl_is {g : Nat → Nat} {n u : Nat} (hn : n ≤ 10) (hg : ∀ k, k < n → g k < pw n) (ho : Ord n g) (hu : u < n) : bl (nth (opn g n)) (opn g n).length n u = g u := by
  refine eq_of_bits (bl_lt _ _ _ _) (hg u hu) fun l hl => ?_
  unfold bl
  rw [setBy_bit, Bool.eq_iff_iff, Bool.and_eq_true, Bool.and_eq_true, okT_iff, decide_eq_true_iff, decide_eq_true_iff]
  constructor
  · rintro ⟨_, h1, h2⟩
    obtain ⟨i, hi, e⟩ := mem_nth ((opn_mem hn).2 (ups_opn (x := l) hn hg ho))
    have h3 := h1 i hi (by rw [e]; exact ups_bit.2 ⟨hl, by simp [upt]⟩)
    rw [e] at h3
    have h4 := (ups_bit.1 h3).2
    unfold upt at h4
    rw [Bool.or_eq_true] at h4
    rcases h4 with h4 | h4
    · exact absurd (of_decide_eq_true h4) h2
    · exact h4
  · intro h
    refine ⟨hl, fun i hi h1 => ?_, fun e => ?_⟩
    · exact ((opn_mem hn).1 (nth_mem hi)).2 l u hl hu h1 h
    · subst e
      rw [(ho l hu).1] at h; cases h
theorem trn_same {g g' : Nat → Nat} {n : Nat} (h : ∀ k, k < n → g k = g' k) : trn g n = trn g' n := by
  funext l
  unfold trn
  exact setBy_congr n fun x hx => by rw [h x hx]
theorem fg_opn {g : Nat → Nat} {n : Nat} (hn : n ≤ 10) (hg : ∀ k, k < n → g k < pw n) (ho : Ord n g) : FG n (opn g n).length (fun k => ((nth (opn g n) k : Nat) : Int)) := by
  unfold FG
  rw [nat_cast]
  have hb : ∀ k, k < n → bl (nth (opn g n)) (opn g n).length n k = g k := fun k hk => bl_is hn hg ho hk
  have hop : opn (bl (nth (opn g n)) (opn g n).length n) n = opn g n := by
    have e := trn_same hb
    show idls (trn (bl (nth (opn g n)) (opn g n).length n) n) n = idls (trn g n) n
    rw [e]
  refine ⟨.inr ⟨n, rfl, hn, .inr ⟨rfl, .inr ⟨fun k hk => ⟨Int.natCast_nonneg _, Int.ofNat_lt.2 (by rw [hb k hk]; exact hg k hk)⟩, .inr ⟨rfl, ?_⟩⟩⟩⟩, ?_⟩
  · rw [nat_cast]
    intro u hu
    obtain ⟨h1, h2⟩ := ho u hu
    refine ⟨by rw [hb u hu]; exact h1, fun p hp h3 => ?_⟩
    rw [hb u hu] at h3 ⊢
    rw [hb p hp]
    exact h2 p hp h3
  · rw [hop]
    exact ⟨rfl, fun _ _ => rfl⟩
theorem mono_smooth {g1 g2 f : Nat → Nat} {n1 n2 : Nat} (h1 : n1 ≤ 10) (h2 : n2 ≤ 10) (hf : ∀ k, k < n1 → f k < n2)
    (hm : ∀ a b, a < n1 → b < n1 → (g1 b).testBit a = true → upt g2 (f a) (f b) = true) : ∀ s, s ∈ opn g2 n2 → frm f n1 s ∈ opn g1 n1 := fun s hs => by
  have ho := (opn_mem h2).1 hs
  refine (opn_mem h1).2 ⟨setBy_lt _ _, fun p q hp hq h3 h4 => ?_⟩
  have h5 := (frm_bit.1 h3).2
  refine frm_bit.2 ⟨hq, ?_⟩
  have h6 := hm p q hp hq h4
  unfold upt at h6
  rw [Bool.or_eq_true] at h6
  rcases h6 with h6 | h6
  · rw [← of_decide_eq_true h6]; exact h5
  · exact ho.2 _ _ (hf p hp) (hf q hq) h5 h6
theorem upB_upt (g : Nat → Nat) (x y : Nat) : upB g x y = upt g x y := by
  unfold upB up upt
  rw [Nat.testBit_or, pw_bit, Bool.or_comm]
  congr 1
  rw [Bool.eq_iff_iff, decide_eq_true_iff, decide_eq_true_iff]
  exact eq_comm
/-- A map is smooth just if it is monotone. -/
theorem smooth_iff {A B : OA} {f : MA} (hA : A.Ck 0) (hB : B.Ck 0) (hf : MCk A.n B.n f.la f.F 0) : SmL A B f ↔ MonL A B f := by
  obtain ⟨n1, a1, l1, c1, F1⟩ := A
  obtain ⟨n2, a2, l2, c2, F2⟩ := B
  obtain ⟨e1, h10, hrg1, hord1⟩ := Chk.good hA
  obtain ⟨e2, h20, hrg2, hord2⟩ := Chk.good hB
  have e1' : n1 = (l1 : Int) := e1
  have e2' : n2 = (l2 : Int) := e2
  subst e1'
  subst e2'
  obtain ⟨_, hf3, _⟩ := MA.open (f := f) (n := l1) (n' := l2) hf
  have q1 : OA.q ⟨(l1 : Int), a1, l1, c1, F1⟩ = l1 := Int.toNat_natCast l1
  have q2 : OA.q ⟨(l2 : Int), a2, l2, c2, F2⟩ = l2 := Int.toNat_natCast l2
  unfold SmL MonL MonP
  rw [q1, q2]
  constructor
  · intro h y hy x hx e
    have e0 : upB (nat F1) x y = true := e
    show upB (nat F2) (f.f x) (f.f y) = true
    rw [upB_upt] at e0 ⊢
    unfold upt at e0
    rw [Bool.or_eq_true] at e0
    rcases e0 with e0 | e0
    · rw [of_decide_eq_true e0]; simp [upt]
    · exact smooth_mono h10 h20 hrg2.small hord2 hf3 h hx hy e0
  · intro h
    refine mono_smooth (g1 := nat F1) (g2 := nat F2) h10 h20 hf3 fun a b ha hb e => ?_
    have := h b hb a ha (show upB (nat F1) a b = true by rw [upB_upt]; simp [upt, e])
    rw [← upB_upt]
    exact this
end Go.Proofs.YtggngpnenbjidabDoor
