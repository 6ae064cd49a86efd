/-
  From the first set of marks on, each next one: all come, each once (Ganter). Plain facts. Conditions: as each theorem says.
-/
import Derived.Test.YtpmgengddnafeabNxtM
import Derived.Test.YtpmgengddnafeabConK
namespace Go.Proofs.Ytpmgengddnafeab

/-- No one twice. -/
def Once : List Nat → Prop
  | [] => True
  | x :: l => x ∉ l ∧ Once l
theorem once_len : ∀ (l k : List Nat), Once l → (∀ x, x ∈ l → x ∈ k) → l.length ≤ k.length
  | [], _, _, _ => Nat.zero_le _
  | x :: l, k, h, hs => by
    have hx : x ∈ k := hs x (List.mem_cons_self ..)
    have ih := once_len l (k.erase x) h.2 (fun y hy => by
      have hne : y ≠ x := fun e => h.1 (by rw [← e]; exact hy)
      exact (List.mem_erase_of_ne hne).2 (hs y (List.mem_cons_of_mem _ hy)))
    rw [List.length_erase_of_mem hx] at ih
    have := List.length_pos_of_mem hx
    rw [List.length_cons]; omega
theorem once_snoc {x : Nat} : ∀ (l : List Nat), Once l → x ∉ l → Once (l ++ [x])
  | [], _, _ => ⟨by simp, trivial⟩
  | y :: l, h, hx => by
    refine ⟨?_, once_snoc l h.2 (fun e => hx (List.mem_cons_of_mem _ e))⟩
    show ¬ y ∈ l ++ [x]
    rw [List.mem_append, List.mem_singleton]
    rintro (e | e)
    · exact h.1 e
    · exact hx (by rw [e]; exact List.mem_cons_self ..)
theorem fil_once (I : Nat → Bool) : ∀ k, Once (fil I k)
  | 0 => trivial
  | k + 1 => by
    cases h : I k
    · rw [fil_no h]; exact fil_once I k
    · rw [fil_yes h]
      exact once_snoc _ (fil_once I k) (fun e => by have := ((fil_mem I k k).1 e).1; omega)
theorem once_map {F : Nat → Nat} : ∀ (l : List Nat), Once l → (∀ x y, x ∈ l → y ∈ l → F x = F y → x = y) → Once (l.map F)
  | [], _, _ => trivial
  | x :: l, h, hi => by
    refine ⟨?_, once_map l h.2 (fun a b ha hb => hi a b (List.mem_cons_of_mem _ ha) (List.mem_cons_of_mem _ hb))⟩
    intro hm
    obtain ⟨y, hy, e⟩ := List.mem_map.1 hm
    have := hi y x (List.mem_cons_of_mem _ hy) (List.mem_cons_self ..) e
    exact h.1 (by rw [← this]; exact hy)

variable {h : Nat → Nat} {n m : Nat}
/-- The marks of all concepts. -/
def allM (h : Nat → Nat) (n m : Nat) : List Nat := (tsets h n m).map (mks h n m)
theorem allM_len : (allM h n m).length = (cons h n m).length := by unfold allM cons; rw [List.length_map, List.length_map]
theorem allM_once : Once (allM h n m) := by
  refine once_map _ (fil_once _ _) (fun x y hx hy e => ?_)
  have h1 : clt h n m x = x := by have := ((fil_mem _ _ _).1 hx).2; simpa [isT] using this
  have h2 : clt h n m y = y := by have := ((fil_mem _ _ _).1 hy).2; simpa [isT] using this
  rw [← h1, ← h2]; unfold clt; rw [e]
theorem allM_mem (h10 : n ≤ 10) (m10 : m ≤ 10) (hh : ∀ k, k < n → h k < 1024) {y : Nat} : y ∈ allM h n m ↔ y < pw m ∧ clm h n m y = y := by
  rw [← intent_iff h10 m10 hh]
  unfold allM cons
  rw [List.mem_map]
  constructor
  · rintro ⟨s, hs, rfl⟩; exact ⟨s, List.mem_map.2 ⟨s, hs, rfl⟩⟩
  · rintro ⟨x, hx⟩
    obtain ⟨s, hs, e⟩ := List.mem_map.1 hx
    cases e
    exact ⟨_, hs, rfl⟩
/-- What was met so far: closed sets, each once; whatever closed set is not among them is behind the last one. -/
def Met (h : Nat → Nat) (n m : Nat) (l : List Nat) (at' : Nat) : Prop :=
  Once l ∧ (∀ y, y ∈ l → (y < pw m ∧ clm h n m y = y) ∧ (y = at' ∨ Lec y at')) ∧ at' ∈ l ∧ ∀ y, y < pw m → clm h n m y = y → y ∈ l ∨ Lec at' y
theorem Met.le (h10 : n ≤ 10) (m10 : m ≤ 10) (hh : ∀ k, k < n → h k < 1024) {l : List Nat} {a : Nat} (hm : Met h n m l a) : l.length ≤ (cons h n m).length := by
  rw [← allM_len]
  exact once_len _ _ hm.1 (fun x hx => (allM_mem h10 m10 hh).2 (hm.2.1 x hx).1)
theorem Met.first (h10 : n ≤ 10) (m10 : m ≤ 10) (hh : ∀ k, k < n → h k < 1024) : Met h n m [clm h n m 0] (clm h n m 0) := by
  obtain ⟨hC1, hC2⟩ := clm_closing (m := m) h10 m10 hh
  obtain ⟨c1, _, c3⟩ := hC1 0 (pw_pos m)
  refine ⟨⟨by simp, trivial⟩, fun y hy => ?_, by simp, fun y hy hcl => ?_⟩
  · rw [List.mem_singleton] at hy; subst hy; exact ⟨⟨c1, c3⟩, .inl rfl⟩
  · by_cases e : y = clm h n m 0
    · exact .inl (by rw [e]; simp)
    · refine .inr ?_
      have hsub := hC2 0 y (pw_pos m) hy hcl (fun i hi => by rw [Nat.zero_testBit] at hi; cases hi)
      rcases Lec.total (set_1024 m10 c1) (set_1024 m10 hy) (fun e' => e e'.symm) with l | ⟨i, _, _, h2, h3⟩
      · exact l
      · rw [hsub i h3] at h2; cases h2
theorem Met.next (h10 : n ≤ 10) (m10 : m ≤ 10) (hh : ∀ k, k < n → h k < 1024) {l : List Nat} {a x : Nat} (hm : Met h n m l a) (hx : nxt (clm h n m) a m = some x) : Met h n m (l ++ [x]) x := by
  obtain ⟨hS, _⟩ := nxt_is (s := a) (clm_closing (m := m) h10 m10 hh) m10
  obtain ⟨h1, h2, h3, h4⟩ := hS x hx
  obtain ⟨g1, g2, g3, g4⟩ := hm
  have hlec : ∀ y, y ∈ l → Lec y x := fun y hy => by
    rcases (g2 y hy).2 with rfl | q
    · exact h3
    · exact q.trans h3
  refine ⟨once_snoc l g1 (fun e => (hlec x e).irrefl), fun y hy => ?_, by simp, fun y hy hcl => ?_⟩
  · rw [List.mem_append, List.mem_singleton] at hy
    rcases hy with hy | rfl
    · exact ⟨(g2 y hy).1, .inr (hlec y hy)⟩
    · exact ⟨⟨h1, h2⟩, .inl rfl⟩
  · rw [List.mem_append, List.mem_singleton]
    rcases g4 y hy hcl with q | q
    · exact .inl (.inl q)
    · by_cases e : y = x
      · exact .inl (.inr e)
      · rcases Lec.total (set_1024 m10 hy) (set_1024 m10 h1) e with l | l
        · exact absurd l (h4 y hy hcl q)
        · exact .inr l
theorem Met.step_lec (h10 : n ≤ 10) (m10 : m ≤ 10) (hh : ∀ k, k < n → h k < 1024) {a x : Nat} (hx : nxt (clm h n m) a m = some x) : Lec a x := ((nxt_is (s := a) (clm_closing (m := m) h10 m10 hh) m10).1 x hx).2.2.1
theorem Met.done (h10 : n ≤ 10) (m10 : m ≤ 10) (hh : ∀ k, k < n → h k < 1024) {l : List Nat} {a : Nat} (hm : Met h n m l a) (hx : nxt (clm h n m) a m = none) : l.length = (cons h n m).length ∧ ∀ x y, (x, y) ∈ cons h n m → y ∈ l := by
  obtain ⟨_, hN⟩ := nxt_is (s := a) (clm_closing (m := m) h10 m10 hh) m10
  have hall : ∀ y, y < pw m → clm h n m y = y → y ∈ l := fun y hy hcl => by
    rcases hm.2.2.2 y hy hcl with q | q
    · exact q
    · exact absurd q (hN hx y hy hcl)
  refine ⟨Nat.le_antisymm (hm.le h10 m10 hh) ?_, fun x y hxy => ?_⟩
  · rw [← allM_len]
    exact once_len _ _ allM_once (fun y hy => by have := (allM_mem h10 m10 hh).1 hy; exact hall y this.1 this.2)
  · have := (intent_iff h10 m10 hh).1 ⟨x, hxy⟩
    exact hall y this.1 this.2
end Go.Proofs.Ytpmgengddnafeab
