/-
  Valdes, Tarjan, Lawler, the mathematics: points none four of which are a path just as it stands fall apart, by what they know or by what is strange to them. Plain facts: no Go text here. Conditions: as each theorem says.
-/

namespace Go.Proofs.YtglkjeidkjkdaaaDoor

/-- What is reached from p over R within S. -/
def Con (R : Nat → Nat → Prop) (S : Nat → Prop) (p x : Nat) : Prop := ∀ Q : Nat → Prop, Q p → (∀ y z, Q y → R y z → S z → Q z) → Q x
theorem Con.self (R : Nat → Nat → Prop) (S : Nat → Prop) (p : Nat) : Con R S p p := fun _ a _ => a
theorem Con.next {R : Nat → Nat → Prop} {S : Nat → Prop} {p y z : Nat} (a : Con R S p y) (h1 : R y z) (h2 : S z) : Con R S p z := fun Q q0 q1 => q1 y z (a Q q0 q1) h1 h2
theorem Con.trans {R : Nat → Nat → Prop} {S : Nat → Prop} {p y z : Nat} (a : Con R S p y) (b : Con R S y z) : Con R S p z := b (fun x => Con R S p x) a fun _ _ h h1 h2 => h.next h1 h2
theorem Con.mem {R : Nat → Nat → Prop} {S : Nat → Prop} {p y : Nat} (hp : S p) (a : Con R S p y) : S y := a S hp fun _ _ _ _ h => h
theorem Con.symm {R : Nat → Nat → Prop} {S : Nat → Prop} (hs : ∀ x y, R x y → R y x) {p y : Nat} (hp : S p) (a : Con R S p y) : Con R S y p :=
  (a (fun x => S x ∧ Con R S x p) ⟨hp, Con.self R S p⟩ fun _ z h h1 h2 => ⟨h2, ((Con.self R S z).next (hs _ _ h1) h.1).trans h.2⟩).2
/-- What R says outside S does not matter. -/
theorem Con.congr {R R' : Nat → Nat → Prop} {S : Nat → Prop} (h : ∀ y z, S y → S z → R y z → R' y z) {p x : Nat} (hp : S p) (a : Con R S p x) : Con R' S p x :=
  (a (fun y => S y ∧ Con R' S p y) ⟨hp, Con.self _ _ _⟩ fun _ _ k hr hz => ⟨hz, k.2.next (h _ _ k.1 hz hr) hz⟩).2
/-- A part whose points reach no point outside it: what is reached within the whole is reached within the part. -/
theorem Con.part {R : Nat → Nat → Prop} {S P : Nat → Prop} {p x : Nat} (hc : ∀ y z, P y → R y z → S z → P z) (hp : P p) (a : Con R S p x) : Con R P p x :=
  (a (fun y => P y ∧ Con R P p y) ⟨hp, Con.self _ _ _⟩ fun _ _ k hr hz => ⟨hc _ _ k.1 hr hz, k.2.next hr (hc _ _ k.1 hr hz)⟩).2

/-- No four points are a path just as it stands. -/
def NoP (R : Nat → Nat → Prop) (l : List Nat) : Prop := ∀ z v x y, z ∈ l → v ∈ l → x ∈ l → y ∈ l → R z v → R v x → R x y → ¬ R z x → ¬ R z y → ¬ R v y → z ≠ v → z ≠ x → z ≠ y → v ≠ x → v ≠ y → x ≠ y → False
theorem NoP.not {R : Nat → Nat → Prop} {l : List Nat} (hs : ∀ x y, R x y → R y x) (h : NoP R l) : NoP (fun x y => ¬ R x y) l := by
  intro a b c d ha hb hc hd h1 h2 h3 h4 h5 h6 n1 n2 n3 n4 n5 n6
  have e4 := Classical.not_not.1 h4
  have e5 := Classical.not_not.1 h5
  have e6 := Classical.not_not.1 h6
  refine h b d a c hb hd ha hc (e6) (hs _ _ e5) e4 (fun k => h1 (hs _ _ k)) h2 (fun k => h3 (hs _ _ k)) ?_ ?_ ?_ ?_ ?_ ?_ <;> (intro k; first | exact n1 k | exact n2 k | exact n3 k | exact n4 k | exact n5 k | exact n6 k | exact n1 k.symm | exact n2 k.symm | exact n3 k.symm | exact n4 k.symm | exact n5 k.symm | exact n6 k.symm)

def Apart (R : Nat → Nat → Prop) (l : List Nat) : Prop := ∃ p q, p ∈ l ∧ q ∈ l ∧ ¬ Con R (· ∈ l) p q
theorem apart_step {R : Nat → Nat → Prop} (hs : ∀ x y, R x y → R y x) {v : Nat} {t : List Nat} (hv : v ∉ t) (hP : NoP R (v :: t)) (hA : Apart R t) : Apart R (v :: t) ∨ Apart (fun x y => ¬ R x y) (v :: t) := by
  refine Classical.byContradiction fun hn => ?_
  have h1 : ∀ p q, p ∈ v :: t → q ∈ v :: t → Con R (· ∈ v :: t) p q := fun p q hp hq => Classical.byContradiction fun k => hn (.inl ⟨p, q, hp, hq, k⟩)
  have h2 : ∀ p q, p ∈ v :: t → q ∈ v :: t → Con (fun x y => ¬ R x y) (· ∈ v :: t) p q := fun p q hp hq => Classical.byContradiction fun k => hn (.inr ⟨p, q, hp, hq, k⟩)
  have mt : ∀ {x}, x ∈ t → x ∈ v :: t := fun h => List.mem_cons_of_mem _ h
  have mv : v ∈ v :: t := List.mem_cons_self ..
  have c1 : ∀ p, p ∈ t → ∃ x, x ∈ t ∧ Con R (· ∈ t) p x ∧ R v x := fun p hp => Classical.byContradiction fun k => by
    have hq := h1 p v (mt hp) mv (fun y => y ∈ t ∧ Con R (· ∈ t) p y) ⟨hp, Con.self _ _ _⟩ fun y z hy hr hz => by
      rcases List.mem_cons.1 hz with rfl | hz
      · exact (k ⟨y, hy.1, hy.2, hs _ _ hr⟩).elim
      · exact ⟨hz, hy.2.next hr hz⟩
    exact hv hq.1
  obtain ⟨p, q, hp, hq, hpq⟩ := hA
  obtain ⟨w, hw, hvw⟩ : ∃ w, w ∈ t ∧ ¬ R v w := Classical.byContradiction fun k => by
    have e := h2 v p mv (mt hp) (fun y => y = v) rfl fun y z hy hr hz => by
      rcases List.mem_cons.1 hz with e | hz
      · exact e
      · exact (k ⟨z, hz, by rw [← hy]; exact hr⟩).elim
    exact hv (e ▸ hp)
  obtain ⟨x0, _, hx0, hvx0⟩ := c1 w hw
  obtain ⟨x, y, hx, hy, hyx, hvx, hvy⟩ : ∃ x y, Con R (· ∈ t) w x ∧ Con R (· ∈ t) w y ∧ R y x ∧ R v x ∧ ¬ R v y := Classical.byContradiction fun k => by
    have e := hx0 (fun y => Con R (· ∈ t) w y ∧ ¬ R v y) ⟨Con.self _ _ _, hvw⟩ fun y z hy hr hz => ⟨hy.1.next hr hz, fun hvz => k ⟨z, y, hy.1.next hr hz, hy.1, hr, hvz, hy.2⟩⟩
    exact e.2 hvx0
  obtain ⟨p', hp', hwp⟩ : ∃ p', p' ∈ t ∧ ¬ Con R (· ∈ t) w p' := Classical.byContradiction fun k => by
    have ha : Con R (· ∈ t) w p := Classical.byContradiction fun j => k ⟨p, hp, j⟩
    have hb : Con R (· ∈ t) w q := Classical.byContradiction fun j => k ⟨q, hq, j⟩
    exact hpq ((ha.symm hs hw).trans hb)
  obtain ⟨z, hz, hpz, hvz⟩ := c1 p' hp'
  have hzp : Con R (· ∈ t) z p' := hpz.symm hs hp'
  have far : ∀ u, Con R (· ∈ t) w u → ¬ R z u ∧ z ≠ u := fun u hu => ⟨fun k => hwp ((hu.next (hs _ _ k) hz).trans hzp), fun k => hwp ((k ▸ hu).trans hzp)⟩
  have hxt : x ∈ t := hx.mem (S := (· ∈ t)) hw
  have hyt : y ∈ t := hy.mem (S := (· ∈ t)) hw
  exact hP z v x y (mt hz) mv (mt hxt) (mt hyt) (hs _ _ hvz) hvx (hs _ _ hyx) (far x hx).1 (far y hy).1 hvy (fun k => hv (k ▸ hz)) (far x hx).2 (far y hy).2 (fun k => hv (k ▸ hxt)) (fun k => hv (k ▸ hyt)) (fun k => hvy (k ▸ hvx))

/-- Two points at least, none four of which are a path just as it stands, fall apart in one of the two ways. -/
theorem apart_of {R : Nat → Nat → Prop} (hs : ∀ x y, R x y → R y x) : ∀ {l : List Nat}, l.Nodup → 2 ≤ l.length → NoP R l → Apart R l ∨ Apart (fun x y => ¬ R x y) l
  | [], _, h, _ => by simp at h
  | [_], _, h, _ => by simp at h
  | [v, u], hd, _, _ => by
    have hvu : v ≠ u := by simp at hd; exact hd
    by_cases h : R v u
    · refine .inr ⟨v, u, by simp, by simp, fun k => ?_⟩
      exact hvu (k (fun y => y = v) rfl fun y z hy hr hz => by
        rcases List.mem_cons.1 hz with e | hz
        · exact e
        · have e : z = u := by simpa using hz
          subst e; subst hy; exact (hr h).elim).symm
    · refine .inl ⟨v, u, by simp, by simp, fun k => ?_⟩
      exact hvu (k (fun y => y = v) rfl fun y z hy hr hz => by
        rcases List.mem_cons.1 hz with e | hz
        · exact e
        · have e : z = u := by simpa using hz
          subst e; subst hy; exact (h hr).elim).symm
  | v :: a :: b :: t, hd, _, hP => by
    have hd' := List.nodup_cons.1 hd
    have hP' : NoP R (a :: b :: t) := fun z v x y hz hv hx hy => hP z v x y (List.mem_cons_of_mem _ hz) (List.mem_cons_of_mem _ hv) (List.mem_cons_of_mem _ hx) (List.mem_cons_of_mem _ hy)
    rcases apart_of hs hd'.2 (by simp) hP' with h | h
    · exact apart_step hs hd'.1 hP h
    · have e : (fun x y => ¬ ¬ R x y) = R := funext fun x => funext fun y => propext Classical.not_not
      have := apart_step (R := fun x y => ¬ R x y) (fun x y k j => k (hs _ _ j)) hd'.1 (hP.not hs) h
      rw [e] at this
      exact this.symm

/-- Two points know one another. -/
def Kn (L : Nat → Nat → Prop) (x y : Nat) : Prop := L x y ∨ L y x
theorem Kn.symm {L : Nat → Nat → Prop} {x y : Nat} (h : Kn L x y) : Kn L y x := Or.symm h
/-- Four points that cannot be split: a and b below c, b below d, and no more. -/
structure Zg (L : Nat → Nat → Prop) (a b c d : Nat) : Prop where
  ac : L a c
  bc : L b c
  bd : L b d
  ab : ¬ Kn L a b
  ad : ¬ Kn L a d
  cd : ¬ Kn L c d
  ne : a ≠ b
theorem noP_of_noZig {L : Nat → Nat → Prop} (ht : ∀ x y z, L x y → L y z → L x z) {l : List Nat} (h : ∀ a b c d, a ∈ l → b ∈ l → c ∈ l → d ∈ l → ¬ Zg L a b c d) : NoP (Kn L) l := by
  intro z v x y hz hv hx hy h1 h2 h3 h4 h5 h6 _ n2 _ _ n5 _
  rcases h1 with h1 | h1
  · have e2 : L x v := h2.resolve_left fun k => h4 (.inl (ht _ _ _ h1 k))
    have e3 : L x y := h3.resolve_right fun k => h6 (.inr (ht _ _ _ k e2))
    exact h z x v y hz hx hv hy ⟨h1, e2, e3, h4, h5, h6, n2⟩
  · have e2 : L v x := h2.resolve_right fun k => h4 (.inr (ht _ _ _ k h1))
    have e3 : L y x := h3.resolve_left fun k => h6 (.inl (ht _ _ _ e2 k))
    exact h y v x z hy hv hx hz ⟨e3, e2, h1, fun k => h6 k.symm, fun k => h5 k.symm, fun k => h4 k.symm, fun k => n5 k.symm⟩
/-- The four of a zig hang together in both ways. -/
theorem Zg.known {L : Nat → Nat → Prop} {S : Nat → Prop} {a b c d : Nat} (h : Zg L a b c d) (hb : S b) (hc : S c) (hd : S d) : Con (Kn L) S a b ∧ Con (Kn L) S a c ∧ Con (Kn L) S a d := by
  have e1 : Con (Kn L) S a c := (Con.self _ _ _).next (.inl h.ac) hc
  have e2 : Con (Kn L) S a b := e1.next (.inr h.bc) hb
  exact ⟨e2, e1, e2.next (.inl h.bd) hd⟩
theorem Zg.strange {L : Nat → Nat → Prop} {S : Nat → Prop} {a b c d : Nat} (h : Zg L a b c d) (hb : S b) (hc : S c) (hd : S d) : Con (fun x y => ¬ Kn L x y) S a b ∧ Con (fun x y => ¬ Kn L x y) S a c ∧ Con (fun x y => ¬ Kn L x y) S a d := by
  have e1 : Con (fun x y => ¬ Kn L x y) S a b := (Con.self _ _ _).next h.ab hb
  have e2 : Con (fun x y => ¬ Kn L x y) S a d := (Con.self _ _ _).next h.ad hd
  exact ⟨e1, e2.next (fun k => h.cd k.symm) hc, e2⟩
/-- Of two pieces that are strange to one another by no point, one is below the other, whole. -/
theorem over_of {L : Nat → Nat → Prop} (ht : ∀ x y z, L x y → L y z → L x z) {S : Nat → Prop} {p q : Nat} (hq : S q) (hn : ¬ Con (fun x y => ¬ Kn L x y) S p q) (hL : L p q) : ∀ x y, Con (fun x y => ¬ Kn L x y) S p x → Con (fun x y => ¬ Kn L x y) S q y → L x y := by
  have hs : ∀ x y, ¬ Kn L x y → ¬ Kn L y x := fun x y k j => k j.symm
  have far : ∀ x y, Con (fun x y => ¬ Kn L x y) S p x → Con (fun x y => ¬ Kn L x y) S q y → Kn L x y := fun x y hx hy => Classical.byContradiction fun k => by
    have hyS : S y := hy.mem hq
    exact hn ((hx.next k hyS).trans (hy.symm hs hq))
  have h1 : ∀ x, Con (fun x y => ¬ Kn L x y) S p x → L x q := fun x hx =>
    (hx (fun x => Con (fun x y => ¬ Kn L x y) S p x ∧ L x q) ⟨Con.self _ _ _, hL⟩ fun x z h hr hz => ⟨h.1.next hr hz, (far z q (h.1.next hr hz) (Con.self _ _ _)).resolve_right fun k => hr (.inl (ht _ _ _ h.2 k))⟩).2
  intro x y hx hy
  exact (hy (fun y => Con (fun x y => ¬ Kn L x y) S q y ∧ L x y) ⟨Con.self _ _ _, h1 x hx⟩ fun y z h hr hz => ⟨h.1.next hr hz, (far x z hx (h.1.next hr hz)).resolve_right fun k => hr (.inr (ht _ _ _ k h.2))⟩).2

end Go.Proofs.YtglkjeidkjkdaaaDoor
