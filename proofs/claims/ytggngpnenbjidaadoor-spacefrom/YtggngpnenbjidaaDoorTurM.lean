/-
  How many numbers there are of which something is so; what comes of a set by turns. Plain facts: no Go text here. No condition.
-/
import Derived.Test.YtggngpnenbjidaaDoorSpM
namespace Go.Proofs.YtggngpnenbjidaaDoor

def cntT (P : Nat → Bool) : Nat → Nat
  | 0 => 0
  | k + 1 => cntT P k + (if P k = true then 1 else 0)
theorem cntT_le (P : Nat → Bool) : ∀ k, cntT P k ≤ k
  | 0 => Nat.le_refl _
  | k + 1 => by have := cntT_le P k; unfold cntT; split <;> omega
theorem cntT_sub {P Q : Nat → Bool} : ∀ k, (∀ x, x < k → P x = true → Q x = true) → cntT P k ≤ cntT Q k
  | 0, _ => Nat.le_refl _
  | k + 1, h => by
    have h1 := cntT_sub k (fun x hx => h x (by omega))
    unfold cntT
    by_cases hp : P k = true
    · rw [if_pos hp, if_pos (h k (by omega) hp)]; omega
    · rw [if_neg hp]; split <;> omega
theorem cntT_congr {P Q : Nat → Bool} : ∀ k, (∀ x, x < k → P x = Q x) → cntT P k = cntT Q k
  | 0, _ => rfl
  | k + 1, h => by unfold cntT; rw [cntT_congr k (fun x hx => h x (by omega)), h k (by omega)]
/-- One more. -/
def putB (P : Nat → Bool) (s : Nat) (x : Nat) : Bool := P x || decide (x = s)
theorem putB_self (P : Nat → Bool) (s : Nat) : putB P s s = true := by simp [putB]
theorem putB_old {P : Nat → Bool} {s x : Nat} (h : P x = true) : putB P s x = true := by simp [putB, h]
theorem putB_iff {P : Nat → Bool} {s x : Nat} : putB P s x = true ↔ P x = true ∨ x = s := by simp [putB]
theorem cntT_put {P : Nat → Bool} {s : Nat} (hs : P s = false) : ∀ k, s < k → cntT (putB P s) k = cntT P k + 1
  | 0, h => absurd h (Nat.not_lt_zero _)
  | k + 1, h => by
    unfold cntT
    by_cases e : s = k
    · subst e
      rw [putB_self, hs, cntT_congr (Q := P) s (fun x hx => by simp [putB]; omega)]
      simp
    · have h1 : putB P s k = P k := by simp [putB]; omega
      rw [h1, cntT_put hs k (by omega)]; omega
/-- What comes of s by f and h. -/
def Rch (f h : Nat → Nat) (s x : Nat) : Prop := ∀ P : Nat → Prop, P s → (∀ y, P y → P (f y)) → (∀ y, P y → P (h y)) → P x
theorem Rch.self (f h : Nat → Nat) (s : Nat) : Rch f h s s := fun _ h1 _ _ => h1
theorem Rch.ofF {f h : Nat → Nat} {s x : Nat} (k : Rch f h (f s) x) : Rch f h s x := fun P h1 h2 h3 => k P (h2 s h1) h2 h3
theorem Rch.ofH {f h : Nat → Nat} {s x : Nat} (k : Rch f h (h s) x) : Rch f h s x := fun P h1 h2 h3 => k P (h3 s h1) h2 h3
/-- What has been met behind a turn, if M was met ahead of it. -/
structure Met (f h : Nat → Nat) (m s : Nat) (M M' : Nat → Bool) : Prop where
  more : ∀ x, M x = true → M' x = true
  self : M' s = true
  shut : ∀ x, M' x = true → M x = false → M' (f x) = true ∧ M' (h x) = true
  only : ∀ x, M' x = true → M x = true ∨ Rch f h s x
  small : ∀ x, M' x = true → x < m
theorem Met.old {f h : Nat → Nat} {m s : Nat} {M : Nat → Bool} (hs : M s = true) (hm : ∀ x, M x = true → x < m) : Met f h m s M M :=
  ⟨fun _ h => h, hs, fun x h1 h2 => absurd (h1.symm.trans h2) (by decide), fun _ h => .inl h, hm⟩
theorem Met.join {f h : Nat → Nat} {m s : Nat} {M M2 M3 : Nat → Bool} (h2 : Met f h m (f s) (putB M s) M2) (h3 : Met f h m (h s) M2 M3) : Met f h m s M M3 := by
  refine ⟨fun x hx => h3.more x (h2.more x (putB_old hx)), h3.more s (h2.more s (putB_self M s)), fun x h1 h0 => ?_, fun x hx => ?_, h3.small⟩
  · cases e2 : M2 x
    · exact h3.shut x h1 e2
    · cases e1 : putB M s x
      · have := h2.shut x e2 e1
        exact ⟨h3.more _ this.1, h3.more _ this.2⟩
      · rcases putB_iff.1 e1 with e | rfl
        · rw [e] at h0; cases h0
        · exact ⟨h3.more _ h2.self, h3.self⟩
  · rcases h3.only x hx with e | e
    · rcases h2.only x e with e1 | e1
      · rcases putB_iff.1 e1 with e0 | rfl
        · exact .inl e0
        · exact .inr (Rch.self _ _ _)
      · exact .inr e1.ofF
    · exact .inr e.ofH
/-- From nothing on: just what comes of it. -/
theorem Met.all {f h : Nat → Nat} {m s : Nat} {M' : Nat → Bool} (k : Met f h m s (fun _ => false) M') (x : Nat) : M' x = true ↔ Rch f h s x := by
  constructor
  · intro hx
    rcases k.only x hx with e | e
    · cases e
    · exact e
  · intro hx
    exact hx (fun y => M' y = true) k.self (fun y hy => (k.shut y hy rfl).1) (fun y hy => (k.shut y hy rfl).2)
end Go.Proofs.YtggngpnenbjidaaDoor
