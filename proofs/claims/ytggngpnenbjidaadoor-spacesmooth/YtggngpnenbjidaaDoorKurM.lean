/-
  Kuratowski's fourteen: how many sets come of a set by closures and rests. Plain facts: no Go text here. Conditions: as each theorem says.
-/
import Derived.Test.YtggngpnenbjidaaDoorTurQ
namespace Go.Proofs.YtggngpnenbjidaaDoor

theorem nodup_len {α : Type} : ∀ (c l : List α), c.Nodup → (∀ x ∈ c, x ∈ l) → c.length ≤ l.length
  | [], _, _, _ => Nat.zero_le _
  | x :: c, l, hn, hs => by
    obtain ⟨l1, l2, rfl⟩ := List.append_of_mem (hs x (List.mem_cons_self ..))
    have hx := List.nodup_cons.1 hn
    have := nodup_len c (l1 ++ l2) hx.2 (fun y hy => by
      have h1 := hs y (List.mem_cons_of_mem _ hy)
      have h2 : y ≠ x := fun e => hx.1 (by rw [← e]; exact hy)
      rw [List.mem_append, List.mem_cons] at h1
      rw [List.mem_append]
      rcases h1 with h | h | h
      · exact .inl h
      · exact absurd h h2
      · exact .inr h)
    simp only [List.length_append, List.length_cons] at this ⊢
    omega
theorem fil_mem {I : Nat → Bool} {x : Nat} : ∀ k, x ∈ fil I k ↔ x < k ∧ I x = true
  | 0 => by simp [fil]
  | k + 1 => by
    cases h : I k
    · rw [fil_no h, fil_mem k]
      constructor
      · rintro ⟨h1, h2⟩; exact ⟨by omega, h2⟩
      · rintro ⟨h1, h2⟩
        refine ⟨?_, h2⟩
        rcases Nat.lt_or_ge x k with h3 | h3
        · exact h3
        · obtain rfl : x = k := by omega
          rw [h] at h2; cases h2
    · rw [fil_yes h, List.mem_append, List.mem_singleton, fil_mem k]
      constructor
      · rintro (⟨h1, h2⟩ | rfl)
        · exact ⟨by omega, h2⟩
        · exact ⟨by omega, h⟩
      · rintro ⟨h1, h2⟩
        rcases Nat.lt_or_ge x k with h3 | h3
        · exact .inl ⟨h3, h2⟩
        · exact .inr (by omega)
theorem fil_cnt (I : Nat → Bool) : ∀ k, (fil I k).length = cntT I k
  | 0 => rfl
  | k + 1 => by
    cases h : I k
    · rw [fil_no h, fil_cnt I k, cntT, h]; rfl
    · rw [fil_yes h, List.length_append, fil_cnt I k, cntT, h]; rfl
theorem fil_nodup (I : Nat → Bool) : ∀ k, (fil I k).Nodup
  | 0 => List.nodup_nil
  | k + 1 => by
    cases h : I k
    · rw [fil_no h]; exact fil_nodup I k
    · rw [fil_yes h, List.nodup_append]
      refine ⟨fil_nodup I k, by simp, fun a ha b hb => ?_⟩
      rw [List.mem_singleton] at hb
      have := ((fil_mem k).1 ha).1
      omega
theorem cnt_list {M : Nat → Bool} {m : Nat} {L : List Nat} (h : ∀ x, M x = true → x ∈ L) : cntT M m ≤ L.length := by
  rw [← fil_cnt]
  exact nodup_len _ _ (fil_nodup M m) fun x hx => h x ((fil_mem m).1 hx).2
/-- Closed, rest, closed, rest, closed, rest and closed it is as closed, rest and closed. -/
theorem clo_seven {g : Nat → Nat} {n s : Nat} (hn : n ≤ 10) (hg : ∀ k, k < n → g k < pw n) (ho : Ord n g) (hs : s < pw n) :
    clo g (rst n (clo g (rst n (clo g (rst n (clo g s)))))) = clo g (rst n (clo g s)) := by
  have h1 := clo_lt hg hs
  have h2 : rst n (clo g s) < pw n := rst_lt
  have h3 := clo_lt hg h2
  have h4 : rst n (clo g (rst n (clo g s))) < pw n := rst_lt
  have h5 := clo_lt hg h4
  have h6 : rst n (clo g (rst n (clo g (rst n (clo g s))))) < pw n := rst_lt
  have h7 := clo_lt hg h6
  refine Sub.anti h7 h3 ?_ ?_
  · -- inside of closure of inside is within the closure of inside
    have a1 : Sub (rst n (clo g (rst n (clo g s)))) (clo g (rst n (clo g (rst n (clo g s))))) := clo_sub hn h4
    have a2 : Sub (rst n (clo g (rst n (clo g (rst n (clo g s)))))) (rst n (rst n (clo g (rst n (clo g s))))) := rst_anti hn h4 h5 a1
    rw [rst_rst hn h3] at a2
    have a3 := clo_mono (g := g) hn h6 h3 a2
    rw [clo_clo hn hg ho h2] at a3
    exact a3
  · have b1 : Sub (rst n (clo g s)) (clo g (rst n (clo g s))) := clo_sub hn h2
    have b2 : Sub (rst n (clo g (rst n (clo g s)))) (rst n (rst n (clo g s))) := rst_anti hn h2 h3 b1
    rw [rst_rst hn h1] at b2
    have b3 := clo_mono (g := g) hn h4 h1 b2
    rw [clo_clo hn hg ho hs] at b3
    have b4 := rst_anti hn h5 h1 b3
    exact clo_mono (g := g) hn h2 h6 b4
/-- Seven sets. -/
def sev (g : Nat → Nat) (n s : Nat) : List Nat := [s, clo g s, rst n (clo g s), clo g (rst n (clo g s)), rst n (clo g (rst n (clo g s))), clo g (rst n (clo g (rst n (clo g s)))), rst n (clo g (rst n (clo g (rst n (clo g s)))))]
theorem sev_lt {g : Nat → Nat} {n s : Nat} (hg : ∀ k, k < n → g k < pw n) (hs : s < pw n) {x : Nat} (hx : x ∈ sev g n s) : x < pw n := by
  have h1 := clo_lt hg hs
  have h3 : clo g (rst n (clo g s)) < pw n := clo_lt hg rst_lt
  have h5 : clo g (rst n (clo g (rst n (clo g s)))) < pw n := clo_lt hg rst_lt
  simp only [sev, List.mem_cons, List.not_mem_nil, or_false] at hx
  rcases hx with rfl | rfl | rfl | rfl | rfl | rfl | rfl
  · exact hs
  · exact h1
  · exact rst_lt
  · exact h3
  · exact rst_lt
  · exact h5
  · exact rst_lt
theorem sev_clo {g : Nat → Nat} {n s : Nat} (hn : n ≤ 10) (hg : ∀ k, k < n → g k < pw n) (ho : Ord n g) (hs : s < pw n) {x : Nat} (hx : x ∈ sev g n s) : clo g x ∈ sev g n s := by
  have h1 := clo_lt hg hs
  have e7 := clo_seven hn hg ho hs
  simp only [sev, List.mem_cons, List.not_mem_nil, or_false] at hx ⊢
  rcases hx with rfl | rfl | rfl | rfl | rfl | rfl | rfl
  · simp
  · rw [clo_clo hn hg ho hs]; simp
  · simp
  · rw [clo_clo hn hg ho rst_lt]; simp
  · simp
  · rw [clo_clo hn hg ho rst_lt]; simp
  · rw [e7]; simp
theorem sev_rst {g : Nat → Nat} {n s : Nat} (hn : n ≤ 10) (hg : ∀ k, k < n → g k < pw n) (hs : s < pw n) {x : Nat} (hx : x ∈ sev g n s) : x = s ∨ rst n x ∈ sev g n s := by
  have h1 := clo_lt hg hs
  have h3 : clo g (rst n (clo g s)) < pw n := clo_lt hg rst_lt
  have h5 : clo g (rst n (clo g (rst n (clo g s)))) < pw n := clo_lt hg rst_lt
  simp only [sev, List.mem_cons, List.not_mem_nil, or_false] at hx ⊢
  rcases hx with rfl | rfl | rfl | rfl | rfl | rfl | rfl
  · exact .inl rfl
  · right; simp
  · right; rw [rst_rst hn h1]; simp
  · right; simp
  · right; rw [rst_rst hn h3]; simp
  · right; simp
  · right; rw [rst_rst hn h5]; simp
theorem turns_few {g : Nat → Nat} {n s : Nat} {x : Int} (hn : n ≤ 10) (hg : ∀ k, k < n → g k < pw n) (ho : Ord n g) (hs : s < pw n) (h : TrnIs g n s x) : 1 ≤ x ∧ x ≤ 14 := by
  obtain ⟨M, hM, hsm, rfl⟩ := h
  have hr : rst n s < pw n := rst_lt
  have h14 : ∀ y, M y = true → y ∈ sev g n s ++ sev g n (rst n s) := fun y hy => by
    refine (hM y).1 hy (fun z => z ∈ sev g n s ++ sev g n (rst n s)) ?_ ?_ ?_
    · rw [List.mem_append]; exact .inl (by simp [sev])
    · intro z hz
      rw [List.mem_append] at hz ⊢
      rcases hz with hz | hz
      · exact .inl (sev_clo hn hg ho hs hz)
      · exact .inr (sev_clo hn hg ho hr hz)
    · intro z hz
      rw [List.mem_append] at hz ⊢
      rcases hz with hz | hz
      · rcases sev_rst hn hg hs hz with rfl | h
        · exact .inr (by simp [sev])
        · exact .inl h
      · rcases sev_rst hn hg hr hz with rfl | h
        · left; rw [rst_rst hn hs]; simp [sev]
        · exact .inr h
  have hle := cnt_list (m := pw n) h14
  have hself : M s = true := (hM s).2 (Rch.self _ _ _)
  have hone : cntT (fun y => y == s) (pw n) ≤ cntT M (pw n) := cntT_sub _ fun y _ hy => by
    have e : y = s := by simpa using hy
    rw [e]; exact hself
  have h1 : cntT (fun y => y == s) (pw n) = 1 := by
    have e := cntT_put (P := fun _ => false) (s := s) rfl (pw n) hs
    rw [cntT_none] at e
    exact (cntT_congr (Q := putB (fun _ => false) s) _ fun y _ => by by_cases h : y = s <;> simp [putB, h]).trans e
  have hlen : (sev g n s ++ sev g n (rst n s)).length = 14 := by simp [sev]
  omega
end Go.Proofs.YtggngpnenbjidaaDoor
