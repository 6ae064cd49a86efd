/-
  An order is that of the irreducible ones among its ideals: each of them is all up to one point. Conditions: an order of at most ten points.
-/
import Derived.Test.YtpgbcnbhfgopdaaBirM
namespace Go.Proofs.Ytpgbcnbhfgopdaa

/-- A point and all below it. -/
def upb (g : Nat → Nat) (k : Nat) : Nat := g k ||| pw k
theorem upb_bit (g : Nat → Nat) (k i : Nat) : (upb g k).testBit i = true ↔ k = i ∨ (g k).testBit i = true := by
  unfold upb
  rw [Nat.testBit_or, pw_bit, Bool.or_eq_true, decide_eq_true_iff, Or.comm]
theorem sub_eq {s t : Nat} (h : Sub s t) (h' : Sub t s) : s = t := by
  apply Nat.eq_of_testBit_eq
  intro i
  rw [Bool.eq_iff_iff]
  exact ⟨h i, h' i⟩
theorem addb_ok : ((List.range 1024).all fun x => (List.range 10).all fun c => x.testBit c || (x + 2 ^ c == (x ||| 2 ^ c))) = true := by decide +kernel

/-- An order of at most ten points, by what is below each. -/
structure OT (g : Nat → Nat) (n : Nat) : Prop where
  n10 : n ≤ 10
  lt : ∀ k, k < n → g k < pw n
  ord : Ord n g
section
variable {g : Nat → Nat} {n : Nat}
theorem OT.small (h : OT g n) : ∀ k, k < n → g k < 1024 := fun k hk => set_small (h.lt k hk) h.n10
theorem OT.add (h : OT g n) {c : Nat} (hc : c < n) : g c + pw c = upb g c := by
  have h1 := (h.ord c hc).1
  have hn := h.n10
  have h2 := List.all_eq_true.1 (List.all_eq_true.1 addb_ok (g c) (List.mem_range.2 (h.small c hc))) c (List.mem_range.2 (by omega))
  rw [h1, Bool.false_or, beq_iff_eq] at h2
  exact h2
theorem OT.tr (h : OT g n) {a b i : Nat} (ha : a < n) (hb : b < n) (h1 : (g b).testBit a = true) (h2 : (g a).testBit i = true) : (g b).testBit i = true :=
  (lack_zero _ _ (Nat.lt_trans (h.small a ha) (by decide)) (Nat.lt_trans (h.small b hb) (by decide))).1 ((h.ord b hb).2 a ha h1) i h2
theorem OT.idl (h : OT g n) {k : Nat} (hk : k < n) : Idl g n (g k) := fun _ hp hb _ hi => h.tr hp hk hb hi
theorem OT.upb_idl (h : OT g n) {k : Nat} (hk : k < n) : Idl g n (upb g k) := fun p hp hb i hi => by
  rw [upb_bit] at hb ⊢
  rcases hb with rfl | hb
  · exact .inr hi
  · exact .inr (h.tr hp hk hb hi)
theorem OT.upb_lt (h : OT g n) {k : Nat} (hk : k < n) : upb g k < pw n := Nat.or_lt_two_pow (h.lt k hk) (Nat.pow_lt_pow_right (by decide) hk)
theorem upb_sub {s k : Nat} (h : Idl g n s) (hk : k < n) (hb : s.testBit k = true) : Sub (upb g k) s := fun i hi => by
  rw [upb_bit] at hi
  rcases hi with rfl | hi
  · exact hb
  · exact h k hk hb i hi
theorem OT.upb_le (h : OT g n) {a b : Nat} (ha : a < n) (hb : b < n) : Sub (upb g a) (upb g b) ↔ b = a ∨ (g b).testBit a = true := by
  constructor
  · intro hs; exact (upb_bit g b a).1 (hs a ((upb_bit g a a).2 (.inl rfl)))
  · intro he; exact upb_sub (h.upb_idl hb) ha ((upb_bit g b a).2 he)
theorem OT.upb_one (h : OT g n) {a b : Nat} (ha : a < n) (hb : b < n) (e : upb g a = upb g b) : a = b := by
  rcases (h.upb_le ha hb).1 (by rw [e]; exact fun _ h => h) with h1 | h1
  · exact h1.symm
  · rcases (h.upb_le hb ha).1 (by rw [e]; exact fun _ h => h) with h2 | h2
    · exact h2
    · have := h.tr hb ha h2 h1
      rw [(h.ord a ha).1] at this; cases this
theorem OT.at (h : OT g n) {x : Nat} (hx : x < (idls g n).length) : nth (idls g n) x < pw n ∧ Idl g n (nth (idls g n) x) := idls_at h.n10 h.small hx
theorem OT.one {x y : Nat} (hx : x < (idls g n).length) (hy : y < (idls g n).length) (e : nth (idls g n) x = nth (idls g n) y) : x = y := (fil_rises _ _).one hx hy e
theorem OT.has (h : OT g n) {s : Nat} (hs : s < pw n) (hI : Idl g n s) : ∃ x, x < (idls g n).length ∧ nth (idls g n) x = s := ⟨_, plc_is ((idls_mem h.n10 h.small).2 ⟨hs, hI⟩)⟩
theorem OT.m (h : OT g n) {x y : Nat} (hx : x < (idls g n).length) (hy : y < (idls g n).length) : idm g n x y < (idls g n).length ∧ nth (idls g n) (idm g n x y) = nth (idls g n) x &&& nth (idls g n) y := idm_is h.n10 h.small hx hy
theorem OT.j (h : OT g n) {x y : Nat} (hx : x < (idls g n).length) (hy : y < (idls g n).length) : idj g n x y < (idls g n).length ∧ nth (idls g n) (idj g n x y) = nth (idls g n) x ||| nth (idls g n) y := idj_is h.n10 h.small hx hy
theorem OT.le (h : OT g n) {x y : Nat} (hx : x < (idls g n).length) (hy : y < (idls g n).length) : idm g n x y = x ↔ Sub (nth (idls g n) x) (nth (idls g n) y) := by
  obtain ⟨h1, h2⟩ := h.m hx hy
  constructor
  · intro e i hi
    rw [e] at h2
    rw [h2, Nat.testBit_and, Bool.and_eq_true] at hi
    exact hi.2
  · intro hs
    refine OT.one h1 hx ?_
    rw [h2]
    exact sub_eq (fun i hi => by rw [Nat.testBit_and, Bool.and_eq_true] at hi; exact hi.1) (fun i hi => by rw [Nat.testBit_and, Bool.and_eq_true]; exact ⟨hi, hs i hi⟩)
/-- The ideals are a lattice. -/
theorem OT.lat (h : OT g n) : Lat (idls g n).length (idm g n) (idj g n) := by
  have im : Inn (idls g n).length (idm g n) := fun x y hx hy => (h.m hx hy).1
  have ij : Inn (idls g n).length (idj g n) := fun x y hx hy => (h.j hx hy).1
  have ab : ∀ s t : Nat, s &&& (s ||| t) = s := fun s t => by
    apply Nat.eq_of_testBit_eq; intro i; rw [Nat.testBit_and, Nat.testBit_or]; cases s.testBit i <;> simp
  have ba : ∀ s t : Nat, s ||| (s &&& t) = s := fun s t => by
    apply Nat.eq_of_testBit_eq; intro i; rw [Nat.testBit_or, Nat.testBit_and]; cases s.testBit i <;> simp
  refine ⟨im, ij, lws_iff.2 fun x y z hx hy hz => ⟨?_, ?_, ?_, ?_⟩, lws_iff.2 fun x y z hx hy hz => ⟨?_, ?_, ?_, ?_⟩⟩
  · exact OT.one (im _ _ hx hx) hx (by rw [(h.m hx hx).2, Nat.and_self])
  · exact OT.one (im _ _ hx hy) (im _ _ hy hx) (by rw [(h.m hx hy).2, (h.m hy hx).2, Nat.and_comm])
  · exact OT.one (im _ _ hx (im _ _ hy hz)) (im _ _ (im _ _ hx hy) hz) (by rw [(h.m hx (im _ _ hy hz)).2, (h.m hy hz).2, (h.m (im _ _ hx hy) hz).2, (h.m hx hy).2, Nat.and_assoc])
  · exact OT.one (im _ _ hx (ij _ _ hx hy)) hx (by rw [(h.m hx (ij _ _ hx hy)).2, (h.j hx hy).2, ab])
  · exact OT.one (ij _ _ hx hx) hx (by rw [(h.j hx hx).2, Nat.or_self])
  · exact OT.one (ij _ _ hx hy) (ij _ _ hy hx) (by rw [(h.j hx hy).2, (h.j hy hx).2, Nat.or_comm])
  · exact OT.one (ij _ _ hx (ij _ _ hy hz)) (ij _ _ (ij _ _ hx hy) hz) (by rw [(h.j hx (ij _ _ hy hz)).2, (h.j hy hz).2, (h.j (ij _ _ hx hy) hz).2, (h.j hx hy).2, Nat.or_assoc])
  · exact OT.one (ij _ _ hx (im _ _ hx hy)) hx (by rw [(h.j hx (im _ _ hx hy)).2, (h.m hx hy).2, ba])
theorem OT.dis (h : OT g n) : All3 (idls g n).length (disB (idm g n) (idj g n)) := fun x y z hx hy hz => by
  have im : Inn (idls g n).length (idm g n) := fun x y hx hy => (h.m hx hy).1
  have ij : Inn (idls g n).length (idj g n) := fun x y hx hy => (h.j hx hy).1
  have := OT.one (g := g) (n := n) (im _ _ hx (ij _ _ hy hz)) (ij _ _ (im _ _ hx hy) (im _ _ hx hz)) (by
    rw [(h.m hx (ij _ _ hy hz)).2, (h.j hy hz).2, (h.j (im _ _ hx hy) (im _ _ hx hz)).2, (h.m hx hy).2, (h.m hx hz).2]
    apply Nat.eq_of_testBit_eq
    intro i
    simp only [Nat.testBit_and, Nat.testBit_or]
    cases (nth (idls g n) x).testBit i <;> simp)
  simpa [disB] using this
theorem OT.pos (h : OT g n) : 1 ≤ (idls g n).length := idls_pos h.n10 h.small
/-- Irreducible are the ideals up to one point. -/
theorem OT.irr (h : OT g n) {x : Nat} (hx : x < (idls g n).length) : irrB (idm g n) (idj g n) (idls g n).length x = true ↔ ∃ k, k < n ∧ nth (idls g n) x = upb g k := by
  have hL := h.lat
  have hJ := jbl_lt (x := x) h.pos hL.im hL.ij _ (Nat.le_refl _)
  constructor
  · intro hi
    refine Classical.byContradiction fun hno => ?_
    have e : jbl (idm g n) (idj g n) (idls g n).length x (idls g n).length = x := by
      refine hL.le_anti hJ hx (hL.jbl_up h.pos hx _ (Nat.le_refl _)) ((h.le hx hJ).2 fun k hk => ?_)
      have hkn : k < n := bit_of_lt (h.at hx).1 hk
      obtain ⟨u, hu, eu⟩ := h.has (h.upb_lt hkn) (h.upb_idl hkn)
      have hle : idm g n u x = u := (h.le hu hx).2 (by rw [eu]; exact upb_sub (h.at hx).2 hkn hk)
      have hne : u ≠ x := fun e => hno ⟨k, hkn, by rw [← e, eu]⟩
      have := hL.jbl_over h.pos (x := x) _ (Nat.le_refl _) u hu (ltB_iff.2 ⟨hne, hle⟩)
      refine (h.le hu hJ).1 this k ?_
      rw [eu, upb_bit]; exact .inl rfl
    simp [irrB, e] at hi
  · rintro ⟨k, hk, ek⟩
    obtain ⟨d, hd, ed⟩ := h.has (h.lt k hk) (h.idl hk)
    have hl := hL.jbl_least h.pos (x := x) hd (fun y hy hlt => by
      obtain ⟨hne, hle⟩ := ltB_iff.1 hlt
      refine (h.le hy hd).2 fun i hi => ?_
      have hs := (h.le hy hx).1 hle
      have h1 := hs i hi
      rw [ek, upb_bit] at h1
      rw [ed]
      rcases h1 with rfl | h1
      · refine absurd (OT.one hy hx (sub_eq hs ?_)) hne
        rw [ek]; exact upb_sub (h.at hy).2 hk hi
      · exact h1) _ (Nat.le_refl _)
    have hs := (h.le hJ hd).1 hl
    cases e : irrB (idm g n) (idj g n) (idls g n).length x
    · have e2 : jbl (idm g n) (idj g n) (idls g n).length x (idls g n).length = x := by simpa [irrB] using e
      rw [e2, ek, ed] at hs
      have := hs k ((upb_bit g k k).2 (.inl rfl))
      rw [(h.ord k hk).1] at this; cases this
    · rfl
/-- The irreducible ones, in rising order. -/
def ir (g : Nat → Nat) (n : Nat) : List Nat := irrs (idm g n) (idj g n) (idls g n).length
theorem OT.pt (h : OT g n) {i : Nat} (hi : i < (ir g n).length) : nth (ir g n) i < (idls g n).length ∧ ∃ k, k < n ∧ nth (idls g n) (nth (ir g n) i) = upb g k := by
  obtain ⟨h1, h2⟩ := irrs_at hi
  exact ⟨h1, (h.irr h1).1 h2⟩
theorem OT.sur (h : OT g n) {k : Nat} (hk : k < n) : ∃ i, i < (ir g n).length ∧ nth (idls g n) (nth (ir g n) i) = upb g k := by
  obtain ⟨u, hu, eu⟩ := h.has (h.upb_lt hk) (h.upb_idl hk)
  obtain ⟨i, hi, ei⟩ := irrs_has hu ((h.irr hu).2 ⟨k, hk, eu⟩)
  exact ⟨i, hi, by unfold ir; rw [ei, eu]⟩
theorem ir_one {i j : Nat} (hi : i < (ir g n).length) (hj : j < (ir g n).length) (e : nth (ir g n) i = nth (ir g n) j) : i = j := (filt_rises _ _).one hi hj e
theorem OT.ex (h : OT g n) : ∃ κ : Nat → Nat, ∀ i, i < (ir g n).length → κ i < n ∧ nth (idls g n) (nth (ir g n) i) = upb g (κ i) :=
  ⟨fun i => if hi : i < (ir g n).length then Classical.choose (h.pt hi).2 else 0, fun i hi => by
    simp only [dif_pos hi]
    exact Classical.choose_spec (h.pt hi).2⟩
theorem OT.len (h : OT g n) : (ir g n).length = n := by
  obtain ⟨κ, hκ⟩ := h.ex
  apply Nat.le_antisymm
  · refine php _ n κ (fun i hi => (hκ i hi).1) fun i j hi hj e => ir_one hi hj (OT.one (h.pt hi).1 (h.pt hj).1 ?_)
    rw [(hκ i hi).2, (hκ j hj).2, e]
  · refine php n _ (fun k => if hk : k < n then Classical.choose (h.sur hk) else 0) (fun k hk => ?_) fun a b ha hb e => ?_
    · simp only [dif_pos hk]
      exact (Classical.choose_spec (h.sur hk)).1
    · simp only [dif_pos ha, dif_pos hb] at e
      refine h.upb_one ha hb ?_
      rw [← (Classical.choose_spec (h.sur ha)).2, ← (Classical.choose_spec (h.sur hb)).2, e]
/-- Which point the i-th irreducible ideal is up to. -/
structure Pts (g : Nat → Nat) (n : Nat) (κ : Nat → Nat) : Prop where
  lt : ∀ i, i < n → κ i < n
  is : ∀ i, i < n → nth (ir g n) i < (idls g n).length ∧ nth (idls g n) (nth (ir g n) i) = upb g (κ i)
  onto : ∀ k, k < n → ∃ i, i < n ∧ κ i = k
theorem OT.pts (h : OT g n) : ∃ κ, Pts g n κ := by
  obtain ⟨κ, hκ⟩ := h.ex
  have hl := h.len
  rw [hl] at hκ
  refine ⟨κ, fun i hi => (hκ i hi).1, fun i hi => ⟨(h.pt (by omega)).1, (hκ i hi).2⟩, fun k hk => ?_⟩
  obtain ⟨i, hi, e⟩ := h.sur hk
  rw [hl] at hi
  exact ⟨i, hi, h.upb_one (hκ i hi).1 hk (by rw [← (hκ i hi).2, e])⟩
theorem OT.only (h : OT g n) {κ : Nat → Nat} (hp : Pts g n κ) {i k : Nat} (hi : i < n) (hk : k < n) : nth (idls g n) (nth (ir g n) i) = upb g k ↔ κ i = k := by
  rw [(hp.is i hi).2]
  exact ⟨fun e => h.upb_one (hp.lt i hi) hk e, fun e => by rw [e]⟩
theorem OT.less (h : OT g n) {κ : Nat → Nat} (hp : Pts g n κ) {a b : Nat} (ha : a < n) (hb : b < n) : (pbl (idm g n) (idj g n) (idls g n).length b).testBit a = (g (κ b)).testBit (κ a) := by
  have hl := h.len
  rw [pbl_bit, Bool.eq_iff_iff]
  show (decide (a < (ir g n).length) && (!(a == b) && leB (idm g n) (nth (ir g n) a) (nth (ir g n) b))) = true ↔ _
  rw [hl, Bool.and_eq_true, Bool.and_eq_true, decide_eq_true_iff, leB_iff, h.le (hp.is a ha).1 (hp.is b hb).1, (hp.is a ha).2, (hp.is b hb).2, h.upb_le (hp.lt a ha) (hp.lt b hb)]
  have hne : (κ b = κ a) ↔ a = b := by
    refine ⟨fun e => ?_, fun e => by rw [e]⟩
    refine ir_one (by omega) (by omega) (OT.one (hp.is a ha).1 (hp.is b hb).1 ?_)
    rw [(hp.is a ha).2, (hp.is b hb).2, e]
  rw [hne]
  constructor
  · rintro ⟨_, h1, h2 | h2⟩
    · simp [h2] at h1
    · exact h2
  · intro h1
    refine ⟨ha, ?_, .inr h1⟩
    have : a ≠ b := fun e => by
      subst e
      rw [(h.ord _ (hp.lt a ha)).1] at h1; cases h1
    simpa using this
/-- The first k of them. -/
def kpl (κ : Nat → Nat) : Nat → List Nat
  | 0 => []
  | k + 1 => kpl κ k ++ [κ k]
theorem kpl_len (κ : Nat → Nat) : ∀ k, (kpl κ k).length = k
  | 0 => rfl
  | k + 1 => by simp [kpl, kpl_len κ k]
theorem kpl_at (κ : Nat → Nat) : ∀ k i, i < k → nth (kpl κ k) i = κ i
  | 0, _, hi => absurd hi (Nat.not_lt_zero _)
  | k + 1, i, hi => by
    unfold kpl
    by_cases e : i = k
    · subst e
      have := nth_app_r (kpl κ i) (κ i)
      rw [kpl_len] at this; exact this
    · rw [nth_app_l (by rw [kpl_len]; omega)]
      exact kpl_at κ k i (by omega)
end
end Go.Proofs.Ytpgbcnbhfgopdaa
