/-
  All congruences, found one by one: what is closed under taking two more elements together has every congruence; sorted lists without twins that have the same members are one list; and how many congruences there are, told by the least ones of two elements. Plain facts on numbers, and a list of rows that grows.
-/
import Derived.Test.YtappekjkcgmheaaQfR
import Derived.Test.YtappekjkcgmheaaLwM
import Derived.Test.YtappekjkcgmheaaSrtP
import Derived.Test.YtappekjkcgmheaaSrtL
import Derived.Test.YtappekjkcgmheaaCmpP
namespace Go.Proofs.Ytappekjkcgmheaa
open Go.RowKit
set_option maxRecDepth 100000

theorem cls_id (k : Nat) : clsN (fun x => x) k = k := by
  induction k with
  | zero => rfl
  | succ k ih =>
    have hf : frst (fun x => x) k = true := frst_iff.2 fun i hi e => by have e2 : i = k := e; omega
    have h : clsN (fun x => x) (k + 1) = clsN (fun x => x) k + 1 := cntB_yes hf
    rw [h, ih]
theorem nbr_id (k : Nat) : nbr (fun x => x) k = k := by
  have hf : frst (fun x => x) k = true := frst_iff.2 fun i hi e => by have e2 : i = k := e; omega
  rw [nbr_new hf, cls_id]
theorem con_id (q : Nat) (m j : Nat → Nat → Nat) : Con q m j (fun x => x) := fun x y z _ _ _ e => by
  obtain rfl : x = y := e
  exact ⟨rfl, rfl⟩
/-- The least congruence of classes by their numbers. -/
def LwN (q : Nat) (m j : Nat → Nat → Nat) (c0 : Nat → Nat) (s t : Nat) (g : Nat → Nat) : Prop := ∃ c, LeastW q m j c0 s t c ∧ ∀ k, k < q → g k = nbr c k
theorem LwN.cg {q : Nat} {m j : Nat → Nat → Nat} {c0 : Nat → Nat} {s t : Nat} {g : Nat → Nat} (h : LwN q m j c0 s t g) : Cg q m j g := by
  obtain ⟨c, h1, h2⟩ := h
  exact ⟨c, h1.1, h2⟩
/-- What has been found so far: of the classes ahead of i, and of i's pairs ahead of x and y, all that must be. -/
structure CgI (q : Nat) (m j : Nat → Nat → Nat) (n : Nat) (G : Nat → Nat → Nat) (i x y : Nat) : Prop where
  cg : ∀ a, a < n → Cg q m j (G a)
  df : ∀ a b, a < b → b < n → ¬ ∀ k, k < q → G a k = G b k
  cl : ∀ a s t, a < n → s < q → t < s → (a < i ∨ (a = i ∧ (s < x ∨ (s = x ∧ t < y)))) → G a s ≠ G a t → ∃ b, b < n ∧ LwN q m j (G a) s t (G b)
  one : ∃ a, a < n ∧ ∀ k, k < q → G a k = k
theorem CgI.start {q : Nat} {m j : Nat → Nat → Nat} {G : Nat → Nat → Nat} (h : ∀ k, k < q → G 0 k = k) : CgI q m j 1 G 0 0 0 :=
  ⟨fun a ha => by
    obtain rfl : a = 0 := by omega
    exact ⟨fun x => x, con_id q m j, fun k hk => by rw [h k hk, nbr_id]⟩, fun a b hab hb => by omega, fun a s t ha hs ht h1 => by omega, ⟨0, by omega, h⟩⟩
theorem CgI.skip {q : Nat} {m j : Nat → Nat → Nat} {n : Nat} {G : Nat → Nat → Nat} {i x y : Nat} (h : CgI q m j n G i x y) (e : G i x = G i y) : CgI q m j n G i x (y + 1) :=
  ⟨h.cg, h.df, fun a s t ha hs ht h1 hne => by
    by_cases e' : a = i ∧ s = x ∧ t = y
    · obtain ⟨rfl, rfl, rfl⟩ := e'; exact absurd e hne
    · exact h.cl a s t ha hs ht (by omega) hne, h.one⟩
theorem CgI.old {q : Nat} {m j : Nat → Nat → Nat} {n : Nat} {G : Nat → Nat → Nat} {i x y : Nat} {g : Nat → Nat} (h : CgI q m j n G i x y) (hg : LwN q m j (G i) x y g) (hin : ∃ b, b < n ∧ ∀ k, k < q → G b k = g k) : CgI q m j n G i x (y + 1) :=
  ⟨h.cg, h.df, fun a s t ha hs ht h1 hne => by
    by_cases e' : a = i ∧ s = x ∧ t = y
    · obtain ⟨rfl, rfl, rfl⟩ := e'
      obtain ⟨b, hb, e⟩ := hin
      obtain ⟨c, h1, h2⟩ := hg
      exact ⟨b, hb, c, h1, fun k hk => by rw [e k hk, h2 k hk]⟩
    · exact h.cl a s t ha hs ht (by omega) hne, h.one⟩
/-- One more. -/
def ad1 (G : Nat → Nat → Nat) (n : Nat) (g : Nat → Nat) (j : Nat) : Nat → Nat := if j = n then g else G j
theorem ad1_new (G : Nat → Nat → Nat) (n : Nat) (g : Nat → Nat) : ad1 G n g n = g := if_pos rfl
theorem ad1_old {G : Nat → Nat → Nat} {n : Nat} {g : Nat → Nat} {j : Nat} (h : j < n) : ad1 G n g j = G j := if_neg (by omega)
theorem CgI.new {q : Nat} {m j : Nat → Nat → Nat} {n : Nat} {G : Nat → Nat → Nat} {i x y : Nat} {g : Nat → Nat} (h : CgI q m j n G i x y) (hi : i < n) (hg : LwN q m j (G i) x y g) (hin : ¬ ∃ b, b < n ∧ ∀ k, k < q → G b k = g k) : CgI q m j (n + 1) (ad1 G n g) i x (y + 1) := by
  refine ⟨fun a ha => ?_, fun a b hab hb => ?_, fun a s t ha hs ht h1 hne => ?_, ?_⟩
  · by_cases e : a = n
    · subst e; rw [ad1_new]; exact hg.cg
    · rw [ad1_old (by omega)]; exact h.cg a (by omega)
  · by_cases e : b = n
    · subst e; rw [ad1_new, ad1_old hab]; exact fun e' => hin ⟨a, hab, e'⟩
    · rw [ad1_old (show b < n by omega), ad1_old (show a < n by omega)]; exact h.df a b hab (by omega)
  · have han : a < n := by omega
    rw [ad1_old han] at hne ⊢
    by_cases e' : a = i ∧ s = x ∧ t = y
    · obtain ⟨rfl, rfl, rfl⟩ := e'
      exact ⟨n, by omega, by rw [ad1_new]; exact hg⟩
    · obtain ⟨b, hb, hb2⟩ := h.cl a s t han hs ht (by omega) hne
      exact ⟨b, by omega, by rw [ad1_old hb]; exact hb2⟩
  · obtain ⟨a, ha, e⟩ := h.one
    exact ⟨a, by omega, by rw [ad1_old ha]; exact e⟩
theorem CgI.x {q : Nat} {m j : Nat → Nat → Nat} {n : Nat} {G : Nat → Nat → Nat} {i x : Nat} (h : CgI q m j n G i x x) : CgI q m j n G i (x + 1) 0 :=
  ⟨h.cg, h.df, fun a s t ha hs ht h1 hne => h.cl a s t ha hs ht (by omega) hne, h.one⟩
theorem CgI.i {q : Nat} {m j : Nat → Nat → Nat} {n : Nat} {G : Nat → Nat → Nat} {i : Nat} (h : CgI q m j n G i q 0) : CgI q m j n G (i + 1) 0 0 :=
  ⟨h.cg, h.df, fun a s t ha hs ht h1 hne => h.cl a s t ha hs ht (by omega) hne, h.one⟩
theorem cls_ker {q : Nat} {c d : Nat → Nat} (h : Ker q c d) (x y : Nat) (hx : x < q) (hy : y < x) (hd : d x = d y) (hc : c x ≠ c y) : clsN d q < clsN c q := by
  refine cntB_lt q (fun k hk hf => ?_) ?_
  · rw [frst_iff] at hf ⊢
    exact fun i hi e => hf i hi (h i k (by omega) hk e)
  · obtain ⟨a, ha, ea, fa⟩ := first_of c (c x) x rfl
    obtain ⟨b, hb, eb, fb⟩ := first_of c (c y) y rfl
    have hne : a ≠ b := fun e => hc (by rw [← ea, e, eb])
    have dab : d a = d b := by rw [h a x (by omega) hx ea, hd, h b y (by omega) (by omega) eb]
    rcases Nat.lt_or_gt_of_ne hne with hl | hl
    · refine ⟨b, by omega, ?_, fb⟩
      cases hf : frst d b
      · rfl
      · exact absurd dab (frst_iff.1 hf a hl)
    · refine ⟨a, by omega, ?_, fa⟩
      cases hf : frst d a
      · rfl
      · exact absurd dab.symm (frst_iff.1 hf b hl)
/-- What is closed has every congruence. -/
theorem CgI.all {q : Nat} {m j : Nat → Nat → Nat} {n : Nat} {G : Nat → Nat → Nat} (h : CgI q m j n G n 0 0) (d : Nat → Nat) (hd : Con q m j d) : ∃ a, a < n ∧ ∀ k, k < q → G a k = nbr d k := by
  have key : ∀ N a, a < n → clsN (G a) q ≤ N → Ker q (G a) d → ∃ a, a < n ∧ ∀ k, k < q → G a k = nbr d k := by
    intro N
    induction N with
    | zero =>
      intro a ha hN hk
      refine ⟨a, ha, fun k hkq => ?_⟩
      have h1 : clsN (G a) q = 0 := by omega
      exfalso
      have hf : frst (G a) 0 = true := frst_iff.2 fun i hi => absurd hi (Nat.not_lt_zero _)
      have := cls_less (c := G a) hf (show 0 < q by omega)
      omega
    | succ N ih =>
      intro a ha hN hk
      by_cases hker : Ker q d (G a)
      · refine ⟨a, ha, fun k hkq => ?_⟩
        obtain ⟨c, hc, e⟩ := h.cg a ha
        have k1 : Ker q c d := fun s t hs ht e' => hk s t hs ht (by rw [e s hs, e t ht]; exact nbr_ker.2 e')
        have k2 : Ker q d c := fun s t hs ht e' => by
          have := hker s t hs ht e'
          rw [e s hs, e t ht] at this
          exact nbr_ker.1 this
        rw [e k hkq, nbr_same k1 k2 k hkq]
      · have : ∃ s t, s < q ∧ t < q ∧ d s = d t ∧ G a s ≠ G a t := by
          apply Classical.byContradiction
          intro hn
          exact hker fun s t hs ht e => Classical.byContradiction fun hne => hn ⟨s, t, hs, ht, e, hne⟩
        obtain ⟨s, t, hs, ht, e, hne⟩ := this
        have : ∃ s t, s < q ∧ t < s ∧ d s = d t ∧ G a s ≠ G a t := by
          rcases Nat.lt_trichotomy s t with hl | rfl | hl
          · exact ⟨t, s, ht, hl, e.symm, fun e' => hne e'.symm⟩
          · exact absurd rfl hne
          · exact ⟨s, t, hs, hl, e, hne⟩
        obtain ⟨s, t, hs, ht, e, hne⟩ := this
        obtain ⟨b, hb, c, hlw, eb⟩ := h.cl a s t ha hs ht (by omega) hne
        have kab : Ker q (G a) (G b) := fun u v hu hv e' => by rw [eb u hu, eb v hv]; exact nbr_ker.2 (hlw.2.1 u v hu hv e')
        have est : G b s = G b t := by rw [eb s hs, eb t (by omega)]; exact nbr_ker.2 hlw.2.2.1
        have hlt := cls_ker kab s t hs ht est hne
        refine ih b hb (by omega) fun u v hu hv e' => ?_
        rw [eb u hu, eb v hv] at e'
        exact hlw.2.2.2 d hd hk e u v hu hv (nbr_ker.1 e')
  obtain ⟨a, ha, e⟩ := h.one
  exact key (clsN (G a) q) a ha (Nat.le_refl _) (fun s t hs ht e' => by rw [e s hs, e t ht] at e'; rw [e'])
/-- A list of rows that grows. -/
structure GL (w : World) (base : Nat) (v : Value) (R : Nat → Nat × Nat) (n q : Nat) (G : Nat → Nat → Nat) : Prop where
  own : w.ownsRow base 25 1 v n (sv q R n)
  rows : ∀ j, j < n → ∀ k, k < q → w.cell? ⟨(R j).1, k, none⟩ = some (.int .i64 (G j k : Nat))
  lt : ∀ j, j < n → (R j).1 < w.heap.size ∧ some (R j).1 ≠ v.ownBlock
theorem GL.step {w w' : World} {base : Nat} {v : Value} {R : Nat → Nat × Nat} {n q : Nat} {G : Nat → Nat → Nat} (h : GL w base v R n q G) (hb : Below w.heap.size w w') : GL w' base v R n q G where
  own := owns_below h.own hb
  rows j hj k hk := cell_step hb (h.rows j hj k hk)
  lt j hj := ⟨Nat.lt_of_lt_of_le (h.lt j hj).1 hb.size, (h.lt j hj).2⟩
theorem GL.row {w : World} {base : Nat} {v : Value} {R : Nat → Nat × Nat} {n q : Nat} {G : Nat → Nat → Nat} (h : GL w base v R n q G) {i : Nat} (hi : i < n) : Row w (some ⟨(R i).1, 0, none⟩) q (fun k => (G i k : Nat)) := fun k hk => ⟨_, _, rfl, by rw [Nat.zero_add]; exact h.rows i hi k hk⟩
theorem GL.at {w : World} {base : Nat} {v : Value} {R : Nat → Nat × Nat} {n q : Nat} {G : Nat → Nat → Nat} (h : GL w base v R n q G) {i : Nat} (hi : i < n) : ∃ g cap, v = .slice (some ⟨g, 0, none⟩) n cap ∧ w.cell? ⟨g, i, none⟩ = some (.slice (some ⟨(R i).1, 0, none⟩) q (R i).2) := by
  obtain ⟨g, cap, rfl⟩ := owns_form h.own (by omega)
  exact ⟨g, cap, rfl, by rw [h.own.cellAt i (by omega)]; exact sv_at q R n i hi⟩
theorem GL.app {w w1 : World} {base : Nat} {v v' x : Value} {R : Nat → Nat × Nat} {n q b cb : Nat} {G : Nat → Nat → Nat} {g : Nat → Nat} {t : TypeId} (h : GL w base v R n q G) (hb : b < w.heap.size) (hbv : some b ≠ v.ownBlock) (hrow : ∀ k, k < q → w.cell? ⟨b, k, none⟩ = some (.int .i64 (g k : Nat)))
    (hown : w1.ownsRow base 25 1 v' (n + 1) (sv q R n ++ [.slice (some ⟨b, 0, none⟩) q cb])) (hg : (w.alloc (.cells #[x] t)).grownBy w1 v.ownBlock) (hat : v'.ownBlock = v.ownBlock ∨ v'.ownBlock = some (w.heap.size + 1)) : GL w1 base v' (nx R n b cb) (n + 1) q (ad1 G n g) := by
  have keep : ∀ {c k : Nat} {u : Value}, w.cell? ⟨c, k, none⟩ = some u → some c ≠ v.ownBlock → w1.cell? ⟨c, k, none⟩ = some u := fun {c k u} hc hne =>
    (hg.cell_far ⟨c, k, none⟩ (by have := World.block_lt_of_cell? _ _ hc; simp at this ⊢; omega) hne).trans ((World.cell?_alloc_old _ _ _ (Nat.ne_of_lt (World.block_lt_of_cell? _ _ hc))).trans hc)
  have hsz : w.heap.size + 1 ≤ w1.heap.size := by have := hg.size; simpa using this
  have hv' : ∀ {c : Nat}, c < w.heap.size → some c ≠ v.ownBlock → some c ≠ v'.ownBlock := fun {c} hc hne e => by
    rcases hat with h1 | h1
    · exact hne (h1 ▸ e)
    · rw [h1] at e
      have := Option.some.inj e
      omega
  refine ⟨by rw [sv_nx_succ, sv_nx]; exact hown, fun j hj k hk => ?_, fun j hj => ?_⟩
  · by_cases e : j = n
    · subst e
      rw [ad1_new]
      simp only [nx, if_true]
      exact keep (hrow k hk) hbv
    · rw [ad1_old (by omega)]
      simp only [nx, e, if_false]
      exact keep (h.rows j (by omega) k hk) (h.lt j (by omega)).2
  · by_cases e : j = n
    · simp only [nx, e, if_true]; exact ⟨by omega, hv' hb hbv⟩
    · simp only [nx, e, if_false]
      have := h.lt j (by omega)
      exact ⟨by omega, hv' this.1 this.2⟩
theorem GL.one (w : World) (base : Nat) (q b cb : Nat) (g : Nat → Nat) (t : TypeId) (ht : t = 25) (hb0 : base ≤ w.heap.size) (hb : b < w.heap.size) (hrow : ∀ k, k < q → w.cell? ⟨b, k, none⟩ = some (.int .i64 (g k : Nat))) : GL (w.alloc (.cells #[.slice (some ⟨b, 0, none⟩) q cb] t)) base (.slice (some ⟨w.heap.size, 0, none⟩) 1 1) (fun _ => (b, cb)) 1 q (fun _ => g) := by
  subst ht
  refine ⟨⟨by simp [sv], .inr ⟨w.heap.size, 1, #[.slice (some ⟨b, 0, none⟩) q cb], rfl, hb0, heap_alloc_new w _, Nat.le_refl _, by unfold maxLen; omega, rfl, rfl⟩⟩, fun j hj k hk => ?_, fun j hj => ⟨by simp; omega, fun e => ?_⟩⟩
  · exact (World.cell?_alloc_old _ _ _ (Nat.ne_of_lt hb)).trans (hrow k hk)
  · have e2 : b = w.heap.size := Option.some.inj e
    omega
end Go.Proofs.Ytappekjkcgmheaa
