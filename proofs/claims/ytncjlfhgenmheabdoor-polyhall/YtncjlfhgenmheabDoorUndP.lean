/-
  What moebius.undo and moebius.mu answer, handed closures. Conditions: a rank that falls; the closures answer s and B wherever what lay at first still lies.
-/
import Derived.Test.YtncjlfhgenmheabDoorUnd
namespace Go.Proofs.YtncjlfhgenmheabDoor
open Go.RowKit Go.Maps

/-- A closure that answers s of a number below n, wherever what lay at first still lies. -/
def CloS (n F : Nat) (caps : Array Value) (s : Nat → Int) (w : World) : Prop :=
  ∀ x : Nat, x < n → ∀ W : World, Below w.heap.size w W → Calls Tryd.prog F (#[.int .i64 (x : Nat)] ++ caps) W fun e w' => e = .returned (.int .i64 (wz (s x))) ∧ Below W.heap.size W w'
/-- A closure that answers B of two numbers below n, wherever what lay at first still lies. -/
def CloL (n F : Nat) (caps : Array Value) (B : Nat → Nat → Bool) (w : World) : Prop :=
  ∀ x y : Nat, x < n → y < n → ∀ W : World, Below w.heap.size w W → Calls Tryd.prog F (#[.int .i64 (x : Nat), .int .i64 (y : Nat)] ++ caps) W fun e w' => e = .returned (.bool (B x y)) ∧ Below W.heap.size W w'
theorem CloL.step {n F : Nat} {caps : Array Value} {B : Nat → Nat → Bool} {w w' : World} (h : CloL n F caps B w) (hb : Below w.heap.size w w') : CloL n F caps B w' := fun x y hx hy W hW => h x y hx hy W (Below.then hb hW)
theorem CloS.step {n F : Nat} {caps : Array Value} {s : Nat → Int} {w w' : World} (h : CloS n F caps s w) (hb : Below w.heap.size w w') : CloS n F caps s w' := fun x hx W hW => h x hx W (Below.then hb hW)
theorem below_but {w w1 W : World} {c : Nat} (hb : Below w.heap.size w w1) (hc : w.heap.size ≤ c) (hg : w1.grownBy W (some c)) : Below w.heap.size w W :=
  hb.grown hg hb.size (fun k e => by cases e; exact hc)

/-- A closure that knows what is undone, and has a map of its own; all that it has captured lies below hi. -/
def Knows (n : Nat) (U : Nat → Int) (w0 : World) (hi : Nat) (w : World) (v : Value) : Prop := ∃ K S N I M Bm Fs Fb cs cb, ∃ D, ∃ B s r,
  v = .func (.func 51) #[] #[.pointer (some ⟨K, 0, none⟩), .pointer (some ⟨S, 0, none⟩), .pointer (some ⟨N, 0, none⟩), .pointer (some ⟨I, 0, none⟩), .pointer (some ⟨M, 0, none⟩)] ∧
  U = Uo B s n r ∧ Rk B n r ∧ Ent Fs ∧ Ent Fb ∧ w0.heap.size ≤ Bm ∧ (K < hi ∧ S < hi ∧ N < hi ∧ I < hi ∧ M < hi ∧ Bm < hi) ∧ Cap n K S N I M Bm Fs Fb cs cb w ∧ MOk n U Bm w D ∧ CloS n Fs cs s w0 ∧ CloL n Fb cb B w0
/-- From block hi on all lies as it lay. -/
def Over (hi : Nat) (w w' : World) : Prop := ∀ k, hi ≤ k → k < w.heap.size → w'.heap[k]? = w.heap[k]?
theorem owns_lower {w w' : World} {Bm k hi : Nat} {D : DataW Unit} (h : w.ownsMap Tryd.prog 3 (plainElem Tryd.prog 3) Bm k D) (hb : Below hi w w') (hB : Bm < hi) : w'.ownsMap Tryd.prog 3 (plainElem Tryd.prog 3) Bm k D := by
  obtain ⟨es, clock, h1, h2⟩ := h
  exact ⟨es, clock, (hb.block Bm hB).trans h1, h2⟩
theorem Knows.step {n : Nat} {U : Nat → Int} {w0 : World} {hi : Nat} {w w' : World} {v : Value} (h : Knows n U w0 hi w v) (hb : Below hi w w') : Knows n U w0 hi w' v := by
  obtain ⟨K, S, N, I, M, Bm, Fs, Fb, cs, cb, D, B, s, r, e, eU, hr, eS, eB, hBm, ⟨h1, h2, h3, h4, h5, h6⟩, hC, hM, hS, hB⟩ := h
  exact ⟨K, S, N, I, M, Bm, Fs, Fb, cs, cb, D, B, s, r, e, eU, hr, eS, eB, hBm, ⟨h1, h2, h3, h4, h5, h6⟩,
    ⟨(hb.cell h1).trans hC.k, (hb.cell h2).trans hC.s, (hb.cell h3).trans hC.n, (hb.cell h4).trans hC.i, (hb.cell h5).trans hC.m⟩, ⟨owns_lower hM.own hb h6, hM.cnt, hM.val⟩, hS, hB⟩

theorem cell_far {W : World} (o : Obj) {a : Addr} {v : Value} (h : W.cell? a = some v) : (W.alloc o).cell? a = some v := (World.cell?_alloc_lt _ _ _ (World.block_lt_of_cell? _ _ h)).trans h
theorem cell_new (W : World) (v : Value) (T : TypeId) (b : Nat) (hb : b = W.heap.size) : (W.alloc (.cells #[v] T)).cell? ⟨b, 0, none⟩ = some v := by rw [hb]; simp
set_option maxHeartbeats 1000000 in
theorem undo_any {n Fs Fb : Nat} {cs cb : Array Value} {B : Nat → Nat → Bool} {s : Nat → Int} {r : Nat → Nat} {w : World} (hr : Rk B n r) (eS : Ent Fs) (eB : Ent Fb) (hS : CloS n Fs cs s w) (hB : CloL n Fb cb B w) :
    Calls Tryd.prog 45 #[.int .i64 (n : Nat), .func (.func Fb) #[] cb, .func (.func Fs) #[] cs] w fun e w' => (∃ v, e = .returned v ∧ Knows n (Uo B s n r) w w'.heap.size w' v) ∧ Below w.heap.size w w' := by
  have hmm := @run_makeMap Tryd.prog
  have HS : Hid (CloS n Fs cs s w) := hS
  have HB : Hid (CloL n Fb cb B w) := hB
  have HR : Hid (Rk B n r) := hr
  clear hS hB hr
  go_enter Tryd.func45, Tryd.ntmps45
  go_wp2
  go_ret
  obtain ⟨w3, hw3⟩ : ∃ w3, w3 = ((w.alloc (.cells #[.int .i64 (n : Nat)] 3)).alloc (.cells #[.func (.func Fb) #[] cb] 48)).alloc (.cells #[.func (.func Fs) #[] cs] 52) := ⟨_, rfl⟩
  have hs3 : w3.heap.size = w.heap.size + 1 + 1 + 1 := by rw [hw3]; simp
  have hb3 : Below w.heap.size w w3 := by
    rw [hw3]
    exact (((Below.refl _ _).alloc (Nat.le_refl _) _).alloc (by simp) _).alloc (by simp; omega) _
  have hm := MOk.made n (Uo B s n r) w3
  rw [hs3] at hm
  rw [← hw3]
  have hm5 := (hm.kept (World.grownBy_alloc _ (.cells #[.map (some (w.heap.size + 1 + 1 + 1))] 65) none)).kept (World.grownBy_alloc _ (.cells #[.func (.func 51) #[] #[.pointer (some ⟨w.heap.size + 1 + 1 + 1 + 1, 0, none⟩), .pointer (some ⟨w.heap.size + 1 + 1, 0, none⟩), .pointer (some ⟨w.heap.size, 0, none⟩), .pointer (some ⟨w.heap.size + 1, 0, none⟩), .pointer (some ⟨w.heap.size + 1 + 1 + 1 + 1 + 1, 0, none⟩)]] 52) none)
  have hB6 : Below w.heap.size w (((w3.alloc (.map #[] 0)).alloc (.cells #[.map (some (w.heap.size + 1 + 1 + 1))] 65)).alloc (.cells #[.func (.func 51) #[] #[.pointer (some ⟨w.heap.size + 1 + 1 + 1 + 1, 0, none⟩), .pointer (some ⟨w.heap.size + 1 + 1, 0, none⟩), .pointer (some ⟨w.heap.size, 0, none⟩), .pointer (some ⟨w.heap.size + 1, 0, none⟩), .pointer (some ⟨w.heap.size + 1 + 1 + 1 + 1 + 1, 0, none⟩)]] 52)) :=
    ((hb3.alloc (by omega) _).alloc (by simp; omega) _).alloc (by simp; omega) _
  refine ⟨⟨_, rfl, _, _, _, _, _, w.heap.size + 1 + 1 + 1, Fs, Fb, cs, cb, _, B, s, r, rfl, rfl, HR.out, eS, eB, by omega, ?_, ?_, hm5, HS.out, HB.out⟩, hB6⟩
  · simp only [World.size_alloc, hs3]; omega
  · have cN : w3.cell? ⟨w.heap.size, 0, none⟩ = some (.int .i64 (n : Nat)) := by
      rw [hw3]; exact cell_far _ (cell_far _ (cell_new _ _ _ _ rfl))
    have cI : w3.cell? ⟨w.heap.size + 1, 0, none⟩ = some (.func (.func Fb) #[] cb) := by
      rw [hw3]; exact cell_far _ (cell_new _ _ _ _ (by simp))
    have cS : w3.cell? ⟨w.heap.size + 1 + 1, 0, none⟩ = some (.func (.func Fs) #[] cs) := by
      rw [hw3]; exact cell_new _ _ _ _ (by simp)
    exact ⟨cell_far _ (cell_new _ _ _ _ (by simp [hs3])), cell_far _ (cell_far _ (cell_far _ cS)), cell_far _ (cell_far _ (cell_far _ cN)), cell_far _ (cell_far _ (cell_far _ cI)), cell_new _ _ _ _ (by simp [hs3])⟩

/-- What such a closure answers. -/
theorem Knows.call {n : Nat} {U : Nat → Int} {w0 : World} {hi : Nat} {w : World} {v : Value} (hn : n ≤ 40) (h : Knows n U w0 hi w v) (hb : Below w0.heap.size w0 w) {x : Nat} (hx : x < n) : ∃ caps, v = .func (.func 51) #[] caps ∧
    Calls Tryd.prog 51 (#[.int .i64 (x : Nat)] ++ caps) w fun e w' => e = .returned (.int .i64 (wz (U x))) ∧ Below w0.heap.size w0 w' ∧ Over hi w w' ∧ Knows n U w0 hi w' v := by
  obtain ⟨K, S, N, I, M, Bm, Fs, Fb, cs, cb, D, B, s, r, rfl, rfl, hr, eS, eB, hBm, hlt, hC, hM, hS, hB⟩ := h
  refine ⟨_, rfl, ?_⟩
  refine (number_any hn hr eS eB hC hM.own (fun x hx W hW => hS x hx W (below_but hb hBm hW)) (fun x y hx hy W hW => hB x y hx hy W (below_but hb hBm hW)) (r x + 1) x w D hx (by omega) ⟨rfl, rfl, rfl, Nat.le_refl _, fun _ _ _ => rfl⟩ hM).mono ?_
  rintro e w' ⟨rfl, hg, D', hM'⟩
  exact ⟨rfl, below_but hb hBm hg, fun k h1 h2 => hg.block k h2 (fun e => by cases e; omega), _, _, _, _, _, _, _, _, _, _, _, _, _, _, rfl, rfl, hr, eS, eB, hBm, hlt, hC.kept hM.own hg, hM', hS, hB⟩

/-- One at a, else nought. -/
def oneA (a x : Nat) : Int := if x = a then 1 else 0
theorem ent_mu1 : Ent 46 := fun _ _ => rfl
set_option maxHeartbeats 1000000 in
theorem mu1_any (a x b : Nat) (W : World) (_hx : x < 40) (_ha : a < 40) (hc : W.cell? ⟨b, 0, none⟩ = some (.int .i64 (a : Nat))) :
    Calls Tryd.prog 46 #[.int .i64 (x : Nat), .pointer (some ⟨b, 0, none⟩)] W fun e w' => e = .returned (.int .i64 (wz (oneA a x))) ∧ Below W.heap.size W w' := by
  by_cases h : x = a
  · subst h
    have e1 : wz (oneA x x) = 1 := by simp [oneA, wz]
    rw [e1]
    go_enter Tryd.func46, Tryd.ntmps46
    go_wp2
    go_ret
    exact ⟨rfl, Below.refl _ _⟩
  · have e1 : wz (oneA a x) = 0 := by simp [oneA, h, wz]
    have hne : ((x : Int) == (a : Int)) = false := by simp; omega
    rw [e1]
    go_enter Tryd.func46, Tryd.ntmps46
    go_wp2
    go_ret
    exact ⟨rfl, Below.refl _ _⟩

set_option maxHeartbeats 1000000 in
theorem mu_any {n Fb : Nat} {cb : Array Value} {B : Nat → Nat → Bool} {r : Nat → Nat} {w : World} (a b : Nat) (hn : n ≤ 40) (ha : a < n) (hb : b < n) (hr : Rk B n r) (eB : Ent Fb) (hB : CloL n Fb cb B w) :
    Calls Tryd.prog 28 #[.int .i64 (n : Nat), .func (.func Fb) #[] cb, .int .i64 (a : Nat), .int .i64 (b : Nat)] w fun e w' => e = .returned (.int .i64 (wz (Uo B (oneA a) n r b))) ∧ Below w.heap.size w w' := by
  have hb1 : Below w.heap.size w (w.alloc (.cells #[.int .i64 (a : Nat)] 3)) := (Below.refl _ _).alloc (Nat.le_refl _) _
  have HB1 : Hid (Below w.heap.size w (w.alloc (.cells #[.int .i64 (a : Nat)] 3))) := hb1
  have hS : CloS n 46 #[.pointer (some ⟨w.heap.size, 0, none⟩)] (oneA a) (w.alloc (.cells #[.int .i64 (a : Nat)] 3)) := fun x hx W hW =>
    mu1_any a x w.heap.size W (by omega) (by omega) ((hW.cell (by simp)).trans (by simp))
  have HU : Hid (Calls Tryd.prog 45 #[.int .i64 (n : Nat), .func (.func Fb) #[] cb, .func (.func 46) #[] #[.pointer (some ⟨w.heap.size, 0, none⟩)]] (w.alloc (.cells #[.int .i64 (a : Nat)] 3)) fun e w' => (∃ v, e = .returned v ∧ Knows n (Uo B (oneA a) n r) (w.alloc (.cells #[.int .i64 (a : Nat)] 3)) w'.heap.size w' v) ∧ Below (w.alloc (.cells #[.int .i64 (a : Nat)] 3)).heap.size (w.alloc (.cells #[.int .i64 (a : Nat)] 3)) w') :=
    undo_any hr ent_mu1 eB hS (hB.step hb1)
  clear hb1 hS hB hr
  generalize hUo : Uo B (oneA a) n r = U at *
  clear hUo
  go_enter Tryd.func28, Tryd.ntmps28
  go_wp2_with fail
  refine (Calls.mono HU.out) ?_
  rintro e w2 ⟨⟨v, rfl, hk⟩, hb2⟩
  obtain ⟨caps, rfl, hc⟩ := hk.call hn hb2 hb
  have HC : Hid (Calls Tryd.prog 51 (#[.int .i64 (b : Nat)] ++ caps) w2 fun e w' => e = .returned (.int .i64 (wz (U b))) ∧ Below w.heap.size w w') := hc.mono fun e w' h => ⟨h.1, Below.then HB1.out h.2.1⟩
  clear hk hb2 hc HU HB1
  go_wp2_with fail
  refine (Calls.mono HC.out) ?_
  rintro e w3 ⟨rfl, hb3⟩
  have HB3 : Hid (Below w.heap.size w w3) := hb3
  clear hb3 HC
  go_wp2_with fail
  go_ret
  exact ⟨rfl, HB3.out⟩
end Go.Proofs.YtncjlfhgenmheabDoor
