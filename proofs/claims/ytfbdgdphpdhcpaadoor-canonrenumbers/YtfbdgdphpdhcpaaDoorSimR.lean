/-
  What a run draws from its tape is all that hangs on the tape. No condition.
  Values, objects and terms of Sem that differ in the numbers of blocks alone. No condition.
  A term that runs well in the one world runs as well in the other one; what it touches there. Conditions: the two worlds hold the same, block for block, as far as R names them.
-/
import Derived.Calls
import Derived.Laws.Sem
namespace Go.Proofs.YtfbdgdphpdhcpaaDoor.Sm
open Go

def tap (τ : Nat → Question → Nat) (w : World) : World := { w with tape := τ }
theorem tap_self (w : World) : tap w.tape w = w := rfl
def rworld {α : Type} : Result α → World
  | .ok _ w => w
  | .halt _ w => w
def rtap {α : Type} (τ : Nat → Question → Nat) : Result α → Result α
  | .ok a w => .ok a (tap τ w)
  | .halt h w => .halt h (tap τ w)
theorem ask_mono {α : Type} : ∀ (k : Ask α) (w : World), w.drawn ≤ (w.ask k).2.drawn
  | .done a, w => by simp [World.ask]
  | .ask what range k, w => by
    unfold World.ask
    dsimp only
    split
    · exact ask_mono _ w
    · exact Nat.le_trans (Nat.le_succ _) (ask_mono (k _) { w with drawn := w.drawn + 1 })
theorem sys_mono (w : World) (c : Sys) : w.drawn ≤ (w.sys c).2.drawn := by
  unfold World.sys
  have := ask_mono (Kernel.perform c w.os) w
  split
  · exact Nat.le_refl _
  · rename_i h
    rw [h] at this
    exact this
theorem viewStore_heap (P : Program) (hp : Array Obj) (tp : Nat → Question → Nat) (dr : Nat) (os : Os) (ou : Array (Nat × ByteArray)) (tp' : Nat → Question → Nat) (dr' : Nat) (os' : Os) (ou' : Array (Nat × ByteArray)) (a : Addr) (u : TypeId) (k : Addr) (v : Value) (b : Bool) :
    World.viewStore P ⟨hp, tp, dr, os, ou⟩ a u k v b = (World.viewStore P ⟨hp, tp', dr', os', ou'⟩ a u k v b).map fun x => (⟨x.1.heap, tp, dr, os, ou⟩, x.2) := by
  unfold World.viewStore
  have hs : World.seen P ⟨hp, tp, dr, os, ou⟩ a u k b = World.seen P ⟨hp, tp', dr', os', ou'⟩ a u k b := rfl
  rw [hs]
  cases h1 : (!tight P P.depth u)
  · simp only [Bool.false_eq_true, if_false]
    cases World.seen P ⟨hp, tp', dr', os', ou'⟩ a u k b with
    | error e => exact rfl
    | ok x =>
      obtain ⟨c, e, fr, first, like, cells⟩ := x
      cases hv : v.bytes? with
      | none => simp only [bind, Except.bind]; exact rfl
      | some bytes =>
        simp only [bind, Except.bind]
        by_cases h2 : some bytes.length ≠ like.bytes?.map (·.length)
        · rw [if_pos h2, if_pos h2]; exact rfl
        · rw [if_neg h2, if_neg h2]
          split <;> exact rfl
  · simp only [if_true]; exact rfl
theorem viewStore_tap (P : Program) (τ : Nat → Question → Nat) (w : World) (a : Addr) (u : TypeId) (k : Addr) (v : Value) (b : Bool) : (tap τ w).viewStore P a u k v b = (w.viewStore P a u k v b).map fun x => (tap τ x.1, x.2) := by
  obtain ⟨hp, tp, dr, os, ou⟩ := w
  have h1 := viewStore_heap P hp τ dr os ou tp dr os ou a u k v b
  have h2 := viewStore_heap P hp tp dr os ou tp dr os ou a u k v b
  show World.viewStore P ⟨hp, τ, dr, os, ou⟩ a u k v b = _
  rw [h1]
  cases hr : World.viewStore P ⟨hp, tp, dr, os, ou⟩ a u k v b with
  | error e => rfl
  | ok x =>
    rw [hr] at h2
    simp only [Except.map, Except.ok.injEq] at h2 ⊢
    have : x.1 = ⟨x.1.heap, tp, dr, os, ou⟩ := congrArg (·.1) h2
    refine Prod.ext ?_ rfl
    show _ = tap τ x.1
    rw [this]; rfl
theorem viewStore_drawn {P : Program} {w : World} {a : Addr} {u : TypeId} {k : Addr} {v : Value} {b : Bool} {x : World × List Addr} (h : w.viewStore P a u k v b = .ok x) : x.1.drawn = w.drawn := by
  obtain ⟨hp, tp, dr, os, ou⟩ := w
  have h2 := viewStore_heap P hp tp dr os ou tp dr os ou a u k v b
  rw [h] at h2
  simp only [Except.map, Except.ok.injEq] at h2
  have : x.1 = ⟨x.1.heap, tp, dr, os, ou⟩ := congrArg (·.1) h2
  rw [this]
theorem farStore_tap (P : Program) (τ : Nat → Question → Nat) (w : World) (a : Addr) (v : Value) (b : Bool) : (tap τ w).farStore P a v b = (w.farStore P a v b).map fun x => (tap τ x.1, x.2) := by
  unfold World.farStore
  have e : (tap τ w).heap = w.heap := rfl
  rw [e]
  split
  · rw [viewStore_tap]
    cases w.viewStore P _ _ a v b <;> rfl
  · rfl
theorem farStore_drawn {P : Program} {w : World} {a : Addr} {v : Value} {b : Bool} {x : World × List Addr} (h : w.farStore P a v b = .ok x) : x.1.drawn = w.drawn := by
  unfold World.farStore at h
  split at h
  · rename_i at_ u _
    cases hv : w.viewStore P at_ u a v b with
    | error e => rw [hv] at h; cases h
    | ok y =>
      rw [hv] at h
      cases h
      exact viewStore_drawn hv
  · cases h
/-- A store, whatever the value: the two that are none of one cell aside. -/
theorem run_store {α : Type} (P : Program) (m : Mode) (a : Addr) (v : Value) (k : Sem α) (w : World) :
    (∃ h, (Sem.store m a v k).run P w = .halt h w ∧ ∀ w', (Sem.store m a v k).run P w' = .halt h w') ∨
    ∀ w, (Sem.store m a v k).run P w = match w.cell? a with
      | some _ => if w.frozen? a then .halt (.unsupported (.unsafePointer "a write to bytes that a string shares")) w else k.run P (w.setCell a v)
      | none => match w.farStore P a v (m == .atomic) with
        | .ok (w, _) => k.run P w
        | .error h => .halt h w := by
  cases v with
  | agg x => exact .inl ⟨_, rfl, fun _ => rfl⟩
  | tuple x => exact .inl ⟨_, rfl, fun _ => rfl⟩
  | _ => exact .inr fun _ => rfl
theorem run_mono {α : Type} {P : Program} : ∀ (s : Sem α) (w : World), w.drawn ≤ (rworld (s.run P w)).drawn
  | .pure a, w => Nat.le_refl _
  | .load m a k, w => by
    simp only [Sem.run]
    split
    · exact run_mono _ _
    · split
      · exact run_mono _ _
      · exact Nat.le_refl _
  | .store m a v k, w => by
    rcases run_store P m a v k w with ⟨h, e, _⟩ | e
    · rw [e]; exact Nat.le_refl _
    · rw [e]
      split
      · split
        · exact Nat.le_refl _
        · exact run_mono k (w.setCell a v)
      · split
        · rename_i ww sn h
          have h1 : ww.drawn = w.drawn := farStore_drawn h
          have h2 := run_mono k ww (P := P)
          exact Nat.le_trans (Nat.le_of_eq h1.symm) h2
        · exact Nat.le_refl _
  | .new o k, w => run_mono (k w.heap.size) { w with heap := w.heap.push o }
  | .shape r k, w => run_mono (k (w.shape? r)) w
  | .freeze a n k, w => by
    have := run_mono k (w.freeze a n) (P := P)
    have e : (w.freeze a n).drawn = w.drawn := by unfold World.freeze; split <;> rfl
    rw [e] at this; exact this
  | .frozen a k, w => run_mono (k (w.frozen? a)) w
  | .getObj r k, w => by
    simp only [Sem.run]
    split
    · exact Nat.le_refl _
    · exact run_mono _ _
    · exact Nat.le_refl _
  | .setObj r o k, w => by
    simp only [Sem.run]
    split
    · exact Nat.le_refl _
    · exact run_mono k { w with heap := w.heap.setIfInBounds r o }
    · exact Nat.le_refl _
  | .choose q k, w => by
    simp only [Sem.run]
    split
    · exact run_mono _ _
    · exact Nat.le_trans (Nat.le_succ _) (run_mono (k (q.cut (w.tape w.drawn q))) { w with drawn := w.drawn + 1 })
  | .sys c k, w => Nat.le_trans (sys_mono w c) (run_mono (k (w.sys c).1) (w.sys c).2)
  | .program k, w => run_mono (k P) w
  | .mark m k, w => run_mono k w
  | .halt h, w => Nat.le_refl _
/-- A run hangs on the answers that it draws alone. No call to the system. -/
def Sem.noSys {α : Type} : Sem α → Prop
  | .pure _ => True
  | .load _ _ k => ∀ v, noSys (k v)
  | .store _ _ _ k => noSys k
  | .new _ k => ∀ r, noSys (k r)
  | .shape _ k => ∀ r, noSys (k r)
  | .freeze _ _ k => noSys k
  | .frozen _ k => ∀ b, noSys (k b)
  | .getObj _ k => ∀ o, noSys (k o)
  | .setObj _ _ k => noSys k
  | .choose _ k => ∀ n, noSys (k n)
  | .sys _ _ => False
  | .program k => ∀ p, noSys (k p)
  | .mark _ k => noSys k
  | .halt _ => True
theorem ask_tape {α : Type} : ∀ (k : Ask α) (w : World), (w.ask k).2.tape = w.tape
  | .done a, w => by simp [World.ask]
  | .ask what range k, w => by
    unfold World.ask
    dsimp only
    split
    · exact ask_tape _ w
    · exact ask_tape (k _) { w with drawn := w.drawn + 1 }
theorem sys_tape (w : World) (c : Sys) : (w.sys c).2.tape = w.tape := by
  unfold World.sys
  have := ask_tape (Kernel.perform c w.os) w
  split
  · rfl
  · rename_i h
    rw [h] at this
    exact this
theorem viewStore_tape {P : Program} {w : World} {a : Addr} {u : TypeId} {k : Addr} {v : Value} {b : Bool} {x : World × List Addr} (h : w.viewStore P a u k v b = .ok x) : x.1.tape = w.tape := by
  obtain ⟨hp, tp, dr, os, ou⟩ := w
  have h2 := viewStore_heap P hp tp dr os ou tp dr os ou a u k v b
  rw [h] at h2
  simp only [Except.map, Except.ok.injEq] at h2
  have : x.1 = ⟨x.1.heap, tp, dr, os, ou⟩ := congrArg (·.1) h2
  rw [this]
theorem farStore_tape {P : Program} {w : World} {a : Addr} {v : Value} {b : Bool} {x : World × List Addr} (h : w.farStore P a v b = .ok x) : x.1.tape = w.tape := by
  unfold World.farStore at h
  split at h
  · rename_i at_ u _
    cases hv : w.viewStore P at_ u a v b with
    | error e => rw [hv] at h; cases h
    | ok y =>
      rw [hv] at h
      cases h
      exact viewStore_tape hv
  · cases h
theorem run_tape {α : Type} {P : Program} : ∀ (s : Sem α) (w : World), (rworld (s.run P w)).tape = w.tape
  | .pure a, w => rfl
  | .load m a k, w => by
    simp only [Sem.run]
    split
    · exact run_tape _ _
    · split
      · exact run_tape _ _
      · rfl
  | .store m a v k, w => by
    rcases run_store P m a v k w with ⟨h, e, _⟩ | e
    · rw [e]; rfl
    · rw [e]
      split
      · split
        · rfl
        · exact run_tape k (w.setCell a v)
      · split
        · rename_i ww sn h
          exact (run_tape k ww).trans (farStore_tape h)
        · rfl
  | .new o k, w => run_tape (k w.heap.size) { w with heap := w.heap.push o }
  | .shape r k, w => run_tape (k (w.shape? r)) w
  | .freeze a n k, w => by
    have := run_tape k (w.freeze a n) (P := P)
    have e : (w.freeze a n).tape = w.tape := by unfold World.freeze; split <;> rfl
    rw [e] at this; exact this
  | .frozen a k, w => run_tape (k (w.frozen? a)) w
  | .getObj r k, w => by
    simp only [Sem.run]
    split
    · rfl
    · exact run_tape _ _
    · rfl
  | .setObj r o k, w => by
    simp only [Sem.run]
    split
    · rfl
    · exact run_tape k { w with heap := w.heap.setIfInBounds r o }
    · rfl
  | .choose q k, w => by
    simp only [Sem.run]
    split
    · exact run_tape _ _
    · exact run_tape (k (q.cut (w.tape w.drawn q))) { w with drawn := w.drawn + 1 }
  | .sys c k, w => (run_tape (k (w.sys c).1) (w.sys c).2).trans (sys_tape w c)
  | .program k, w => run_tape (k P) w
  | .mark m k, w => run_tape k w
  | .halt h, w => rfl
/-- A run from here hangs on the answers that it draws alone. -/
def Lc (P : Program) {α : Type} (s : Sem α) (v : World) : Prop :=
  ∀ τ : Nat → Question → Nat, (∀ d, v.drawn ≤ d → d < (rworld (s.run P v)).drawn → v.tape d = τ d) → s.run P (tap τ v) = rtap τ (s.run P v)
theorem Lc.halt {α : Type} {P : Program} {s : Sem α} {v : World} {x : Halt} (h : ∀ τ, s.run P (tap τ v) = .halt x (tap τ v)) : Lc P s v := fun τ _ => by
  have h0 := h v.tape
  rw [tap_self] at h0
  rw [h τ, h0]; rfl
theorem Lc.step {α : Type} {P : Program} {s k : Sem α} {v v1 : World} (h : ∀ τ, s.run P (tap τ v) = k.run P (tap τ v1)) (hd : v1.drawn = v.drawn) (ht : v1.tape = v.tape) (hk : Lc P k v1) : Lc P s v := fun τ q => by
  have h0 := h v.tape
  rw [tap_self] at h0
  have e1 : tap v.tape v1 = v1 := by rw [← ht]; rfl
  rw [e1] at h0
  rw [h0] at q ⊢
  rw [h τ]
  exact hk τ (fun d h1 h2 => by rw [ht]; exact q d (by omega) h2)
theorem Lc.bind {α β : Type} {P : Program} {s : Sem α} {f : α → Sem β} {v : World} (h : Lc P s v) (hf : ∀ a v1, s.run P v = .ok a v1 → Lc P (f a) v1) : Lc P (s.bind f) v := fun τ q => by
  rw [Sem.run_bind'] at q ⊢
  rw [Sem.run_bind']
  cases e : s.run P v with
  | ok a v1 =>
    rw [e] at q
    have ht : v1.tape = v.tape := by have := run_tape (P := P) s v; rw [e] at this; exact this
    have hm : v.drawn ≤ v1.drawn := by have := run_mono (P := P) s v; rw [e] at this; exact this
    have hm2 : v1.drawn ≤ (rworld ((f a).run P v1)).drawn := run_mono (f a) v1
    have q : ∀ d, v.drawn ≤ d → d < (rworld ((f a).run P v1)).drawn → v.tape d = τ d := q
    have h1 := h τ (fun d h1 h2 => q d h1 (by rw [e] at h2; exact Nat.lt_of_lt_of_le h2 hm2))
    rw [e] at h1
    rw [h1]
    exact hf a v1 e τ (fun d h1 h2 => by rw [ht]; exact q d (Nat.le_trans hm h1) h2)
  | halt x v1 =>
    rw [e] at q
    have h1 := h τ (fun d h1 h2 => q d h1 (by rw [e] at h2; exact h2))
    rw [e] at h1
    rw [h1]; rfl
end Go.Proofs.YtfbdgdphpdhcpaaDoor.Sm
namespace Go.Proofs.YtfbdgdphpdhcpaaDoor.Sm
open Go

/-- Which block of the one world is which of the other one; the functions that a value may name; up to where blocks bear the same number in both; the code that may be run. -/
structure Ren where
  rel : Nat → Nat → Prop
  fns : Nat → Prop
  low : Nat
  ok : Code → Prop
  kn : Nat → Prop
  lo : Nat → Nat
def Le (R R' : Ren) : Prop := (∀ a b, R.rel a b → R'.rel a b) ∧ (∀ f, (R.fns f ↔ R'.fns f) ∧ (R.kn f ↔ R'.kn f)) ∧ R'.low = R.low ∧ (∀ c, R.ok c ↔ R'.ok c) ∧ R'.lo = R.lo
theorem Le.refl (R : Ren) : Le R R := ⟨fun _ _ h => h, fun _ => ⟨Iff.rfl, Iff.rfl⟩, rfl, fun _ => Iff.rfl, rfl⟩
theorem Le.trans {R R' R'' : Ren} (h : Le R R') (h' : Le R' R'') : Le R R'' := ⟨fun a b x => h'.1 a b (h.1 a b x), fun f => ⟨(h.2.1 f).1.trans (h'.2.1 f).1, (h.2.1 f).2.trans (h'.2.1 f).2⟩, h'.2.2.1.trans h.2.2.1, fun c => (h.2.2.2.1 c).trans (h'.2.2.2.1 c), h'.2.2.2.2.trans h.2.2.2.2⟩
def AR (R : Ren) (a a' : Addr) : Prop := R.rel a.block a'.block ∧ a'.off = a.off ∧ a'.spot = a.spot ∧ R.lo a.block ≤ a.off
theorem AR.mono {R R' : Ren} (h : Le R R') {a a' : Addr} (x : AR R a a') : AR R' a a' := ⟨h.1 _ _ x.1, x.2.1, x.2.2.1, by rw [h.2.2.2.2]; exact x.2.2.2⟩
def OAR (R : Ren) : Option Addr → Option Addr → Prop
  | none, none => True
  | some a, some a' => AR R a a'
  | _, _ => False
theorem OAR.mono {R R' : Ren} (h : Le R R') : ∀ {a a' : Option Addr}, OAR R a a' → OAR R' a a'
  | none, none, _ => trivial
  | some _, some _, x => AR.mono h x
  | none, some _, x => x.elim
  | some _, none, x => x.elim
def ONR (R : Ren) : Option Nat → Option Nat → Prop
  | none, none => True
  | some a, some a' => R.rel a a'
  | _, _ => False
theorem ONR.mono {R R' : Ren} (h : Le R R') : ∀ {a a' : Option Nat}, ONR R a a' → ONR R' a a'
  | none, none, _ => trivial
  | some _, some _, x => h.1 _ _ x
  | none, some _, x => x.elim
  | some _, none, x => x.elim
def FnR (R : Ren) : Fn → Fn → Prop
  | .yield l, .yield l' => R.rel l l'
  | .func f, .func f' => f' = f ∧ R.fns f
  | _, _ => False
theorem FnR.mono {R R' : Ren} (h : Le R R') {f f' : Fn} (x : FnR R f f') : FnR R' f f' := by
  cases f <;> cases f' <;> first | exact x.elim | exact h.1 _ _ x | exact ⟨x.1, (h.2.1 _).1.1 x.2⟩
/-- Rows, part by part. -/
def XP (P : Value → Value → Prop) (x x' : Array Value) : Prop := x'.size = x.size ∧ ∀ (i : Nat) v v', x[i]? = some v → x'[i]? = some v' → P v v'
/-- What need not be known: whoever meets a nil pointer in its place stands still when he looks behind it. -/
def odd : Value → Prop
  | .pointer (some _) | .slice (some _) _ _ | .map (some _) | .func _ _ _ | .iface _ _ => True
  | _ => False
/-- Values that differ in the numbers of blocks alone, if what is in them does so by P; a nil pointer may stand for what isn't known. -/
def Vs (R : Ren) (P : Value → Value → Prop) : Value → Value → Prop
  | .bool b, v' => v' = .bool b
  | .int k n, v' => v' = .int k n
  | .float k b, v' => v' = .float k b
  | .complex k x y, v' => v' = .complex k x y
  | .string s, v' => v' = .string s
  | .pointer none, v' => v' = .pointer none ∨ odd v'
  | .pointer (some a), v' => ∃ a', v' = .pointer (some a') ∧ AR R a a'
  | .slice a l c, v' => ∃ a', v' = .slice a' l c ∧ OAR R a a'
  | .map r, v' => ∃ r', v' = .map r' ∧ ONR R r r'
  | .chan r, v' => ∃ r', v' = .chan r' ∧ r' = r
  | .func f x y, v' => ∃ f' x' y', v' = .func f' x' y' ∧ FnR R f f' ∧ XP P x x' ∧ XP P y y'
  | .nilFunc, v' => v' = .nilFunc
  | .iface t v, v' => ∃ u, v' = .iface t u ∧ P v u
  | .nilIface, v' => v' = .nilIface
  | .agg x, v' => ∃ x', v' = .agg x' ∧ XP P x x'
  | .tuple x, v' => ∃ x', v' = .tuple x' ∧ XP P x x'
theorem XP.mono {P P' : Value → Value → Prop} (h : ∀ a b, P a b → P' a b) {x x' : Array Value} (q : XP P x x') : XP P' x x' := ⟨q.1, fun i v v' a b => h _ _ (q.2 i v v' a b)⟩
theorem Vs.mono {R R' : Ren} {P P' : Value → Value → Prop} (hR : Le R R') (hP : ∀ a b, P a b → P' a b) : ∀ {v v' : Value}, Vs R P v v' → Vs R' P' v v'
  | .bool _, _, h => h
  | .int _ _, _, h => h
  | .float _ _, _, h => h
  | .complex _ _ _, _, h => h
  | .string _, _, h => h
  | .pointer none, _, h => h
  | .pointer (some _), _, ⟨a', e, q⟩ => ⟨a', e, q.mono hR⟩
  | .slice _ _ _, _, ⟨a', e, q⟩ => ⟨a', e, q.mono hR⟩
  | .map _, _, ⟨a', e, q⟩ => ⟨a', e, q.mono hR⟩
  | .chan _, _, ⟨a', e, q⟩ => ⟨a', e, q⟩
  | .func _ _ _, _, ⟨f', x', y', e, q, hx, hy⟩ => ⟨f', x', y', e, q.mono hR, hx.mono hP, hy.mono hP⟩
  | .nilFunc, _, h => h
  | .iface _ _, _, ⟨u, e, q⟩ => ⟨u, e, hP _ _ q⟩
  | .nilIface, _, h => h
  | .agg _, _, ⟨x', e, q⟩ => ⟨x', e, q.mono hP⟩
  | .tuple _, _, ⟨x', e, q⟩ => ⟨x', e, q.mono hP⟩
def VR (R : Ren) (v v' : Value) : Prop := ∃ P : Value → Value → Prop, P v v' ∧ ∀ a b, P a b → Vs R P a b
theorem VR.out {R : Ren} {v v' : Value} (h : VR R v v') : Vs R (VR R) v v' := by
  obtain ⟨P, hp, hs⟩ := h
  exact Vs.mono (Le.refl R) (fun a b q => ⟨P, q, hs⟩) (hs _ _ hp)
theorem VR.in {R : Ren} {v v' : Value} (h : Vs R (VR R) v v') : VR R v v' :=
  ⟨fun a b => VR R a b ∨ (a = v ∧ b = v'), .inr ⟨rfl, rfl⟩, fun a b q => by
    rcases q with q | ⟨rfl, rfl⟩
    · exact Vs.mono (Le.refl R) (fun _ _ z => .inl z) q.out
    · exact Vs.mono (Le.refl R) (fun _ _ z => .inl z) h⟩
theorem VR.mono {R R' : Ren} (h : Le R R') {v v' : Value} (x : VR R v v') : VR R' v v' := by
  obtain ⟨P, hp, hs⟩ := x
  exact ⟨P, hp, fun a b q => Vs.mono h (fun _ _ z => z) (hs a b q)⟩
theorem VR.bool (R : Ren) (b : Bool) : VR R (.bool b) (.bool b) := .in rfl
theorem VR.int (R : Ren) (k : IntKind) (n : Int) : VR R (.int k n) (.int k n) := .in rfl
theorem VR.string (R : Ren) (s : ByteArray) : VR R (.string s) (.string s) := .in rfl
theorem VR.nilFunc (R : Ren) : VR R .nilFunc .nilFunc := .in rfl
theorem VR.nilIface (R : Ren) : VR R .nilIface .nilIface := .in rfl
theorem VR.pointer {R : Ren} {a a' : Option Addr} (h : OAR R a a') : VR R (.pointer a) (.pointer a') := by
  cases a with
  | none => cases a' with
    | none => exact .in (.inl rfl)
    | some _ => exact h.elim
  | some a => cases a' with
    | none => exact h.elim
    | some a' => exact .in ⟨_, rfl, h⟩
/-- Of what is not known. -/
theorem VR.odd (R : Ren) {v' : Value} (h : Sm.odd v') : VR R (.pointer none) v' := .in (.inr h)
theorem VR.slice {R : Ren} {a a' : Option Addr} (h : OAR R a a') (l c : Nat) : VR R (.slice a l c) (.slice a' l c) := .in ⟨_, rfl, h⟩
theorem VR.map {R : Ren} {a a' : Option Nat} (h : ONR R a a') : VR R (.map a) (.map a') := .in ⟨_, rfl, h⟩
theorem VR.chan (R : Ren) (a : Option Nat) : VR R (.chan a) (.chan a) := .in ⟨_, rfl, rfl⟩
theorem VR.iface {R : Ren} (t : TypeId) {v v' : Value} (h : VR R v v') : VR R (.iface t v) (.iface t v') := .in ⟨_, rfl, h⟩
/-- Rows of values. -/
def XR (R : Ren) (x x' : Array Value) : Prop := XP (VR R) x x'
theorem XR.mono {R R' : Ren} (h : Le R R') {x x' : Array Value} (q : XR R x x') : XR R' x x' := ⟨q.1, fun i v v' a b => (q.2 i v v' a b).mono h⟩
theorem VR.func {R : Ren} {f f' : Fn} {x x' y y' : Array Value} (h : FnR R f f') (hx : XR R x x') (hy : XR R y y') : VR R (.func f x y) (.func f' x' y') := .in ⟨_, _, _, rfl, h, hx, hy⟩
theorem VR.agg {R : Ren} {x x' : Array Value} (h : XR R x x') : VR R (.agg x) (.agg x') := .in ⟨_, rfl, h⟩
theorem VR.tuple {R : Ren} {x x' : Array Value} (h : XR R x x') : VR R (.tuple x) (.tuple x') := .in ⟨_, rfl, h⟩
theorem XR.at {R : Ren} {x x' : Array Value} (q : XR R x x') {i : Nat} {v : Value} (h : x[i]? = some v) : ∃ v', x'[i]? = some v' ∧ VR R v v' := by
  have hi : i < x.size := by
    rcases Nat.lt_or_ge i x.size with h1 | h1
    · exact h1
    · rw [Array.getElem?_eq_none h1] at h; cases h
  have e : x'[i]? = some (x'[i]'(by rw [q.1]; exact hi)) := Array.getElem?_eq_getElem (by rw [q.1]; exact hi)
  exact ⟨_, e, q.2 i _ _ h e⟩
theorem XR.none {R : Ren} {x x' : Array Value} (q : XR R x x') {i : Nat} (h : x[i]? = none) : x'[i]? = none := by
  rw [Array.getElem?_eq_none_iff] at h ⊢
  rw [q.1]; exact h
theorem XR.push {R : Ren} {x x' : Array Value} (q : XR R x x') {v v' : Value} (h : VR R v v') : XR R (x.push v) (x'.push v') := by
  refine ⟨by simp [q.1], fun i u u' hu hu' => ?_⟩
  rw [Array.getElem?_push] at hu hu'
  rw [q.1] at hu'
  by_cases e : i = x.size
  · rw [if_pos e] at hu hu'; cases hu; cases hu'; exact h
  · rw [if_neg e] at hu hu'; exact q.2 i u u' hu hu'
theorem XR.set {R : Ren} {x x' : Array Value} (q : XR R x x') (k : Nat) {v v' : Value} (h : VR R v v') : XR R (x.setIfInBounds k v) (x'.setIfInBounds k v') := by
  refine ⟨by simp [q.1], fun i u u' hu hu' => ?_⟩
  rw [Array.getElem?_setIfInBounds] at hu hu'
  by_cases e : k = i
  · rw [if_pos e] at hu hu'
    split at hu
    · split at hu'
      · cases hu; cases hu'; exact h
      · cases hu'
    · cases hu
  · rw [if_neg e] at hu hu'; exact q.2 i u u' hu hu'
/-- Rows that agree from l on; the second one may be longer. -/
def XL (l : Nat) (P : Value → Value → Prop) (x x' : Array Value) : Prop := x.size ≤ x'.size ∧ ∀ (i : Nat) v v', l ≤ i → x[i]? = some v → x'[i]? = some v' → P v v'
theorem XL.mono {l : Nat} {P P' : Value → Value → Prop} (h : ∀ a b, P a b → P' a b) {x x' : Array Value} (q : XL l P x x') : XL l P' x x' := ⟨q.1, fun i v v' z a b => h _ _ (q.2 i v v' z a b)⟩
theorem XL.of {R : Ren} {l : Nat} {x x' : Array Value} (q : XR R x x') : XL l (VR R) x x' := ⟨Nat.le_of_eq q.1.symm, fun i v v' _ a b => q.2 i v v' a b⟩
theorem XL.at {R : Ren} {l : Nat} {x x' : Array Value} (q : XL l (VR R) x x') {i : Nat} (hl : l ≤ i) {v : Value} (h : x[i]? = some v) : ∃ v', x'[i]? = some v' ∧ VR R v v' := by
  have hi : i < x'.size := Nat.lt_of_lt_of_le (Array.getElem?_eq_some_iff.1 h).1 q.1
  have e : x'[i]? = some (x'[i]'hi) := Array.getElem?_eq_getElem hi
  exact ⟨_, e, q.2 i _ _ hl h e⟩
theorem XL.set {R : Ren} {l : Nat} {x x' : Array Value} (q : XL l (VR R) x x') (k : Nat) {v v' : Value} (h : VR R v v') : XL l (VR R) (x.setIfInBounds k v) (x'.setIfInBounds k v') := by
  refine ⟨by simpa using q.1, fun i u u' hl hu hu' => ?_⟩
  rw [Array.getElem?_setIfInBounds] at hu hu'
  by_cases e : k = i
  · rw [if_pos e] at hu hu'
    split at hu
    · split at hu'
      · cases hu; cases hu'; exact h
      · cases hu'
    · cases hu
  · rw [if_neg e] at hu hu'; exact q.2 i u u' hl hu hu'
/-- Objects: rows of cells, loops over functions, and what they put off (nothing). -/
def OR (R : Ren) (l0 : Nat) : Obj → Obj → Prop
  | .cells c e fr, .cells c' e' fr' => e' = e ∧ XL l0 (VR R) c c' ∧ ∀ o, fr'.1 ≤ o → o < fr'.2 → fr.1 ≤ o ∧ o < fr.2
  | .number a l, .number a' l' => AR R a a' ∧ l' = l
  | .deferred d, .deferred d' => d' = d ∧ (d = none ∨ d = some [])
  | .loop l, .loop l' => (l'.state = l.state ∧ l'.pending = l.pending ∧ l'.fn = l.fn ∧ R.kn l.fn) ∧ XR R l.tmps l'.tmps ∧ l'.params = l.params ∧ l'.assign = l.assign ∧ l'.body = l.body ∧ R.rel l.defers l'.defers ∧ R.ok l.assign ∧ R.ok l.body ∧ ∀ c, l.pending = some c → R.ok c
  | _, _ => False
theorem OR.mono {R R' : Ren} {l0 : Nat} (h : Le R R') {o o' : Obj} (q : OR R l0 o o') : OR R' l0 o o' := by
  cases o <;> cases o' <;> first | exact q.elim | exact ⟨⟨q.1.1, q.1.2.1, q.1.2.2.1, (h.2.1 _).2.1 q.1.2.2.2⟩, q.2.1.mono h, q.2.2.1, q.2.2.2.1, q.2.2.2.2.1, h.1 _ _ q.2.2.2.2.2.1, (h.2.2.2.1 _).1 q.2.2.2.2.2.2.1, (h.2.2.2.1 _).1 q.2.2.2.2.2.2.2.1, fun c e => (h.2.2.2.1 _).1 (q.2.2.2.2.2.2.2.2 c e)⟩ | exact ⟨q.1, q.2.1.mono (fun _ _ z => VR.mono h z), q.2.2⟩ | exact ⟨AR.mono h q.1, q.2⟩ | exact q
end Go.Proofs.YtfbdgdphpdhcpaaDoor.Sm
namespace Go.Proofs.YtfbdgdphpdhcpaaDoor.Sm
open Go

/-- What nobody can write. -/
def Shut : Obj → Prop
  | .cells c _ fr => ∀ k, k < c.size → fr.1 ≤ k ∧ k < fr.2
  | _ => False
structure WR (R : Ren) (v w : World) : Prop where
  inj : ∀ b c b', R.rel b b' → R.rel c b' → b = c
  fn : ∀ b b' c', R.rel b b' → R.rel b c' → b' = c'
  dom : ∀ b b', R.rel b b' → b < v.heap.size ∧ b' < w.heap.size
  obj : ∀ (b b' : Nat) (o : Obj), R.rel b b' → v.heap[b]? = some o → ∃ o', w.heap[b']? = some o' ∧ OR R (R.lo b) o o'
  low : (R.low ≤ v.heap.size ∧ ∀ b, R.lo b = 0) ∧ R.low ≤ w.heap.size
  same : ∀ b b', R.rel b b' → (b < R.low ∨ b' < R.low) → b' = b
  tape : ∀ k, v.tape (v.drawn + k) = w.tape (w.drawn + k)
/-- A block of the second world that the first one lets be looked into. -/
def Seen (R : Ren) (b' : Nat) : Prop := ∃ b : Nat, R.rel b b'
/-- .. and written. -/
def Open (R : Ren) (v : World) (b' : Nat) : Prop := ∃ (b : Nat) (o : Obj), R.rel b b' ∧ v.heap[b]? = some o ∧ ¬ Shut o
/-- What an entry of the second run may name. -/
def EvOk (R : Ren) (v : World) (e : Event) : Prop :=
  match e.loc with
  | .cell a => e.sync = false ∧ Seen R a.block ∧ (e.write = true → Open R v a.block)
  | .obj r => e.sync = false ∧ Seen R r ∧ (e.write = true → Open R v r)
  | .mark .noRoom => True
  | _ => False
/-- What has been put off is as it was, or nothing. -/
def Dk (v v' : World) : Prop := ∀ (b : Nat) l, v'.heap[b]? = some (.deferred l) → v.heap[b]? = some (.deferred l) ∨ l = none ∨ l = some []
theorem Dk.refl (v : World) : Dk v v := fun _ _ h => .inl h
theorem Dk.heap {v v' : World} (h : v'.heap = v.heap) : Dk v v' := fun b l q => .inl (by rw [← h]; exact q)
theorem Dk.trans {v v' v'' : World} (h : Dk v v') (h' : Dk v' v'') : Dk v v'' := fun b l q => by
  rcases h' b l q with q | q
  · exact h b l q
  · exact .inr q
/-- What a run does to the second world. -/
structure Gu (R R' : Ren) (v v' w w' : World) (es : Array Event) : Prop where
  le : Le R R'
  wr0 : WR R v w
  wr : WR R' v' w'
  new : ∀ b b' : Nat, R'.rel b b' → R.rel b b' ∨ (v.heap.size ≤ b ∧ w.heap.size ≤ b')
  size : w.heap.size ≤ w'.heap.size
  kept : ∀ b' : Nat, b' < w.heap.size → ¬ Open R v b' → w'.heap[b']? = w.heap[b']?
  os : w'.os = w.os ∧ w'.output = w.output ∧ w'.tape = w.tape
  shut : ∀ (b : Nat) (o : Obj), v.heap[b]? = some o → ∃ o', v'.heap[b]? = some o' ∧ (Shut o → Shut o') ∧ (Shut o' → Shut o)
  dk : Dk v v'
  evs : ∀ e ∈ es, EvOk R' v' e
theorem Gu.refl {R : Ren} {v w : World} (h : WR R v w) : Gu R R v v w w #[] :=
  ⟨Le.refl R, h, h, fun _ _ h => .inl h, Nat.le_refl _, fun _ _ _ => rfl, ⟨rfl, rfl, rfl⟩, fun _ o e => ⟨o, e, id, id⟩, Dk.refl v, fun _ h => absurd h (by simp)⟩
theorem Gu.seen {R R' : Ren} {v v' w w' : World} {es : Array Event} (h : Gu R R' v v' w w' es) {b' : Nat} (hs : Seen R b') : Seen R' b' := by
  obtain ⟨b, hr⟩ := hs
  exact ⟨b, h.le.1 _ _ hr⟩
theorem Gu.open {R R' : Ren} {v v' w w' : World} {es : Array Event} (h : Gu R R' v v' w w' es) {b' : Nat} (hs : Open R v b') : Open R' v' b' := by
  obtain ⟨b, o, hr, ho, hq⟩ := hs
  obtain ⟨o', h1, _, h5⟩ := h.shut b o ho
  exact ⟨b, o', h.le.1 _ _ hr, h1, fun q => hq (h5 q)⟩
theorem Gu.ev {R R' : Ren} {v v' w w' : World} {es : Array Event} (h : Gu R R' v v' w w' es) {e : Event} (he : EvOk R v e) : EvOk R' v' e := by
  unfold EvOk at he ⊢
  split at he
  · exact ⟨he.1, h.seen he.2.1, fun q => h.open (he.2.2 q)⟩
  · exact ⟨he.1, h.seen he.2.1, fun q => h.open (he.2.2 q)⟩
  · trivial
  · exact he.elim
/-- One behind the other. -/
theorem Gu.then {R R' R'' : Ren} {v v' v'' w w' w'' : World} {es es' : Array Event} (h : Gu R R' v v' w w' es) (h' : Gu R' R'' v' v'' w' w'' es') : Gu R R'' v v'' w w'' (es ++ es') where
  le := h.le.trans h'.le
  wr0 := h.wr0
  wr := h'.wr
  new b b' hb := by
    rcases h'.new b b' hb with h1 | h1
    · exact h.new b b' h1
    · have : v.heap.size ≤ v'.heap.size := by
        rcases Nat.lt_or_ge v'.heap.size v.heap.size with q | q
        · obtain ⟨o', e, _⟩ := h.shut v'.heap.size _ (Array.getElem?_eq_getElem q)
          rw [Array.getElem?_eq_none (Nat.le_refl _)] at e; cases e
        · exact q
      exact .inr ⟨Nat.le_trans this h1.1, Nat.le_trans h.size h1.2⟩
  size := Nat.le_trans h.size h'.size
  kept b' hb hn := by
    by_cases q : Open R' v' b'
    · exfalso
      obtain ⟨b, o, hr, ho, hs⟩ := q
      rcases h.new b b' hr with h1 | h1
      · rcases hv : v.heap[b]? with _ | o0
        · have := (h.wr0.dom b b' h1).1
          rw [Array.getElem?_eq_getElem this] at hv; cases hv
        · obtain ⟨o', e, s1, _⟩ := h.shut b o0 hv
          rw [ho] at e; cases e
          exact hn ⟨b, o0, h1, hv, fun z => hs (s1 z)⟩
      · omega
    · exact (h'.kept b' (Nat.lt_of_lt_of_le hb h.size) q).trans (h.kept b' hb hn)
  os := ⟨h'.os.1.trans h.os.1, h'.os.2.1.trans h.os.2.1, h'.os.2.2.trans h.os.2.2⟩
  shut b o ho := by
    obtain ⟨o1, e1, c1, d1⟩ := h.shut b o ho
    obtain ⟨o2, e2, c2, d2⟩ := h'.shut b o1 e1
    exact ⟨o2, e2, fun q => c2 (c1 q), fun q => d1 (d2 q)⟩
  dk := h.dk.trans h'.dk
  evs e he := by
    rcases Array.mem_append.1 he with q | q
    · exact h'.ev (h.evs e q)
    · exact h'.evs e q
end Go.Proofs.YtfbdgdphpdhcpaaDoor.Sm
