/-
  The concepts' places with what two have in common and what they close to together are a lattice. Conditions: as each theorem says.
  What order.Ideals and the reference's Ideals answer; hasselaw.OrderIdeals returns true for every order. No condition but that a slice reads as a slice of numbers.
  What an append or a call keeps of what lies below. No condition.
  What the reference's Ideals and hasselaw.numbersAre answer; hasselaw.OrderIdeals returns true for every order. No condition but that a slice reads as a slice of numbers.
  Regions that draw their order and end with stores: a condition S on the world is kept up to the last operations, which wait for all that is taken first. No condition.
-/
import Derived.Test.YthhnngmfbbljaaaGreatConT
import Derived.Test.YthhnngmfbbljaaaGreatTriM
import Derived.Test.YthhnngmfbbljaaaGreatFilM
import Derived.WalkMore
import Derived.Deep.LoopGhost
import Derived.Deep.RegionHeld3
import Derived.Test.YthhnngmfbbljaaaGreatRows
namespace Go.Proofs.YthhnngmfbbljaaaGreat
set_option maxRecDepth 100000

theorem Closing.or {n : Nat} {C : Nat → Nat} (hC : Closing n C) {a b : Nat} (ha : a < pw n) (hb : b < pw n) : C (a ||| C b) = C (a ||| b) := by
  obtain ⟨h1, h2⟩ := hC
  have hCb := (h1 b hb).1
  have hab : a ||| b < pw n := Nat.or_lt_two_pow ha hb
  have haC : a ||| C b < pw n := Nat.or_lt_two_pow ha hCb
  apply Nat.eq_of_testBit_eq
  intro i
  rw [Bool.eq_iff_iff]
  constructor
  · refine h2 _ _ haC (h1 _ hab).1 (h1 _ hab).2.2 (fun j hj => ?_) i
    rw [Nat.testBit_or, Bool.or_eq_true] at hj
    rcases hj with hj | hj
    · exact (h1 _ hab).2.1 j (by rw [Nat.testBit_or, hj]; rfl)
    · exact h2 b _ hb (h1 _ hab).1 (h1 _ hab).2.2 (fun k hk => (h1 _ hab).2.1 k (by rw [Nat.testBit_or, hk, Bool.or_true])) j hj
  · refine h2 _ _ hab (h1 _ haC).1 (h1 _ haC).2.2 (fun j hj => ?_) i
    rw [Nat.testBit_or, Bool.or_eq_true] at hj
    rcases hj with hj | hj
    · exact (h1 _ haC).2.1 j (by rw [Nat.testBit_or, hj]; rfl)
    · exact (h1 _ haC).2.1 j (by rw [Nat.testBit_or, (h1 b hb).2.1 j hj, Bool.or_true])
theorem or_self' (a : Nat) : a ||| a = a := by apply Nat.eq_of_testBit_eq; intro i; rw [Nat.testBit_or, Bool.or_self]
theorem and_self' (a : Nat) : a &&& a = a := by apply Nat.eq_of_testBit_eq; intro i; rw [Nat.testBit_and, Bool.and_self]
theorem or_and_abs (a b : Nat) : a ||| (a &&& b) = a := by apply Nat.eq_of_testBit_eq; intro i; rw [Nat.testBit_or, Nat.testBit_and]; cases a.testBit i <;> simp

variable {h : Nat → Nat} {n m : Nat}
theorem con_lat (h10 : n ≤ 10) (m10 : m ≤ 10) (hh : ∀ k, k < n → h k < 1024) : Lat (tsets h n m).length (cnm h n m) (cnj h n m) := by
  have hr := tsets_rises h n m
  have hC := clt_closing (m := m) h10 m10 hh
  have hm := fun x y hx hy => cnm_is (x := x) (y := y) (m := m) h10 m10 hh hx hy
  have hj := fun x y hx hy => cnj_is (x := x) (y := y) (m := m) h10 m10 hh hx hy
  have hb : ∀ x, x < (tsets h n m).length → nth (tsets h n m) x < pw n := fun x hx => (tsets_at hx).1
  have hcl : ∀ x, x < (tsets h n m).length → clt h n m (nth (tsets h n m) x) = nth (tsets h n m) x := fun x hx => (tsets_at hx).2
  refine ⟨fun x y hx hy => (hm x y hx hy).1, fun x y hx hy => (hj x y hx hy).1, lws_iff.2 fun x y z hx hy hz => ⟨?_, ?_, ?_, ?_⟩, lws_iff.2 fun x y z hx hy hz => ⟨?_, ?_, ?_, ?_⟩⟩
  · refine hr.one (hm x x hx hx).1 hx ?_
    rw [(hm x x hx hx).2, and_self']
  · refine hr.one (hm x y hx hy).1 (hm y x hy hx).1 ?_
    rw [(hm x y hx hy).2, (hm y x hy hx).2, Nat.and_comm]
  · have h1 := hm y z hy hz
    have h2 := hm x y hx hy
    refine hr.one (hm x _ hx h1.1).1 (hm _ z h2.1 hz).1 ?_
    rw [(hm x _ hx h1.1).2, (hm _ z h2.1 hz).2, h1.2, h2.2, Nat.and_assoc]
  · have h1 := hj x y hx hy
    refine hr.one (hm x _ hx h1.1).1 hx ?_
    rw [(hm x _ hx h1.1).2, h1.2]
    apply Nat.eq_of_testBit_eq
    intro i
    rw [Nat.testBit_and]
    cases e : (nth (tsets h n m) x).testBit i
    · rfl
    · rw [(hC.1 _ (tor_lt hx hy)).2.1 i (by rw [Nat.testBit_or, e]; rfl)]; rfl
  · refine hr.one (hj x x hx hx).1 hx ?_
    rw [(hj x x hx hx).2, or_self', hcl x hx]
  · refine hr.one (hj x y hx hy).1 (hj y x hy hx).1 ?_
    rw [(hj x y hx hy).2, (hj y x hy hx).2, Nat.or_comm]
  · have h1 := hj y z hy hz
    have h2 := hj x y hx hy
    refine hr.one (hj x _ hx h1.1).1 (hj _ z h2.1 hz).1 ?_
    rw [(hj x _ hx h1.1).2, (hj _ z h2.1 hz).2, h1.2, h2.2, hC.or (hb x hx) (tor_lt hy hz), Nat.or_comm (clt h n m _) _, hC.or (hb z hz) (tor_lt hx hy), Nat.or_comm (nth (tsets h n m) z) _, Nat.or_assoc]
  · have h1 := hm x y hx hy
    refine hr.one (hj x _ hx h1.1).1 hx ?_
    rw [(hj x _ hx h1.1).2, h1.2, or_and_abs, hcl x hx]
/-- The marks of what two close to together are those that both have. -/
theorem con_join (h10 : n ≤ 10) (m10 : m ≤ 10) (hh : ∀ k, k < n → h k < 1024) {x y : Nat} (hx : x < (tsets h n m).length) (hy : y < (tsets h n m).length) : mks h n m (nth (tsets h n m) (cnj h n m x y)) = mks h n m (nth (tsets h n m) x) &&& mks h n m (nth (tsets h n m) y) := by
  rw [(cnj_is h10 m10 hh hx hy).2, ← wil_or]
  exact wil_same h10 m10 hh (tor_lt hx hy)
theorem cons_at2 {k : Nat} (hk : k < (tsets h n m).length) : (pairAt (cons h n m) k).2 = ((mks h n m (nth (tsets h n m) k) : Nat) : Int) := by
  unfold pairAt cons nth
  rw [List.getD_eq_getElem?_getD, List.getD_eq_getElem?_getD, List.getElem?_map, List.getElem?_eq_getElem hk]; rfl
end Go.Proofs.YthhnngmfbbljaaaGreat
namespace Go.Proofs.YthhnngmfbbljaaaGreat
set_option maxRecDepth 100000
open Go.RowKit

def IdealsPost (n : Int) (len : Nat) (f : Nat → Int) (e : Ending) (w' : World) : Prop :=
  ∃ (c : Int) (v : Value), Chk n len f c ∧ e = .returned (.tuple #[v, .int .i64 c]) ∧ ((c ≠ 0 ∧ v = .slice none 0 0) ∨ (c = 0 ∧ NSl w' v (idls (nat f) len)))

set_option maxHeartbeats 2000000 in
theorem ideals_any (n : Int) (a : Option Addr) (len cap : Nat) (f : Nat → Int) (w : World) (hl : len ≤ maxLen) (hr : Row w a len f) :
    Calls Tryz.prog 31 #[.agg #[.int .i64 n, .slice a len cap]] w fun e w' => IdealsPost n len f e w' ∧ Below w.heap.size w w' := by
  have K0 : Held (w.alloc (.cells #[.int .i64 n, .slice a len cap] 24)) w.heap.size n a len cap f := Held.box hr
  have HB0 : Hid (Below w.heap.size w (w.alloc (.cells #[.int .i64 n, .slice a len cap] 24))) := (Below.refl _ _).alloc (Nat.le_refl _) _
  clear hr
  go_enter Tryz.func31, Tryz.ntmps31
  go_wp2
  go_step3
  go_wp2_with fail
  refine (check_any n a len cap f _ hl K0.row).mono ?_
  rintro e w1 ⟨⟨c, rfl, hc⟩, hb⟩
  have K1 := K0.step hb
  have HB1 : Hid (Below w.heap.size w w1) := Below.then HB0.out hb
  clear hb K0 HB0
  by_cases h0 : c = 0
  · subst h0
    obtain ⟨rfl, h10, hrng, _⟩ := hc.good
    have HCH : Hid (Chk (len : Int) len f 0) := hc
    have HG2 : Hid (∀ k, k < len → nat f k < 1024) := hrng.small2 h10
    have H1 : Hid (Held w1 w.heap.size len a len cap (fun k => (nat f k : Nat))) := ⟨K1.c0, K1.c1, hrng.row K1.row⟩
    have k0 := K1.c0
    have k1 := K1.c1
    clear hc hrng K1
    obtain ⟨g, HGF⟩ : ∃ g, Hid (g = nat f) := ⟨_, rfl⟩
    rw [← HGF.out] at HG2 H1
    obtain ⟨I, HI⟩ : ∃ I, Hid (I = fun s => idlTo g s len) := ⟨_, rfl⟩
    have HIA : Hid (∀ s, I s = idlTo g s len) := fun s => by rw [HI.out]
    have HEQ : Hid (∀ (wx : World) (v : Value), NSl wx v (fil I (pw len)) → NSl wx v (idls (nat f) len)) := fun wx v h => by
      have e1 : idls (nat f) len = fil I (pw len) := by rw [← HGF.out, HI.out]; rfl
      rw [e1]; exact h
    have hsh := wrap_pow len (by omega)
    have hpw := pw_le len h10
    obtain ⟨i0, hi, hz0, hz1, hz2⟩ := info_parts Tryz.info3
    go_wp2_with fail
    go_step3
    go_wp2_with fail
    rw [hsh]
    clear k0 k1 hsh
    generalize pw len = P at *
    go_loopw [5, 17] (fun v i wx => ∃ s : Nat, s ≤ P ∧ i = .int .i64 s ∧ wx.ownsRow w1.heap.size 3 1 v (fil I s).length (natVals (fil I s)) ∧ Hid (Below w1.heap.size w1 wx)) (fun _ i _ => P - (intOf i).toNat)
    case atStart => exact ⟨0, Nat.zero_le _, rfl, World.ownsRow_nil _ _ _ _, Below.refl _ _⟩
    case round =>
      obtain ⟨s, hs, rfl, hown, hB⟩ := hrel
      have hH := H1.out.step hB.out
      have c0 := hH.c0
      have c1 := hH.c1
      by_cases hlt : s < P
      · go_wp2
        go_loopg [23] len (fun m t wy => ∃ p : Nat, p ≤ len ∧ t = .int .i64 p ∧ len - p ≤ m ∧ Hid (∀ q, q < p → s.testBit q = true → lack (g q) s = 0) ∧ Hid (Below w1.heap.size w1 wy) ∧ wy.ownsRow w1.heap.size 3 1 u5 (fil I s).length (natVals (fil I s))) 
        case atStart => exact ⟨0, Nat.zero_le _, rfl, Nat.sub_le _ _, upto_zero, hB.out, hown⟩
        case round =>
          clear hB hown hH c0 c1
          obtain ⟨p, hp, rfl, hmp, hok, hB, hown⟩ := hrel
          have hH := H1.out.step hB.out
          have c0 := hH.c0
          have c1 := hH.c1
          by_cases hpl : p < len
          · obtain ⟨b, off, rfl, hcc⟩ := hH.row.at hpl
            have hcp := hcc p hpl
            clear hcc
            have hgp := HG2.out p hpl
            have hand := i64_andNot (g p) s (by omega) (by omega)
            cases hb : s.testBit p
            · go_wp2_with (go_at_call 65; refine (has_any _ _ _ (by omega) (by omega)).mono ?_; rintro e w' ⟨rfl, rfl⟩)
              go_roundg (gk - 1)
              case rel => exact ⟨p + 1, by omega, by go_num, by omega, upto_succ hok.out (fun h => by rw [hb] at h; cases h), hB.out, hown⟩
              case measure => omega
            · by_cases hz : lack (g p) s = 0
              · have hz' : (((lack (g p) s : Nat) : Int) != 0) = false := by simp [hz]
                have HZ : Hid (lack (g p) s = 0) := hz
                clear hz
                go_wp2_with (go_at_call 65; refine (has_any _ _ _ (by omega) (by omega)).mono ?_; rintro e w' ⟨rfl, rfl⟩)
                go_roundg (gk - 1)
                case rel => exact ⟨p + 1, by omega, by go_num, by omega, upto_succ hok.out (fun _ => HZ.out), hB.out, hown⟩
                case measure => omega
              · have hz' : (((lack (g p) s : Nat) : Int) != 0) = true := by simp; exact hz
                have HE : Hid (fil I (s + 1) = fil I s) := fil_no ((HIA.out s).trans (idlTo_false hpl hb hz))
                clear hz
                go_wp2_with (go_at_call 65; refine (has_any _ _ _ (by omega) (by omega)).mono ?_; rintro e w' ⟨rfl, rfl⟩)
                go_roundw
                case rel => exact ⟨s + 1, by omega, by go_num, by rw [HE.out]; exact hown, hB⟩
                case measure => simp [intOf]; omega
          · have hpn : p = len := by omega
            have HE : Hid (fil I (s + 1) = fil I s ++ [s]) := fil_yes ((HIA.out s).trans ((idlTo_iff g s len).2 (by rw [← hpn]; exact hok.out)))
            have hlen := fil_len I s
            have hsz := hB.out.size
            obtain ⟨L, HL⟩ : ∃ L, Hid (L = fil I s) := ⟨_, rfl⟩
            rw [← HL.out] at hown hlen
            subst hpn
            clear hH c0 c1
            go_wp2_with (at_builtin; refine wpList_append_own _ rfl _ _ 22 rfl w1.heap.size 3 i0 (.int .i64 0) 1 8 Tryz.underlying22 hi hz0 hz1 hz2 rfl (by decide) _ _ _ rfl (hown.alloc _) ⟨wr.heap.size, 0, none⟩ 1 1 [.int .i64 (s : Nat)] rfl rfl ?c1 ?c2 ?c3 ?c4 ?c5 ?_)
            case c1 =>
              intro j u hj
              match j, hj with
              | 0, hj => simp at hj; subst hj; simp [Addr.add]
            case c2 => intro u hu; simp at hu; subst hu; rfl
            case c3 => unfold maxLen; omega
            case c4 => omega
            case c5 => simp; omega
            intro v' w2 hown' hgrow _
            have HB5 : Hid (Below w1.heap.size w1 w2) := below_append3 hB.out hown hgrow
            have HO5 : Hid (w2.ownsRow w1.heap.size 3 1 v' (fil I (s + 1)).length (natVals (fil I (s + 1)))) := by
              rw [HE.out, ← HL.out, natVals_append, List.length_append]; exact hown'
            clear hown' hgrow hown hB hlen hsz HL
            go_wp2_with fail
            go_roundw
            case rel => exact ⟨s + 1, by omega, by go_num, HO5.out, HB5.out⟩
            case measure => simp [intOf]; omega
      · have hsn : s = P := by omega
        subst hsn
        have HF : Hid (NSl wr u5 (idls (nat f) len)) := HEQ.out _ _ (owns_nats hown)
        clear hown hH c0 c1
        go_wp2
        rw [Exit.noGoto_ret]
        go_ret2
        exact ⟨⟨0, _, HCH.out, rfl, .inr ⟨rfl, HF.out⟩⟩, Below.then HB1.out hB.out⟩
  · have hne : (c != 0) = true := by simpa using h0
    have HCH : Hid (Chk n len f c) := hc
    clear hc
    go_wp2_with fail
    rw [Exit.noGoto_ret]
    go_ret2
    exact ⟨⟨c, _, HCH.out, rfl, .inl ⟨h0, rfl⟩⟩, HB1.out⟩
end Go.Proofs.YthhnngmfbbljaaaGreat
namespace Go.Proofs.YthhnngmfbbljaaaGreat
set_option maxRecDepth 100000
open Go.RowKit

/-- An order's box, and what lies below it, kept: the box reads as it did. -/
theorem Held.kept {w wx : World} {n : Int} {a : Option Addr} {len cap : Nat} {f : Nat → Int} (h : Row w a len f) (hb : Below (w.heap.size + 1) (w.alloc (.cells #[.int .i64 n, .slice a len cap] 24)) wx) : Held wx w.heap.size n a len cap f :=
  (Held.box h).step (by rw [World.size_alloc]; exact hb)
theorem below_call {w wx w1 : World} {o : Obj} (h : Below (w.heap.size + 1) (w.alloc o) wx) (hb : Below wx.heap.size wx w1) : Below (w.heap.size + 1) (w.alloc o) w1 :=
  h.trans (hb.mono (by have := h.size; simpa using this))
theorem below_append {w wx w1 : World} {o o2 : Obj} {e : TypeId} {size n : Nat} {v : Value} {xs : List Value} (h : Below (w.heap.size + 1) (w.alloc o) wx) (hown : wx.ownsRow (w.heap.size + 1) e size v n xs) (hg : (wx.alloc o2).grownBy w1 v.ownBlock) : Below (w.heap.size + 1) (w.alloc o) w1 :=
  (h.alloc (by have := h.size; simpa using this) o2).grown hg (by have := h.size; simp at this ⊢; omega) (owns_block hown)

end Go.Proofs.YthhnngmfbbljaaaGreat
namespace Go.Proofs.YthhnngmfbbljaaaGreat
set_option maxRecDepth 100000
open Go.RowKit

theorem NSl.below {w w' : World} {v : Value} {l : List Nat} (h : NSl w v l) (hb : Below w.heap.size w w') : NSl w' v l := by
  obtain ⟨a, cap, rfl, hr⟩ := h
  exact ⟨a, cap, rfl, hr.below hb⟩
theorem idls_len (g : Nat → Nat) (n : Nat) (h : n ≤ 10) : (idls g n).length ≤ 1024 := Nat.le_trans (fil_len _ _) (pw_le n h)

end Go.Proofs.YthhnngmfbbljaaaGreat
namespace Go.Proofs.YthhnngmfbbljaaaGreat
set_option maxRecDepth 100000
open Go

section
variable {P : Program} {ops : Array Oper} {Q : Exit → Act → World → Prop} {S : World → Prop} {late : Nat → Bool}

/-- In whatever order the rest comes: behind each operation that is not one of the late ones S holds. -/
def Lates (P : Program) (ops : Array Oper) (Q : Exit → Act → World → Prop) (S : World → Prop) (late : Nat → Bool) : Nat → Array Bool → Act → World → Prop
  | 0, done, a, w => Region.ready .any ops done = [] ∧ Q .normal a w
  | k + 1, done, a, w => (Region.ready .any ops done = [] → Q .normal a w) ∧
      ∀ i, i ∈ Region.ready .any ops done → wpOp P ops Q i (fun a' w' => (late i = false → S w') ∧ Lates P ops Q S late k (done.setIfInBounds i true) a' w') a w
theorem Lates.any : ∀ (k : Nat) (done : Array Bool) (a : Act) (w : World), Lates P ops Q S late k done a w → wpAny P .any ops Q k done a w
  | 0, _, _, _, h => h
  | k + 1, _, _, _, h => ⟨h.1, fun i hi => wpOp_mono (fun a' w' h' => Lates.any k _ a' w' h'.2) (h.2 i hi)⟩
/-- Do the late ones wait for i? -/
def waits (ops : Array Oper) (late : Nat → Bool) (i : Nat) : Bool :=
  (List.range ops.size).all fun j => !(late j) || (match ops[j]? with
    | some o => o.after.any fun e => Region.binds .any e && e.on == i
    | none => true)
theorem waits_at {i j : Nat} {oj : Oper} (h : waits ops late i = true) (hl : late j = true) (hj : ops[j]? = some oj) : ∃ e, e ∈ oj.after ∧ Region.binds .any e = true ∧ e.on = i := by
  have hlt : j < ops.size := by
    rcases Nat.lt_or_ge j ops.size with h | h
    · exact h
    · rw [Array.getElem?_eq_none h] at hj; cases hj
  have := List.all_eq_true.1 h j (List.mem_range.2 hlt)
  rw [hl, hj] at this
  simp only [Bool.not_true, Bool.false_or] at this
  obtain ⟨k, hk, he⟩ := Array.any_eq_true.1 this
  simp only [Bool.and_eq_true, beq_iff_eq] at he
  exact ⟨_, Array.getElem_mem _, he.1, he.2⟩
/-- Number i may be taken first, if the late ones wait for it. -/
theorem Lates.first {i : Nat} {oi : Oper} {v : Value} (hi : ops[i]? = some oi) (hsel : ∀ (j : Nat) (o : Oper) cs b, ops[j]? = some o → o.op ≠ .select cs b)
    (hQ : ∀ c a w, Q (.panic c) (a.put oi.dst v) w → Q (.panic c) a w) (hlate : late i = false) (hw : waits ops late i = true) :
    ∀ (k : Nat) (done : Array Bool) (a : Act) (w : World),
      (∀ j oj, ops[j]? = some oj → j ≠ i → done.getD j true = false → (∀ e ∈ oj.after, Region.binds .any e = true → e.on ≠ i) → oi.apart ops oj = true) →
      i ∈ Region.ready .any ops done → YieldsIf P ops S oi v a → S w → Lates P ops Q S late k (done.setIfInBounds i true) (a.put oi.dst v) w → Lates P ops Q S late (k + 1) done a w
  | 0, done, a, w, _, hr, hy, hS, H => by
    refine ⟨fun h => ?_, fun j hj => ?_⟩
    · rw [h] at hr; cases hr
    · by_cases e : j = i
      · rw [e]; exact hy.wpOp hi hS ⟨fun _ => hS, H⟩
      · have := ready_mono hj e
        rw [H.1] at this; cases this
  | k + 1, done, a, w, hf, hr, hy, hS, H => by
    refine ⟨fun h => ?_, fun j hj => ?_⟩
    · rw [h] at hr; cases hr
    by_cases e : j = i
    · rw [e]; exact hy.wpOp hi hS ⟨fun _ => hS, H⟩
    obtain ⟨hj0, oj, hoj, hall⟩ := mem_ready.1 hj
    have hno : ∀ e ∈ oj.after, Region.binds .any e = true → e.on ≠ i := by
      intro e he hb he'
      have h1 := hall e he hb
      have h0 := (mem_ready.1 hr).1
      rw [he'] at h1
      rcases Nat.lt_or_ge i done.size with h' | h'
      · simp [h'] at h0 h1; rw [h0] at h1; cases h1
      · simp [Array.getElem?_eq_none h'] at h1
    have hjl : late j = false := by
      cases hl : late j
      · rfl
      · obtain ⟨e, he, hb, he'⟩ := waits_at hw hl hoj
        exact absurd he' (hno e he hb)
    have h1 := wpOp_putIf hoj (hf j oj hoj e hj0 hno) (fun cs b => hsel i oi cs b hi) (fun cs b => hsel j oj cs b hoj) hQ hy (H.2 j (ready_mono hj e))
    refine wpOp_mono (fun a' w' h3 => ⟨h3.2.1, Lates.first hi hsel hQ hlate hw k (done.setIfInBounds j true) a' w' ?_ (ready_mono hr (Ne.symm e)) h3.1 (h3.2.1 hjl) ?_⟩) h1
    · intro l ol hl hli hun hnl
      refine hf l ol hl hli ?_ hnl
      by_cases q : j = l
      · rw [← q]; exact hj0
      · rw [getD_set_ne true q] at hun; exact hun
    · rw [Array.setIfInBounds_comm _ _ e]; exact h3.2.2
theorem lates_take {i : Nat} {oi : Oper} {v : Value} {k : Nat} {done : Array Bool} {a : Act} {w : World} (hi : ops[i]? = some oi)
    (hs : Region.noSelect ops = true) (hf : Region.free .any ops done i = true) (hr : (Region.ready .any ops done).contains i = true) (hl : (late i = false) ∧ waits ops late i = true)
    (hQ : ∀ c a w, Q (.panic c) (a.put oi.dst v) w → Q (.panic c) a w) (hy : YieldsIf P ops S oi v a) (hS : S w)
    (h : Lates P ops Q S late k (done.setIfInBounds i true) (a.put oi.dst v) w) : Lates P ops Q S late (k + 1) done a w :=
  Lates.first hi (Region.noSelect_spec hs) hQ hl.1 hl.2 k done a w (Region.free_spec hi hf) (by simpa using hr) hy hS h
/-- Each of some comes next. -/
def AllLate (P : Program) (ops : Array Oper) (Q : Exit → Act → World → Prop) (S : World → Prop) (late : Nat → Bool) (k : Nat) (done : Array Bool) (a : Act) (w : World) (rs : List Nat) : Prop :=
  ∀ i ∈ rs, wpOp P ops Q i (fun a' w' => (late i = false → S w') ∧ Lates P ops Q S late k (done.setIfInBounds i true) a' w') a w
theorem AllLate.nil {k : Nat} {done : Array Bool} {a : Act} {w : World} : AllLate P ops Q S late k done a w [] := fun _ h => by cases h
theorem AllLate.cons {k : Nat} {done : Array Bool} {a : Act} {w : World} {i : Nat} {o : Oper} {rs : List Nat} (ho : ops[i]? = some o)
    (h : ∀ K' : Act → World → Prop, Shut (∀ a w, (late i = false → S w) → Lates P ops Q S late k (done.setIfInBounds i true) a w → K' a w) → if Region.wanted o (yielded ops a.tmps) = true then Oper.wp P o a w K' Q else K' (a.put o.dst undef) w)
    (hs : AllLate P ops Q S late k done a w rs) : AllLate P ops Q S late k done a w (i :: rs) := fun j hj => by
  rcases List.mem_cons.1 hj with rfl | hj
  · exact wpOp_step ho (fun K' hK => h K' (fun a w hS hW => hK a w ⟨hS, hW⟩))
  · exact hs j hj
theorem lates_ready {rs : List Nat} {k : Nat} {done : Array Bool} {a : Act} {w : World} (hr : Region.ready .any ops done = rs) (hne : rs ≠ [])
    (h : AllLate P ops Q S late k done a w rs) : Lates P ops Q S late (k + 1) done a w := ⟨fun h0 => absurd (hr ▸ h0) hne, hr ▸ h⟩
theorem lates_done {done : Array Bool} {a : Act} {w : World} (hr : Region.ready .any ops done = []) (h : Q .normal a w) : ∀ k, Lates P ops Q S late k done a w
  | 0 => ⟨hr, h⟩
  | _ + 1 => ⟨fun _ => h, by rw [hr]; simp⟩
theorem wp_lates {id : Nat} {a : Act} {w : World} (hm : P.follows .mixedOrders = true) (h : Lates P ops Q S late ops.size (Array.replicate ops.size false) a w.drew) : (Code.region id ops true).wp P Q a w :=
  wp_region_any hm (Lates.any _ _ _ _ h)
end
end Go.Proofs.YthhnngmfbbljaaaGreat
