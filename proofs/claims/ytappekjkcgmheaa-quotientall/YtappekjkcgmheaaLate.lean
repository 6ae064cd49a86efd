/-
  hasselaw.QuotientChecks returns true for every lattice and list. No condition but that slices read as slices of rows and of numbers.
  Regions that draw their order and end with stores: a condition S on the world is kept up to the last operations, which wait for all that is taken first. No condition.
-/
import Derived.Test.YtappekjkcgmheaaOthM
import Derived.Test.YtappekjkcgmheaaRqD
import Derived.Test.YtappekjkcgmheaaTruth
import Derived.Deep.RegionHeld3
import Derived.Test.YtappekjkcgmheaaRows
namespace Go.Proofs.Ytappekjkcgmheaa
open Go.RowKit
set_option maxRecDepth 100000

/-- What was handed in lies in a world: the lattice and its box, the classes. -/
structure QS (n : Int) (a : Option Addr) (la ca : Nat) (SA : Nat → Option Addr × Nat × Nat) (FA : Nat → Nat → Int) (b : Option Addr) (lb cb : Nat) (SB : Nat → Option Addr × Nat × Nat) (FB : Nat → Nat → Int) (p : Option Addr) (m : Nat) (f : Nat → Int) (B : Nat) (w : World) : Prop where
  ra : RR w a la SA FA
  rb : RR w b lb SB FB
  rp : Row w p m f
  bx : LB w B n a la ca b lb cb
theorem QS.step {n : Int} {a : Option Addr} {la ca : Nat} {SA : Nat → Option Addr × Nat × Nat} {FA : Nat → Nat → Int} {b : Option Addr} {lb cb : Nat} {SB : Nat → Option Addr × Nat × Nat} {FB : Nat → Nat → Int} {p : Option Addr} {m : Nat} {f : Nat → Int} {B : Nat} {w w' : World} (h : QS n a la ca SA FA b lb cb SB FB p m f B w) (hb : Below w.heap.size w w') : QS n a la ca SA FA b lb cb SB FB p m f B w' :=
  ⟨h.ra.below hb, h.rb.below hb, h.rp.below hb, h.bx.step hb⟩
theorem QS.new {n : Int} {a : Option Addr} {la ca : Nat} {SA : Nat → Option Addr × Nat × Nat} {FA : Nat → Nat → Int} {b : Option Addr} {lb cb : Nat} {SB : Nat → Option Addr × Nat × Nat} {FB : Nat → Nat → Int} {p : Option Addr} {m : Nat} {f : Nat → Int} {w : World} (hra : RR w a la SA FA) (hrb : RR w b lb SB FB) (hrp : Row w p m f) : QS n a la ca SA FA b lb cb SB FB p m f w.heap.size (w.alloc (.cells #[.int .i64 n, .slice a la ca, .slice b lb cb] 24)) := by
  have hb0 : Below w.heap.size w (w.alloc (.cells #[.int .i64 n, .slice a la ca, .slice b lb cb] 24)) := (Below.refl _ _).alloc (Nat.le_refl _) _
  exact ⟨hra.below hb0, hrb.below hb0, hrp.below hb0, LB.new _ _ _ _ _ _ _ _⟩
/-- What the reference says of classes in which nothing is wrong. -/
theorem isCongruence_row {n : Int} {a : Option Addr} {la ca : Nat} {SA : Nat → Option Addr × Nat × Nat} {FA : Nat → Nat → Int} {b : Option Addr} {lb cb : Nat} {SB : Nat → Option Addr × Nat × Nat} {FB : Nat → Nat → Int} {p : Option Addr} {m cm : Nat} {f : Nat → Int} {B : Nat} {w : World} (h : QS n a la ca SA FA b lb cb SB FB p m f B w) (hk : QCk n la SA FA lb SB FB m f 0) :
    Calls Try.prog 14 #[.agg #[.int .i64 n, .slice a la ca, .slice b lb cb], .slice p m cm] w fun e w' => BIs e (Con m (nat2 FA) (nat2 FB) (natF f)) ∧ Below w.heap.size w w' := by
  obtain ⟨hlk, hmn, hri⟩ := hk.good
  subst hmn
  obtain ⟨q, hq, h1, h40, rfl, rfl, hsa, hsb, hga, hgb, _⟩ := hlk.good
  obtain rfl : m = lb := by omega
  obtain ⟨bA, oA, rfl, hta, hia⟩ := h.ra.tb h1 hsa hga
  obtain ⟨bB, oB, rfl, htb, hib⟩ := h.rb.tb h1 hsb hgb
  obtain ⟨bp, op, rfl, hcc⟩ := h.rp.at (show 0 < m by omega)
  exact isCongruence_any m bA oA ca bB oB cb bp op cm _ _ (nat2 FA) (nat2 FB) (natF f) w h40 hia hib hta htb fun i hi => by
    have hp : 0 ≤ f i ∧ f i < bgI f i + 1 := by simpa [pnt] using hri i hi
    rw [hcc i hi, show ((natF f i : Nat) : Int) = f i from Int.toNat_of_nonneg hp.1]

set_option maxHeartbeats 8000000 in
theorem quotientChecks_any (n : Int) (a : Option Addr) (la ca : Nat) (SA : Nat → Option Addr × Nat × Nat) (FA : Nat → Nat → Int) (b : Option Addr) (lb cb : Nat) (SB : Nat → Option Addr × Nat × Nat) (FB : Nat → Nat → Int) (p : Option Addr) (m cm : Nat) (f : Nat → Int) (w : World) (hla : la ≤ maxLen) (hlb : lb ≤ maxLen) (_ : m ≤ maxLen) (hra : RR w a la SA FA) (hrb : RR w b lb SB FB) (hrp : Row w p m f) :
    Calls Try.prog 3 #[.agg #[.int .i64 n, .slice a la ca, .slice b lb cb], .slice p m cm] w fun e w' => e = .returned (.bool true) ∧ Below w.heap.size w w' := by
  have HB0 : Hid (Below w.heap.size w (w.alloc (.cells #[.int .i64 n, .slice a la ca, .slice b lb cb] 24))) := (Below.refl _ _).alloc (Nat.le_refl _) _
  have HS : Hid (QS n a la ca SA FA b lb cb SB FB p m f w.heap.size (w.alloc (.cells #[.int .i64 n, .slice a la ca, .slice b lb cb] 24))) := QS.new hra hrb hrp
  clear hra hrb hrp
  go_enter Try.func3, Try.ntmps3
  go_wp2_with fail
  refine (checkClasses_any n a la ca SA FA b lb cb SB FB p m cm f _ hla hlb HS.out.ra HS.out.rb HS.out.rp).mono ?_
  rintro e w1 ⟨⟨c, rfl, hc⟩, hb1⟩
  have HB1 : Hid (Below w.heap.size w w1) := Below.then HB0.out hb1
  have HS1 : Hid (QS n a la ca SA FA b lb cb SB FB p m f w.heap.size w1) := HS.out.step hb1
  have HCK : Hid (QCk n la SA FA lb SB FB m f c) := hc
  clear hc hb1 HB0 HS
  obtain ⟨k0, k1, k2⟩ := HS1.out.bx
  go_wp2_with fail
  refine (congruent_any n a la ca SA FA b lb cb SB FB p m cm f _ hla hlb HS1.out.ra HS1.out.rb HS1.out.rp).mono ?_
  rintro e w2 ⟨⟨c', v, rfl, hc, hv⟩, hb2⟩
  obtain rfl := hc.one HCK.out
  have HB2 : Hid (Below w.heap.size w w2) := Below.then HB1.out hb2
  have HS2 : Hid (QS n a la ca SA FA b lb cb SB FB p m f w.heap.size w2) := HS1.out.step hb2
  have HV : Hid ((c' ≠ 0 ∧ v = false) ∨ (c' = 0 ∧ (v = true ↔ Con m (nat2 FA) (nat2 FB) (natF f)))) := hv
  clear hc hb2 hv HB1 HS1 k0 k1 k2
  go_wp2_with fail
  refine (quotientBegun_any _).mono ?_
  rintro e w3 ⟨rfl, hb3⟩
  have HB3 : Hid (Below w.heap.size w w3) := Below.then HB2.out hb3
  have HS3 : Hid (QS n a la ca SA FA b lb cb SB FB p m f w.heap.size w3) := HS2.out.step hb3
  clear hb3 HB2 HS2
  obtain ⟨k0, k1, k2⟩ := HS3.out.bx
  go_wp2_with fail
  refine (qCheck_any n a la ca SA FA b lb cb SB FB p m cm f _ hla hlb HS3.out.ra HS3.out.rb HS3.out.rp).mono ?_
  rintro e w4 ⟨⟨c, rfl, hc⟩, hb4⟩
  obtain rfl := hc.one HCK.out
  have HB4 : Hid (Below w.heap.size w w4) := Below.then HB3.out hb4
  have HS4 : Hid (QS n a la ca SA FA b lb cb SB FB p m f w.heap.size w4) := HS3.out.step hb4
  clear hc hb4 HB3 HS3 k0 k1 k2
  by_cases h0 : c = 0
  · subst h0
    obtain ⟨k0, k1, k2⟩ := HS4.out.bx
    have HVV : Hid (v = true ↔ Con m (nat2 FA) (nat2 FB) (natF f)) := by
      rcases HV.out with ⟨h, _⟩ | ⟨_, h⟩
      · exact absurd rfl h
      · exact h
    clear HV
    go_wp2_with fail
    refine (isCongruence_row HS4.out HCK.out).mono ?_
    rintro e w5 ⟨⟨v', rfl, hv'⟩, hb5⟩
    obtain rfl : v = v' := bool_iff HVV.out hv'
    have HB5 : Hid (Below w.heap.size w w5) := Below.then HB4.out hb5
    clear hb5 HB4 HS4 hv' HVV k0 k1 k2
    go_wp2_with fail
    refine (truthIs_any 0 v v _ (.inr ⟨rfl, rfl⟩)).mono ?_
    rintro e w6 ⟨rfl, rfl⟩
    go_wp2_with fail
    go_ret
    exact ⟨rfl, HB5.out⟩
  · have hne : (c == 0) = false := by simpa using h0
    have HVV : Hid (v = false) := by
      rcases HV.out with ⟨_, h⟩ | ⟨h, _⟩
      · exact h
      · exact absurd h h0
    clear HV
    go_wp2_with fail
    refine (truthIs_any c v false _ (.inl ⟨h0, HVV.out⟩)).mono ?_
    rintro e w5 ⟨rfl, rfl⟩
    go_wp2_with fail
    go_ret
    exact ⟨rfl, HB4.out⟩
end Go.Proofs.Ytappekjkcgmheaa
namespace Go.Proofs.Ytappekjkcgmheaa
open Go

section
variable {P : Program} {ops : Array Oper} {Q : Exit → Act → World → Prop} {S : World → Prop} {late : Nat → Bool}

/-- In whatever order the rest comes: behind each operation that is not one of the late ones S holds. -/
def Lates (P : Program) (ops : Array Oper) (Q : Exit → Act → World → Prop) (S : World → Prop) (late : Nat → Bool) : Nat → Array Bool → Act → World → Prop
  | 0, done, a, w => Region.ready .any ops done = [] ∧ Q .normal a w
  | k + 1, done, a, w => (Region.ready .any ops done = [] → Q .normal a w) ∧
      ∀ i, i ∈ Region.ready .any ops done → wpOp P ops Q i (fun a' w' => (late i = false → S w') ∧ Lates P ops Q S late k (done.setIfInBounds i true) a' w') a w
theorem Lates.any : ∀ (k : Nat) (done : Array Bool) (a : Act) (w : World), Lates P ops Q S late k done a w → wpAny P .any ops Q k done a w
  | 0, _, _, _, h => h
  | k + 1, _, _, _, h => ⟨h.1, fun i hi => wpOp_mono (fun a' w' h' => Lates.any k _ a' w' h'.2) (h.2 i hi)⟩
/-- Do the late ones wait for i? -/
def waits (ops : Array Oper) (late : Nat → Bool) (i : Nat) : Bool :=
  (List.range ops.size).all fun j => !(late j) || (match ops[j]? with
    | some o => o.after.any fun e => Region.binds .any e && e.on == i
    | none => true)
theorem waits_at {i j : Nat} {oj : Oper} (h : waits ops late i = true) (hl : late j = true) (hj : ops[j]? = some oj) : ∃ e, e ∈ oj.after ∧ Region.binds .any e = true ∧ e.on = i := by
  have hlt : j < ops.size := by
    rcases Nat.lt_or_ge j ops.size with h | h
    · exact h
    · rw [Array.getElem?_eq_none h] at hj; cases hj
  have := List.all_eq_true.1 h j (List.mem_range.2 hlt)
  rw [hl, hj] at this
  simp only [Bool.not_true, Bool.false_or] at this
  obtain ⟨k, hk, he⟩ := Array.any_eq_true.1 this
  simp only [Bool.and_eq_true, beq_iff_eq] at he
  exact ⟨_, Array.getElem_mem _, he.1, he.2⟩
/-- Number i may be taken first, if the late ones wait for it. -/
theorem Lates.first {i : Nat} {oi : Oper} {v : Value} (hi : ops[i]? = some oi) (hsel : ∀ (j : Nat) (o : Oper) cs b, ops[j]? = some o → o.op ≠ .select cs b)
    (hQ : ∀ c a w, Q (.panic c) (a.put oi.dst v) w → Q (.panic c) a w) (hlate : late i = false) (hw : waits ops late i = true) :
    ∀ (k : Nat) (done : Array Bool) (a : Act) (w : World),
      (∀ j oj, ops[j]? = some oj → j ≠ i → done.getD j true = false → (∀ e ∈ oj.after, Region.binds .any e = true → e.on ≠ i) → oi.apart ops oj = true) →
      i ∈ Region.ready .any ops done → YieldsIf P ops S oi v a → S w → Lates P ops Q S late k (done.setIfInBounds i true) (a.put oi.dst v) w → Lates P ops Q S late (k + 1) done a w
  | 0, done, a, w, _, hr, hy, hS, H => by
    refine ⟨fun h => ?_, fun j hj => ?_⟩
    · rw [h] at hr; cases hr
    · by_cases e : j = i
      · rw [e]; exact hy.wpOp hi hS ⟨fun _ => hS, H⟩
      · have := ready_mono hj e
        rw [H.1] at this; cases this
  | k + 1, done, a, w, hf, hr, hy, hS, H => by
    refine ⟨fun h => ?_, fun j hj => ?_⟩
    · rw [h] at hr; cases hr
    by_cases e : j = i
    · rw [e]; exact hy.wpOp hi hS ⟨fun _ => hS, H⟩
    obtain ⟨hj0, oj, hoj, hall⟩ := mem_ready.1 hj
    have hno : ∀ e ∈ oj.after, Region.binds .any e = true → e.on ≠ i := by
      intro e he hb he'
      have h1 := hall e he hb
      have h0 := (mem_ready.1 hr).1
      rw [he'] at h1
      rcases Nat.lt_or_ge i done.size with h' | h'
      · simp [h'] at h0 h1; rw [h0] at h1; cases h1
      · simp [Array.getElem?_eq_none h'] at h1
    have hjl : late j = false := by
      cases hl : late j
      · rfl
      · obtain ⟨e, he, hb, he'⟩ := waits_at hw hl hoj
        exact absurd he' (hno e he hb)
    have h1 := wpOp_putIf hoj (hf j oj hoj e hj0 hno) (fun cs b => hsel i oi cs b hi) (fun cs b => hsel j oj cs b hoj) hQ hy (H.2 j (ready_mono hj e))
    refine wpOp_mono (fun a' w' h3 => ⟨h3.2.1, Lates.first hi hsel hQ hlate hw k (done.setIfInBounds j true) a' w' ?_ (ready_mono hr (Ne.symm e)) h3.1 (h3.2.1 hjl) ?_⟩) h1
    · intro l ol hl hli hun hnl
      refine hf l ol hl hli ?_ hnl
      by_cases q : j = l
      · rw [← q]; exact hj0
      · rw [getD_set_ne true q] at hun; exact hun
    · rw [Array.setIfInBounds_comm _ _ e]; exact h3.2.2
theorem lates_take {i : Nat} {oi : Oper} {v : Value} {k : Nat} {done : Array Bool} {a : Act} {w : World} (hi : ops[i]? = some oi)
    (hs : Region.noSelect ops = true) (hf : Region.free .any ops done i = true) (hr : (Region.ready .any ops done).contains i = true) (hl : (late i = false) ∧ waits ops late i = true)
    (hQ : ∀ c a w, Q (.panic c) (a.put oi.dst v) w → Q (.panic c) a w) (hy : YieldsIf P ops S oi v a) (hS : S w)
    (h : Lates P ops Q S late k (done.setIfInBounds i true) (a.put oi.dst v) w) : Lates P ops Q S late (k + 1) done a w :=
  Lates.first hi (Region.noSelect_spec hs) hQ hl.1 hl.2 k done a w (Region.free_spec hi hf) (by simpa using hr) hy hS h
/-- Each of some comes next. -/
def AllLate (P : Program) (ops : Array Oper) (Q : Exit → Act → World → Prop) (S : World → Prop) (late : Nat → Bool) (k : Nat) (done : Array Bool) (a : Act) (w : World) (rs : List Nat) : Prop :=
  ∀ i ∈ rs, wpOp P ops Q i (fun a' w' => (late i = false → S w') ∧ Lates P ops Q S late k (done.setIfInBounds i true) a' w') a w
theorem AllLate.nil {k : Nat} {done : Array Bool} {a : Act} {w : World} : AllLate P ops Q S late k done a w [] := fun _ h => by cases h
theorem AllLate.cons {k : Nat} {done : Array Bool} {a : Act} {w : World} {i : Nat} {o : Oper} {rs : List Nat} (ho : ops[i]? = some o)
    (h : ∀ K' : Act → World → Prop, Shut (∀ a w, (late i = false → S w) → Lates P ops Q S late k (done.setIfInBounds i true) a w → K' a w) → if Region.wanted o (yielded ops a.tmps) = true then Oper.wp P o a w K' Q else K' (a.put o.dst undef) w)
    (hs : AllLate P ops Q S late k done a w rs) : AllLate P ops Q S late k done a w (i :: rs) := fun j hj => by
  rcases List.mem_cons.1 hj with rfl | hj
  · exact wpOp_step ho (fun K' hK => h K' (fun a w hS hW => hK a w ⟨hS, hW⟩))
  · exact hs j hj
theorem lates_ready {rs : List Nat} {k : Nat} {done : Array Bool} {a : Act} {w : World} (hr : Region.ready .any ops done = rs) (hne : rs ≠ [])
    (h : AllLate P ops Q S late k done a w rs) : Lates P ops Q S late (k + 1) done a w := ⟨fun h0 => absurd (hr ▸ h0) hne, hr ▸ h⟩
theorem lates_done {done : Array Bool} {a : Act} {w : World} (hr : Region.ready .any ops done = []) (h : Q .normal a w) : ∀ k, Lates P ops Q S late k done a w
  | 0 => ⟨hr, h⟩
  | _ + 1 => ⟨fun _ => h, by rw [hr]; simp⟩
theorem wp_lates {id : Nat} {a : Act} {w : World} (hm : P.follows .mixedOrders = true) (h : Lates P ops Q S late ops.size (Array.replicate ops.size false) a w.drew) : (Code.region id ops true).wp P Q a w :=
  wp_region_any hm (Lates.any _ _ _ _ h)
end
end Go.Proofs.Ytappekjkcgmheaa
