/-
  What order.Covers answers, whatever it is handed. No condition but that a slice reads as a slice of numbers.
-/
import Derived.Test.YtipgojoiakbaiaaCovers
namespace Go.Proofs.Ytipgojoiakbaiaa
open Go.RowKit

theorem has_quietC (s p : Nat) (w : World) (hs : s < 9223372036854775808) (hp : p < 63) :
    Calls Try.prog 48 #[.int .i64 s, .int .i64 p] w fun e w' => e = .returned (.bool (s.testBit p)) ∧ w' = w :=
  (has_any s p w hs hp).mono fun _ _ ⟨h, h'⟩ => ⟨h, h'.symm⟩
theorem has_asC (s p : Nat) (b : Bool) (w : World) (h : s.testBit p = b) (hs : s < 9223372036854775808) (hp : p < 63) :
    Calls Try.prog 48 #[.int .i64 s, .int .i64 p] w fun e w' => e = .returned (.bool b) ∧ w' = w := by
  rw [← h]; exact has_quietC s p w hs hp
theorem covB_no1 {g : Nat → Nat} {n x y : Nat} (h : (g y).testBit x = false) : covB g n x y = false := by simp [covB, h]
theorem covB_eq {g : Nat → Nat} {n x y : Nat} (h : (g y).testBit x = true) : covB g n x y = (trn g n x &&& g y == 0) := by simp [covB, h]
theorem own_kept {w wx : World} {b n : Nat} {g : Nat → Nat} (h : Own w b n g) (hb : Below w.heap.size w wx) : Own wx b n g :=
  fun k hk => (h.keep hb (h.lt hk)) k hk
theorem below_append2 {w wx w1 : World} {o2 : Obj} {e : TypeId} {size n : Nat} {v : Value} {xs : List Value} (h : Below w.heap.size w wx) (hown : wx.ownsRow w.heap.size e size v n xs) (hg : (wx.alloc o2).grownBy w1 v.ownBlock) : Below w.heap.size w w1 :=
  (h.alloc h.size o2).grown hg (by have := h.size; simp; omega) (owns_block hown)

/-- A value that is a slice of the pairs l, with room for them. -/
def PSc (w : World) (v : Value) (l : List (Nat × Nat)) : Prop := ∃ a cap, v = .slice a l.length cap ∧ l.length ≤ cap ∧ PRow w a l.length (pairAt l) ∧ (a = none → cap = 0)
theorem PSc.below {w w' : World} {v : Value} {l : List (Nat × Nat)} (h : PSc w v l) (hb : Below w.heap.size w w') : PSc w' v l := by
  obtain ⟨a, cap, h1, h2, h3, h4⟩ := h
  exact ⟨a, cap, h1, h2, h3.below hb, h4⟩
theorem owns_pairs2 {w : World} {base : Nat} {v : Value} {l : List (Nat × Nat)} (h : w.ownsRow base 42 2 v l.length (pairVals l)) : PSc w v l := by
  obtain ⟨a, cap, e, hr⟩ := owns_pairs h
  refine ⟨a, cap, e, ?_, hr, ?_⟩
  · rcases h.2 with ⟨h1, h2⟩ | ⟨g, cap', cur, h1, _, _, h2, _⟩
    · rw [h2]; exact Nat.zero_le _
    · rw [e] at h1; simp at h1; rw [h1.2]; exact h2
  · rcases h.2 with ⟨h1, h2⟩ | ⟨g, cap', cur, h1, _, _, h2, _⟩
    · intro _; rw [e] at h1; simp at h1; exact h1.2.2
    · intro hn; rw [e] at h1; simp at h1; rw [hn] at h1; cases h1.1

def CoversPost (n : Int) (len : Nat) (f : Nat → Int) (e : Ending) (w' : World) : Prop :=
  ∃ (c : Int) (v : Value), Chk n len f c ∧ e = .returned (.tuple #[v, .int .i64 c]) ∧ ((c ≠ 0 ∧ v = .slice none 0 0) ∨ (c = 0 ∧ PSc w' v (covs (nat f) len)))

set_option maxHeartbeats 2000000 in
theorem covers_any (n : Int) (a : Option Addr) (len cap : Nat) (f : Nat → Int) (w : World) (hl : len ≤ maxLen) (hr : Row w a len f) :
    Calls Try.prog 25 #[.agg #[.int .i64 n, .slice a len cap]] w fun e w' => CoversPost n len f e w' ∧ Below w.heap.size w w' := by
  have K0 : Held (w.alloc (.cells #[.int .i64 n, .slice a len cap] 24)) w.heap.size n a len cap f := Held.box hr
  have HB0 : Hid (Below w.heap.size w (w.alloc (.cells #[.int .i64 n, .slice a len cap] 24))) := (Below.refl _ _).alloc (Nat.le_refl _) _
  clear hr
  go_enter Try.func25, Try.ntmps25
  go_wp2_with fail
  refine (check_any n a len cap f _ hl K0.row).mono ?_
  rintro e w1 ⟨⟨c, rfl, hc⟩, hb⟩
  have K1 := K0.step hb
  have HB1 : Hid (Below w.heap.size w w1) := Below.then HB0.out hb
  clear hb K0 HB0
  by_cases h0 : c = 0
  · subst h0
    obtain ⟨rfl, h10, hrng, _⟩ := hc.good
    have HCH : Hid (Chk (len : Int) len f 0) := hc
    have HS : Hid (Sm len len (nat f)) := hrng.small
    have HG2 : Hid (∀ k, k < len → nat f k < 1024) := hrng.small2 h10
    have H1 : Hid (Held w1 w.heap.size len a len cap (fun k => (nat f k : Nat))) := ⟨K1.c0, K1.c1, hrng.row K1.row⟩
    have k0 := K1.c0
    have k1 := K1.c1
    clear hc hrng K1
    obtain ⟨g, HGF⟩ : ∃ g, Hid (g = nat f) := ⟨_, rfl⟩
    rw [← HGF.out] at HS HG2 H1
    have HEQ : Hid (∀ (wx : World) (v : Value), PSc wx v (covs g len) → PSc wx v (covs (nat f) len)) := fun wx v h => by rw [← HGF.out]; exact h
    go_wp2_with fail
    refine (turn_any len g a cap _ h10 HG2.out H1.out.row).mono ?_
    rintro e w2 ⟨rfl, ho2, hb2⟩
    have H2 : Hid (Held w2 w.heap.size len a len cap (fun k => (g k : Nat))) := H1.out.step hb2
    have HO2 : Hid (Own w2 w1.heap.size len (trn g len)) := ho2
    have HB2 : Hid (Below w.heap.size w w2) := Below.then HB1.out hb2
    have m0 := H2.out.c0
    have m1 := H2.out.c1
    clear ho2 hb2 H1 HB1 k0 k1
    obtain ⟨C, HC⟩ : ∃ C, Hid (C = covB g len) := ⟨_, rfl⟩
    have HCV : Hid (covs g len = allPairs C len len) := by rw [HC.out]; rfl
    have HCA : Hid (∀ x y, C x y = covB g len x y) := fun x y => by rw [HC.out]
    obtain ⟨i0, hi, hz0, hz1, hz2⟩ := info_parts Try.info42
    go_wp2_with fail
    clear m0 m1
    go_loopw [6, 19] (fun v i wx => ∃ x : Nat, x ≤ len ∧ i = .int .i64 x ∧ wx.ownsRow w2.heap.size 42 2 v (allPairs C len x).length (pairVals (allPairs C len x)) ∧ Hid (Below w2.heap.size w2 wx)) (fun _ i _ => len - (intOf i).toNat)
    case atStart => exact ⟨0, Nat.zero_le _, rfl, World.ownsRow_nil _ _ _ _, Below.refl _ _⟩
    case round =>
      obtain ⟨x, hx, rfl, hown, hB⟩ := hrel
      have hH := H2.out.step hB.out
      have c0 := hH.c0
      have c1 := hH.c1
      clear hH
      by_cases hlt : x < len
      · go_wp2
        have HO1 : Hid (wr.ownsRow w2.heap.size 42 2 u6 (allPairs C len x ++ rowPairs C x 0).length (pairVals (allPairs C len x ++ rowPairs C x 0))) := by rw [show rowPairs C x 0 = [] from rfl, List.append_nil]; exact hown
        clear hown c0 c1
        go_loopw [6, 24] (fun v i wx => ∃ y : Nat, y ≤ len ∧ i = .int .i64 y ∧ wx.ownsRow w2.heap.size 42 2 v (allPairs C len x ++ rowPairs C x y).length (pairVals (allPairs C len x ++ rowPairs C x y)) ∧ Hid (Below w2.heap.size w2 wx)) (fun _ i _ => len - (intOf i).toNat)
        case atStart => exact ⟨0, Nat.zero_le _, rfl, HO1.out, hB.out⟩
        case round =>
          obtain ⟨y, hy, rfl, hown, hBy⟩ := hrel
          clear HO1
          by_cases hyl : y < len
          · have hH := H2.out.step hBy.out
            have c0 := hH.c0
            have c1 := hH.c1
            obtain ⟨b, off, rfl, hcc⟩ := hH.row.at hyl
            have hcy := hcc y hyl
            have hca := ((own_kept HO2.out hBy.out) x hlt).1
            have hgy := HG2.out y hyl
            have hta := trn_small g len x len (Nat.le_refl _)
            have hp := pw_le len h10
            have hlx : (x : Int) < (len : Int) := by omega
            have hly : (y : Int) < (len : Int) := by omega
            clear hcc hH
            rcases (Bool.eq_false_or_eq_true ((g y).testBit x)).symm with hb | hb
            · have HE : Hid (rowPairs C x (y + 1) = rowPairs C x y) := rowPairs_no (by rw [HCA.out, covB_no1 hb])
              clear hca hta hp
              go_wp2
              go_quiet ((go_at_call 48; exact Calls.quiet_of_same (has_asC _ _ _ _ hb (by omega) (by omega))))
              go_wp2
              go_roundw
              case rel => exact ⟨y + 1, by omega, by go_num, by rw [HE.out]; exact hown, below_drewN hBy.out _⟩
              case measure => simp [intOf]; omega
            · have HCE : Hid (C x y = (trn g len x &&& g y == 0)) := (HCA.out x y).trans (covB_eq hb)
              have hand := i64_and (trn g len x) (g y) (by omega) (by omega)
              generalize trn g len x = T at *
              generalize hAD : T &&& g y = AD at *
              clear hAD hta hp
              by_cases hz : AD = 0
              · have hzt : (((AD : Nat) : Int) == 0) = true := by simp [hz]
                have HE : Hid (rowPairs C x (y + 1) = rowPairs C x y ++ [(x, y)]) := rowPairs_yes (by rw [HCE.out]; simp [hz])
                have hlen1 := allPairs_len C len h10 x
                have hlen2 := rowPairs_len C x y
                have hlen3 : (allPairs C len x ++ rowPairs C x y).length ≤ 110 := by rw [List.length_append]; omega
                obtain ⟨L, HL⟩ : ∃ L, Hid (L = allPairs C len x ++ rowPairs C x y) := ⟨_, rfl⟩
                rw [← HL.out] at hown hlen3
                clear hz hlen1 hlen2
                go_wp2
                go_quiet ((go_at_call 48; exact Calls.quiet_of_same (has_asC _ _ _ _ hb (by omega) (by omega))))
                have hown2 : (wr.drewN nq).ownsRow w2.heap.size 42 2 u6 L.length (pairVals L) := hown
                have HB4 : Hid (Below w2.heap.size w2 (wr.drewN nq)) := below_drewN hBy.out _
                have hsz : w2.heap.size ≤ (wr.drewN nq).heap.size := HB4.out.size
                clear hown hBy c0 c1 hcy hca hand
                generalize wr.drewN nq = W3 at *
                go_wp2_with (at_builtin; refine wpList_append_own _ rfl _ _ 37 rfl w2.heap.size 42 i0 (.agg #[.int .i64 0, .int .i64 0]) 2 16 Try.underlying37 hi hz0 hz1 hz2 rfl (by decide) _ _ _ rfl (hown2.alloc _) ⟨W3.heap.size, 0, none⟩ 1 1 [.int .i64 (x : Nat), .int .i64 (y : Nat)] rfl rfl ?c1 ?c2 ?c3 ?c4 ?c5 ?_)
                case c1 =>
                  intro j u hj
                  match j, hj with
                  | 0, hj => simp at hj; subst hj; simp [Addr.add]
                  | 1, hj => simp at hj; subst hj; simp [Addr.add]
                case c2 => intro u hu; simp at hu; rcases hu with rfl | rfl <;> rfl
                case c3 => unfold maxLen; omega
                case c4 => omega
                case c5 => simp; omega
                intro v' w4 hown' hgrow _
                have HB5 : Hid (Below w2.heap.size w2 w4) := below_append2 HB4.out hown2 hgrow
                have HO5 : Hid (w4.ownsRow w2.heap.size 42 2 v' (allPairs C len x ++ rowPairs C x (y + 1)).length (pairVals (allPairs C len x ++ rowPairs C x (y + 1)))) := by
                  rw [HE.out, ← List.append_assoc, ← HL.out, pairVals_append, List.length_append]; exact hown'
                clear hown' hgrow hown2 HB4 hlen3 hsz HL
                go_wp2_with fail
                go_roundw
                case rel => exact ⟨y + 1, by omega, by go_num, HO5.out, HB5.out⟩
                case measure => simp [intOf]; omega
              · have hzt : (((AD : Nat) : Int) == 0) = false := by simp; exact hz
                have HE : Hid (rowPairs C x (y + 1) = rowPairs C x y) := rowPairs_no (by rw [HCE.out]; simpa using hz)
                clear hz
                go_wp2
                go_quiet ((go_at_call 48; exact Calls.quiet_of_same (has_asC _ _ _ _ hb (by omega) (by omega))))
                go_wp2
                go_roundw
                case rel => exact ⟨y + 1, by omega, by go_num, by rw [HE.out]; exact hown, below_drewN hBy.out _⟩
                case measure => simp [intOf]; omega
          · have hyn : y = len := by omega
            subst hyn
            go_wp2
            go_roundw
            case rel => exact ⟨x + 1, by omega, by go_num, hown, hBy⟩
            case measure => simp [intOf]; omega
      · have hxn : x = len := by omega
        subst hxn
        have HF : Hid (PSc wr u6 (covs g x)) := by rw [HCV.out]; exact owns_pairs2 hown
        clear hown c0 c1
        go_wp2
        go_ret2
        exact ⟨⟨0, _, HCH.out, rfl, .inr ⟨rfl, HEQ.out _ _ HF.out⟩⟩, Below.then HB2.out hB.out⟩
  · have hne : (c != 0) = true := by simpa using h0
    have HCH : Hid (Chk n len f c) := hc
    clear hc
    go_wp2_with fail
    go_ret2
    exact ⟨⟨c, _, HCH.out, rfl, .inl ⟨h0, rfl⟩⟩, HB1.out⟩
end Go.Proofs.Ytipgojoiakbaiaa
