/-
  What order.Ideals and the reference's Inside, Ideal and Ideals answer. No condition but that a slice reads as a slice of numbers.
  What order.Ideals and the reference's Ideals answer; hasselaw.OrderIdeals returns true for every order. No condition but that a slice reads as a slice of numbers.
-/
import Derived.Test.YtglkjeidkjkdaaaDoorNats
import Derived.Test.YtglkjeidkjkdaaaDoorPieP
import Derived.Test.YtglkjeidkjkdaaaDoorSpoM
import Derived.WalkMore
import Derived.Deep.LoopGhost
namespace Go.Proofs.YtglkjeidkjkdaaaDoor
set_option maxRecDepth 100000
open Go.RowKit

def fil (I : Nat → Bool) : Nat → List Nat
  | 0 => []
  | k + 1 => if I k = true then fil I k ++ [k] else fil I k
theorem fil_yes {I : Nat → Bool} {k : Nat} (h : I k = true) : fil I (k + 1) = fil I k ++ [k] := by simp [fil, h]
theorem fil_no {I : Nat → Bool} {k : Nat} (h : I k = false) : fil I (k + 1) = fil I k := by simp [fil, h]
theorem fil_len (I : Nat → Bool) : ∀ k, (fil I k).length ≤ k
  | 0 => by simp [fil]
  | k + 1 => by
    have ih := fil_len I k
    cases h : I k
    · rw [fil_no h]; omega
    · rw [fil_yes h, List.length_append]; simp; exact ih
def idlTo (g : Nat → Nat) (s : Nat) : Nat → Bool
  | 0 => true
  | k + 1 => idlTo g s k && !(s.testBit k && lack (g k) s != 0)
theorem idlTo_iff (g : Nat → Nat) (s : Nat) : ∀ n, idlTo g s n = true ↔ ∀ p, p < n → s.testBit p = true → lack (g p) s = 0
  | 0 => by simp [idlTo]
  | n + 1 => by
    simp only [idlTo, Bool.and_eq_true, idlTo_iff g s n]
    constructor
    · rintro ⟨h1, h2⟩
      refine upto_succ h1 fun hb => ?_
      simpa [hb] using h2
    · intro h
      refine ⟨fun p hp => h p (by omega), ?_⟩
      cases hb : s.testBit n
      · simp
      · simp [h n (by omega) hb]
theorem idlTo_false {g : Nat → Nat} {s n k : Nat} (hk : k < n) (hb : s.testBit k = true) (hl : lack (g k) s ≠ 0) : idlTo g s n = false := by
  cases e : idlTo g s n
  · rfl
  · exact absurd ((idlTo_iff g s n).1 e k hk hb) hl
def idls (g : Nat → Nat) (n : Nat) : List Nat := fil (fun s => idlTo g s n) (pw n)

theorem hv_bits {a k : Nat} (h : hv a k = 0) (i : Nat) (hi : k ≤ i) : a.testBit i = false := by
  have h2 : hv a i = 0 := by
    obtain ⟨d, rfl⟩ : ∃ d, i = k + d := ⟨i - k, by omega⟩
    unfold hv at h ⊢
    rw [Nat.pow_add, ← Nat.div_div_eq_div_mul, h, Nat.zero_div]
  rw [hv_bit, h2]; rfl

end Go.Proofs.YtglkjeidkjkdaaaDoor
namespace Go.Proofs.YtglkjeidkjkdaaaDoor
set_option maxRecDepth 100000
open Go.RowKit

/-- A slice that lies in a block from K on, if anywhere. -/
def IdealsPost (K : Nat) (n : Int) (len : Nat) (f : Nat → Int) (e : Ending) (w' : World) : Prop :=
  ∃ (c : Int) (v : Value), Chk n len f c ∧ e = .returned (.tuple #[v, .int .i64 c]) ∧ ((c ≠ 0 ∧ v = .slice none 0 0) ∨ (c = 0 ∧ NSl w' v (idls (nat f) len) ∧ NewV K v ∧ Wrt K w' v))

set_option maxHeartbeats 2000000 in
theorem ideals_any (n : Int) (a : Option Addr) (len cap : Nat) (f : Nat → Int) (w : World) (hl : len ≤ maxLen) (hr : Row w a len f) :
    Calls Tryd.prog 11 #[.agg #[.int .i64 n, .slice a len cap]] w fun e w' => IdealsPost w.heap.size n len f e w' ∧ Below w.heap.size w w' := by
  have K0 : Held (w.alloc (.cells #[.int .i64 n, .slice a len cap] 24)) w.heap.size n a len cap f := Held.box hr
  have HB0 : Hid (Below w.heap.size w (w.alloc (.cells #[.int .i64 n, .slice a len cap] 24))) := (Below.refl _ _).alloc (Nat.le_refl _) _
  clear hr
  go_enter Tryd.func11, Tryd.ntmps11
  go_wp2
  go_step3
  go_wp2_with fail
  refine (check_any n a len cap f _ hl K0.row).mono ?_
  rintro e w1 ⟨⟨c, rfl, hc⟩, hb⟩
  have K1 := K0.step hb
  have HB1 : Hid (Below w.heap.size w w1) := Below.then HB0.out hb
  clear hb K0 HB0
  by_cases h0 : c = 0
  · subst h0
    obtain ⟨rfl, h10, hrng, _⟩ := hc.good
    have HCH : Hid (Chk (len : Int) len f 0) := hc
    have HG2 : Hid (∀ k, k < len → nat f k < 1024) := hrng.small2 h10
    have H1 : Hid (Held w1 w.heap.size len a len cap (fun k => (nat f k : Nat))) := ⟨K1.c0, K1.c1, hrng.row K1.row⟩
    have k0 := K1.c0
    have k1 := K1.c1
    clear hc hrng K1
    obtain ⟨g, HGF⟩ : ∃ g, Hid (g = nat f) := ⟨_, rfl⟩
    rw [← HGF.out] at HG2 H1
    obtain ⟨I, HI⟩ : ∃ I, Hid (I = fun s => idlTo g s len) := ⟨_, rfl⟩
    have HIA : Hid (∀ s, I s = idlTo g s len) := fun s => by rw [HI.out]
    have HEQ : Hid (∀ (wx : World) (v : Value), NSl wx v (fil I (pw len)) → NSl wx v (idls (nat f) len)) := fun wx v h => by
      have e1 : idls (nat f) len = fil I (pw len) := by rw [← HGF.out, HI.out]; rfl
      rw [e1]; exact h
    have hsh := wrap_pow len (by omega)
    have hpw := pw_le len h10
    obtain ⟨i0, hi, hz0, hz1, hz2⟩ := info_parts Tryd.info3
    go_wp2_with fail
    go_step3
    go_wp2_with fail
    rw [hsh]
    clear k0 k1 hsh
    generalize pw len = P at *
    go_loopw [5, 17] (fun v i wx => ∃ s : Nat, s ≤ P ∧ i = .int .i64 s ∧ wx.ownsRow w1.heap.size 3 1 v (fil I s).length (natVals (fil I s)) ∧ Hid (Below w1.heap.size w1 wx)) (fun _ i _ => P - (intOf i).toNat)
    case atStart => exact ⟨0, Nat.zero_le _, rfl, World.ownsRow_nil _ _ _ _, Below.refl _ _⟩
    case round =>
      obtain ⟨s, hs, rfl, hown, hB⟩ := hrel
      have hH := H1.out.step hB.out
      have c0 := hH.c0
      have c1 := hH.c1
      by_cases hlt : s < P
      · go_wp2
        go_loopg [23] len (fun m t wy => ∃ p : Nat, p ≤ len ∧ t = .int .i64 p ∧ len - p ≤ m ∧ Hid (∀ q, q < p → s.testBit q = true → lack (g q) s = 0) ∧ Hid (Below w1.heap.size w1 wy) ∧ wy.ownsRow w1.heap.size 3 1 u5 (fil I s).length (natVals (fil I s))) 
        case atStart => exact ⟨0, Nat.zero_le _, rfl, Nat.sub_le _ _, upto_zero, hB.out, hown⟩
        case round =>
          clear hB hown hH c0 c1
          obtain ⟨p, hp, rfl, hmp, hok, hB, hown⟩ := hrel
          have hH := H1.out.step hB.out
          have c0 := hH.c0
          have c1 := hH.c1
          by_cases hpl : p < len
          · obtain ⟨b, off, rfl, hcc⟩ := hH.row.at hpl
            have hcp := hcc p hpl
            clear hcc
            have hgp := HG2.out p hpl
            have hand := i64_andNot (g p) s (by omega) (by omega)
            cases hb : s.testBit p
            · go_wp2_with (go_at_call 31; refine (has_any _ _ _ (by omega) (by omega)).mono ?_; rintro e w' ⟨rfl, rfl⟩)
              go_roundg (gk - 1)
              case rel => exact ⟨p + 1, by omega, by go_num, by omega, upto_succ hok.out (fun h => by rw [hb] at h; cases h), hB.out, hown⟩
              case measure => omega
            · by_cases hz : lack (g p) s = 0
              · have hz' : (((lack (g p) s : Nat) : Int) != 0) = false := by simp [hz]
                have HZ : Hid (lack (g p) s = 0) := hz
                clear hz
                go_wp2_with (go_at_call 31; refine (has_any _ _ _ (by omega) (by omega)).mono ?_; rintro e w' ⟨rfl, rfl⟩)
                go_roundg (gk - 1)
                case rel => exact ⟨p + 1, by omega, by go_num, by omega, upto_succ hok.out (fun _ => HZ.out), hB.out, hown⟩
                case measure => omega
              · have hz' : (((lack (g p) s : Nat) : Int) != 0) = true := by simp; exact hz
                have HE : Hid (fil I (s + 1) = fil I s) := fil_no ((HIA.out s).trans (idlTo_false hpl hb hz))
                clear hz
                go_wp2_with (go_at_call 31; refine (has_any _ _ _ (by omega) (by omega)).mono ?_; rintro e w' ⟨rfl, rfl⟩)
                go_roundw
                case rel => exact ⟨s + 1, by omega, by go_num, by rw [HE.out]; exact hown, hB⟩
                case measure => simp [intOf]; omega
          · have hpn : p = len := by omega
            have HE : Hid (fil I (s + 1) = fil I s ++ [s]) := fil_yes ((HIA.out s).trans ((idlTo_iff g s len).2 (by rw [← hpn]; exact hok.out)))
            have hlen := fil_len I s
            have hsz := hB.out.size
            obtain ⟨L, HL⟩ : ∃ L, Hid (L = fil I s) := ⟨_, rfl⟩
            rw [← HL.out] at hown hlen
            subst hpn
            clear hH c0 c1
            go_wp2_with (at_builtin; refine wpList_append_own _ rfl _ _ 22 rfl w1.heap.size 3 i0 (.int .i64 0) 1 8 Tryd.underlying22 hi hz0 hz1 hz2 rfl (by decide) _ _ _ rfl (hown.alloc _) ⟨wr.heap.size, 0, none⟩ 1 1 [.int .i64 (s : Nat)] rfl rfl ?c1 ?c2 ?c3 ?c4 ?c5 ?_)
            case c1 =>
              intro j u hj
              match j, hj with
              | 0, hj => simp at hj; subst hj; simp [Addr.add]
            case c2 => intro u hu; simp at hu; subst hu; rfl
            case c3 => unfold maxLen; omega
            case c4 => omega
            case c5 => simp; omega
            intro v' w2 hown' hgrow _
            have HB5 : Hid (Below w1.heap.size w1 w2) := below_append3 hB.out hown hgrow
            have HO5 : Hid (w2.ownsRow w1.heap.size 3 1 v' (fil I (s + 1)).length (natVals (fil I (s + 1)))) := by
              rw [HE.out, ← HL.out, natVals_append, List.length_append]; exact hown'
            clear hown' hgrow hown hB hlen hsz HL
            go_wp2_with fail
            go_roundw
            case rel => exact ⟨s + 1, by omega, by go_num, HO5.out, HB5.out⟩
            case measure => simp [intOf]; omega
      · have hsn : s = P := by omega
        subst hsn
        have HF : Hid (NSl wr u5 (idls (nat f) len) ∧ NewV w.heap.size u5 ∧ Wrt w.heap.size wr u5) := ⟨HEQ.out _ _ (owns_nats hown), fun k hk => Nat.le_trans HB1.out.size (owns_block hown k hk), wrt_nats HB1.out.size hown⟩
        clear hown hH c0 c1
        go_wp2
        rw [Exit.noGoto_ret]
        go_ret2
        exact ⟨⟨0, _, HCH.out, rfl, .inr ⟨rfl, HF.out⟩⟩, Below.then HB1.out hB.out⟩
  · have hne : (c != 0) = true := by simpa using h0
    have HCH : Hid (Chk n len f c) := hc
    clear hc
    go_wp2_with fail
    rw [Exit.noGoto_ret]
    go_ret2
    exact ⟨⟨c, _, HCH.out, rfl, .inl ⟨h0, rfl⟩⟩, HB1.out⟩
end Go.Proofs.YtglkjeidkjkdaaaDoor
