/-
  What canon.check answers of one order, and canon.Form. Conditions: a slice reads as a slice of numbers; the library's table.
  What order.Ideals and the reference's Inside, Ideal and Ideals answer. No condition but that a slice reads as a slice of numbers.
  A slice of the call's own that may be written. No condition.
  What order.Ideals and the reference's Ideals answer; hasselaw.OrderIdeals returns true for every order. No condition but that a slice reads as a slice of numbers.
  growOne's code, part by part. No condition.
  A goroutine's view: a lone world in which it reckons, and how what it holds in company goes with it. Condition: Zs.
-/
import Derived.Test.YtfbdgdphpdhcpaaDoorCaF
import Derived.Test.YtfbdgdphpdhcpaaDoorCaR
import Derived.Test.YtfbdgdphpdhcpaaDoorCaM
import Derived.Deep.LoopGhost
import Derived.WalkMore
import Derived.Test.YtfbdgdphpdhcpaaDoorBits
import Derived.KernelRfl
namespace Go.Proofs.YtfbdgdphpdhcpaaDoor
open Go.RowKit
set_option maxRecDepth 100000

/-- What check must answer. -/
def FCk (n : Int) (len : Nat) (f : Nat → Int) (c : Int) : Prop := ∃ c0, Chk n len f c0 ∧ c = if c0 = 0 then (if 6 < n then 2 else 0) else c0
theorem FCk.one {n : Int} {len : Nat} {f : Nat → Int} {c c' : Int} (h : FCk n len f c) (h' : FCk n len f c') : c = c' := by
  obtain ⟨d, h1, rfl⟩ := h
  obtain ⟨d', h2, rfl⟩ := h'
  rw [Chk.unique h1 h2]
theorem FCk.good {n : Int} {len : Nat} {f : Nat → Int} (h : FCk n len f 0) : n = (len : Nat) ∧ len ≤ 6 ∧ Chk (len : Nat) len f 0 := by
  obtain ⟨d, h1, h2⟩ := h
  by_cases e : d = 0
  · subst e
    rw [if_pos rfl] at h2
    have hn := h1.good.1
    by_cases e2 : 6 < n
    · rw [if_pos e2] at h2; cases h2
    · subst hn
      exact ⟨rfl, by omega, h1⟩
  · rw [if_neg e] at h2; exact absurd h2.symm e
set_option maxHeartbeats 2000000 in
theorem check1_any (n : Int) (a : Option Addr) (len cap : Nat) (f : Nat → Int) (b : Nat) (w : World) (hl : len ≤ maxLen) (hr : Row w a len f) (h0 : w.cell? ⟨b, 0, none⟩ = some (.int .i64 n)) (h1 : w.cell? ⟨b, 1, none⟩ = some (.slice a len cap)) :
    Calls Tryd.prog 29 #[.slice (some ⟨b, 0, none⟩) 1 1] w fun e w' => (∃ c : Int, e = .returned (.int .i64 c) ∧ FCk n len f c) ∧ Below w.heap.size w w' := by
  have HR : Hid (Row w a len f) := hr
  have HC0 : Hid (∀ w', Below w.heap.size w w' → w'.cell? ⟨b, 0, none⟩ = some (.int .i64 n) ∧ w'.cell? ⟨b, 1, none⟩ = some (.slice a len cap)) := fun w' hb => ⟨cellS hb h0, cellS hb h1⟩
  clear hr h0 h1
  go_enter Tryd.func29, Tryd.ntmps29
  go_wp2_with fail
  go_loopw [10] (fun t wx => ∃ k : Nat, k ≤ 1 ∧ t = .int .i64 k ∧ Hid (k = 1 → Chk n len f 0) ∧ Hid (Below w.heap.size w wx)) (fun t _ => 1 - (intOf t).toNat)
  case atStart => exact ⟨0, by omega, rfl, fun h => by omega, Below.refl _ _⟩
  case round =>
    obtain ⟨k, hk, rfl, HK, HB⟩ := hrel
    obtain ⟨c0, c1⟩ := HC0.out _ HB.out
    by_cases hk0 : k = 0
    · subst hk0
      obtain ⟨w1, HW1⟩ : ∃ w1, Hid (w1 = wr.alloc (.cells #[.int .i64 n, .slice a len cap] 24)) := ⟨_, rfl⟩
      have hb1 : Below wr.heap.size wr w1 := by rw [HW1.out]; exact (Below.refl _ _).alloc (Nat.le_refl _) _
      have d0 : w1.cell? ⟨wr.heap.size, 0, none⟩ = some (.int .i64 n) := by rw [HW1.out]; simp
      have d1 : w1.cell? ⟨wr.heap.size, 1, none⟩ = some (.slice a len cap) := by rw [HW1.out]; simp
      have HB1 : Hid (Below w.heap.size w w1) := Below.then HB.out hb1
      rw [HW1.out] at d0 d1
      clear hb1
      go_wp2_with fail
      rw [← HW1.out]
      refine (check_any n a len cap f _ hl (HR.out.below HB1.out)).mono ?_
      rintro e w2 ⟨⟨c, rfl, hc⟩, hb2⟩
      have HB2 : Hid (Below w.heap.size w w2) := Below.then HB1.out hb2
      have HC : Hid (Chk n len f c) := hc
      clear hb2 hc d0 d1 c0 c1 HW1
      by_cases e0 : c = 0
      · subst e0
        go_wp2_with fail
        go_roundw
        case rel => exact ⟨1, by omega, by go_num, fun _ => HC.out, HB2.out⟩
        case measure => simp [intOf]
      · have hne : (c != 0) = true := by simpa using e0
        have HF : Hid (FCk n len f c) := ⟨c, HC.out, by rw [if_neg e0]⟩
        go_wp2_with fail
        go_ret
        exact ⟨⟨c, rfl, HF.out⟩, HB2.out⟩
    · obtain rfl : k = 1 := by omega
      have HCK : Hid (Chk n len f 0) := HK.out rfl
      clear c0 c1 HK hk hk0
      go_wp2_with fail
      go_loopw [22] (fun t wx => ∃ k : Nat, k ≤ 1 ∧ t = .int .i64 k ∧ Hid (k = 1 → ¬ 6 < n) ∧ Hid (Below w.heap.size w wx)) (fun t _ => 1 - (intOf t).toNat)
      case atStart => exact ⟨0, by omega, rfl, fun h => by omega, HB.out⟩
      case round =>
        obtain ⟨k, hk, rfl, HK, HBx⟩ := hrel
        obtain ⟨c0, c1⟩ := HC0.out _ HBx.out
        by_cases hk0 : k = 0
        · subst hk0
          have HB1 : Hid (∀ o, Below w.heap.size w (wr.alloc o)) := fun o => HBx.out.alloc HBx.out.size _
          by_cases h6 : 6 < n
          · have HF : Hid (FCk n len f 2) := ⟨0, HCK.out, by rw [if_pos rfl, if_pos h6]⟩
            go_wp2_with fail
            go_ret
            exact ⟨⟨2, rfl, HF.out⟩, HB1.out _⟩
          · go_wp2_with fail
            go_roundw
            case rel => exact ⟨1, by omega, by go_num, fun _ => h6, HB1.out _⟩
            case measure => simp [intOf]
        · obtain rfl : k = 1 := by omega
          have HF : Hid (FCk n len f 0) := ⟨0, HCK.out, by rw [if_pos rfl, if_neg (HK.out rfl)]⟩
          clear c0 c1
          go_wp2_with fail
          go_ret
          exact ⟨⟨0, rfl, HF.out⟩, HBx.out⟩
/-- What Form answers; the order's row is new and may be written. -/
def FormPost (K : Nat) (n : Int) (len : Nat) (f : Nat → Int) (e : Ending) (w' : World) : Prop :=
  ∃ c, FCk n len f c ∧ ((c ≠ 0 ∧ e = .returned (.tuple #[noOrder, .slice none 0 0, .int .i64 c])) ∨
    (c = 0 ∧ ∃ x bl bv, bst (nat f) len (per len [] (pw len - 1)) = some x ∧ e = .returned (.tuple #[.agg #[.int .i64 (len : Nat), .slice (some ⟨bl, 0, none⟩) len len], bv, .int .i64 0]) ∧ Own w' bl len (prt (nat f) x) ∧ K ≤ bl ∧ bl < w'.heap.size))
end Go.Proofs.YtfbdgdphpdhcpaaDoor
namespace Go.Proofs.YtfbdgdphpdhcpaaDoor
set_option maxRecDepth 100000
open Go.RowKit

def fil (I : Nat → Bool) : Nat → List Nat
  | 0 => []
  | k + 1 => if I k = true then fil I k ++ [k] else fil I k
theorem fil_yes {I : Nat → Bool} {k : Nat} (h : I k = true) : fil I (k + 1) = fil I k ++ [k] := by simp [fil, h]
theorem fil_no {I : Nat → Bool} {k : Nat} (h : I k = false) : fil I (k + 1) = fil I k := by simp [fil, h]
theorem fil_len (I : Nat → Bool) : ∀ k, (fil I k).length ≤ k
  | 0 => by simp [fil]
  | k + 1 => by
    have ih := fil_len I k
    cases h : I k
    · rw [fil_no h]; omega
    · rw [fil_yes h, List.length_append]; simp; exact ih
def idlTo (g : Nat → Nat) (s : Nat) : Nat → Bool
  | 0 => true
  | k + 1 => idlTo g s k && !(s.testBit k && lack (g k) s != 0)
theorem idlTo_iff (g : Nat → Nat) (s : Nat) : ∀ n, idlTo g s n = true ↔ ∀ p, p < n → s.testBit p = true → lack (g p) s = 0
  | 0 => by simp [idlTo]
  | n + 1 => by
    simp only [idlTo, Bool.and_eq_true, idlTo_iff g s n]
    constructor
    · rintro ⟨h1, h2⟩
      refine upto_succ h1 fun hb => ?_
      simpa [hb] using h2
    · intro h
      refine ⟨fun p hp => h p (by omega), ?_⟩
      cases hb : s.testBit n
      · simp
      · simp [h n (by omega) hb]
theorem idlTo_false {g : Nat → Nat} {s n k : Nat} (hk : k < n) (hb : s.testBit k = true) (hl : lack (g k) s ≠ 0) : idlTo g s n = false := by
  cases e : idlTo g s n
  · rfl
  · exact absurd ((idlTo_iff g s n).1 e k hk hb) hl
def idls (g : Nat → Nat) (n : Nat) : List Nat := fil (fun s => idlTo g s n) (pw n)

end Go.Proofs.YtfbdgdphpdhcpaaDoor
namespace Go.Proofs.YtfbdgdphpdhcpaaDoor
open Go.RowKit

def NewV (K : Nat) (v : Value) : Prop := ∀ k, v.ownBlock = some k → K ≤ k
/-- A row whose block lies from K on and below K', and which may be written. -/
def FRow (w : World) (K K' : Nat) (a : Option Addr) (n : Nat) (f : Nat → Int) : Prop :=
  ∀ k, k < n → ∃ b, a = some ⟨b, 0, none⟩ ∧ (K ≤ b ∧ b < K') ∧ w.cell? ⟨b, k, none⟩ = some (.int .i64 (f k)) ∧ w.frozen? ⟨b, k, none⟩ = false
/-- A slice of the call's own that may be written. -/
def Wrt (K : Nat) (w : World) (v : Value) : Prop := ∃ (a : Option Addr) (n cap : Nat) (f : Nat → Int), v = .slice a n cap ∧ FRow w K w.heap.size a n f
theorem FRow.wide {w : World} {K K' L L' : Nat} {a : Option Addr} {n : Nat} {f : Nat → Int} (h : FRow w K K' a n f) (hl : L ≤ K) (hu : K' ≤ L') : FRow w L L' a n f := fun k hk => by
  obtain ⟨b, e, ⟨h1, h2⟩, r⟩ := h k hk
  exact ⟨b, e, ⟨by omega, by omega⟩, r⟩
theorem frow_owns {w : World} {K n : Nat} {v : Value} {xs : List Value} {f : Nat → Int} (h : w.ownsRow K 3 1 v n xs) (hx : ∀ k, k < n → xs[k]? = some (.int .i64 (f k))) : ∃ a cap, v = .slice a n cap ∧ FRow w K w.heap.size a n f := by
  have h' := h
  rcases h.2 with ⟨rfl, rfl⟩ | ⟨g, cap, cur, rfl, hb, _⟩
  · exact ⟨none, 0, rfl, fun k hk => absurd hk (Nat.not_lt_zero _)⟩
  · refine ⟨_, cap, rfl, fun k hk => ⟨g, rfl, ?_, ?_, h'.frozenAt k⟩⟩
    · have hc := h'.cellAt k (by omega)
      rw [hx k hk] at hc
      exact ⟨hb, World.block_lt_of_cell? _ _ hc⟩
    · rw [h'.cellAt k (by omega)]; exact hx k hk
theorem wrt_nats {w : World} {K L : Nat} {v : Value} {l : List Nat} (hL : L ≤ K) (h : w.ownsRow K 3 1 v l.length (natVals l)) : Wrt L w v := by
  obtain ⟨a, cap, e, hf⟩ := frow_owns h (f := fun k => (nth l k : Nat)) (fun k hk => natVals_at l k hk)
  exact ⟨a, _, cap, _, e, hf.wide hL (Nat.le_refl _)⟩
theorem sub_le {a b : Nat} (h : Sub a b) : a ≤ b := by
  have e : a &&& b = a := by
    apply Nat.eq_of_testBit_eq
    intro i
    rw [Nat.testBit_and]
    cases hi : a.testBit i
    · rfl
    · rw [h i hi]; rfl
  rw [← e]; exact Nat.and_le_right
end Go.Proofs.YtfbdgdphpdhcpaaDoor
namespace Go.Proofs.YtfbdgdphpdhcpaaDoor
set_option maxRecDepth 100000
open Go.RowKit

/-- A slice that lies in a block from K on, if anywhere. -/
def IdealsPost (K : Nat) (n : Int) (len : Nat) (f : Nat → Int) (e : Ending) (w' : World) : Prop :=
  ∃ (c : Int) (v : Value), Chk n len f c ∧ e = .returned (.tuple #[v, .int .i64 c]) ∧ ((c ≠ 0 ∧ v = .slice none 0 0) ∨ (c = 0 ∧ NSl w' v (idls (nat f) len) ∧ NewV K v ∧ Wrt K w' v))

set_option maxHeartbeats 2000000 in
theorem ideals_any (n : Int) (a : Option Addr) (len cap : Nat) (f : Nat → Int) (w : World) (hl : len ≤ maxLen) (hr : Row w a len f) :
    Calls Tryd.prog 61 #[.agg #[.int .i64 n, .slice a len cap]] w fun e w' => IdealsPost w.heap.size n len f e w' ∧ Below w.heap.size w w' := by
  have K0 : Held (w.alloc (.cells #[.int .i64 n, .slice a len cap] 24)) w.heap.size n a len cap f := Held.box hr
  have HB0 : Hid (Below w.heap.size w (w.alloc (.cells #[.int .i64 n, .slice a len cap] 24))) := (Below.refl _ _).alloc (Nat.le_refl _) _
  clear hr
  go_enter Tryd.func61, Tryd.ntmps61
  go_wp2
  go_step3
  go_wp2_with fail
  refine (check_any n a len cap f _ hl K0.row).mono ?_
  rintro e w1 ⟨⟨c, rfl, hc⟩, hb⟩
  have K1 := K0.step hb
  have HB1 : Hid (Below w.heap.size w w1) := Below.then HB0.out hb
  clear hb K0 HB0
  by_cases h0 : c = 0
  · subst h0
    obtain ⟨rfl, h10, hrng, _⟩ := hc.good
    have HCH : Hid (Chk (len : Int) len f 0) := hc
    have HG2 : Hid (∀ k, k < len → nat f k < 1024) := hrng.small2 h10
    have H1 : Hid (Held w1 w.heap.size len a len cap (fun k => (nat f k : Nat))) := ⟨K1.c0, K1.c1, hrng.row K1.row⟩
    have k0 := K1.c0
    have k1 := K1.c1
    clear hc hrng K1
    obtain ⟨g, HGF⟩ : ∃ g, Hid (g = nat f) := ⟨_, rfl⟩
    rw [← HGF.out] at HG2 H1
    obtain ⟨I, HI⟩ : ∃ I, Hid (I = fun s => idlTo g s len) := ⟨_, rfl⟩
    have HIA : Hid (∀ s, I s = idlTo g s len) := fun s => by rw [HI.out]
    have HEQ : Hid (∀ (wx : World) (v : Value), NSl wx v (fil I (pw len)) → NSl wx v (idls (nat f) len)) := fun wx v h => by
      have e1 : idls (nat f) len = fil I (pw len) := by rw [← HGF.out, HI.out]; rfl
      rw [e1]; exact h
    have hsh := wrap_pow len (by omega)
    have hpw := pw_le len h10
    obtain ⟨i0, hi, hz0, hz1, hz2⟩ := info_parts Tryd.info3
    go_wp2_with fail
    go_step3
    go_wp2_with fail
    rw [hsh]
    clear k0 k1 hsh
    generalize pw len = P at *
    go_loopw [5, 17] (fun v i wx => ∃ s : Nat, s ≤ P ∧ i = .int .i64 s ∧ wx.ownsRow w1.heap.size 3 1 v (fil I s).length (natVals (fil I s)) ∧ Hid (Below w1.heap.size w1 wx)) (fun _ i _ => P - (intOf i).toNat)
    case atStart => exact ⟨0, Nat.zero_le _, rfl, World.ownsRow_nil _ _ _ _, Below.refl _ _⟩
    case round =>
      obtain ⟨s, hs, rfl, hown, hB⟩ := hrel
      have hH := H1.out.step hB.out
      have c0 := hH.c0
      have c1 := hH.c1
      by_cases hlt : s < P
      · go_wp2
        go_loopg [23] len (fun m t wy => ∃ p : Nat, p ≤ len ∧ t = .int .i64 p ∧ len - p ≤ m ∧ Hid (∀ q, q < p → s.testBit q = true → lack (g q) s = 0) ∧ Hid (Below w1.heap.size w1 wy) ∧ wy.ownsRow w1.heap.size 3 1 u5 (fil I s).length (natVals (fil I s))) 
        case atStart => exact ⟨0, Nat.zero_le _, rfl, Nat.sub_le _ _, upto_zero, hB.out, hown⟩
        case round =>
          clear hB hown hH c0 c1
          obtain ⟨p, hp, rfl, hmp, hok, hB, hown⟩ := hrel
          have hH := H1.out.step hB.out
          have c0 := hH.c0
          have c1 := hH.c1
          by_cases hpl : p < len
          · obtain ⟨b, off, rfl, hcc⟩ := hH.row.at hpl
            have hcp := hcc p hpl
            clear hcc
            have hgp := HG2.out p hpl
            have hand := i64_andNot (g p) s (by omega) (by omega)
            cases hb : s.testBit p
            · go_wp2_with (go_at_call 48; refine (has_any _ _ _ (by omega) (by omega)).mono ?_; rintro e w' ⟨rfl, rfl⟩)
              go_roundg (gk - 1)
              case rel => exact ⟨p + 1, by omega, by go_num, by omega, upto_succ hok.out (fun h => by rw [hb] at h; cases h), hB.out, hown⟩
              case measure => omega
            · by_cases hz : lack (g p) s = 0
              · have hz' : (((lack (g p) s : Nat) : Int) != 0) = false := by simp [hz]
                have HZ : Hid (lack (g p) s = 0) := hz
                clear hz
                go_wp2_with (go_at_call 48; refine (has_any _ _ _ (by omega) (by omega)).mono ?_; rintro e w' ⟨rfl, rfl⟩)
                go_roundg (gk - 1)
                case rel => exact ⟨p + 1, by omega, by go_num, by omega, upto_succ hok.out (fun _ => HZ.out), hB.out, hown⟩
                case measure => omega
              · have hz' : (((lack (g p) s : Nat) : Int) != 0) = true := by simp; exact hz
                have HE : Hid (fil I (s + 1) = fil I s) := fil_no ((HIA.out s).trans (idlTo_false hpl hb hz))
                clear hz
                go_wp2_with (go_at_call 48; refine (has_any _ _ _ (by omega) (by omega)).mono ?_; rintro e w' ⟨rfl, rfl⟩)
                go_roundw
                case rel => exact ⟨s + 1, by omega, by go_num, by rw [HE.out]; exact hown, hB⟩
                case measure => simp [intOf]; omega
          · have hpn : p = len := by omega
            have HE : Hid (fil I (s + 1) = fil I s ++ [s]) := fil_yes ((HIA.out s).trans ((idlTo_iff g s len).2 (by rw [← hpn]; exact hok.out)))
            have hlen := fil_len I s
            have hsz := hB.out.size
            obtain ⟨L, HL⟩ : ∃ L, Hid (L = fil I s) := ⟨_, rfl⟩
            rw [← HL.out] at hown hlen
            subst hpn
            clear hH c0 c1
            go_wp2_with (at_builtin; refine wpList_append_own _ rfl _ _ 22 rfl w1.heap.size 3 i0 (.int .i64 0) 1 8 Tryd.underlying22 hi hz0 hz1 hz2 rfl (by decide) _ _ _ rfl (hown.alloc _) ⟨wr.heap.size, 0, none⟩ 1 1 [.int .i64 (s : Nat)] rfl rfl ?c1 ?c2 ?c3 ?c4 ?c5 ?_)
            case c1 =>
              intro j u hj
              match j, hj with
              | 0, hj => simp at hj; subst hj; simp [Addr.add]
            case c2 => intro u hu; simp at hu; subst hu; rfl
            case c3 => unfold maxLen; omega
            case c4 => omega
            case c5 => simp; omega
            intro v' w2 hown' hgrow _
            have HB5 : Hid (Below w1.heap.size w1 w2) := below_append3 hB.out hown hgrow
            have HO5 : Hid (w2.ownsRow w1.heap.size 3 1 v' (fil I (s + 1)).length (natVals (fil I (s + 1)))) := by
              rw [HE.out, ← HL.out, natVals_append, List.length_append]; exact hown'
            clear hown' hgrow hown hB hlen hsz HL
            go_wp2_with fail
            go_roundw
            case rel => exact ⟨s + 1, by omega, by go_num, HO5.out, HB5.out⟩
            case measure => simp [intOf]; omega
      · have hsn : s = P := by omega
        subst hsn
        have HF : Hid (NSl wr u5 (idls (nat f) len) ∧ NewV w.heap.size u5 ∧ Wrt w.heap.size wr u5) := ⟨HEQ.out _ _ (owns_nats hown), fun k hk => Nat.le_trans HB1.out.size (owns_block hown k hk), wrt_nats HB1.out.size hown⟩
        clear hown hH c0 c1
        go_wp2
        rw [Exit.noGoto_ret]
        go_ret2
        exact ⟨⟨0, _, HCH.out, rfl, .inr ⟨rfl, HF.out⟩⟩, Below.then HB1.out hB.out⟩
  · have hne : (c != 0) = true := by simpa using h0
    have HCH : Hid (Chk n len f c) := hc
    clear hc
    go_wp2_with fail
    rw [Exit.noGoto_ret]
    go_ret2
    exact ⟨⟨c, _, HCH.out, rfl, .inl ⟨h0, rfl⟩⟩, HB1.out⟩
end Go.Proofs.YtfbdgdphpdhcpaaDoor
namespace Go.Proofs.YtfbdgdphpdhcpaaDoor
open Go Go.Conc Go.RowKit Sm
set_option maxRecDepth 100000

/-- The part of a code at a place: 0 the first of two, 1 the second, 2 what lies within. -/
def atc : List Nat → Code → Code
  | [], c => c
  | 0 :: l, .seq a _ => atc l a
  | 1 :: l, .seq _ b => atc l b
  | 2 :: l, .block _ c => atc l c
  | 2 :: l, .loop c => atc l c
  | _, c => c
theorem tryd_zs : Zs Tryd.prog := info_zero _ (by kernel_rfl)
/-- The functions that canon's lone calls may enter. -/
abbrev cfs : List Nat := [30, 33, 34, 35, 42, 43, 44, 45, 46, 47, 48, 55, 56, 57, 58, 59, 60, 61, 64, 65, 66, 77, 78, 79, 80]
abbrev cgs : List Nat := [0, 1]
theorem cfs_ok : cfs.all (funcB Tryd.prog cfs cgs) = true := by kernel_rfl
theorem grow_shape : (Tryd.f49.body.getD .skip) = .seq (atc [0] (Tryd.f49.body.getD .skip)) (.seq (atc [1, 0] (Tryd.f49.body.getD .skip)) (.seq (atc [1, 1, 0] (Tryd.f49.body.getD .skip)) (.seq (atc [1, 1, 1, 0] (Tryd.f49.body.getD .skip)) (.block 0 (.loop (.seq (atc [1, 1, 1, 1, 2, 2, 0] (Tryd.f49.body.getD .skip)) (.seq (.cond (.tmp 20) .skip (.exit 0)) (.seq (.block 1 (atc [1, 1, 1, 1, 2, 2, 1, 1, 0, 2] (Tryd.f49.body.getD .skip))) (atc [1, 1, 1, 1, 2, 2, 1, 1, 1] (Tryd.f49.body.getD .skip)))))))))) := by kernel_rfl
theorem grow_inner : atc [1, 1, 1, 1, 2, 2, 1, 1, 0, 2] (Tryd.f49.body.getD .skip) = .seq (atc [1, 1, 1, 1, 2, 2, 1, 1, 0, 2, 0] (Tryd.f49.body.getD .skip)) (.seq (atc [1, 1, 1, 1, 2, 2, 1, 1, 0, 2, 1, 0] (Tryd.f49.body.getD .skip)) (.seq (atc [1, 1, 1, 1, 2, 2, 1, 1, 0, 2, 1, 1, 0] (Tryd.f49.body.getD .skip)) (atc [1, 1, 1, 1, 2, 2, 1, 1, 0, 2, 1, 1, 1] (Tryd.f49.body.getD .skip)))) := by kernel_rfl
end Go.Proofs.YtfbdgdphpdhcpaaDoor
namespace Go.Proofs.YtfbdgdphpdhcpaaDoor.Sm
open Go Go.Conc

section
variable {P : Program} {R R' : Ren}
/-- What R names, by its own name. -/
def idn (R : Ren) : Ren := ⟨fun b c => c = b ∧ ∃ b', R.rel b b', R.fns, R.low, R.ok, R.kn, R.lo⟩
theorem OkX.imp {x : Operand} (hf : ∀ f, R.fns f → R'.fns f) (hg : ∀ g, R.rel g g ∧ R.lo g = 0 → R'.rel g g ∧ R'.lo g = 0) (h : OkX R x) : OkX R' x := by
  cases x with
  | tmp t => trivial
  | const v => exact h
  | global g => exact hg g h
  | func f => exact hf f h
theorem OkO.imp {x : Option Operand} (hf : ∀ f, R.fns f → R'.fns f) (hg : ∀ g, R.rel g g ∧ R.lo g = 0 → R'.rel g g ∧ R'.lo g = 0) (h : OkO R x) : OkO R' x := by
  cases x with
  | none => trivial
  | some x => exact OkX.imp hf hg h
theorem OkOp.imp {o : Op} (hf : ∀ f, R.fns f → R'.fns f) (hg : ∀ g, R.rel g g ∧ R.lo g = 0 → R'.rel g g ∧ R'.lo g = 0) (h : OkOp P R o) : OkOp P R' o := by
  have hx : ∀ {x : Operand}, OkX R x → OkX R' x := fun q => OkX.imp hf hg q
  have hO : ∀ {x : Option Operand}, OkO R x → OkO R' x := fun q => OkO.imp hf hg q
  have hxs : ∀ {xs : Array Operand}, OkXs R xs → OkXs R' xs := fun q x m => hx (q x m)
  cases o with
  | move x => exact hx h
  | assign x => exact hx h
  | nilCheck x => exact hx h
  | pick a b c => exact ⟨hx h.1, hx h.2.1, hx h.2.2⟩
  | alloc t => trivial
  | box t x => exact hx h
  | build t ps => exact fun p hp => hx (h p hp)
  | buildSlice t n ps => exact fun p hp => hx (h p hp)
  | load t a => exact hx h
  | store t a x => exact ⟨hx h.1, hx h.2⟩
  | binOp op t x y yt => exact ⟨hx h.1, hx h.2.1, h.2.2⟩
  | unOp op t x => exact hx h
  | convert s d x => exact ⟨hx h.1, h.2⟩
  | makeFunc fn a b =>
    cases fn with
    | func f => exact ⟨hf _ h.1, hxs h.2.1, hxs h.2.2⟩
    | _ => exact h.elim
  | makeSlice t l c => exact ⟨hx h.1, hx h.2⟩
  | slice t x lo hi mx => exact ⟨hx h.1, hO h.2.1, hO h.2.2.1, hO h.2.2.2⟩
  | fieldAddr s x f => exact ⟨hx h.1, h.2⟩
  | field t x f => exact hx h
  | indexAddr t x i => exact ⟨hx h.1, hx h.2⟩
  | index t x i => exact ⟨hx h.1, hx h.2⟩
  | extract x i => exact hx h
  | call c =>
    refine ⟨hxs h.1, ?_⟩
    have h2 := h.2
    revert h2
    cases c.callee with
    | value f => exact fun h2 => hx h2
    | builtin b => exact fun h2 => h2
    | invoke r n => exact fun h2 => h2.elim
  | _ => exact h.elim
theorem OkCode.imp {c : Code} (hf : ∀ f, R.fns f → R'.fns f) (hg : ∀ g, R.rel g g ∧ R.lo g = 0 → R'.rel g g ∧ R'.lo g = 0) (ho : ∀ c, R.ok c → R'.ok c) (h : OkCode P R c) : OkCode P R' c := by
  cases c with
  | seq a b => exact ⟨ho _ h.1, ho _ h.2⟩
  | cond x a b => exact ⟨OkX.imp hf hg h.1, ho _ h.2.1, ho _ h.2.2⟩
  | block i c => exact ho _ h
  | loop c => exact ho _ h
  | scope c => exact ho _ h
  | region i ops d => exact fun o hm => OkOp.imp hf hg (h o hm)
  | rangeFunc f ps a b => exact ⟨OkX.imp hf hg h.1, ho _ h.2.1, ho _ h.2.2⟩
  | _ => first | trivial | exact h.elim
theorem Good.imp (h : Good P R) (hg : ∀ g, R.rel g g ∧ R.lo g = 0 → R'.rel g g ∧ R'.lo g = 0) (e1 : R'.fns = R.fns) (e2 : R'.low = R.low) (e3 : R'.ok = R.ok) (e4 : R'.kn = R.kn) : Good P R' :=
  ⟨by rw [e2]; exact h.low, fun f hf => by
    rw [e1] at hf
    obtain ⟨fn, body, h1, h2, h3, h4⟩ := h.fns f hf
    exact ⟨fn, body, h1, h2, by rw [e3]; exact h3, h4⟩, fun f hf => by rw [e4]; rw [e1] at hf; exact h.known f hf, fun f hf => by rw [e4] at hf; exact h.kn f hf,
    fun c hc => (h.code c (by rw [e3] at hc; exact hc)).imp (fun f hf => by rw [e1]; exact hf) hg (fun c hc => by rw [e3]; exact hc), by rw [e3]; exact h.ret, fun id => by rw [e3]; exact h.exits id⟩
theorem Good.idn (h : Good P R) : Good P (idn R) := h.imp (fun g hg => ⟨⟨rfl, g, hg.1⟩, hg.2⟩) rfl rfl rfl rfl
theorem ar_idn {a a' : Addr} (h : AR R a a') : AR (idn R) a a := ⟨⟨rfl, _, h.1⟩, rfl, rfl, h.2.2.2⟩
theorem oar_idn : ∀ {a a' : Option Addr}, OAR R a a' → OAR (idn R) a a
  | none, none, _ => trivial
  | some _, some _, h => ar_idn h
  | none, some _, h => h.elim
  | some _, none, h => h.elim
theorem onr_idn : ∀ {a a' : Option Nat}, ONR R a a' → ONR (idn R) a a
  | none, none, _ => trivial
  | some _, some _, h => ⟨rfl, _, h⟩
  | none, some _, h => h.elim
  | some _, none, h => h.elim
theorem fnr_idn {f f' : Fn} (h : FnR R f f') : FnR (idn R) f f := by
  cases f <;> cases f' <;> first | exact h.elim | exact ⟨rfl, _, h⟩ | exact ⟨rfl, h.2⟩
theorem vr_idn {v v' : Value} (h : VR R v v') : VR (idn R) v v := by
  refine ⟨fun a b => b = a ∧ ∃ a', VR R a a', ⟨rfl, v', h⟩, fun a b q => ?_⟩
  obtain ⟨rfl, a', q⟩ := q
  have o := q.out
  have xp : ∀ {x x' : Array Value}, XP (VR R) x x' → XP (fun a b => b = a ∧ ∃ a', VR R a a') x x := fun {x x'} hx => ⟨rfl, fun i u u' h1 h2 => by
    rw [h1] at h2; cases h2
    obtain ⟨w, _, hw⟩ := XR.at (show XR R x x' from hx) h1
    exact ⟨rfl, w, hw⟩⟩
  cases b with
  | pointer a =>
    rcases a with _ | a
    · exact .inl rfl
    obtain ⟨_, _, z⟩ := o; exact ⟨_, rfl, ar_idn z⟩
  | slice a l c => obtain ⟨_, _, z⟩ := o; exact ⟨_, rfl, oar_idn z⟩
  | map a => obtain ⟨_, _, z⟩ := o; exact ⟨_, rfl, onr_idn z⟩
  | chan a => exact ⟨_, rfl, rfl⟩
  | func f x y => obtain ⟨_, _, _, _, z, hx, hy⟩ := o; exact ⟨_, _, _, rfl, fnr_idn z, xp hx, xp hy⟩
  | iface t v => obtain ⟨u, _, z⟩ := o; exact ⟨_, rfl, rfl, u, z⟩
  | agg x => obtain ⟨_, _, hx⟩ := o; exact ⟨_, rfl, xp hx⟩
  | tuple x => obtain ⟨_, _, hx⟩ := o; exact ⟨_, rfl, xp hx⟩
  | _ => rfl
theorem xr_idn {x x' : Array Value} (h : XR R x x') : XR (idn R) x x := ⟨rfl, fun i u u' h1 h2 => by
  rw [h1] at h2; cases h2
  obtain ⟨w, _, hw⟩ := h.at h1
  exact vr_idn hw⟩
theorem xl_idn {l : Nat} {x x' : Array Value} (h : XL l (VR R) x x') : XL l (VR (idn R)) x x := ⟨Nat.le_refl _, fun i u u' hl h1 h2 => by
  rw [h1] at h2; cases h2
  obtain ⟨w, _, hw⟩ := h.at hl h1
  exact vr_idn hw⟩
theorem or_idn {l : Nat} {o o' : Obj} (h : OR R l o o') : OR (idn R) l o o := by
  cases o <;> cases o' <;> first
    | exact h.elim
    | exact ⟨⟨rfl, rfl, rfl, h.1.2.2.2⟩, xr_idn h.2.1, rfl, rfl, rfl, ⟨rfl, _, h.2.2.2.2.2.1⟩, h.2.2.2.2.2.2⟩
    | exact ⟨rfl, xl_idn h.2.1, fun _ a b => ⟨a, b⟩⟩
    | exact ⟨ar_idn h.1, rfl⟩
    | exact ⟨rfl, h.2⟩
theorem WR0.idn {v w : World} (h : WR0 R v w) : WR (idn R) v v :=
  ⟨fun b c b' q1 q2 => q1.1.symm.trans q2.1, fun b b' c' q1 q2 => q1.1.trans q2.1.symm, fun b b' q => by
    obtain ⟨rfl, x, hx⟩ := q
    exact ⟨(h.dom _ _ hx).1, (h.dom _ _ hx).1⟩, fun b b' o q ho => by
    obtain ⟨rfl, x, hx⟩ := q
    obtain ⟨o', _, h2⟩ := h.obj _ _ o hx ho
    exact ⟨o, ho, or_idn h2⟩, ⟨h.low.1, h.low.1.1⟩, fun b b' q _ => q.1, fun _ => rfl⟩
end
section
variable (P : Program) (fs gs : List Nat)
/-- A renaming over the functions fs and the globals gs. -/
def Rg (r : Nat → Nat → Prop) : Ren := ⟨r, fun f => f ∈ fs, P.globals.size, fun c => codeB P fs gs c = true, fun f => ∃ fn, P.funcs[f]? = some fn, fun _ => 0⟩
end
section
variable {P : Program} {fs gs : List Nat} {r r' : Nat → Nat → Prop}
theorem rg_good (hf : fs.all (funcB P fs gs) = true) (hg : ∀ g ∈ gs, r g g) : Good P (Rg P fs gs r) :=
  (good_of (S := fun b => r b b) hf hg).imp (fun _ q => ⟨q.1.2, rfl⟩) rfl rfl rfl rfl
theorem rg_le (h : ∀ a b, r a b → r' a b) : Le (Rg P fs gs r) (Rg P fs gs r') := ⟨h, fun _ => ⟨Iff.rfl, Iff.rfl⟩, rfl, fun _ => Iff.rfl, rfl⟩
theorem rg_of {R' : Ren} (h : Le (Rg P fs gs r) R') : R' = Rg P fs gs R'.rel := by
  obtain ⟨h1, h2, h3, h4, h5⟩ := h
  obtain ⟨rel, fns, low, ok, kn, lo⟩ := R'
  simp only at h1 h2 h3 h4 h5
  have e1 : fns = fun f => f ∈ fs := by funext f; exact propext (h2 f).1.symm
  have e2 : kn = fun f => ∃ fn, P.funcs[f]? = some fn := by funext f; exact propext (h2 f).2.symm
  have e3 : ok = fun c => codeB P fs gs c = true := by funext c; exact propext (h4 c).symm
  subst e1 e2 e3
  have h3' : low = P.globals.size := h3
  subst h3'
  have h5' : lo = fun _ => 0 := h5
  subst h5'
  rfl
theorem rg_item (hg : ∀ g ∈ gs, r g g) {x : Item} (h : itemB P fs gs x = true) : IR P (Rg P fs gs r) x x := by
  have h1 := item_of (S := fun b => r b b) hg h
  cases x with
  | code c => exact h1
  | inRegion ops l => exact ⟨h1.1, fun i hi o ho => OkOp.imp (R := R0 P fs gs (fun b => r b b)) (R' := Rg P fs gs r) (fun _ q => q) (fun g q => ⟨q.1.2, rfl⟩) (h1.2 i hi o ho)⟩
  | _ => cases h
/-- The piece has come to its end. -/
def DoneV (P : Program) (fs gs : List Nat) (r : Nat → Nat → Prop) (v w : World) (Q : Act → World → Prop) (fn : FuncId) (k : List Item) (D : List Deferred) (kd : CallKind) (rc : List Frame) (s : St) : Prop :=
  ∃ (r' : Nat → Nat → Prop) (v1 : World) (a : Act) (x' : Array Value), s.g = G (Sm.fF fn x' k D kd) rc ∧ Q a v1 ∧ XR (Rg P fs gs r') a.tmps x' ∧ WR0 (Rg P fs gs r') v1 s.w ∧ (∀ b b', r b b' → r' b b') ∧
    (∀ b b', r' b b' → r b b' ∨ (v.heap.size ≤ b ∧ w.heap.size ≤ b')) ∧ w.heap.size ≤ s.w.heap.size ∧ s.O = Seen (Rg P fs gs r') ∧ s.W = Open (Rg P fs gs r') v1
theorem Co.size {m : Bool} {Stop : St → Prop} {s : St} (h : Co P m Stop s) : Co P m (fun s' => Stop s' ∧ s.w.heap.size ≤ s'.w.heap.size) s := by
  have key : ∀ n, n ≤ s.w.heap.size → Co P m (fun s' => Stop s' ∧ n ≤ s'.w.heap.size) s := by
    refine Lfp.ind CoF.mono (C := fun s => ∀ n, n ≤ s.w.heap.size → Co P m (fun s' => Stop s' ∧ n ≤ s'.w.heap.size) s) (fun s q n hn => ?_) h
    refine Lfp.in CoF.mono ?_
    rcases q with q | ⟨q0, q⟩
    · exact .inl fun w1 hr => ⟨q w1 hr, Nat.le_trans hn hr.1⟩
    · refine .inr ⟨q0, fun w1 hr => ?_⟩
      obtain ⟨g2, w2, es, O2, W2, h1, h2, h3, _, h5⟩ := q w1 hr
      exact ⟨g2, w2, es, O2, W2, h1, h2, h3, h5 n (Nat.le_trans hn (Nat.le_trans hr.1 h2.size))⟩
  exact key _ (Nat.le_refl _)
theorem Co.imp {m : Bool} {Stop Stop' : St → Prop} (hi : ∀ s, Stop s → Stop' s) {s : St} (h : Co P m Stop s) : Co P m Stop' s := by
  refine Lfp.ind CoF.mono (C := fun s => Co P m Stop' s) (fun s q => Lfp.in CoF.mono ?_) h
  rcases q with q | ⟨q0, q⟩
  · exact .inl fun w1 hr => hi _ (q w1 hr)
  · refine .inr ⟨q0, fun w1 hr => ?_⟩
    obtain ⟨g2, w2, es, O2, W2, h1, h2, h3, _, h5⟩ := q w1 hr
    exact ⟨g2, w2, es, O2, W2, h1, h2, h3, h5⟩
theorem WR0.tap {R : Ren} {v w : World} (h : WR0 R v w) (τ : Nat → Question → Nat) : WR0 R (Sm.tap τ v) w := h.heap (v' := Sm.tap τ v) rfl
/-- A PIECE, FROM A VIEW. -/
theorem co_view (hz : Zs P) (hf : fs.all (funcB P fs gs) = true) (hg : ∀ g ∈ gs, r g g) {m : Bool} {fn : FuncId} (hin : ∃ f, P.funcs[fn]? = some f) {x : Item} (hx : itemB P fs gs x = true) {tm tm' : Array Value} {v w : World} (hw : WR0 (Rg P fs gs r) v w) (ht : XR (Rg P fs gs r) tm tm')
    {Q : Act → World → Prop} (H : ∀ τ, ∃ a' v', a'.defers = [] ∧ Q a' v' ∧ Steps P (lone (pf fn ⟨tm, []⟩ [x, mkI]) [dum] (tap τ v)) (lone (pf fn a' [mkI]) [dum] v')) (k : List Item) (D : List Deferred) (kd : CallKind) (hkd : kd ≠ .early) (rc : List Frame) :
    Co P m (DoneV P fs gs r v w Q fn k D kd rc) ⟨G (fF fn tm' (x :: k) D kd) rc, w, Seen (Rg P fs gs r), Open (Rg P fs gs r) v⟩ := by
  have hgd : Good P (Rg P fs gs r) := rg_good hf hg
  have hix : IR P (Rg P fs gs r) x x := rg_item hg hx
  have hix' : IR P (idn (Rg P fs gs r)) x x := rg_item (r := (idn (Rg P fs gs r)).rel) (fun g q => ⟨rfl, g, hg g q⟩) hx
  have h0 : Slf P (G (pf fn ⟨tm, []⟩ [x, mkI]) [dum]) v := ⟨idn (Rg P fs gs r), some ([mkI], [], .normal), hgd.idn, ⟨_, [], _, [], rfl, rfl, ⟨⟨rfl, hin⟩, xr_idn ht, isR_mk hix' _ _, rfl, ⟨rfl, .inl rfl⟩, ⟨⟨rfl, fun q => by cases q⟩, rfl⟩, trivial⟩, trivial, rfl⟩, hw.idn⟩
  have hlg := lg_of_piece hz (Q := fun _ => Q) h0 H
  have hco := co_of_mk hz (m := m) (R0 := Rg P fs gs r) (n0 := v.heap.size) (m0 := w.heap.size) (k := k) (D := D) (kd := kd) (rc := rc) hlg hgd (g' := G (fF fn tm' (x :: k) D kd) rc) (w := w)
    ⟨_, [], _, [], rfl, rfl, ⟨⟨rfl, hin⟩, ht, isR_mk hix _ _, rfl, ⟨rfl, .inl rfl⟩, ⟨⟨rfl, hkd⟩, rfl⟩, trivial⟩, trivial, rfl⟩ hw (Le.refl _) (fun _ _ q => .inl q) (Nat.le_refl _) (Nat.le_refl _)
  refine hco.size.imp fun s q => ?_
  obtain ⟨⟨R', v1, τ, τ0, a, x', e1, hq, hxr, hwr, hle, hnew, hO, hW⟩, hsz⟩ := q
  have e := rg_of hle
  refine ⟨R'.rel, tap τ v1, a, x', e1, hq, by rw [← e]; exact hxr, by rw [← e]; exact hwr.tap τ, hle.1, hnew, hsz, by rw [← e]; exact hO, ?_⟩
  rw [← e, hW]
  funext b
  rfl
end
section
variable {μ : Type} {P : Program} {Msg : World → (Nat → Prop) → Value → μ → Prop} {Fin : Value → World → Prop}
/-- Who may do less does well enough. -/
theorem MS.weaken {s : MP μ} (h : MS P Msg Fin (fun _ => False) s) {O W : Nat → Prop} (hO : ∀ b, s.O b → O b) (hW : ∀ b, s.W b → W b) (hs : ∀ b, W b → O b) : MS P Msg Fin (fun _ => False) { s with O := O, W := W } := by
  have key : ∀ O W : Nat → Prop, (∀ b, s.O b → O b) → (∀ b, s.W b → W b) → (∀ b, W b → O b) → MS P Msg Fin (fun _ => False) { s with O := O, W := W } := by
    refine Lfp.ind MSF.mono (C := fun s => ∀ O W : Nat → Prop, (∀ b, s.O b → O b) → (∀ b, s.W b → W b) → (∀ b, W b → O b) → MS P Msg Fin (fun _ => False) { s with O := O, W := W }) (fun s q O W hO hW hs => ?_) h
    have hl : ∀ {w1 : World}, Ry O s.w w1 → Ry s.O s.w w1 := fun q => ⟨q.1, fun b hb => q.2.1 b (hO b hb), q.2.2⟩
    rcases q with q | ⟨q0, q⟩
    · exact (q s.w (Ry.refl _ _)).elim
    · refine Lfp.in MSF.mono (.inr ⟨q0, ?_⟩)
      rcases q with q | q | ⟨c, out, z, q1, q2, q3, q4⟩ | ⟨q1, q⟩
      · refine .inl fun w1 hr => ?_
        obtain ⟨g2, w2, es, O2, W2, h1, h2, _, h3⟩ := q w1 (hl hr)
        refine ⟨g2, w2, es, fun b => O2 b ∨ O b, fun b => W2 b ∨ W b, h1, ⟨h2.size, fun b hb hw => h2.kept b hb fun z => hw (hW b z), h2.os, fun b hb => ?_, fun b hb => ?_, fun b hb => hb.imp (h2.sub b) (hs b), fun e he => (h2.evs e he).mono (fun _ => .inl) (fun _ => .inl)⟩, h3 _ _ (fun _ => .inl) (fun _ => .inl) fun b hb => hb.imp (h2.sub b) (hs b)⟩
        · rcases hb with hb | hb
          · exact (h2.newO b hb).imp (hO b) id
          · exact .inl hb
        · rcases hb with hb | hb
          · exact (h2.newW b hb).imp (hW b) id
          · exact .inl hb
      · refine .inr (.inl fun w1 hr => ?_)
        obtain ⟨g2, child, c, out, Oc, Wc, a1, a2, a3, a4, a5, a6, a7, a8, _, a9⟩ := q w1 (hl hr)
        exact ⟨g2, child, c, out, Oc, Wc, a1, hW _ a2, a3, a4, fun b hb => hO b (a5 b hb), fun b hb => ⟨hW b (a6 b hb).1, (a6 b hb).2⟩, a7, a8, a9 _ _ (fun b hb => ⟨hO b hb.1, hb.2⟩) (fun b hb => ⟨hW b hb.1, hb.2⟩) fun b hb => ⟨hs b hb.1, hb.2.1, fun z => hb.2.2 (a6 b z).2⟩⟩
      · refine .inr (.inr (.inl ⟨c, out, z, q1, fun w1 hr => q2 w1 (hl hr), fun o rest e w2 x Tr a b d => ?_, fun e w2 a => (q4 e w2 (hl a)).2 _ _ hO hW hs⟩))
        exact (q3 o rest e w2 x Tr (hl a) b fun b hb => ⟨fun z => (d b hb).1 (hO b z), (d b hb).2⟩).2 _ _ (fun b hb => hb.imp (hO b) id) hW fun b hb => .inl (hs b hb)
      · refine .inr (.inr (.inr ⟨q1, fun w1 hr => ?_⟩))
        obtain ⟨v, es, h1, h2, h3⟩ := q w1 (hl hr)
        exact ⟨v, es, h1, fun e he => (h2 e he).mono hO hW, h3⟩
  exact key O W hO hW hs
theorem WS.weaken {p : WP μ} (h : WS P Msg p) {O W : Nat → Prop} (hO : ∀ b, p.O b → O b) (hW : ∀ b, p.W b → W b) (hs : ∀ b, W b → O b) : WS P Msg { p with O := O, W := W } := by
  have key : ∀ O W : Nat → Prop, (∀ b, p.O b → O b) → (∀ b, p.W b → W b) → (∀ b, W b → O b) → WS P Msg { p with O := O, W := W } := by
    refine Lfp.ind WSF.mono (C := fun p => ∀ O W : Nat → Prop, (∀ b, p.O b → O b) → (∀ b, p.W b → W b) → (∀ b, W b → O b) → WS P Msg { p with O := O, W := W }) (fun p q O W hO hW hs => ?_) h
    have hl : ∀ {w1 : World}, Ry O p.w w1 → Ry p.O p.w w1 := fun q => ⟨q.1, fun b hb => q.2.1 b (hO b hb), q.2.2⟩
    refine Lfp.in WSF.mono ?_
    rcases q with ⟨q0, q1, q2, q⟩ | ⟨q0, o, rest, Tr, q1, q2, q⟩ | ⟨q0, q1, q⟩
    · refine .inl ⟨q0, q1, q2, ?_⟩
      rcases q with q | q | ⟨q3, q4, q⟩
      · refine .inl fun w1 hr => ?_
        obtain ⟨g2, w2, es, O2, W2, h1, h2, e1, e2, _, h3⟩ := q w1 (hl hr)
        refine ⟨g2, w2, es, fun b => O2 b ∨ O b, fun b => W2 b ∨ W b, h1, ⟨h2.size, fun b hb hw => h2.kept b hb fun z => hw (hW b z), h2.os, fun b hb => ?_, fun b hb => ?_, fun b hb => hb.imp (h2.sub b) (hs b), fun e he => (h2.evs e he).mono (fun _ => .inl) (fun _ => .inl)⟩, e1, e2, h3 _ _ (fun _ => .inl) (fun _ => .inl) fun b hb => hb.imp (h2.sub b) (hs b)⟩
        · rcases hb with hb | hb
          · exact (h2.newO b hb).imp (hO b) id
          · exact .inl hb
        · rcases hb with hb | hb
          · exact (h2.newW b hb).imp (hW b) id
          · exact .inl hb
      · refine .inr (.inl fun w1 hr => ?_)
        obtain ⟨g2, x, z, h1, _, h2⟩ := q w1 (hl hr)
        exact ⟨g2, x, z, h1, h2 O W hO hW hs⟩
      · refine .inr (.inr ⟨q3, q4, fun w1 s hr hc => ?_⟩)
        obtain ⟨g2, h1, h2, h3, h4, _⟩ := q w1 s (hl hr) hc
        exact ⟨g2, h1, h2, h3, h4⟩
    · refine .inr (.inl ⟨q0, o, rest, Tr, q1, fun b hb => hW b (q2 b hb), fun w1 hr => ?_⟩)
      obtain ⟨h1, _, h2⟩ := q w1 (hl hr)
      exact ⟨h1, h2 _ _ hO (fun b hb => ⟨hW b hb.1, hb.2⟩) fun b hb => hs b hb.1⟩
    · refine .inr (.inr ⟨q0, q1, ?_⟩)
      rcases q with q | ⟨q2, g2, q3, q4, _, q5⟩
      · exact .inl q
      · exact .inr ⟨q2, g2, q3, q4, q5 O W hO hW hs⟩
  exact key O W hO hW hs
end
end Go.Proofs.YtfbdgdphpdhcpaaDoor.Sm
