/-
  What slices.Compact does to a slice of the caller's own that rises: each number once. What slices.Sorted answers of slices.Values. Conditions: at most ten numbers.
-/
import Derived.Lib.SliceRun
import Derived.Test.YtkknfnjhpamfbaaSort
namespace Go.Proofs.Ytkknfnjhpamfbaa
open Go.RowKit

/-- It rises strictly up to n. -/
def Str (h : Nat → Nat) (n : Nat) : Prop := ∀ p q, p < q → q < n → h p < h q
/-- What has been packed: of the first p + 1 numbers of h, the first k of hx. -/
structure CInv (h hx : Nat → Nat) (n p k : Nat) : Prop where
  lt : k ≤ p
  pos : 0 < k
  high : ∀ j, p ≤ j → j < n → hx j = h j
  str : Str hx k
  last : hx (k - 1) = h p
  mem : ∀ v, Mem hx k v ↔ Mem h (p + 1) v
theorem CInv.start {h : Nat → Nat} {n q : Nat} (hs : Str h (q + 1)) (he : h (q + 1) = h q) : CInv h h n (q + 1) (q + 1) := by
  refine ⟨Nat.le_refl _, by omega, fun _ _ _ => rfl, hs, he.symm, fun v => ⟨?_, ?_⟩⟩
  · rintro ⟨k, hk, rfl⟩; exact ⟨k, by omega, rfl⟩
  · rintro ⟨k, hk, rfl⟩
    by_cases e : k = q + 1
    · subst e; exact ⟨q, by omega, he.symm⟩
    · exact ⟨k, by omega, rfl⟩
theorem CInv.skip {h hx : Nat → Nat} {n p k : Nat} (c : CInv h hx n p k) (he : h (p + 1) = h p) : CInv h hx n (p + 1) k := by
  refine ⟨Nat.le_trans c.lt (Nat.le_succ _), c.pos, fun j hj hn => c.high j (by omega) hn, c.str, by rw [c.last, he], fun v => ⟨?_, ?_⟩⟩
  · intro hv
    obtain ⟨j, hj, rfl⟩ := (c.mem v).1 hv
    exact ⟨j, by omega, rfl⟩
  · rintro ⟨j, hj, rfl⟩
    by_cases e : j = p + 1
    · subst e
      exact (c.mem _).2 ⟨p, by omega, he.symm⟩
    · exact (c.mem _).2 ⟨j, by omega, rfl⟩
theorem CInv.keep {h hx : Nat → Nat} {n p k : Nat} (c : CInv h hx n p k) (hr : Ris h n) (hp : p + 1 < n) (he : h (p + 1) ≠ h p) : CInv h (upd hx k (h (p + 1))) n (p + 1) (k + 1) := by
  have hk := c.lt
  have hlt : h p < h (p + 1) := by have := hr p (p + 1) (by omega) hp; omega
  refine ⟨by omega, by omega, fun j hj hn => ?_, fun x y hxy hy => ?_, by simp [upd], fun v => ⟨?_, ?_⟩⟩
  · rw [upd_other _ _ _ _ (by omega)]; exact c.high j (by omega) hn
  · by_cases e : y = k
    · subst e
      rw [upd_same, upd_other _ _ _ _ (by omega)]
      have h1 : hx x ≤ hx (y - 1) := by
        by_cases e2 : x = y - 1
        · subst e2; exact Nat.le_refl _
        · exact Nat.le_of_lt (c.str x (y - 1) (by omega) (by omega))
      have := c.last
      omega
    · rw [upd_other _ _ _ _ e, upd_other _ _ _ _ (by omega)]
      exact c.str x y hxy (by omega)
  · rintro ⟨j, hj, rfl⟩
    by_cases e : j = k
    · subst e; rw [upd_same]; exact ⟨p + 1, by omega, rfl⟩
    · rw [upd_other _ _ _ _ e]
      obtain ⟨i, hi, hv⟩ := (c.mem _).1 ⟨j, by omega, rfl⟩
      exact ⟨i, by omega, hv⟩
  · rintro ⟨j, hj, rfl⟩
    by_cases e : j = p + 1
    · subst e; exact ⟨k, by omega, upd_same _ _ _⟩
    · obtain ⟨i, hi, hv⟩ := (c.mem (h j)).2 ⟨j, by omega, rfl⟩
      exact ⟨i, by omega, by rw [upd_other _ _ _ _ (by omega)]; exact hv⟩

theorem Own.short {w : World} {b n k : Nat} {g : Nat → Nat} (h : Own w b n g) (hk : k ≤ n) : Own w b k g := fun j hj => h j (by omega)
theorem Own.cleared {w : World} {b n k : Nat} {g : Nat → Nat} (h : Own w b n g) (hk : k ≤ n) (xs : List Value) : Own (w.setCells b k xs) b k g := fun j hj => by
  have := h j (by omega)
  constructor
  · rw [World.cell?_setCells_out b xs k w ⟨b, j, none⟩ (fun _ _ => .inl hj)]; exact this.1
  · rw [World.frozen?_setCells]; exact this.2
theorem below_cleared {B b : Nat} {a : World} (hb : B ≤ b) : ∀ (vs : List Value) (o : Nat) (w : World), Below B a w → Below B a (w.setCells b o vs)
  | [], _, _, h => h
  | v :: vs, o, _, h => below_cleared hb vs (o + 1) _ (Below.setCell (p := ⟨b, o, none⟩) h hb v)

set_option maxHeartbeats 2000000 in
theorem compact_any (a : Option Addr) (b n cap : Nat) (h : Nat → Nat) (base : Nat) (w0 w : World) (hn : n ≤ 10) (hcap : n ≤ cap) (ha : 0 < n → a = some ⟨b, 0, none⟩) (hO : Own w b n h) (hR : Ris h n) (hB : Below base w0 w) (hb : base ≤ b) :
    Calls Try.prog 30 #[.slice a n cap] w fun e w' => ∃ m hx, e = .returned (.slice a m cap) ∧ m ≤ n ∧ Own w' b m hx ∧ Str hx m ∧ (∀ v, Mem hx m v ↔ Mem h n v) ∧ Below base w0 w' := by
  by_cases h2 : n < 2
  · have h2' : (n : Int) < 2 := by omega
    have HE : Hid (∃ m hx, (Ending.returned (.slice a n cap) : Ending) = .returned (.slice a m cap) ∧ m ≤ n ∧ Own w b m hx ∧ Str hx m ∧ (∀ v, Mem hx m v ↔ Mem h n v) ∧ Below base w0 w) := ⟨n, h, rfl, Nat.le_refl _, hO, fun p q hp hq => by omega, fun _ => Iff.rfl, hB⟩
    clear hO hR hB
    go_enter Try.func30, Try.ntmps30
    go_wp2_with fail
    go_ret
    obtain ⟨m, hx, e, r⟩ := HE.out
    first
      | exact ⟨m, hx, e, r⟩
      | exact ⟨m, e, r.1, hx, r.2⟩
  · obtain rfl := ha (by omega)
    have h2' : ¬ (n : Int) < 2 := by omega
    have HR : Hid (Ris h n) := hR
    have H0 : Hid (Own w b n h ∧ Str h 1 ∧ Below base w0 w) := ⟨hO, fun p q hp hq => by omega, hB⟩
    clear hO hR hB ha
    go_enter Try.func30, Try.ntmps30
    go_wp2_with fail
    go_loopw [3] (fun i wx => ∃ q : Nat, q + 1 ≤ n ∧ i = .int .i64 ((q : Int) + 1) ∧ Hid (Own wx b n h ∧ Str h (q + 1) ∧ Below base w0 wx)) (fun i _ => n - (intOf i).toNat)
    case atStart => exact ⟨0, by omega, by go_num, H0.out⟩
    case round =>
      clear H0
      obtain ⟨q, hq, rfl, HI⟩ := hrel
      by_cases hlt : q + 1 < n
      · have hi1 : (0 : Int) ≤ (q : Int) + 1 := by omega
        have hi2 : (q : Int) + 1 < (n : Int) := by omega
        have hi3 : (q : Int) < (n : Int) := by omega
        have hq0 : q < n := by omega
        obtain ⟨X, HX⟩ : ∃ X, Hid (h (q + 1) = X) := ⟨_, rfl⟩
        obtain ⟨Y, HY⟩ : ∃ Y, Hid (h q = Y) := ⟨_, rfl⟩
        have c1 : wr.cell? ⟨b, q + 1, none⟩ = some (.int .i64 (X : Nat)) := by rw [← HX.out]; exact (HI.out.1 (q + 1) hlt).1
        have c2 : wr.cell? ⟨b, q, none⟩ = some (.int .i64 (Y : Nat)) := by rw [← HY.out]; exact (HI.out.1 q hq0).1
        have hwq : IntKind.i64.wrap (q : Int) = (q : Int) := wrap_i64_small _ (by omega) (by omega)
        by_cases hXY : X = Y
        · have hXY' : ((X : Int) == (Y : Int)) = true := by subst hXY; simp
          have HC : Hid (∃ hx, CInv h hx n (q + 1) (q + 1) ∧ Own wr.drew b n hx ∧ Below base w0 wr.drew) := ⟨h, CInv.start HI.out.2.1 (by rw [HX.out, HY.out]; exact hXY), HI.out.1, HI.out.2.2.drew⟩
          clear HI HX HY hXY
          have hs1 : (q : Int) + 1 ≤ (n : Int) := by omega
          go_wp2_with fail
          go_region
          clear c1 c2
          go_wp2_with fail
          have HT : Hid (n - (q + 1) = n - (q + 1)) := rfl
          generalize htt : n - (q + 1) = t at HT
          generalize cap - (q + 1) = C
          go_loopw [3, 5] (fun i j wx => ∃ k m : Nat, m + 1 ≤ t ∧ i = .int .i64 k ∧ j = .int .i64 ((m : Int) + 1) ∧ Hid (∃ hx, CInv h hx n (q + 1 + m) k ∧ Own wx b n hx ∧ Below base w0 wx)) (fun _ j _ => t - (intOf j).toNat)
          case atStart => exact ⟨q + 1, 0, by omega, by go_num, by go_num, HC.out⟩
          case round =>
            clear HC
            obtain ⟨k, m, hm, rfl, rfl, HI⟩ := hrel
            obtain ⟨hx, hC, hO, hB⟩ := HI.out
            clear HI
            have hk1 := hC.lt
            have hkn : k < n := by omega
            have hkn' : (k : Int) < (n : Int) := by omega
            have HCI : Hid (CInv h hx n (q + 1 + m) k) := hC
            have HB : Hid (Below base w0 wr) := hB
            have HO : Hid (Own wr b n hx) := hO
            clear hB
            by_cases hlt2 : m + 1 < t
            · obtain ⟨X2, HX⟩ : ∃ X, Hid (h (q + 1 + m + 1) = X) := ⟨_, rfl⟩
              obtain ⟨Y2, HY⟩ : ∃ Y, Hid (h (q + 1 + m) = Y) := ⟨_, rfl⟩
              obtain ⟨Z, HZ⟩ : ∃ Z, Hid (hx k = Z) := ⟨_, rfl⟩
              have c1 : wr.cell? ⟨b, q + 1 + (m + 1), none⟩ = some (.int .i64 (X2 : Nat)) := by
                rw [← HX.out, ← hC.high (q + 1 + m + 1) (by omega) (by omega)]; exact (hO (q + 1 + m + 1) (by omega)).1
              have c2 : wr.cell? ⟨b, q + 1 + m, none⟩ = some (.int .i64 (Y2 : Nat)) := by
                rw [← HY.out, ← hC.high (q + 1 + m) (by omega) (by omega)]; exact (hO (q + 1 + m) (by omega)).1
              have ck : wr.cell? ⟨b, k, none⟩ = some (.int .i64 (Z : Nat)) := by rw [← HZ.out]; exact (hO k hkn).1
              have fk := (hO k hkn).2
              have hj1 : (0 : Int) ≤ (m : Int) + 1 := by omega
              have hj2 : (m : Int) + 1 < (t : Int) := by omega
              have hj3 : (m : Int) < (t : Int) := by omega
              have hwm : IntKind.i64.wrap (m : Int) = (m : Int) := wrap_i64_small _ (by omega) (by omega)
              by_cases hXY2 : X2 = Y2
              · have hxy : ((X2 : Int) != (Y2 : Int)) = false := by subst hXY2; simp
                have HE : Hid (∃ hx, CInv h hx n (q + 1 + (m + 1)) k ∧ Own wr.drew b n hx ∧ Below base w0 wr.drew) := ⟨hx, hC.skip (by rw [HX.out, HY.out]; exact hXY2), hO, HB.out.drew⟩
                clear hC hO HCI HO HB HX HY HZ hXY2
                go_wp2_with fail
                go_region
                go_wp2_with fail
                go_roundw
                case rel => exact ⟨k, m + 1, by omega, rfl, by go_num, HE.out⟩
                case measure => simp [intOf]; omega
              · have hxy : ((X2 : Int) != (Y2 : Int)) = true := by simp; omega
                have HE : Hid (∃ hx, CInv h hx n (q + 1 + (m + 1)) (k + 1) ∧ Own (wr.drew.setCell ⟨b, k, none⟩ (.int .i64 (X2 : Nat))) b n hx ∧ Below base w0 (wr.drew.setCell ⟨b, k, none⟩ (.int .i64 (X2 : Nat)))) :=
                  ⟨_, hC.keep HR.out (by omega) (by rw [HX.out, HY.out]; exact hXY2), by rw [HX.out]; exact Own.set (w := wr.drew) hO k X2 hkn, Below.setCell (p := ⟨b, k, none⟩) HB.out.drew hb _⟩
                clear hC hO HCI HO HB HX HY HZ hXY2
                go_wp2_with fail
                go_region
                go_wp2_with fail
                go_roundw
                case rel => exact ⟨k + 1, m + 1, by omega, by go_num, by go_num, HE.out⟩
                case measure => simp [intOf]; omega
            · have hend : m + 1 = t := by omega
              have hge : ¬ (m : Int) + 1 < (t : Int) := by omega
              have hcl : ∀ ty, (Builtin.clear_ #[23] ty #[.slice (some ⟨b, k, none⟩) (n - k) (cap - k)]).run Try.prog wr = .ok (.tuple #[]) (wr.setCells b k (List.replicate (n - k) (.int .i64 0))) :=
                fun ty => Lib.run_clear_slice wr _ _ ty _ Try.underlying23 Try.zeroValue3 rfl rfl b k _ _ (by omega) (fun j hj => by rw [(hO (k + j) (by omega)).1]; rfl) (fun j hj => (hO (k + j) (by omega)).2)
              have hkc : (k : Int) ≤ (cap : Int) := by omega
              have hkl : (k : Int) ≤ (n : Int) := by omega
              have HE : Hid (k ≤ n ∧ Own (wr.setCells b k (List.replicate (n - k) (.int .i64 0))) b k hx ∧ Str hx k ∧ (∀ v, Mem hx k v ↔ Mem h n v) ∧ Below base w0 (wr.setCells b k (List.replicate (n - k) (.int .i64 0)))) :=
                ⟨by omega, hO.cleared (by omega) _, hC.str, fun v => by have := hC.mem v; rwa [show q + 1 + m + 1 = n by omega] at this, below_cleared hb _ _ _ HB.out⟩
              clear hC hO HCI HO HB
              go_wp2_with fail
              go_ret
              first
                | exact ⟨k, hx, rfl, HE.out⟩
                | exact ⟨k, rfl, HE.out.1, hx, HE.out.2⟩
        · have hXY' : ((X : Int) == (Y : Int)) = false := by simp; omega
          have HE : Hid (Own wr.drew b n h ∧ Str h (q + 1 + 1) ∧ Below base w0 wr.drew) := by
            refine ⟨HI.out.1, fun x y hxy hy => ?_, HI.out.2.2.drew⟩
            by_cases e : y = q + 1
            · subst e
              have h1 : h x ≤ h q := by
                by_cases e2 : x = q
                · subst e2; exact Nat.le_refl _
                · exact HR.out x q (by omega) (by omega)
              have h2 := HR.out q (q + 1) (by omega) hlt
              have h3 : h (q + 1) ≠ h q := by rw [HX.out, HY.out]; exact hXY
              omega
            · exact HI.out.2.1 x y hxy (by omega)
          clear HI HX HY hXY
          go_wp2_with fail
          go_region
          go_wp2_with fail
          go_roundw
          case rel => exact ⟨q + 1, by omega, by go_num, HE.out⟩
          case measure => simp [intOf]; omega
      · have hqn : q + 1 = n := by omega
        have hge : ¬ (q : Int) + 1 < (n : Int) := by omega
        have HE : Hid (∃ m hx, (Ending.returned (.slice (some ⟨b, 0, none⟩) n cap) : Ending) = .returned (.slice (some ⟨b, 0, none⟩) m cap) ∧ m ≤ n ∧ Own wr b m hx ∧ Str hx m ∧ (∀ v, Mem hx m v ↔ Mem h n v) ∧ Below base w0 wr) := ⟨n, h, rfl, Nat.le_refl _, HI.out.1, by rw [← hqn]; exact HI.out.2.1, fun _ => Iff.rfl, HI.out.2.2⟩
        clear HI
        go_wp2_with fail
        go_ret
        obtain ⟨m, hx, e, r⟩ := HE.out
        first
          | exact ⟨m, hx, e, r⟩
          | exact ⟨m, e, r.1, hx, r.2⟩

set_option maxHeartbeats 1000000 in
theorem sorted_any (Bs n₀ : Nat) (a : Option Addr) (len cap : Nat) (g : Nat → Nat) (h10 : len ≤ 10) (w : World) (hBs : Bs < w.heap.size) (hn₀ : n₀ ≤ w.heap.size)
    (hc0 : w.cell? ⟨Bs, 0, none⟩ = some (.slice a len cap)) (hR : Row w a len (fun k => (g k : Nat))) (hb : ∀ b off, 0 < len → a = some ⟨b, off, none⟩ → b < n₀) :
    Calls Try.prog 31 #[.func (.func 55) #[] #[.pointer (some ⟨Bs, 0, none⟩)]] w fun e W' => ∃ a' b cap' h, e = .returned (.slice a' len cap') ∧ len ≤ cap' ∧ (0 < len → a' = some ⟨b, 0, none⟩) ∧ w.heap.size ≤ b ∧ Own W' b len h ∧ Ris h len ∧ (∀ v, Mem h len v ↔ Mem g len v) ∧ Below w.heap.size w W' := by
  have HC := collect_any Bs n₀ a len cap g h10 w hBs hn₀ hc0 hR hb
  clear hBs hn₀ hc0 hR hb
  go_enter Try.func31, Try.ntmps31
  go_wp2_with fail
  refine HC.mono ?_
  rintro e w1 ⟨v, rfl, hr, hB⟩
  clear HC
  obtain ⟨a', b, cap', rfl, hcap, ha, hbb, hO⟩ : ∃ a' b cap', v = .slice a' len cap' ∧ len ≤ cap' ∧ (0 < len → a' = some ⟨b, 0, none⟩) ∧ w.heap.size ≤ b ∧ Own w1 b len g := by
    rcases hr.2 with ⟨h1, h2⟩ | ⟨b, cap', cur, h1, h2, h3, h4, h5, h6, h7⟩
    · subst h2
      exact ⟨none, w.heap.size, 0, h1, Nat.le_refl _, fun h => absurd h (Nat.lt_irrefl _), Nat.le_refl _, fun k hk => absurd hk (Nat.not_lt_zero _)⟩
    · refine ⟨_, b, cap', h1, h4, fun _ => rfl, h2, fun k hk => ?_⟩
      rw [h1] at hr
      exact ⟨(hr.cellAt k (by omega)).trans (rowVals_at g len k hk), hr.frozenAt k⟩
  have HS := sort_any a' b len cap' g w.heap.size w w1 h10 ha hO hB hbb
  have HK : Hid (len ≤ cap' ∧ (0 < len → a' = some ⟨b, 0, none⟩) ∧ w.heap.size ≤ b) := ⟨hcap, ha, hbb⟩
  clear hr hB hcap ha hbb hO
  go_wp2_with (go_at_call 54; refine HS.mono ?_; rintro e w2 ⟨⟨v, rfl⟩, h, HE⟩)
  go_ret
  obtain ⟨k1, k2, k3⟩ := HK.out
  exact ⟨a', b, cap', h, rfl, k1, k2, k3, HE⟩
end Go.Proofs.Ytkknfnjhpamfbaa
