/-
  What order.join answers of two orders that were looked at. Conditions: as the theorem says.
-/
import Derived.Test.YtbcikonkokahlaaJoin
namespace Go.Proofs.Ytbcikonkokahlaa
open Go.RowKit

theorem add_or {x u n : Nat} (h : u < pw n) : x * pw n ||| u = x * pw n + u := by
  have e := Nat.two_pow_add_eq_or_of_lt (show u < 2 ^ n from h) x
  show x * 2 ^ n ||| u = x * 2 ^ n + u
  rw [Nat.mul_comm x, ← e]
theorem shl_small {x n m : Nat} (hx : x < pw m) (hn : n ≤ 10) (hm : m ≤ 10) : x * pw n < 2000000 := by
  have h1 := pw_le n hn
  have h2 := pw_le m hm
  have h3 : x * pw n ≤ 1024 * 1024 := Nat.mul_le_mul (by omega) h1
  omega
theorem wrap_shl {x n m : Nat} (hx : x < pw m) (hn : n ≤ 10) (hm : m ≤ 10) : wrap64 ((x : Int) * 2 ^ n) = ((x * pw n : Nat) : Int) := by
  have := shl_small hx hn hm
  rw [show ((x : Int) * 2 ^ n) = ((x * pw n : Nat) : Int) by simp [pw]]
  generalize x * pw n = y at *
  exact IntWalk.wrap64_in _ ⟨by omega, by omega⟩
theorem or_join {x u n m : Nat} (hx : x < pw m) (hn : n ≤ 10) (hm : m ≤ 10) (hu : u < pw n) : bits .or .i64 ((x * pw n : Nat) : Int) (u : Int) = ((x * pw n + u : Nat) : Int) := by
  have h1 := shl_small hx hn hm
  have h2 := pw_le n hn
  rw [← add_or hu]
  generalize x * pw n = y at *
  generalize pw n = P at *
  exact i64_or y u (by omega) (by omega)

/-- b's points behind a's, each above what is in u. -/
def jn (g1 : Nat → Nat) (n1 : Nat) (g2 : Nat → Nat) (u k : Nat) : Nat := if k < n1 then g1 k else g2 (k - n1) * pw n1 + u
theorem jn_lo {g1 : Nat → Nat} {n1 : Nat} {g2 : Nat → Nat} {u k : Nat} (h : k < n1) : jn g1 n1 g2 u k = g1 k := by simp [jn, h]
theorem jn_hi (g1 : Nat → Nat) (n1 : Nat) (g2 : Nat → Nat) (u k : Nat) : jn g1 n1 g2 u (n1 + k) = g2 k * pw n1 + u := by
  unfold jn; rw [if_neg (by omega), Nat.add_sub_cancel_left]
theorem rowVals_congr {F G : Nat → Nat} {n : Nat} (h : ∀ k, k < n → F k = G k) : rowVals F n = rowVals G n := by
  unfold rowVals
  apply List.map_congr_left
  intro k hk
  rw [h k (by simpa using hk)]
theorem rowVals_len (F : Nat → Nat) (n : Nat) : (rowVals F n).length = n * 1 := by simp [rowVals]
theorem rowVals_one (F : Nat → Nat) (n : Nat) : ∀ u ∈ rowVals F n, u.oneCell' = true := by
  intro u hu
  simp [rowVals] at hu
  obtain ⟨k, _, rfl⟩ := hu
  rfl
theorem row_news {w : World} {a : Option Addr} {n : Nat} {g : Nat → Nat} (h : Row w a n (fun k => (g k : Nat))) : ∀ ad, a = some ad → ∀ j u, (rowVals g n)[j]? = some u → w.cell? (ad.add j) = some u := by
  intro ad had j u hj
  have hjn : j < n := by
    have := (List.getElem?_eq_some_iff.1 hj).1
    simpa [rowVals] using this
  rw [rowVals_at g n j hjn] at hj
  obtain ⟨b, off, e, hc⟩ := h j hjn
  rw [had] at e
  simp at e
  subst e
  simp at hj
  subst hj
  by_cases e0 : j = 0
  · subst e0; simpa [Addr.add] using hc
  · simpa [Addr.add, e0] using hc
theorem below_grow {B : Nat} {W0 w w1 : World} (h : Below B W0 w) (hg : w.grownBy w1 (some B)) (hs : B ≤ w.heap.size) : Below B W0 w1 :=
  h.grown hg hs (fun k e => by injection e with e; omega)

/-- The slice of an order that is handed back lies in a block from B on. -/
def OrdFresh (B : Nat) (x : Value) : Prop := ∀ n a len cap, x = .agg #[.int .i64 n, .slice a len cap] → Fresh B a len
theorem OrdFresh.no (B : Nat) : OrdFresh B noOrder := by
  intro n a len cap e h
  simp [noOrder] at e
  omega
theorem OrdFresh.at {B b N n : Nat} {m : Int} {k : Nat} (h : B ≤ b) : OrdFresh B (.agg #[.int .i64 m, .slice (some ⟨b, k, none⟩) n N]) := by
  intro n' a len cap e _
  simp at e
  obtain ⟨_, rfl, _⟩ := e
  exact ⟨b, k, rfl, h⟩

set_option maxHeartbeats 2000000 in
theorem join_any (a1 : Option Addr) (len1 cap1 : Nat) (g1 : Nat → Nat) (a2 : Option Addr) (len2 cap2 : Nat) (g2 : Nat → Nat) (u : Nat) (w : World) (h1 : len1 ≤ 10) (h2 : len2 ≤ 10) (hg2 : ∀ k, k < len2 → g2 k < pw len2) (hu : u < pw len1)
    (hz : a1 = none → len1 = 0 ∧ cap1 = 0) (hr1 : Row w a1 len1 (fun k => (g1 k : Nat))) (hr2 : Row w a2 len2 (fun k => (g2 k : Nat))) :
    Calls Try.prog 12 #[.agg #[.int .i64 (len1 : Int), .slice a1 len1 cap1], .agg #[.int .i64 (len2 : Int), .slice a2 len2 cap2], .int .i64 u] w fun e w' =>
      (∃ (c : Int) (x : Value), e = .returned (.tuple #[x, .int .i64 c]) ∧ ((c = 2 ∧ 10 < len1 + len2) ∨ (c = 0 ∧ len1 + len2 ≤ 10)) ∧ OrdErr c ((len1 + len2 : Nat) : Int) (len1 + len2) (fun k => (jn g1 len1 g2 u k : Nat)) x w' ∧ OrdFresh w.heap.size x) ∧ Below w.heap.size w w' := by
  obtain ⟨W3, HW⟩ : ∃ W3, Hid (W3 = ((w.alloc (.cells #[.int .i64 (len1 : Int), .slice a1 len1 cap1] 24)).alloc (.cells #[.int .i64 (len2 : Int), .slice a2 len2 cap2] 24)).alloc (.cells #[.int .i64 0, .slice none 0 0] 24)) := ⟨_, rfl⟩
  have b1 := (Below.refl w.heap.size w).alloc (Nat.le_refl _) (.cells #[.int .i64 (len1 : Int), .slice a1 len1 cap1] 24)
  have X1 := Box.new w (len1 : Int) a1 len1 cap1
  have X2 := X1.step ((Below.refl _ _).alloc (Nat.le_refl _) (.cells #[.int .i64 (len2 : Int), .slice a2 len2 cap2] 24))
  have Y2 := Box.new (w.alloc (.cells #[.int .i64 (len1 : Int), .slice a1 len1 cap1] 24)) (len2 : Int) a2 len2 cap2
  have X3 := X2.step ((Below.refl _ _).alloc (Nat.le_refl _) (.cells #[.int .i64 0, .slice none 0 0] 24))
  have Y3 := Y2.step ((Below.refl _ _).alloc (Nat.le_refl _) (.cells #[.int .i64 0, .slice none 0 0] 24))
  have Z3 := ZBox.new ((w.alloc (.cells #[.int .i64 (len1 : Int), .slice a1 len1 cap1] 24)).alloc (.cells #[.int .i64 (len2 : Int), .slice a2 len2 cap2] 24))
  simp only [World.size_alloc] at Y3 Z3
  have hbw : Below w.heap.size w W3 := by rw [HW.out]; exact (b1.alloc (by simp) _).alloc (by simp; omega) _
  rw [← HW.out] at X3 Y3 Z3
  have hsz : w.heap.size + 3 = W3.heap.size := by rw [HW.out]; simp
  have R1 := hr1.below hbw
  have R2 := hr2.below hbw
  obtain ⟨x30, x31⟩ := X3
  obtain ⟨y30, y31⟩ := Y3
  clear b1 X1 X2 Y2
  by_cases hn : len1 + len2 ≤ 10
  · have hcn : cnt ((len1 : Int) + (len2 : Int)) = true := by simp [cnt]; omega
    obtain ⟨i0, hi, hz0, hz1, hz2⟩ := info_parts Try.info3
    go_enter Try.func12, Try.ntmps12
    go_wp2_with fail
    rw [← HW.out]
    have HZ3 : Hid (ZBox W3 (w.heap.size + 2)) := Z3
    have HX3 : Hid (Box W3 w.heap.size (len1 : Int) a1 len1 cap1) := ⟨x30, x31⟩
    have HY3 : Hid (Box W3 (w.heap.size + 1) (len2 : Int) a2 len2 cap2) := ⟨y30, y31⟩
    have HR1 : Hid (Row W3 a1 len1 (fun k => (g1 k : Nat))) := R1
    have HR2 : Hid (Row W3 a2 len2 (fun k => (g2 k : Nat))) := R2
    have HBW : Hid (Below w.heap.size w W3) := hbw
    have HG2 : Hid (∀ k, k < len2 → g2 k < pw len2) := hg2
    clear Z3 R1 R2 hbw hg2
    obtain ⟨N, HN⟩ : ∃ N, Hid (N = len1 + len2) := ⟨_, rfl⟩
    have hN1 : len1 + len2 ≤ N := by rw [HN.out]; exact Nat.le_refl _
    have hN2 : N ≤ len1 + len2 := by rw [HN.out]; exact Nat.le_refl _
    obtain ⟨J, HJ⟩ : ∃ J, Hid (J = jn g1 len1 g2 u) := ⟨_, rfl⟩
    have HJ1 : Hid (rowVals g1 len1 = rowVals J (len1 + 0)) := rowVals_congr (fun k hk => by rw [HJ.out]; exact (jn_lo hk).symm)
    have HJ2 : Hid (∀ k, J (len1 + k) = g2 k * pw len1 + u) := fun k => by rw [HJ.out]; exact jn_hi g1 len1 g2 u k
    refine (isCount_any _ _).mono ?_
    rintro e w' ⟨rfl, rfl⟩
    clear x30 x31 y30 y31
    go_wp2_with (first | (at_make; refine wpList_make_own _ rfl _ _ 22 rfl W3.heap.size 3 i0 (.int .i64 0) 1 Try.underlying22 hi hz0 hz1 .i64 .i64 _ N rfl rfl (by omega) (by rw [hz2]; omega) (by unfold maxLen; omega) (Nat.le_refl _) ?_; intro w4 hown4 hgrow4; have hb4 : Below W3.heap.size W3 w4 := (Below.refl _ _).grown hgrow4 (Nat.le_refl _) (by simp); obtain ⟨x40, x41⟩ := HX3.out.step hb4; have HB4 : Hid (Below W3.heap.size W3 w4) := hb4; clear hb4 hgrow4) | (at_builtin; refine wpList_append_fits_any _ rfl _ _ 22 rfl W3.heap.size 3 i0 1 Try.underlying22 hi hz1 W3.heap.size 0 N [] rfl hown4 a1 len1 cap1 (rowVals g1 len1) rfl (rowVals_len g1 len1) hz (row_news (HR1.out.below HB4.out)) (rowVals_one g1 len1) (by omega) ?_; intro w5 hown5 hgrow5; have hb5 : Below W3.heap.size W3 w5 := below_grow HB4.out hgrow5 HB4.out.size; obtain ⟨y50, y51⟩ := HY3.out.step hb5; have HB5 : Hid (Below W3.heap.size W3 w5) := hb5; clear hb5 hgrow5))
    clear x40 x41 hown4 HB4
    have HO5 : Hid (w5.ownsRow W3.heap.size 3 1 (.slice (some ⟨W3.heap.size, 0, none⟩) (len1 + 0) N) (len1 + 0) (rowVals J (len1 + 0))) := by
      rw [← HJ1.out]; have h5 := hown5; rw [Nat.zero_add, List.nil_append] at h5; exact h5
    clear hown5 y50 y51
    go_loopw [9, 30] (fun v t wx => ∃ k : Nat, k ≤ len2 ∧ t = .int .i64 k ∧ v = .slice (some ⟨W3.heap.size, 0, none⟩) (len1 + k) N ∧ wx.ownsRow W3.heap.size 3 1 (.slice (some ⟨W3.heap.size, 0, none⟩) (len1 + k) N) (len1 + k) (rowVals J (len1 + k)) ∧ Hid (Below W3.heap.size W3 wx)) (fun _ t _ => len2 - (intOf t).toNat)
    case atStart => exact ⟨0, Nat.zero_le _, rfl, rfl, HO5.out, HB5.out⟩
    case round =>
      obtain ⟨k, hk, rfl, rfl, hown, hB⟩ := hrel
      clear HO5 HB5
      by_cases hlt : k < len2
      · obtain ⟨b, off, rfl, hc⟩ := (HR2.out.below hB.out).at hlt
        have hck := hc k hlt
        clear hc
        obtain ⟨x0, x1⟩ := HX3.out.step hB.out
        have hgk := HG2.out k hlt
        have hsh := wrap_shl hgk h1 h2
        have hor := or_join hgk h1 h2 hu
        have hsz5 := hB.out.size
        have hJk := HJ2.out k
        have HJE : Hid (rowVals J (len1 + (k + 1)) = rowVals J (len1 + k) ++ [.int .i64 (g2 k * pw len1 + u : Nat)]) := by
          rw [← hJk]; exact rowVals_succ J (len1 + k)
        clear hJk
        generalize g2 k * pw len1 + u = V at *
        generalize g2 k * pw len1 = V1 at *
        go_wp2_with (at_builtin; refine wpList_append_fits_any _ rfl _ _ 22 rfl W3.heap.size 3 i0 1 Try.underlying22 hi hz1 W3.heap.size (len1 + k) N (rowVals J (len1 + k)) rfl (hown.alloc _) (some ⟨wr.heap.size, 0, none⟩) 1 1 [.int .i64 (V : Nat)] rfl rfl (by simp) ?c1 ?c2 (by omega) ?_)
        case c1 =>
          intro ad had j u hj
          simp at had; subst had
          match j, hj with
          | 0, hj => simp at hj; subst hj; simp [Addr.add]
        case c2 => intro u hu; simp at hu; subst hu; rfl
        intro w6 hown6 hgrow6
        have HB6 : Hid (Below W3.heap.size W3 w6) := below_grow (hB.out.alloc hB.out.size _) hgrow6 (by simp; omega)
        have HO6 : Hid (w6.ownsRow W3.heap.size 3 1 (.slice (some ⟨W3.heap.size, 0, none⟩) (len1 + (k + 1)) N) (len1 + (k + 1)) (rowVals J (len1 + (k + 1)))) := by
          rw [HJE.out]; exact hown6
        clear hown hown6 hgrow6 hB x0 x1 hck
        go_wp2_with fail
        go_roundw
        case rel => exact ⟨k + 1, by omega, by go_num, rfl, HO6.out, HB6.out⟩
        case measure => simp [intOf]; omega
      · have hkn : k = len2 := by omega
        subst hkn
        obtain ⟨r0, r1, r2, r3⟩ := HZ3.out.step hB.out
        have HBE : Hid (Below w.heap.size w wr) := Below.then HBW.out hB.out
        have HRW : Hid (Row wr (some ⟨W3.heap.size, 0, none⟩) (len1 + k) (fun j => (J j : Nat))) := by
          obtain ⟨a', c', e, h⟩ := owns_row hown
          simp at e
          obtain ⟨rfl, rfl⟩ := e
          exact h
        rw [HJ.out] at HRW
        clear hown
        go_wp2
        refine bodyPost_ret (v := .tuple #[.agg #[.int .i64 ((len1 : Int) + (k : Int)), .slice (some ⟨W3.heap.size, 0, none⟩) (len1 + k) N], .int .i64 0]) ?_ rfl ⟨⟨0, _, rfl, .inr ⟨rfl, hn⟩, .inr ⟨rfl, some ⟨W3.heap.size, 0, none⟩, N, ?_, ?_⟩, OrdFresh.at (by omega)⟩, set2B HBE.out (by omega)⟩
        · simp [results, Try.results12, go_sem, r0, r1]
        · simp
        · exact row_set2 HRW.out (fun _ => ⟨_, _, rfl, by omega⟩)
  · have hcn : cnt ((len1 : Int) + (len2 : Int)) = false := by simp [cnt]; omega
    obtain ⟨r0, r1, r2, r3⟩ := Z3
    have HBW : Hid (Below w.heap.size w W3) := hbw
    clear hbw R1 R2
    go_enter Try.func12, Try.ntmps12
    go_wp2_with fail
    rw [← HW.out]
    refine (isCount_any _ _).mono ?_
    rintro e w' ⟨rfl, rfl⟩
    go_wp2_with fail
    exact bodyPost_ret (v := .tuple #[noOrder, .int .i64 2]) (by simp [results, Try.results12, go_sem, noOrder, r0, r1]) rfl ⟨⟨2, _, rfl, .inl ⟨rfl, by omega⟩, .inl ⟨by decide, rfl⟩, OrdFresh.no _⟩, set2B HBW.out (by omega)⟩
end Go.Proofs.Ytbcikonkokahlaa
