/-
  What order.join answers of two orders that were looked at. Conditions: as the theorem says.
  What order.Beside answers, whatever it is handed. Conditions: slices read as slices of numbers; a nil one has no room.
-/
import Derived.Test.YtinblbkglkhjmaaDoorWrM
import Derived.Test.YtinblbkglkhjmaaDoorWoU
namespace Go.Proofs.YtinblbkglkhjmaaDoor
open Go.RowKit

theorem add_or {x u n : Nat} (h : u < pw n) : x * pw n ||| u = x * pw n + u := by
  have e := Nat.two_pow_add_eq_or_of_lt (show u < 2 ^ n from h) x
  show x * 2 ^ n ||| u = x * 2 ^ n + u
  rw [Nat.mul_comm x, ← e]
theorem shl_small {x n m : Nat} (hx : x < pw m) (hn : n ≤ 10) (hm : m ≤ 10) : x * pw n < 2000000 := by
  have h1 := pw_le n hn
  have h2 := pw_le m hm
  have h3 : x * pw n ≤ 1024 * 1024 := Nat.mul_le_mul (by omega) h1
  omega
theorem wrap_shl {x n m : Nat} (hx : x < pw m) (hn : n ≤ 10) (hm : m ≤ 10) : wrap64 ((x : Int) * 2 ^ n) = ((x * pw n : Nat) : Int) := by
  have := shl_small hx hn hm
  rw [show ((x : Int) * 2 ^ n) = ((x * pw n : Nat) : Int) by simp [pw]]
  generalize x * pw n = y at *
  exact IntWalk.wrap64_in _ ⟨by omega, by omega⟩
theorem or_join {x u n m : Nat} (hx : x < pw m) (hn : n ≤ 10) (hm : m ≤ 10) (hu : u < pw n) : bits .or .i64 ((x * pw n : Nat) : Int) (u : Int) = ((x * pw n + u : Nat) : Int) := by
  have h1 := shl_small hx hn hm
  have h2 := pw_le n hn
  rw [← add_or hu]
  generalize x * pw n = y at *
  generalize pw n = P at *
  exact i64_or y u (by omega) (by omega)

/-- b's points behind a's, each above what is in u. -/
def jn (g1 : Nat → Nat) (n1 : Nat) (g2 : Nat → Nat) (u k : Nat) : Nat := if k < n1 then g1 k else g2 (k - n1) * pw n1 + u
theorem jn_lo {g1 : Nat → Nat} {n1 : Nat} {g2 : Nat → Nat} {u k : Nat} (h : k < n1) : jn g1 n1 g2 u k = g1 k := by simp [jn, h]
theorem jn_hi (g1 : Nat → Nat) (n1 : Nat) (g2 : Nat → Nat) (u k : Nat) : jn g1 n1 g2 u (n1 + k) = g2 k * pw n1 + u := by
  unfold jn; rw [if_neg (by omega), Nat.add_sub_cancel_left]
theorem rowVals_congr {F G : Nat → Nat} {n : Nat} (h : ∀ k, k < n → F k = G k) : rowVals F n = rowVals G n := by
  unfold rowVals
  apply List.map_congr_left
  intro k hk
  rw [h k (by simpa using hk)]
theorem rowVals_len (F : Nat → Nat) (n : Nat) : (rowVals F n).length = n * 1 := by simp [rowVals]
theorem rowVals_one (F : Nat → Nat) (n : Nat) : ∀ u ∈ rowVals F n, u.oneCell' = true := by
  intro u hu
  simp [rowVals] at hu
  obtain ⟨k, _, rfl⟩ := hu
  rfl
theorem row_news {w : World} {a : Option Addr} {n : Nat} {g : Nat → Nat} (h : Row w a n (fun k => (g k : Nat))) : ∀ ad, a = some ad → ∀ j u, (rowVals g n)[j]? = some u → w.cell? (ad.add j) = some u := by
  intro ad had j u hj
  have hjn : j < n := by
    have := (List.getElem?_eq_some_iff.1 hj).1
    simpa [rowVals] using this
  rw [rowVals_at g n j hjn] at hj
  obtain ⟨b, off, e, hc⟩ := h j hjn
  rw [had] at e
  simp at e
  subst e
  simp at hj
  subst hj
  by_cases e0 : j = 0
  · subst e0; simpa [Addr.add] using hc
  · simpa [Addr.add, e0] using hc
theorem below_grow {B : Nat} {W0 w w1 : World} (h : Below B W0 w) (hg : w.grownBy w1 (some B)) (hs : B ≤ w.heap.size) : Below B W0 w1 :=
  h.grown hg hs (fun k e => by injection e with e; omega)

/-- The slice of an order that is handed back lies in a block from B on. -/
def OrdFresh (B : Nat) (x : Value) : Prop := ∀ n a len cap, x = .agg #[.int .i64 n, .slice a len cap] → Fresh B a len
theorem OrdFresh.no (B : Nat) : OrdFresh B noOrder := by
  intro n a len cap e h
  simp [noOrder] at e
  omega
theorem OrdFresh.at {B b N n : Nat} {m : Int} {k : Nat} (h : B ≤ b) : OrdFresh B (.agg #[.int .i64 m, .slice (some ⟨b, k, none⟩) n N]) := by
  intro n' a len cap e _
  simp at e
  obtain ⟨_, rfl, _⟩ := e
  exact ⟨b, k, rfl, h⟩

set_option maxHeartbeats 2000000 in
theorem join_any (a1 : Option Addr) (len1 cap1 : Nat) (g1 : Nat → Nat) (a2 : Option Addr) (len2 cap2 : Nat) (g2 : Nat → Nat) (u : Nat) (w : World) (h1 : len1 ≤ 10) (h2 : len2 ≤ 10) (hg2 : ∀ k, k < len2 → g2 k < pw len2) (hu : u < pw len1)
    (hz : a1 = none → len1 = 0 ∧ cap1 = 0) (hr1 : Row w a1 len1 (fun k => (g1 k : Nat))) (hr2 : Row w a2 len2 (fun k => (g2 k : Nat))) :
    Calls Tryd.prog 24 #[.agg #[.int .i64 (len1 : Int), .slice a1 len1 cap1], .agg #[.int .i64 (len2 : Int), .slice a2 len2 cap2], .int .i64 u] w fun e w' =>
      (∃ (c : Int) (x : Value), e = .returned (.tuple #[x, .int .i64 c]) ∧ ((c = 2 ∧ 10 < len1 + len2) ∨ (c = 0 ∧ len1 + len2 ≤ 10)) ∧ OrdErr c ((len1 + len2 : Nat) : Int) (len1 + len2) (fun k => (jn g1 len1 g2 u k : Nat)) x w' ∧ OrdFresh w.heap.size x ∧ WrB w.heap.size w' x) ∧ Below w.heap.size w w' := by
  obtain ⟨W3, HW⟩ : ∃ W3, Hid (W3 = ((w.alloc (.cells #[.int .i64 (len1 : Int), .slice a1 len1 cap1] 24)).alloc (.cells #[.int .i64 (len2 : Int), .slice a2 len2 cap2] 24)).alloc (.cells #[.int .i64 0, .slice none 0 0] 24)) := ⟨_, rfl⟩
  have b1 := (Below.refl w.heap.size w).alloc (Nat.le_refl _) (.cells #[.int .i64 (len1 : Int), .slice a1 len1 cap1] 24)
  have X1 := Box.new w (len1 : Int) a1 len1 cap1
  have X2 := X1.step ((Below.refl _ _).alloc (Nat.le_refl _) (.cells #[.int .i64 (len2 : Int), .slice a2 len2 cap2] 24))
  have Y2 := Box.new (w.alloc (.cells #[.int .i64 (len1 : Int), .slice a1 len1 cap1] 24)) (len2 : Int) a2 len2 cap2
  have X3 := X2.step ((Below.refl _ _).alloc (Nat.le_refl _) (.cells #[.int .i64 0, .slice none 0 0] 24))
  have Y3 := Y2.step ((Below.refl _ _).alloc (Nat.le_refl _) (.cells #[.int .i64 0, .slice none 0 0] 24))
  have Z3 := ZBox.new ((w.alloc (.cells #[.int .i64 (len1 : Int), .slice a1 len1 cap1] 24)).alloc (.cells #[.int .i64 (len2 : Int), .slice a2 len2 cap2] 24))
  simp only [World.size_alloc] at Y3 Z3
  have hbw : Below w.heap.size w W3 := by rw [HW.out]; exact (b1.alloc (by simp) _).alloc (by simp; omega) _
  rw [← HW.out] at X3 Y3 Z3
  have hsz : w.heap.size + 3 = W3.heap.size := by rw [HW.out]; simp
  have R1 := hr1.below hbw
  have R2 := hr2.below hbw
  obtain ⟨x30, x31⟩ := X3
  obtain ⟨y30, y31⟩ := Y3
  clear b1 X1 X2 Y2
  by_cases hn : len1 + len2 ≤ 10
  · have hcn : cnt ((len1 : Int) + (len2 : Int)) = true := by simp [cnt]; omega
    obtain ⟨i0, hi, hz0, hz1, hz2⟩ := info_parts Tryd.info3
    go_enter Tryd.func24, Tryd.ntmps24
    go_wp2_with fail
    rw [← HW.out]
    have HZ3 : Hid (ZBox W3 (w.heap.size + 2)) := Z3
    have HX3 : Hid (Box W3 w.heap.size (len1 : Int) a1 len1 cap1) := ⟨x30, x31⟩
    have HY3 : Hid (Box W3 (w.heap.size + 1) (len2 : Int) a2 len2 cap2) := ⟨y30, y31⟩
    have HR1 : Hid (Row W3 a1 len1 (fun k => (g1 k : Nat))) := R1
    have HR2 : Hid (Row W3 a2 len2 (fun k => (g2 k : Nat))) := R2
    have HBW : Hid (Below w.heap.size w W3) := hbw
    have HG2 : Hid (∀ k, k < len2 → g2 k < pw len2) := hg2
    clear Z3 R1 R2 hbw hg2
    obtain ⟨N, HN⟩ : ∃ N, Hid (N = len1 + len2) := ⟨_, rfl⟩
    have hN1 : len1 + len2 ≤ N := by rw [HN.out]; exact Nat.le_refl _
    have hN2 : N ≤ len1 + len2 := by rw [HN.out]; exact Nat.le_refl _
    obtain ⟨J, HJ⟩ : ∃ J, Hid (J = jn g1 len1 g2 u) := ⟨_, rfl⟩
    have HJ1 : Hid (rowVals g1 len1 = rowVals J (len1 + 0)) := rowVals_congr (fun k hk => by rw [HJ.out]; exact (jn_lo hk).symm)
    have HJ2 : Hid (∀ k, J (len1 + k) = g2 k * pw len1 + u) := fun k => by rw [HJ.out]; exact jn_hi g1 len1 g2 u k
    refine (isCount_any _ _).mono ?_
    rintro e w' ⟨rfl, rfl⟩
    clear x30 x31 y30 y31
    go_wp2_with (first | (at_make; refine wpList_make_own _ rfl _ _ 22 rfl W3.heap.size 3 i0 (.int .i64 0) 1 Tryd.underlying22 hi hz0 hz1 .i64 .i64 _ N rfl rfl (by omega) (by rw [hz2]; omega) (by unfold maxLen; omega) (Nat.le_refl _) ?_; intro w4 hown4 hgrow4; have hb4 : Below W3.heap.size W3 w4 := (Below.refl _ _).grown hgrow4 (Nat.le_refl _) (by simp); obtain ⟨x40, x41⟩ := HX3.out.step hb4; have HB4 : Hid (Below W3.heap.size W3 w4) := hb4; clear hb4 hgrow4) | (at_builtin; refine wpList_append_fits_any _ rfl _ _ 22 rfl W3.heap.size 3 i0 1 Tryd.underlying22 hi hz1 W3.heap.size 0 N [] rfl hown4 a1 len1 cap1 (rowVals g1 len1) rfl (rowVals_len g1 len1) hz (row_news (HR1.out.below HB4.out)) (rowVals_one g1 len1) (by omega) ?_; intro w5 hown5 hgrow5; have hb5 : Below W3.heap.size W3 w5 := below_grow HB4.out hgrow5 HB4.out.size; obtain ⟨y50, y51⟩ := HY3.out.step hb5; have HB5 : Hid (Below W3.heap.size W3 w5) := hb5; clear hb5 hgrow5))
    clear x40 x41 hown4 HB4
    have HO5 : Hid (w5.ownsRow W3.heap.size 3 1 (.slice (some ⟨W3.heap.size, 0, none⟩) (len1 + 0) N) (len1 + 0) (rowVals J (len1 + 0))) := by
      rw [← HJ1.out]; have h5 := hown5; rw [Nat.zero_add, List.nil_append] at h5; exact h5
    clear hown5 y50 y51
    go_loopw [9, 30] (fun v t wx => ∃ k : Nat, k ≤ len2 ∧ t = .int .i64 k ∧ v = .slice (some ⟨W3.heap.size, 0, none⟩) (len1 + k) N ∧ wx.ownsRow W3.heap.size 3 1 (.slice (some ⟨W3.heap.size, 0, none⟩) (len1 + k) N) (len1 + k) (rowVals J (len1 + k)) ∧ Hid (Below W3.heap.size W3 wx)) (fun _ t _ => len2 - (intOf t).toNat)
    case atStart => exact ⟨0, Nat.zero_le _, rfl, rfl, HO5.out, HB5.out⟩
    case round =>
      obtain ⟨k, hk, rfl, rfl, hown, hB⟩ := hrel
      clear HO5 HB5
      by_cases hlt : k < len2
      · obtain ⟨b, off, rfl, hc⟩ := (HR2.out.below hB.out).at hlt
        have hck := hc k hlt
        clear hc
        obtain ⟨x0, x1⟩ := HX3.out.step hB.out
        have hgk := HG2.out k hlt
        have hsh := wrap_shl hgk h1 h2
        have hor := or_join hgk h1 h2 hu
        have hsz5 := hB.out.size
        have hJk := HJ2.out k
        have HJE : Hid (rowVals J (len1 + (k + 1)) = rowVals J (len1 + k) ++ [.int .i64 (g2 k * pw len1 + u : Nat)]) := by
          rw [← hJk]; exact rowVals_succ J (len1 + k)
        clear hJk
        generalize g2 k * pw len1 + u = V at *
        generalize g2 k * pw len1 = V1 at *
        go_wp2_with (at_builtin; refine wpList_append_fits_any _ rfl _ _ 22 rfl W3.heap.size 3 i0 1 Tryd.underlying22 hi hz1 W3.heap.size (len1 + k) N (rowVals J (len1 + k)) rfl (hown.alloc _) (some ⟨wr.heap.size, 0, none⟩) 1 1 [.int .i64 (V : Nat)] rfl rfl (by simp) ?c1 ?c2 (by omega) ?_)
        case c1 =>
          intro ad had j u hj
          simp at had; subst had
          match j, hj with
          | 0, hj => simp at hj; subst hj; simp [Addr.add]
        case c2 => intro u hu; simp at hu; subst hu; rfl
        intro w6 hown6 hgrow6
        have HB6 : Hid (Below W3.heap.size W3 w6) := below_grow (hB.out.alloc hB.out.size _) hgrow6 (by simp; omega)
        have HO6 : Hid (w6.ownsRow W3.heap.size 3 1 (.slice (some ⟨W3.heap.size, 0, none⟩) (len1 + (k + 1)) N) (len1 + (k + 1)) (rowVals J (len1 + (k + 1)))) := by
          rw [HJE.out]; exact hown6
        clear hown hown6 hgrow6 hB x0 x1 hck
        go_wp2_with fail
        go_roundw
        case rel => exact ⟨k + 1, by omega, by go_num, rfl, HO6.out, HB6.out⟩
        case measure => simp [intOf]; omega
      · have hkn : k = len2 := by omega
        subst hkn
        obtain ⟨r0, r1, r2, r3⟩ := HZ3.out.step hB.out
        have HBE : Hid (Below w.heap.size w wr) := Below.then HBW.out hB.out
        have HRW : Hid (Row wr (some ⟨W3.heap.size, 0, none⟩) (len1 + k) (fun j => (J j : Nat))) := by
          obtain ⟨a', c', e, h⟩ := owns_row hown
          simp at e
          obtain ⟨rfl, rfl⟩ := e
          exact h
        rw [HJ.out] at HRW
        have HOW : Hid (wr.ownsRow W3.heap.size 3 1 (.slice (some ⟨W3.heap.size, 0, none⟩) (len1 + k) N) (len1 + k) (rowVals J (len1 + k))) := hown
        clear hown
        go_wp2
        refine bodyPost_ret (v := .tuple #[.agg #[.int .i64 ((len1 : Int) + (k : Int)), .slice (some ⟨W3.heap.size, 0, none⟩) (len1 + k) N], .int .i64 0]) ?_ rfl ⟨⟨0, _, rfl, .inr ⟨rfl, hn⟩, .inr ⟨rfl, some ⟨W3.heap.size, 0, none⟩, N, ?_, ?_⟩, OrdFresh.at (by omega), wrb_set2 (wrb_owns HOW.out (by omega))⟩, set2B HBE.out (by omega)⟩
        · simp [results, Tryd.results24, go_sem, r0, r1]
        · simp
        · exact row_set2 HRW.out (fun _ => ⟨_, _, rfl, by omega⟩)
  · have hcn : cnt ((len1 : Int) + (len2 : Int)) = false := by simp [cnt]; omega
    obtain ⟨r0, r1, r2, r3⟩ := Z3
    have HBW : Hid (Below w.heap.size w W3) := hbw
    clear hbw R1 R2
    go_enter Tryd.func24, Tryd.ntmps24
    go_wp2_with fail
    rw [← HW.out]
    refine (isCount_any _ _).mono ?_
    rintro e w' ⟨rfl, rfl⟩
    go_wp2_with fail
    exact bodyPost_ret (v := .tuple #[noOrder, .int .i64 2]) (by simp [results, Tryd.results24, go_sem, noOrder, r0, r1]) rfl ⟨⟨2, _, rfl, .inl ⟨rfl, by omega⟩, .inl ⟨by decide, rfl⟩, OrdFresh.no _, wrb_set2 (wrb_no _ _)⟩, set2B HBW.out (by omega)⟩
end Go.Proofs.YtinblbkglkhjmaaDoor
namespace Go.Proofs.YtinblbkglkhjmaaDoor
open Go.RowKit

/-- What must be said of two orders that are put together. -/
def JChk (n1 : Int) (len1 : Nat) (f1 : Nat → Int) (n2 : Int) (len2 : Nat) (f2 : Nat → Int) (c : Int) : Prop :=
  (c ≠ 0 ∧ Chk2 n1 len1 f1 n2 len2 f2 c) ∨ (Chk2 n1 len1 f1 n2 len2 f2 0 ∧ ((c = 2 ∧ 10 < len1 + len2) ∨ (c = 0 ∧ len1 + len2 ≤ 10)))
theorem JChk.unique {n1 : Int} {len1 : Nat} {f1 : Nat → Int} {n2 : Int} {len2 : Nat} {f2 : Nat → Int} {c c' : Int} (h : JChk n1 len1 f1 n2 len2 f2 c) (h' : JChk n1 len1 f1 n2 len2 f2 c') : c = c' := by
  rcases h with ⟨h0, h⟩ | ⟨h, k⟩ <;> rcases h' with ⟨h0', h'⟩ | ⟨h', k'⟩
  · exact h.unique h'
  · exact absurd (h.unique h') h0
  · exact absurd (h'.unique h) h0'
  · omega
theorem Chk2.good {n1 : Int} {len1 : Nat} {f1 : Nat → Int} {n2 : Int} {len2 : Nat} {f2 : Nat → Int} (h : Chk2 n1 len1 f1 n2 len2 f2 0) : Chk n1 len1 f1 0 ∧ Chk n2 len2 f2 0 := by
  rcases h with ⟨h, _⟩ | h
  · exact absurd rfl h
  · exact h
def BesidePost (K : Nat) (u : Nat → Nat) (n1 : Int) (len1 : Nat) (f1 : Nat → Int) (n2 : Int) (len2 : Nat) (f2 : Nat → Int) (e : Ending) (w' : World) : Prop :=
  ∃ (c : Int) (x : Value), JChk n1 len1 f1 n2 len2 f2 c ∧ e = .returned (.tuple #[x, .int .i64 c]) ∧ OrdErr c ((len1 + len2 : Nat) : Int) (len1 + len2) (fun k => (jn (nat f1) len1 (nat f2) (u len1) k : Nat)) x w' ∧ WrB K w' x

theorem two_new (w : World) (n1 : Int) (a1 : Option Addr) (len1 cap1 : Nat) (n2 : Int) (a2 : Option Addr) (len2 cap2 : Nat) : Two (w.alloc (.cells #[.int .i64 n1, .slice a1 len1 cap1, .int .i64 n2, .slice a2 len2 cap2] 24)) w.heap.size n1 a1 len1 cap1 n2 a2 len2 cap2 :=
  ⟨by simp, by simp, by simp, by simp⟩

set_option maxHeartbeats 2000000 in
theorem beside_any (n1 : Int) (a1 : Option Addr) (len1 cap1 : Nat) (f1 : Nat → Int) (n2 : Int) (a2 : Option Addr) (len2 cap2 : Nat) (f2 : Nat → Int) (w : World) (hl1 : len1 ≤ maxLen) (hl2 : len2 ≤ maxLen)
    (hz : a1 = none → len1 = 0 ∧ cap1 = 0) (hr1 : Row w a1 len1 f1) (hr2 : Row w a2 len2 f2) :
    Calls Tryd.prog 8 #[.agg #[.int .i64 n1, .slice a1 len1 cap1], .agg #[.int .i64 n2, .slice a2 len2 cap2]] w fun e w' => BesidePost w.heap.size (fun _ => 0) n1 len1 f1 n2 len2 f2 e w' ∧ Below w.heap.size w w' := by
  obtain ⟨W3, HW⟩ : ∃ W3, Hid (W3 = ((w.alloc (.cells #[.int .i64 n1, .slice a1 len1 cap1] 24)).alloc (.cells #[.int .i64 n2, .slice a2 len2 cap2] 24)).alloc (.cells #[.int .i64 0, .slice none 0 0] 24)) := ⟨_, rfl⟩
  have b1 := (Below.refl w.heap.size w).alloc (Nat.le_refl _) (.cells #[.int .i64 n1, .slice a1 len1 cap1] 24)
  have X3 := ((Box.new w n1 a1 len1 cap1).step ((Below.refl _ _).alloc (Nat.le_refl _) (.cells #[.int .i64 n2, .slice a2 len2 cap2] 24))).step ((Below.refl _ _).alloc (Nat.le_refl _) (.cells #[.int .i64 0, .slice none 0 0] 24))
  have Y3 := (Box.new (w.alloc (.cells #[.int .i64 n1, .slice a1 len1 cap1] 24)) n2 a2 len2 cap2).step ((Below.refl _ _).alloc (Nat.le_refl _) (.cells #[.int .i64 0, .slice none 0 0] 24))
  have Z3 := ZBox.new ((w.alloc (.cells #[.int .i64 n1, .slice a1 len1 cap1] 24)).alloc (.cells #[.int .i64 n2, .slice a2 len2 cap2] 24))
  simp only [World.size_alloc] at Y3 Z3
  have hbw : Below w.heap.size w W3 := by rw [HW.out]; exact (b1.alloc (by simp) _).alloc (by simp; omega) _
  rw [← HW.out] at X3 Y3 Z3
  have hsz : w.heap.size + 3 = W3.heap.size := by rw [HW.out]; simp
  have bW := (Below.refl W3.heap.size W3).alloc (Nat.le_refl _) (.cells #[.int .i64 n1, .slice a1 len1 cap1, .int .i64 n2, .slice a2 len2 cap2] 24)
  have R1 := (hr1.below hbw).below bW
  have R2 := (hr2.below hbw).below bW
  have T4 := two_new W3 n1 a1 len1 cap1 n2 a2 len2 cap2
  have X4 := X3.step bW
  have Y4 := Y3.step bW
  have Z4 := Z3.step bW
  have HB4 : Hid (Below w.heap.size w (W3.alloc (.cells #[.int .i64 n1, .slice a1 len1 cap1, .int .i64 n2, .slice a2 len2 cap2] 24))) := hbw.alloc hbw.size _
  obtain ⟨x30, x31⟩ := X3
  obtain ⟨y30, y31⟩ := Y3
  clear b1 bW hbw Z3
  go_enter Tryd.func8, Tryd.ntmps8
  go_wp2_with fail
  rw [← HW.out]
  refine (checkAll_any n1 a1 len1 cap1 f1 n2 a2 len2 cap2 f2 W3.heap.size _ hl1 hl2 T4 R1 R2).mono ?_
  rintro e w5 ⟨⟨c, rfl, hc⟩, hb⟩
  have X5 := X4.step hb
  have Y5 := Y4.step hb
  have Z5 := Z4.step hb
  have Q1 := R1.below hb
  have Q2 := R2.below hb
  have HB5 : Hid (Below w.heap.size w w5) := Below.then HB4.out hb
  clear hb X4 Y4 Z4 R1 R2 T4 HB4 x30 x31 y30 y31 HW
  by_cases h0 : c = 0
  · subst h0
    obtain ⟨g1, g2⟩ := hc.good
    obtain ⟨rfl, h10, hrng1, _⟩ := g1.good
    obtain ⟨rfl, h20, hrng2, _⟩ := g2.good
    have HC : Hid (Chk2 (len1 : Int) len1 f1 (len2 : Int) len2 f2 0) := hc
    obtain ⟨x0, x1⟩ := X5
    obtain ⟨y0, y1⟩ := Y5
    clear hc g1 g2
    go_wp2_with fail
    refine (join_any a1 len1 cap1 (nat f1) a2 len2 cap2 (nat f2) 0 _ h10 h20 hrng2.small (pw_pos len1) hz (hrng1.row Q1) (hrng2.row Q2)).mono ?_
    rintro e w6 ⟨⟨c6, x6, rfl, hc6, hx6, hf6, hw6⟩, hb⟩
    obtain ⟨r0, r1, r2, r3⟩ := Z5.step hb
    have HB6 : Hid (Below w.heap.size w w6) := Below.then HB5.out hb
    have HJ : Hid (JChk (len1 : Int) len1 f1 (len2 : Int) len2 f2 c6) := .inr ⟨HC.out, hc6⟩
    have hl6 : w.heap.size + 2 < w5.heap.size := World.block_lt_of_cell? _ _ Z5.1
    clear hb Z5 HB5 hc6 x0 x1 y0 y1 Q1 Q2
    rcases hx6 with ⟨h6, rfl⟩ | ⟨rfl, a6, cap6, rfl, hr6⟩
    · unfold noOrder
      go_wp2_with fail
      exact bodyPost_ret (v := .tuple #[noOrder, .int .i64 c6]) (by simp [results, Tryd.results8, go_sem, noOrder, r0, r1]) rfl ⟨⟨c6, _, HJ.out, rfl, .inl ⟨h6, rfl⟩, wrb_set2 (wrb_no _ _)⟩, set2B HB6.out (by omega)⟩
    · have HRW : Hid (Row w6 a6 (len1 + len2) (fun k => (jn (nat f1) len1 (nat f2) 0 k : Nat))) := hr6
      have HFR : Hid (Fresh (w.heap.size + 2 + 1) a6 (len1 + len2)) := (hf6 _ _ _ _ rfl).mono (by omega)
      have HWR := (show Hid (WrB _ w6 _) from hw6)
      clear hr6 hf6 hw6
      go_wp2_with fail
      refine bodyPost_ret (v := .tuple #[.agg #[.int .i64 ((len1 + len2 : Nat) : Int), .slice a6 (len1 + len2) cap6], .int .i64 0]) ?_ rfl ⟨⟨0, _, HJ.out, rfl, .inr ⟨rfl, a6, cap6, rfl, row_set2 HRW.out HFR.out⟩, wrb_set2 (wrb_mono HWR.out (by omega))⟩, set2B HB6.out (by omega)⟩
      simp [results, Tryd.results8, go_sem, r0, r1]
  · have hne : (c != 0) = true := by simpa using h0
    obtain ⟨r0, r1, r2, r3⟩ := Z5
    have HJ : Hid (JChk n1 len1 f1 n2 len2 f2 c) := .inl ⟨h0, hc⟩
    clear hc
    go_wp2_with fail
    exact bodyPost_ret (v := .tuple #[noOrder, .int .i64 c]) (by simp [results, Tryd.results8, go_sem, noOrder, r0, r1]) rfl ⟨⟨c, _, HJ.out, rfl, .inl ⟨h0, rfl⟩, wrb_set2 (wrb_no _ _)⟩, set2B HB5.out (by omega)⟩
end Go.Proofs.YtinblbkglkhjmaaDoor
