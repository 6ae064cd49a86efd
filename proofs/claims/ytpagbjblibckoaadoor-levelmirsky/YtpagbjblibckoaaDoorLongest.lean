/-
  What level.Longest answers. Conditions: the library's table lies in its variable; a slice reads as a slice of numbers.
-/
import Derived.Test.YtpagbjblibckoaaDoorLongM
import Derived.Test.YtpagbjblibckoaaDoorPeel
import Derived.Test.YtpagbjblibckoaaDoorReverse
import Derived.Test.YtpagbjblibckoaaDoorHeights
namespace Go.Proofs.YtpagbjblibckoaaDoor
open Go.RowKit

theorem pig : ∀ n T (f : Nat → Nat), (∀ j, j < T → f j < n) → (∀ i j, i < T → j < T → f i = f j → i = j) → T ≤ n
  | 0, T, f, h1, _ => by
    rcases Nat.eq_zero_or_pos T with h | h
    · omega
    · exact absurd (h1 0 h) (Nat.not_lt_zero _)
  | n + 1, T, f, h1, h2 => by
    by_cases hx : ∃ j, j < T ∧ f j = n
    · obtain ⟨j0, hj0, e0⟩ := hx
      have := pig n (T - 1) (fun j => if j = j0 then f (T - 1) else f j) (fun j hj => by
        by_cases e : j = j0
        · simp only [e, if_pos]
          have h3 := h1 (T - 1) (by omega)
          have h4 : f (T - 1) ≠ n := fun e2 => by have := h2 (T - 1) j0 (by omega) hj0 (by rw [e2, e0]); omega
          omega
        · simp only [e, if_false]
          have h3 := h1 j (by omega)
          have h4 : f j ≠ n := fun e2 => e (h2 j j0 (by omega) hj0 (by rw [e2, e0]))
          omega) (fun i j hi hj e => by
        by_cases e1 : i = j0 <;> by_cases e2 : j = j0
        · omega
        · simp only [e1, e2, if_pos, if_false] at e
          have := h2 (T - 1) j (by omega) (by omega) e; omega
        · simp only [e1, e2, if_pos, if_false] at e
          have := h2 i (T - 1) (by omega) (by omega) e; omega
        · simp only [e1, e2, if_false] at e
          exact h2 i j (by omega) (by omega) e)
      omega
    · have := pig n T f (fun j hj => by
        have h3 := h1 j hj
        have h4 : f j ≠ n := fun e => hx ⟨j, hj, e⟩
        omega) h2
      omega
theorem tops_len {t : Nat → Nat} {n : Nat} (hn : n ≤ 10) (hg : Sm n n t) (ho : Ord n t) : tops t n ≤ n :=
  pig n (tops t n) (lcp t n) (fun j hj => (lc_ok hn hg ho j hj).lt) (fun i j hi hj e => by
    have h1 := (lc_ok hn hg ho i hi).ht
    have h2 := (lc_ok hn hg ho j hj).ht
    rw [e, h2] at h1; omega)
theorem own_of {w : World} {base b n cap : Nat} {l : List Nat} (hl : l.length = n) (h : w.ownsRow base 3 1 (.slice (some ⟨b, 0, none⟩) n cap) n (natVals l)) : Own w b n (nth l) := fun k hk =>
  ⟨by rw [h.cellAt k (by omega)]; exact natVals_at l k (by omega), h.frozenAt k⟩
theorem reverse_nil (a : Option Addr) (cap : Nat) (w : World) :
    Calls Tryd.prog 18 #[.slice a 0 cap] w fun e w' => (∃ v, e = .returned v) ∧ w = w' := by
  go_enter Tryd.func18, Tryd.ntmps18
  go_wp2_with fail
  go_loop [2, 3] (fun x y => x = .int .i64 0 ∧ y = .int .i64 (-1)) (fun _ _ => 0)
  case atStart => exact ⟨rfl, rfl⟩
  case round =>
    obtain ⟨rfl, rfl⟩ := hrel
    go_wp2_with fail
    first | go_returns | (refine bodyPost_end rfl rfl ?_) | (refine bodyPost_ret rfl rfl ?_)
    exact ⟨⟨_, rfl⟩, rfl⟩

def LongPost (n : Int) (len : Nat) (f : Nat → Int) (e : Ending) (w' : World) : Prop :=
  ∃ c : Int, Chk n len f c ∧ ((c ≠ 0 ∧ e = .returned (.tuple #[.slice none 0 0, .int .i64 c])) ∨
    (c = 0 ∧ ∃ a cap, e = .returned (.tuple #[.slice a (tops (trn (nat f) len) len) cap, .int .i64 0]) ∧ Row w' a (tops (trn (nat f) len) len) (fun j => (lcp (trn (nat f) len) len j : Nat))))

set_option maxHeartbeats 2000000 in
theorem longest_any (n : Int) (a : Option Addr) (len cap : Nat) (f : Nat → Int) (w : World) (hl : len ≤ maxLen) (hr : Row w a len f) (hT : Tab w) :
    Calls Tryd.prog 5 #[.agg #[.int .i64 n, .slice a len cap]] w fun e w' => LongPost n len f e w' ∧ Below w.heap.size w w' := by
  have K0 : Held (w.alloc (.cells #[.int .i64 n, .slice a len cap] 24)) w.heap.size n a len cap f := Held.box hr
  have HB0 : Hid (Below w.heap.size w (w.alloc (.cells #[.int .i64 n, .slice a len cap] 24))) := (Below.refl _ _).alloc (Nat.le_refl _) _
  have HTb : Hid (Tab w) := hT
  clear hr hT
  go_enter Tryd.func5, Tryd.ntmps5
  go_wp2_with fail
  refine (dual_any n a len cap f _ hl K0.row).mono ?_
  rintro e w2 ⟨⟨c, x, hc, rfl, hx⟩, hb⟩
  have K2 := K0.step hb
  have HB2 : Hid (Below w.heap.size w w2) := Below.then HB0.out hb
  clear hb K0 HB0
  by_cases h0 : c = 0
  · subst h0
    obtain ⟨rfl, h10, hrng, hord⟩ := hc.good
    rcases hx with ⟨h, _⟩ | ⟨_, a', cap', rfl, hrow⟩
    · exact absurd rfl h
    have HC : Hid (Chk (len : Int) len f 0) := hc
    obtain ⟨t, HTT⟩ : ∃ t, Hid (t = trn (nat f) len) := ⟨_, rfl⟩
    have HSM : Hid (Sm len len t) := by rw [HTT.out]; exact trn_sm _ _
    have HOR : Hid (Ord len t) := by rw [HTT.out]; exact trn_ord h10 hrng.small hord
    have HFIN : Hid (∀ (wx : World) a9 c9, Row wx a9 (tops t len) (fun j => (lcp t len j : Nat)) → LongPost len len f (.returned (.tuple #[.slice a9 (tops t len) c9, .int .i64 0])) wx) := fun wx a9 c9 h => by
      rw [HTT.out] at h ⊢
      exact ⟨0, HC.out, .inr ⟨rfl, a9, c9, rfl, h⟩⟩
    rw [← HTT.out] at hrow
    have bW := (Below.refl w2.heap.size w2).alloc (Nat.le_refl _) (.cells #[.int .i64 (len : Int), .slice a' len cap'] 24)
    obtain ⟨X0, HX0⟩ : ∃ X0, Hid (X0 = w2.alloc (.cells #[.int .i64 (len : Int), .slice a' len cap'] 24)) := ⟨_, rfl⟩
    have HXK : Hid (Held X0 w.heap.size len a len cap f) := by rw [HX0.out]; exact K2.step bW
    have HXB : Hid (Held X0 w2.heap.size len a' len cap' (fun k => ((t k : Nat) : Int))) := by rw [HX0.out]; exact Held.box hrow
    have HXW : Hid (Below w.heap.size w X0) := by rw [HX0.out]; exact Below.then HB2.out bW
    have HOK : Hid (∀ j, j < tops t len → LcOk t len j) := lc_ok h10 HSM.out HOR.out
    have hTl : tops t len ≤ len := tops_len h10 HSM.out HOR.out
    clear hc hrng hord hrow bW K2 HB2
    go_wp2_with fail
    rw [← HX0.out]
    refine (peelO_any len a' cap' t _ h10 HSM.out HOR.out HXB.out.row).mono ?_
    rintro e w3 ⟨⟨v3, rfl, hv3⟩, hb3⟩
    have hlen : (levs t len).length = tops t len := levs_len t len
    have HLV : Hid (∀ k, k < tops t len → nth (levs t len) k = lvS t len k) := fun k hk => levs_nth t len k hk
    rw [hlen] at hv3
    obtain ⟨T, HTQ⟩ : ∃ T, Hid (T = tops t len) := ⟨_, rfl⟩
    obtain ⟨a3, c3, rfl, _⟩ : ∃ a3 c3, v3 = .slice a3 T c3 ∧ True := by
      obtain ⟨a3, c3, e3, _⟩ := owns_nats (l := levs t len) (by rw [hlen]; exact hv3)
      exact ⟨a3, c3, by rw [e3, hlen, HTQ.out], trivial⟩
    rw [← HTQ.out] at hv3 HLV hTl HOK
    have HB3 : Hid (Below X0.heap.size X0 w3) := hb3
    have HREV : Hid (Calls Tryd.prog 18 #[.slice a3 T c3] w3 fun e w' => (∃ v, e = .returned v) ∧ Row w' a3 T (fun k => (lvS t len (T - 1 - k) : Nat)) ∧ Below X0.heap.size X0 w') := by
      rcases Nat.eq_zero_or_pos T with hz | hz
      · subst hz
        exact (reverse_nil a3 c3 w3).mono fun e w' ⟨h1, h2⟩ => ⟨h1, fun k hk => absurd hk (Nat.not_lt_zero _), by rw [← h2]; exact HB3.out⟩
      · obtain ⟨b6, c6, e6⟩ := owns_form hv3 hz
        simp only [Value.slice.injEq] at e6
        obtain ⟨rfl, _, rfl⟩ := e6
        have hO := own_of (by rw [hlen, HTQ.out]) hv3
        have hbk : X0.heap.size ≤ b6 := by have := owns_block hv3 b6 rfl; omega
        refine (reverse_any b6 T c3 (nth (levs t len)) X0.heap.size X0 w3 (by omega) hO HB3.out hbk).mono fun e w' ⟨h1, h2, h3⟩ => ⟨h1, ?_, h3⟩
        have h4 : Own w' b6 T (fun k => lvS t len (T - 1 - k)) := h2.congr (fun i hi => HLV.out _ (by omega))
        exact h4.row
    clear hv3 hb3 HLV hlen
    go_wp2_with fail
    refine HREV.out.mono ?_
    rintro e w4 ⟨⟨v4, rfl⟩, hr4, hb4⟩
    have HR4 : Hid (Row w4 a3 T (fun k => (lvS t len (T - 1 - k) : Nat))) := hr4
    have HB4 : Hid (Below X0.heap.size X0 w4) := hb4
    have K4 := HXK.out.step hb4
    have d0 := K4.c0
    clear hr4 hb4 HREV HB3
    obtain ⟨i0, hi, hz0, hz1, hz2⟩ := info_parts Tryd.info3
    have hall : ((pw len : Nat) : Int) - 1 = ((pw len - 1 : Nat) : Int) := by have := pw_pos len; omega
    have hpn := pw_le len h10
    go_wp2_with (first | (go_at_call 19; refine (all_any len _ h10).mono ?_; rintro e w' ⟨rfl, rfl⟩) | (at_make; refine wpList_make_own _ rfl _ _ 22 rfl w4.heap.size 3 i0 (.int .i64 0) 1 Tryd.underlying22 hi hz0 hz1 .i64 .i64 _ T rfl rfl rfl (by rw [hz2]; omega) (by unfold maxLen; omega) (Nat.le_refl _) ?_; intro w5 hown5 hgrow5; have y0 := (K4.step ((Below.refl _ _).grown hgrow5 (Nat.le_refl _) (by simp))).c0))
    try rw [hall]
    have HB5 : Hid (Below w4.heap.size w4 w5) := (Below.refl _ _).grown hgrow5 (Nat.le_refl _) (by simp)
    obtain ⟨P, HP⟩ : ∃ P, Hid (P = lcp t len) := ⟨_, rfl⟩
    have HO5 : Hid (w5.ownsRow w4.heap.size 3 1 (.slice (some ⟨w4.heap.size, 0, none⟩) 0 T) 0 (rowVals P 0)) := hown5
    have HX4 : Hid (Held w4 w2.heap.size len a' len cap' (fun k => ((t k : Nat) : Int))) := HXB.out.step HB4.out
    have HTA : Hid (∀ w', Below w4.heap.size w4 w' → Tab w') := fun w' h => HTb.out.step (Below.then HXW.out (Below.then HB4.out h))
    have HTS : Hid (∀ k, k < len → t k < 1024) := fun k hk => Nat.lt_of_lt_of_le (HSM.out k hk) hpn
    have HLS : Hid (∀ h, lvS t len h < 1024) := fun h => Nat.lt_of_lt_of_le (lvS_lt t len h) hpn
    have HXS : Hid (∀ j, j ≤ T → lcx t len T j < 1024) := fun j hj => by
      cases j with
      | zero => exact Nat.lt_of_lt_of_le (show pw len - 1 < pw len by have := pw_pos len; omega) hpn
      | succ q => rw [HTQ.out, lcx_succ]; exact HTS.out _ ((HOK.out q (by omega)).lt)
    clear hown5 hgrow5 d0 K4 y0 HXK
    go_loopw [7, 8, 32] (fun v z x wx => ∃ j : Nat, j ≤ T ∧ x = .int .i64 j ∧ z = .int .i64 (lcx t len T j : Nat) ∧ Hid (wx.ownsRow w4.heap.size 3 1 v j (rowVals P j)) ∧ Hid (Below w4.heap.size w4 wx)) (fun _ _ x _ => T - (intOf x).toNat)
    case atStart => exact ⟨0, Nat.zero_le _, rfl, rfl, HO5.out, HB5.out⟩
    case round =>
      clear HO5 HB5
      obtain ⟨j, hj, rfl, rfl, hown, hB⟩ := hrel
      by_cases hjT : j < T
      · obtain ⟨b1, o1, rfl, hcc⟩ := (HR4.out.below hB.out).at hjT
        have hck := hcc j hjT
        have hjT' : (j : Int) < (T : Int) := by omega
        have ok := HOK.out j hjT
        have hsome : lvS t len (T - 1 - j) &&& lcx t len T j ≠ 0 := by have := ok.some; rw [← HTQ.out] at this; exact this
        have hsmall : lvS t len (T - 1 - j) &&& lcx t len T j < 1024 := by have := ok.small; rw [← HTQ.out] at this; exact this
        have hPl : P j < len := by rw [HP.out]; exact ok.lt
        have HPJ : Hid (lo (lvS t len (T - 1 - j) &&& lcx t len T j) = P j) := by rw [HP.out, lcp, ← HTQ.out]; exact rfl
        have HNX : Hid (lcx t len T (j + 1) = t (P j)) := by rw [HTQ.out, lcx_succ, HP.out]; exact rfl
        have HPE : Hid (rowVals P (j + 1) = rowVals P j ++ [.int .i64 (P j : Nat)]) := rowVals_succ P j
        have hl1 := HLS.out (T - 1 - j)
        have hl2 := HXS.out j hj
        have hand := i64_and (lvS t len (T - 1 - j)) (lcx t len T j) (by omega) (by omega)
        have hTab := HTA.out wr hB.out
        have hown2 := hown.out
        have hsz := hB.out.size
        have hPc : Hid (∀ w', Below w4.heap.size w4 w' → w'.cell? ⟨w2.heap.size, 1, none⟩ = some (.slice a' len cap') ∧ ∃ b2 o2, a' = some ⟨b2, o2, none⟩ ∧ w'.cell? ⟨b2, o2 + P j, none⟩ = some (.int .i64 ((t (P j) : Nat)))) := fun w' h => by
          have hh := HX4.out.step h
          obtain ⟨b2, o2, e2, hc2⟩ := hh.row (P j) hPl
          exact ⟨hh.c1, b2, o2, e2, hc2⟩
        have hPl' : (P j : Int) < (len : Int) := by omega
        clear hcc ok hown
        generalize lvS t len (T - 1 - j) = A1 at *
        generalize lcx t len T j = A2 at *
        have hbt : 1 < wr.heap.size := World.block_lt_of_cell? _ _ (hTab 0 (by omega))
        go_wp2_with (first | (go_at_call 20; refine (first_any (A1 &&& A2) _ hsmall hsome hTab).mono ?_; rintro e w' ⟨rfl, rfl⟩; rw [HPJ.out]) | (at_builtin; refine wpList_append_own _ rfl _ _ 22 rfl w4.heap.size 3 i0 (.int .i64 0) 1 8 Tryd.underlying22 hi hz0 hz1 hz2 rfl (by decide) _ _ _ rfl (hown2.alloc _) ⟨wr.heap.size, 0, none⟩ 1 1 [.int .i64 (P j : Nat)] rfl rfl ?c1 ?c2 ?c3 ?c4 ?c5 ?_))
        case c1 =>
          intro q u hq
          match q, hq with
          | 0, hq => simp at hq; subst hq; simp [Addr.add]
        case c2 => intro u hu; simp at hu; subst hu; rfl
        case c3 => unfold maxLen; omega
        case c4 => omega
        case c5 => simp; omega
        intro v' w6 hown' hgrow _
        have HB6 : Hid (Below w4.heap.size w4 w6) := below_append3 hB.out hown2 hgrow
        have HO6 : Hid (w6.ownsRow w4.heap.size 3 1 v' (j + 1) (rowVals P (j + 1))) := by rw [HPE.out]; exact hown'
        obtain ⟨e1, b2, o2, rfl, e2⟩ := hPc.out w6 HB6.out
        clear hown' hgrow hown2 hB hsz hTab hPc hck
        go_wp2_with fail
        go_roundw
        case rel => exact ⟨j + 1, by omega, by go_num, by rw [HNX.out], HO6.out, HB6.out⟩
        case measure => simp [intOf]; omega
      · have hjn : j = T := by omega
        subst hjn
        obtain ⟨a9, c9, rfl, hr9⟩ := owns_row hown.out
        have HZ : Hid (LongPost len len f (.returned (.tuple #[.slice a9 j c9, .int .i64 0])) wr) := by
          have h := HFIN.out wr a9 c9 (by rw [← HTQ.out, ← HP.out]; exact hr9)
          rw [← HTQ.out] at h; exact h
        have hge : (j : Int) ≤ (j : Int) := by omega
        clear hown hr9
        generalize lcx t len j j = A2 at *
        go_wp2_with fail
        go_ret2
        exact ⟨HZ.out, Below.then HXW.out (Below.then HB4.out hB.out)⟩
  · have hne : (c != 0) = true := by simpa using h0
    rcases hx with ⟨_, rfl⟩ | ⟨h, _⟩
    · have HC : Hid (Chk n len f c) := hc
      clear hc K2
      unfold noOrder
      go_wp2_with fail
      go_ret2
      exact ⟨⟨c, HC.out, .inl ⟨h0, rfl⟩⟩, HB2.out.alloc HB2.out.size _⟩
    · exact absurd h h0
end Go.Proofs.YtpagbjblibckoaaDoor
