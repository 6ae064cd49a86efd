/-
  What chain.follow and chain.Parts answer. Conditions: the library's table lies in its variable; a slice reads as a slice of numbers.
-/
import Derived.Test.YtadocffdneiaaaaDoorPartsM
import Derived.Test.YtadocffdneiaaaaDoorKin
import Derived.Test.YtadocffdneiaaaaDoorMDef
namespace Go.Proofs.YtadocffdneiaaaaDoor
open Go.RowKit

set_option maxHeartbeats 1000000 in
theorem follow_any (n : Nat) (a : Option Addr) (cap : Nat) (g : Nat → Nat) (G : Nat → Int) (p : Nat) (w : World) (hn : n ≤ 10) (hg : Sm n n g) (ho : Ord n g) (hG : Nxt g n G) (hp : p < n) (hr : Row w a n G) :
    Calls Tryd.prog 19 #[.slice a n cap, .int .i64 (p : Nat)] w fun e w' => (∃ v, e = .returned v ∧ w'.ownsRow w.heap.size 3 1 v (fl g n G p).length (natVals (fl g n G p))) ∧ Below w.heap.size w w' := by
  obtain ⟨i0, hi, hz0, hz1, hz2⟩ := info_parts Tryd.info3
  have HR : Hid (Row w a n G) := hr
  have HG : Hid (Nxt g n G) := hG
  have HS : Hid (Sm n n g) := hg
  have HO : Hid (Ord n g) := ho
  have HLL : Hid (∀ q, (fl g n G q).length ≤ 1024) := fun q => fl_len hn G q
  clear hr hG hg ho
  obtain ⟨P, HP⟩ : ∃ P, Hid (P = fl g n G p) := ⟨_, rfl⟩
  have HPL : Hid (P.length ≤ 1024) := by rw [HP.out]; exact HLL.out p
  rw [← HP.out]
  go_enter Tryd.func19, Tryd.ntmps19
  go_wp2_with fail
  go_loopw [5, 6] (fun v x wx => ∃ L : List Nat, Hid (wx.ownsRow w.heap.size 3 1 v L.length (natVals L)) ∧ Hid (Below w.heap.size w wx) ∧ ((x = .int .i64 (-1) ∧ Hid (P = L)) ∨ ∃ q : Nat, q < n ∧ x = .int .i64 (q : Nat) ∧ Hid (P = L ++ fl g n G q))) (fun _ x _ => if intOf x < 0 then 0 else pw n - g (intOf x).toNat)
  case atStart => exact ⟨[], World.ownsRow_nil _ _ _ _, Below.refl _ _, .inr ⟨p, hp, rfl, by rw [HP.out]; exact rfl⟩⟩
  case round =>
    obtain ⟨L, hown, hB, hx⟩ := hrel
    rcases hx with ⟨rfl, hPL⟩ | ⟨q, hq, rfl, hPL⟩
    · have HF : Hid (wr.ownsRow w.heap.size 3 1 u5 P.length (natVals P)) := by rw [hPL.out]; exact hown.out
      clear hown hPL
      go_wp2_with fail
      go_ret
      exact ⟨⟨_, rfl, HF.out⟩, hB.out⟩
    · obtain ⟨b, off, rfl, hcc⟩ := (HR.out.below hB.out).at hq
      have hck := hcc q hq
      have hq' : (q : Int) < (n : Int) := by omega
      have hgq := HS.out q hq
      have hown2 := hown.out
      have hsz := hB.out.size
      have hLL : L.length ≤ 1024 := by
        have h1 := HPL.out
        have h2 := congrArg List.length hPL.out
        rw [List.length_append] at h2
        omega
      have HCK : Hid (∀ w', Below w.heap.size w w' → w'.cell? ⟨b, off + q, none⟩ = some (.int .i64 (G q))) := fun w' h => by
        obtain ⟨b', o', e, hc⟩ := (HR.out.below h) q hq
        simp only [Option.some.injEq, Addr.mk.injEq] at e
        obtain ⟨rfl, rfl, _⟩ := e
        exact hc
      clear hcc hck hown
      have hnx : (G q = -1 ∧ P = L ++ [q]) ∨ ∃ j : Nat, j < n ∧ G q = (j : Nat) ∧ g q < g j ∧ P = (L ++ [q]) ++ fl g n G j := by
        rcases HG.out.up q hq with h | ⟨j, hj, he, hb⟩
        · exact .inl ⟨h, by rw [hPL.out, fl_end HS.out hq h]⟩
        · exact .inr ⟨j, hj, he, up_lt hn HS.out HO.out hq hj hb, by rw [hPL.out, fl_next hn HS.out HO.out HG.out hq hj he hb]; simp⟩
      rcases hnx with ⟨hGe, hPe⟩ | ⟨j, hj, hGe, hgl, hPe⟩
      · have HPE : Hid (P = L ++ [q]) := hPe
        rw [hGe] at HCK
        clear hPe hGe hPL
        go_wp2_with (at_builtin; refine wpList_append_own _ rfl _ _ 22 rfl w.heap.size 3 i0 (.int .i64 0) 1 8 Tryd.underlying22 hi hz0 hz1 hz2 rfl (by decide) _ _ _ rfl (hown2.alloc _) ⟨wr.heap.size, 0, none⟩ 1 1 [.int .i64 (q : Nat)] rfl rfl ?c1 ?c2 ?c3 ?c4 ?c5 ?_)
        case c1 =>
          intro j u hj
          match j, hj with
          | 0, hj => simp at hj; subst hj; simp [Addr.add]
        case c2 => intro u hu; simp at hu; subst hu; rfl
        case c3 => unfold maxLen; omega
        case c4 => omega
        case c5 => simp; omega
        intro v' w2 hown' hgrow _
        have HB2 : Hid (Below w.heap.size w w2) := below_append3 hB.out hown2 hgrow
        have HO2 : Hid (w2.ownsRow w.heap.size 3 1 v' (L ++ [q]).length (natVals (L ++ [q]))) := by
          rw [natVals_append, List.length_append]; exact hown'
        have hck := HCK.out w2 HB2.out
        clear hown' hgrow hown2 hB
        go_wp2_with fail
        go_roundw
        case rel => exact ⟨L ++ [q], HO2.out, HB2.out, .inl ⟨rfl, HPE.out⟩⟩
        case measure =>
          have h0 : ¬ ((q : Int) < 0) := by omega
          simp [intOf, h0]; omega
      · have HPE : Hid (P = (L ++ [q]) ++ fl g n G j) := hPe
        rw [hGe] at HCK
        clear hPe hGe hPL
        go_wp2_with (at_builtin; refine wpList_append_own _ rfl _ _ 22 rfl w.heap.size 3 i0 (.int .i64 0) 1 8 Tryd.underlying22 hi hz0 hz1 hz2 rfl (by decide) _ _ _ rfl (hown2.alloc _) ⟨wr.heap.size, 0, none⟩ 1 1 [.int .i64 (q : Nat)] rfl rfl ?c1 ?c2 ?c3 ?c4 ?c5 ?_)
        case c1 =>
          intro j u hj
          match j, hj with
          | 0, hj => simp at hj; subst hj; simp [Addr.add]
        case c2 => intro u hu; simp at hu; subst hu; rfl
        case c3 => unfold maxLen; omega
        case c4 => omega
        case c5 => simp; omega
        intro v' w2 hown' hgrow _
        have HB2 : Hid (Below w.heap.size w w2) := below_append3 hB.out hown2 hgrow
        have HO2 : Hid (w2.ownsRow w.heap.size 3 1 v' (L ++ [q]).length (natVals (L ++ [q]))) := by
          rw [natVals_append, List.length_append]; exact hown'
        have hck := HCK.out w2 HB2.out
        clear hown' hgrow hown2 hB
        go_wp2_with fail
        go_roundw
        case rel => exact ⟨L ++ [q], HO2.out, HB2.out, .inr ⟨j, hj, rfl, HPE.out⟩⟩
        case measure =>
          have h0 : ¬ ((q : Int) < 0) := by omega
          have h1 : ¬ ((j : Int) < 0) := by omega
          simp [intOf, h0, h1]; omega
theorem Tryd.info22 : (Tryd.prog.info? 22).map (fun i => (i.zero, i.size, i.bytes)) = some (some (.slice none 0 0), 1, 24) := by kernel_rfl
/-- Rows of numbers and rows of slices lie apart. -/
theorem own_apart {w : World} {b1 b2 s1 s2 n k : Nat} {v cv : Value} {xs ys : List Value} (h : w.ownsRow b1 3 s1 v n xs) (h' : w.ownsRow b2 22 s2 cv k ys) : v.ownBlock = none ∨ v.ownBlock ≠ cv.ownBlock := by
  rcases h.2 with ⟨rfl, _⟩ | ⟨g, cap, cur, rfl, _, hg, _⟩
  · exact .inl rfl
  · refine .inr ?_
    rcases h'.2 with ⟨rfl, _⟩ | ⟨g', cap', cur', rfl, _, hg', _⟩
    · simp [Value.ownBlock]
    · intro e
      simp only [Value.ownBlock, Option.some.injEq] at e
      subst e
      rw [hg] at hg'
      simp at hg'
/-- The first k of the chains, each a slice of numbers of its own. -/
def ChI (wx : World) (base : Nat) (cv : Value) (k : Nat) (LL : Nat → List Nat) : Prop :=
  ∃ vals : List Value, vals.length = k ∧ wx.ownsRow base 22 1 cv k vals ∧ ∀ j, j < k → ∃ v, vals[j]? = some v ∧ wx.ownsRow base 3 1 v (LL j).length (natVals (LL j))
theorem ChI.step {w w' : World} {base : Nat} {cv : Value} {k : Nat} {LL : Nat → List Nat} (h : ChI w base cv k LL) (hb : Below w.heap.size w w') : ChI w' base cv k LL := by
  obtain ⟨vals, h1, h2, h3⟩ := h
  refine ⟨vals, h1, owns_below h2 hb, fun j hj => ?_⟩
  obtain ⟨v, h4, h5⟩ := h3 j hj
  exact ⟨v, h4, owns_below h5 hb⟩
theorem ChI.put {w w' : World} {base b0 : Nat} {cv cv' v : Value} {k : Nat} {LL : Nat → List Nat} {vals : List Value} (h1 : vals.length = k) (h2 : w.ownsRow base 22 1 cv k vals) (h3 : ∀ j, j < k → ∃ v, vals[j]? = some v ∧ w.ownsRow base 3 1 v (LL j).length (natVals (LL j)))
    (hv : w.ownsRow b0 3 1 v (LL k).length (natVals (LL k))) (hb : base ≤ b0) (h4 : w'.ownsRow base 22 1 cv' (k + 1) (vals ++ [v])) (hg : w.grownBy w' cv.ownBlock) : ChI w' base cv' (k + 1) LL := by
  have hv2 : w.ownsRow base 3 1 v (LL k).length (natVals (LL k)) := ⟨hv.1, by
    rcases hv.2 with h | ⟨g, cap, cur, a1, a2, a3⟩
    · exact .inl h
    · exact .inr ⟨g, cap, cur, a1, by omega, a3⟩⟩
  refine ⟨vals ++ [v], by simp [h1], h4, fun j hj => ?_⟩
  rcases Nat.lt_or_ge j k with h | h
  · obtain ⟨v', h5, h6⟩ := h3 j h
    refine ⟨v', ?_, h6.kept hg (own_apart h6 h2)⟩
    rw [List.getElem?_append_left (by omega)]; exact h5
  · have hjk : j = k := by omega
    subst hjk
    refine ⟨v, ?_, hv2.kept hg (own_apart hv2 h2)⟩
    rw [List.getElem?_append_right (by omega), h1]; simp
/-- A value that is a slice of slices of numbers. -/
def LSl (w : World) (v : Value) (m : Nat) (LL : Nat → List Nat) : Prop :=
  ∃ a cap, v = .slice a m cap ∧ ∀ k, k < m → ∃ b off, a = some ⟨b, off, none⟩ ∧ ∃ v', w.cell? ⟨b, off + k, none⟩ = some v' ∧ NSl w v' (LL k)
theorem ChI.lists {w : World} {base : Nat} {cv : Value} {k : Nat} {LL : Nat → List Nat} (h : ChI w base cv k LL) : LSl w cv k LL := by
  obtain ⟨vals, h1, h2, h3⟩ := h
  by_cases hk : 0 < k
  · obtain ⟨g, cap, rfl⟩ := owns_form h2 hk
    refine ⟨_, cap, rfl, fun j hj => ⟨g, 0, rfl, ?_⟩⟩
    obtain ⟨v, h4, h5⟩ := h3 j hj
    exact ⟨v, by rw [Nat.zero_add, h2.cellAt _ (by omega)]; exact h4, owns_nats h5⟩
  · have h0 : k = 0 := by omega
    subst h0
    rcases h2.2 with ⟨rfl, _⟩ | ⟨g, cap, cur, rfl, _⟩
    · exact ⟨none, 0, rfl, fun j hj => absurd hj (Nat.not_lt_zero _)⟩
    · exact ⟨_, cap, rfl, fun j hj => absurd hj (Nat.not_lt_zero _)⟩
theorem LSl.below {w w' : World} {v : Value} {m : Nat} {LL : Nat → List Nat} (h : LSl w v m LL) (hb : Below w.heap.size w w') : LSl w' v m LL := by
  obtain ⟨a, cap, rfl, hr⟩ := h
  refine ⟨a, cap, rfl, fun k hk => ?_⟩
  obtain ⟨b, off, rfl, v', hc, a2, cap2, rfl, hr2⟩ := hr k hk
  exact ⟨b, off, rfl, _, (hb.cell (World.block_lt_of_cell? _ _ hc)).trans hc, a2, cap2, rfl, hr2.below hb⟩
/-- The firsts of the chains, rising; the chain of each. -/
def chs (g : Nat → Nat) (n : Nat) (G : Nat → Int) (k : Nat) : List Nat := fl g n G (nth (pts (fr n G n) 10) k)
def PartsPost (n : Int) (len : Nat) (f : Nat → Int) (e : Ending) (w' : World) : Prop :=
  ∃ c : Int, Chk n len f c ∧ ((c ≠ 0 ∧ e = .returned (.tuple #[.slice none 0 0, .int .i64 c])) ∨
    (c = 0 ∧ ∃ v G, e = .returned (.tuple #[v, .int .i64 0]) ∧ Nxt (nat f) len G ∧ LSl w' v (pts (fr len G len) 10).length (chs (nat f) len G) ∧ (pts (fr len G len) 10).length = pc (wid (nat f) len (pw len))))
theorem gchk_dual {g : Nat → Nat} {n : Nat} (hn : n ≤ 10) : GChk (n : Int) (n : Int) n (fun k => ((trn g n k : Nat) : Int)) 0 := by
  refine .inr ⟨n, n, rfl, rfl, hn, hn, .inr ⟨rfl, .inr ⟨rfl, fun k hk => ⟨Int.natCast_nonneg _, Int.ofNat_lt.2 (trn_sm g n k hk)⟩⟩⟩⟩
theorem natC (P : Nat → Nat) : nat (fun j => ((P j : Nat) : Int)) = P := by funext j; simp [nat]
theorem nth_mem {l : List Nat} {k : Nat} (h : k < l.length) : nth l k ∈ l := by simp [nth, h]

set_option maxHeartbeats 2000000 in
theorem parts_any (n : Int) (a : Option Addr) (len cap : Nat) (f : Nat → Int) (w : World) (hl : len ≤ maxLen) (hr : Row w a len f) (hT : Tab w) :
    Calls Tryd.prog 8 #[.agg #[.int .i64 n, .slice a len cap]] w fun e w' => PartsPost n len f e w' ∧ Below w.heap.size w w' := by
  have K0 : Held (w.alloc (.cells #[.int .i64 n, .slice a len cap] 24)) w.heap.size n a len cap f := Held.box hr
  have HB0 : Hid (Below w.heap.size w (w.alloc (.cells #[.int .i64 n, .slice a len cap] 24))) := (Below.refl _ _).alloc (Nat.le_refl _) _
  have HT : Hid (Tab w) := hT
  clear hr hT
  go_enter Tryd.func8, Tryd.ntmps8
  go_wp2_with fail
  refine (dual_any n a len cap f _ hl K0.row).mono ?_
  rintro e w2 ⟨⟨c, x, hc, rfl, hx⟩, hb⟩
  have K2 := K0.step hb
  have HB2 : Hid (Below w.heap.size w w2) := Below.then HB0.out hb
  clear hb K0 HB0
  by_cases h0 : c = 0
  · subst h0
    obtain ⟨rfl, h10, hrng, hord⟩ := hc.good
    rcases hx with ⟨h, _⟩ | ⟨_, a', cap', rfl, hrow⟩
    · exact absurd rfl h
    have HC : Hid (Chk (len : Int) len f 0) := hc
    obtain ⟨g, HGF⟩ : ∃ g, Hid (g = nat f) := ⟨_, rfl⟩
    have HSM : Hid (Sm len len g) := by rw [HGF.out]; exact hrng.small
    have HOR : Hid (Ord len g) := by rw [HGF.out]; exact hord
    have HFIN : Hid (∀ (wx : World) v G, Nxt g len G → LSl wx v (pts (fr len G len) 10).length (chs g len G) → (pts (fr len G len) 10).length = pc (wid g len (pw len)) → PartsPost len len f (.returned (.tuple #[v, .int .i64 0])) wx) := fun wx v G h1 h2 h3 => by
      rw [HGF.out] at h1 h2 h3
      exact ⟨0, HC.out, .inr ⟨rfl, v, G, rfl, h1, h2, h3⟩⟩
    rw [← HGF.out] at hrow
    have bW := (Below.refl w2.heap.size w2).alloc (Nat.le_refl _) (.cells #[.int .i64 (len : Int), .slice a' len cap'] 24)
    have KA := K2.step bW
    have HRA : Hid (Row (w2.alloc (.cells #[.int .i64 (len : Int), .slice a' len cap'] 24)) a' len (fun k => ((trn g len k : Nat) : Int))) := hrow.below bW
    have HBA : Hid (Below w.heap.size w (w2.alloc (.cells #[.int .i64 (len : Int), .slice a' len cap'] 24))) := Below.then HB2.out bW
    clear hc hrng hord hrow bW K2 HB2 HGF
    have k0 := KA.c0
    have HKA : Hid (Held (w2.alloc (.cells #[.int .i64 (len : Int), .slice a' len cap'] 24)) w.heap.size len a len cap f) := KA
    clear KA
    go_wp2_with fail
    refine (best2_any len len a' len cap' (fun k => ((trn g len k : Nat) : Int)) _ hl HRA.out).mono ?_
    rintro e w3 ⟨⟨c, v, hc, rfl, he⟩, hb⟩
    obtain rfl := hc.unique (gchk_dual (g := g) h10)
    rcases he with ⟨h, _⟩ | ⟨_, b, G, rfl, hrG, hM⟩
    · exact absurd rfl h
    rw [natC, Int.toNat_natCast] at hM
    have K3 := HKA.out.step hb
    have HB3 : Hid (Below w.heap.size w w3) := Below.then HBA.out hb
    have HRG : Hid (Row w3 (some ⟨b, 0, none⟩) len G) := hrG
    have HNX : Hid (Nxt g len G) := nxt_of hM.ok
    have HCN : Hid (pc (fr len G len) = pc (wid g len (pw len))) := by
      have e1 := fr_count h10 HNX.out
      have e2 := hM.count h10 h10 (trn_sm g len)
      rw [dil h10 HSM.out HOR.out] at e2
      have : pc (fr len G len) = pc (wid g len (pw len)) := by omega
      exact this
    clear hb hc hrG hM k0 HKA HRA HBA
    have k0 := K3.c0
    have hpn := pw_le len h10
    have hpp := pw_pos len
    have hall : ((pw len : Nat) : Int) - 1 = ((pw len - 1 : Nat) : Int) := by omega
    go_wp2_with (go_at_call 17; refine (all_any len _ h10).mono ?_; rintro e w' ⟨rfl, rfl⟩)
    try rw [hall]
    clear k0 K3
    go_loopw [7, 40] (fun z x wx => ∃ k : Nat, k ≤ len ∧ x = .int .i64 k ∧ z = .int .i64 (fr len G k : Nat) ∧ Hid (Below w3.heap.size w3 wx)) (fun _ x _ => len - (intOf x).toNat)
    case atStart => exact ⟨0, Nat.zero_le _, rfl, by rw [fr_zero], Below.refl _ _⟩
    case round =>
      obtain ⟨k, hk, rfl, rfl, hB⟩ := hrel
      have hfl := fr_lt len G k
      by_cases hlt : k < len
      · obtain ⟨b1, o1, he1, hcc⟩ := (HRG.out.below hB.out).at hlt
        simp only [Option.some.injEq, Addr.mk.injEq] at he1
        obtain ⟨rfl, rfl, _⟩ := he1
        have hck := hcc k hlt
        have hlt' : (k : Int) < (len : Int) := by omega
        rw [Nat.zero_add] at hck
        clear hcc
        rcases HNX.out.up k hlt with hG | ⟨q, hq, hG, _⟩
        · have HE : Hid (fr len G (k + 1) = fr len G k) := fr_skip hG
          rw [hG] at hck
          clear hG
          generalize fr len G k = S at *
          go_wp2_with fail
          go_roundw
          case rel => exact ⟨k + 1, by omega, by go_num, by rw [HE.out], hB.out⟩
          case measure => simp [intOf]; omega
        · have HE : Hid (lack (fr len G k) (pw q) = fr len G (k + 1)) := fr_put h10 hG hq
          rw [hG] at hck
          have hps := pw_small q (by omega)
          have hand := i64_andNot (fr len G k) (pw q) (by omega) (by omega)
          have hpw := wrap_pow q (by omega)
          clear hG
          generalize fr len G k = S at *
          go_wp2_with fail
          go_roundw
          case rel => exact ⟨k + 1, by omega, by go_num, by rw [← HE.out], hB.out⟩
          case measure => simp [intOf]; omega
      · have hkn : k = len := by omega
        subst hkn
        generalize wr = Wr at *
        obtain ⟨F, HFF⟩ : ∃ F, Hid (F = fr k G k) := ⟨_, rfl⟩
        rw [← HFF.out] at hfl ⊢
        have hF : F < 1024 := by omega
        have HFL : Hid (F < pw k) := hfl
        have hpc : pc F ≤ 10 := pc_le2 F
        have hT2 : Hid (∀ w', Below w3.heap.size w3 w' → Tab w') := fun w' h => HT.out.step (Below.then HB3.out h)
        obtain ⟨i2, hi2, hy0, hy1, hy2⟩ := info_parts Tryd.info22
        go_wp2_with (first | (go_at_call 13; refine (size_any F _ hF).mono ?_; rintro e w' ⟨rfl, rfl⟩) | (at_make; refine wpList_make_own _ rfl _ _ 32 rfl Wr.heap.size 22 i2 (.slice none 0 0) 1 Tryd.underlying32 hi2 hy0 hy1 .i64 .i64 _ (pc F) rfl rfl rfl (by rw [hy2]; omega) (by unfold maxLen; omega) (Nat.le_refl _) ?_; intro w4 hown4 hgrow4))
        have HB4 : Hid (Below Wr.heap.size Wr w4) := (Below.refl _ _).grown hgrow4 (Nat.le_refl _) (by simp)
        have HO4 : Hid (w4.ownsRow Wr.heap.size 22 1 (.slice (some ⟨Wr.heap.size, 0, none⟩) 0 (pc F)) 0 []) := hown4
        have HBW : Hid (Below w3.heap.size w3 w4) := Below.then hB.out HB4.out
        clear hown4 hgrow4
        refine (members_any F _ hF (hT2.out _ HBW.out)).mono ?_
        rintro e w5 ⟨⟨v5, rfl, hv5⟩, hb5⟩
        obtain ⟨a5, cap5, rfl, hr5⟩ := owns_nats hv5
        have HLN : Hid ((pts F 10).length = pc F) := pts_count F 10
        have HMB : Hid (∀ j, j < (pts F 10).length → nth (pts F 10) j < k) := fun j hj => by
          have := ((pts_mem F 10 _).1 (nth_mem hj)).2
          exact bit_of_lt HFL.out this
        have HRT : Hid (∃ Z, Z = (pts F 10).length) := ⟨_, rfl⟩
        obtain ⟨Z, HZ0⟩ := HRT.out
        have HZ : Hid (Z = (pts F 10).length) := HZ0
        have hZl : Z ≤ 10 := by
          have h1 := HLN.out
          have h2 : pc F ≤ 10 := pc_le2 F
          omega
        rw [← HZ0] at hr5 hv5 HMB ⊢
        clear HZ0 HRT
        obtain ⟨M, HMM⟩ : ∃ M, Hid (M = nth (pts F 10)) := ⟨_, rfl⟩
        have HR5 : Hid (Row w5 a5 Z (fun j => (M j : Nat))) := by rw [HMM.out]; exact hr5
        have HMB2 : Hid (∀ j, j < Z → M j < k) := by rw [HMM.out]; exact HMB.out
        have HQ5 : Hid (w5.ownsRow w4.heap.size 3 1 (.slice a5 Z cap5) Z (natVals (pts F 10))) := hv5
        have HCI : Hid (ChI w5 Wr.heap.size (.slice (some ⟨Wr.heap.size, 0, none⟩) 0 (pc F)) 0 (fun j => fl g k G (M j))) := ⟨[], rfl, owns_below HO4.out hb5, fun j hj => absurd hj (Nat.not_lt_zero _)⟩
        have HB5 : Hid (Below Wr.heap.size Wr w5) := Below.then HB4.out hb5
        have HRG5 : Hid (Row Wr (some ⟨b, 0, none⟩) k G) := HRG.out.below hB.out
        have HWW : Hid (Below w.heap.size w Wr) := Below.then HB3.out hB.out
        have HW4 : Hid (Wr.heap.size ≤ w4.heap.size) := HB4.out.size
        have HEND : Hid (∀ (wx : World) v, ChI wx Wr.heap.size v Z (fun j => fl g k G (M j)) → PartsPost k k f (.returned (.tuple #[v, .int .i64 0])) wx) := fun wx v h => by
          refine HFIN.out wx v G HNX.out ?_ ?_
          · rw [← HFF.out, ← HZ.out]
            have h2 := h.lists
            rw [HMM.out, HFF.out] at h2
            exact h2
          · rw [← HFF.out, HLN.out, HFF.out]; exact HCN.out
        have HRM : Hid (∀ wx : World, wx.ownsRow w4.heap.size 3 1 (.slice a5 Z cap5) Z (natVals (pts F 10)) → Row wx a5 Z (fun j => (M j : Nat))) := fun wx h => by
          rw [HMM.out, HZ.out]
          rw [HZ.out] at h
          obtain ⟨a9, c9, e9, h9⟩ := owns_nats h
          simp only [Value.slice.injEq] at e9
          rw [e9.1]; exact h9
        clear hr5 hv5 hb5 HO4 HB4 HBW HMB hB HRG HFIN HCN HB3 HT hT2 HMM HFF HR5
        go_wp2_with fail
        go_loopw [10, 57] (fun v x wx => ∃ j : Nat, j ≤ Z ∧ x = .int .i64 j ∧ Hid (ChI wx Wr.heap.size v j (fun j => fl g k G (M j))) ∧ Hid (Below Wr.heap.size Wr wx) ∧ Hid (wx.ownsRow w4.heap.size 3 1 (.slice a5 Z cap5) Z (natVals (pts F 10)))) (fun _ x _ => Z - (intOf x).toNat)
        case atStart => exact ⟨0, Nat.zero_le _, rfl, HCI.out, HB5.out, HQ5.out⟩
        case round =>
          clear HCI HB5 HQ5
          obtain ⟨j, hj, rfl, hCI, hB, hQ⟩ := hrel
          by_cases hjz : j < Z
          · have hRG : Row wr (some ⟨b, 0, none⟩) k G := HRG5.out.below hB.out
            have hsz := hB.out.size
            obtain ⟨b6, o6, ea6, hcc⟩ := (HRM.out wr hQ.out).at hjz
            subst ea6
            have hck := hcc j hjz
            have hjz' : (j : Int) < (Z : Int) := by omega
            have hMj := HMB2.out j hjz
            clear hcc
            go_wp2_with fail
            refine (follow_any k (some ⟨b, 0, none⟩) k g G (M j) _ h10 HSM.out HOR.out HNX.out hMj hRG).mono ?_
            rintro e w6 ⟨⟨v6, rfl, hv6⟩, hb6⟩
            obtain ⟨a6, c6, e6, _⟩ := owns_nats hv6
            subst e6
            obtain ⟨l6, HL6⟩ : ∃ l6, Hid (l6 = (fl g k G (M j)).length) := ⟨_, rfl⟩
            rw [← HL6.out] at hv6 ⊢
            have HV6 : Hid (w6.ownsRow wr.heap.size 3 1 (.slice a6 l6 c6) (fl g k G (M j)).length (natVals (fl g k G (M j)))) := by rw [← HL6.out]; exact hv6
            obtain ⟨vals, hvl, hvo, hvi⟩ := hCI.out.step hb6
            have HVI : Hid (∀ i, i < j → ∃ v, vals[i]? = some v ∧ w6.ownsRow Wr.heap.size 3 1 v (fl g k G (M i)).length (natVals (fl g k G (M i)))) := hvi
            have HVO : Hid (w6.ownsRow Wr.heap.size 22 1 u10 j vals) := hvo
            have HQ6 : Hid (w6.ownsRow w4.heap.size 3 1 (.slice (some ⟨b6, o6, none⟩) Z cap5) Z (natVals (pts F 10))) := owns_below hQ.out hb6
            have HB6 : Hid (Below Wr.heap.size Wr w6) := Below.then hB.out hb6
            have hs6 : Wr.heap.size ≤ w6.heap.size := Nat.le_trans hsz hb6.size
            have HSZ : Hid (Wr.heap.size ≤ wr.heap.size) := hsz
            have HS5 : Hid (wr.heap.size ≤ w6.heap.size) := hb6.size
            clear hv6 hb6 hCI hB hQ hRG hvi hck hsz
            go_wp2_with (at_builtin; refine wpList_append_own _ rfl _ _ 32 rfl Wr.heap.size 22 i2 (.slice none 0 0) 1 24 Tryd.underlying32 hi2 hy0 hy1 hy2 rfl (by decide) _ _ _ rfl (hvo.alloc _) ⟨w6.heap.size, 0, none⟩ 1 1 [.slice a6 l6 c6] rfl rfl ?c1 ?c2 ?c3 ?c4 ?c5 ?_)
            case c1 =>
              intro q u hq
              match q, hq with
              | 0, hq => simp at hq; subst hq; simp [Addr.add]
            case c2 => intro u hu; simp at hu; subst hu; rfl
            case c3 => unfold maxLen; omega
            case c4 => omega
            case c5 => simp; omega
            intro v' w7 hown' hgrow _
            have hbA : Below w6.heap.size w6 (w6.alloc (.cells #[.slice a6 l6 c6] 22)) := (Below.refl _ _).alloc (Nat.le_refl _) _
            have HCN : Hid (ChI w7 Wr.heap.size v' (j + 1) (fun j => fl g k G (M j))) := ChI.put hvl (owns_below HVO.out hbA) (fun i hi => by
              obtain ⟨v, h1, h2⟩ := HVI.out i hi
              exact ⟨v, h1, owns_below h2 hbA⟩) (owns_below HV6.out hbA) HSZ.out hown' hgrow
            have hob : ∀ q, u10.ownBlock = some q → Wr.heap.size ≤ q := owns_block HVO.out
            have HB7 : Hid (Below Wr.heap.size Wr w7) := (Below.then HB6.out hbA).grown hgrow (by have := HB6.out.size; simp; omega) hob
            have HQ7 : Hid (w7.ownsRow w4.heap.size 3 1 (.slice (some ⟨b6, o6, none⟩) Z cap5) Z (natVals (pts F 10))) := World.ownsRow.kept (owns_below HQ6.out hbA) hgrow (own_apart (owns_below HQ6.out hbA) (owns_below HVO.out hbA))
            clear hown' hgrow hbA hvo HVI HVO hvl hob
            go_wp2_with fail
            go_roundw
            case rel => exact ⟨j + 1, by omega, by go_num, HCN.out, HB7.out, HQ7.out⟩
            case measure => simp [intOf]; omega
          · have hjn : j = Z := by omega
            subst hjn
            have HZZ : Hid (PartsPost k k f (.returned (.tuple #[u10, .int .i64 0])) wr) := HEND.out wr u10 hCI.out
            have hge : (j : Int) ≤ (j : Int) := by omega
            clear hCI hQ
            go_wp2_with fail
            go_ret2
            exact ⟨HZZ.out, Below.then HWW.out hB.out⟩
  · have hne : (c != 0) = true := by simpa using h0
    rcases hx with ⟨_, rfl⟩ | ⟨h, _⟩
    · have HC : Hid (Chk n len f c) := hc
      clear hc K2
      unfold noOrder
      go_wp2_with fail
      go_ret2
      exact ⟨⟨c, HC.out, .inl ⟨h0, rfl⟩⟩, HB2.out.alloc HB2.out.size _⟩
    · exact absurd h h0
end Go.Proofs.YtadocffdneiaaaaDoor
