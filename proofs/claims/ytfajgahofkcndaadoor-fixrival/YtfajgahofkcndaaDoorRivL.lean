/-
  hasselaw.FixRival returns true for every order and list. Conditions: slices read as slices of numbers; the library's table lies in its variable.
-/
import Derived.Test.YtfajgahofkcndaaDoorAlwR
namespace Go.Proofs.YtfajgahofkcndaaDoor
open Go.RowKit

theorem refSize_any (s : Nat) (w : World) (hs : s < 1024) :
    Calls Tryd.prog 7 #[.int .i64 s] w fun e w' => e = .returned (.int .i64 (pc s : Nat)) ∧ w = w' := by
  go_enter Tryd.func7, Tryd.ntmps7
  go_wp2
  go_loop [0, 3] (fun t x => ∃ k : Nat, k ≤ 10 ∧ t = .int .i64 (hv s k : Nat) ∧ x = .int .i64 (pcn s k : Nat)) (fun t _ => (intOf t).toNat)
  case atStart => exact ⟨0, Nat.zero_le _, by rw [hv_zero], rfl⟩
  case round =>
    obtain ⟨k, hk, rfl, rfl⟩ := hrel
    have hl := hv_le s k
    have hp := pcn_le s k
    by_cases hz : hv s k = 0
    · have HE : Hid (pc s = pcn s k) := by
        have e := pcn_stop (hv_zero_bits hz) (10 - k)
        rw [show k + (10 - k) = 10 by omega] at e
        exact e
      have hz' : ((hv s k : Nat) : Int) ≤ 0 := by omega
      clear hz
      generalize hv s k = V at *
      go_wp2
      go_ret
      exact ⟨ret_int (congrArg Int.ofNat HE.out.symm), rfl⟩
    · have hpos : (0 : Int) < ((hv s k : Nat) : Int) := by omega
      have hk10 : k < 10 := by
        rcases Nat.lt_or_ge k 10 with h1 | h1
        · exact h1
        · exact absurd (hv_big hs h1) hz
      have HS : Hid (hv s (k + 1) = hv s k / 2) := hv_succ s k
      have HP : Hid (pcn s (k + 1) = pcn s k + hv s k % 2) := pcn_step s k
      generalize hv s k = V at *
      generalize pcn s k = P at *
      go_wp2
      go_round
      case rel => exact ⟨k + 1, by omega, by rw [HS.out]; simp, by rw [HP.out]; go_num⟩
      case measure => simp [intOf]; omega
theorem cmp_good {P Q : Nat → Nat → Bool} {nb : Nat} : ∀ (d : Nat) (p x : List Nat), x ∈ cmp P Q nb d p → (monB P Q p = true → monB P Q x = true) ∧ ((∀ i, i < p.length → nth p i < nb) → ∀ i, i < x.length → nth x i < nb)
  | 0, p, x, h => by
    simp [cmp] at h
    subst h
    exact ⟨id, id⟩
  | d + 1, p, x, h => by
    rw [cmp, List.mem_flatMap] at h
    obtain ⟨y, hy, hx⟩ := h
    by_cases hm : monB P Q (p ++ [y]) = true
    · rw [if_pos hm] at hx
      obtain ⟨a, b⟩ := cmp_good d _ x hx
      refine ⟨fun _ => a hm, fun hp => b fun i hi => ?_⟩
      by_cases e : i < p.length
      · rw [nth_snoc_old e]; exact hp i e
      · obtain rfl : i = p.length := by simp at hi; omega
        rw [nth_snoc_new]; exact List.mem_range.1 hy
    · rw [if_neg hm] at hx; cases hx
theorem nth_take {l : List Nat} {k i : Nat} (h : i < k) : nth (l.take k) i = nth l i := by
  unfold nth
  rw [List.getD_eq_getElem?_getD, List.getD_eq_getElem?_getD, List.getElem?_take, if_pos h]
theorem monB_take {P Q : Nat → Nat → Bool} {l : List Nat} (h : monB P Q l = true) (k : Nat) : monB P Q (l.take k) = true := by
  rw [monB_iff] at *
  intro y hy x hx hp
  rw [List.length_take] at hy hx
  rw [nth_take (by omega), nth_take (by omega)]
  exact h y (by omega) x (by omega) hp
theorem cmp_all {P Q : Nat → Nat → Bool} {nb : Nat} (l : List Nat) (hm : monB P Q l = true) (hv : ∀ i, i < l.length → nth l i < nb) : ∀ d k, k + d = l.length → l ∈ cmp P Q nb d (l.take k)
  | 0, k, h => by rw [cmp, List.take_of_length_le (by omega)]; simp
  | d + 1, k, h => by
    have e : l.take k ++ [nth l k] = l.take (k + 1) := by
      have hk : k < l.length := by omega
      rw [List.take_add_one, List.getElem?_eq_getElem hk]
      unfold nth
      rw [List.getD_eq_getElem?_getD, List.getElem?_eq_getElem hk]
      rfl
    refine cmpTo_mem (k := nth l k) (hv k (by omega)) ?_ ?_
    · rw [e]; exact monB_take hm (k + 1)
    · rw [e]; exact cmp_all l hm hv d (k + 1) (by omega)
/-- What is left of an order. -/
def coreM (A : OA) : Nat := core A.g (trn A.g A.q) A.q (pw A.q - 1) (pw A.q - 1)
theorem OA.ord {A : OA} (h : A.Ck 0) : (∀ k, k < A.q → A.g k < pw A.q) ∧ Ord A.q A.g := by
  obtain ⟨en, el, h10, hg, hr⟩ := OA.open h
  have hgd := Chk.good h
  refine ⟨fun k hk => ?_, ?_⟩
  · have := hgd.2.2.1.small k (by rw [el]; exact hk)
    rw [el] at this
    exact this
  · have := hgd.2.2.2
    rw [el] at this
    exact this
theorem coreM_lt {A : OA} (h : A.Ck 0) : coreM A < 1024 := by
  obtain ⟨_, _, h10, _, _⟩ := OA.open h
  have hpw := pw_le A.q h10
  have hp1 : 0 < pw A.q := Nat.two_pow_pos _
  have := core_lt (g := A.g) (h := trn A.g A.q) (q := A.q) (pw A.q - 1) (pw A.q - 1)
  show core A.g (trn A.g A.q) A.q (pw A.q - 1) (pw A.q - 1) < 1024
  omega
theorem coreM_some {A : OA} (h : A.Ck 0) (hq : 0 < A.q) : coreM A ≠ 0 := core_some (OA.open h).2.2.1 (OA.ord h).1 (OA.ord h).2 hq
theorem rival_nof {A : OA} (h : A.Ck 0) (h1 : pc (coreM A) = 1) : nofM A A = 0 := by
  obtain ⟨_, _, h10, _, _⟩ := OA.open h
  unfold nofM
  rw [List.length_eq_zero_iff, List.filter_eq_nil_iff]
  intro x hx hn
  have hlen : x.length = A.q := by have := cmp_len _ _ _ hx; simp at this; exact this
  obtain ⟨hm, hv⟩ := cmp_good _ _ _ hx
  have hm' := hm (by rw [monB_iff]; intro y hy; exact absurd hy (Nat.not_lt_zero _))
  rw [monB_iff, hlen] at hm'
  have hv' := hv (fun i hi => absurd hi (Nat.not_lt_zero _))
  rw [hlen] at hv'
  obtain ⟨k, hk, e⟩ := rival h10 (OA.ord h).1 (OA.ord h).2 h1 hv' hm'
  exact nofB_iff.1 hn k (by rw [hlen]; exact hk) e
theorem rival_fxs {A : OA} {f : MA} (h : FxCk A f 0) (h1 : nofM A A = 0) : fxs f.f A.q ≠ 0 := by
  obtain ⟨c0, hmo, hcc⟩ := h
  have hz : c0 = 0 ∧ MonL A A f := by
    rcases hcc with ⟨h0, e⟩ | ⟨e, ⟨h2, _⟩ | ⟨_, h2⟩⟩
    · exact absurd e.symm h0
    · cases h2
    · exact ⟨e, h2⟩
  obtain ⟨rfl, hml⟩ := hz
  obtain ⟨hck, _, hmc⟩ := hmo.zero
  obtain ⟨en, el, h10, hg, hr⟩ := OA.open hck
  rw [en] at hmc
  obtain ⟨_, hff, _⟩ := MA.open hmc
  have hnth : ∀ i, i < A.q → nth ((List.range A.q).map f.f) i = f.f i := fun i hi => by
    unfold nth
    rw [List.getD_eq_getElem?_getD, List.getElem?_map, List.getElem?_range hi]
    rfl
  have hlen : ((List.range A.q).map f.f).length = A.q := by simp
  have hmb : monB (upB A.g) (upB A.g) ((List.range A.q).map f.f) = true := by
    rw [monB_iff, hlen]
    intro y hy x hx hp
    rw [hnth y hy, hnth x hx]
    exact hml y hy x hx hp
  have hmem := cmp_all (nb := A.q) ((List.range A.q).map f.f) hmb (fun i hi => by rw [hlen] at hi; rw [hnth i hi]; exact hff i hi) A.q 0 (by rw [hlen]; omega)
  rw [List.take_zero] at hmem
  unfold nofM at h1
  rw [List.length_eq_zero_iff, List.filter_eq_nil_iff] at h1
  have hno := h1 _ hmem
  intro hz
  apply hno
  rw [nofB_iff, hlen]
  intro i hi
  rw [hnth i hi]
  exact (fxs_zero f.f A.q).1 hz i hi
/-- What Fixed hands back. -/
def FxV (A : OA) (f : MA) (c s : Int) : Prop := (c ≠ 0 ∧ s = 0) ∨ (c = 0 ∧ s = (fxs f.f A.q : Nat))
/-- What it comes to at last. -/
theorem last_true {A : OA} {f : MA} {c s ca : Int} {ok : Bool} (hck : A.Ck 0) (hc : FxCk A f c) (hs : FxV A f c s) (hok : (ca ≠ 0 ∧ ok = false) ∨ (ca = 0 ∧ (ok = true ↔ nofM A A = 0))) (h0 : ca = 0) :
    ((ok = true ∨ pc (coreM A) ≠ 1)) ∧ (ok = false ∨ c ≠ 0 ∨ 0 < s) := by
  have hiff : ok = true ↔ nofM A A = 0 := by
    rcases hok with ⟨h, _⟩ | ⟨_, h⟩
    · exact absurd h0 h
    · exact h
  constructor
  · by_cases h1 : pc (coreM A) = 1
    · exact .inl (hiff.2 (rival_nof hck h1))
    · exact .inr h1
  · cases hb : ok
    · exact .inl rfl
    · right
      rcases hs with ⟨h, _⟩ | ⟨h, rfl⟩
      · exact .inl h
      · subst h
        right
        have := rival_fxs hc (hiff.1 hb)
        omega
theorem first_false {A : OA} {f : MA} {s : Int} (hck : A.Ck 0) (hc : FxCk A f 0) (hs : s = (fxs f.f A.q : Nat)) (h1 : pc (coreM A) = 1) : 0 < s := by
  have := rival_fxs hc (rival_nof hck h1)
  omega

set_option maxRecDepth 100000 in
set_option maxHeartbeats 8000000 in
theorem fixRival_all (A : OA) (f : MA) (w : World) (hA : A.In w) (hf : f.In w) (hT : Tab w) :
    Calls Tryd.prog 3 #[A.v, f.v] w fun e w' => e = .returned (.bool true) ∧ Below w.heap.size w w' := by
  obtain ⟨W, eW⟩ : ∃ W, Hid (W = w.alloc (.cells #[.int .i64 A.n, .slice A.a A.la A.ca] 24)) := ⟨_, rfl⟩
  have hbW : Below w.heap.size w W := by rw [eW.out]; exact (Below.refl _ _).alloc (Nat.le_refl _) _
  have HB1 : Hid (Below w.heap.size w W) := hbW
  have hG : GX A f w.heap.size W := by rw [eW.out]; exact GX.new hA hf
  obtain ⟨X, hX⟩ : ∃ X, X = A := ⟨_, rfl⟩
  obtain ⟨Z, hZ⟩ : ∃ Z, Z = f := ⟨_, rfl⟩
  have HG : Hid (GX X Z w.heap.size W) := by rw [hX, hZ]; exact hG
  have HTT : Hid (Tab w) := hT
  have Cb : Hid (∀ wx, Below w.heap.size w wx → Calls Tryd.prog 4 #[] wx fun e w' => e = .returned (.bool true) ∧ Below wx.heap.size wx w') := fun wx h => fixBegun_any _ (HTT.out.step h)
  have Cc : Hid (∀ wx, GX X Z w.heap.size wx → Below w.heap.size w wx → Calls Tryd.prog 5 #[X.v] wx fun e w' => CorePost X e ∧ Below wx.heap.size wx w') := fun wx h hb => core_any X wx h.ia (HTT.out.step hb)
  have Cf : Hid (∀ wx, GX X Z w.heap.size wx → Calls Tryd.prog 6 #[X.v, Z.v] wx fun e w' => FxPost X Z e ∧ Below wx.heap.size wx w') := fun wx h => fixFixed0_any X Z wx h.ia h.fi
  have Ca : Hid (∀ wx, GX X Z w.heap.size wx → Calls Tryd.prog 8 #[X.v] wx fun e w' => AlwPost X e ∧ Below wx.heap.size wx w') := fun wx h => fixAlw_any X wx h.ia
  have HX : Hid (∀ wx, GX X Z w.heap.size wx → OB wx w.heap.size A.n A.a A.la A.ca) := fun wx h => by
    rw [hX] at h
    exact h.xa
  have HN : Hid (X.Ck 0 → A.n = (X.q : Nat)) := fun h => by
    rw [← hX]
    exact (OA.open h).1
  have HV : Hid (X.v = A.v ∧ Z.v = f.v) := by rw [hX, hZ]; exact ⟨rfl, rfl⟩
  rw [HV.out.1] at Cc
  rw [HV.out.1, HV.out.2] at Cf
  rw [HV.out.1] at Ca
  clear hX hZ hA hf hG hT HV hbW HTT
  obtain ⟨n0, a, la, ca', F⟩ := A
  obtain ⟨fa, fl, fc, FF⟩ := f
  simp only [OA.v, MA.v] at *
  go_enter Tryd.func3, Tryd.ntmps3
  go_wp2_with fail
  rw [← eW.out]
  refine (Cb.out _ HB1.out).mono ?_
  rintro e w1 ⟨rfl, hb1⟩
  have HB2 : Hid (Below w.heap.size w w1) := Below.then HB1.out hb1
  have HG1 : Hid (GX X Z w.heap.size w1) := HG.out.step hb1
  clear hb1 HG HB1 eW Cb
  obtain ⟨l0, l1⟩ := HX.out _ HG1.out
  go_wp2_with fail
  refine (Cc.out _ HG1.out HB2.out).mono ?_
  rintro e w2 ⟨⟨c, v, hc, rfl, hv⟩, hb2⟩
  have HB3 : Hid (Below w.heap.size w w2) := Below.then HB2.out hb2
  have HG2 : Hid (GX X Z w.heap.size w2) := HG1.out.step hb2
  clear hb2 HG1 HB2 l0 l1 Cc
  by_cases h0 : c = 0
  · subst h0
    have HCK : Hid (X.Ck 0) := hc
    have hvv : v = (coreM X : Nat) := by
      rcases hv with ⟨h, _⟩ | ⟨_, h⟩
      · exact absurd rfl h
      · exact h
    subst hvv
    have en := HN.out hc
    obtain ⟨q, HQ⟩ : ∃ q, Hid (q = X.q) := ⟨_, rfl⟩
    rw [← HQ.out] at en
    subst en
    obtain ⟨M, HM⟩ : ∃ M, Hid (M = coreM X) := ⟨_, rfl⟩
    rw [← HM.out]
    have hM : M < 1024 := by rw [HM.out]; exact coreM_lt hc
    have HMS : Hid (0 < q → M ≠ 0) := fun h => by rw [HM.out]; exact coreM_some hc (by rw [← HQ.out]; exact h)
    have Cs : Hid (∀ wx, Calls Tryd.prog 7 #[.int .i64 (M : Nat)] wx fun e w' => e = .returned (.int .i64 (pc M : Nat)) ∧ wx = w') := fun wx => refSize_any M wx hM
    obtain ⟨l0, l1⟩ := HX.out _ HG2.out
    clear hc hv HN
    by_cases hq : 0 < q
    · have hq0 : (0 : Int) < (q : Int) := by omega
      have hm0 : (((M : Nat) : Int) == 0) = false := by have := HMS.out hq; simp; omega
      clear hq HMS
      go_wp2_with fail
      refine (Cf.out _ HG2.out).mono ?_
      rintro e w3 ⟨⟨cf, sv, hcf, rfl, hsv⟩, hb3⟩
      have HB4 : Hid (Below w.heap.size w w3) := Below.then HB3.out hb3
      have HG3 : Hid (GX X Z w.heap.size w3) := HG2.out.step hb3
      have HCF : Hid (FxCk X Z cf) := hcf
      have HSV : Hid (FxV X Z cf sv) := hsv
      clear hb3 l0 l1 hcf hsv HG2 HB3 Cf
      obtain ⟨l0, l1⟩ := HX.out _ HG3.out
      by_cases hcf0 : cf = 0
      · subst hcf0
        go_wp2_with fail
        refine (Cs.out _).mono ?_
        rintro e w' ⟨rfl, rfl⟩
        by_cases hp1 : pc M = 1
        · have hp : (((pc M : Nat) : Int) == 1) = true := by simp; omega
          have hs0 : (sv == 0) = false := by
            have hsv : sv = (fxs Z.f X.q : Nat) := by
              rcases HSV.out with ⟨h, _⟩ | ⟨_, h⟩
              · exact absurd rfl h
              · exact h
            have := first_false HCK.out HCF.out hsv (by rw [← HM.out]; exact hp1)
            simp; omega
          clear hp1
          go_wp2_with fail
          refine (Ca.out _ HG3.out).mono ?_
          rintro e w4 ⟨⟨c0, ca, ok, hc0, hca, rfl, hok⟩, hb4⟩
          have HB5 : Hid (Below w.heap.size w w4) := Below.then HB4.out hb4
          have HOK : Hid ((ca ≠ 0 ∧ ok = false) ∨ (ca = 0 ∧ (ok = true ↔ nofM X X = 0))) := hok
          clear hb4 l0 l1 hc0 hca hok HG3 HB4 Ca
          by_cases hca0 : ca = 0
          · subst hca0
            obtain ⟨f1, f2⟩ := last_true HCK.out HCF.out HSV.out HOK.out rfl
            clear HOK HCF HSV
            rw [← HM.out] at f1
            cases ok
            · have hp : (((pc M : Nat) : Int) != 1) = true := by
                rcases f1 with h | h
                · cases h
                · simp; omega
              clear f1 f2
              go_wp2_with fail
              refine (Cs.out _).mono ?_
              rintro e w' ⟨rfl, rfl⟩
              go_wp2_with fail
              go_ret
              exact ⟨rfl, HB5.out⟩
            · have hsp : (0 : Int) < sv := by
                rcases f2 with h | h | h
                · cases h
                · exact absurd rfl h
                · exact h
              clear f1 f2
              go_wp2_with fail
              go_ret
              exact ⟨rfl, HB5.out⟩
          · have hcan : (ca != 0) = true := by simpa using hca0
            go_wp2_with fail
            go_ret
            exact ⟨rfl, HB5.out⟩
        · have hp : (((pc M : Nat) : Int) == 1) = false := by simp; omega
          clear hp1
          go_wp2_with fail
          refine (Ca.out _ HG3.out).mono ?_
          rintro e w4 ⟨⟨c0, ca, ok, hc0, hca, rfl, hok⟩, hb4⟩
          have HB5 : Hid (Below w.heap.size w w4) := Below.then HB4.out hb4
          have HOK : Hid ((ca ≠ 0 ∧ ok = false) ∨ (ca = 0 ∧ (ok = true ↔ nofM X X = 0))) := hok
          clear hb4 l0 l1 hc0 hca hok HG3 HB4 Ca
          by_cases hca0 : ca = 0
          · subst hca0
            obtain ⟨f1, f2⟩ := last_true HCK.out HCF.out HSV.out HOK.out rfl
            clear HOK HCF HSV
            rw [← HM.out] at f1
            cases ok
            · have hp : (((pc M : Nat) : Int) != 1) = true := by
                rcases f1 with h | h
                · cases h
                · simp; omega
              clear f1 f2
              go_wp2_with fail
              refine (Cs.out _).mono ?_
              rintro e w' ⟨rfl, rfl⟩
              go_wp2_with fail
              go_ret
              exact ⟨rfl, HB5.out⟩
            · have hsp : (0 : Int) < sv := by
                rcases f2 with h | h | h
                · cases h
                · exact absurd rfl h
                · exact h
              clear f1 f2
              go_wp2_with fail
              go_ret
              exact ⟨rfl, HB5.out⟩
          · have hcan : (ca != 0) = true := by simpa using hca0
            go_wp2_with fail
            go_ret
            exact ⟨rfl, HB5.out⟩
      · have hcfe : (cf == 0) = false := by simpa using hcf0
        go_wp2_with fail
        refine (Ca.out _ HG3.out).mono ?_
        rintro e w4 ⟨⟨c0, ca, ok, hc0, hca, rfl, hok⟩, hb4⟩
        have HB5 : Hid (Below w.heap.size w w4) := Below.then HB4.out hb4
        have HOK : Hid ((ca ≠ 0 ∧ ok = false) ∨ (ca = 0 ∧ (ok = true ↔ nofM X X = 0))) := hok
        clear hb4 l0 l1 hc0 hca hok HG3 HB4 Ca
        by_cases hca0 : ca = 0
        · subst hca0
          obtain ⟨f1, f2⟩ := last_true HCK.out HCF.out HSV.out HOK.out rfl
          clear HOK HCF HSV
          rw [← HM.out] at f1
          cases ok
          · have hp : (((pc M : Nat) : Int) != 1) = true := by
              rcases f1 with h | h
              · cases h
              · simp; omega
            clear f1 f2
            go_wp2_with fail
            refine (Cs.out _).mono ?_
            rintro e w' ⟨rfl, rfl⟩
            go_wp2_with fail
            go_ret
            exact ⟨rfl, HB5.out⟩
          · have hcn : (cf != 0) = true := by simpa using hcf0
            clear f1 f2
            go_wp2_with fail
            go_ret
            exact ⟨rfl, HB5.out⟩
        · have hcan : (ca != 0) = true := by simpa using hca0
          go_wp2_with fail
          go_ret
          exact ⟨rfl, HB5.out⟩
    · have hq0 : ¬ ((0 : Int) < (q : Int)) := by omega
      clear hq HMS
      go_wp2_with fail
      refine (Cf.out _ HG2.out).mono ?_
      rintro e w3 ⟨⟨cf, sv, hcf, rfl, hsv⟩, hb3⟩
      have HB4 : Hid (Below w.heap.size w w3) := Below.then HB3.out hb3
      have HG3 : Hid (GX X Z w.heap.size w3) := HG2.out.step hb3
      have HCF : Hid (FxCk X Z cf) := hcf
      have HSV : Hid (FxV X Z cf sv) := hsv
      clear hb3 l0 l1 hcf hsv HG2 HB3 Cf
      obtain ⟨l0, l1⟩ := HX.out _ HG3.out
      by_cases hcf0 : cf = 0
      · subst hcf0
        go_wp2_with fail
        refine (Cs.out _).mono ?_
        rintro e w' ⟨rfl, rfl⟩
        by_cases hp1 : pc M = 1
        · have hp : (((pc M : Nat) : Int) == 1) = true := by simp; omega
          have hs0 : (sv == 0) = false := by
            have hsv : sv = (fxs Z.f X.q : Nat) := by
              rcases HSV.out with ⟨h, _⟩ | ⟨_, h⟩
              · exact absurd rfl h
              · exact h
            have := first_false HCK.out HCF.out hsv (by rw [← HM.out]; exact hp1)
            simp; omega
          clear hp1
          go_wp2_with fail
          refine (Ca.out _ HG3.out).mono ?_
          rintro e w4 ⟨⟨c0, ca, ok, hc0, hca, rfl, hok⟩, hb4⟩
          have HB5 : Hid (Below w.heap.size w w4) := Below.then HB4.out hb4
          have HOK : Hid ((ca ≠ 0 ∧ ok = false) ∨ (ca = 0 ∧ (ok = true ↔ nofM X X = 0))) := hok
          clear hb4 l0 l1 hc0 hca hok HG3 HB4 Ca
          by_cases hca0 : ca = 0
          · subst hca0
            obtain ⟨f1, f2⟩ := last_true HCK.out HCF.out HSV.out HOK.out rfl
            clear HOK HCF HSV
            rw [← HM.out] at f1
            cases ok
            · have hp : (((pc M : Nat) : Int) != 1) = true := by
                rcases f1 with h | h
                · cases h
                · simp; omega
              clear f1 f2
              go_wp2_with fail
              refine (Cs.out _).mono ?_
              rintro e w' ⟨rfl, rfl⟩
              go_wp2_with fail
              go_ret
              exact ⟨rfl, HB5.out⟩
            · have hsp : (0 : Int) < sv := by
                rcases f2 with h | h | h
                · cases h
                · exact absurd rfl h
                · exact h
              clear f1 f2
              go_wp2_with fail
              go_ret
              exact ⟨rfl, HB5.out⟩
          · have hcan : (ca != 0) = true := by simpa using hca0
            go_wp2_with fail
            go_ret
            exact ⟨rfl, HB5.out⟩
        · have hp : (((pc M : Nat) : Int) == 1) = false := by simp; omega
          clear hp1
          go_wp2_with fail
          refine (Ca.out _ HG3.out).mono ?_
          rintro e w4 ⟨⟨c0, ca, ok, hc0, hca, rfl, hok⟩, hb4⟩
          have HB5 : Hid (Below w.heap.size w w4) := Below.then HB4.out hb4
          have HOK : Hid ((ca ≠ 0 ∧ ok = false) ∨ (ca = 0 ∧ (ok = true ↔ nofM X X = 0))) := hok
          clear hb4 l0 l1 hc0 hca hok HG3 HB4 Ca
          by_cases hca0 : ca = 0
          · subst hca0
            obtain ⟨f1, f2⟩ := last_true HCK.out HCF.out HSV.out HOK.out rfl
            clear HOK HCF HSV
            rw [← HM.out] at f1
            cases ok
            · have hp : (((pc M : Nat) : Int) != 1) = true := by
                rcases f1 with h | h
                · cases h
                · simp; omega
              clear f1 f2
              go_wp2_with fail
              refine (Cs.out _).mono ?_
              rintro e w' ⟨rfl, rfl⟩
              go_wp2_with fail
              go_ret
              exact ⟨rfl, HB5.out⟩
            · have hsp : (0 : Int) < sv := by
                rcases f2 with h | h | h
                · cases h
                · exact absurd rfl h
                · exact h
              clear f1 f2
              go_wp2_with fail
              go_ret
              exact ⟨rfl, HB5.out⟩
          · have hcan : (ca != 0) = true := by simpa using hca0
            go_wp2_with fail
            go_ret
            exact ⟨rfl, HB5.out⟩
      · have hcfe : (cf == 0) = false := by simpa using hcf0
        go_wp2_with fail
        refine (Ca.out _ HG3.out).mono ?_
        rintro e w4 ⟨⟨c0, ca, ok, hc0, hca, rfl, hok⟩, hb4⟩
        have HB5 : Hid (Below w.heap.size w w4) := Below.then HB4.out hb4
        have HOK : Hid ((ca ≠ 0 ∧ ok = false) ∨ (ca = 0 ∧ (ok = true ↔ nofM X X = 0))) := hok
        clear hb4 l0 l1 hc0 hca hok HG3 HB4 Ca
        by_cases hca0 : ca = 0
        · subst hca0
          obtain ⟨f1, f2⟩ := last_true HCK.out HCF.out HSV.out HOK.out rfl
          clear HOK HCF HSV
          rw [← HM.out] at f1
          cases ok
          · have hp : (((pc M : Nat) : Int) != 1) = true := by
              rcases f1 with h | h
              · cases h
              · simp; omega
            clear f1 f2
            go_wp2_with fail
            refine (Cs.out _).mono ?_
            rintro e w' ⟨rfl, rfl⟩
            go_wp2_with fail
            go_ret
            exact ⟨rfl, HB5.out⟩
          · have hcn : (cf != 0) = true := by simpa using hcf0
            clear f1 f2
            go_wp2_with fail
            go_ret
            exact ⟨rfl, HB5.out⟩
        · have hcan : (ca != 0) = true := by simpa using hca0
          go_wp2_with fail
          go_ret
          exact ⟨rfl, HB5.out⟩
  · have hne : (c != 0) = true := by simpa using h0
    go_wp2_with fail
    go_ret
    exact ⟨rfl, HB3.out⟩
theorem fixRival_any (n0 : Int) (a0 : Option Addr) (la0 ca0 : Nat) (f0 : Nat → Int) (a2 : Option Addr) (b2 c2 : Nat) (f2 : Nat → Int) (w : World)
    (hl0 : la0 ≤ maxLen) (hl2 : b2 ≤ maxLen) (hr0 : Row w a0 la0 f0) (hr2 : Row w a2 b2 f2) (hT : Tab w) :
    Calls Tryd.prog 3 #[.agg #[.int .i64 n0, .slice a0 la0 ca0], .slice a2 b2 c2] w fun e w' => e = .returned (.bool true) ∧ Below w.heap.size w w' :=
  fixRival_all ⟨n0, a0, la0, ca0, f0⟩ ⟨a2, b2, c2, f2⟩ w ⟨hl0, hr0⟩ ⟨hl2, hr2⟩ hT
end Go.Proofs.YtfajgahofkcndaaDoor
