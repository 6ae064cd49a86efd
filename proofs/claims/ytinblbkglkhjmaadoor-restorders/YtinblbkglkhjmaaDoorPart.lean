/-
  What order.Part answers, whatever it is handed. No condition but that a slice reads as a slice of numbers.
-/
import Derived.Test.YtinblbkglkhjmaaDoorWoU
import Derived.Test.YtinblbkglkhjmaaDoorBuild
namespace Go.Proofs.YtinblbkglkhjmaaDoor
open Go.RowKit

/-- What must be answered of an order and a set. -/
def PChk (n : Int) (len : Nat) (f : Nat → Int) (set : Int) (c : Int) : Prop :=
  (c ≠ 0 ∧ Chk n len f c) ∨ (Chk n len f 0 ∧ ((c = 3 ∧ sts set len = false) ∨ (c = 0 ∧ sts set len = true)))
theorem PChk.unique {n : Int} {len : Nat} {f : Nat → Int} {set c c' : Int} (h : PChk n len f set c) (h' : PChk n len f set c') : c = c' := by
  rcases h with ⟨h0, h⟩ | ⟨h, hs⟩
  · rcases h' with ⟨_, h'⟩ | ⟨h', _⟩
    · exact h.unique h'
    · exact absurd (h.unique h') h0
  · rcases h' with ⟨h0, h'⟩ | ⟨_, hs'⟩
    · exact absurd (h'.unique h) h0
    · rcases hs with ⟨rfl, hs⟩ | ⟨rfl, hs⟩ <;> rcases hs' with ⟨rfl, hs'⟩ | ⟨rfl, hs'⟩
      · rfl
      · rw [hs] at hs'; cases hs'
      · rw [hs] at hs'; cases hs'
      · rfl
/-- The part's sets. -/
def prt (g : Nat → Nat) (L : List Nat) (i : Nat) : Nat := setBy (fun k => (g (nth L i)).testBit (nth L k)) L.length
def prtTo (g : Nat → Nat) (L : List Nat) (i k j : Nat) : Nat := if j < i then prt g L j else if j = i then setBy (fun t => (g (nth L i)).testBit (nth L t)) k else 0
theorem prtTo_zero (g : Nat → Nat) (L : List Nat) : prtTo g L 0 0 = fun _ => 0 := by funext j; simp [prtTo, setBy]
theorem prtTo_same (g : Nat → Nat) (L : List Nat) (i k : Nat) : prtTo g L i k i = setBy (fun t => (g (nth L i)).testBit (nth L t)) k := by simp [prtTo]
theorem prtTo_yes {g : Nat → Nat} {L : List Nat} {i k : Nat} (h : (g (nth L i)).testBit (nth L k) = true) : prtTo g L i (k + 1) = upd (prtTo g L i k) i (setBy (fun t => (g (nth L i)).testBit (nth L t)) k ||| pw k) := by
  funext j
  by_cases e : j = i
  · subst e; rw [upd_same, prtTo_same, or_pw_add (setBy_lt _ k)]; exact setBy_yes (P := fun t => (g (nth L j)).testBit (nth L t)) h
  · rw [upd_other _ _ _ _ e]; simp [prtTo, e]
theorem prtTo_no {g : Nat → Nat} {L : List Nat} {i k : Nat} (h : (g (nth L i)).testBit (nth L k) = false) : prtTo g L i (k + 1) = prtTo g L i k := by
  funext j
  by_cases e : j = i
  · subst e; rw [prtTo_same, prtTo_same]; exact setBy_no (P := fun t => (g (nth L j)).testBit (nth L t)) h
  · simp [prtTo, e]
theorem prtTo_next (g : Nat → Nat) (L : List Nat) (i : Nat) : prtTo g L i L.length = prtTo g L (i + 1) 0 := by
  funext j
  by_cases e : j = i
  · subst e; rw [prtTo_same]; simp [prtTo, prt]
  · by_cases e2 : j < i
    · have : j < i + 1 := by omega
      simp [prtTo, e2, this]
    · have : ¬ j < i + 1 := by omega
      simp [prtTo, e, e2, this, setBy]
theorem prtTo_end (g : Nat → Nat) (L : List Nat) (j : Nat) (h : j < L.length) : prtTo g L L.length 0 j = prt g L j := by simp [prtTo, h]
theorem nth_lt {s n k : Nat} (h : k < (pts s n).length) : nth (pts s n) k < n := by
  apply pts_lt s n
  have e : nth (pts s n) k = (pts s n)[k] := by simp [nth, h]
  rw [e]
  exact List.getElem_mem h

/-- A slice that lies from block B on. -/
def FrB (B : Nat) (x : Value) : Prop := ∀ (N : Value) (a : Addr) (l cp : Nat), x = .agg #[N, .slice (some a) l cp] → B ≤ a.block
theorem frB_no (B : Nat) : FrB B noOrder := fun N a l cp h => by simp [noOrder] at h
def PartPost (B : Nat) (n : Int) (len : Nat) (f : Nat → Int) (set : Int) (e : Ending) (w' : World) : Prop :=
  ∃ (c : Int) (x : Value), PChk n len f set c ∧ e = .returned (.tuple #[x, .int .i64 c]) ∧
    OrdErr c ((pts set.toNat len).length : Int) (pts set.toNat len).length (fun k => (prt (nat f) (pts set.toNat len) k : Nat)) x w' ∧ FrB B x

set_option maxHeartbeats 2000000 in
theorem part_any (n : Int) (a : Option Addr) (len cap : Nat) (f : Nat → Int) (set : Int) (w : World) (hl : len ≤ maxLen) (hr : Row w a len f) (hT : Tab w) :
    Calls Tryd.prog 7 #[.agg #[.int .i64 n, .slice a len cap], .int .i64 set] w fun e w' => PartPost w.heap.size n len f set e w' ∧ Below w.heap.size w w' := by
  have HH : Hid (Held ((w.alloc (.cells #[.int .i64 n, .slice a len cap] 24)).alloc (.cells #[.int .i64 0, .slice none 0 0] 24)) w.heap.size n a len cap f) := (Held.box hr).step ((Below.refl _ _).alloc (Nat.le_refl _) _)
  have HB : Hid (Below w.heap.size w ((w.alloc (.cells #[.int .i64 n, .slice a len cap] 24)).alloc (.cells #[.int .i64 0, .slice none 0 0] 24))) := ((Below.refl _ _).alloc (Nat.le_refl _) _).alloc (by simp) _
  have HZ : Hid (ZBox ((w.alloc (.cells #[.int .i64 n, .slice a len cap] 24)).alloc (.cells #[.int .i64 0, .slice none 0 0] 24)) (w.heap.size + 1)) := by have := ZBox.new (w.alloc (.cells #[.int .i64 n, .slice a len cap] 24)); rw [World.size_alloc] at this; exact this
  clear hr
  go_enter Tryd.func7, Tryd.ntmps7
  go_wp2_with fail
  refine (check_any n a len cap f _ hl HH.out.row).mono ?_
  rintro e w1 ⟨⟨c, rfl, hc⟩, hb⟩
  have K1 := HH.out.step hb
  have Z1 := HZ.out.step hb
  have HB1 : Hid (Below w.heap.size w w1) := Below.then HB.out hb
  have HTB : Hid (Tab w1) := hT.step HB1.out
  clear hb HH HB HZ hT
  by_cases h0 : c = 0
  · subst h0
    obtain ⟨rfl, h10, hrng, _⟩ := hc.good
    have k0 := K1.c0
    have k1 := K1.c1
    by_cases hs : sts set len = true
    · obtain ⟨hs0, hs1⟩ : 0 ≤ set ∧ set < (pw len : Nat) := by simpa [sts] using hs
      obtain ⟨s, rfl⟩ := Int.eq_ofNat_of_zero_le hs0
      have hsn : s < pw len := by omega
      have hp := pw_le len h10
      have HPC : Hid (PChk (len : Int) len f (s : Int) 0) := .inr ⟨hc, .inr ⟨rfl, hs⟩⟩
      have H1 : Hid (Held w1 w.heap.size len a len cap (fun k => (nat f k : Nat))) := ⟨K1.c0, K1.c1, hrng.row K1.row⟩
      have HZ1 : Hid (ZBox w1 (w.heap.size + 1)) := Z1
      have HG2 : Hid (∀ k, k < len → nat f k < 1024) := hrng.small2 h10
      have HPT : Hid (pts s 10 = pts s len) := by have := pts_more hsn (10 - len); rw [show len + (10 - len) = 10 by omega] at this; exact this
      clear hc hrng K1 Z1
      go_wp2_with (first | (go_at_call 20; refine (isSet_any _ _ _ h10).mono ?_; rintro e w' ⟨rfl, rfl⟩))
      refine (members_any s _ (by omega) HTB.out).mono ?_
      rintro e w2 ⟨⟨v, rfl, hv⟩, hb2⟩
      rw [HPT.out] at hv
      have hLlen := pts_len s len
      have HLT : Hid (∀ k, k < (pts s len).length → nth (pts s len) k < len) := fun k hk => nth_lt hk
      have HTO : Hid (((s : Int)).toNat = s) := Int.toNat_natCast s
      obtain ⟨L, HL⟩ : ∃ L, Hid (L = pts s len) := ⟨_, rfl⟩
      rw [← HL.out] at hv hLlen HLT
      obtain ⟨a2, cap2, rfl, hr2⟩ := hv
      have H2 : Hid (Held w2 w.heap.size len a len cap (fun k => (nat f k : Nat))) := H1.out.step hb2
      have HZ2 : Hid (ZBox w2 (w.heap.size + 1)) := HZ1.out.step hb2
      have HB2 : Hid (Below w.heap.size w w2) := Below.then HB1.out hb2
      have HR2 : Hid (Row w2 a2 L.length (fun k => (nth L k : Nat))) := hr2
      have hsz2 : w.heap.size + 1 < w2.heap.size := World.block_lt_of_cell? _ _ HZ2.out.1
      clear hr2 hb2 H1 HZ1 HB1 HPT k0 k1 hs0 hs1 hsn
      obtain ⟨m, HM⟩ : ∃ m, Hid (m = L.length) := ⟨_, rfl⟩
      rw [← HM.out] at hLlen HLT HR2
      rw [← HM.out]
      obtain ⟨g, HGF⟩ : ∃ g, Hid (g = nat f) := ⟨_, rfl⟩
      rw [← HGF.out] at HG2 H2
      obtain ⟨i0, hi, hz0, hz1, hz2⟩ := info_parts Tryd.info3
      go_wp2_with (at_make; refine wpList_make_full _ rfl _ _ 22 rfl w2.heap.size 3 i0 (.int .i64 0) 1 Tryd.underlying22 hi hz0 hz1 .i64 .i64 _ _ m rfl rfl rfl rfl (by rw [hz2]; omega) (by unfold maxLen; omega) (Nat.le_refl _) ?_; intro w3 hown3 hgrow3)
      have HB3 : Hid (Below w2.heap.size w2 w3) := (Below.refl _ _).grown hgrow3 (Nat.le_refl _) (by simp)
      have HO3 : Hid (Own w3 w2.heap.size m (prtTo g L 0 0)) := by rw [prtTo_zero]; exact own_made hown3
      clear hown3 hgrow3 hi hz0 hz1 hz2
      go_loopw [32] (fun t wx => ∃ i : Nat, i ≤ m ∧ t = .int .i64 i ∧ Own wx w2.heap.size m (prtTo g L i 0) ∧ Hid (Below w2.heap.size w2 wx)) (fun t _ => m - (intOf t).toNat)
      case atStart => exact ⟨0, Nat.zero_le _, rfl, HO3.out, HB3.out⟩
      case round =>
        obtain ⟨i, hi, rfl, hO, hBx⟩ := hrel
        clear HO3 HB3
        by_cases hlt : i < m
        · obtain ⟨b2, o2, rfl, hc2⟩ := (HR2.out.below hBx.out).at hlt
          have hci := hc2 i hlt
          clear hc2
          go_wp2
          have HO1 : Hid (Own wr w2.heap.size m (prtTo g L i 0)) := hO
          clear hO hci
          go_loopw [39] (fun t wx => ∃ k : Nat, k ≤ m ∧ t = .int .i64 k ∧ Own wx w2.heap.size m (prtTo g L i k) ∧ Hid (Below w2.heap.size w2 wx)) (fun t _ => m - (intOf t).toNat)
          case atStart => exact ⟨0, Nat.zero_le _, rfl, HO1.out, hBx.out⟩
          case round =>
            obtain ⟨k, hk, rfl, hO, hBy⟩ := hrel
            clear HO1
            by_cases hkl : k < m
            · obtain ⟨b2', o2', e2, hc2⟩ := (HR2.out.below hBy.out).at hkl
              simp at e2
              obtain ⟨rfl, rfl⟩ := e2
              have hck := hc2 k hkl
              clear hc2
              have hHy := H2.out.step hBy.out
              have c0 := hHy.c0
              have c1 := hHy.c1
              have hni := HLT.out i hlt
              have hnk := HLT.out k hkl
              obtain ⟨b3, o3, rfl, hc3⟩ := hHy.row.at hni
              have hcc := hc3 _ hni
              have hgi := HG2.out _ hni
              clear hc3 hHy
              have hni' : ((nth L i : Nat) : Int) < (len : Int) := by omega
              rcases (Bool.eq_false_or_eq_true ((g (nth L i)).testBit (nth L k))).symm with hb | hb
              · have HE : Hid (prtTo g L i (k + 1) = prtTo g L i k) := prtTo_no hb
                go_wp2_with (go_at_call 22; refine (has_any _ _ _ (by omega) (by omega)).mono ?_; rintro e w' ⟨rfl, rfl⟩)
                go_roundw
                case rel => exact ⟨k + 1, by omega, by go_num, by rw [HE.out]; exact hO, hBy⟩
                case measure => simp [intOf]; omega
              · have HE := prtTo_yes hb
                have HE2 : Hid (prtTo g L i (k + 1) = upd (prtTo g L i k) i (setBy (fun t => (g (nth L i)).testBit (nth L t)) k ||| pw k)) := HE
                have hcO := (hO i hlt).1
                have hfO := (hO i hlt).2
                rw [prtTo_same] at hcO
                have hm10 : m ≤ 10 := by omega
                have hsh := wrap_pow k (Nat.lt_of_lt_of_le hkl (Nat.le_trans hm10 (by decide)))
                have hlt2 : setBy (fun t => (g (nth L i)).testBit (nth L t)) k < pw m := Nat.lt_of_lt_of_le (setBy_lt _ k) (Nat.pow_le_pow_right (by decide) hk)
                have hor := or_pw (b := k) hm10 hlt2 hkl
                have HOY : Hid (Own wr w2.heap.size m (prtTo g L i k)) := hO
                clear hO HE hlt2
                generalize setBy (fun t => (g (nth L i)).testBit (nth L t)) k = S at *
                go_wp2_with (go_at_call 22; refine (has_any _ _ _ (by omega) (by omega)).mono ?_; rintro e w' ⟨rfl, rfl⟩)
                go_region
                all_goals go_wp2
                all_goals go_roundw
                case rel => exact ⟨k + 1, by omega, by go_num, by rw [HE2.out]; exact Own.set HOY.out i _ hlt, Below.drew (Below.setCell (p := ⟨w2.heap.size, i, none⟩) hBy.out (Nat.le_refl _) _)⟩
                case measure => simp [intOf]; omega
            · have hkm : k = m := by omega
              have HNX : Hid (prtTo g L i k = prtTo g L (i + 1) 0) := by rw [hkm, HM.out]; exact prtTo_next g L i
              subst hkm
              go_wp2
              go_roundw
              case rel => exact ⟨i + 1, by omega, by go_num, by rw [← HNX.out]; exact hO, hBy⟩
              case measure => simp [intOf]; omega
        · have him : i = m := by omega
          have HOE : Hid (Own wr w2.heap.size m (prt g L)) := hO.congr (fun j hj => by rw [him, HM.out]; exact prtTo_end g L j (by rw [← HM.out]; exact hj))
          subst him
          obtain ⟨r0, r1, r2, r3⟩ := HZ2.out.step hBx.out
          have HBE : Hid (Below w.heap.size w wr) := Below.then HB2.out hBx.out
          clear hO hBx
          go_wp2
          refine bodyPost_ret (v := .tuple #[.agg #[.int .i64 (i : Int), .slice (some ⟨w2.heap.size, 0, none⟩) i i], .int .i64 0]) ?_ rfl ⟨⟨0, _, HPC.out, rfl, .inr ⟨rfl, some ⟨w2.heap.size, 0, none⟩, i, ?_, ?_⟩, fun N a l cp h => by simp at h; rw [← h.2.1]; exact HB2.out.size⟩, set2B HBE.out (by omega)⟩
          · simp [results, Tryd.results7, go_sem, r0, r1]
          · rw [HTO.out, ← HL.out, ← HM.out]
          · rw [HTO.out, ← HL.out, ← HM.out, ← HGF.out]
            exact row_set2 (Own.row HOE.out) (fun _ => ⟨_, _, rfl, by omega⟩)
    · have hsf : sts set len = false := by simpa using hs
      have HPC : Hid (PChk (len : Int) len f set 3) := .inr ⟨hc, .inl ⟨rfl, hsf⟩⟩
      obtain ⟨r0, r1, r2, r3⟩ := Z1
      clear hc hrng K1
      go_wp2_with (go_at_call 20; refine (isSet_any _ _ _ h10).mono ?_; rintro e w' ⟨rfl, rfl⟩)
      exact bodyPost_ret (v := .tuple #[noOrder, .int .i64 3]) (by simp [results, Tryd.results7, go_sem, noOrder, r0, r1]) rfl ⟨⟨3, _, HPC.out, rfl, .inl ⟨by decide, rfl⟩, frB_no _⟩, set2B HB1.out (by omega)⟩
  · have hne : (c != 0) = true := by simpa using h0
    obtain ⟨r0, r1, r2, r3⟩ := Z1
    have HPC : Hid (PChk n len f set c) := .inl ⟨h0, hc⟩
    clear hc
    go_wp2_with fail
    exact bodyPost_ret (v := .tuple #[noOrder, .int .i64 c]) (by simp [results, Tryd.results7, go_sem, noOrder, r0, r1]) rfl ⟨⟨c, _, HPC.out, rfl, .inl ⟨h0, rfl⟩, frB_no _⟩, set2B HB1.out (by omega)⟩
end Go.Proofs.YtinblbkglkhjmaaDoor
