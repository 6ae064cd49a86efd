/-
  What imply.keys, Close, Keys and Base answer. Conditions: of the last three none but that a slice reads as a slice of rules; of keys and Keys the table of the least bits.
-/
import Derived.Test.YtgjdpgjaaaeglaaDoorImpC
import Derived.Test.YtgjdpgjaaaeglaaDoorPoints
namespace Go.Proofs.YtgjdpgjaaaeglaaDoor
open Go.RowKit

/-- Those of the first k numbers that are so. -/
def fil (I : Nat → Bool) : Nat → List Nat
  | 0 => []
  | k + 1 => if I k = true then fil I k ++ [k] else fil I k
theorem fil_yes {I : Nat → Bool} {k : Nat} (h : I k = true) : fil I (k + 1) = fil I k ++ [k] := by simp [fil, h]
theorem fil_no {I : Nat → Bool} {k : Nat} (h : I k = false) : fil I (k + 1) = fil I k := by simp [fil, h]
theorem fil_len (I : Nat → Bool) : ∀ k, (fil I k).length ≤ k
  | 0 => by simp [fil]
  | k + 1 => by
    have ih := fil_len I k
    cases h : I k
    · rw [fil_no h]; omega
    · rw [fil_yes h, List.length_append]; simp; exact ih
theorem fil_congr {I J : Nat → Bool} : ∀ k, (∀ i, i < k → I i = J i) → fil I k = fil J k
  | 0, _ => rfl
  | k + 1, h => by simp only [fil, h k (by omega), fil_congr k (fun i hi => h i (by omega))]
/-- Is s a key? -/
def isKey (C : Nat → Nat) (n s : Nat) : Bool := (C s == pw n - 1) && (pts s 10).all (fun i => !(C (lack s (pw i)) == pw n - 1))
theorem isKey_no1 {C : Nat → Nat} {n s : Nat} (h : C s ≠ pw n - 1) : isKey C n s = false := by
  have : (C s == pw n - 1) = false := by simpa using h
  simp [isKey, this]
theorem isKey_no2 {C : Nat → Nat} {n s k : Nat} (hk : k < (pts s 10).length) (h : C (lack s (pw (nth (pts s 10) k))) = pw n - 1) : isKey C n s = false := by
  unfold isKey
  have hm : nth (pts s 10) k ∈ pts s 10 := by
    unfold nth
    exact getD_mem 0 hk
  cases e : (pts s 10).all (fun i => !(C (lack s (pw i)) == pw n - 1))
  · simp
  · have := List.all_eq_true.1 e _ hm
    rw [h] at this
    simp at this
theorem isKey_yes {C : Nat → Nat} {n s : Nat} (h : C s = pw n - 1) (h' : ∀ k, k < (pts s 10).length → C (lack s (pw (nth (pts s 10) k))) ≠ pw n - 1) : isKey C n s = true := by
  unfold isKey
  rw [Bool.and_eq_true]
  refine ⟨by simpa using h, ?_⟩
  rw [List.all_eq_true]
  intro i hi
  obtain ⟨k, hk, e⟩ := List.getElem_of_mem hi
  have e2 : nth (pts s 10) k = i := by unfold nth; rw [List.getD_eq_getElem?_getD, List.getElem?_eq_getElem hk, e]; rfl
  have := h' k hk
  rw [e2] at this
  simpa using this
def keysL (C : Nat → Nat) (n : Nat) : List Nat := fil (isKey C n) (pw n)

set_option maxHeartbeats 4000000 in
theorem keys_any (n F : Nat) (caps : Array Value) (C : Nat → Nat) (w : World) (h10 : n ≤ 10) (hT : Tab w) (hF : EntF F) (hC : CloN n F caps C w) (hCl : ∀ s, s < pw n → C s < 1024) :
    Calls Tryd.prog 27 #[.int .i64 (n : Int), .func (.func F) #[] caps] w fun e w' => (∃ v, e = .returned v ∧ NSl w' v (keysL C n)) ∧ Below w.heap.size w w' := by
  have HC : Hid (CloN n F caps C w) := hC
  have HCl : Hid (∀ s, s < pw n → C s < 1024) := hCl
  have HT : Hid (Tab w) := hT
  have hpw := pw_le n h10
  have hp0 := pw_pos n
  have hsh := wrap_pow n (by omega)
  obtain ⟨i0, hi, hz0, hz1, hz2⟩ := info_parts Tryd.info3
  obtain ⟨I, HI⟩ : ∃ I, Hid (I = isKey C n) := ⟨_, rfl⟩
  have HKL : Hid (keysL C n = fil I (pw n)) := by rw [HI.out]; rfl
  obtain ⟨A, HA⟩ : ∃ A, Hid (A = pw n - 1) := ⟨_, rfl⟩
  have ea : (((pw n : Nat) : Int) - 1) = ((A : Nat) : Int) := by rw [HA.out]; omega
  clear hC hCl hT
  go_enter Tryd.func27, Tryd.ntmps27
  try go_step3
  go_wp2_with fail
  go_step3
  go_wp2_with fail
  try go_step3
  go_wp2_with fail
  try rw [hsh]
  clear hsh
  go_loopw [5, 11] (fun v i wx => ∃ s : Nat, s ≤ pw n ∧ i = .int .i64 s ∧ wx.ownsRow w.heap.size 3 1 v (fil I s).length (natVals (fil I s)) ∧ Hid (Below w.heap.size w wx)) (fun _ i _ => pw n - (intOf i).toNat)
  case atStart => exact ⟨0, Nat.zero_le _, rfl, World.ownsRow_nil _ _ _ _, Below.refl _ _⟩
  case round =>
    obtain ⟨s, hs, rfl, hown, hB⟩ := hrel
    by_cases hlt : s < pw n
    · have hlt' : (s : Int) < ((pw n : Nat) : Int) := by omega
      have hcs := HCl.out s hlt
      go_wp2_with fail
      rw [hF, Oper.upon_enter]
      refine (HC.out s hlt _ hB.out).mono ?_
      rintro e w1 ⟨rfl, hb1⟩
      have HB1 : Hid (Below w.heap.size w w1) := Below.then hB.out hb1
      have hown1 := owns_below hown hb1
      clear hown hb1 hB
      by_cases hfull : C s = A
      · have hq : (((C s : Nat) : Int) != ((A : Nat) : Int)) = false := by rw [hfull]; simp
        go_wp2_with (go_at_call 39; refine (all_any n _ h10).mono ?_; rintro e w' ⟨rfl, rfl⟩; rw [ea])
        refine (members_any s _ (by omega) (HT.out.step HB1.out)).mono ?_
        rintro e w2 ⟨⟨v2, rfl, hv2⟩, hb2⟩
        obtain ⟨pa, pc, rfl, hpr⟩ := hv2
        have HB2 : Hid (Below w.heap.size w w2) := Below.then HB1.out hb2
        have HO2 : Hid (w2.ownsRow w.heap.size 3 1 u5 (fil I s).length (natVals (fil I s))) := owns_below hown1 hb2
        have HPR : Hid (∀ w', Below w2.heap.size w2 w' → Row w' pa (pts s 10).length (fun k => ((nth (pts s 10) k : Nat) : Int))) := fun w' h => hpr.below h
        obtain ⟨M, HM⟩ : ∃ M, Hid (M = pts s 10) := ⟨_, rfl⟩
        have HMB : Hid (∀ k, k < M.length → nth M k < 10) := fun k hk => by
          rw [HM.out] at hk ⊢
          exact pts_lt s 10 _ (by unfold nth; exact getD_mem 0 hk)
        have HNO : Hid (∀ k, k < M.length → C (lack s (pw (nth M k))) = A → I s = false) := fun k hk he => by
          rw [HI.out]; rw [HM.out] at hk he; exact isKey_no2 hk (by rw [he, HA.out])
        have HYES : Hid ((∀ k, k < M.length → C (lack s (pw (nth M k))) ≠ A) → I s = true) := fun h => by
          rw [HI.out]; refine isKey_yes (by rw [hfull, HA.out]) (fun k hk => ?_)
          rw [← HM.out] at hk ⊢
          rw [← HA.out]; exact h k hk
        have hml : M.length ≤ 10 := by rw [HM.out]; exact pts_len s 10
        rw [← HM.out] at HPR ⊢
        clear hown1 hb2 hpr HB1 HM
        go_wp2_with fail
        go_loopw [23] (fun i wy => ∃ k : Nat, k ≤ M.length ∧ i = .int .i64 (k : Nat) ∧ Hid (∀ j, j < k → C (lack s (pw (nth M j))) ≠ A) ∧ Hid (Below w2.heap.size w2 wy)) (fun i _ => M.length - (intOf i).toNat)
        case atStart => exact ⟨0, Nat.zero_le _, rfl, upto_zero, Below.refl _ _⟩
        case round =>
          obtain ⟨k, hk, rfl, hok, hB⟩ := hrel
          by_cases hkl : k < M.length
          · obtain ⟨b, off, rfl, hck⟩ := HPR.out _ hB.out k hkl
            have hkl' : (k : Int) < (M.length : Int) := by omega
            have hm10 := HMB.out k hkl
            replace hck : wr.cell? ⟨b, off + k, none⟩ = some (.int .i64 ((nth M k : Nat) : Int)) := hck
            obtain ⟨i, HIE⟩ : ∃ i, Hid (i = nth M k) := ⟨_, rfl⟩
            rw [← HIE.out] at hck hm10
            have hpi := pw_le i (by omega)
            have v1 : bits .andNot .i64 ((s : Nat) : Int) ((pw i : Nat) : Int) = ((lack s (pw i) : Nat) : Int) := i64_andNot s (pw i) (by omega) (by omega)
            have hll : lack s (pw i) < pw n := Nat.lt_of_le_of_lt (lack_le _ _) hlt
            have v0 := wrap_pow i (show i < 62 by omega)
            obtain ⟨x, HX⟩ : ∃ x, Hid (x = lack s (pw i)) := ⟨_, rfl⟩
            rw [← HX.out] at v1 hll
            have hcx := HCl.out x hll
            go_wp2_with fail
            rw [hF, Oper.upon_enter]
            refine (HC.out x hll _ (Below.then HB2.out hB.out)).mono ?_
            rintro e w3 ⟨rfl, hb3⟩
            have HB3 : Hid (Below w2.heap.size w2 w3) := Below.then hB.out hb3
            clear hb3 hB hck
            by_cases hx : C x = A
            · have hq2 : (((C x : Nat) : Int) == ((A : Nat) : Int)) = true := by rw [hx]; exact beq_self_eq_true _
              have HE : Hid (fil I (s + 1) = fil I s) := fil_no (HNO.out k hkl (by rw [← HIE.out, ← HX.out]; exact hx))
              have HO3 : Hid (w3.ownsRow w.heap.size 3 1 u5 (fil I s).length (natVals (fil I s))) := owns_below HO2.out HB3.out
              have HB4 : Hid (Below w.heap.size w w3) := Below.then HB2.out HB3.out
              go_wp2_with (go_at_call 39; refine (all_any n _ h10).mono ?_; rintro e w' ⟨rfl, rfl⟩; rw [ea])
              go_roundw
              case rel => exact ⟨s + 1, by omega, by go_num, by rw [HE.out]; exact HO3.out, HB4⟩
              case measure => simp [intOf]; omega
            · have hq2 : (((C x : Nat) : Int) == ((A : Nat) : Int)) = false := beq_false_of_ne (by omega)
              have HOK : Hid (∀ j, j < k + 1 → C (lack s (pw (nth M j))) ≠ A) := upto_succ (P := fun j => C (lack s (pw (nth M j))) ≠ A) hok.out (by rw [← HIE.out, ← HX.out]; exact hx)
              go_wp2_with (go_at_call 39; refine (all_any n _ h10).mono ?_; rintro e w' ⟨rfl, rfl⟩; rw [ea])
              go_roundw
              case rel => exact ⟨k + 1, by omega, by go_num, HOK, HB3⟩
              case measure => simp [intOf]; omega
          · have hkn : k = M.length := by omega
            have HE : Hid (fil I (s + 1) = fil I s ++ [s]) := fil_yes (HYES.out (fun j hj => hok.out j (by omega)))
            have hke : (M.length : Int) ≤ (k : Int) := by omega
            have hown3 : wr.ownsRow w.heap.size 3 1 u5 (fil I s).length (natVals (fil I s)) := owns_below HO2.out hB.out
            have HB4 : Hid (Below w.heap.size w wr) := Below.then HB2.out hB.out
            have hsz : w.heap.size ≤ wr.heap.size := HB4.out.size
            have hlen := fil_len I s
            obtain ⟨L, HL⟩ : ∃ L, Hid (L = fil I s) := ⟨_, rfl⟩
            rw [← HL.out] at hown3 hlen
            clear hok hB HO2 HB2
            go_wp2_with (at_builtin; refine wpList_append_own _ rfl _ _ 23 rfl w.heap.size 3 i0 (.int .i64 0) 1 8 Tryd.underlying23 hi hz0 hz1 hz2 rfl (by decide) _ _ _ rfl (hown3.alloc _) ⟨wr.heap.size, 0, none⟩ 1 1 [.int .i64 (s : Nat)] rfl rfl ?c1 ?c2 ?c3 ?c4 ?c5 ?_)
            case c1 =>
              intro j u hj
              match j, hj with
              | 0, hj => simp at hj; subst hj; simp [Addr.add]
            case c2 => intro u hu; simp at hu; subst hu; rfl
            case c3 => unfold maxLen; omega
            case c4 => omega
            case c5 => simp; omega
            intro v' w4 hown' hgrow _
            have HB5 : Hid (Below w.heap.size w w4) := below_append3 HB4.out hown3 hgrow
            have HO5 : Hid (w4.ownsRow w.heap.size 3 1 v' (fil I (s + 1)).length (natVals (fil I (s + 1)))) := by
              rw [HE.out, ← HL.out, natVals_append, List.length_append]; exact hown'
            clear hown' hgrow hown3 HB4 hlen hsz HL
            go_wp2_with fail
            go_roundw
            case rel => exact ⟨s + 1, by omega, by go_num, HO5.out, HB5⟩
            case measure => simp [intOf]; omega
      · have hq : (((C s : Nat) : Int) != ((A : Nat) : Int)) = true := by simp; omega
        have HE : Hid (fil I (s + 1) = fil I s) := fil_no (by rw [HI.out]; exact isKey_no1 (by rw [← HA.out]; exact hfull))
        go_wp2_with (go_at_call 39; refine (all_any n _ h10).mono ?_; rintro e w' ⟨rfl, rfl⟩; rw [ea])
        go_roundw
        case rel => exact ⟨s + 1, by omega, by go_num, by rw [HE.out]; exact hown1, HB1⟩
        case measure => simp [intOf]; omega
    · have hsn : s = pw n := by omega
      have HF : Hid (NSl wr u5 (keysL C n)) := by rw [HKL.out, ← hsn]; exact owns_nats hown
      have hle : ((pw n : Nat) : Int) ≤ (s : Int) := by omega
      clear hown hsn hlt
      go_wp2_with fail
      rw [Exit.noGoto_ret]
      go_ret
      exact ⟨⟨_, rfl, HF.out⟩, hB.out⟩

/-- What Close must answer. -/
def ClIs (N : Int) (len : Nat) (p : Nat → Int × Int) (S : Int) (e : Ending) : Prop :=
  (∃ c : Int, c ≠ 0 ∧ RChk N len p c ∧ e = .returned (.tuple #[.int .i64 0, .int .i64 c])) ∨
  (∃ n : Nat, N = n ∧ RChk N len p 0 ∧ n ≤ 10 ∧ len ≤ 60 ∧ RIs n len p ∧ ((¬ (0 ≤ S ∧ S < (pw n : Nat)) ∧ e = .returned (.tuple #[.int .i64 0, .int .i64 3])) ∨ ∃ s : Nat, S = s ∧ s < pw n ∧ e = .returned (.tuple #[.int .i64 ((clo (rls p len) n s : Nat) : Int), .int .i64 0])))
set_option maxHeartbeats 1000000 in
theorem close_any (N : Int) (a : Option Addr) (len cap : Nat) (p : Nat → Int × Int) (S : Int) (w : World) (hl : len ≤ maxLen) (hr : PRow w a len p) :
    Calls Tryd.prog 29 #[.int .i64 N, .slice a len cap, .int .i64 S] w fun e w' => ClIs N len p S e ∧ Below w.heap.size w w' := by
  have HR : Hid (∀ w', Below w.heap.size w w' → PRow w' a len p) := fun w' h => hr.below h
  have HCK : Hid (Calls Tryd.prog 26 #[.int .i64 N, .slice a len cap] w _) := iCheck_any N a len cap p w hl hr
  clear hr
  go_enter Tryd.func29, Tryd.ntmps29
  go_wp2_with fail
  refine HCK.out.mono ?_
  rintro e w1 ⟨⟨c, rfl, hc⟩, hb⟩
  have HB1 : Hid (Below w.heap.size w w1) := hb
  clear hb HCK
  by_cases h0 : c = 0
  · subst h0
    obtain ⟨n, rfl, h10, h60, hri⟩ := hc.good
    have HC : Hid (RChk (n : Int) len p 0) := hc
    have HRI : Hid (RIs n len p) := hri
    clear hc hri
    by_cases hs : 0 ≤ S ∧ S < (pw n : Nat)
    · have hsd : sts S n = true := by simpa [sts] using hs
      obtain ⟨s, rfl⟩ := Int.eq_ofNat_of_zero_le hs.1
      have hsn : s < pw n := by omega
      clear hs
      obtain ⟨R, HRE⟩ : ∃ R, Hid (R = rls p len) := ⟨_, rfl⟩
      have hlen : R.length = len := by rw [HRE.out]; exact rls_len p len
      have HBY : Hid (∀ w', Below w.heap.size w w' → Calls Tryd.prog 28 #[.slice a len cap] w' fun e w'' => e = .returned (.func (.func 41) #[] #[.pointer (some ⟨w'.heap.size, 0, none⟩)]) ∧ CloN n 41 #[.pointer (some ⟨w'.heap.size, 0, none⟩)] (clo R n) w'' ∧ Below w'.heap.size w' w'') := fun w' h => by
        have h1 := HRI.out.row (HR.out w' h)
        have h2 := HRI.out.rin
        rw [← HRE.out] at h1 h2
        have := byRules_any n R a cap w' h10 h2 (by rw [hlen]; exact h60) h1
        rw [hlen] at this; exact this
      go_wp2_with (go_at_call 42; refine (isSet_any _ _ _ h10).mono ?_; rintro e w' ⟨rfl, rfl⟩)
      refine (HBY.out _ HB1.out).mono ?_
      rintro e w2 ⟨rfl, hcl, hb2⟩
      have HCL : Hid (CloN n 41 _ (clo R n) w2) := hcl
      have HB2 : Hid (Below w.heap.size w w2) := Below.then HB1.out hb2
      clear hcl hb2 HBY
      obtain ⟨caps, HCP⟩ : ∃ c : Array Value, Hid (c = #[.pointer (some ⟨w1.heap.size, 0, none⟩)]) := ⟨_, rfl⟩
      rw [← HCP.out] at HCL ⊢
      go_wp2_with fail
      refine (HCL.out s hsn _ (Below.refl _ _)).mono ?_
      rintro e w3 ⟨rfl, hb3⟩
      have HB3 : Hid (Below w.heap.size w w3) := Below.then HB2.out hb3
      clear hb3
      go_wp2_with fail
      go_ret2
      exact ⟨.inr ⟨n, rfl, HC.out, h10, h60, HRI.out, .inr ⟨s, rfl, hsn, by rw [← HRE.out]; rfl⟩⟩, HB3.out⟩
    · have hsd : sts S n = false := by simpa [sts] using hs
      have HS : Hid (¬ (0 ≤ S ∧ S < (pw n : Nat))) := hs
      clear hs
      go_wp2_with (go_at_call 42; refine (isSet_any _ _ _ h10).mono ?_; rintro e w' ⟨rfl, rfl⟩)
      go_ret2
      exact ⟨.inr ⟨n, rfl, HC.out, h10, h60, HRI.out, .inl ⟨HS.out, rfl⟩⟩, HB1.out⟩
  · have hne : (c != 0) = true := by simpa using h0
    have HC : Hid (RChk N len p c) := hc
    clear hc
    go_wp2_with fail
    go_ret2
    exact ⟨.inl ⟨c, h0, HC.out, rfl⟩, HB1.out⟩

/-- What Keys must answer. -/
def KyIs (N : Int) (len : Nat) (p : Nat → Int × Int) (e : Ending) (w' : World) : Prop :=
  (∃ c : Int, c ≠ 0 ∧ RChk N len p c ∧ e = .returned (.tuple #[.slice none 0 0, .int .i64 c])) ∨
  (∃ (n : Nat) (v : Value), N = n ∧ RChk N len p 0 ∧ n ≤ 10 ∧ len ≤ 60 ∧ RIs n len p ∧ e = .returned (.tuple #[v, .int .i64 0]) ∧ NSl w' v (keysL (clo (rls p len) n) n))
set_option maxHeartbeats 1000000 in
theorem keysX_any (N : Int) (a : Option Addr) (len cap : Nat) (p : Nat → Int × Int) (w : World) (hl : len ≤ maxLen) (hr : PRow w a len p) (hT : Tab w) :
    Calls Tryd.prog 8 #[.int .i64 N, .slice a len cap] w fun e w' => KyIs N len p e w' ∧ Below w.heap.size w w' := by
  have HR : Hid (∀ w', Below w.heap.size w w' → PRow w' a len p) := fun w' h => hr.below h
  have HT : Hid (Tab w) := hT
  have HCK : Hid (Calls Tryd.prog 26 #[.int .i64 N, .slice a len cap] w _) := iCheck_any N a len cap p w hl hr
  clear hr hT
  go_enter Tryd.func8, Tryd.ntmps8
  go_wp2_with fail
  refine HCK.out.mono ?_
  rintro e w1 ⟨⟨c, rfl, hc⟩, hb⟩
  have HB1 : Hid (Below w.heap.size w w1) := hb
  clear hb HCK
  by_cases h0 : c = 0
  · subst h0
    obtain ⟨n, rfl, h10, h60, hri⟩ := hc.good
    have HC : Hid (RChk (n : Int) len p 0) := hc
    have HRI : Hid (RIs n len p) := hri
    clear hc hri
    obtain ⟨R, HRE⟩ : ∃ R, Hid (R = rls p len) := ⟨_, rfl⟩
    have hlen : R.length = len := by rw [HRE.out]; exact rls_len p len
    have HBY : Hid (Calls Tryd.prog 28 #[.slice a len cap] w1 fun e w'' => e = .returned (.func (.func 41) #[] #[.pointer (some ⟨w1.heap.size, 0, none⟩)]) ∧ CloN n 41 #[.pointer (some ⟨w1.heap.size, 0, none⟩)] (clo R n) w'' ∧ Below w1.heap.size w1 w'') := by
      have h1 := HRI.out.row (HR.out w1 HB1.out)
      have h2 := HRI.out.rin
      rw [← HRE.out] at h1 h2
      have := byRules_any n R a cap w1 h10 h2 (by rw [hlen]; exact h60) h1
      rw [hlen] at this; exact this
    have HLT : Hid (∀ s, s < pw n → clo R n s < 1024) := fun s _ => set_1024 h10 clo_lt
    go_wp2_with fail
    refine HBY.out.mono ?_
    rintro e w2 ⟨rfl, hcl, hb2⟩
    have HCL : Hid (CloN n 41 _ (clo R n) w2) := hcl
    have HB2 : Hid (Below w.heap.size w w2) := Below.then HB1.out hb2
    clear hcl hb2 HBY
    go_wp2_with fail
    refine (keys_any n _ _ (clo R n) _ h10 (HT.out.step HB2.out) ent_br HCL.out HLT.out).mono ?_
    rintro e w3 ⟨⟨v, rfl, hv⟩, hb3⟩
    have HB3 : Hid (Below w.heap.size w w3) := Below.then HB2.out hb3
    have HV : Hid (NSl w3 v (keysL (clo R n) n)) := hv
    clear hb3 hv
    go_wp2_with fail
    go_ret2
    exact ⟨.inr ⟨n, _, rfl, HC.out, h10, h60, HRI.out, rfl, by rw [← HRE.out]; exact HV.out⟩, HB3.out⟩
  · have hne : (c != 0) = true := by simpa using h0
    have HC : Hid (RChk N len p c) := hc
    clear hc
    go_wp2_with fail
    go_ret2
    exact ⟨.inl ⟨c, h0, HC.out, rfl⟩, HB1.out⟩

/-- What Base must answer. -/
def BsIs (N : Int) (len : Nat) (p : Nat → Int × Int) (e : Ending) (w' : World) : Prop :=
  (∃ c : Int, c ≠ 0 ∧ RChk N len p c ∧ e = .returned (.tuple #[.slice none 0 0, .int .i64 c])) ∨
  (∃ n : Nat, N = n ∧ RChk N len p 0 ∧ n ≤ 10 ∧ len ≤ 60 ∧ RIs n len p ∧ BasIs (bas (clo (rls p len) n) (pw n)) e w')
theorem BasIs.form {L : List (Nat × Nat)} {e : Ending} {w' : World} (h : BasIs L e w') : ∃ pa k cap c, e = .returned (.tuple #[.slice pa k cap, .int .i64 c]) := by
  rcases h with ⟨_, rfl⟩ | ⟨_, v, rfl, a, cap, rfl, _⟩
  · exact ⟨_, _, _, _, rfl⟩
  · exact ⟨_, _, _, _, rfl⟩
set_option maxHeartbeats 1000000 in
theorem baseX_any (N : Int) (a : Option Addr) (len cap : Nat) (p : Nat → Int × Int) (w : World) (hl : len ≤ maxLen) (hr : PRow w a len p) :
    Calls Tryd.prog 15 #[.int .i64 N, .slice a len cap] w fun e w' => BsIs N len p e w' ∧ Below w.heap.size w w' := by
  have HR : Hid (∀ w', Below w.heap.size w w' → PRow w' a len p) := fun w' h => hr.below h
  have HCK : Hid (Calls Tryd.prog 26 #[.int .i64 N, .slice a len cap] w _) := iCheck_any N a len cap p w hl hr
  clear hr
  go_enter Tryd.func15, Tryd.ntmps15
  go_wp2_with fail
  refine HCK.out.mono ?_
  rintro e w1 ⟨⟨c, rfl, hc⟩, hb⟩
  have HB1 : Hid (Below w.heap.size w w1) := hb
  clear hb HCK
  by_cases h0 : c = 0
  · subst h0
    obtain ⟨n, rfl, h10, h60, hri⟩ := hc.good
    have HC : Hid (RChk (n : Int) len p 0) := hc
    have HRI : Hid (RIs n len p) := hri
    clear hc hri
    obtain ⟨R, HRE⟩ : ∃ R, Hid (R = rls p len) := ⟨_, rfl⟩
    have hlen : R.length = len := by rw [HRE.out]; exact rls_len p len
    have HBY : Hid (Calls Tryd.prog 28 #[.slice a len cap] w1 fun e w'' => e = .returned (.func (.func 41) #[] #[.pointer (some ⟨w1.heap.size, 0, none⟩)]) ∧ CloN n 41 #[.pointer (some ⟨w1.heap.size, 0, none⟩)] (clo R n) w'' ∧ Below w1.heap.size w1 w'') := by
      have h1 := HRI.out.row (HR.out w1 HB1.out)
      have h2 := HRI.out.rin
      rw [← HRE.out] at h1 h2
      have := byRules_any n R a cap w1 h10 h2 (by rw [hlen]; exact h60) h1
      rw [hlen] at this; exact this
    have HLT : Hid (∀ s, s < pw n → clo R n s < 1024) := fun s _ => set_1024 h10 clo_lt
    go_wp2_with fail
    refine HBY.out.mono ?_
    rintro e w2 ⟨rfl, hcl, hb2⟩
    have HCL : Hid (CloN n 41 _ (clo R n) w2) := hcl
    have HB2 : Hid (Below w.heap.size w w2) := Below.then HB1.out hb2
    clear hcl hb2 HBY
    go_wp2_with fail
    refine (base_any n _ _ (clo R n) _ h10 ent_br HCL.out HLT.out).mono ?_
    rintro e w3 ⟨hv, hb3⟩
    have HB3 : Hid (Below w.heap.size w w3) := Below.then HB2.out hb3
    obtain ⟨pa, k, cp, c, rfl⟩ := hv.form
    have HV : Hid (BasIs (bas (clo R n) (pw n)) (.returned (.tuple #[.slice pa k cp, .int .i64 c])) w3) := hv
    clear hb3 hv
    go_wp2_with fail
    go_ret2
    exact ⟨.inr ⟨n, rfl, HC.out, h10, h60, HRI.out, by rw [← HRE.out]; exact HV.out⟩, HB3.out⟩
  · have hne : (c != 0) = true := by simpa using h0
    have HC : Hid (RChk N len p c) := hc
    clear hc
    go_wp2_with fail
    go_ret2
    exact ⟨.inl ⟨c, h0, HC.out, rfl⟩, HB1.out⟩
end Go.Proofs.YtgjdpgjaaaeglaaDoor
