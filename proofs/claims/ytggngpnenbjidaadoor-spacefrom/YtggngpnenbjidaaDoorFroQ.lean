/-
  What space.FromOpens answers, whatever it is handed: the document's X1. Condition: the table of the least bits.
-/
import Derived.Test.YtggngpnenbjidaaDoorFroP
import Derived.Test.YtggngpnenbjidaaDoorSBeg
namespace Go.Proofs.YtggngpnenbjidaaDoor
set_option maxRecDepth 100000
open Go.RowKit

theorem ris_ge {n len : Nat} {f : Nat → Int} (h : FIn n len f) (hr : Ris len f) : ∀ k, k < len → (k : Int) ≤ f k
  | 0, hk => (h 0 hk).1
  | k + 1, hk => by
    have h1 := ris_ge h hr k (by omega)
    have h2 := hr (k + 1) hk (by omega)
    rw [Nat.add_sub_cancel] at h2
    omega
theorem ris_len {n len : Nat} {f : Nat → Int} (h : FIn n len f) (hr : Ris len f) : len ≤ pw n := by
  cases len with
  | zero => exact Nat.zero_le _
  | succ m =>
    have h1 := ris_ge h hr m (by omega)
    have h2 := (h m (by omega)).2
    omega
/-- Is there an order of which just these sets are open? -/
def FG (n len : Nat) (f : Nat → Int) : Prop := Chk (n : Int) n (fun k => ((bl (nat f) len n k : Nat) : Int)) 0 ∧ SameRows (opn (bl (nat f) len n) n).length len (fun k => ((nth (opn (bl (nat f) len n) n) k : Nat) : Int)) f
def FrPost (N : Int) (len : Nat) (f : Nat → Int) (e : Ending) (w' : World) : Prop :=
  ∃ (c : Int) (x : Value), e = .returned (.tuple #[x, .int .i64 c]) ∧ ((c ≠ 0 ∧ FChk N len f c ∧ x = noOrder) ∨ ∃ n : Nat, N = n ∧ FChk N len f 0 ∧ ((c = 4 ∧ ¬ FG n len f ∧ x = noOrder) ∨ (c = 0 ∧ FG n len f ∧ ∃ a cap, x = .agg #[.int .i64 (n : Int), .slice a n cap] ∧ Row w' a n (fun k => ((bl (nat f) len n k : Nat) : Int)))))

set_option maxHeartbeats 8000000 in
theorem fromOpens_any (N : Int) (a : Option Addr) (len cap : Nat) (f : Nat → Int) (w : World) (hl : len ≤ maxLen) (hr : Row w a len f) (hT : Tab w) :
    Calls Tryd.prog 14 #[.int .i64 N, .slice a len cap] w fun e w' => FrPost N len f e w' ∧ Below w.heap.size w w' := by
  have hb0 : Below w.heap.size w (w.alloc (.cells #[.int .i64 0, .slice none 0 0] 24)) := bel_one w _
  have HB0 : Hid (Below w.heap.size w (w.alloc (.cells #[.int .i64 0, .slice none 0 0] 24))) := hb0
  have HZ0 : Hid (ZBox (w.alloc (.cells #[.int .i64 0, .slice none 0 0] 24)) w.heap.size) := ZBox.new w
  have HR0 : Hid (Row (w.alloc (.cells #[.int .i64 0, .slice none 0 0] 24)) a len f) := hr.below hb0
  have HT0 : Hid (Tab (w.alloc (.cells #[.int .i64 0, .slice none 0 0] 24))) := hT.step hb0
  clear hr hT hb0
  go_enter Tryd.func14, Tryd.ntmps14
  go_wp2_with fail
  refine (checkRising_any N a len cap f _ hl HR0.out).mono ?_
  rintro e w1 ⟨⟨c, rfl, hc⟩, hb1⟩
  have HB1 : Hid (Below w.heap.size w w1) := Below.then HB0.out hb1
  have HZ1 : Hid (ZBox w1 w.heap.size) := HZ0.out.step hb1
  have HR1 : Hid (Row w1 a len f) := HR0.out.below hb1
  have HT1 : Hid (Tab w1) := HT0.out.step hb1
  clear hb1 HB0 HZ0 HR0 HT0
  by_cases h0 : c = 0
  · subst h0
    obtain ⟨n, rfl, h10, hin, hris⟩ := hc.good
    have HC : Hid (FChk (n : Int) len f 0) := hc
    have hpl := pw_le n h10
    have hlen := ris_len hin hris
    have HF : Hid (∀ k, k < len → nat f k < pw n) := hin.small
    have HRN : Hid (Row w1 a len (fun k => ((nat f k : Nat) : Int))) := hin.row HR1.out
    clear hc hin hris
    go_wp2_with fail
    refine (belowBy_any a n len cap (nat f) w1 h10 (by omega) HF.out HRN.out HT1.out).mono ?_
    rintro e w2 ⟨⟨BB, rfl, hO, hBB⟩, hb2⟩
    have hbx := bel_one w2 (.cells #[.int .i64 (n : Int), .slice (some ⟨BB, 0, none⟩) n n] 24)
    have HB3 : Hid (Below w.heap.size w (w2.alloc (.cells #[.int .i64 (n : Int), .slice (some ⟨BB, 0, none⟩) n n] 24))) := Below.then (Below.then HB1.out hb2) hbx
    have HZ3 : Hid (ZBox (w2.alloc (.cells #[.int .i64 (n : Int), .slice (some ⟨BB, 0, none⟩) n n] 24)) w.heap.size) := (HZ1.out.step hb2).step hbx
    have HR3 : Hid (Row (w2.alloc (.cells #[.int .i64 (n : Int), .slice (some ⟨BB, 0, none⟩) n n] 24)) a len f) := (HR1.out.below hb2).below hbx
    have K3 : Hid (Held (w2.alloc (.cells #[.int .i64 (n : Int), .slice (some ⟨BB, 0, none⟩) n n] 24)) w2.heap.size n (some ⟨BB, 0, none⟩) n n (fun k => ((bl (nat f) len n k : Nat) : Int))) := Held.box hO.row
    have HFB : Hid (w.heap.size + 1 ≤ BB) := by
      have hlt : w.heap.size < w1.heap.size := World.block_lt_of_cell? _ _ HZ1.out.1
      show _ ≤ _
      omega
    clear hb2 hO hbx hBB HB1 HZ1 HR1 HT1 HRN
    go_wp2_with fail
    refine (opens_any n _ n n _ _ (by unfold maxLen; omega) K3.out.row).mono ?_
    rintro e w4 ⟨⟨c, v, rfl, hc, hv⟩, hb4⟩
    have HB4 : Hid (Below w.heap.size w w4) := Below.then HB3.out hb4
    have HZ4 : Hid (ZBox w4 w.heap.size) := HZ3.out.step hb4
    have HR4 : Hid (Row w4 a len f) := HR3.out.below hb4
    have K4 : Hid (Held w4 w2.heap.size n (some ⟨BB, 0, none⟩) n n (fun k => ((bl (nat f) len n k : Nat) : Int))) := K3.out.step hb4
    clear hb4 HB3 HZ3 HR3 K3
    by_cases hc0 : c = 0
    · subst hc0
      obtain ⟨va, vc, rfl, hrow⟩ : NSl w4 v (opn (bl (nat f) len n) n) := by
        rcases hv with ⟨h, _⟩ | ⟨_, h, _⟩
        · exact absurd rfl h
        · rw [nat_cast] at h; exact h
      have HOW : Hid (Row w4 va (opn (bl (nat f) len n) n).length (fun k => ((nth (opn (bl (nat f) len n) n) k : Nat) : Int))) := hrow
      have HOL : Hid ((opn (bl (nat f) len n) n).length ≤ maxLen) := Nat.le_trans (idls_len _ _ h10) (by decide)
      have HCK : Hid (Chk (n : Int) n (fun k => ((bl (nat f) len n k : Nat) : Int)) 0) := hc
      clear hc hv hrow
      go_wp2_with fail
      refine (equal_any va a _ vc len cap _ _ w4 HOL.out hl HOW.out HR4.out).mono ?_
      rintro e w5 ⟨⟨b, rfl, hb⟩, hb5⟩
      have HB5 : Hid (Below w.heap.size w w5) := Below.then HB4.out hb5
      have HZ5 : Hid (ZBox w5 w.heap.size) := HZ4.out.step hb5
      have K5 : Hid (Held w5 w2.heap.size n (some ⟨BB, 0, none⟩) n n (fun k => ((bl (nat f) len n k : Nat) : Int))) := K4.out.step hb5
      have HSR : Hid (b = true ↔ SameRows (opn (bl (nat f) len n) n).length len (fun k => ((nth (opn (bl (nat f) len n) n) k : Nat) : Int)) f) := hb
      clear hb hb5 HB4 HZ4 HR4 K4 HOW HOL
      obtain ⟨r0, r1, r2, r3⟩ := HZ5.out
      cases b
      · have HNG : Hid (¬ FG n len f) := fun h => by have := HSR.out.2 h.2; cases this
        clear HSR
        go_wp2_with fail
        exact bodyPost_ret (v := .tuple #[noOrder, .int .i64 4]) (by simp [results, Tryd.results14, go_sem, noOrder, r0, r1]) rfl ⟨⟨4, _, rfl, .inr ⟨n, rfl, HC.out, .inl ⟨rfl, HNG.out, rfl⟩⟩⟩, set2B HB5.out (by omega)⟩
      · have HYG : Hid (FG n len f) := ⟨HCK.out, HSR.out.1 rfl⟩
        have k0 := K5.out.c0
        have k1 := K5.out.c1
        have HRO : Hid (Row w5 (some ⟨BB, 0, none⟩) n (fun k => ((bl (nat f) len n k : Nat) : Int))) := K5.out.row
        clear HSR HCK K5
        go_wp2_with fail
        refine bodyPost_ret (v := .tuple #[.agg #[.int .i64 (n : Int), .slice (some ⟨BB, 0, none⟩) n n], .int .i64 0]) (by simp [results, Tryd.results14, go_sem, r0, r1]) rfl ⟨⟨0, _, rfl, .inr ⟨n, rfl, HC.out, .inr ⟨rfl, HYG.out, _, _, rfl, ?_⟩⟩⟩, set2B HB5.out (by omega)⟩
        exact row_set2 HRO.out (fun _ => ⟨_, _, rfl, HFB.out⟩)
    · have hne : (c != 0) = true := by simpa using hc0
      have HNG : Hid (¬ FG n len f) := fun h => hc0 (hc.unique h.1)
      obtain ⟨r0, r1, r2, r3⟩ := HZ4.out
      clear hc hv hc0
      go_wp2_with fail
      exact bodyPost_ret (v := .tuple #[noOrder, .int .i64 4]) (by simp [results, Tryd.results14, go_sem, noOrder, r0, r1]) rfl ⟨⟨4, _, rfl, .inr ⟨n, rfl, HC.out, .inl ⟨rfl, HNG.out, rfl⟩⟩⟩, set2B HB4.out (by omega)⟩
  · have hne : (c != 0) = true := by simpa using h0
    obtain ⟨r0, r1, r2, r3⟩ := HZ1.out
    have HC : Hid (FChk N len f c) := hc
    clear hc
    go_wp2_with fail
    exact bodyPost_ret (v := .tuple #[noOrder, .int .i64 c]) (by simp [results, Tryd.results14, go_sem, noOrder, r0, r1]) rfl ⟨⟨c, _, rfl, .inl ⟨h0, HC.out, rfl⟩⟩, set2B HB1.out (by omega)⟩
end Go.Proofs.YtggngpnenbjidaaDoor
