/-
  The dual of an order is one. No condition.
-/
import Derived.Test.YtpdhfibollealaaDoorCutM
import Derived.Test.YtpdhfibollealaaDoorGood
namespace Go.Proofs.YtpdhfibollealaaDoor

theorem trn_lt (g : Nat → Nat) (n x : Nat) : trn g n x < pw n := setBy_lt _ n
theorem big {n x : Nat} (hn : n ≤ 10) (h : x < pw n) : x < 18446744073709551616 := by have := pw_le n hn; omega
theorem trn_ord {g : Nat → Nat} {n : Nat} (hn : n ≤ 10) (hg : ∀ k, k < n → g k < pw n) (ho : Ord n g) : Ord n (trn g n) := by
  intro u hu
  refine ⟨by rw [trn_bit, (ho u hu).1]; simp, fun p hp hb => ?_⟩
  rw [trn_bit] at hb
  simp only [Bool.and_eq_true, decide_eq_true_eq] at hb
  refine (lack_zero _ _ (big hn (trn_lt g n p)) (big hn (trn_lt g n u))).2 fun j hj => ?_
  rw [trn_bit] at hj ⊢
  simp only [Bool.and_eq_true, decide_eq_true_eq] at hj ⊢
  exact ⟨hj.1, (lack_zero _ _ (big hn (hg p hp)) (big hn (hg j hj.1))).1 ((ho j hj.1).2 p hp hj.2) u hb.2⟩
theorem trn_trn {g : Nat → Nat} {n : Nat} (hg : ∀ k, k < n → g k < pw n) (k : Nat) (hk : k < n) : trn (trn g n) n k = g k := by
  refine eq_of_bits (trn_lt _ n k) (hg k hk) fun i hi => ?_
  rw [trn_bit, trn_bit]; simp [hi, hk]
theorem nat_cast (g : Nat → Nat) : nat (fun k => ((g k : Nat) : Int)) = g := by funext k; simp [nat]
theorem trn_chk {g : Nat → Nat} {n : Nat} (hn : n ≤ 10) (hg : ∀ k, k < n → g k < pw n) (ho : Ord n g) : Chk (n : Int) n (fun k => ((trn g n k : Nat) : Int)) 0 := by
  refine .inr ⟨n, rfl, hn, .inr ⟨rfl, .inr ⟨fun k _ => ⟨Int.natCast_nonneg _, Int.ofNat_lt.2 (trn_lt g n k)⟩, .inr ⟨rfl, ?_⟩⟩⟩⟩
  rw [nat_cast]; exact trn_ord hn hg ho

end Go.Proofs.YtpdhfibollealaaDoor
