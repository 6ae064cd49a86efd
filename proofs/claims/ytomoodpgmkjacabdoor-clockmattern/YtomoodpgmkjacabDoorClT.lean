/-
  What clock.Ticks and Cuts answer, whatever they are handed. Condition: a slice reads as a slice of events.
-/
import Derived.Test.YtomoodpgmkjacabDoorClA
import Derived.Test.YtomoodpgmkjacabDoorHeights
namespace Go.Proofs.YtomoodpgmkjacabDoor
open Go.RowKit

theorem nat_cast (g : Nat → Nat) : nat (fun k => (g k : Nat)) = g := by funext k; simp [nat]
theorem ahd_chk {E : Nat → Int × Int × Int} {n : Nat} (hn : n ≤ 10) : Chk (n : Int) n (fun k => (ahd E n k : Nat)) 0 :=
  .inr ⟨n, rfl, hn, .inr ⟨rfl, .inr ⟨fun k hk => ⟨Int.natCast_nonneg _, Int.ofNat_lt.2 (ahd_sm E n k hk)⟩, .inr ⟨rfl, by rw [nat_cast]; exact ahd_ord hn⟩⟩⟩⟩
/-- How many events the longest chain up to each has. -/
def tck (E : Nat → Int × Int × Int) (n i : Nat) : Nat := ht (ahd E n) n i + 1
/-- What comes with a code: a list, or nothing. -/
def LstPost (Wk : Int) (len : Nat) (E : Nat → Int × Int × Int) (L : List Nat) (e : Ending) (w' : World) : Prop :=
  ∃ (c : Int) (v : Value), CkE Wk len E c ∧ e = .returned (.tuple #[v, .int .i64 c]) ∧ ((c ≠ 0 ∧ v = .slice none 0 0) ∨ (c = 0 ∧ NSl w' v L))
theorem ownl {w : World} {b n : Nat} {F : Nat → Nat} (h : Own w b n F) : NSl w (.slice (some ⟨b, 0, none⟩) n n) (mapTo F n) :=
  ⟨some ⟨b, 0, none⟩, n, by rw [mapTo_len], fun k hk => by
    rw [mapTo_len] at hk
    have := h.row k hk
    simpa [nth, mapTo, hk] using this⟩
set_option maxHeartbeats 2000000 in
theorem ticks_any (Wk : Int) (a : Option Addr) (len cap : Nat) (E : Nat → Int × Int × Int) (w : World) (hl : len ≤ maxLen) (hc : len ≤ cap) (hr : ERow w a len E) :
    Calls Tryd.prog 8 #[.int .i64 Wk, .slice a len cap] w fun e w' => LstPost Wk len E (mapTo (tck E len) len) e w' ∧ Below w.heap.size w w' := by
  have HA := ahead_any Wk a len cap E w hl hc hr
  clear hr
  go_enter Tryd.func8, Tryd.ntmps8
  go_wp2_with fail
  refine HA.mono ?_
  rintro e w1 ⟨⟨c, x, hck, rfl, hx⟩, hb⟩
  have HC : Hid (CkE Wk len E c) := hck
  have HB1 : Hid (Below w.heap.size w w1) := hb
  clear hck hb HA
  rcases hx with ⟨h0, rfl⟩ | ⟨rfl, b, hbs, rfl, hO⟩
  · have h0' : (c != 0) = true := by simpa using h0
    have HB2 : Hid (∀ o, Below w.heap.size w (w1.alloc o)) := fun o => HB1.out.alloc HB1.out.size o
    unfold noOrder
    go_wp2_with fail
    go_ret2
    exact ⟨⟨c, _, HC.out, rfl, .inl ⟨h0, rfl⟩⟩, HB2.out _⟩
  · obtain ⟨⟨_, _, h10⟩, hev⟩ := HC.out.good
    clear hev
    have bA := (Below.refl w1.heap.size w1).alloc (Nat.le_refl _) (.cells #[.int .i64 (len : Int), .slice (some ⟨b, 0, none⟩) len len] 26)
    have HRow : Hid (Row (w1.alloc (.cells #[.int .i64 (len : Int), .slice (some ⟨b, 0, none⟩) len len] 26)) (some ⟨b, 0, none⟩) len (fun k => (ahd E len k : Nat))) := hO.row.below bA
    have HB2 : Hid (Below w.heap.size w (w1.alloc (.cells #[.int .i64 (len : Int), .slice (some ⟨b, 0, none⟩) len len] 26))) := Below.then HB1.out bA
    have HCH : Hid (Chk (len : Int) len (fun k => (ahd E len k : Nat)) 0) := ahd_chk h10
    clear hO bA HB1
    go_wp2_with fail
    refine (heights_any (len : Int) _ len len _ _ hl HRow.out).mono ?_
    rintro e w2 ⟨⟨c2, v, hc2, rfl, hv⟩, hb2⟩
    obtain rfl : c2 = 0 := hc2.unique HCH.out
    have HB3 : Hid (Below w.heap.size w w2) := Below.then HB2.out hb2
    rcases hv with ⟨h, _⟩ | ⟨_, b2, hbs2, rfl, hO2⟩
    · exact absurd rfl h
    rw [nat_cast] at hO2
    have HS2 : Hid (w.heap.size ≤ b2) := Nat.le_trans HB2.out.size hbs2
    have HT : Hid (∀ i, ht (ahd E len) len i ≤ 1024) := fun i => ht_small _ h10 i
    obtain ⟨F, HF⟩ : ∃ F, Hid (F = ht (ahd E len) len) := ⟨_, rfl⟩
    have HFIN : Hid (∀ wx, Own wx b2 len (fun i => F i + 1) → NSl wx (.slice (some ⟨b2, 0, none⟩) len len) (mapTo (tck E len) len)) := fun wx h => ownl (by rw [HF.out] at h; exact h)
    rw [← HF.out] at hO2 HT
    have HO2 : Hid (Own w2 b2 len (fun i => if i < 0 then F i + 1 else F i)) := hO2.congr fun i hi => by simp
    clear hO2 hb2 hbs2 HB2 HRow hc2 HCH HF
    go_wp2_with fail
    go_loopw [29] (fun t wx => ∃ k : Nat, k ≤ len ∧ t = .int .i64 k ∧ Hid (Own wx b2 len (fun i => if i < k then F i + 1 else F i)) ∧ Hid (Below w.heap.size w wx)) (fun t _ => len - (intOf t).toNat)
    case atStart => exact ⟨0, Nat.zero_le _, rfl, HO2.out, HB3.out⟩
    case round =>
      clear HO2 HB3
      obtain ⟨k, hk, rfl, hO, hB⟩ := hrel
      by_cases hlt : k < len
      · have hlt' : (k : Int) < (len : Int) := by omega
        have hck := (hO.out k hlt).1
        have hfk := (hO.out k hlt).2
        simp only [Nat.lt_irrefl, if_false] at hck
        have hF := HT.out k
        have HN : Hid (Own (wr.setCell ⟨b2, k, none⟩ (.int .i64 ((F k + 1 : Nat) : Int))) b2 len (fun i => if i < k + 1 then F i + 1 else F i)) := by
          have h := hO.out.set k (F k + 1) hlt
          refine h.congr fun i hi => ?_
          unfold upd
          by_cases e : i = k
          · subst e; simp
          · simp only [e, if_false]
            by_cases e2 : i < k
            · simp [e2, show i < k + 1 by omega]
            · simp [e2, show ¬ i < k + 1 by omega]
        have HBN : Hid (Below w.heap.size w (wr.setCell ⟨b2, k, none⟩ (.int .i64 ((F k + 1 : Nat) : Int)))) := hB.out.setCell (p := ⟨b2, k, none⟩) HS2.out _
        clear hO hB
        go_wp2_with fail
        go_roundw
        case rel => exact ⟨k + 1, by omega, by go_num, (by have h := HN.out; rw [Int.natCast_add] at h; exact h), (by have h := HBN.out; rw [Int.natCast_add] at h; exact h)⟩
        case measure => simp [intOf]; omega
      · obtain rfl : k = len := by omega
        have HN : Hid (NSl wr (.slice (some ⟨b2, 0, none⟩) k k) (mapTo (tck E k) k)) := HFIN.out wr (hO.out.congr fun i hi => by simp [hi])
        clear hO
        go_wp2_with fail
        go_ret2
        exact ⟨⟨0, _, HC.out, rfl, .inr ⟨rfl, HN.out⟩⟩, hB.out⟩
/-- A number comes with a code, or nought. -/
def NumPost (Wk : Int) (len : Nat) (E : Nat → Int × Int × Int) (x : Nat) (e : Ending) : Prop :=
  ∃ (c : Int) (y : Int), CkE Wk len E c ∧ e = .returned (.tuple #[.int .i64 y, .int .i64 c]) ∧ ((c ≠ 0 ∧ y = 0) ∨ (c = 0 ∧ y = (x : Nat)))
end Go.Proofs.YtomoodpgmkjacabDoor
