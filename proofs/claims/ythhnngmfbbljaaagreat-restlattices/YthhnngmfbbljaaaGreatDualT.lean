/-
  The ideals of an order, with what two have in common and what they have together, are a lattice. Condition: an order of at most ten points.
  Lower and upper sets as numbers; what the program's rounds and the reference's make is the same. Conditions: as each theorem says.
  The dual of an order is one. No condition.
  What order.turn and order.Dual answer. No condition but that a slice reads as a slice of numbers.
-/
import Derived.Test.YthhnngmfbbljaaaGreatFilM
import Derived.Test.YthhnngmfbbljaaaGreatTriM
import Derived.Test.YthhnngmfbbljaaaGreatBuild
namespace Go.Proofs.YthhnngmfbbljaaaGreat
set_option maxRecDepth 100000

/-- An order of at most ten points, by what is below each. -/
structure OT (g : Nat → Nat) (n : Nat) : Prop where
  n10 : n ≤ 10
  lt : ∀ k, k < n → g k < pw n
  ord : Ord n g
section
variable {g : Nat → Nat} {n : Nat}
theorem OT.small (h : OT g n) : ∀ k, k < n → g k < 1024 := fun k hk => set_small (h.lt k hk) h.n10
theorem OT.at (h : OT g n) {x : Nat} (hx : x < (idls g n).length) : nth (idls g n) x < pw n ∧ Idl g n (nth (idls g n) x) := idls_at h.n10 h.small hx
theorem OT.one {x y : Nat} (hx : x < (idls g n).length) (hy : y < (idls g n).length) (e : nth (idls g n) x = nth (idls g n) y) : x = y := (fil_rises _ _).one hx hy e
theorem OT.has (h : OT g n) {s : Nat} (hs : s < pw n) (hI : Idl g n s) : ∃ x, x < (idls g n).length ∧ nth (idls g n) x = s := ⟨_, plc_is ((idls_mem h.n10 h.small).2 ⟨hs, hI⟩)⟩
theorem OT.m (h : OT g n) {x y : Nat} (hx : x < (idls g n).length) (hy : y < (idls g n).length) : idm g n x y < (idls g n).length ∧ nth (idls g n) (idm g n x y) = nth (idls g n) x &&& nth (idls g n) y := idm_is h.n10 h.small hx hy
theorem OT.j (h : OT g n) {x y : Nat} (hx : x < (idls g n).length) (hy : y < (idls g n).length) : idj g n x y < (idls g n).length ∧ nth (idls g n) (idj g n x y) = nth (idls g n) x ||| nth (idls g n) y := idj_is h.n10 h.small hx hy
/-- The ideals are a lattice. -/
theorem OT.lat (h : OT g n) : Lat (idls g n).length (idm g n) (idj g n) := by
  have im : Inn (idls g n).length (idm g n) := fun x y hx hy => (h.m hx hy).1
  have ij : Inn (idls g n).length (idj g n) := fun x y hx hy => (h.j hx hy).1
  have ab : ∀ s t : Nat, s &&& (s ||| t) = s := fun s t => by
    apply Nat.eq_of_testBit_eq; intro i; rw [Nat.testBit_and, Nat.testBit_or]; cases s.testBit i <;> simp
  have ba : ∀ s t : Nat, s ||| (s &&& t) = s := fun s t => by
    apply Nat.eq_of_testBit_eq; intro i; rw [Nat.testBit_or, Nat.testBit_and]; cases s.testBit i <;> simp
  refine ⟨im, ij, lws_iff.2 fun x y z hx hy hz => ⟨?_, ?_, ?_, ?_⟩, lws_iff.2 fun x y z hx hy hz => ⟨?_, ?_, ?_, ?_⟩⟩
  · exact OT.one (im _ _ hx hx) hx (by rw [(h.m hx hx).2, Nat.and_self])
  · exact OT.one (im _ _ hx hy) (im _ _ hy hx) (by rw [(h.m hx hy).2, (h.m hy hx).2, Nat.and_comm])
  · exact OT.one (im _ _ hx (im _ _ hy hz)) (im _ _ (im _ _ hx hy) hz) (by rw [(h.m hx (im _ _ hy hz)).2, (h.m hy hz).2, (h.m (im _ _ hx hy) hz).2, (h.m hx hy).2, Nat.and_assoc])
  · exact OT.one (im _ _ hx (ij _ _ hx hy)) hx (by rw [(h.m hx (ij _ _ hx hy)).2, (h.j hx hy).2, ab])
  · exact OT.one (ij _ _ hx hx) hx (by rw [(h.j hx hx).2, Nat.or_self])
  · exact OT.one (ij _ _ hx hy) (ij _ _ hy hx) (by rw [(h.j hx hy).2, (h.j hy hx).2, Nat.or_comm])
  · exact OT.one (ij _ _ hx (ij _ _ hy hz)) (ij _ _ (ij _ _ hx hy) hz) (by rw [(h.j hx (ij _ _ hy hz)).2, (h.j hy hz).2, (h.j (ij _ _ hx hy) hz).2, (h.j hx hy).2, Nat.or_assoc])
  · exact OT.one (ij _ _ hx (im _ _ hx hy)) hx (by rw [(h.j hx (im _ _ hx hy)).2, (h.m hx hy).2, ba])
theorem OT.pos (h : OT g n) : 1 ≤ (idls g n).length := idls_pos h.n10 h.small
end
end Go.Proofs.YthhnngmfbbljaaaGreat
namespace Go.Proofs.YthhnngmfbbljaaaGreat
set_option maxRecDepth 100000

/-- Is P so of the first k? -/
def allB (P : Nat → Bool) : Nat → Bool
  | 0 => true
  | k + 1 => allB P k && P k
theorem allB_iff (P : Nat → Bool) : ∀ k, allB P k = true ↔ ∀ i, i < k → P i = true
  | 0 => by simp [allB]
  | k + 1 => by
    have ih := allB_iff P k
    simp only [allB, Bool.and_eq_true, ih]
    constructor
    · rintro ⟨h1, h2⟩ i hi
      by_cases e : i = k
      · subst e; exact h2
      · exact h1 i (by omega)
    · intro h
      exact ⟨fun i hi => h i (by omega), h k (by omega)⟩
theorem allB_congr {P Q : Nat → Bool} (k : Nat) (h : ∀ i, i < k → P i = Q i) : allB P k = allB Q k := by
  rw [Bool.eq_iff_iff, allB_iff, allB_iff]
  exact ⟨fun a i hi => by rw [← h i hi]; exact a i hi, fun a i hi => by rw [h i hi]; exact a i hi⟩

/-- Is a below b, or b? -/
def upt (g : Nat → Nat) (a b : Nat) : Bool := decide (a = b) || (g b).testBit a
/-- A point and all below it. -/
def upto (g : Nat → Nat) (k : Nat) : Nat := g k ||| pw k
theorem upto_bit (g : Nat → Nat) (k i : Nat) : (upto g k).testBit i = upt g i k := by
  unfold upto upt
  rw [Nat.testBit_or, pw_bit, Bool.or_comm]
  congr 1
  by_cases h : k = i
  · subst h; simp
  · have : ¬ i = k := fun e => h e.symm
    simp [h, this]

/-- The rounds of lower. -/
def lwr (g : Nat → Nat) (n s : Nat) : Nat → Nat
  | 0 => pw n - 1
  | k + 1 => if s.testBit k = true then lwr g n s k &&& upto g k else lwr g n s k
theorem lwr_yes {g : Nat → Nat} {n s k : Nat} (h : s.testBit k = true) : lwr g n s (k + 1) = lwr g n s k &&& upto g k := by simp [lwr, h]
theorem lwr_no {g : Nat → Nat} {n s k : Nat} (h : s.testBit k = false) : lwr g n s (k + 1) = lwr g n s k := by simp [lwr, h]
theorem lwr_lt (g : Nat → Nat) (n s : Nat) : ∀ k, lwr g n s k < pw n
  | 0 => by have := pw_pos n; simp only [lwr]; omega
  | k + 1 => by
    have ih := lwr_lt g n s k
    cases h : s.testBit k
    · rw [lwr_no h]; exact ih
    · rw [lwr_yes h]; exact Nat.lt_of_le_of_lt Nat.and_le_left ih
theorem lwr_bit (g : Nat → Nat) (n s i : Nat) : ∀ k, (lwr g n s k).testBit i = (decide (i < n) && allB (fun j => !(s.testBit j) || upt g i j) k)
  | 0 => by
    simp only [lwr, allB, Bool.and_true]
    exact Nat.testBit_two_pow_sub_one n i
  | k + 1 => by
    have ih := lwr_bit g n s i k
    cases h : s.testBit k
    · rw [lwr_no h, ih]; simp [allB, h]
    · rw [lwr_yes h, Nat.testBit_and, ih, upto_bit]; simp [allB, h, Bool.and_assoc]
def low (g : Nat → Nat) (n s : Nat) : Nat := lwr g n s n
theorem low_lt (g : Nat → Nat) (n s : Nat) : low g n s < pw n := lwr_lt g n s n

/-- Of the reference's Bound: may i be in it? -/
def bnT (g : Nat → Nat) (s : Nat) (up : Bool) (i k : Nat) : Bool := s.testBit k && ((up && !(upt g k i)) || (!up && !(upt g i k)))
def bnA (g : Nat → Nat) (s : Nat) (up : Bool) (i : Nat) : Nat → Bool := allB (fun k => !(bnT g s up i k))
def bnd (g : Nat → Nat) (n s : Nat) (up : Bool) : Nat := setBy (fun i => bnA g s up i n) n
theorem bnd_lt (g : Nat → Nat) (n s : Nat) (up : Bool) : bnd g n s up < pw n := setBy_lt _ n
theorem bnd_bit (g : Nat → Nat) (n s : Nat) (up : Bool) (i : Nat) : (bnd g n s up).testBit i = (decide (i < n) && bnA g s up i n) := setBy_bit _ n i
theorem low_bound (g : Nat → Nat) (n s : Nat) : low g n s = bnd g n s false := by
  apply eq_of_bits (low_lt g n s) (bnd_lt g n s false)
  intro i hi
  rw [bnd_bit]
  show (lwr g n s n).testBit i = _
  rw [lwr_bit]
  congr 1
  exact allB_congr n (fun k _ => by simp [bnT, Bool.not_and])
theorem trn_bit (g : Nat → Nat) (u l i : Nat) : (trn g u l).testBit i = (decide (i < u) && (g i).testBit l) := setBy_bit _ u i
theorem low_dual (g : Nat → Nat) (n s : Nat) : low (trn g n) n s = bnd g n s true := by
  apply eq_of_bits (low_lt _ n s) (bnd_lt g n s true)
  intro i hi
  rw [bnd_bit]
  show (lwr (trn g n) n s n).testBit i = _
  rw [lwr_bit]
  congr 1
  refine allB_congr n (fun k _ => ?_)
  simp only [bnT, upt, trn_bit, hi, decide_true, Bool.true_and, Bool.not_true, Bool.false_and, Bool.or_false, Bool.not_and, Bool.not_not]
  congr 2
  by_cases e : i = k
  · subst e; simp
  · have : ¬ k = i := fun x => e x.symm
    simp [e, this]
/-- The least cut that has a set in it. -/
def cutW (g : Nat → Nat) (n s : Nat) : Nat := low g n (low (trn g n) n s)
theorem cutW_lt (g : Nat → Nat) (n s : Nat) : cutW g n s < pw n := low_lt _ _ _
theorem cutW_eq (g : Nat → Nat) (n s : Nat) : cutW g n s = bnd g n (bnd g n s true) false := by
  unfold cutW; rw [low_dual, low_bound]
def isCut (g : Nat → Nat) (n s : Nat) : Bool := decide (cutW g n s = s)

end Go.Proofs.YthhnngmfbbljaaaGreat
namespace Go.Proofs.YthhnngmfbbljaaaGreat
set_option maxRecDepth 100000

theorem trn_lt (g : Nat → Nat) (n x : Nat) : trn g n x < pw n := setBy_lt _ n
theorem big {n x : Nat} (hn : n ≤ 10) (h : x < pw n) : x < 18446744073709551616 := by have := pw_le n hn; omega
theorem trn_ord {g : Nat → Nat} {n : Nat} (hn : n ≤ 10) (hg : ∀ k, k < n → g k < pw n) (ho : Ord n g) : Ord n (trn g n) := by
  intro u hu
  refine ⟨by rw [trn_bit, (ho u hu).1]; simp, fun p hp hb => ?_⟩
  rw [trn_bit] at hb
  simp only [Bool.and_eq_true, decide_eq_true_eq] at hb
  refine (lack_zero _ _ (big hn (trn_lt g n p)) (big hn (trn_lt g n u))).2 fun j hj => ?_
  rw [trn_bit] at hj ⊢
  simp only [Bool.and_eq_true, decide_eq_true_eq] at hj ⊢
  exact ⟨hj.1, (lack_zero _ _ (big hn (hg p hp)) (big hn (hg j hj.1))).1 ((ho j hj.1).2 p hp hj.2) u hb.2⟩
theorem trn_trn {g : Nat → Nat} {n : Nat} (hg : ∀ k, k < n → g k < pw n) (k : Nat) (hk : k < n) : trn (trn g n) n k = g k := by
  refine eq_of_bits (trn_lt _ n k) (hg k hk) fun i hi => ?_
  rw [trn_bit, trn_bit]; simp [hi, hk]
theorem nat_cast (g : Nat → Nat) : nat (fun k => ((g k : Nat) : Int)) = g := by funext k; simp [nat]
theorem trn_chk {g : Nat → Nat} {n : Nat} (hn : n ≤ 10) (hg : ∀ k, k < n → g k < pw n) (ho : Ord n g) : Chk (n : Int) n (fun k => ((trn g n k : Nat) : Int)) 0 := by
  refine .inr ⟨n, rfl, hn, .inr ⟨rfl, .inr ⟨fun k _ => ⟨Int.natCast_nonneg _, Int.ofNat_lt.2 (trn_lt g n k)⟩, .inr ⟨rfl, ?_⟩⟩⟩⟩
  rw [nat_cast]; exact trn_ord hn hg ho

end Go.Proofs.YthhnngmfbbljaaaGreat
namespace Go.Proofs.YthhnngmfbbljaaaGreat
set_option maxRecDepth 100000
open Go.RowKit

set_option maxHeartbeats 1000000 in
theorem turn_any (n : Nat) (g : Nat → Nat) (a : Option Addr) (cap : Nat) (w : World) (hn : n ≤ 10) (hg : ∀ k, k < n → g k < 1024) (hr : Row w a n (fun k => (g k : Nat))) :
    Calls Tryz.prog 66 #[.slice a n cap] w fun e w' => e = .returned (.slice (some ⟨w.heap.size, 0, none⟩) n n) ∧ Own w' w.heap.size n (trn g n) ∧ Below w.heap.size w w' := by
  have HG := (show Hid (∀ k, k < n → g k < 1024) from hg)
  have HR := (show Hid (Row w a n (fun k => (g k : Nat))) from hr)
  clear hg hr
  obtain ⟨i0, hi, hz0, hz1, hz2⟩ := info_parts Tryz.info3
  go_enter Tryz.func66, Tryz.ntmps66
  go_wp2_with (at_make; refine wpList_make_full _ rfl _ _ 22 rfl w.heap.size 3 i0 (.int .i64 0) 1 Tryz.underlying22 hi hz0 hz1 .i64 .i64 _ _ n rfl rfl rfl rfl (by rw [hz2]; omega) (by unfold maxLen; omega) (Nat.le_refl _) ?_; intro w1 hown1 hgrow1)
  have HB1 : Hid (Below w.heap.size w w1) := (Below.refl _ _).grown hgrow1 (Nat.le_refl _) (by simp)
  have HO1 : Hid (Own w1 w.heap.size n (trn g 0)) := own_made hown1
  clear hown1 hgrow1 hi hz0 hz1 hz2
  go_loopw [12] (fun i wx => ∃ u : Nat, u ≤ n ∧ i = .int .i64 u ∧ Own wx w.heap.size n (trn g u) ∧ Hid (Below w.heap.size w wx)) (fun i _ => n - (intOf i).toNat)
  case atStart => exact ⟨0, Nat.zero_le _, rfl, HO1.out, HB1.out⟩
  case round =>
    obtain ⟨u, hu, rfl, hO, hB⟩ := hrel
    clear HO1 HB1
    by_cases hlt : u < n
    · obtain ⟨b, off, rfl, hc⟩ := (HR.out.below hB.out).at hlt
      have hcu := hc u hlt
      clear hc
      have hgu := HG.out u hlt
      go_wp2
      have HO1 : Hid (Own wr w.heap.size n (mix g u 0)) := by rw [mix_zero]; exact hO
      clear hO hcu
      go_loopw [19] (fun i wy => ∃ k : Nat, k ≤ n ∧ i = .int .i64 k ∧ Own wy w.heap.size n (mix g u k) ∧ Hid (Below w.heap.size w wy)) (fun i _ => n - (intOf i).toNat)
      case atStart => exact ⟨0, Nat.zero_le _, rfl, HO1.out, hB⟩
      case round =>
        obtain ⟨k, hk, rfl, hO, hBy⟩ := hrel
        clear HO1 hB
        by_cases hkl : k < n
        · rcases (Bool.eq_false_or_eq_true ((g u).testBit k)).symm with hb | hb
          · go_wp2_with (go_at_call 65; refine (has_any _ _ _ (by omega) (by omega)).mono ?_; rintro e w' ⟨rfl, rfl⟩)
            go_roundw
            case rel => exact ⟨k + 1, by omega, by go_num, by rw [mix_no hb]; exact hO, hBy⟩
            case measure => simp [intOf]; omega
          · have hck := (hO k hkl).1
            have hfk := (hO k hkl).2
            rw [mix_same] at hck
            have hsh := wrap_pow u (Nat.lt_of_lt_of_le hlt (Nat.le_trans hn (by decide)))
            have hor := or_pw (b := u) hn (trn_small g u k n hu) hlt
            have HOY := (show Hid _ from hO); clear hO
            go_wp2_with (go_at_call 65; refine (has_any _ _ _ (by omega) (by omega)).mono ?_; rintro e w' ⟨rfl, rfl⟩)
            go_region
            all_goals go_wp2
            all_goals go_roundw
            case rel => exact ⟨k + 1, by omega, by go_num, by rw [mix_yes hb]; exact Own.set HOY.out k _ hkl, Below.drew (Below.setCell (p := ⟨w.heap.size, k, none⟩) hBy.out (Nat.le_refl _) _)⟩
            case measure => simp [intOf]; omega
        · have hkn : k = n := by omega
          subst hkn
          go_wp2
          go_roundw
          case rel => exact ⟨u + 1, by omega, by go_num, hO.congr (fun l hl => by simp [mix, hl]), hBy⟩
          case measure => simp [intOf]; omega
    · have hun : u = n := by omega
      subst hun
      go_wp2
      go_ret
      exact ⟨rfl, hO, hB.out⟩

theorem dual_any (n : Int) (a : Option Addr) (len cap : Nat) (f : Nat → Int) (w : World) (hl : len ≤ maxLen) (hr : Row w a len f) :
    Calls Tryz.prog 34 #[.agg #[.int .i64 n, .slice a len cap]] w fun e w' => DualPost n len f e w' ∧ Below w.heap.size w w' := by
  have HH : Hid (Held ((w.alloc (.cells #[.int .i64 n, .slice a len cap] 24)).alloc (.cells #[.int .i64 0, .slice none 0 0] 24)) w.heap.size n a len cap f) := (Held.box hr).step ((Below.refl _ _).alloc (Nat.le_refl _) _)
  have HB : Hid (Below w.heap.size w ((w.alloc (.cells #[.int .i64 n, .slice a len cap] 24)).alloc (.cells #[.int .i64 0, .slice none 0 0] 24))) := ((Below.refl _ _).alloc (Nat.le_refl _) _).alloc (by simp) _
  have HZ : Hid (ZBox ((w.alloc (.cells #[.int .i64 n, .slice a len cap] 24)).alloc (.cells #[.int .i64 0, .slice none 0 0] 24)) (w.heap.size + 1)) := by have := ZBox.new (w.alloc (.cells #[.int .i64 n, .slice a len cap] 24)); rw [World.size_alloc] at this; exact this
  have HR : Hid (Row w a len f) := hr
  clear hr
  go_enter Tryz.func34, Tryz.ntmps34
  go_wp2_with fail
  refine (check_any n a len cap f _ hl HH.out.row).mono ?_
  rintro e w1 ⟨⟨c, rfl, hc⟩, hb⟩
  have K1 := HH.out.step hb
  have Z1 := HZ.out.step hb
  have HB1 : Hid (Below w.heap.size w w1) := Below.then HB.out hb
  clear hb HH HB HZ
  by_cases h0 : c = 0
  · subst h0
    obtain ⟨rfl, h10, hrng, _⟩ := hc.good
    have KK : w1.drew.cell? ⟨w.heap.size, 0, none⟩ = some (.int .i64 (len : Int)) ∧ w1.drew.cell? ⟨w.heap.size, 1, none⟩ = some (.slice a len cap) ∧ Below w.heap.size w w1.drew := ⟨K1.c0, K1.c1, HB1.out.drew⟩
    have HRW : Hid (Row w a len (fun k => (nat f k : Nat))) := hrng.row HR.out
    have HC : Hid (Chk (len : Int) len f 0) := hc
    have HG : Hid (∀ k, k < len → nat f k < 1024) := hrng.small2 h10
    have HZ1 : Hid (ZBox w1.drew (w.heap.size + 1)) := Z1
    have hsz : w.heap.size + 1 < w1.heap.size := World.block_lt_of_cell? _ _ Z1.1
    clear K1 HB1 hc hrng Z1
    go_wp2_with fail
    go_region_held3 (fun w' => w'.cell? ⟨w.heap.size, 0, none⟩ = some (.int .i64 (len : Int)) ∧ w'.cell? ⟨w.heap.size, 1, none⟩ = some (.slice a len cap) ∧ Below w.heap.size w w')
      (first | exact KK | assumption | exact k3_step (by assumption) (by assumption) | exact k3_set2 (by assumption))
      (first
        | (go_at_call 66; refine (turn_any len (nat f) a cap _ h10 HG.out (HRW.out.below (k3_below (n := (len : Int)) (a := a) (len := len) (cap := cap) (by assumption)))).mono ?_; rintro e w' ⟨rfl, ho, hb⟩; obtain ⟨r0, r1, r2, r3⟩ := HZ1.out.step hb))
    all_goals go_wp2
    refine bodyPost_ret (v := .tuple #[.agg #[.int .i64 (len : Int), .slice (some ⟨w1.heap.size, 0, none⟩) len len], .int .i64 0]) ?_ rfl ⟨⟨0, _, HC.out, rfl, .inr ⟨rfl, _, _, rfl, ?_⟩⟩, ?_⟩
    · simp [results, Tryz.results34, go_sem, r0, r1]
    · exact row_set2 (Own.row ho) (fun _ => ⟨_, _, rfl, hsz⟩)
    · exact k3_below (n := (len : Int)) (a := a) (len := len) (cap := cap) (by assumption)
  · have hne : (c != 0) = true := by simpa using h0
    obtain ⟨r0, r1, r2, r3⟩ := Z1
    have HC : Hid (Chk n len f c) := hc
    clear hc
    go_wp2_with fail
    exact bodyPost_ret (v := .tuple #[noOrder, .int .i64 c]) (by simp [results, Tryz.results34, go_sem, noOrder, r0, r1]) rfl ⟨⟨c, _, HC.out, rfl, .inl ⟨h0, rfl⟩⟩, set2B HB1.out (by omega)⟩

end Go.Proofs.YthhnngmfbbljaaaGreat
