/-
  What tables.OfSets answers of a list of sets that rises: the two tables; or too many. Conditions: what two sets have in common is one of the list, and what the closure makes of what they have together; the closure writes nothing that lay there.
-/
import Derived.Test.YthhnngmfbbljaaaGreatOfMade
namespace Go.Proofs.YthhnngmfbbljaaaGreat
open Go.RowKit

def noLat : Value := .agg #[.int .i64 0, .slice none 0 0, .slice none 0 0]
/-- A closure that answers J of a set, wherever what lay at first still lies. -/
def CloJ (F : Nat) (caps : Array Value) (J : Nat → Nat) (w : World) : Prop :=
  ∀ s : Nat, s < 1024 → ∀ W : World, Below w.heap.size w W → Calls Tryz.prog F (#[.int .i64 (s : Nat)] ++ caps) W fun e w' => e = .returned (.int .i64 (J s : Nat)) ∧ Below W.heap.size W w'
/-- The rows of two tables lie each in a block of its own, which may be written. -/
def Apt (w : World) (n : Nat) (R1 R2 : Nat → Nat × Nat × Nat) : Prop := ∀ k, k < n → (((R1 k).2.1 = 0 ∧ (R2 k).2.1 = 0) ∧ (R1 k).1 < w.heap.size ∧ (R2 k).1 < w.heap.size) ∧
  (∀ j, j < n → w.frozen? ⟨(R1 k).1, j, none⟩ = false ∧ w.frozen? ⟨(R2 k).1, j, none⟩ = false) ∧ ∀ l, l < n → (R1 k).1 ≠ (R2 l).1 ∧ (k ≠ l → (R1 k).1 ≠ (R1 l).1 ∧ (R2 k).1 ≠ (R2 l).1)
theorem Apt.step {w w' : World} {n : Nat} {R1 R2 : Nat → Nat × Nat × Nat} (h : Apt w n R1 R2) (hb : Below w.heap.size w w') : Apt w' n R1 R2 := fun k hk => by
  obtain ⟨⟨h0, h1, h2⟩, h3, h4⟩ := h k hk
  exact ⟨⟨h0, Nat.lt_of_lt_of_le h1 hb.size, Nat.lt_of_lt_of_le h2 hb.size⟩, fun j hj => ⟨(hb.frozen (p := ⟨(R1 k).1, j, none⟩) h1).trans (h3 j hj).1, (hb.frozen (p := ⟨(R2 k).1, j, none⟩) h2).trans (h3 j hj).2⟩, h4⟩
theorem Apt.set {w : World} {n : Nat} {R1 R2 : Nat → Nat × Nat × Nat} (h : Apt w n R1 R2) (p : Addr) (v : Value) : Apt (w.setCell p v) n R1 R2 := fun k hk => by
  obtain ⟨⟨h0, h1, h2⟩, h3, h4⟩ := h k hk
  exact ⟨⟨h0, by simpa using h1, by simpa using h2⟩, fun j hj => ⟨by rw [World.frozen?_setCell]; exact (h3 j hj).1, by rw [World.frozen?_setCell]; exact (h3 j hj).2⟩, h4⟩
theorem apt_of {w : World} {T H n : Nat} {R1 R2 : Nat → Nat × Nat} {m j : Nat → Nat → Nat} (h : Fi n n R1 R2 w) (d1 : Done T H n n R1 m w) (d2 : Done T H n n R2 j w) (hH : H ≤ w.heap.size) : Apt w n (fun k => ((R1 k).1, 0, (R1 k).2)) (fun k => ((R2 k).1, 0, (R2 k).2)) := fun k hk =>
  ⟨⟨⟨rfl, rfl⟩, Nat.lt_of_lt_of_le (d1 k hk).1.2 hH, Nat.lt_of_lt_of_le (d2 k hk).1.2 hH⟩, h.1 k hk, fun l hl => h.2 k l hk hl⟩
/-- What comes: too many; or the two tables, in new blocks. -/
def OfIs (n B : Nat) (m j : Nat → Nat → Nat) (e : Ending) (w' : World) : Prop :=
  (40 < n ∧ e = .returned (.tuple #[noLat, .int .i64 2])) ∨
  (n ≤ 40 ∧ ∃ T1 T2 R1 R2, e = .returned (.tuple #[.agg #[.int .i64 (n : Int), .slice (some ⟨T1, 0, none⟩) n n, .slice (some ⟨T2, 0, none⟩) n n], .int .i64 0]) ∧ Tb w' T1 0 n R1 m ∧ Tb w' T2 0 n R2 j ∧ (B ≤ T1 ∧ B ≤ T2) ∧ (∀ k, k < n → B ≤ (R1 k).1 ∧ B ≤ (R2 k).1) ∧ Apt w' n R1 R2)
theorem Tb.set {w : World} {b off n : Nat} {R : Nat → Nat × Nat × Nat} {m : Nat → Nat → Nat} (h : Tb w b off n R m) {p : Addr} (v : Value) (h1 : p.block ≠ b) (h2 : ∀ x, x < n → p.block ≠ (R x).1) : Tb (w.setCell p v) b off n R m := fun x hx =>
  ⟨by rw [World.cell?_setCell_other _ _ _ _ (fun e => h1 (by rw [e]))]; exact (h x hx).1, fun y hy => by
    rw [World.cell?_setCell_other _ _ _ _ (fun e => h2 x hx (by rw [e]))]; exact (h x hx).2 y hy⟩
theorem tb_of {w : World} {T H T1 n : Nat} {R : Nat → Nat × Nat} {m : Nat → Nat → Nat} {v : Value} (ho : OwnS w T1 n (rowF n n R v)) (hd : Done T H n n R m w) : Tb w T1 0 n (fun k => ((R k).1, 0, (R k).2)) m := fun x hx => by
  refine ⟨?_, fun y hy => ?_⟩
  · have := (ho x hx).1
    unfold rowF at this
    rw [if_pos hx] at this
    rw [Nat.zero_add]; exact this
  · rw [Nat.zero_add]; exact (hd x hx).2 y hy

set_option maxHeartbeats 4000000 in
set_option maxRecDepth 100000 in
theorem ofSets_any (l : List Nat) (a : Option Addr) (cap F : Nat) (caps : Array Value) (J : Nat → Nat) (m j : Nat → Nat → Nat) (w : World) (h1 : 1 ≤ l.length) (hl : l.length ≤ 1024) (hr : Row w a l.length (fun k => (nth l k : Nat)))
    (hrs : Rises l) (hs : ∀ k, k < l.length → nth l k < 1024) (hF : Ent F) (hC : CloJ F caps J w)
    (hm : ∀ x y, x < l.length → y < l.length → m x y < l.length ∧ nth l (m x y) = nth l x &&& nth l y) (hj : ∀ x y, x < l.length → y < l.length → j x y < l.length ∧ nth l (j x y) = J (nth l x ||| nth l y)) :
    Calls Tryz.prog 32 #[.slice a l.length cap, .func (.func F) #[] caps] w fun e w' => OfIs l.length w.heap.size m j e w' ∧ Below w.heap.size w w' := by
  obtain ⟨lb, lo, rfl, _⟩ := hr 0 (by omega)
  obtain ⟨n, HN⟩ : ∃ n, Hid (n = l.length) := ⟨_, rfl⟩
  have hn1 : 1 ≤ n := by rw [HN.out]; exact h1
  have hnl : n ≤ 1024 := by rw [HN.out]; exact hl
  have HM : Hid (∀ x y, x < n → y < n → m x y < l.length ∧ nth l (m x y) = nth l x &&& nth l y) := by rw [HN.out]; exact hm
  have HJ : Hid (∀ x y, x < n → y < n → j x y < l.length ∧ nth l (j x y) = J (nth l x ||| nth l y)) := by rw [HN.out]; exact hj
  have HSS : Hid (∀ k, k < n → nth l k < 1024) := by rw [HN.out]; exact hs
  have HRS : Hid (Rises l) := hrs
  have HLL : Hid (l.length ≤ 1024) := hl
  rw [← HN.out]
  obtain ⟨W0, HW0⟩ : ∃ W0, Hid (W0 = w.alloc (.cells #[.int .i64 0, .slice none 0 0, .slice none 0 0] 27)) := ⟨_, rfl⟩
  have B0 : Below w.heap.size w W0 := by rw [HW0.out]; exact (Below.refl _ _).alloc (Nat.le_refl _) _
  have hZ : ZL W0 w.heap.size := by rw [HW0.out]; exact ZL.new _
  have HS0 : Hid (W0.heap.size = w.heap.size + 1) := by rw [Hid, HW0.out]; simp
  have HLR : Hid (∀ w', Below W0.heap.size W0 w' → Row w' (some ⟨lb, lo, none⟩) l.length (fun k => (nth l k : Nat))) := fun w' h => (hr.below B0).below h
  have HC : Hid (∀ s : Nat, s < 1024 → ∀ w', Below W0.heap.size W0 w' → Calls Tryz.prog F (#[.int .i64 (s : Nat)] ++ caps) w' fun e w'' => e = .returned (.int .i64 (J s : Nat)) ∧ Below w'.heap.size w' w'') := fun s hs w' h => hC s hs w' (Below.then B0 h)
  have HB0 : Hid (Below w.heap.size w W0) := B0
  have HZ : Hid (ZL W0 w.heap.size) := hZ
  clear hr hC hm hj hs hrs hl h1 B0 hZ
  by_cases h40 : n ≤ 40
  · have HF : Hid (Ent F) := hF
    clear hF
    go_enter Tryz.func32, Tryz.ntmps32
    go_wp2_with fail
    rw [← HW0.out]
    clear HW0
    refine reg4 h40 (fun _ _ _ _ _ h => h) ?_
    intro T1 T2 B w1 ho1 ho2 hbx hbel hpos z15 z16 z17 z18 z19 z20
    have LL : Lay W0.heap.size B T1 T2 (w1.heap.size - 1) := ⟨hpos.1.1, hpos.1.2.1, hpos.1.2.2, ⟨by omega, by omega, by omega⟩, hpos.2.1.1, hpos.2.1.2.1, hpos.2.1.2.2⟩
    have HT : Hid (Two W0 W0.heap.size B T1 T2 (w1.heap.size - 1) w1.heap.size n 0 (fun _ => (0, 0)) (fun _ => (0, 0)) m j (.slice none 0 0) (.slice none 0 0) 0 0 w1) :=
      ⟨hbel, hbx, ho1.congr (fun k _ => by unfold rowF; rw [if_neg (Nat.not_lt_zero _)]; split <;> rfl), ho2.congr (fun k _ => by unfold rowF; rw [if_neg (Nat.not_lt_zero _)]; split <;> rfl), fun k hk => absurd hk (Nat.not_lt_zero _), fun k hk => absurd hk (Nat.not_lt_zero _),
        World.ownsRow_nil _ _ _ _, World.ownsRow_nil _ _ _ _, .inl rfl, by omega, Nat.le_refl _, hbel.size, Fi.zero _ _ _ _⟩
    have HP : Hid ((W0.heap.size ≤ B ∧ W0.heap.size ≤ T1 ∧ W0.heap.size ≤ T2) ∧ W0.heap.size ≤ w1.heap.size - 1) := ⟨hpos.1, by omega⟩
    have HLY : Hid (Lay W0.heap.size B T1 T2 (w1.heap.size - 1)) := LL
    obtain ⟨T, HTE⟩ : ∃ T, Hid (T = w1.heap.size - 1) := ⟨_, rfl⟩
    rw [← HTE.out] at HT HP HLY
    clear ho1 ho2 hbx hbel hpos LL HTE
    go_wp2_with fail
    go_loopw [22] (fun i wx => ∃ x : Nat, x ≤ n ∧ i = .int .i64 x ∧ ∃ R1 R2 H, Hid (Two W0 W0.heap.size B T1 T2 T H n x R1 R2 m j (.slice none 0 0) (.slice none 0 0) 0 0 wx)) (fun i _ => n - (intOf i).toNat)
    case atStart => exact ⟨0, Nat.zero_le _, rfl, _, _, _, HT⟩
    case round =>
      clear HT
      obtain ⟨x, hx, rfl, R1, R2, H, HT⟩ := hrel
      by_cases hxn : x < n
      · go_wp2_with fail
        go_loopw [26] (fun i wx => ∃ y : Nat, y ≤ n ∧ i = .int .i64 y ∧ ∃ v1 v2, Hid (Two W0 W0.heap.size B T1 T2 T H n x R1 R2 m j v1 v2 y y wx)) (fun i _ => n - (intOf i).toNat)
        case atStart => exact ⟨0, Nat.zero_le _, rfl, _, _, HT⟩
        case round =>
          clear HT
          obtain ⟨y, hy, rfl, v1, v2, HT⟩ := hrel
          by_cases hyn : y < n
          · go_wp2_with fail
            refine reg11 HLY.out HT hxn hyn h40 HN.out HLL.out HRS.out HLR HSS.out (HM.out x y hxn hyn) (fun _ _ _ _ _ h => h) ?_
            intro v3 w3 h3 z29 z30 z31 z32 z33 z34 z35 z36 z37 z38 z39 z40 z41 z42 z43 z44 z45 z46 z47 z48 z49 z50
            have HT3 : Hid (Two W0 W0.heap.size B T1 T2 T H n x R1 R2 m j v3 v2 (y + 1) y w3) := h3
            have HCC : Hid (∀ w', Below W0.heap.size W0 w' → Calls Tryz.prog F (#[.int .i64 ((nth l x ||| nth l y : Nat) : Int)] ++ caps) w' fun e w'' => e = .returned (.int .i64 (J (nth l x ||| nth l y) : Nat)) ∧ Below w'.heap.size w' w'') := fun w' h => HC.out _ (Nat.or_lt_two_pow (n := 10) (HSS.out x hxn) (HSS.out y hyn)) w' h
            clear h3 HT
            go_wp2_with fail
            refine reg12 HLY.out HT3 hxn hyn h40 HN.out HLL.out HRS.out HLR HSS.out HF.out HCC (HJ.out x y hxn hyn) (fun _ _ _ _ _ h => h) ?_
            intro v4 w4 h4 z51 z52 z53 z54 z55 z56 z57 z58 z59 z60 z61 z62 z63 z64 z65 z66 z67 z68 z69 z70 z71 z72 z73 z74
            have HT4 : Hid (Two W0 W0.heap.size B T1 T2 T H n x R1 R2 m j v3 v4 (y + 1) (y + 1) w4) := h4
            clear h4 HT3 HCC
            go_wp2_with fail
            go_roundw
            case rel => exact ⟨y + 1, by omega, by go_num, _, _, HT4⟩
            case measure => simp [intOf]; omega
          · obtain rfl : y = n := by omega
            obtain ⟨R1', R2', h5⟩ := HT.out.next (by omega)
            have HT5 : Hid (Two W0 W0.heap.size B T1 T2 T wr.heap.size y (x + 1) R1' R2' m j (.slice none 0 0) (.slice none 0 0) 0 0 wr) := h5
            clear h5 HT
            go_wp2_with fail
            go_roundw
            case rel => exact ⟨x + 1, by omega, by go_num, _, _, _, HT5⟩
            case measure => simp [intOf]; omega
      · obtain rfl : x = n := by omega
        have hbox := HT.out.box
        have b0 := hbox.1
        have b1 := hbox.2.1
        have b2 := hbox.2.2
        have hz : ZL wr w.heap.size := HZ.out.step HT.out.bel
        have HB8 : Hid (Below w.heap.size w wr) := Below.then HB0.out HT.out.bel
        have HT1 : Hid (Tb wr T1 0 x (fun k => ((R1 k).1, 0, (R1 k).2)) m) := tb_of HT.out.o1 HT.out.d1
        have HT2 : Hid (Tb wr T2 0 x (fun k => ((R2 k).1, 0, (R2 k).2)) j) := tb_of HT.out.o2 HT.out.d2
        have HAP : Hid (Apt wr x (fun k => ((R1 k).1, 0, (R1 k).2)) (fun k => ((R2 k).1, 0, (R2 k).2))) := apt_of HT.out.fi HT.out.d1 HT.out.d2 HT.out.hs
        have HR : Hid (∀ k, k < x → w.heap.size < (R1 k).1 ∧ w.heap.size < (R2 k).1) := fun k hk => by
          have q1 := (HT.out.d1 k hk).1.1
          have q2 := (HT.out.d2 k hk).1.1
          have q3 := HP.out.2
          have q4 := HS0.out
          omega
        have HQ : Hid (w.heap.size < T1 ∧ w.heap.size < T2) := by
          have q3 := HP.out.1
          have q4 := HS0.out
          rw [Hid]; omega
        obtain ⟨⟨c0, c1, c2⟩, f0, f1, f2⟩ := hz
        clear HT hbox
        go_wp2_with fail
        refine bodyPost_ret (v := .tuple #[.agg #[.int .i64 (x : Int), .slice (some ⟨T1, 0, none⟩) x x, .slice (some ⟨T2, 0, none⟩) x x], .int .i64 0]) ?_ rfl ⟨.inr ⟨h40, T1, T2, (fun k => ((R1 k).1, 0, (R1 k).2)), (fun k => ((R2 k).1, 0, (R2 k).2)), rfl, ?_, ?_, ?_, ?_, ?_⟩, ?_⟩
        · simp [results, Tryz.results32, go_sem, c0, c1, c2]
        · exact ((HT1.out.set _ (show w.heap.size ≠ _ by have := HQ.out; omega) (fun k hk => show w.heap.size ≠ _ by have := HR.out k hk; simp; omega)).set _ (show w.heap.size ≠ _ by have := HQ.out; omega) (fun k hk => show w.heap.size ≠ _ by have := HR.out k hk; simp; omega)).set _ (show w.heap.size ≠ _ by have := HQ.out; omega) (fun k hk => show w.heap.size ≠ _ by have := HR.out k hk; simp; omega)
        · exact ((HT2.out.set _ (show w.heap.size ≠ _ by have := HQ.out; omega) (fun k hk => show w.heap.size ≠ _ by have := HR.out k hk; simp; omega)).set _ (show w.heap.size ≠ _ by have := HQ.out; omega) (fun k hk => show w.heap.size ≠ _ by have := HR.out k hk; simp; omega)).set _ (show w.heap.size ≠ _ by have := HQ.out; omega) (fun k hk => show w.heap.size ≠ _ by have := HR.out k hk; simp; omega)
        · have := HQ.out; exact ⟨by omega, by omega⟩
        · intro k hk
          have := HR.out k hk
          exact ⟨by simp; omega, by simp; omega⟩
        · exact ((HAP.out.set _ _).set _ _).set _ _
        · exact set3B HB8.out (Nat.le_refl _)
  · have hgt : ¬ ((n : Int) ≤ 40) := by omega
    obtain ⟨⟨c0, c1, c2⟩, f0, f1, f2⟩ := HZ.out
    go_enter Tryz.func32, Tryz.ntmps32
    go_wp2_with fail
    try rw [← HW0.out]
    clear HW0
    go_wp2_with fail
    refine bodyPost_ret (v := .tuple #[noLat, .int .i64 2]) ?_ rfl ⟨.inl ⟨by omega, rfl⟩, ?_⟩
    · simp [results, Tryz.results32, go_sem, noLat, c0, c1, c2]
    · exact HB0.out
end Go.Proofs.YthhnngmfbbljaaaGreat
