/-
  fix.allMonotone hands back an iterator over all monotone maps from one order to another one, in order. Conditions: orders of at most ten points.
-/
import Derived.Deep.RegionHeld3
import Derived.Test.YtfajgahofkcndaaDoorAllR
import Derived.Test.YtfajgahofkcndaaDoorLateM
namespace Go.Proofs.YtfajgahofkcndaaDoor
open Go.RowKit

/-- make([]int, 0, n). -/
theorem wp_make0 {o : Oper} {a : Act} {K : Act → World → Prop} {Q : Exit → Act → World → Prop} (base : Nat) (w : World) (l c : Operand) (hop : o.op = Op.makeSlice 22 l c) (n : Nat) (hl : a.eval l = .int .i64 0) (hc : a.eval c = .int .i64 (n : Int)) (hn : n ≤ 1000) (hb : base ≤ w.heap.size)
    (h : ∀ w', w'.ownsRow base 3 1 (.slice (some ⟨w.heap.size, 0, none⟩) 0 n) 0 [] → Below w.heap.size w w' → K (a.put o.dst (.slice (some ⟨w.heap.size, 0, none⟩) 0 n)) w') : o.wp Tryd.prog a w K Q := by
  obtain ⟨j0, hj, hy0, hy1, hy2⟩ := info_parts Tryd.info3
  obtain ⟨w', hrun, r1, r2⟩ := run_make_own (P := Tryd.prog) w base 22 3 j0 (.int .i64 0) 1 Tryd.underlying22 hj hy0 hy1 .i64 .i64 n (by rw [hy2]; omega) (by unfold maxLen; omega) hb
  have hK := h w' r1 ((Below.refl _ _).grown r2 (Nat.le_refl _) (fun k e => by cases e))
  unfold Oper.wp
  simp [execOp, hop, hl, hc, hrun, Result.andThen]
  exact hK
theorem allMonotone_any (n n' : Int) (a a' : Option Addr) (la ca la' ca' : Nat) (w : World) :
    Calls Tryd.prog 20 #[.agg #[.int .i64 n, .slice a la ca], .agg #[.int .i64 n', .slice a' la' ca']] w fun e w' => e = .returned (.func (.func 32) #[] #[.pointer (some ⟨w.heap.size, 0, none⟩), .pointer (some ⟨w.heap.size + 1, 0, none⟩)]) ∧
      w' = (w.alloc (.cells #[.int .i64 n, .slice a la ca] 24)).alloc (.cells #[.int .i64 n', .slice a' la' ca'] 24) := by
  go_enter Tryd.func20, Tryd.ntmps20
  go_wp2
  go_ret
  exact ⟨rfl, rfl⟩

theorem yield_any {m : Nat} (m' : Nat) {P : Program} {l : Nat} {args : Array Value} {W : World} {R : Ending → World → Prop} (h : YieldAt Fence.wide m P l args W R) : YieldAt Fence.wide m' P l args W R := by
  obtain ⟨fn, tmps, assign, body, hy, hR⟩ := h
  exact ⟨fn, tmps, assign, body, hy, hR.1, fun c cs _ => hR.2 c cs (fun d hd => by cases hd)⟩
/-- What a round is handed. -/
def encM (na : Nat) (x : Nat × List Nat) : Value := .slice (some ⟨x.1, 0, none⟩) na na
def VM (P Q : Nat → Nat → Bool) (na nb : Nat) (x : Nat × List Nat) (W : World) : Prop := NSl W (encM na x) x.2 ∧ x.2 ∈ cmp P Q nb na []
theorem Row.othc {c : Nat} {W W' : World} (h : Oth c W W') {a : Option Addr} {n : Nat} {f : Nat → Int} (hr : Row W a n f) (hc : ∀ b off, 0 < n → a = some ⟨b, off, none⟩ → b ≠ c) : Row W' a n f := fun k hk => by
  obtain ⟨b, off, e, hv⟩ := hr k hk
  exact ⟨b, off, e, h.cell hv (hc b off (by omega) e)⟩
theorem cell_putLoop {W : World} {l : Nat} {r : Loop} (r' : Loop) (h : W.heap[l]? = some (.loop r)) {p : Addr} {v : Value} (hv : W.cell? p = some v) : (W.putObj l (.loop r')).cell? p = some v :=
  (Oth.loop (p.block + 1) W l r r' h).cell hv (by omega)
theorem VM.loop {P Q : Nat → Nat → Bool} {na nb : Nat} (x : Nat × List Nat) (A : World) (l : Nat) (r r' : Loop) (h : VM P Q na nb x A) (hl : A.heap[l]? = some (.loop r)) : VM P Q na nb x (A.putObj l (.loop r')) := by
  obtain ⟨⟨a, c, e, hr⟩, hm⟩ := h
  exact ⟨⟨a, c, e, fun k hk => by
    obtain ⟨b, off, e, hv⟩ := hr k hk
    exact ⟨b, off, e, cell_putLoop r' hl hv⟩⟩, hm⟩
theorem cmp_len {P Q : Nat → Nat → Bool} {nb : Nat} : ∀ (d : Nat) (p x : List Nat), x ∈ cmp P Q nb d p → x.length = p.length + d
  | 0, p, x, h => by simp [cmp] at h; simp [h]
  | d + 1, p, x, h => by
    rw [cmp, List.mem_flatMap] at h
    obtain ⟨y, _, hy⟩ := h
    split at hy
    · have := cmp_len d _ x hy
      simp at this; omega
    · cases hy

set_option maxRecDepth 100000 in
set_option maxHeartbeats 4000000 in
theorem all_seq (c n A Bb na nb : Nat) (aa ab : Option Addr) (ca cb : Nat) (ga gb : Nat → Nat) (w : World) (hna : na ≤ 10) (hnb : nb ≤ 10) (hga : ∀ k, k < na → ga k < 1024) (hgb : ∀ k, k < nb → gb k < 1024)
    (a0 : w.cell? ⟨A, 0, none⟩ = some (.int .i64 (na : Nat))) (a1 : w.cell? ⟨A, 1, none⟩ = some (.slice aa na ca)) (b0 : w.cell? ⟨Bb, 0, none⟩ = some (.int .i64 (nb : Nat))) (b1 : w.cell? ⟨Bb, 1, none⟩ = some (.slice ab nb cb))
    (hra : Row w aa na (fun k => (ga k : Nat))) (hrb : Row w ab nb (fun k => (gb k : Nat))) (nA : A ≠ c) (nB : Bb ≠ c) (hca : ∀ b off, 0 < na → aa = some ⟨b, off, none⟩ → b ≠ c) (hcb : ∀ b off, 0 < nb → ab = some ⟨b, off, none⟩ → b ≠ c) (hcw : c < w.heap.size) :
    SeqB Fence.wide n Tryd.prog 32 #[.pointer (some ⟨A, 0, none⟩), .pointer (some ⟨Bb, 0, none⟩)] (encM na) (VM (upB ga) (upB gb) na nb) (Oth c)
      (fun xs => xs.map Prod.snd = cmp (upB ga) (upB gb) nb na []) (fun _ => True) (cmp (upB ga) (upB gb) nb na []).length w := fun l J Jx W hW hJ _ hY h0 => by
  refine callsIn_wide.2 ?_
  show Calls Tryd.prog 32 #[.func (.yield l) #[] #[], .pointer (some ⟨A, 0, none⟩), .pointer (some ⟨Bb, 0, none⟩)] W _
  obtain ⟨X, HXE⟩ : ∃ X, Hid (X = W.alloc (.cells #[.func (.yield l) #[] #[]] 60)) := ⟨_, rfl⟩
  have hX : Below W.heap.size W X := by rw [HXE.out]; exact (Below.refl _ _).alloc (Nat.le_refl _) _
  have hwX : Below w.heap.size w X := Below.then hW hX
  have hXs : X.heap.size = W.heap.size + 1 := by rw [HXE.out]; simp
  have cY : X.cell? ⟨W.heap.size, 0, none⟩ = some (.func (.yield l) #[] #[]) := by rw [HXE.out]; simp
  go_enter Tryd.func32, Tryd.ntmps32
  go_wp2_with fail
  rw [← HXE.out]
  refine allReg (na := (na : Nat)) (nb := (nb : Nat)) (aa := aa) (ab := ab) (la := na) (ca := ca) (lb := nb) (cb := cb) (fun w' h => cell_step h (cell_step hwX a0)) (fun w' h => cell_step h (cell_step hwX a1)) (fun w' h => cell_step h (cell_step hwX b0)) (fun w' h => cell_step h (cell_step hwX b1)) (fun _ _ _ _ _ h => h) ?_
  intro w1 o1 o2 f t hL
  obtain ⟨hb1, ⟨l1, l2, l3, l4⟩, q1, q2, q3, q4, q5, q6⟩ := hL
  obtain ⟨W0, HWE⟩ : ∃ W0, Hid (W0 = w1.alloc (.cells #[.func (.func 33) #[] #[.pointer (some ⟨A, 0, none⟩), .pointer (some ⟨W.heap.size, 0, none⟩), .pointer (some ⟨Bb, 0, none⟩), .pointer (some ⟨f, 0, none⟩), .pointer (some ⟨t, 0, none⟩), .pointer (some ⟨w1.heap.size, 0, none⟩)]] 60)) := ⟨_, rfl⟩
  have hb2 : Below w1.heap.size w1 W0 := by rw [HWE.out]; exact (Below.refl _ _).alloc (Nat.le_refl _) _
  have hXW : Below X.heap.size X W0 := Below.then hb1 hb2
  have hww : Below w.heap.size w W0 := Below.then hwX hXW
  have hWW : Below W.heap.size W W0 := Below.then hX hXW
  have cG : W0.cell? ⟨w1.heap.size, 0, none⟩ = some (.func (.func 33) #[] #[.pointer (some ⟨A, 0, none⟩), .pointer (some ⟨W.heap.size, 0, none⟩), .pointer (some ⟨Bb, 0, none⟩), .pointer (some ⟨f, 0, none⟩), .pointer (some ⟨t, 0, none⟩), .pointer (some ⟨w1.heap.size, 0, none⟩)]) := by rw [HWE.out]; simp
  have hWs := hW.size
  have h1s := hb1.size
  have hcW : c < W.heap.size := by omega
  have HC1 : ∀ X', Oth c W0 X' → Clo2 na 40 #[.pointer (some ⟨o1, 0, none⟩)] (upB ga) X' := fun X' h => inOrder1_any na o1 aa ca ga X' hna hga (h.cell (cell_step hb2 q1) (by show o1 ≠ c; omega)) (h.cell (cell_step hb2 q2) (by show o1 ≠ c; omega)) (Row.othc h (hra.below hww) hca)
  have HC2 : ∀ X', Oth c W0 X' → Clo2 nb 40 #[.pointer (some ⟨o2, 0, none⟩)] (upB gb) X' := fun X' h => inOrder1_any nb o2 ab cb gb X' hnb hgb (h.cell (cell_step hb2 q3) (by show o2 ≠ c; omega)) (h.cell (cell_step hb2 q4) (by show o2 ≠ c; omega)) (Row.othc h (hrb.below hww) hcb)
  have HGO : Hid (∀ B w5, Below W0.heap.size W0 w5 → w5.ownsRow W0.heap.size 3 1 (.slice (some ⟨B, 0, none⟩) 0 na) 0 [] → Calls Tryd.prog 33 #[.slice (some ⟨B, 0, none⟩) 0 na, .pointer (some ⟨A, 0, none⟩), .pointer (some ⟨W.heap.size, 0, none⟩), .pointer (some ⟨Bb, 0, none⟩), .pointer (some ⟨f, 0, none⟩), .pointer (some ⟨t, 0, none⟩), .pointer (some ⟨w1.heap.size, 0, none⟩)] w5 fun e W' =>
      (∃ v, e = .returned (.bool v)) ∧ ((∃ xs : List (Nat × List Nat), xs.map Prod.snd = cmp (upB ga) (upB gb) nb na [] ∧ J xs W') ∨ (∃ pre, True ∧ Jx pre W'))) := fun B w5 h5 hown => by
    have hN : (0 : Nat) + (cmp (upB ga) (upB gb) nb na []).length ≤ (cmp (upB ga) (upB gb) nb na []).length := by omega
    have hO5 : Oth c W0 w5 := (Oth.refl c W0).below h5
    have hG := goOn_in (c := c) (na := na) (nb := nb) (l := l) (A := A) (Y := W.heap.size) (Bb := Bb) (Fr := f) (To := t) (Gn := w1.heap.size) (B := B) (N := (cmp (upB ga) (upB gb) nb na []).length) (s0 := W.heap.size) (W0 := W0) (Vx := fun x => x ∈ cmp (upB ga) (upB gb) nb na []) (J := J) (Jx := Jx) hna hnb ent_inOrder1 ent_inOrder1 HC1 HC2
      (cell_step hww a0) nA (cell_step hXW cY) (by omega) (cell_step hww b0) nB (cell_step hb2 q5) (by omega) (cell_step hb2 q6) (by omega) cG (by omega) hcW hWW.size hJ
      (fun m pre x X' hj hown hx hlen => yield_any m (hY pre (B, x) X' hj ⟨by
        have hl := cmp_len na [] x hx
        simp only [List.length_nil, Nat.zero_add] at hl
        have := owns_nats (l := x) (by rw [hl]; exact hown)
        exact this, hx⟩ hlen)) na 0 0 [] [] w5 (by omega) rfl (fun i hi => absurd hi (Nat.not_lt_zero _)) hO5 (by simpa [natVals] using hown) (hJ _ _ _ h0 (Below.then hWW h5)) hN (fun x hx => hx)
    refine (callsIn_wide.1 hG).mono ?_
    rintro e W' (⟨rfl, hj, _, _⟩ | ⟨rfl, q, hq⟩)
    · exact ⟨⟨_, rfl⟩, .inl ⟨(cmp (upB ga) (upB gb) nb na []).map (Prod.mk B), by rw [List.map_map]; exact List.map_id' _, by simpa using hj⟩⟩
    · exact ⟨⟨_, rfl⟩, .inr ⟨q, trivial, hq⟩⟩
  have HX3 : Hid (∀ w', Below W0.heap.size W0 w' → w'.cell? ⟨A, 0, none⟩ = some (.int .i64 (na : Nat)) ∧ Below W0.heap.size W0 w') := fun w' h => ⟨cell_step h (cell_step hww a0), h⟩
  have d0 : ∀ w', Below W0.heap.size W0 w' → w'.cell? ⟨A, 0, none⟩ = some (.int .i64 (na : Nat)) := fun w' h => cell_step h (cell_step hww a0)
  have d1 : ∀ w', Below W0.heap.size W0 w' → w'.cell? ⟨w1.heap.size, 0, none⟩ = some (.func (.func 33) #[] #[.pointer (some ⟨A, 0, none⟩), .pointer (some ⟨W.heap.size, 0, none⟩), .pointer (some ⟨Bb, 0, none⟩), .pointer (some ⟨f, 0, none⟩), .pointer (some ⟨t, 0, none⟩), .pointer (some ⟨w1.heap.size, 0, none⟩)]) := fun w' h => cell_step h cG
  have KK : Below W0.heap.size W0 W0.drew := (Below.refl _ _).drew
  clear HC1 HC2 a0 a1 b0 b1 hra hrb hY hJ q1 q2 q3 q4 q5 q6 cY cG hb1 hb2 hXW hww hWW hX hwX hW h0 hga hgb hca hcb HXE
  go_wp2_with fail
  rw [← HWE.out]
  refine wp_lates (S := (fun w' => Below W0.heap.size W0 w')) (late := (fun i => i == 4)) (by kernel_rfl) ?_
  have HS : Hid (Below W0.heap.size W0 W0.drew) := (Below.refl _ _).drew
  refine lates_takeM [] (i := 0) (oi := { dst := some 12, op := Go.Op.load 60 (Go.Operand.tmp 6), type := 60, pos := "maps.go:51", after := #[], guard := none }) (v := ?_) rfl (by kernel_rfl) (by kernel_rfl) (by kernel_rfl) (by kernel_rfl) (by kernel_rfl) (fun _ _ _ h => h) (Or.inl ⟨by rfl, ?hy⟩) HS.out ?_
  case hy => (intro w9 hSw; (have e0 := d0 _ hSw); (have e1 := d1 _ hSw); go_simp; try with_reducible rfl)
  try simp only [Act.put, List.setIfInBounds_toArray, List.set_cons_zero, List.set_cons_succ]
  refine lates_takeM [2, 3] (i := 1) (oi := { dst := some 13, op := Go.Op.fieldAddr 24 (Go.Operand.tmp 1) 0, type := 0, pos := "maps.go:51", after := #[], guard := none }) (v := ?_) rfl (by kernel_rfl) (by kernel_rfl) (by kernel_rfl) (by kernel_rfl) (by kernel_rfl) (fun _ _ _ h => h) (Or.inl ⟨by rfl, ?hy⟩) HS.out ?_
  case hy => (intro w9 hSw; (have e0 := d0 _ hSw); (have e1 := d1 _ hSw); go_simp; try with_reducible rfl)
  try simp only [Act.put, List.setIfInBounds_toArray, List.set_cons_zero, List.set_cons_succ]
  refine lates_takeM [3] (i := 2) (oi := { dst := some 14, op := Go.Op.load 3 (Go.Operand.tmp 13), type := 3, pos := "maps.go:51", after := #[{ on := 1, ground := Go.Ground.data }], guard := none }) (v := ?_) rfl (by kernel_rfl) (by kernel_rfl) (by kernel_rfl) (by kernel_rfl) (by kernel_rfl) (fun _ _ _ h => h) (Or.inl ⟨by rfl, ?hy⟩) HS.out ?_
  case hy => (intro w9 hSw; (have e0 := d0 _ hSw); (have e1 := d1 _ hSw); go_simp; try with_reducible rfl)
  try simp only [Act.put, List.setIfInBounds_toArray, List.set_cons_zero, List.set_cons_succ]
  refine lates_ready (rs := [3]) (by kernel_rfl) (by simp) ?_
  refine AllLate.cons (o := { dst := some 15, op := Go.Op.makeSlice 22 (Go.Operand.const (Go.Value.int Go.IntKind.i64 0)) (Go.Operand.tmp 14), type := 22, pos := "maps.go:51", after := #[{ on := 2, ground := Go.Ground.data }], guard := none }) rfl (fun K hK => ?_) ?_
  · rw [if_pos (by rfl)]
    refine wp_make0 W0.heap.size _ _ _ rfl na rfl rfl (by omega) HS.out.size ?_
    intro w5 hown5 hb5
    have HS5 : Hid (Below W0.heap.size W0 w5) := Below.then HS.out hb5
    refine hK.out _ _ (fun _ => ?_) ?_
    · exact HS5.out
    have HS := HS5
    clear hK K
    try simp only [Act.put, List.setIfInBounds_toArray, List.set_cons_zero, List.set_cons_succ]
    refine lates_ready (rs := [4]) (by kernel_rfl) (by simp) ?_
    refine AllLate.cons (o := { dst := some 16, op := Go.Op.call { callee := Go.Callee.value (Go.Operand.tmp 12), args := #[Go.Operand.tmp 15], argTypes := #[22] }, type := 4, pos := "maps.go:51", after := #[{ on := 0, ground := Go.Ground.data }, { on := 3, ground := Go.Ground.data }], guard := none }) rfl (fun K hK => ?_) ?_
    · go_simp
      refine (HGO.out _ w5 HS5.out hown5).mono ?_
      rintro e w6 ⟨⟨v, rfl⟩, h6⟩
      refine hK.out _ _ (fun h => by cases h) ?_
      clear hK K
      try simp only [Act.put, List.setIfInBounds_toArray, List.set_cons_zero, List.set_cons_succ]
      refine lates_done (by kernel_rfl) ?_ _
      try simp only [Act.put, List.setIfInBounds_toArray, List.set_cons_zero, List.set_cons_succ]
      go_end0
      exact ⟨⟨_, rfl⟩, h6⟩
    exact AllLate.nil
  exact AllLate.nil
end Go.Proofs.YtfajgahofkcndaaDoor
