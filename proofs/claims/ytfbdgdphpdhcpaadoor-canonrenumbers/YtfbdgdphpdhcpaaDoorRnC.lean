/-
  CanonRenumbers' drawn regions, whatever lies in the other slots. Conditions: as told.
-/
import Derived.Test.YtfbdgdphpdhcpaaDoorRnA
namespace Go.Proofs.YtfbdgdphpdhcpaaDoor
open Go Go.Conc Go.RowKit Sm
set_option maxRecDepth 100000

theorem n_r6x (tm : Array Value) (v : World) (hs : tm.size = 104) (B2 B5 n cap bc cq : Nat) (a bl lq : Option Addr) (g : Nat → Nat) (x : List Nat) (h2 : tm[2]? = some (.pointer (some ⟨B2, 0, none⟩))) (h5 : tm[5]? = some (.pointer (some ⟨B5, 0, none⟩))) (h6 : tm[6]? = some (.slice lq n cq)) (hn : n ≤ 6) (hg : ∀ k, k < n → g k < 1024) (px : IsP n x) (b20 : v.cell? ⟨B2, 0, none⟩ = some (.int .i64 (n : Nat))) (b21 : v.cell? ⟨B2, 1, none⟩ = some (.slice a n cap)) (b50 : v.cell? ⟨B5, 0, none⟩ = some (.int .i64 (n : Nat))) (b51 : v.cell? ⟨B5, 1, none⟩ = some (.slice bl n bc)) (hr : Row v a n (fun k => (g k : Nat))) (hrb : Row v bl n (fun k => (prt g x k : Nat))) (hrq : Row v lq n (fun k => (nth x k : Nat))) :
    (atc [1, 1, 1, 1, 0, 0] (Tryd.f8.body.getD .skip)).wp Tryd.prog (fun e s w => e = .normal ∧ s.defers = [] ∧ HB v w ∧ s.tmps.size = 104 ∧ s.tmps[39]? = some (.bool false) ∧ ∀ j, j < 17 → s.tmps[j]? = tm[j]?) ⟨tm, []⟩ v := by
  obtain ⟨u0, u1, u2, u3, u4, u5, u6, u7, u8, u9, u10, u11, u12, u13, u14, u15, u16, u17, u18, u19, u20, u21, u22, u23, u24, u25, u26, u27, u28, u29, u30, u31, u32, u33, u34, u35, u36, u37, u38, u39, u40, u41, u42, u43, u44, u45, u46, u47, u48, u49, u50, u51, u52, u53, u54, u55, u56, u57, u58, u59, u60, u61, u62, u63, u64, u65, u66, u67, u68, u69, u70, u71, u72, u73, u74, u75, u76, u77, u78, u79, u80, u81, u82, u83, u84, u85, u86, u87, u88, u89, u90, u91, u92, u93, u94, u95, u96, u97, u98, u99, u100, u101, u102, u103, rfl⟩ := split104 tm hs
  obtain rfl : u2 = _ := Option.some.inj h2
  obtain rfl : u5 = _ := Option.some.inj h5
  obtain rfl : u6 = _ := Option.some.inj h6
  exact n_r6 u0 u1 u3 u4 u7 u8 u9 u10 u11 u12 u13 u14 u15 u16 u17 u18 u19 u20 u21 u22 u23 u24 u25 u26 u27 u28 u29 u30 u31 u32 u33 u34 u35 u36 u37 u38 u39 u40 u41 u42 u43 u44 u45 u46 u47 u48 u49 u50 u51 u52 u53 u54 u55 u56 u57 u58 u59 u60 u61 u62 u63 u64 u65 u66 u67 u68 u69 u70 u71 u72 u73 u74 u75 u76 u77 u78 u79 u80 u81 u82 u83 u84 u85 u86 u87 u88 u89 u90 u91 u92 u93 u94 u95 u96 u97 u98 u99 u100 u101 u102 u103 v B2 B5 n cap bc cq a bl lq g x hn hg px b20 b21 b50 b51 hr hrb hrq
theorem n_r14x (tm : Array Value) (v : World) (hs : tm.size = 104) (q : Bool) (B5 bf m c i n bc co : Nat) (bl ao : Option Addr) (F G : Nat → Nat) (h5 : tm[5]? = some (.pointer (some ⟨B5, 0, none⟩))) (h8 : tm[8]? = some (.slice (some ⟨bf, 0, none⟩) m c)) (h10 : tm[10]? = some (.bool q)) (h11 : tm[11]? = some (.int .i64 (i : Nat))) (hn : n ≤ 6) (hi : i < m) (b50 : v.cell? ⟨B5, 0, none⟩ = some (.int .i64 (n : Nat))) (b51 : v.cell? ⟨B5, 1, none⟩ = some (.slice bl n bc)) (o0 : v.cell? ⟨bf, i * 2, none⟩ = some (.int .i64 (n : Nat))) (o1 : v.cell? ⟨bf, i * 2 + 1, none⟩ = some (.slice ao n co)) (hrb : Row v bl n (fun k => (F k : Nat))) (hro : Row v ao n (fun k => (G k : Nat))) :
    (atc [1, 1, 0, 1, 2, 2, 1, 0, 2] (yC (Tryd.f8.body.getD .skip))).wp Tryd.prog (fun e s w => e = .normal ∧ s.defers = [] ∧ HB v w ∧ s.tmps.size = 104 ∧ (∃ b, s.tmps[10]? = some (.bool b) ∧ (q = true → b = true) ∧ ((∀ k, k < n → G k = F k) → b = true)) ∧ ∀ j, j < 17 → j ≠ 10 → s.tmps[j]? = tm[j]?) ⟨tm, []⟩ v := by
  obtain ⟨u0, u1, u2, u3, u4, u5, u6, u7, u8, u9, u10, u11, u12, u13, u14, u15, u16, u17, u18, u19, u20, u21, u22, u23, u24, u25, u26, u27, u28, u29, u30, u31, u32, u33, u34, u35, u36, u37, u38, u39, u40, u41, u42, u43, u44, u45, u46, u47, u48, u49, u50, u51, u52, u53, u54, u55, u56, u57, u58, u59, u60, u61, u62, u63, u64, u65, u66, u67, u68, u69, u70, u71, u72, u73, u74, u75, u76, u77, u78, u79, u80, u81, u82, u83, u84, u85, u86, u87, u88, u89, u90, u91, u92, u93, u94, u95, u96, u97, u98, u99, u100, u101, u102, u103, rfl⟩ := split104 tm hs
  obtain rfl : u5 = _ := Option.some.inj h5
  obtain rfl : u8 = _ := Option.some.inj h8
  obtain rfl : u10 = _ := Option.some.inj h10
  obtain rfl : u11 = _ := Option.some.inj h11
  cases q with
  | true => exact wp_mono (n_r14a u0 u1 u2 u3 u4 u6 u7 u9 u12 u13 u14 u15 u16 u17 u18 u19 u20 u21 u22 u23 u24 u25 u26 u27 u28 u29 u30 u31 u32 u33 u34 u35 u36 u37 u38 u39 u40 u41 u42 u43 u44 u45 u46 u47 u48 u49 u50 u51 u52 u53 u54 u55 u56 u57 u58 u59 u60 u61 u62 u63 u64 u65 u66 u67 u68 u69 u70 u71 u72 u73 u74 u75 u76 u77 u78 u79 u80 u81 u82 u83 u84 u85 u86 u87 u88 u89 u90 u91 u92 u93 u94 u95 u96 u97 u98 u99 u100 u101 u102 u103 v B5 bf m c i) fun e s w h => ⟨h.1, h.2.1, h.2.2.1, h.2.2.2.1, ⟨true, h.2.2.2.2.1, fun _ => rfl, fun _ => rfl⟩, h.2.2.2.2.2⟩
  | false =>
    refine wp_mono (n_r14b u0 u1 u2 u3 u4 u6 u7 u9 u12 u13 u14 u15 u16 u17 u18 u19 u20 u21 u22 u23 u24 u25 u26 u27 u28 u29 u30 u31 u32 u33 u34 u35 u36 u37 u38 u39 u40 u41 u42 u43 u44 u45 u46 u47 u48 u49 u50 u51 u52 u53 u54 u55 u56 u57 u58 u59 u60 u61 u62 u63 u64 u65 u66 u67 u68 u69 u70 u71 u72 u73 u74 u75 u76 u77 u78 u79 u80 u81 u82 u83 u84 u85 u86 u87 u88 u89 u90 u91 u92 u93 u94 u95 u96 u97 u98 u99 u100 u101 u102 u103 v B5 bf m c i n bc co bl ao F G hn hi b50 b51 o0 o1 hrb hro) ?_
    rintro e s w ⟨h1, h2, h3, h4, ⟨b, h5, h6⟩, h7⟩
    exact ⟨h1, h2, h3, h4, ⟨b, h5, (fun q => by cases q), h6⟩, h7⟩
end Go.Proofs.YtfbdgdphpdhcpaaDoor
