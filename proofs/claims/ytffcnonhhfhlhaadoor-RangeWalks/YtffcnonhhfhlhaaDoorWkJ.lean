import Derived.Test.YtffcnonhhfhlhaaDoorWkI
import Derived.Test.YtffcnonhhfhlhaaDoorWkG
namespace Go.Proofs.YtffcnonhhfhlhaaDoor.Rg
open Go.RowKit Go.Shelf Go.Sort
open Go.Proofs.YtffcnonhhfhlhaaDoor.It Go.BigFrame
attribute [local go_sem] Oper.semAt_some
set_option linter.unusedVariables false
/-- where the loop stands -/
structure Wr (Ls : List Nat) (w w6 : World) (b B bn : Nat) (lim rd : Int) (Lc : List Sg) (V : World) : Prop where
  fx : Fx b w6 V
  r : V.heap[bn]? = some (.cells #[.int .i64 rd] 3 (0, 0))
  low : w6.heap.size ≤ bn
  t : ∃ v', Tb B V b lim v' Lc
  bel : Below w.heap.size w V
  nd : Ls.Nodup
  d : ∀ D ∈ Ls, w.heap.size ≤ D ∧ V.heap[D]? = some (.deferred (some []))
set_option maxRecDepth 100000 in
def WkR (w w6 : World) (b B : Nat) (lim stop : Int) (N : Nat) (L L' : List Sg) (bp bt br bT bR bw bf : Nat) (a : Act) (V : World) : Prop :=
  ∃ (rd bn : Nat) (Ls : List Nat) (f : Nat → Value), rd ≤ 4 ∧ a = { tmps := #[f 0, f 1, f 2, f 3, f 4, f 5, f 6, f 7, .pointer (some ⟨bp, 0, none⟩), .pointer (some ⟨bt, 0, none⟩), .pointer (some ⟨br, 0, none⟩), .pointer (some ⟨bT, 0, none⟩), .pointer (some ⟨bR, 0, none⟩), f 13, .pointer (some ⟨bw, 0, none⟩), .pointer (some ⟨bf, 0, none⟩), .pointer (some ⟨bn, 0, none⟩), f 17, f 18, f 19, f 20, f 21, f 22, f 23, f 24, f 25, f 26, f 27, f 28, f 29, f 30, f 31, f 32, f 33, f 34, f 35, f 36, f 37, f 38, f 39, f 40, f 41, f 42, f 43, f 44, f 45, f 46, f 47, f 48, f 49, f 50, f 51, f 52, f 53, f 54, f 55, f 56, f 57, f 58, f 59, f 60, f 61, f 62, f 63, f 64, f 65, f 66, f 67, f 68, f 69, f 70, f 71, f 72, f 73, f 74, f 75, f 76, f 77, f 78, f 79, f 80, f 81, f 82, f 83, f 84, f 85, f 86, f 87, f 88, f 89, f 90, f 91, f 92, f 93, f 94, f 95, f 96, f 97, f 98, f 99, f 100, f 101, f 102, f 103, f 104, f 105, f 106, f 107, f 108, f 109, f 110, f 111, f 112, f 113, f 114, f 115, f 116, f 117, f 118, f 119, f 120, f 121, f 122, f 123, f 124, f 125, f 126, f 127, f 128, f 129, f 130, f 131, f 132, f 133, f 134, f 135, f 136, f 137, f 138, f 139, f 140, f 141, f 142, f 143, f 144, f 145, f 146, f 147, f 148, f 149, f 150, f 151, f 152, f 153, f 154, f 155, f 156, f 157, f 158, f 159, f 160, f 161, f 162, f 163, f 164, f 165, f 166, f 167, f 168], defers := Ls.map (fun D => { target := .collected D, args := #[] }) } ∧ Wr Ls w w6 b B bn lim (rd : Int) (curL stop N L L' rd 0) V
set_option maxRecDepth 100000 in
theorem WkR.of {w w6 V : World} {b B : Nat} {lim stop : Int} {N : Nat} {L L' : List Sg} {bp bt br bT bR bw bf : Nat} {a : Act} (rd bn : Nat) (Ls : List Nat) (h1 : rd ≤ 4) (ha : a = { tmps := #[a.tmps.getD 0 undef, a.tmps.getD 1 undef, a.tmps.getD 2 undef, a.tmps.getD 3 undef, a.tmps.getD 4 undef, a.tmps.getD 5 undef, a.tmps.getD 6 undef, a.tmps.getD 7 undef, .pointer (some ⟨bp, 0, none⟩), .pointer (some ⟨bt, 0, none⟩), .pointer (some ⟨br, 0, none⟩), .pointer (some ⟨bT, 0, none⟩), .pointer (some ⟨bR, 0, none⟩), a.tmps.getD 13 undef, .pointer (some ⟨bw, 0, none⟩), .pointer (some ⟨bf, 0, none⟩), .pointer (some ⟨bn, 0, none⟩), a.tmps.getD 17 undef, a.tmps.getD 18 undef, a.tmps.getD 19 undef, a.tmps.getD 20 undef, a.tmps.getD 21 undef, a.tmps.getD 22 undef, a.tmps.getD 23 undef, a.tmps.getD 24 undef, a.tmps.getD 25 undef, a.tmps.getD 26 undef, a.tmps.getD 27 undef, a.tmps.getD 28 undef, a.tmps.getD 29 undef, a.tmps.getD 30 undef, a.tmps.getD 31 undef, a.tmps.getD 32 undef, a.tmps.getD 33 undef, a.tmps.getD 34 undef, a.tmps.getD 35 undef, a.tmps.getD 36 undef, a.tmps.getD 37 undef, a.tmps.getD 38 undef, a.tmps.getD 39 undef, a.tmps.getD 40 undef, a.tmps.getD 41 undef, a.tmps.getD 42 undef, a.tmps.getD 43 undef, a.tmps.getD 44 undef, a.tmps.getD 45 undef, a.tmps.getD 46 undef, a.tmps.getD 47 undef, a.tmps.getD 48 undef, a.tmps.getD 49 undef, a.tmps.getD 50 undef, a.tmps.getD 51 undef, a.tmps.getD 52 undef, a.tmps.getD 53 undef, a.tmps.getD 54 undef, a.tmps.getD 55 undef, a.tmps.getD 56 undef, a.tmps.getD 57 undef, a.tmps.getD 58 undef, a.tmps.getD 59 undef, a.tmps.getD 60 undef, a.tmps.getD 61 undef, a.tmps.getD 62 undef, a.tmps.getD 63 undef, a.tmps.getD 64 undef, a.tmps.getD 65 undef, a.tmps.getD 66 undef, a.tmps.getD 67 undef, a.tmps.getD 68 undef, a.tmps.getD 69 undef, a.tmps.getD 70 undef, a.tmps.getD 71 undef, a.tmps.getD 72 undef, a.tmps.getD 73 undef, a.tmps.getD 74 undef, a.tmps.getD 75 undef, a.tmps.getD 76 undef, a.tmps.getD 77 undef, a.tmps.getD 78 undef, a.tmps.getD 79 undef, a.tmps.getD 80 undef, a.tmps.getD 81 undef, a.tmps.getD 82 undef, a.tmps.getD 83 undef, a.tmps.getD 84 undef, a.tmps.getD 85 undef, a.tmps.getD 86 undef, a.tmps.getD 87 undef, a.tmps.getD 88 undef, a.tmps.getD 89 undef, a.tmps.getD 90 undef, a.tmps.getD 91 undef, a.tmps.getD 92 undef, a.tmps.getD 93 undef, a.tmps.getD 94 undef, a.tmps.getD 95 undef, a.tmps.getD 96 undef, a.tmps.getD 97 undef, a.tmps.getD 98 undef, a.tmps.getD 99 undef, a.tmps.getD 100 undef, a.tmps.getD 101 undef, a.tmps.getD 102 undef, a.tmps.getD 103 undef, a.tmps.getD 104 undef, a.tmps.getD 105 undef, a.tmps.getD 106 undef, a.tmps.getD 107 undef, a.tmps.getD 108 undef, a.tmps.getD 109 undef, a.tmps.getD 110 undef, a.tmps.getD 111 undef, a.tmps.getD 112 undef, a.tmps.getD 113 undef, a.tmps.getD 114 undef, a.tmps.getD 115 undef, a.tmps.getD 116 undef, a.tmps.getD 117 undef, a.tmps.getD 118 undef, a.tmps.getD 119 undef, a.tmps.getD 120 undef, a.tmps.getD 121 undef, a.tmps.getD 122 undef, a.tmps.getD 123 undef, a.tmps.getD 124 undef, a.tmps.getD 125 undef, a.tmps.getD 126 undef, a.tmps.getD 127 undef, a.tmps.getD 128 undef, a.tmps.getD 129 undef, a.tmps.getD 130 undef, a.tmps.getD 131 undef, a.tmps.getD 132 undef, a.tmps.getD 133 undef, a.tmps.getD 134 undef, a.tmps.getD 135 undef, a.tmps.getD 136 undef, a.tmps.getD 137 undef, a.tmps.getD 138 undef, a.tmps.getD 139 undef, a.tmps.getD 140 undef, a.tmps.getD 141 undef, a.tmps.getD 142 undef, a.tmps.getD 143 undef, a.tmps.getD 144 undef, a.tmps.getD 145 undef, a.tmps.getD 146 undef, a.tmps.getD 147 undef, a.tmps.getD 148 undef, a.tmps.getD 149 undef, a.tmps.getD 150 undef, a.tmps.getD 151 undef, a.tmps.getD 152 undef, a.tmps.getD 153 undef, a.tmps.getD 154 undef, a.tmps.getD 155 undef, a.tmps.getD 156 undef, a.tmps.getD 157 undef, a.tmps.getD 158 undef, a.tmps.getD 159 undef, a.tmps.getD 160 undef, a.tmps.getD 161 undef, a.tmps.getD 162 undef, a.tmps.getD 163 undef, a.tmps.getD 164 undef, a.tmps.getD 165 undef, a.tmps.getD 166 undef, a.tmps.getD 167 undef, a.tmps.getD 168 undef], defers := Ls.map (fun D => { target := .collected D, args := #[] }) }) (hR : Wr Ls w w6 b B bn lim (rd : Int) (curL stop N L L' rd 0) V) : WkR w w6 b B lim stop N L L' bp bt br bT bR bw bf a V :=
  ⟨rd, bn, Ls, fun i => a.tmps.getD i undef, h1, ha, hR⟩
def wkM (a : Act) (V : World) : Nat := match a.tmps.getD 16 undef with
  | .pointer (some ad) => (match V.cell? ad with
    | some (.int _ x) => (4 - x).toNat
    | _ => 0)
  | _ => 0
theorem wkM_eq {a : Act} {V : World} {ad : Addr} {k : IntKind} {x : Int} (h1 : a.tmps.getD 16 undef = .pointer (some ad)) (h2 : V.cell? ad = some (.int k x)) : wkM a V = (4 - x).toNat := by
  unfold wkM
  rw [h1]
  simp only [h2]
theorem curL_next {stop : Int} {N : Nat} {L L' : List Sg} {rd n : Nat} (h : rd = 0 ∨ n = N) : curL stop N L L' (rd + 1) 0 = curL stop N L L' rd n := by
  by_cases h0 : stop < 0
  · simp [curL, h0]
  · match rd, h with
    | 0, h => simp [curL, h0]
    | 1, h =>
      obtain rfl : n = N := by omega
      simp [curL, h0]
    | rd + 2, h => simp [curL, h0]
/-- the round is over -/
theorem round_end {Ls : List Nat} {w w6 V V1 : World} {b B bn bi D : Nat} {lim stop : Int} {N rd n : Nat} {L L' : List Sg} (hj : Wj Ls w w6 b B bn bi lim (rd : Int) (n : Int) (curL stop N L L' rd n) V) (h : rd = 0 ∨ n = N) (h6 : w6.heap.size ≤ bi) (nd : Ls.Nodup) (hLs : ∀ D ∈ Ls, D < V1.heap.size) (hlo : ∀ D ∈ Ls, w.heap.size ≤ D) (hw : w.heap.size ≤ V1.heap.size) (hD : V1.heap.size ≤ D) (hK : V.heap[D]? = some (.deferred (some []))) :
    Wr (D :: Ls) w w6 b B V.heap.size lim ((rd + 1 : Nat) : Int) (curL stop N L L' (rd + 1) 0) (V.alloc (.cells #[.int .i64 ((rd : Int) + 1)] 3)) := by
  have K : Kp Nu V (V.alloc (.cells #[.int .i64 ((rd : Int) + 1)] 3)) := Kp.alloc V _ Nu
  have hj2 := hj.nu K
  refine ⟨hj2.fx, ?_, ?_, ?_, hj2.bel, ?_, ?_⟩
  · rw [heap_alloc_new V _]; simp
  · have := blk_lt hj.i; omega
  · rw [curL_next h]; exact hj2.t
  · exact List.nodup_cons.2 ⟨fun h => by have := hLs D h; omega, nd⟩
  · intro D' hD'
    rcases List.mem_cons.1 hD' with e | e
    · subst e
      exact ⟨by omega, (K.block _ (Array.getElem?_eq_some_iff.1 hK).1 (fun h => h)).trans hK⟩
    · exact ⟨hlo D' e, hj2.d D' e⟩
section
variable {w w6 : World} {bs bp bt br bT bR bw bf : Nat} {s th : Sp} {stop lim : Int} {B b : Nat} {v vr : Value} {wa : Option Addr} {wc N : Nat} {L W : List Sg} {gf : Nat} {lb : Array Value}
set_option maxRecDepth 100000 in
set_option maxHeartbeats 4000000 in
theorem round_any (hb : Wb w w6 bs bp bt br bT bR bw bf s th stop lim B b v vr (.slice wa N wc) L W gf lb) (ft : SpB th) (hN : W.length = N) (Ls : List Nat) (V : World) (rd bn : Nat) (hrd : rd < 4) (hR : Wr Ls w w6 b B bn lim (rd : Int) (curL stop N L (stp L lim th) rd 0) V) (Q : Exit → Act → World → Prop) {t0 t1 t2 t3 t4 t5 t6 t7 t13 t17 t18 t19 t20 t21 t22 t23 t24 t25 t26 t27 t28 t29 t30 t31 t32 t33 t34 t35 t36 t37 t38 t39 t40 t41 t42 t43 t44 t45 t46 t47 t48 t49 t50 t51 t52 t53 t54 t55 t56 t57 t58 t59 t60 t61 t62 t63 t64 t65 t66 t67 t68 t69 t70 t71 t72 t73 t74 t75 t76 t77 t78 t79 t80 t81 t82 t83 t84 t85 t86 t87 t88 t89 t90 t91 t92 t93 t94 t95 t96 t97 t98 t99 t100 t101 t102 t103 t104 t105 t106 t107 t108 t109 t110 t111 t112 t113 t114 t115 t116 t117 t118 t119 t120 t121 t122 t123 t124 t125 t126 t127 t128 t129 t130 t131 t132 t133 t134 t135 t136 t137 t138 t139 t140 t141 t142 t143 t144 t145 t146 t147 t148 t149 t150 t151 t152 t153 t154 t155 t156 t157 t158 t159 t160 t161 t162 t163 t164 t165 t166 t167 t168 : Value} :
    (loop4 Tryd.f4).wpIn Fence.wide 4 Tryd.prog (Exit.then (fun a' w' => WkR w w6 b B lim stop N L (stp L lim th) bp bt br bT bR bw bf a' w' ∧ wkM a' w' < 4 - rd) Q) { tmps := #[t0, t1, t2, t3, t4, t5, t6, t7, .pointer (some ⟨bp, 0, none⟩), .pointer (some ⟨bt, 0, none⟩), .pointer (some ⟨br, 0, none⟩), .pointer (some ⟨bT, 0, none⟩), .pointer (some ⟨bR, 0, none⟩), t13, .pointer (some ⟨bw, 0, none⟩), .pointer (some ⟨bf, 0, none⟩), .pointer (some ⟨bn, 0, none⟩), t17, t18, t19, t20, t21, t22, t23, t24, t25, t26, t27, t28, t29, t30, t31, t32, t33, t34, t35, t36, t37, t38, t39, t40, t41, t42, t43, t44, t45, t46, t47, t48, t49, t50, t51, t52, t53, t54, t55, t56, t57, t58, t59, t60, t61, t62, t63, t64, t65, t66, t67, t68, t69, t70, t71, t72, t73, t74, t75, t76, t77, t78, t79, t80, t81, t82, t83, t84, t85, t86, t87, t88, t89, t90, t91, t92, t93, t94, t95, t96, t97, t98, t99, t100, t101, t102, t103, t104, t105, t106, t107, t108, t109, t110, t111, t112, t113, t114, t115, t116, t117, t118, t119, t120, t121, t122, t123, t124, t125, t126, t127, t128, t129, t130, t131, t132, t133, t134, t135, t136, t137, t138, t139, t140, t141, t142, t143, t144, t145, t146, t147, t148, t149, t150, t151, t152, t153, t154, t155, t156, t157, t158, t159, t160, t161, t162, t163, t164, t165, t166, t167, t168], defers := Ls.map (fun D => { target := .collected D, args := #[] }) } V := by
  simp only [loop4, tail9, cL, cR, cI, Tryd.f4, Option.getD]
  have cr := cell1 hR.r
  have hlt : (rd : Int) < 4 := by omega
  have hltN : rd < 4 := hrd
  have kB : Kp Nu V (V.alloc (.cells #[.int .i64 0] 3)) := Kp.alloc V _ Nu
  have hi0 : (V.alloc (.cells #[.int .i64 0] 3)).heap[V.heap.size]? = some (.cells #[.int .i64 0] 3 (0, 0)) := heap_alloc_new V _
  have cf := cell1 ((kB.block _ (blk_lt (hb.at hR.fx).2.2.2.2.1) (fun h => h)).trans (hb.at hR.fx).2.2.2.2.1)
  have hJ0 : WJ Ls w w6 b B bn V.heap.size lim stop N L (stp L lim th) rd [] (V.alloc (.cells #[.int .i64 0] 3)) := by
    obtain ⟨v', ht⟩ := hR.t
    exact ⟨⟨hR.fx.nu kB, (kB.block _ (blk_lt hR.r) (fun h => h)).trans hR.r, hi0, ⟨v', ht.nu kB⟩, ((Kp.of_below hR.bel).andNu kB).toBelow, fun D hD => (kB.block _ (Array.getElem?_eq_some_iff.1 (hR.d D hD).2).1 (fun h => h)).trans (hR.d D hD).2⟩, fun _ h => by simp at h; omega⟩
  have hLs : ∀ D ∈ Ls, D < (V.alloc (.cells #[.int .i64 0] 3)).heap.size := fun D hD => by have := (Array.getElem?_eq_some_iff.1 (hR.d D hD).2).1; simp; omega
  have h6 : w6.heap.size ≤ V.heap.size := by have h1 := hR.low; have h2 := blk_lt hR.r; omega
  have hw : w.heap.size ≤ V.heap.size := hR.bel.size
  have hne : bn ≠ V.heap.size := by have h2 := blk_lt hR.r; omega
  have H0 := hide (And.intro hb (And.intro ft (And.intro hN (And.intro hR (And.intro hJ0 (And.intro hLs (And.intro h6 (And.intro hw (And.intro hne (And.intro kB hrd))))))))))
  clear hb ft hN hR kB hi0 hJ0 hLs h6 hw hne hrd
  gi_wp2_with fail
  obtain ⟨V1, hV1⟩ : ∃ V1, V.alloc (.cells #[.int .i64 0] 3) = V1 := ⟨_, rfl⟩
  rw [hV1] at H0 cf ⊢
  clear hV1
  obtain ⟨bi, hbi⟩ : ∃ bi, V.heap.size = bi := ⟨_, rfl⟩
  have H1 := H0.out
  rw [hbi] at H1 ⊢
  clear hbi H0
  obtain ⟨hb, ft, hN, hR, hJ0, hLs, h6, hw, hne, kB, hrd⟩ := H1
  obtain ⟨eg, K2, N2, hK2, hS2⟩ := id hb.sq
  have SQ := hS2 V1 (hR.fx.nu kB)
  have hw1 : w.heap.size ≤ V1.heap.size := hJ0.1.bel.size
  have HH := hide (And.intro hb (And.intro ft (And.intro hN (And.intro hR (And.intro hLs (And.intro h6 (And.intro hw (And.intro hne (And.intro kB hrd)))))))))
  have HK2 := hide hK2
  clear hb ft hN hR h6 hw hne kB hrd hS2 hK2
  refine range_q rfl eg SQ (Below.refl _ _) (fun _ => rfl) (WJ Ls w w6 b B bn bi lim stop N L (stp L lim th) rd) (WX Ls w w6 b B bn bi lim stop N L (stp L lim th) rd)
    (fun p X Z row hs hg hr => ⟨Wj.own (β := Unit) (fun _ => (p.length : Int)) (fun _ => curL stop N L (stp L lim th) rd p.length) hw1 hLs () X Z row hs.1 hg hr, hs.2⟩)
    (fun c p X Z row hs hg hr => ⟨hs.1, hs.2.1, hs.2.2.1, Wj.own (β := Unit) (fun _ => (p.length : Int)) (fun _ => curL stop N L (stp L lim th) rd p.length) hw1 hLs () X Z row hs.2.2.2 hg hr⟩) hJ0
    (fun x a' V' => ∃ bg, V'.heap[bg]? = some (.cells #[.int .u64 x.lo, .int .u64 x.hi, .int .u8 x.h] 26 (0, 0)) ∧ a' = { tmps := #[t0, t1, t2, t3, t4, t5, t6, t7, .pointer (some ⟨bp, 0, none⟩), .pointer (some ⟨bt, 0, none⟩), .pointer (some ⟨br, 0, none⟩), .pointer (some ⟨bT, 0, none⟩), .pointer (some ⟨bR, 0, none⟩), t13, .pointer (some ⟨bw, 0, none⟩), .pointer (some ⟨bf, 0, none⟩), .pointer (some ⟨bn, 0, none⟩), .pointer (some ⟨bi, 0, none⟩), .pointer (some ⟨bg, 0, none⟩), t19, t20, t21, t22, t23, t24, t25, t26, t27, t28, t29, t30, t31, t32, t33, t34, t35, t36, t37, t38, t39, t40, t41, t42, t43, t44, t45, t46, t47, t48, t49, t50, t51, t52, t53, t54, t55, t56, t57, t58, t59, t60, t61, t62, t63, t64, t65, t66, t67, .int .i64 (rd : Int), .bool true, t70, t71, .func (.func gf) #[] lb, enc x, t74, t75, t76, t77, t78, t79, t80, t81, t82, t83, t84, t85, t86, t87, t88, t89, t90, t91, t92, t93, t94, t95, t96, t97, t98, t99, t100, t101, t102, t103, t104, t105, t106, t107, t108, t109, t110, t111, t112, t113, t114, t115, t116, t117, t118, t119, t120, t121, t122, t123, t124, t125, t126, t127, t128, t129, t130, t131, t132, t133, t134, t135, t136, t137, t138, t139, t140, t141, t142, t143, t144, t145, t146, t147, t148, t149, t150, t151, t152, t153, t154, t155, t156, t157, t158, t159, t160, t161, t162, t163, t164, t165, t166, t167, t168], defers := [] })
    (fun x a' _ X Z row hs hg hr => by
      obtain ⟨Bx, q1, q2⟩ := hs
      exact ⟨Bx, cells_grown hg hr _ _ _ _ q1, q2⟩)
    ?asg ?bo ?dn ?st
  case asg =>
    rintro l' pre2 y V' R hI2 hR
    simp only [enc]
    have kV := Kp.alloc V' (.cells #[.int .u64 y.lo, .int .u64 y.hi, .int .u8 y.h] 26) Nu
    have HI := hide (And.intro hI2 kV)
    clear hI2 kV SQ cf cr hlt hltN hJ0
    gi_wp2
    obtain ⟨hI2, kV⟩ := HI.out
    exact hR _ _ (kf_nu _ kV) (kc_nu kV) ⟨hI2.1.nu kV, hI2.2⟩ ⟨V'.heap.size, heap_alloc_new V' _, rfl⟩
  case bo =>
    rintro l' pre x a' V' hl' hq hJ ⟨bg, hX, rfl⟩ hp2
    obtain ⟨hb, ft, hN, hR, hLs, h6, hw, hne, kB, hrd⟩ := HH.out
    have hc : rd = 0 ∨ rd = 1 ∨ rd = 2 ∨ rd = 3 := by omega
    clear cr cf hlt hltN hJ0 hR kB
    rcases hc with e | e | e | e
    · subst e; exact body_0 hb ft hN HK2.out V' bn bi bg l' _ h6 hw hne hq pre x hp2 hJ hX
    · subst e; exact body_1 hb ft hN HK2.out V' bn bi bg l' _ h6 hw hne hq pre x hp2 hJ hX
    · subst e; exact body_2 hb ft hN HK2.out V' bn bi bg l' _ h6 hw hne hq pre x hp2 hJ hX
    · subst e; exact body_3 hb ft hN HK2.out V' bn bi bg l' _ h6 hw hne hq pre x hp2 hJ hX
  case dn =>
    rintro D ys V' hD hys hJ hK'
    subst hys
    obtain ⟨hb, ft, hN, hR, hLs, h6, hw, hne, kB, hrd⟩ := HH.out
    obtain ⟨hj, _⟩ := hJ
    rw [hN] at hj
    have WE := round_end hj (.inr rfl) h6 hR.nd hLs (fun D hD => (hR.d D hD).1) hw1 hD hK'
    have hat := hb.at hj.fx
    have cn : V'.cell? ⟨bn, 0, none⟩ = some (.int .i64 (rd : Int)) := cell1 hj.r
    have ci := cell1 hj.i
    have cw := cell1 hat.2.2.2.1
    have c2 := cell1 WE.r
    have hwr : wrap64 ((rd : Int) + 1) = (rd : Int) + 1 := by unfold wrap64; omega
    have HE := hide (And.intro WE (And.intro c2 hrd))
    have hrd0 : (0 : Int) ≤ (rd : Int) := by omega
    clear hb ft hN hR hLs h6 hw hne kB hrd hj WE hat c2 hK' cf cr SQ hJ0 hD
    gi_wp2
    refine ⟨WkR.of (rd + 1) V'.heap.size (D :: Ls) (by have := HE.out.2.2; omega) (by rfl) HE.out.1, ?_⟩
    rw [wkM_eq (ad := ⟨V'.heap.size, 0, none⟩) rfl HE.out.2.1]
    have := HE.out.2.2
    omega
  case st =>
    rintro D c pre V' hD hSp hX hK'
    obtain ⟨hb, ft, hN, hR, hLs, h6, hw, hne, kB, hrd⟩ := HH.out
    obtain ⟨rfl, e0, hst, hj⟩ := hX
    have WE := round_end hj (.inl e0) h6 hR.nd hLs (fun D hD => (hR.d D hD).1) hw1 hD hK'
    have hat := hb.at hj.fx
    have cn : V'.cell? ⟨bn, 0, none⟩ = some (.int .i64 (rd : Int)) := cell1 hj.r
    have ci := cell1 hj.i
    have cp := cell1 hat.1.p
    rw [hst] at cp
    have cw := cell1 hat.2.2.2.1
    have c2 := cell1 WE.r
    have hwr : wrap64 ((rd : Int) + 1) = (rd : Int) + 1 := by unfold wrap64; omega
    have HE := hide (And.intro WE (And.intro c2 hrd))
    have hrd0 : ((rd : Int) != 0) = false := by simp [e0]
    have hrd1 : (rd : Int) = 0 := by omega
    obtain ⟨n, en⟩ : ∃ n, pre.length = n := ⟨_, rfl⟩
    rw [en] at cp ci
    have HF0 := hide (And.intro e0 hrd1)
    clear hb ft hN hR hLs h6 hw hne kB hrd hj WE hat c2 hK' cf cr SQ hJ0 hD hst e0 hrd1 en hSp
    by_cases hnN : n = N
    · have b1 : ((n : Int) != (N : Int)) = false := by simp [hnN]
      clear hnN
      gi_wp2
      refine ⟨WkR.of (rd + 1) V'.heap.size (D :: Ls) (by have := HE.out.2.2; omega) (by rfl) HE.out.1, ?_⟩
      rw [wkM_eq (ad := ⟨V'.heap.size, 0, none⟩) rfl HE.out.2.1]
      have := HE.out.2.2
      omega
    · have b1 : ((n : Int) != (N : Int)) = true := by simp; omega
      have b2 : ((n : Int) != (n : Int)) = false := by simp
      clear hnN
      gi_wp2
      refine ⟨WkR.of (rd + 1) V'.heap.size (D :: Ls) (by have := HE.out.2.2; omega) (by rfl) HE.out.1, ?_⟩
      rw [wkM_eq (ad := ⟨V'.heap.size, 0, none⟩) rfl HE.out.2.1]
      have := HE.out.2.2
      omega
end
end Go.Proofs.YtffcnonhhfhlhaaDoor.Rg
