import Derived.Test.YtffcnonhhfhlhaaDoorWkL
namespace Go.Proofs.YtffcnonhhfhlhaaDoor.Rg
open Go.RowKit Go.Shelf Go.Sort
open Go.Proofs.YtffcnonhhfhlhaaDoor.It Go.BigFrame
attribute [local go_sem] Oper.semAt_some
set_option linter.unusedVariables false
section
variable {w w6 : World} {bs bp bt br bT bR bw bf : Nat} {s th : Sp} {stop lim : Int} {B b : Nat} {v : Value} {va : Option Addr} {vn vc : Nat} {wa : Option Addr} {wc N : Nat} {L W : List Sg} {gf : Nat} {lb : Array Value}
set_option maxRecDepth 100000 in
set_option maxHeartbeats 8000000 in
theorem walks_tail (hb : Wb w w6 bs bp bt br bT bR bw bf s th stop lim B b v (.slice va vn vc) (.slice wa N wc) L W gf lb) (ft : SpB th) (hN : W.length = N) (hp : PowB w.heap.size w) (hbr : w.heap.size ≤ br) (Q : Exit → Act → World → Prop) (hQ : EndQ w br Q) {t0 t1 t2 t3 t4 t5 t6 t7 t13 t16 t17 t18 t19 t20 t21 t22 t23 t24 t25 t26 t27 t28 t29 t30 t31 t32 t33 t34 t35 t36 t37 t38 t39 t40 t41 t42 t43 t44 t45 t46 t47 t48 t49 t50 t51 t52 t53 t54 t55 t56 t57 t58 t59 t60 t61 t62 t63 t64 t65 t66 t67 t68 t69 t70 t71 t72 t73 t74 t75 t76 t77 t78 t79 t80 t81 t82 t83 t84 t85 t86 t87 t88 t89 t90 t91 t92 t93 t94 t95 t96 t97 t98 t99 t100 t101 t102 t103 t104 t105 t106 t107 t108 t109 t110 t111 t112 t113 t114 t115 t116 t117 t118 t119 t120 t121 t122 t123 t124 t125 t126 t127 t128 t129 t130 t131 t132 t133 t134 t135 t136 t137 t138 t139 t140 t141 t142 t143 t144 t145 t146 t147 t148 t149 t150 t151 t152 t153 t154 t155 t156 t157 t158 t159 t160 t161 t162 t163 t164 t165 t166 t167 t168 : Value} :
    (tail9 Tryd.f4).wpIn Fence.wide 4 Tryd.prog Q { tmps := #[t0, t1, t2, t3, t4, t5, t6, t7, .pointer (some ⟨bp, 0, none⟩), .pointer (some ⟨bt, 0, none⟩), .pointer (some ⟨br, 0, none⟩), .pointer (some ⟨bT, 0, none⟩), .pointer (some ⟨bR, 0, none⟩), t13, .pointer (some ⟨bw, 0, none⟩), .pointer (some ⟨bf, 0, none⟩), t16, t17, t18, t19, t20, t21, t22, t23, t24, t25, t26, t27, t28, t29, t30, t31, t32, t33, t34, t35, t36, t37, t38, t39, t40, t41, t42, t43, t44, t45, t46, t47, t48, t49, t50, t51, t52, t53, t54, t55, t56, t57, t58, t59, t60, t61, t62, t63, t64, t65, t66, t67, t68, t69, t70, t71, t72, t73, t74, t75, t76, t77, t78, t79, t80, t81, t82, t83, t84, t85, t86, t87, t88, t89, t90, t91, t92, t93, t94, t95, t96, t97, t98, t99, t100, t101, t102, t103, t104, t105, t106, t107, t108, t109, t110, t111, t112, t113, t114, t115, t116, t117, t118, t119, t120, t121, t122, t123, t124, t125, t126, t127, t128, t129, t130, t131, t132, t133, t134, t135, t136, t137, t138, t139, t140, t141, t142, t143, t144, t145, t146, t147, t148, t149, t150, t151, t152, t153, t154, t155, t156, t157, t158, t159, t160, t161, t162, t163, t164, t165, t166, t167, t168], defers := [] } w6 := by
  have mixed : Tryd.prog.follows .mixedOrders = true := by kernel_rfl
  have nf : ∀ (gf : Nat) (lb : Array Value) (W : World), (binOp .eql 39 (.func (.func gf) #[] lb) .nilFunc).run Tryd.prog W = .ok (.bool false) W := fun gf lb W => by rfl
  have cf := cell1 hb.xF
  have cp := cell1 hb.bx.p
  have cT := cell1 hb.xT
  obtain ⟨p0, p1, p2, p3⟩ := cell4' hb.bx.t
  have AS := assign_any hb.tb th ft (Nat.le_trans hb.tb.low (Nat.le_of_lt (blk_lt hb.tb.blk)))
  have HB := hide (And.intro hb (And.intro ft (And.intro hN (And.intro hp (And.intro hbr hQ)))))
  -- behind the loop
  have HEND : Hid (∀ (bn : Nat) (Ls : List Nat) (t0 t1 t2 t3 t4 t5 t6 t7 t13 t17 t18 t19 t20 t21 t22 t23 t24 t25 t26 t27 t28 t29 t30 t31 t32 t33 t34 t35 t36 t37 t38 t39 t40 t41 t42 t43 t44 t45 t46 t47 t48 t49 t50 t51 t52 t53 t54 t55 t56 t57 t58 t59 t60 t61 t62 t63 t64 t65 t66 t67 t68 t69 t70 t71 t72 t73 t74 t75 t76 t77 t78 t79 t80 t81 t82 t83 t84 t85 t86 t87 t88 t89 t90 t91 t92 t93 t94 t95 t96 t97 t98 t99 t100 t101 t102 t103 t104 t105 t106 t107 t108 t109 t110 t111 t112 t113 t114 t115 t116 t117 t118 t119 t120 t121 t122 t123 t124 t125 t126 t127 t128 t129 t130 t131 t132 t133 t134 t135 t136 t137 t138 t139 t140 t141 t142 t143 t144 t145 t146 t147 t148 t149 t150 t151 t152 t153 t154 t155 t156 t157 t158 t159 t160 t161 t162 t163 t164 t165 t166 t167 t168 : Value) (V : World), Wr Ls w w6 b B bn lim 4 (curL stop N L (stp L lim th) 4 0) V → ∀ K : Act → World → Prop, (∀ a V, (cR (cR (cR (tail9 Tryd.f4)))).wpIn Fence.wide 4 Tryd.prog Q a V → K a V) → (loop4 Tryd.f4).wpIn Fence.wide 4 Tryd.prog (Exit.then (fun _ _ => False) (Exit.inBlock 0 (Exit.then K Q))) { tmps := #[t0, t1, t2, t3, t4, t5, t6, t7, .pointer (some ⟨bp, 0, none⟩), .pointer (some ⟨bt, 0, none⟩), .pointer (some ⟨br, 0, none⟩), .pointer (some ⟨bT, 0, none⟩), .pointer (some ⟨bR, 0, none⟩), t13, .pointer (some ⟨bw, 0, none⟩), .pointer (some ⟨bf, 0, none⟩), .pointer (some ⟨bn, 0, none⟩), t17, t18, t19, t20, t21, t22, t23, t24, t25, t26, t27, t28, t29, t30, t31, t32, t33, t34, t35, t36, t37, t38, t39, t40, t41, t42, t43, t44, t45, t46, t47, t48, t49, t50, t51, t52, t53, t54, t55, t56, t57, t58, t59, t60, t61, t62, t63, t64, t65, t66, t67, t68, t69, t70, t71, t72, t73, t74, t75, t76, t77, t78, t79, t80, t81, t82, t83, t84, t85, t86, t87, t88, t89, t90, t91, t92, t93, t94, t95, t96, t97, t98, t99, t100, t101, t102, t103, t104, t105, t106, t107, t108, t109, t110, t111, t112, t113, t114, t115, t116, t117, t118, t119, t120, t121, t122, t123, t124, t125, t126, t127, t128, t129, t130, t131, t132, t133, t134, t135, t136, t137, t138, t139, t140, t141, t142, t143, t144, t145, t146, t147, t148, t149, t150, t151, t152, t153, t154, t155, t156, t157, t158, t159, t160, t161, t162, t163, t164, t165, t166, t167, t168], defers := Ls.map (fun D => { target := .collected D, args := #[] }) } V) := by
    refine hide ?_
    intro bn Ls t0 t1 t2 t3 t4 t5 t6 t7 t13 t17 t18 t19 t20 t21 t22 t23 t24 t25 t26 t27 t28 t29 t30 t31 t32 t33 t34 t35 t36 t37 t38 t39 t40 t41 t42 t43 t44 t45 t46 t47 t48 t49 t50 t51 t52 t53 t54 t55 t56 t57 t58 t59 t60 t61 t62 t63 t64 t65 t66 t67 t68 t69 t70 t71 t72 t73 t74 t75 t76 t77 t78 t79 t80 t81 t82 t83 t84 t85 t86 t87 t88 t89 t90 t91 t92 t93 t94 t95 t96 t97 t98 t99 t100 t101 t102 t103 t104 t105 t106 t107 t108 t109 t110 t111 t112 t113 t114 t115 t116 t117 t118 t119 t120 t121 t122 t123 t124 t125 t126 t127 t128 t129 t130 t131 t132 t133 t134 t135 t136 t137 t138 t139 t140 t141 t142 t143 t144 t145 t146 t147 t148 t149 t150 t151 t152 t153 t154 t155 t156 t157 t158 t159 t160 t161 t162 t163 t164 t165 t166 t167 t168 V hR K hK
    simp only [loop4, tail9, cL, cR, cI, Tryd.f4, Option.getD]
    have cr := cell1 hR.r
    have HR := hide hR
    have HKK := hide hK
    clear hb ft hN hp hbr hQ hR hK cf cp cT p0 p1 p2 p3 AS nf
    gi_wp2_with fail
    refine HKK.out _ _ ?_
    exact fin_any HB.out.1 HB.out.2.1 HB.out.2.2.2.1 HB.out.2.2.2.2.1 Q HB.out.2.2.2.2.2 Ls bn 4 V HR.out
  clear hb ft hN hp hbr hQ
  simp only [tail9, cR, Tryd.f4, Option.getD]
  by_cases h0 : stop < 0
  · gi_wp2_with fail
    refine ⟨trivial, (callsIn_wide.2 AS).mono ?_⟩
    rintro e w7 ⟨rfl, v', ht, k7⟩
    have H7 := hide (start_any HB.out.1 k7 (fun i e => e) ht)
    have ec : curL stop N L (stp L lim th) 0 0 = stp L lim th := by unfold curL; rw [if_pos h0]
    have HC := hide ec
    clear ht k7 AS ec
    gi_wp2_with fail
    rename_i K hK
    refine loop_any HB.out.1 HB.out.2.1 HB.out.2.2.1 _ _ _ (WkR.of 0 w7.heap.size [] (by omega) (by rfl) (by rw [HC.out]; exact H7.out)) ?_
    intro bn Ls t0 t1 t2 t3 t4 t5 t6 t7 t13 t17 t18 t19 t20 t21 t22 t23 t24 t25 t26 t27 t28 t29 t30 t31 t32 t33 t34 t35 t36 t37 t38 t39 t40 t41 t42 t43 t44 t45 t46 t47 t48 t49 t50 t51 t52 t53 t54 t55 t56 t57 t58 t59 t60 t61 t62 t63 t64 t65 t66 t67 t68 t69 t70 t71 t72 t73 t74 t75 t76 t77 t78 t79 t80 t81 t82 t83 t84 t85 t86 t87 t88 t89 t90 t91 t92 t93 t94 t95 t96 t97 t98 t99 t100 t101 t102 t103 t104 t105 t106 t107 t108 t109 t110 t111 t112 t113 t114 t115 t116 t117 t118 t119 t120 t121 t122 t123 t124 t125 t126 t127 t128 t129 t130 t131 t132 t133 t134 t135 t136 t137 t138 t139 t140 t141 t142 t143 t144 t145 t146 t147 t148 t149 t150 t151 t152 t153 t154 t155 t156 t157 t158 t159 t160 t161 t162 t163 t164 t165 t166 t167 t168 V hR
    exact HEND.out bn Ls t0 t1 t2 t3 t4 t5 t6 t7 t13 t17 t18 t19 t20 t21 t22 t23 t24 t25 t26 t27 t28 t29 t30 t31 t32 t33 t34 t35 t36 t37 t38 t39 t40 t41 t42 t43 t44 t45 t46 t47 t48 t49 t50 t51 t52 t53 t54 t55 t56 t57 t58 t59 t60 t61 t62 t63 t64 t65 t66 t67 t68 t69 t70 t71 t72 t73 t74 t75 t76 t77 t78 t79 t80 t81 t82 t83 t84 t85 t86 t87 t88 t89 t90 t91 t92 t93 t94 t95 t96 t97 t98 t99 t100 t101 t102 t103 t104 t105 t106 t107 t108 t109 t110 t111 t112 t113 t114 t115 t116 t117 t118 t119 t120 t121 t122 t123 t124 t125 t126 t127 t128 t129 t130 t131 t132 t133 t134 t135 t136 t137 t138 t139 t140 t141 t142 t143 t144 t145 t146 t147 t148 t149 t150 t151 t152 t153 t154 t155 t156 t157 t158 t159 t160 t161 t162 t163 t164 t165 t166 t167 t168 V hR K hK
  · have H7 := hide (start_any HB.out.1 (Kp.refl (fun _ => False) w6) (fun i e => e.elim) HB.out.1.tb)
    have ec : curL stop N L (stp L lim th) 0 0 = L := by unfold curL; rw [if_neg h0, if_pos rfl]
    have HC := hide ec
    clear AS ec
    gi_wp2_with fail
    rename_i K hK
    refine loop_any HB.out.1 HB.out.2.1 HB.out.2.2.1 _ _ _ (WkR.of 0 w6.heap.size [] (by omega) (by rfl) (by rw [HC.out]; exact H7.out)) ?_
    intro bn Ls t0 t1 t2 t3 t4 t5 t6 t7 t13 t17 t18 t19 t20 t21 t22 t23 t24 t25 t26 t27 t28 t29 t30 t31 t32 t33 t34 t35 t36 t37 t38 t39 t40 t41 t42 t43 t44 t45 t46 t47 t48 t49 t50 t51 t52 t53 t54 t55 t56 t57 t58 t59 t60 t61 t62 t63 t64 t65 t66 t67 t68 t69 t70 t71 t72 t73 t74 t75 t76 t77 t78 t79 t80 t81 t82 t83 t84 t85 t86 t87 t88 t89 t90 t91 t92 t93 t94 t95 t96 t97 t98 t99 t100 t101 t102 t103 t104 t105 t106 t107 t108 t109 t110 t111 t112 t113 t114 t115 t116 t117 t118 t119 t120 t121 t122 t123 t124 t125 t126 t127 t128 t129 t130 t131 t132 t133 t134 t135 t136 t137 t138 t139 t140 t141 t142 t143 t144 t145 t146 t147 t148 t149 t150 t151 t152 t153 t154 t155 t156 t157 t158 t159 t160 t161 t162 t163 t164 t165 t166 t167 t168 V hR
    exact HEND.out bn Ls t0 t1 t2 t3 t4 t5 t6 t7 t13 t17 t18 t19 t20 t21 t22 t23 t24 t25 t26 t27 t28 t29 t30 t31 t32 t33 t34 t35 t36 t37 t38 t39 t40 t41 t42 t43 t44 t45 t46 t47 t48 t49 t50 t51 t52 t53 t54 t55 t56 t57 t58 t59 t60 t61 t62 t63 t64 t65 t66 t67 t68 t69 t70 t71 t72 t73 t74 t75 t76 t77 t78 t79 t80 t81 t82 t83 t84 t85 t86 t87 t88 t89 t90 t91 t92 t93 t94 t95 t96 t97 t98 t99 t100 t101 t102 t103 t104 t105 t106 t107 t108 t109 t110 t111 t112 t113 t114 t115 t116 t117 t118 t119 t120 t121 t122 t123 t124 t125 t126 t127 t128 t129 t130 t131 t132 t133 t134 t135 t136 t137 t138 t139 t140 t141 t142 t143 t144 t145 t146 t147 t148 t149 t150 t151 t152 t153 t154 t155 t156 t157 t158 t159 t160 t161 t162 t163 t164 t165 t166 t167 t168 V hR K hK
end
end Go.Proofs.YtffcnonhhfhlhaaDoor.Rg
