import Derived.Test.YtchealdgncgjoaaLbC
namespace Go.Proofs.Ytchealdgncgjoaa.StI
open Go.RowKit Go.Proofs.Ytchealdgncgjoaa.St Go.Shelf Go.Sort Go.Proofs.Ytchealdgncgjoaa.It Go.BigFrame
attribute [local go_sem] Oper.semAt_some
set_option linter.unusedVariables false
def bk12 (f : Func) : Code := cI (cL (cR (lp12 f)))
def bd3 (f : Func) : Code := cI (cI (cR (cL (cR (cR (bk12 f))))))
def bd5 (f : Func) : Code := cI (cI (cR (cL (cR (cR (cR (cR (bk12 f))))))))
/-- where a loop that only looks stands -/
def Jc (w w3 : World) (bi : Nat) (Ls : List Nat) (pre : List (Int × Int)) (V : World) : Prop := (Cc w3 V ∧ V.heap[bi]? = some (.cells #[.int .i64 (pre.length : Int)] 3 (0, 0)) ∧ Below w.heap.size w V) ∧ ∀ D ∈ Ls, V.heap[D]? = some (.deferred (some []))
theorem Jc.own {w w3 : World} {bi C : Nat} {Ls : List Nat} (hC : w.heap.size ≤ C) (hD : ∀ D ∈ Ls, D < C) : OwnFrom C (Jc w w3 bi Ls) := fun pre X Z row h hg hr => ⟨bw_grown hC h.1 hg hr, fun D hd => own_block (hD D hd) () X Z row (h.2 D hd) hg hr⟩
/-- the counter is set: the round's post -/
theorem jc_post {w w3 V V1 : World} {bi mb C : Nat} {Ls : List Nat} {pre : List (Int × Int)} {xx : Int × Int} {a : Act} (h : Jc w w3 bi Ls pre V) (k1 : Kp Nu V V1) (hi : w3.heap.size ≤ bi) (hw : w.heap.size ≤ bi) (hmb : mb < w3.heap.size) : ownPostG C (Kc (KM mb)) (Jc w w3 bi Ls) (fun _ _ _ => False) (pre ++ [xx]) V .normal a (V1.setCell ⟨bi, 0, none⟩ (.int .i64 ((pre.length : Int) + 1))) := by
  have hl : ((pre ++ [xx]).length : Int) = (pre.length : Int) + 1 := by simp
  have h1 : Cc w3 V1 ∧ V1.heap[bi]? = some (.cells #[.int .i64 (pre.length : Int)] 3 (0, 0)) ∧ Below w.heap.size w V1 := ⟨h.1.1.trans (Cc.nu k1), (k1.block _ (blk_lt h.1.2.1) (fun h => h)).trans h.1.2.1, ((Kp.of_below h.1.2.2).andNu k1).toBelow⟩
  have kk : Kp (fun j => j = bi) V (V1.setCell ⟨bi, 0, none⟩ (.int .i64 ((pre.length : Int) + 1))) := (k1.mono (fun _ _ e => e.elim)).trans (Kp.setCell V1 ⟨bi, 0, none⟩ _) (fun _ _ e => e)
  refine ⟨kf_cells kk (fun k e => ⟨#[.int .i64 (pre.length : Int)], 3, (0, 0), by have e : k = bi := e; rw [e]; exact h.1.2.1⟩), kc_cells kk (fun k c tt m e hc hK => ?_), ⟨by rw [hl]; exact bw_set hi hw h1 _, fun D hD => (kk.block D (blk_lt (h.2 D hD)) (fun e => by have e : D = bi := e; have h3 := h.2 D hD; rw [e, h.1.2.1] at h3; cases h3)).trans (h.2 D hD)⟩⟩
  have e : k = bi := e
  subst e
  rw [h.1.2.1] at hc
  cases hc
  rcases hK with h | h | h | h | h
  · cases h
  · cases h
  · cases h
  · cases h
  · have h : k = mb := h
    omega
set_option maxRecDepth 100000 in
set_option maxHeartbeats 4000000 in
theorem late_b3 {w w3 V : World} {br b18 b19 bi mb B N capk capv l : Nat} {adk adv : Option Addr} {L : List (Int × Int)} {Ls : List Nat} {pre : List (Int × Int)} {xx : Int × Int} (hi : w3.heap.size ≤ bi) (hw : w.heap.size ≤ bi) (hmb : mb < w3.heap.size) (hk : w3.heap[b18]? = some (.cells #[.slice adk N capk] 47 (0, 0))) (hv : w3.heap[b19]? = some (.cells #[.slice adv N capv] 47 (0, 0))) (hok : w3.ownsRow B 3 1 (.slice adk N capk) L.length (kv L)) (hov : w3.ownsRow B 3 1 (.slice adv N capv) L.length (vvs L)) (hN : L.length = N) (hN2 : N ≤ 17592186043950) (hp : pre ++ [xx] <+: L) (hJ : Jc w w3 bi Ls pre V) (C : Nat) {t0 t1 t2 t3 t4 t5 t6 t7 t8 t9 t10 t11 t13 t14 t15 t16 t17 t23 t24 t25 t26 t27 t28 t29 t30 t31 t32 t33 t34 t35 t36 t37 t38 t39 t40 t41 t42 t43 t44 t45 t46 t47 t48 t49 t50 t51 t52 t53 t54 t55 t56 t57 t58 t59 t60 t61 t62 t63 t64 t65 t66 t67 t68 t69 t70 t71 t72 t73 t74 t75 t76 t77 t78 t79 t80 t81 t82 t83 t84 t85 t86 t87 t88 t89 t90 t91 t92 t93 t94 t95 t96 t97 t98 t99 t100 t101 t102 t103 t104 t105 t106 t107 t108 t109 t110 t111 t112 t113 t114 t115 t116 t117 t118 t119 t120 t121 t122 t123 t124 t125 t126 t127 t128 t129 t130 t131 t132 t133 t134 t135 t136 t137 t138 t139 t140 t141 t142 t143 t144 t145 t146 t147 t148 t149 t150 t151 t152 t153 t154 t155 t156 t157 t158 t159 t160 t161 t162 t163 t164 t165 t166 t167 t168 t169 t170 t171 t172 t173 t174 t175 t176 t177 t178 t179 t180 t181 t182 t183 t184 t185 t186 t187 t188 t189 t190 t191 t192 t193 t194 t195 t196 t197 t198 t199 t200 t201 t202 t203 t204 t205 t206 t207 t208 t209 t210 t211 t212 t213 t214 t215 t216 t217 t218 t219 t220 t221 t222 : Value} :
    (bd3 Try.f12).wpIn (Fence.wide.inRound l) 2 Try.prog (ownPostG C (Kc (KM mb)) (Jc w w3 bi Ls) (fun _ _ _ => False) (pre ++ [xx]) V) { tmps := #[t0, t1, t2, t3, t4, t5, t6, t7, t8, t9, t10, t11, .pointer (some ⟨br, 0, none⟩), t13, t14, t15, t16, t17, .pointer (some ⟨b18, 0, none⟩), .pointer (some ⟨b19, 0, none⟩), .pointer (some ⟨bi, 0, none⟩), .int .i64 xx.1, .int .i64 xx.2, t23, t24, t25, t26, t27, t28, t29, t30, t31, t32, t33, t34, t35, t36, t37, t38, t39, t40, t41, t42, t43, t44, t45, t46, t47, t48, t49, t50, t51, t52, t53, t54, t55, t56, t57, t58, t59, t60, t61, t62, t63, t64, t65, t66, t67, t68, t69, t70, t71, t72, t73, t74, t75, t76, t77, t78, t79, t80, t81, t82, t83, t84, t85, t86, t87, t88, t89, t90, t91, t92, t93, t94, t95, t96, t97, t98, t99, t100, t101, t102, t103, t104, t105, t106, t107, t108, t109, t110, t111, t112, t113, t114, t115, t116, t117, t118, t119, t120, t121, t122, t123, t124, t125, t126, t127, t128, t129, t130, t131, t132, t133, t134, t135, t136, t137, t138, t139, t140, t141, t142, t143, t144, t145, t146, t147, t148, t149, t150, t151, t152, t153, t154, t155, t156, t157, t158, t159, t160, t161, t162, t163, t164, t165, t166, t167, t168, t169, t170, t171, t172, t173, t174, t175, t176, t177, t178, t179, t180, t181, t182, t183, t184, t185, t186, t187, t188, t189, t190, t191, t192, t193, t194, t195, t196, t197, t198, t199, t200, t201, t202, t203, t204, t205, t206, t207, t208, t209, t210, t211, t212, t213, t214, t215, t216, t217, t218, t219, t220, t221, t222], defers := [] } V := by
  simp only [cL, cR, cI, bd3, bk12, lp12, tl12, Try.f12, Option.getD]
  obtain ⟨hx, hln⟩ := pre_at hp
  have c1 := cell1 hJ.1.2.1
  have f1 := free3 hJ.1.2.1 0
  have c2 := cell1 (hJ.1.1 _ _ _ _ hk)
  have c3 := cell1 (hJ.1.1 _ _ _ _ hv)
  obtain ⟨rk, ck, ek, d1⟩ := rowI_at (i := pre.length) (u := .int .i64 xx.1) (hJ.1.1.own hok) (by simp [kv]) (by simp [kv, hx])
  obtain ⟨rv, cv, ev, d2⟩ := rowI_at (i := pre.length) (u := .int .i64 xx.2) (hJ.1.1.own hov) (by simp [vvs]) (by simp [vvs, hx])
  rw [hN] at ek ev hln
  obtain ⟨n, en⟩ : ∃ n, pre.length = n := ⟨_, rfl⟩
  have HP := hide (jc_post (C := C) (xx := xx) (a := { tmps := #[], defers := [] }) hJ (Kp.refl Nu V) hi hw hmb)
  rw [en] at HP c1 d1 d2 hln
  have hnI : (n : Int) < (N : Int) := by omega
  have hge : ¬ (N : Int) ≤ (n : Int) := by omega
  have hn0 : (0 : Int) ≤ (n : Int) := by omega
  have hgN : ¬ N ≤ n := by omega
  have hdN : decide (N ≤ n) = false := by simpa using hgN
  have hdI : decide ((N : Int) ≤ (n : Int)) = false := by simpa using hgN
  have hwr : wrap64 ((n : Int) + 1) = (n : Int) + 1 := wk5 _ hn0 (by omega)
  have hb1 : (xx.1 != xx.1) = false := by simp
  have hb2 : (xx.2 != xx.2) = false := by simp
  cases ek
  cases ev
  clear hx hln hJ hp hk hv hok hov hN hN2 hi hw hmb
  gi_wp2
  exact HP.out
set_option maxRecDepth 100000 in
set_option maxHeartbeats 4000000 in
theorem late_b5 {w w3 V : World} {br bR rb bi mb B N l : Nat} {vk vv : Value} {L : List (Int × Int)} {Ls : List Nat} {pre : List (Int × Int)} {xx : Int × Int} (hi : w3.heap.size ≤ bi) (hw : w.heap.size ≤ bi) (hmb : mb < w3.heap.size) (hd : w3.heap[bR]? = some (.cells #[.pointer (some ⟨rb, 0, none⟩)] 48 (0, 0))) (hr : Rm B w3 rb 0 vk vv L) (hN : L.length = N) (hN2 : N ≤ 17592186043950) (hp : pre ++ [xx] <+: L) (hJ : Jc w w3 bi Ls pre V) (C : Nat) {t0 t1 t2 t3 t4 t5 t6 t7 t8 t9 t10 t11 t13 t15 t16 t17 t18 t19 t20 t21 t22 t26 t27 t28 t29 t30 t31 t32 t33 t34 t35 t36 t37 t38 t39 t40 t41 t42 t43 t44 t45 t46 t47 t48 t49 t50 t51 t52 t53 t54 t55 t56 t57 t58 t59 t60 t61 t62 t63 t64 t65 t66 t67 t68 t69 t70 t71 t72 t73 t74 t75 t76 t77 t78 t79 t80 t81 t82 t83 t84 t85 t86 t87 t88 t89 t90 t91 t92 t93 t94 t95 t96 t97 t98 t99 t100 t101 t102 t103 t104 t105 t106 t107 t108 t109 t110 t111 t112 t113 t114 t115 t116 t117 t118 t119 t120 t121 t122 t123 t124 t125 t126 t127 t128 t129 t130 t131 t132 t133 t134 t135 t136 t137 t138 t139 t140 t141 t142 t143 t144 t145 t146 t147 t148 t149 t150 t151 t152 t153 t154 t155 t156 t157 t158 t159 t160 t161 t162 t163 t164 t165 t166 t167 t168 t169 t170 t171 t172 t173 t174 t175 t176 t177 t178 t179 t180 t181 t182 t183 t184 t185 t186 t187 t188 t189 t190 t191 t192 t193 t194 t195 t196 t197 t198 t199 t200 t201 t202 t203 t204 t205 t206 t207 t208 t209 t210 t211 t212 t213 t214 t215 t216 t217 t218 t219 t220 t221 t222 : Value} :
    (bd5 Try.f12).wpIn (Fence.wide.inRound l) 2 Try.prog (ownPostG C (Kc (KM mb)) (Jc w w3 bi Ls) (fun _ _ _ => False) (pre ++ [xx]) V) { tmps := #[t0, t1, t2, t3, t4, t5, t6, t7, t8, t9, t10, t11, .pointer (some ⟨br, 0, none⟩), t13, .pointer (some ⟨bR, 0, none⟩), t15, t16, t17, t18, t19, t20, t21, t22, .pointer (some ⟨bi, 0, none⟩), .int .i64 xx.1, .int .i64 xx.2, t26, t27, t28, t29, t30, t31, t32, t33, t34, t35, t36, t37, t38, t39, t40, t41, t42, t43, t44, t45, t46, t47, t48, t49, t50, t51, t52, t53, t54, t55, t56, t57, t58, t59, t60, t61, t62, t63, t64, t65, t66, t67, t68, t69, t70, t71, t72, t73, t74, t75, t76, t77, t78, t79, t80, t81, t82, t83, t84, t85, t86, t87, t88, t89, t90, t91, t92, t93, t94, t95, t96, t97, t98, t99, t100, t101, t102, t103, t104, t105, t106, t107, t108, t109, t110, t111, t112, t113, t114, t115, t116, t117, t118, t119, t120, t121, t122, t123, t124, t125, t126, t127, t128, t129, t130, t131, t132, t133, t134, t135, t136, t137, t138, t139, t140, t141, t142, t143, t144, t145, t146, t147, t148, t149, t150, t151, t152, t153, t154, t155, t156, t157, t158, t159, t160, t161, t162, t163, t164, t165, t166, t167, t168, t169, t170, t171, t172, t173, t174, t175, t176, t177, t178, t179, t180, t181, t182, t183, t184, t185, t186, t187, t188, t189, t190, t191, t192, t193, t194, t195, t196, t197, t198, t199, t200, t201, t202, t203, t204, t205, t206, t207, t208, t209, t210, t211, t212, t213, t214, t215, t216, t217, t218, t219, t220, t221, t222], defers := [] } V := by
  simp only [cL, cR, cI, bd5, bk12, lp12, tl12, Try.f12, Option.getD]
  have mixed : Try.prog.follows .mixedOrders = true := by kernel_rfl
  obtain ⟨hx, hln⟩ := pre_at hp
  have hr2 := hJ.1.1.rm hr
  have ci := cell1 hJ.1.2.1
  have cr := cell1 (hJ.1.1 _ _ _ _ hd)
  obtain ⟨gk, capk, ek, dk⟩ := rowI_at (i := pre.length) (u := .int .i64 xx.1) hr2.ok (by simp [kv]) (by simp [kv, hx])
  obtain ⟨gv, capv, ev, dv⟩ := rowI_at (i := pre.length) (u := .int .i64 xx.2) hr2.ov (by simp [vvs]) (by simp [vvs, hx])
  rw [hN] at ek ev hln
  obtain ⟨_, r1, r2⟩ := cell3 hr2.blk
  rw [ek] at r1
  rw [ev] at r2
  obtain ⟨n, en⟩ : ∃ n, pre.length = n := ⟨_, rfl⟩
  have HP := fun V1 k1 => hide (jc_post (C := C) (xx := xx) (V1 := V1) (a := { tmps := #[], defers := [] }) hJ k1 hi hw hmb)
  have HJ := hide hJ
  rw [en] at HP ci dk dv hln
  have hnI : (n : Int) < (N : Int) := by omega
  have hge : ¬ (N : Int) ≤ (n : Int) := by omega
  have hn0 : (0 : Int) ≤ (n : Int) := by omega
  have hgN : ¬ N ≤ n := by omega
  have hdN : decide (N ≤ n) = false := by simpa using hgN
  have hdI : decide ((N : Int) ≤ (n : Int)) = false := by simpa using hgN
  have hwr : wrap64 ((n : Int) + 1) = (n : Int) + 1 := wk5 _ hn0 (by omega)
  have hb1 : (xx.1 != xx.1) = false := by simp
  have hb2 : (xx.2 != xx.2) = false := by simp
  have HPP : Hid (∀ V1, Kp Nu V V1 → ownPostG C (Kc (KM mb)) (Jc w w3 bi Ls) (fun _ _ _ => False) (pre ++ [xx]) V .normal { tmps := #[], defers := [] } (V1.setCell ⟨bi, 0, none⟩ (.int .i64 ((n : Int) + 1)))) := hide (fun V1 k1 => (HP V1 k1).out)
  have HEN := hide en
  clear hx hln hJ hp hd hr hr2 hN hN2 hi hw hmb HP en
  gi_wp2
  refine Qr.quiet_round (by kernel_rfl) (by kernel_rfl) (by kernel_rfl) ?_
  iterate 29 (gi_big_quiet_step (fail))
  refine wpQuietIn_nil ?_
  intro _ hw'
  obtain ⟨nq, hw''⟩ := hw'
  subst hw''
  have k1 := kp_dn V nq
  have c9 : (V.drewN nq).cell? ⟨bi, 0, none⟩ = some (.int .i64 (n : Int)) := ci
  have f9 : (V.drewN nq).frozen? ⟨bi, 0, none⟩ = false := free3 (show (V.drewN nq).heap[bi]? = _ from HJ.out.1.2.1) 0
  generalize V.drewN nq = V1 at k1 c9 f9 ⊢
  have HF := HPP.out V1 k1
  have HFF := hide HF
  clear dk dv ci cr r1 r2 hge hgN hdN hdI HPP HF k1
  gi_wp2
  exact HFF.out
end Go.Proofs.Ytchealdgncgjoaa.StI
