import Derived.Test.YtffcnonhhfhlhaaDoorQr
namespace Go.Proofs.YtffcnonhhfhlhaaDoor.Rg
open Go.RowKit Go.Shelf Go.Sort
open Go.Proofs.YtffcnonhhfhlhaaDoor.It Go.BigFrame
attribute [local go_sem] Oper.semAt_some
set_option linter.unusedVariables false
theorem kp_dn (w : World) (n : Nat) : Kp Nu w (w.drewN n) := ⟨rfl, rfl, rfl, Nat.le_refl _, fun _ _ _ => rfl⟩
theorem region_tight {F : Fence} {n : Nat} {P : Program} {c : Code} {K : Act → World → Prop} {Q : Exit → Act → World → Prop} {a : Act} {w : World} (h : c.wpIn F n P (Exit.then K (fun _ _ _ => False)) a w) : c.wpIn F n P (Exit.then K Q) a w :=
  Code.wpIn_mono (fun e a w h => by cases e <;> first | exact h | exact h.elim) h
section
variable {Ls : List Nat} {w w6 : World} {bs bp bt br bT bR bw bf : Nat} {s th : Sp} {stop lim : Int} {B b : Nat} {v vr : Value} {wa : Option Addr} {wc N : Nat} {L W : List Sg} {gf : Nat} {lb : Array Value}
set_option maxRecDepth 100000 in
set_option maxHeartbeats 4000000 in
theorem body_3 (hb : Wb w w6 bs bp bt br bT bR bw bf s th stop lim B b v vr (.slice wa N wc) L W gf lb) (ft : SpB th) (hN : W.length = N) {K : Nat → TypeId → Prop} (hK : Kf b w6 K) (V : World) (bn bi bg l B0 : Nat) (h6 : w6.heap.size ≤ bi) (hw : w.heap.size ≤ bi) (hne : bn ≠ bi) (hl : ∃ r, V.heap[l]? = some (.loop r)) (pre : List Sg) (x : Sg) (hpre : pre ++ [x] <+: W) (hJJ : WJ Ls w w6 b B bn bi lim stop N L (stp L lim th) 3 pre V) (hg : V.heap[bg]? = some (.cells #[.int .u64 x.lo, .int .u64 x.hi, .int .u8 x.h] 26 (0, 0)))
    {t0 t1 t2 t3 t4 t5 t6 t7 t12 t13 t19 t20 t21 t22 t23 t24 t25 t26 t27 t28 t29 t30 t31 t32 t33 t34 t35 t36 t37 t38 t39 t40 t41 t42 t43 t44 t45 t46 t47 t48 t49 t50 t51 t52 t53 t54 t55 t56 t57 t58 t59 t60 t61 t62 t63 t64 t65 t66 t67 t68 t69 t70 t71 t72 t73 t74 t75 t76 t77 t78 t79 t80 t81 t82 t83 t84 t85 t86 t87 t88 t89 t90 t91 t92 t93 t94 t95 t96 t97 t98 t99 t100 t101 t102 t103 t104 t105 t106 t107 t108 t109 t110 t111 t112 t113 t114 t115 t116 t117 t118 t119 t120 t121 t122 t123 t124 t125 t126 t127 t128 t129 t130 t131 t132 t133 t134 t135 t136 t137 t138 t139 t140 t141 t142 t143 t144 t145 t146 t147 t148 t149 t150 t151 t152 t153 t154 t155 t156 t157 t158 t159 t160 t161 t162 t163 t164 t165 t166 t167 t168 : Value} :
    (body4 Tryd.f4).wpIn (Fence.wide.inRound l) 2 Tryd.prog (ownPostG B0 (Kc K) (WJ Ls w w6 b B bn bi lim stop N L (stp L lim th) 3) (WX Ls w w6 b B bn bi lim stop N L (stp L lim th) 3) (pre ++ [x]) V) { tmps := #[t0, t1, t2, t3, t4, t5, t6, t7, .pointer (some ⟨bp, 0, none⟩), .pointer (some ⟨bt, 0, none⟩), .pointer (some ⟨br, 0, none⟩), .pointer (some ⟨bT, 0, none⟩), t12, t13, .pointer (some ⟨bw, 0, none⟩), .pointer (some ⟨bf, 0, none⟩), .pointer (some ⟨bn, 0, none⟩), .pointer (some ⟨bi, 0, none⟩), .pointer (some ⟨bg, 0, none⟩), t19, t20, t21, t22, t23, t24, t25, t26, t27, t28, t29, t30, t31, t32, t33, t34, t35, t36, t37, t38, t39, t40, t41, t42, t43, t44, t45, t46, t47, t48, t49, t50, t51, t52, t53, t54, t55, t56, t57, t58, t59, t60, t61, t62, t63, t64, t65, t66, t67, t68, t69, t70, t71, t72, t73, t74, t75, t76, t77, t78, t79, t80, t81, t82, t83, t84, t85, t86, t87, t88, t89, t90, t91, t92, t93, t94, t95, t96, t97, t98, t99, t100, t101, t102, t103, t104, t105, t106, t107, t108, t109, t110, t111, t112, t113, t114, t115, t116, t117, t118, t119, t120, t121, t122, t123, t124, t125, t126, t127, t128, t129, t130, t131, t132, t133, t134, t135, t136, t137, t138, t139, t140, t141, t142, t143, t144, t145, t146, t147, t148, t149, t150, t151, t152, t153, t154, t155, t156, t157, t158, t159, t160, t161, t162, t163, t164, t165, t166, t167, t168], defers := [] } V := by
  simp only [body4, round4, tail9, cL, cR, cI, Tryd.f4, Option.getD]
  have mixed : Tryd.prog.follows .mixedOrders = true := by kernel_rfl
  obtain ⟨hx, hln⟩ := pre_at hpre
  obtain ⟨hJ, hno⟩ := hJJ
  have ci := cell1 hJ.i
  have cw := cell1 (hb.at hJ.fx).2.2.2.1
  obtain ⟨g0, g1, g2⟩ := cell3 hg
  obtain ⟨rr, rc, er, d0, d1, d2⟩ := row_at (hb.at hJ.fx).2.2.2.2.2.2 hx
  rw [hN] at er hln
  simp only [Value.slice.injEq, true_and] at er
  obtain ⟨e1, e2⟩ := er
  subst e1
  subst e2
  have hnI : (pre.length : Int) < (N : Int) := by omega
  have hge : ¬ (N : Int) ≤ (pre.length : Int) := by omega
  have hn0 : (0 : Int) ≤ (pre.length : Int) := by omega
  have hN8 : (N : Int) ≤ 8192 := by have := hb.len; omega
  have hwr : wrap64 ((pre.length : Int) + 1) = (pre.length : Int) + 1 := by unfold wrap64; omega
  have hlen : ((pre ++ [x]).length : Int) = (pre.length : Int) + 1 := by simp
  obtain ⟨n, en⟩ : ∃ n, pre.length = n := ⟨_, rfl⟩
  rw [en] at hJ hno hnI hge hn0 hwr hlen hx hln ci d0 d1 d2
  have HB := hide (And.intro hb (And.intro hK (And.intro hJ (And.intro hlen (And.intro ft (And.intro en (And.intro hpre hN)))))))
  have HNO := hide hno
  have hgeN : ¬ N ≤ n := by omega
  have hdN : decide (N ≤ n) = false := by simpa using hgeN
  have hdI : decide ((N : Int) ≤ (n : Int)) = false := by simpa using hgeN
  clear hx hb hpre hK hg hlen hJ hno en hN ft
  gi_wp2
  refine Qr.quiet_round (by kernel_rfl) (by kernel_rfl) (by kernel_rfl) ?_
  iterate 12 (gi_big_quiet_step (fail))
  refine wpQuietIn_nil ?_
  intro _ hw'
  obtain ⟨nq, hw''⟩ := hw'
  subst hw''
  have k01 : Kp Nu V (V.drewN nq) := kp_dn V nq
  generalize V.drewN nq = V1 at k01 ⊢
  have hJ := HB.out.2.2.1.nu k01
  have hat := HB.out.1.at hJ.fx
  have cn : V1.cell? ⟨bn, 0, none⟩ = some (.int .i64 3) := cell1 hJ.r
  replace ci := cell1 hJ.i
  have fi := free3 hJ.i 0
  have cp := cell1 hat.1.p
  clear cw g0 g1 g2 d0 d1 d2 hnI hge
  obtain ⟨hJ', kS⟩ := hJ.set h6 hw hne ((n : Int) + 1)
  have cn' : (V1.setCell ⟨bi, 0, none⟩ (.int .i64 ((n : Int) + 1))).cell? ⟨bn, 0, none⟩ = some (.int .i64 3) := cell1 hJ'.r
  have ci' := cell1 hJ'.i
  have HG : Hid (ownPostG B0 (Kc K) (WJ Ls w w6 b B bn bi lim stop N L (stp L lim th) 3) (WX Ls w w6 b B bn bi lim stop N L (stp L lim th) 3) (pre ++ [x]) V .normal { tmps := #[], defers := [] } (V1.setCell ⟨bi, 0, none⟩ (.int .i64 ((n : Int) + 1)))) := by
    obtain ⟨hb, hK, hJ0, hlen, ft, en, hpre, hN⟩ := HB.out
    obtain ⟨f1, f2⟩ := fin_body (B0 := B0) hK hJ0 hJ' ((k01.mono (fun _ _ e => e.elim)).trans kS (fun _ _ e => e)) (fun i e => .inl e)
    refine hide ⟨f1, f2, ?_, fun h => by omega⟩
    have e : ((pre ++ [x]).length : Int) = (n : Int) + 1 := hlen
    rw [e]
    have ec : curL stop N L (stp L lim th) 3 (pre ++ [x]).length = curL stop N L (stp L lim th) 3 n := rfl
    rw [ec]; exact hJ'
  clear hJ hJ' kS k01 hat
  gi_wp2
  exact HG.out
end
end Go.Proofs.YtffcnonhhfhlhaaDoor.Rg
namespace Go.Proofs.YtffcnonhhfhlhaaDoor.Rg
open Go.RowKit Go.Shelf Go.Sort
open Go.Proofs.YtffcnonhhfhlhaaDoor.It Go.BigFrame
attribute [local go_sem] Oper.semAt_some
set_option linter.unusedVariables false
/-- where the range within stands -/
def WI (V1 : World) (bk : Nat) (p : List Sg) (V : World) : Prop := Below V1.heap.size V1 V ∧ V.heap[bk]? = some (.cells #[.int .i64 (p.length : Int)] 3 (0, 0))
section
variable {Ls : List Nat} {w w6 : World} {bs bp bt br bT bR bw bf : Nat} {s th : Sp} {stop lim : Int} {B b : Nat} {v vr : Value} {wa : Option Addr} {wc N : Nat} {L W : List Sg} {gf : Nat} {lb : Array Value}
set_option maxRecDepth 100000 in
set_option maxHeartbeats 4000000 in
theorem inner_body (hb : Wb w w6 bs bp bt br bT bR bw bf s th stop lim B b v vr (.slice wa N wc) L W gf lb) (hN : W.length = N) {K : Nat → TypeId → Prop} (hK : Kf b w6 K) (V1 V : World) (bk bh l B0 : Nat) (h1 : V1.heap.size ≤ bk) (f1 : Fx b w6 V1) (pre : List Sg) (x : Sg) (hpre : pre ++ [x] <+: W) (hI : WI V1 bk pre V) (hg : V.heap[bh]? = some (.cells #[.int .u64 x.lo, .int .u64 x.hi, .int .u8 x.h] 26 (0, 0)))
    {t0 t1 t2 t3 t4 t5 t6 t7 t8 t9 t11 t12 t13 t15 t16 t17 t18 t21 t22 t23 t24 t25 t26 t27 t28 t29 t30 t31 t32 t33 t34 t35 t36 t37 t38 t39 t40 t41 t42 t43 t44 t45 t46 t47 t48 t49 t50 t51 t52 t53 t54 t55 t56 t57 t58 t59 t60 t61 t62 t63 t64 t65 t66 t67 t68 t69 t70 t71 t72 t73 t74 t75 t76 t77 t78 t79 t80 t81 t82 t83 t84 t85 t86 t87 t88 t89 t90 t91 t92 t93 t94 t95 t96 t97 t98 t99 t100 t101 t102 t103 t104 t105 t106 t107 t108 t109 t110 t111 t112 t113 t114 t115 t116 t117 t118 t119 t120 t121 t122 t123 t124 t125 t126 t127 t128 t129 t130 t131 t132 t133 t134 t135 t136 t137 t138 t139 t140 t141 t142 t143 t144 t145 t146 t147 t148 t149 t150 t151 t152 t153 t154 t155 t156 t157 t158 t159 t160 t161 t162 t163 t164 t165 t166 t167 t168 : Value} :
    (inner4 Tryd.f4).wpIn (Fence.wide.inRound l) 0 Tryd.prog (ownPostG B0 (Kc K) (WI V1 bk) (fun _ _ _ => False) (pre ++ [x]) V) { tmps := #[t0, t1, t2, t3, t4, t5, t6, t7, t8, t9, .pointer (some ⟨br, 0, none⟩), t11, t12, t13, .pointer (some ⟨bw, 0, none⟩), t15, t16, t17, t18, .pointer (some ⟨bk, 0, none⟩), .pointer (some ⟨bh, 0, none⟩), t21, t22, t23, t24, t25, t26, t27, t28, t29, t30, t31, t32, t33, t34, t35, t36, t37, t38, t39, t40, t41, t42, t43, t44, t45, t46, t47, t48, t49, t50, t51, t52, t53, t54, t55, t56, t57, t58, t59, t60, t61, t62, t63, t64, t65, t66, t67, t68, t69, t70, t71, t72, t73, t74, t75, t76, t77, t78, t79, t80, t81, t82, t83, t84, t85, t86, t87, t88, t89, t90, t91, t92, t93, t94, t95, t96, t97, t98, t99, t100, t101, t102, t103, t104, t105, t106, t107, t108, t109, t110, t111, t112, t113, t114, t115, t116, t117, t118, t119, t120, t121, t122, t123, t124, t125, t126, t127, t128, t129, t130, t131, t132, t133, t134, t135, t136, t137, t138, t139, t140, t141, t142, t143, t144, t145, t146, t147, t148, t149, t150, t151, t152, t153, t154, t155, t156, t157, t158, t159, t160, t161, t162, t163, t164, t165, t166, t167, t168], defers := [] } V := by
  simp only [inner4, body4, round4, tail9, cL, cR, cI, Tryd.f4, Option.getD]
  have mixed : Tryd.prog.follows .mixedOrders = true := by kernel_rfl
  obtain ⟨hx, hln⟩ := pre_at hpre
  have fV := f1.nu (Kp.of_below hI.1)
  have ci := cell1 hI.2
  have cw := cell1 (hb.at fV).2.2.2.1
  obtain ⟨g0, g1, g2⟩ := cell3 hg
  obtain ⟨rr, rc, er, d0, d1, d2⟩ := row_at (hb.at fV).2.2.2.2.2.2 hx
  rw [hN] at er hln
  simp only [Value.slice.injEq, true_and] at er
  obtain ⟨e1, e2⟩ := er
  subst e1
  subst e2
  have hn0 : (0 : Int) ≤ (pre.length : Int) := by omega
  have hN8 : (N : Int) ≤ 8192 := by have := hb.len; omega
  have hwr : wrap64 ((pre.length : Int) + 1) = (pre.length : Int) + 1 := by unfold wrap64; omega
  have hlen : ((pre ++ [x]).length : Int) = (pre.length : Int) + 1 := by simp
  obtain ⟨n, en⟩ : ∃ n, pre.length = n := ⟨_, rfl⟩
  rw [en] at hn0 hwr hlen hx hln ci d0 d1 d2
  have hgeN : ¬ N ≤ n := by omega
  have hdN : decide (N ≤ n) = false := by simpa using hgeN
  have hdI : decide ((N : Int) ≤ (n : Int)) = false := by simpa using hgeN
  have HB := hide (And.intro fV (And.intro hK (And.intro hI (And.intro hlen en))))
  have hnI : (n : Int) < (N : Int) := by omega
  clear hx hb hpre hK hg hlen hI en hN fV
  gi_wp2
  refine Qr.quiet_round (by kernel_rfl) (by kernel_rfl) (by kernel_rfl) ?_
  iterate 12 (gi_big_quiet_step (fail))
  refine wpQuietIn_nil ?_
  intro _ hw'
  obtain ⟨nq, hw''⟩ := hw'
  subst hw''
  have k01 : Kp Nu V (V.drewN nq) := kp_dn V nq
  generalize V.drewN nq = V3 at k01 ⊢
  have hi3 := (k01.block _ (blk_lt HB.out.2.2.1.2) (fun h => h)).trans HB.out.2.2.1.2
  have ci3 := cell1 hi3
  rw [HB.out.2.2.2.2] at ci3
  have fi3 := free3 hi3 0
  have HG : Hid (ownPostG B0 (Kc K) (WI V1 bk) (fun _ _ _ => False) (pre ++ [x]) V .normal { tmps := #[], defers := [] } (V3.setCell ⟨bk, 0, none⟩ (.int .i64 ((n : Int) + 1)))) := by
    obtain ⟨fV, hK, hI, hlen, en⟩ := HB.out
    have kS : Kp (fun k => k = bk) V (V3.setCell ⟨bk, 0, none⟩ (.int .i64 ((n : Int) + 1))) := (k01.mono (fun _ _ e => e.elim)).trans (Kp.setCell V3 ⟨bk, 0, none⟩ _) (fun _ _ e => e)
    have kB : Kp Nu V1 (V3.setCell ⟨bk, 0, none⟩ (.int .i64 ((n : Int) + 1))) := ((Kp.of_below hI.1).andNu k01).andSet ⟨bk, 0, none⟩ _ (.inl h1)
    refine hide ⟨kf_cells kS (fun k e => ⟨_, _, _, by have e : k = bk := e; subst e; exact hI.2⟩), hK.kc fV (f1.nu kB) kS (fun i c m e h => by have e : i = bk := e; subst e; rw [hI.2] at h; cases h), kB.toBelow, ?_⟩
    have e : ((pre ++ [x]).length : Int) = (n : Int) + 1 := hlen
    rw [e, set3 hi3]; rfl
  clear cw ci hi3 k01
  gi_wp2
  exact HG.out
end
end Go.Proofs.YtffcnonhhfhlhaaDoor.Rg
