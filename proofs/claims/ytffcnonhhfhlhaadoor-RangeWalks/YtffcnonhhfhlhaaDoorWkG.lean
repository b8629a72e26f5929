import Derived.Test.YtffcnonhhfhlhaaDoorWkH
namespace Go.Proofs.YtffcnonhhfhlhaaDoor.Rg
open Go.RowKit Go.Shelf Go.Sort
open Go.Proofs.YtffcnonhhfhlhaaDoor.It Go.BigFrame
attribute [local go_sem] Oper.semAt_some
set_option linter.unusedVariables false
section
variable {Ls : List Nat} {w w6 : World} {bs bp bt br bT bR bw bf : Nat} {s th : Sp} {stop lim : Int} {B b : Nat} {v vr : Value} {wa : Option Addr} {wc N : Nat} {L W : List Sg} {gf : Nat} {lb : Array Value}
set_option maxRecDepth 100000 in
set_option maxHeartbeats 4000000 in
theorem body_0 (hb : Wb w w6 bs bp bt br bT bR bw bf s th stop lim B b v vr (.slice wa N wc) L W gf lb) (ft : SpB th) (hN : W.length = N) {K : Nat → TypeId → Prop} (hK : Kf b w6 K) (V : World) (bn bi bg l B0 : Nat) (h6 : w6.heap.size ≤ bi) (hw : w.heap.size ≤ bi) (hne : bn ≠ bi) (hl : ∃ r, V.heap[l]? = some (.loop r)) (pre : List Sg) (x : Sg) (hpre : pre ++ [x] <+: W) (hJJ : WJ Ls w w6 b B bn bi lim stop N L (stp L lim th) 0 pre V) (hg : V.heap[bg]? = some (.cells #[.int .u64 x.lo, .int .u64 x.hi, .int .u8 x.h] 26 (0, 0)))
    {t0 t1 t2 t3 t4 t5 t6 t7 t12 t13 t19 t20 t21 t22 t23 t24 t25 t26 t27 t28 t29 t30 t31 t32 t33 t34 t35 t36 t37 t38 t39 t40 t41 t42 t43 t44 t45 t46 t47 t48 t49 t50 t51 t52 t53 t54 t55 t56 t57 t58 t59 t60 t61 t62 t63 t64 t65 t66 t67 t68 t69 t70 t71 t72 t73 t74 t75 t76 t77 t78 t79 t80 t81 t82 t83 t84 t85 t86 t87 t88 t89 t90 t91 t92 t93 t94 t95 t96 t97 t98 t99 t100 t101 t102 t103 t104 t105 t106 t107 t108 t109 t110 t111 t112 t113 t114 t115 t116 t117 t118 t119 t120 t121 t122 t123 t124 t125 t126 t127 t128 t129 t130 t131 t132 t133 t134 t135 t136 t137 t138 t139 t140 t141 t142 t143 t144 t145 t146 t147 t148 t149 t150 t151 t152 t153 t154 t155 t156 t157 t158 t159 t160 t161 t162 t163 t164 t165 t166 t167 t168 : Value} :
    (body4 Tryd.f4).wpIn (Fence.wide.inRound l) 2 Tryd.prog (ownPostG B0 (Kc K) (WJ Ls w w6 b B bn bi lim stop N L (stp L lim th) 0) (WX Ls w w6 b B bn bi lim stop N L (stp L lim th) 0) (pre ++ [x]) V) { tmps := #[t0, t1, t2, t3, t4, t5, t6, t7, .pointer (some ⟨bp, 0, none⟩), .pointer (some ⟨bt, 0, none⟩), .pointer (some ⟨br, 0, none⟩), .pointer (some ⟨bT, 0, none⟩), t12, t13, .pointer (some ⟨bw, 0, none⟩), .pointer (some ⟨bf, 0, none⟩), .pointer (some ⟨bn, 0, none⟩), .pointer (some ⟨bi, 0, none⟩), .pointer (some ⟨bg, 0, none⟩), t19, t20, t21, t22, t23, t24, t25, t26, t27, t28, t29, t30, t31, t32, t33, t34, t35, t36, t37, t38, t39, t40, t41, t42, t43, t44, t45, t46, t47, t48, t49, t50, t51, t52, t53, t54, t55, t56, t57, t58, t59, t60, t61, t62, t63, t64, t65, t66, t67, t68, t69, t70, t71, t72, t73, t74, t75, t76, t77, t78, t79, t80, t81, t82, t83, t84, t85, t86, t87, t88, t89, t90, t91, t92, t93, t94, t95, t96, t97, t98, t99, t100, t101, t102, t103, t104, t105, t106, t107, t108, t109, t110, t111, t112, t113, t114, t115, t116, t117, t118, t119, t120, t121, t122, t123, t124, t125, t126, t127, t128, t129, t130, t131, t132, t133, t134, t135, t136, t137, t138, t139, t140, t141, t142, t143, t144, t145, t146, t147, t148, t149, t150, t151, t152, t153, t154, t155, t156, t157, t158, t159, t160, t161, t162, t163, t164, t165, t166, t167, t168], defers := [] } V := by
  simp only [body4, round4, tail9, cL, cR, cI, Tryd.f4, Option.getD]
  have mixed : Tryd.prog.follows .mixedOrders = true := by kernel_rfl
  obtain ⟨hx, hln⟩ := pre_at hpre
  obtain ⟨hJ, hno⟩ := hJJ
  have ci := cell1 hJ.i
  have cw := cell1 (hb.at hJ.fx).2.2.2.1
  obtain ⟨g0, g1, g2⟩ := cell3 hg
  obtain ⟨rr, rc, er, d0, d1, d2⟩ := row_at (hb.at hJ.fx).2.2.2.2.2.2 hx
  rw [hN] at er hln
  simp only [Value.slice.injEq, true_and] at er
  obtain ⟨e1, e2⟩ := er
  subst e1
  subst e2
  have hnI : (pre.length : Int) < (N : Int) := by omega
  have hge : ¬ (N : Int) ≤ (pre.length : Int) := by omega
  have hn0 : (0 : Int) ≤ (pre.length : Int) := by omega
  have hN8 : (N : Int) ≤ 8192 := by have := hb.len; omega
  have hwr : wrap64 ((pre.length : Int) + 1) = (pre.length : Int) + 1 := by unfold wrap64; omega
  have hlen : ((pre ++ [x]).length : Int) = (pre.length : Int) + 1 := by simp
  obtain ⟨n, en⟩ : ∃ n, pre.length = n := ⟨_, rfl⟩
  rw [en] at hJ hno hnI hge hn0 hwr hlen hx hln ci d0 d1 d2
  have HB := hide (And.intro hb (And.intro hK (And.intro hJ (And.intro hlen (And.intro ft (And.intro en (And.intro hpre hN)))))))
  have HNO := hide hno
  have hgeN : ¬ N ≤ n := by omega
  have hdN : decide (N ≤ n) = false := by simpa using hgeN
  have hdI : decide ((N : Int) ≤ (n : Int)) = false := by simpa using hgeN
  clear hx hb hpre hK hg hlen hJ hno en hN ft
  gi_wp2
  refine Qr.quiet_round (by kernel_rfl) (by kernel_rfl) (by kernel_rfl) ?_
  iterate 12 (gi_big_quiet_step (fail))
  refine wpQuietIn_nil ?_
  intro _ hw'
  obtain ⟨nq, hw''⟩ := hw'
  subst hw''
  have k01 : Kp Nu V (V.drewN nq) := kp_dn V nq
  generalize V.drewN nq = V1 at k01 ⊢
  have hJ := HB.out.2.2.1.nu k01
  have hat := HB.out.1.at hJ.fx
  have cn : V1.cell? ⟨bn, 0, none⟩ = some (.int .i64 0) := cell1 hJ.r
  replace ci := cell1 hJ.i
  have fi := free3 hJ.i 0
  have cp := cell1 hat.1.p
  clear cw g0 g1 g2 d0 d1 d2 hnI hge
  obtain ⟨hJ', kS⟩ := hJ.set h6 hw hne ((n : Int) + 1)
  have cn' : (V1.setCell ⟨bi, 0, none⟩ (.int .i64 ((n : Int) + 1))).cell? ⟨bn, 0, none⟩ = some (.int .i64 0) := cell1 hJ'.r
  have ci' := cell1 hJ'.i
  have cp' := cell1 (HB.out.1.at hJ'.fx).1.p
  have HF := hide (fin_body (B0 := B0) HB.out.2.1 HB.out.2.2.1 hJ' ((k01.mono (fun _ _ e => e.elim)).trans kS (fun _ _ e => e)) (fun i e => .inl e))
  have HJ' : Hid (Wj Ls w w6 b B bn bi lim ((0 : Nat) : Int) ((pre ++ [x]).length : Int) (curL stop N L (stp L lim th) 0 (pre ++ [x]).length) (V1.setCell ⟨bi, 0, none⟩ (.int .i64 ((n : Int) + 1)))) := by
    have e : ((pre ++ [x]).length : Int) = (n : Int) + 1 := HB.out.2.2.2.1
    have ec : curL stop N L (stp L lim th) 0 (pre ++ [x]).length = curL stop N L (stp L lim th) 0 n := rfl
    rw [e, ec]; exact hide hJ'
  clear hJ hJ' kS k01 hat
  by_cases hst : (n : Int) + 1 = stop
  · have hse : (((n : Int) + 1) == stop) = true := by simpa using hst
    have HST := hide hst
    clear hst
    gi_wp2
    exact ⟨HF.out.1, rfl, rfl, by rw [HB.out.2.2.2.1]; exact HST.out.symm, HJ'.out⟩
  · have hse : (((n : Int) + 1) == stop) = false := by simpa using hst
    have HST := hide hst
    clear hst
    gi_wp2
    refine ⟨HF.out.1, HF.out.2, HJ'.out, fun _ h => ?_⟩
    have h1 := HNO.out trivial
    have h2 := HST.out
    have h3 : ((pre ++ [x]).length : Int) = (n : Int) + 1 := HB.out.2.2.2.1
    omega
end
end Go.Proofs.YtffcnonhhfhlhaaDoor.Rg
namespace Go.Proofs.YtffcnonhhfhlhaaDoor.Rg
open Go.RowKit Go.Shelf Go.Sort
open Go.Proofs.YtffcnonhhfhlhaaDoor.It Go.BigFrame
attribute [local go_sem] Oper.semAt_some
set_option linter.unusedVariables false
section
variable {Ls : List Nat} {w w6 : World} {bs bp bt br bT bR bw bf : Nat} {s th : Sp} {stop lim : Int} {B b : Nat} {v vr : Value} {wa : Option Addr} {wc N : Nat} {L W : List Sg} {gf : Nat} {lb : Array Value}
set_option maxRecDepth 100000 in
set_option maxHeartbeats 4000000 in
theorem body_1 (hb : Wb w w6 bs bp bt br bT bR bw bf s th stop lim B b v vr (.slice wa N wc) L W gf lb) (ft : SpB th) (hN : W.length = N) {K : Nat → TypeId → Prop} (hK : Kf b w6 K) (V : World) (bn bi bg l B0 : Nat) (h6 : w6.heap.size ≤ bi) (hw : w.heap.size ≤ bi) (hne : bn ≠ bi) (hl : ∃ r, V.heap[l]? = some (.loop r)) (pre : List Sg) (x : Sg) (hpre : pre ++ [x] <+: W) (hJJ : WJ Ls w w6 b B bn bi lim stop N L (stp L lim th) 1 pre V) (hg : V.heap[bg]? = some (.cells #[.int .u64 x.lo, .int .u64 x.hi, .int .u8 x.h] 26 (0, 0)))
    {t0 t1 t2 t3 t4 t5 t6 t7 t12 t13 t19 t20 t21 t22 t23 t24 t25 t26 t27 t28 t29 t30 t31 t32 t33 t34 t35 t36 t37 t38 t39 t40 t41 t42 t43 t44 t45 t46 t47 t48 t49 t50 t51 t52 t53 t54 t55 t56 t57 t58 t59 t60 t61 t62 t63 t64 t65 t66 t67 t68 t69 t70 t71 t72 t73 t74 t75 t76 t77 t78 t79 t80 t81 t82 t83 t84 t85 t86 t87 t88 t89 t90 t91 t92 t93 t94 t95 t96 t97 t98 t99 t100 t101 t102 t103 t104 t105 t106 t107 t108 t109 t110 t111 t112 t113 t114 t115 t116 t117 t118 t119 t120 t121 t122 t123 t124 t125 t126 t127 t128 t129 t130 t131 t132 t133 t134 t135 t136 t137 t138 t139 t140 t141 t142 t143 t144 t145 t146 t147 t148 t149 t150 t151 t152 t153 t154 t155 t156 t157 t158 t159 t160 t161 t162 t163 t164 t165 t166 t167 t168 : Value} :
    (body4 Tryd.f4).wpIn (Fence.wide.inRound l) 2 Tryd.prog (ownPostG B0 (Kc K) (WJ Ls w w6 b B bn bi lim stop N L (stp L lim th) 1) (WX Ls w w6 b B bn bi lim stop N L (stp L lim th) 1) (pre ++ [x]) V) { tmps := #[t0, t1, t2, t3, t4, t5, t6, t7, .pointer (some ⟨bp, 0, none⟩), .pointer (some ⟨bt, 0, none⟩), .pointer (some ⟨br, 0, none⟩), .pointer (some ⟨bT, 0, none⟩), t12, t13, .pointer (some ⟨bw, 0, none⟩), .pointer (some ⟨bf, 0, none⟩), .pointer (some ⟨bn, 0, none⟩), .pointer (some ⟨bi, 0, none⟩), .pointer (some ⟨bg, 0, none⟩), t19, t20, t21, t22, t23, t24, t25, t26, t27, t28, t29, t30, t31, t32, t33, t34, t35, t36, t37, t38, t39, t40, t41, t42, t43, t44, t45, t46, t47, t48, t49, t50, t51, t52, t53, t54, t55, t56, t57, t58, t59, t60, t61, t62, t63, t64, t65, t66, t67, t68, t69, t70, t71, t72, t73, t74, t75, t76, t77, t78, t79, t80, t81, t82, t83, t84, t85, t86, t87, t88, t89, t90, t91, t92, t93, t94, t95, t96, t97, t98, t99, t100, t101, t102, t103, t104, t105, t106, t107, t108, t109, t110, t111, t112, t113, t114, t115, t116, t117, t118, t119, t120, t121, t122, t123, t124, t125, t126, t127, t128, t129, t130, t131, t132, t133, t134, t135, t136, t137, t138, t139, t140, t141, t142, t143, t144, t145, t146, t147, t148, t149, t150, t151, t152, t153, t154, t155, t156, t157, t158, t159, t160, t161, t162, t163, t164, t165, t166, t167, t168], defers := [] } V := by
  simp only [body4, round4, tail9, cL, cR, cI, Tryd.f4, Option.getD]
  have mixed : Tryd.prog.follows .mixedOrders = true := by kernel_rfl
  obtain ⟨hx, hln⟩ := pre_at hpre
  obtain ⟨hJ, hno⟩ := hJJ
  have ci := cell1 hJ.i
  have cw := cell1 (hb.at hJ.fx).2.2.2.1
  obtain ⟨g0, g1, g2⟩ := cell3 hg
  obtain ⟨rr, rc, er, d0, d1, d2⟩ := row_at (hb.at hJ.fx).2.2.2.2.2.2 hx
  rw [hN] at er hln
  simp only [Value.slice.injEq, true_and] at er
  obtain ⟨e1, e2⟩ := er
  subst e1
  subst e2
  have hnI : (pre.length : Int) < (N : Int) := by omega
  have hge : ¬ (N : Int) ≤ (pre.length : Int) := by omega
  have hn0 : (0 : Int) ≤ (pre.length : Int) := by omega
  have hN8 : (N : Int) ≤ 8192 := by have := hb.len; omega
  have hwr : wrap64 ((pre.length : Int) + 1) = (pre.length : Int) + 1 := by unfold wrap64; omega
  have hlen : ((pre ++ [x]).length : Int) = (pre.length : Int) + 1 := by simp
  obtain ⟨n, en⟩ : ∃ n, pre.length = n := ⟨_, rfl⟩
  rw [en] at hJ hno hnI hge hn0 hwr hlen hx hln ci d0 d1 d2
  have HB := hide (And.intro hb (And.intro hK (And.intro hJ (And.intro hlen (And.intro ft (And.intro en (And.intro hpre hN)))))))
  have HNO := hide hno
  have hgeN : ¬ N ≤ n := by omega
  have hdN : decide (N ≤ n) = false := by simpa using hgeN
  have hdI : decide ((N : Int) ≤ (n : Int)) = false := by simpa using hgeN
  clear hx hb hpre hK hg hlen hJ hno en hN ft
  gi_wp2
  refine Qr.quiet_round (by kernel_rfl) (by kernel_rfl) (by kernel_rfl) ?_
  iterate 12 (gi_big_quiet_step (fail))
  refine wpQuietIn_nil ?_
  intro _ hw'
  obtain ⟨nq, hw''⟩ := hw'
  subst hw''
  have k01 : Kp Nu V (V.drewN nq) := kp_dn V nq
  generalize V.drewN nq = V1 at k01 ⊢
  have hJ := HB.out.2.2.1.nu k01
  have hat := HB.out.1.at hJ.fx
  have cn : V1.cell? ⟨bn, 0, none⟩ = some (.int .i64 1) := cell1 hJ.r
  replace ci := cell1 hJ.i
  have fi := free3 hJ.i 0
  have cp := cell1 hat.1.p
  clear cw g0 g1 g2 d0 d1 d2 hnI hge
  by_cases hst : (n : Int) = stop
  · have hse : (((n : Int)) == stop) = true := by simpa using hst
    obtain ⟨v', ht⟩ := hJ.t
    have AS := assign_any ht th HB.out.2.2.2.2.1 (Nat.le_trans ht.low (Nat.le_of_lt (blk_lt ht.blk)))
    have e0 : curL stop N L (stp L lim th) 1 n = L := by unfold curL; rw [if_neg (by omega), if_neg (by decide), if_pos rfl, if_neg (by omega)]
    rw [e0] at AS
    have cT := cell1 hat.2.1
    obtain ⟨p0, p1, p2, p3⟩ := cell4' hat.1.t
    have HJ1 := hide (And.intro hJ (And.intro k01 hst))
    clear hJ k01 hat ht hst e0
    gi_wp2_with fail
    refine ⟨trivial, (CallsIn.inRound l (callsIn_wide.2 AS)).mono ?_⟩
    rintro e V2 ⟨rfl, v2, ht2, k12⟩
    have hJ2 := HJ1.out.1.turn k12 ht2 HB.out.1.low
    have hi2 := cell1 hJ2.i
    have fi2 := free3 hJ2.i 0
    have hn2 : V2.cell? ⟨bn, 0, none⟩ = some (.int .i64 1) := cell1 hJ2.r
    obtain ⟨hJ', kS⟩ := hJ2.set h6 hw hne ((n : Int) + 1)
    have cn' : (V2.setCell ⟨bi, 0, none⟩ (.int .i64 ((n : Int) + 1))).cell? ⟨bn, 0, none⟩ = some (.int .i64 1) := cell1 hJ'.r
    have ci' := cell1 hJ'.i
    have HF := hide (fin_body (T := fun k => k = bi ∨ k = b) (B0 := B0) HB.out.2.1 HB.out.2.2.1 hJ' (((HJ1.out.2.1.mono (T := fun k => k = bi ∨ k = b) (fun _ _ e => e.elim)).trans k12 (fun _ _ e => .inr e)).trans kS (fun _ _ e => .inl e)) (fun i e => e))
    have HJ' : Hid (Wj Ls w w6 b B bn bi lim ((1 : Nat) : Int) ((pre ++ [x]).length : Int) (curL stop N L (stp L lim th) 1 (pre ++ [x]).length) (V2.setCell ⟨bi, 0, none⟩ (.int .i64 ((n : Int) + 1)))) := by
      have e : ((pre ++ [x]).length : Int) = (n : Int) + 1 := HB.out.2.2.2.1
      have e3 := HJ1.out.2.2
      have ec : curL stop N L (stp L lim th) 1 (pre ++ [x]).length = stp L lim th := by unfold curL; rw [if_neg (by omega), if_neg (by decide), if_pos rfl, if_pos (by omega)]
      rw [e, ec]; exact hide hJ'
    clear hJ2 hJ' kS k12 ht2 AS ci cn cp fi
    gi_wp2
    exact ⟨HF.out.1, HF.out.2, HJ'.out, fun h => by cases h⟩
  · have hse : (((n : Int)) == stop) = false := by simpa using hst
    obtain ⟨hJ', kS⟩ := hJ.set h6 hw hne ((n : Int) + 1)
    have cn' : (V1.setCell ⟨bi, 0, none⟩ (.int .i64 ((n : Int) + 1))).cell? ⟨bn, 0, none⟩ = some (.int .i64 1) := cell1 hJ'.r
    have ci' := cell1 hJ'.i
    have HF := hide (fin_body (B0 := B0) HB.out.2.1 HB.out.2.2.1 hJ' ((k01.mono (fun _ _ e => e.elim)).trans kS (fun _ _ e => e)) (fun i e => .inl e))
    have HJ' : Hid (Wj Ls w w6 b B bn bi lim ((1 : Nat) : Int) ((pre ++ [x]).length : Int) (curL stop N L (stp L lim th) 1 (pre ++ [x]).length) (V1.setCell ⟨bi, 0, none⟩ (.int .i64 ((n : Int) + 1)))) := by
      have e : ((pre ++ [x]).length : Int) = (n : Int) + 1 := HB.out.2.2.2.1
      have ec : curL stop N L (stp L lim th) 1 (pre ++ [x]).length = curL stop N L (stp L lim th) 1 n := by
        by_cases h1 : stop < 0
        · unfold curL; rw [if_pos h1, if_pos h1]
        · rw [curL_one h1, curL_one h1]
          by_cases h2 : stop < (n : Int)
          · rw [if_pos h2, if_pos (by omega)]
          · rw [if_neg h2, if_neg (by omega)]
      rw [e, ec]; exact hide hJ'
    clear hJ hJ' kS k01 hat hst
    gi_wp2
    exact ⟨HF.out.1, HF.out.2, HJ'.out, fun h => by cases h⟩
end
end Go.Proofs.YtffcnonhhfhlhaaDoor.Rg
