import Derived.Test.YtffcnonhhfhlhaaDoorWkH
namespace Go.Proofs.YtffcnonhhfhlhaaDoor.Rg
open Go.RowKit Go.Shelf Go.Sort
open Go.Proofs.YtffcnonhhfhlhaaDoor.It Go.BigFrame
attribute [local go_sem] Oper.semAt_some
set_option linter.unusedVariables false
section
variable {Ls : List Nat} {w w6 : World} {bs bp bt br bT bR bw bf : Nat} {s th : Sp} {stop lim : Int} {B b : Nat} {v vr : Value} {wa : Option Addr} {wc N : Nat} {L W : List Sg} {gf : Nat} {lb : Array Value}
set_option maxRecDepth 100000 in
set_option maxHeartbeats 4000000 in
theorem body_2 (hb : Wb w w6 bs bp bt br bT bR bw bf s th stop lim B b v vr (.slice wa N wc) L W gf lb) (ft : SpB th) (hN : W.length = N) {K : Nat → TypeId → Prop} (hK : Kf b w6 K) (V : World) (bn bi bg l B0 : Nat) (h6 : w6.heap.size ≤ bi) (hw : w.heap.size ≤ bi) (hne : bn ≠ bi) (hl : ∃ r, V.heap[l]? = some (.loop r)) (pre : List Sg) (x : Sg) (hpre : pre ++ [x] <+: W) (hJJ : WJ Ls w w6 b B bn bi lim stop N L (stp L lim th) 2 pre V) (hg : V.heap[bg]? = some (.cells #[.int .u64 x.lo, .int .u64 x.hi, .int .u8 x.h] 26 (0, 0)))
    {t0 t1 t2 t3 t4 t5 t6 t7 t12 t13 t19 t20 t21 t22 t23 t24 t25 t26 t27 t28 t29 t30 t31 t32 t33 t34 t35 t36 t37 t38 t39 t40 t41 t42 t43 t44 t45 t46 t47 t48 t49 t50 t51 t52 t53 t54 t55 t56 t57 t58 t59 t60 t61 t62 t63 t64 t65 t66 t67 t68 t69 t70 t71 t72 t73 t74 t75 t76 t77 t78 t79 t80 t81 t82 t83 t84 t85 t86 t87 t88 t89 t90 t91 t92 t93 t94 t95 t96 t97 t98 t99 t100 t101 t102 t103 t104 t105 t106 t107 t108 t109 t110 t111 t112 t113 t114 t115 t116 t117 t118 t119 t120 t121 t122 t123 t124 t125 t126 t127 t128 t129 t130 t131 t132 t133 t134 t135 t136 t137 t138 t139 t140 t141 t142 t143 t144 t145 t146 t147 t148 t149 t150 t151 t152 t153 t154 t155 t156 t157 t158 t159 t160 t161 t162 t163 t164 t165 t166 t167 t168 : Value} :
    (body4 Tryd.f4).wpIn (Fence.wide.inRound l) 2 Tryd.prog (ownPostG B0 (Kc K) (WJ Ls w w6 b B bn bi lim stop N L (stp L lim th) 2) (WX Ls w w6 b B bn bi lim stop N L (stp L lim th) 2) (pre ++ [x]) V) { tmps := #[t0, t1, t2, t3, t4, t5, t6, t7, .pointer (some ⟨bp, 0, none⟩), .pointer (some ⟨bt, 0, none⟩), .pointer (some ⟨br, 0, none⟩), .pointer (some ⟨bT, 0, none⟩), t12, t13, .pointer (some ⟨bw, 0, none⟩), .pointer (some ⟨bf, 0, none⟩), .pointer (some ⟨bn, 0, none⟩), .pointer (some ⟨bi, 0, none⟩), .pointer (some ⟨bg, 0, none⟩), t19, t20, t21, t22, t23, t24, t25, t26, t27, t28, t29, t30, t31, t32, t33, t34, t35, t36, t37, t38, t39, t40, t41, t42, t43, t44, t45, t46, t47, t48, t49, t50, t51, t52, t53, t54, t55, t56, t57, t58, t59, t60, t61, t62, t63, t64, t65, t66, t67, t68, t69, t70, t71, t72, t73, t74, t75, t76, t77, t78, t79, t80, t81, t82, t83, t84, t85, t86, t87, t88, t89, t90, t91, t92, t93, t94, t95, t96, t97, t98, t99, t100, t101, t102, t103, t104, t105, t106, t107, t108, t109, t110, t111, t112, t113, t114, t115, t116, t117, t118, t119, t120, t121, t122, t123, t124, t125, t126, t127, t128, t129, t130, t131, t132, t133, t134, t135, t136, t137, t138, t139, t140, t141, t142, t143, t144, t145, t146, t147, t148, t149, t150, t151, t152, t153, t154, t155, t156, t157, t158, t159, t160, t161, t162, t163, t164, t165, t166, t167, t168], defers := [] } V := by
  simp only [body4, round4, tail9, cL, cR, cI, Tryd.f4, Option.getD]
  have mixed : Tryd.prog.follows .mixedOrders = true := by kernel_rfl
  obtain ⟨hx, hln⟩ := pre_at hpre
  obtain ⟨hJ, hno⟩ := hJJ
  have ci := cell1 hJ.i
  have cw := cell1 (hb.at hJ.fx).2.2.2.1
  obtain ⟨g0, g1, g2⟩ := cell3 hg
  obtain ⟨rr, rc, er, d0, d1, d2⟩ := row_at (hb.at hJ.fx).2.2.2.2.2.2 hx
  rw [hN] at er hln
  simp only [Value.slice.injEq, true_and] at er
  obtain ⟨e1, e2⟩ := er
  subst e1
  subst e2
  have hnI : (pre.length : Int) < (N : Int) := by omega
  have hge : ¬ (N : Int) ≤ (pre.length : Int) := by omega
  have hn0 : (0 : Int) ≤ (pre.length : Int) := by omega
  have hN8 : (N : Int) ≤ 8192 := by have := hb.len; omega
  have hwr : wrap64 ((pre.length : Int) + 1) = (pre.length : Int) + 1 := by unfold wrap64; omega
  have hlen : ((pre ++ [x]).length : Int) = (pre.length : Int) + 1 := by simp
  obtain ⟨n, en⟩ : ∃ n, pre.length = n := ⟨_, rfl⟩
  rw [en] at hJ hno hnI hge hn0 hwr hlen hx hln ci d0 d1 d2
  have HB := hide (And.intro hb (And.intro hK (And.intro hJ (And.intro hlen (And.intro ft (And.intro en (And.intro hpre hN)))))))
  have HNO := hide hno
  have hgeN : ¬ N ≤ n := by omega
  have hdN : decide (N ≤ n) = false := by simpa using hgeN
  have hdI : decide ((N : Int) ≤ (n : Int)) = false := by simpa using hgeN
  clear hx hb hpre hK hg hlen hJ hno en hN ft
  gi_wp2
  refine Qr.quiet_round (by kernel_rfl) (by kernel_rfl) (by kernel_rfl) ?_
  iterate 12 (gi_big_quiet_step (fail))
  refine wpQuietIn_nil ?_
  intro _ hw'
  obtain ⟨nq, hw''⟩ := hw'
  subst hw''
  have k01 : Kp Nu V (V.drewN nq) := kp_dn V nq
  generalize V.drewN nq = V1 at k01 ⊢
  have hJ := HB.out.2.2.1.nu k01
  have hat := HB.out.1.at hJ.fx
  have cn : V1.cell? ⟨bn, 0, none⟩ = some (.int .i64 2) := cell1 hJ.r
  replace ci := cell1 hJ.i
  have fi := free3 hJ.i 0
  have cp := cell1 hat.1.p
  clear cw g0 g1 g2 d0 d1 d2 hnI hge
  by_cases hz : n = 0
  · have hz0 : (((n : Int)) == 0) = true := by simpa using hz
    have kB2 : Kp Nu V1 (V1.alloc (.cells #[.int .i64 0] 3)) := Kp.alloc V1 _ Nu
    have hk0 : (V1.alloc (.cells #[.int .i64 0] 3)).heap[V1.heap.size]? = some (.cells #[.int .i64 0] 3 (0, 0)) := heap_alloc_new V1 _
    have cf := cell1 ((kB2.block _ (blk_lt hat.2.2.2.2.1) (fun h => h)).trans hat.2.2.2.2.1)
    have hl2 : ∃ r, (V1.alloc (.cells #[.int .i64 0] 3)).heap[l]? = some (.loop r) := by
      obtain ⟨r, hr⟩ := hl
      exact ⟨r, ((k01.andNu kB2).block l (Array.getElem?_eq_some_iff.1 hr).1 (fun h => h)).trans hr⟩
    have HZ := hide hz
    have HJ1 := hide (And.intro hJ (And.intro k01 (And.intro kB2 hk0)))
    clear hJ k01 hat kB2 hk0 hz hl
    gi_wp2_with fail
    generalize V1.alloc (.cells #[.int .i64 0] 3) = V2 at HJ1 hl2 cf ⊢
    obtain ⟨bk, hbk⟩ : ∃ bk, V1.heap.size = bk := ⟨_, rfl⟩
    have HBK : Hid (V1.heap.size ≤ bk) := hide (Nat.le_of_eq hbk)
    have hk0 : V2.heap[bk]? = some (.cells #[.int .i64 0] 3 (0, 0)) := by rw [← hbk]; exact HJ1.out.2.2.2
    rw [hbk]
    clear hbk
    obtain ⟨r₀, hl2⟩ := hl2
    obtain ⟨eg, K2, N2, hK2, hS2⟩ := HB.out.1.sq
    have SQ := hS2 V2 (HJ1.out.1.fx.nu HJ1.out.2.2.1)
    have hz12 : V1.heap.size ≤ V2.heap.size := HJ1.out.2.2.1.size
    refine range_qN hl2 (show 1 ≤ 2 by omega) rfl eg SQ (Below.refl _ _) (fun _ => rfl) (WI V1 bk) (fun _ _ _ => False)
      (fun p X Z row hs hg hr => ⟨ownFrom_below (β := Unit) (Nat.le_refl _) hz12 () X Z row hs.1 hg hr, cells_grown hg hr _ _ _ _ hs.2⟩)
      (fun _ _ _ _ _ hs _ _ => hs) ⟨HJ1.out.2.2.1.toBelow, hk0⟩
      (fun y a' V' => ∃ Bx, V'.heap[Bx]? = some (.cells #[.int .u64 y.lo, .int .u64 y.hi, .int .u8 y.h] 26 (0, 0)) ∧ a' = { tmps := #[t0, t1, t2, t3, t4, t5, t6, t7, .pointer (some ⟨bp, 0, none⟩), .pointer (some ⟨bt, 0, none⟩), .pointer (some ⟨br, 0, none⟩), .pointer (some ⟨bT, 0, none⟩), t12, t13, .pointer (some ⟨bw, 0, none⟩), .pointer (some ⟨bf, 0, none⟩), .pointer (some ⟨bn, 0, none⟩), .pointer (some ⟨bi, 0, none⟩), .pointer (some ⟨bg, 0, none⟩), .pointer (some ⟨bk, 0, none⟩), .pointer (some ⟨Bx, 0, none⟩), t21, t22, t23, t24, t25, t26, t27, t28, t29, t30, t31, t32, t33, t34, t35, t36, t37, t38, t39, t40, t41, t42, t43, t44, t45, t46, t47, t48, t49, t50, t51, t52, t53, t54, t55, t56, t57, t58, t59, t60, t61, t62, t63, t64, t65, t66, t67, t68, t69, t70, t71, t72, t73, .int .i64 (n : Int), .slice (some ⟨rr, 0, none⟩) N wc, .int .i64 (N : Int), .bool false, .bool false, .agg #[.int .u64 x.lo, .int .u64 x.hi, .int .u8 x.h], .slice (some ⟨rr, 0, none⟩) N wc, .int .i64 (n : Int), .pointer (some ⟨rr, n * 3, none⟩), .agg #[.int .u64 x.lo, .int .u64 x.hi, .int .u8 x.h], .bool false, .bool false, .int .i64 2, .bool false, .bool false, undef, undef, undef, .bool false, t93, t94, t95, t96, t97, t98, t99, t100, .int .i64 2, .bool true, .bool true, .int .i64 (n : Int), .bool true, .bool true, .func (.func gf) #[] lb, enc y, t109, t110, t111, t112, t113, t114, t115, t116, t117, t118, t119, t120, t121, t122, t123, t124, t125, t126, t127, t128, t129, t130, t131, t132, t133, t134, t135, t136, t137, t138, t139, t140, t141, t142, t143, t144, t145, t146, t147, t148, t149, t150, t151, t152, t153, t154, t155, t156, t157, t158, t159, t160, t161, t162, t163, t164, t165, t166, t167, t168], defers := [] })
      (fun y a' _ X Z row hs hg hr => by
        obtain ⟨Bx, q1, q2⟩ := hs
        exact ⟨Bx, cells_grown hg hr _ _ _ _ q1, q2⟩)
      ?asg ?bo ?dn (fun _ _ _ _ h => h.elim)
    case asg =>
      rintro l' pre2 y V' R hI2 hR
      simp only [enc]
      have kV := Kp.alloc V' (.cells #[.int .u64 y.lo, .int .u64 y.hi, .int .u8 y.h] 26) Nu
      have HI := hide (And.intro hI2 kV)
      clear hI2 kV SQ hS2 cf ci cn fi cp
      gi_wp2
      obtain ⟨hI2, kV⟩ := HI.out
      exact hR _ _ (kf_nu _ kV) (kc_nu kV) ⟨((Kp.of_below hI2.1).andNu kV).toBelow, (kV.block _ (blk_lt hI2.2) (fun h => h)).trans hI2.2⟩ ⟨V'.heap.size, heap_alloc_new V' _, rfl⟩
    case bo =>
      rintro l' pre2 y a' V' hl' hq hI2 ⟨Bx, hX, rfl⟩ hp2
      exact inner_body HB.out.1 HB.out.2.2.2.2.2.2.2 hK2 V1 V' bk Bx l' _ HBK.out HJ1.out.1.fx pre2 y hp2 hI2 hX
    case dn =>
      rintro ys V' hys hI2
      subst hys
      have hJX := HJ1.out.1.nu (Kp.of_below hI2.1)
      have HJX := hide (And.intro hJX (HJ1.out.2.1.andNu (Kp.of_below hI2.1)))
      have ck := cell1 hI2.2
      rw [HB.out.2.2.2.2.2.2.2] at ck
      have cw2 := cell1 (HB.out.1.at hJX.fx).2.2.2.1
      have ci2 := cell1 hJX.i
      have fi2 := free3 hJX.i 0
      have cn2 : V'.cell? ⟨bn, 0, none⟩ = some (.int .i64 2) := cell1 hJX.r
      clear hJX hI2 SQ hS2 cf ci cn fi cp hk0 hl2
      obtain ⟨hJ', kS⟩ := HJX.out.1.set h6 hw hne ((n : Int) + 1)
      have cn' : (V'.setCell ⟨bi, 0, none⟩ (.int .i64 ((n : Int) + 1))).cell? ⟨bn, 0, none⟩ = some (.int .i64 2) := cell1 hJ'.r
      have ci' := cell1 hJ'.i
      have HF := hide (fin_body (B0 := B0) HB.out.2.1 HB.out.2.2.1 hJ' ((HJX.out.2.mono (fun _ _ e => e.elim)).trans kS (fun _ _ e => e)) (fun i e => .inl e))
      have HJ' : Hid (Wj Ls w w6 b B bn bi lim ((2 : Nat) : Int) ((pre ++ [x]).length : Int) (curL stop N L (stp L lim th) 2 (pre ++ [x]).length) (V'.setCell ⟨bi, 0, none⟩ (.int .i64 ((n : Int) + 1)))) := by
        have e : ((pre ++ [x]).length : Int) = (n : Int) + 1 := HB.out.2.2.2.1
        have ec : curL stop N L (stp L lim th) 2 (pre ++ [x]).length = curL stop N L (stp L lim th) 2 n := rfl
        rw [e, ec]; exact hide hJ'
      clear hJ' kS
      gi_wp2
      exact ⟨HF.out.1, HF.out.2, HJ'.out, fun h => by cases h⟩
  · have hz0 : (((n : Int)) == 0) = false := by simpa using hz
    have HJX := hide (And.intro hJ k01)
    clear hJ k01 hat hz
    obtain ⟨hJ', kS⟩ := HJX.out.1.set h6 hw hne ((n : Int) + 1)
    have cn' : (V1.setCell ⟨bi, 0, none⟩ (.int .i64 ((n : Int) + 1))).cell? ⟨bn, 0, none⟩ = some (.int .i64 2) := cell1 hJ'.r
    have ci' := cell1 hJ'.i
    have HF := hide (fin_body (B0 := B0) HB.out.2.1 HB.out.2.2.1 hJ' ((HJX.out.2.mono (fun _ _ e => e.elim)).trans kS (fun _ _ e => e)) (fun i e => .inl e))
    have HJ' : Hid (Wj Ls w w6 b B bn bi lim ((2 : Nat) : Int) ((pre ++ [x]).length : Int) (curL stop N L (stp L lim th) 2 (pre ++ [x]).length) (V1.setCell ⟨bi, 0, none⟩ (.int .i64 ((n : Int) + 1)))) := by
      have e : ((pre ++ [x]).length : Int) = (n : Int) + 1 := HB.out.2.2.2.1
      have ec : curL stop N L (stp L lim th) 2 (pre ++ [x]).length = curL stop N L (stp L lim th) 2 n := rfl
      rw [e, ec]; exact hide hJ'
    clear hJ' kS
    gi_wp2
    exact ⟨HF.out.1, HF.out.2, HJ'.out, fun h => by cases h⟩
end
end Go.Proofs.YtffcnonhhfhlhaaDoor.Rg
