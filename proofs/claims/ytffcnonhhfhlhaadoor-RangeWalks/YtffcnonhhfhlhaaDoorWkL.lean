import Derived.Test.YtffcnonhhfhlhaaDoorRfE
import Derived.Test.YtffcnonhhfhlhaaDoorWkK
namespace Go.Proofs.YtffcnonhhfhlhaaDoor.Rg
open Go.RowKit Go.Shelf Go.Sort
open Go.Proofs.YtffcnonhhfhlhaaDoor.It
set_option linter.unusedVariables false

/-- the document's Assign at any step: its code, and the list that it gives -/
theorem refAssign_any {w : World} {rv : Value} {L : List Sg} {lim : Int} (hrs : Rs w rv L) (hT : Tab L) (hl : (L.length : Int) ≤ lim) (hl2 : lim ≤ 8192) (s : Sp) (f : 0 ≤ s.lo ∧ s.lo < 18446744073709551616 ∧ 0 ≤ s.hi ∧ s.hi < 18446744073709551616 ∧ 0 ≤ s.h ∧ s.h < 256) :
    Calls Tryd.prog 17 #[.agg #[.int .i64 lim, rv], .int .u64 s.lo, .int .u64 s.hi, .int .u8 s.h] w fun e w' => ∃ u', e = .returned (.tuple #[.agg #[.int .i64 lim, u'], .int .i64 (cod L lim s)]) ∧ Rs w' u' (stp L lim s) ∧ (u' = rv ∨ w'.ownsRow w.heap.size 26 3 u' (stp L lim s).length (cells (stp L lim s))) ∧ Kp Nu w w' := by
  obtain ⟨f0, f1, f2, f3, f4, f5⟩ := f
  have hM : L.length ≤ 8192 := by omega
  by_cases h1 : s.hi < s.lo
  · have e1 : cod L lim s = 60 := by unfold cod; rw [if_pos h1]
    have e2 : stp L lim s = L := by unfold stp; rw [if_neg (by omega)]
    rw [e1, e2]
    refine (refAssign_no hrs s.lo s.hi s.h 60 (by decide) 0 (fun W hW => refCost_bad (hrs.nu hW) _ _ _ h1)).mono ?_
    rintro e w' ⟨rfl, hk⟩
    exact ⟨rv, rfl, hrs.nu hk, .inl rfl, hk⟩
  · by_cases h2 : s.h < 16
    · obtain ⟨a1, a2, a3⟩ := asg_facts hT f0 (by omega) f3 f4 h2
      have hr := cost_range hT s.h f0 (by omega : s.lo ≤ s.hi) f3
      have CO := fun W (hW : Kp Nu w W) => refCost_ok (lim := lim) (hrs.nu hW) hT hM s.lo s.hi s.h f0 (by omega) f3 f4 h2
      by_cases h3 : (L.length : Int) + costB L s.lo s.hi s.h ≤ lim
      · have e1 : cod L lim s = 0 := by unfold cod; rw [if_neg h1, if_neg (by omega), if_neg (by omega)]
        have e2 : stp L lim s = asg L s.lo s.hi s.h := by unfold stp; rw [if_pos ⟨by omega, h2, h3⟩]
        rw [e1, e2]
        have CU := fun W (hW : Kp Nu w W) => refCut_any W rv L (hrs.nu hW) hM hT.sgb.1 hT.sgb.2 s.lo s.hi s.h f0 (by omega) f3 f4 f5
        rw [cutD_asg hT f0 (by omega) f3 f4 h2] at CU
        refine (refAssign_ok hrs s.lo s.hi s.h _ (asg L s.lo s.hi s.h) hM (by omega) h3 CU CO).mono ?_
        rintro e w' ⟨u', rfl, ho, hk⟩
        exact ⟨u', rfl, rs_of_own ho a1.ne, .inr ho, hk⟩
      · have e1 : cod L lim s = 61 := by unfold cod; rw [if_neg h1, if_neg (by omega), if_pos (by omega)]
        have e2 : stp L lim s = L := by unfold stp; rw [if_neg (by omega)]
        rw [e1, e2]
        refine (refAssign_full hrs s.lo s.hi s.h _ hM (by omega) (by omega) CO).mono ?_
        rintro e w' ⟨rfl, hk⟩
        exact ⟨rv, rfl, hrs.nu hk, .inl rfl, hk⟩
    · have e1 : cod L lim s = 2 := by unfold cod; rw [if_neg h1, if_pos h2]
      have e2 : stp L lim s = L := by unfold stp; rw [if_neg (by omega)]
      rw [e1, e2]
      refine (refAssign_no hrs s.lo s.hi s.h 2 (by decide) 0 (fun W hW => refCost_arg (hrs.nu hW) _ _ _ (by omega) h2)).mono ?_
      rintro e w' ⟨rfl, hk⟩
      exact ⟨rv, rfl, hrs.nu hk, .inl rfl, hk⟩
end Go.Proofs.YtffcnonhhfhlhaaDoor.Rg
namespace Go.Proofs.YtffcnonhhfhlhaaDoor.Rg
open Go.RowKit Go.Shelf Go.Sort
open Go.Proofs.YtffcnonhhfhlhaaDoor.It Go.BigFrame
attribute [local go_sem] Oper.semAt_some
set_option linter.unusedVariables false
section
variable {w w6 : World} {bs bp bt br bT bR bw bf : Nat} {s th : Sp} {stop lim : Int} {B b : Nat} {v : Value} {va : Option Addr} {vn vc : Nat} {wa : Option Addr} {wc N : Nat} {L W : List Sg} {gf : Nat} {lb : Array Value}
/-- what the law's end asks -/
def EndQ (w : World) (br : Nat) (Q : Exit → Act → World → Prop) : Prop := ∀ (tmps : Array Value) (Ls : List Nat) (V : World), tmps.getD 10 undef = .pointer (some ⟨br, 0, none⟩) → Ls.Nodup → (∀ D ∈ Ls, w.heap.size ≤ D ∧ V.heap[D]? = some (.deferred (some []))) → V.heap[br]? = some (.cells #[.bool true] 4 (0, 0)) → Kp Nu w V → Q .ret { tmps := tmps, defers := Ls.map (fun D => { target := .collected D, args := #[] }) } V
theorem end_ret {Q : Exit → Act → World → Prop} {br : Nat} (hQ : EndQ w br Q) (hbr : w.heap.size ≤ br) {tmps : Array Value} {Ls : List Nat} {V : World} (h1 : tmps.getD 10 undef = .pointer (some ⟨br, 0, none⟩)) (nd : Ls.Nodup) (hd : ∀ D ∈ Ls, w.heap.size ≤ D ∧ V.heap[D]? = some (.deferred (some []))) (hr : V.heap[br]? = some (.cells #[.bool false] 4 (0, 0))) (hk : Kp Nu w V) : Q .ret { tmps := tmps, defers := Ls.map (fun D => { target := .collected D, args := #[] }) } (V.setCell ⟨br, 0, none⟩ (.bool true)) := by
  refine hQ tmps Ls _ h1 nd (fun D hD => ⟨(hd D hD).1, ?_⟩) (by rw [set3 hr]; rfl) (hk.andSet ⟨br, 0, none⟩ _ (.inl hbr))
  exact (Below.heap_setCell V ⟨br, 0, none⟩ _ D (fun e => by have e : D = br := e; have := (hd D hD).2; rw [e, hr] at this; cases this)).trans (hd D hD).2
set_option maxRecDepth 100000 in
set_option maxHeartbeats 8000000 in
theorem fin_any (hb : Wb w w6 bs bp bt br bT bR bw bf s th stop lim B b v (.slice va vn vc) (.slice wa N wc) L W gf lb) (ft : SpB th) (hp : PowB w.heap.size w) (hbr : w.heap.size ≤ br) (Q : Exit → Act → World → Prop) (hQ : EndQ w br Q) (Ls : List Nat) (bn : Nat) (rd : Int) (V : World) (hR : Wr Ls w w6 b B bn lim rd (curL stop N L (stp L lim th) 4 0) V) {t0 t1 t2 t3 t4 t5 t6 t7 t13 t16 t17 t18 t19 t20 t21 t22 t23 t24 t25 t26 t27 t28 t29 t30 t31 t32 t33 t34 t35 t36 t37 t38 t39 t40 t41 t42 t43 t44 t45 t46 t47 t48 t49 t50 t51 t52 t53 t54 t55 t56 t57 t58 t59 t60 t61 t62 t63 t64 t65 t66 t67 t68 t69 t70 t71 t72 t73 t74 t75 t76 t77 t78 t79 t80 t81 t82 t83 t84 t85 t86 t87 t88 t89 t90 t91 t92 t93 t94 t95 t96 t97 t98 t99 t100 t101 t102 t103 t104 t105 t106 t107 t108 t109 t110 t111 t112 t113 t114 t115 t116 t117 t118 t119 t120 t121 t122 t123 t124 t125 t126 t127 t128 t129 t130 t131 t132 t133 t134 t135 t136 t137 t138 t139 t140 t141 t142 t143 t144 t145 t146 t147 t148 t149 t150 t151 t152 t153 t154 t155 t156 t157 t158 t159 t160 t161 t162 t163 t164 t165 t166 t167 t168 : Value} :
    (cR (cR (cR (tail9 Tryd.f4)))).wpIn Fence.wide 4 Tryd.prog Q { tmps := #[t0, t1, t2, t3, t4, t5, t6, t7, .pointer (some ⟨bp, 0, none⟩), .pointer (some ⟨bt, 0, none⟩), .pointer (some ⟨br, 0, none⟩), .pointer (some ⟨bT, 0, none⟩), .pointer (some ⟨bR, 0, none⟩), t13, .pointer (some ⟨bw, 0, none⟩), .pointer (some ⟨bf, 0, none⟩), t16, t17, t18, t19, t20, t21, t22, t23, t24, t25, t26, t27, t28, t29, t30, t31, t32, t33, t34, t35, t36, t37, t38, t39, t40, t41, t42, t43, t44, t45, t46, t47, t48, t49, t50, t51, t52, t53, t54, t55, t56, t57, t58, t59, t60, t61, t62, t63, t64, t65, t66, t67, t68, t69, t70, t71, t72, t73, t74, t75, t76, t77, t78, t79, t80, t81, t82, t83, t84, t85, t86, t87, t88, t89, t90, t91, t92, t93, t94, t95, t96, t97, t98, t99, t100, t101, t102, t103, t104, t105, t106, t107, t108, t109, t110, t111, t112, t113, t114, t115, t116, t117, t118, t119, t120, t121, t122, t123, t124, t125, t126, t127, t128, t129, t130, t131, t132, t133, t134, t135, t136, t137, t138, t139, t140, t141, t142, t143, t144, t145, t146, t147, t148, t149, t150, t151, t152, t153, t154, t155, t156, t157, t158, t159, t160, t161, t162, t163, t164, t165, t166, t167, t168], defers := Ls.map (fun D => { target := .collected D, args := #[] }) } V := by
  simp only [tail9, cR, Tryd.f4, Option.getD]
  have hat := hb.at hR.fx
  have cp := cell1 hat.1.p
  have cT := cell1 hat.2.1
  obtain ⟨r0, r1⟩ := cell2' hat.2.2.1
  have cw := cell1 hat.2.2.2.1
  obtain ⟨p0, p1, p2, p3⟩ := cell4' hat.1.t
  have hrs : Rs V (.slice va vn vc) L := rs_of_own hat.2.2.2.2.2.1 hb.tb.tab.ne
  have RA := refAssign_any hrs hb.tb.tab hb.tb.len hb.tb.lim1 th ft
  have HB := hide (And.intro hb (And.intro hp (And.intro hbr (And.intro hQ (And.intro hR hrs)))))
  clear hb ft hp hbr hQ hR hrs hat
  gi_wp2_with fail
  refine ⟨trivial, (callsIn_wide.2 RA).mono ?_⟩
  rintro e V2 ⟨u', rfl, hu', _, k2⟩
  obtain ⟨qr, qo, qc, equ, _⟩ := id hu'
  obtain ⟨qn, eqn⟩ : ∃ n, (stp L lim th).length = n := ⟨_, rfl⟩
  rw [eqn] at equ
  subst equ
  clear eqn
  have k3 : Kp Nu V2 (V2.alloc (.cells #[.int .i64 lim, .slice (some ⟨qr, qo, none⟩) qn qc] 29)) := Kp.alloc V2 _ Nu
  have y3 := heap_alloc_new V2 (.cells #[.int .i64 lim, .slice (some ⟨qr, qo, none⟩) qn qc] 29)
  have hat := HB.out.1.at (HB.out.2.2.2.2.1.fx.nu (k2.andNu k3))
  have cp2 := cell1 hat.1.p
  have cw2 := cell1 hat.2.2.2.1
  have cT2 := cell1 hat.2.1
  obtain ⟨r02, r12⟩ := cell2' hat.2.2.1
  have H3 := hide (And.intro hu' (And.intro k2 (And.intro k3 y3)))
  clear RA hu' k2 k3 hat cp cT r0 r1 cw p0 p1 p2 p3
  by_cases hs : stop < (N : Int)
  · have hge : ¬ (N : Int) ≤ stop := by omega
    have hdge : decide ((N : Int) ≤ stop) = false := by simpa using hge
    obtain ⟨q0, q1⟩ := cell2' y3
    have ec : curL stop N L (stp L lim th) 4 0 = stp L lim th := by
      unfold curL
      by_cases h0 : stop < 0
      · rw [if_pos h0]
      · rw [if_neg h0, if_neg (by decide), if_neg (by decide), if_pos hs]
    have ST : Hid (∀ v', Tb B V b lim v' (stp L lim th) → Calls Tryd.prog 12 #[.pointer (some ⟨b, 0, none⟩), .agg #[.int .i64 lim, .slice (some ⟨qr, qo, none⟩) qn qc]] (V2.alloc (.cells #[.int .i64 lim, .slice (some ⟨qr, qo, none⟩) qn qc] 29)) fun e w' => e = .returned (.bool true) ∧ Kp Nu (V2.alloc (.cells #[.int .i64 lim, .slice (some ⟨qr, qo, none⟩) qn qc] 29)) w') := by
      refine hide (fun v' ht => ?_)
      obtain ⟨hu', k2, k3, y3⟩ := H3.out
      have bel : Below w.heap.size w (V2.alloc (.cells #[.int .i64 lim, .slice (some ⟨qr, qo, none⟩) qn qc] 29)) := ((Kp.of_below HB.out.2.2.2.2.1.bel).andNu (k2.andNu k3)).toBelow
      exact stands_any (ht.nu (k2.andNu k3)) (fun W hW => HB.out.2.1 W (bel.trans (hW.mono bel.size))) _ (hu'.nu k3)
    obtain ⟨v', ht⟩ := HB.out.2.2.2.2.1.t
    rw [ec] at ht
    have ST2 := ST.out v' ht
    clear ST ec ht hs y3
    gi_wp2_with fail
    refine ⟨trivial, (callsIn_wide.2 ST2).mono ?_⟩
    rintro e V4 ⟨rfl, k4⟩
    have HF : Hid (Kp Nu V V4) := hide ((H3.out.2.1.andNu H3.out.2.2.1).andNu k4)
    have hr4 := (HB.out.1.at (HB.out.2.2.2.2.1.fx.nu HF.out)).1.r
    have cr4 := cell1 hr4
    have fr4 := free3 hr4 0
    have HR4 := hide hr4
    clear ST2 k4 hr4
    gi_wp2
    exact end_ret HB.out.2.2.2.1 HB.out.2.2.1 rfl HB.out.2.2.2.2.1.nd (fun D hD => ⟨(HB.out.2.2.2.2.1.d D hD).1, (HF.out.block _ (Array.getElem?_eq_some_iff.1 (HB.out.2.2.2.2.1.d D hD).2).1 (fun h => h)).trans (HB.out.2.2.2.2.1.d D hD).2⟩) HR4.out ((Kp.of_below HB.out.2.2.2.2.1.bel).andNu HF.out)
  · have hge : (N : Int) ≤ stop := by omega
    have hdge : decide ((N : Int) ≤ stop) = true := by simpa using hge
    have f30 := free3 y3 0
    have f31 := free3 y3 1
    obtain ⟨q0, q1⟩ := cell2' y3
    have k5 : Kp Nu V2 (V2.alloc (.cells #[.int .i64 lim, .slice va vn vc] 29)) := Kp.alloc V2 _ Nu
    have y5 := heap_alloc_new V2 (.cells #[.int .i64 lim, .slice va vn vc] 29)
    obtain ⟨o0, o1⟩ := cell2' y5
    have cT5 := cell1 (HB.out.1.at (HB.out.2.2.2.2.1.fx.nu (H3.out.2.1.andNu k5))).2.1
    have ec : curL stop N L (stp L lim th) 4 0 = L := by
      unfold curL
      rw [if_neg (by omega), if_neg (by decide), if_neg (by decide), if_neg hs]
    have ST2 : Calls Tryd.prog 12 #[.pointer (some ⟨b, 0, none⟩), .agg #[.int .i64 lim, .slice va vn vc]] (V2.alloc (.cells #[.int .i64 lim, .slice va vn vc] 29)) fun e w' => e = .returned (.bool true) ∧ Kp Nu (V2.alloc (.cells #[.int .i64 lim, .slice va vn vc] 29)) w' := by
      obtain ⟨v', ht⟩ := HB.out.2.2.2.2.1.t
      rw [ec] at ht
      obtain ⟨hu', k2, k3, y3⟩ := H3.out
      have bel : Below w.heap.size w (V2.alloc (.cells #[.int .i64 lim, .slice va vn vc] 29)) := ((Kp.of_below HB.out.2.2.2.2.1.bel).andNu (k2.andNu k5)).toBelow
      exact stands_any (ht.nu (k2.andNu k5)) (fun W hW => HB.out.2.1 W (bel.trans (hW.mono bel.size))) _ (HB.out.2.2.2.2.2.nu (k2.andNu k5))
    have HK5 := hide (H3.out.2.1.andNu k5)
    clear y3 y5 k5 ec hs
    gi_wp2_with fail
    refine ⟨trivial, (callsIn_wide.2 ST2).mono ?_⟩
    rintro e V4 ⟨rfl, k4⟩
    have HF : Hid (Kp Nu V V4) := hide (HK5.out.andNu k4)
    have hr4 := (HB.out.1.at (HB.out.2.2.2.2.1.fx.nu HF.out)).1.r
    have cr4 := cell1 hr4
    have fr4 := free3 hr4 0
    have HR4 := hide hr4
    clear ST2 k4 hr4
    gi_wp2
    exact end_ret HB.out.2.2.2.1 HB.out.2.2.1 rfl HB.out.2.2.2.2.1.nd (fun D hD => ⟨(HB.out.2.2.2.2.1.d D hD).1, (HF.out.block _ (Array.getElem?_eq_some_iff.1 (HB.out.2.2.2.2.1.d D hD).2).1 (fun h => h)).trans (HB.out.2.2.2.2.1.d D hD).2⟩) HR4.out ((Kp.of_below HB.out.2.2.2.2.1.bel).andNu HF.out)
end
end Go.Proofs.YtffcnonhhfhlhaaDoor.Rg
