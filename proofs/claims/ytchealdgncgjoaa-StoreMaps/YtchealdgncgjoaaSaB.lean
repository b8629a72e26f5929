import Derived.Test.YtchealdgncgjoaaSaA
namespace Go.Proofs.Ytchealdgncgjoaa.StI
open Go.RowKit Go.Proofs.Ytchealdgncgjoaa.St Go.Shelf Go.Sort Go.Proofs.Ytchealdgncgjoaa.It
attribute [local go_sem] Oper.semAt_some
set_option linter.unusedVariables false
def selD (l : Bool) (v d : Value) : Value := if l then v else d
theorem selD_t (v d : Value) : selD true v d = v := rfl
theorem selD_f (v d : Value) : selD false v d = d := rfl
/-- parts of a text: the left one, the right one, what is within, the first arm -/
def cL : Code → Code
  | .seq a _ => a
  | c => c
def cR : Code → Code
  | .seq _ b => b
  | c => c
def cI : Code → Code
  | .block _ c => c
  | .loop c => c
  | .rangeFunc _ _ _ c => c
  | c => c
def cT : Code → Code
  | .cond _ a _ => a
  | c => c
/-- StoreAll's loop over a round: what is done with a pair -/
def rd6 (f : Func) : Code := cI (cI (cR (cR (cR (cR (cI (cL (cR (cI (cI (cR (cL (cR (cR (cR (f.body.getD .skip))))))))))))))))
set_option maxRecDepth 100000 in
set_option maxHeartbeats 4000000 in
theorem rgn18 {l n : Nat} {V : World} {ba bM bR bi mb rb gk NN cap jj : Nat} {ni ah kx : Int} {K : Act → World → Prop} {Q : Exit → Act → World → Prop} {res : Value} {PP : World → Prop}
    (kM : V.cell? ⟨bM, 0, none⟩ = some (.pointer (some ⟨mb, 0, none⟩))) (kR : V.cell? ⟨bR, 0, none⟩ = some (.pointer (some ⟨rb, 0, none⟩))) (kK : V.cell? ⟨rb, 1, none⟩ = some (.slice (some ⟨gk, 0, none⟩) NN cap)) (kI : V.cell? ⟨bi, 0, none⟩ = some (.int .i64 ni)) (kA : V.cell? ⟨ba, 0, none⟩ = some (.int .i64 ah)) (kX : V.cell? ⟨gk, jj, none⟩ = some (.int .i64 kx))
    (h0 : 0 ≤ ni + ah) (h1 : ni + ah < (NN : Int)) (hj : (ni + ah).toNat = jj) (w1 : IntKind.i64.wrap (ni + ah) = ni + ah) (w2 : IntKind.i64.wrap (1000 + ni) = 1000 + ni) (hn : Hid (1 ≤ n))
    (CT : ∀ W, Kp Nu V W → Calls Try.prog 17 #[.pointer (some ⟨mb, 0, none⟩), .int .i64 kx, .int .i64 (1000 + ni)] W fun e w' => e = .returned res ∧ PP w')
    {t0 t1 t2 t3 t4 t5 t6 t8 t11 t12 t14 t15 t16 t17 t18 t19 t20 t21 t22 t23 t24 t25 t26 t27 t28 t29 t30 t31 t32 t33 t34 t35 t36 t37 t38 t39 t40 t41 t42 t43 t44 t45 t46 t47 t48 t49 t50 t51 t52 t53 t54 t55 t56 t57 t58 t59 t60 t61 t62 t63 t64 t65 t66 t67 t68 t69 t70 t71 t72 t73 t74 t75 t76 t77 t78 t79 t80 t81 t82 t83 t84 t85 t86 t87 t88 t89 t90 t91 t92 t93 t94 t95 t96 t97 t98 t99 t100 t101 t102 t103 t104 t105 t106 t107 t108 t109 t110 t111 t112 t113 t114 t115 t116 t117 t118 t119 t120 t121 t122 t123 t124 t125 t126 t127 t128 t129 t130 t131 t132 t133 t134 t135 t136 t137 t138 t139 t140 t141 : Value}
    (hK : ∀ V', PP V' → K { tmps := #[t0, t1, t2, t3, t4, t5, t6, .pointer (some ⟨ba, 0, none⟩), t8, .pointer (some ⟨bM, 0, none⟩), .pointer (some ⟨bR, 0, none⟩), t11, t12, .pointer (some ⟨bi, 0, none⟩), t14, t15, t16, t17, t18, t19, t20, t21, t22, t23, t24, t25, t26, t27, t28, t29, t30, t31, t32, t33, t34, t35, t36, t37, t38, t39, t40, t41, t42, t43, t44, t45, t46, t47, t48, t49, t50, t51, t52, t53, t54, t55, t56, t57, t58, t59, t60, t61, t62, t63, t64, t65, t66, t67, t68, t69, t70, t71, t72, t73, t74, t75, t76, t77, t78, t79, t80, t81, t82, t83, t84, t85, (.pointer (some ⟨mb, 0, none⟩)), (.pointer (some ⟨rb, 0, none⟩)), (.pointer (some ⟨rb, 0, none⟩)), (.pointer (some ⟨rb, 1, none⟩)), (.slice (some ⟨gk, 0, none⟩) NN cap), (.int .i64 ni), (.int .i64 ah), (.int .i64 (ni + ah)), (.pointer (some ⟨gk, jj, none⟩)), (.int .i64 kx), (.int .i64 ni), (.int .i64 (1000 + ni)), (res), t99, t100, t101, t102, t103, t104, t105, t106, t107, t108, t109, t110, t111, t112, t113, t114, t115, t116, t117, t118, t119, t120, t121, t122, t123, t124, t125, t126, t127, t128, t129, t130, t131, t132, t133, t134, t135, t136, t137, t138, t139, t140, t141], defers := [] } V') :
    (cL (cT (cR (cL (cR (cR (cR (cI (rd6 Try.f6))))))))).wpIn (Fence.wide.inRound l) n Try.prog (Exit.then K Q) { tmps := #[t0, t1, t2, t3, t4, t5, t6, .pointer (some ⟨ba, 0, none⟩), t8, .pointer (some ⟨bM, 0, none⟩), .pointer (some ⟨bR, 0, none⟩), t11, t12, .pointer (some ⟨bi, 0, none⟩), t14, t15, t16, t17, t18, t19, t20, t21, t22, t23, t24, t25, t26, t27, t28, t29, t30, t31, t32, t33, t34, t35, t36, t37, t38, t39, t40, t41, t42, t43, t44, t45, t46, t47, t48, t49, t50, t51, t52, t53, t54, t55, t56, t57, t58, t59, t60, t61, t62, t63, t64, t65, t66, t67, t68, t69, t70, t71, t72, t73, t74, t75, t76, t77, t78, t79, t80, t81, t82, t83, t84, t85, t86, t87, t88, t89, t90, t91, t92, t93, t94, t95, t96, t97, t98, t99, t100, t101, t102, t103, t104, t105, t106, t107, t108, t109, t110, t111, t112, t113, t114, t115, t116, t117, t118, t119, t120, t121, t122, t123, t124, t125, t126, t127, t128, t129, t130, t131, t132, t133, t134, t135, t136, t137, t138, t139, t140, t141], defers := [] } V := by
  have mixed : Try.prog.follows .mixedOrders = true := by kernel_rfl
  simp only [cL, cR, cI, cT, rd6, Try.f6, Option.getD]
  have dM : V.drew.cell? ⟨bM, 0, none⟩ = some (.pointer (some ⟨mb, 0, none⟩)) := kM
  have dR : V.drew.cell? ⟨bR, 0, none⟩ = some (.pointer (some ⟨rb, 0, none⟩)) := kR
  have dK : V.drew.cell? ⟨rb, 1, none⟩ = some (.slice (some ⟨gk, 0, none⟩) NN cap) := kK
  have dI : V.drew.cell? ⟨bi, 0, none⟩ = some (.int .i64 ni) := kI
  have dA : V.drew.cell? ⟨ba, 0, none⟩ = some (.int .i64 ah) := kA
  have dX : V.drew.cell? ⟨gk, jj, none⟩ = some (.int .i64 kx) := kX
  have CT' := CT V.drew ((Kp.refl Nu V).drew)
  clear kM kR kK kI kA kX CT
  refine wpIn_region_any (by assumption) ?_
  change wpAnyIn _ _ _ _ _ _ _ _ _ (World.drew _)
  refine Ord.wpAnyIn_inv (Inv := fun listed a w' => ∃ (l0 l1 l2 l3 l4 l5 l6 l7 l8 l9 l10 l11 l12 : Bool), listed = #[l0, l1, l2, l3, l4, l5, l6, l7, l8, l9, l10, l11, l12] ∧ a = { tmps := #[t0, t1, t2, t3, t4, t5, t6, .pointer (some ⟨ba, 0, none⟩), t8, .pointer (some ⟨bM, 0, none⟩), .pointer (some ⟨bR, 0, none⟩), t11, t12, .pointer (some ⟨bi, 0, none⟩), t14, t15, t16, t17, t18, t19, t20, t21, t22, t23, t24, t25, t26, t27, t28, t29, t30, t31, t32, t33, t34, t35, t36, t37, t38, t39, t40, t41, t42, t43, t44, t45, t46, t47, t48, t49, t50, t51, t52, t53, t54, t55, t56, t57, t58, t59, t60, t61, t62, t63, t64, t65, t66, t67, t68, t69, t70, t71, t72, t73, t74, t75, t76, t77, t78, t79, t80, t81, t82, t83, t84, t85, selD l0 (.pointer (some ⟨mb, 0, none⟩)) t86, selD l1 (.pointer (some ⟨rb, 0, none⟩)) t87, selD l2 (.pointer (some ⟨rb, 0, none⟩)) t88, selD l3 (.pointer (some ⟨rb, 1, none⟩)) t89, selD l4 (.slice (some ⟨gk, 0, none⟩) NN cap) t90, selD l5 (.int .i64 ni) t91, selD l6 (.int .i64 ah) t92, selD l7 (.int .i64 (ni + ah)) t93, selD l8 (.pointer (some ⟨gk, jj, none⟩)) t94, selD l9 (.int .i64 kx) t95, selD l10 (.int .i64 ni) t96, selD l11 (.int .i64 (1000 + ni)) t97, selD l12 (res) t98, t99, t100, t101, t102, t103, t104, t105, t106, t107, t108, t109, t110, t111, t112, t113, t114, t115, t116, t117, t118, t119, t120, t121, t122, t123, t124, t125, t126, t127, t128, t129, t130, t131, t132, t133, t134, t135, t136, t137, t138, t139, t140, t141], defers := [] } ∧ (l2 = true → l1 = true) ∧ (l3 = true → l2 = true) ∧ (l4 = true → l3 = true) ∧ (l7 = true → l5 = true ∧ l6 = true) ∧ (l8 = true → l4 = true ∧ l7 = true) ∧ (l9 = true → l8 = true) ∧ (l11 = true → l10 = true) ∧ (l12 = true → l0 = true ∧ l9 = true ∧ l11 = true) ∧ (l12 = false → w' = V.drew) ∧ (l12 = true → Hid (PP w'))) ?step ?fin _ _ _ _ ?start ?count
  case start => exact ⟨false, false, false, false, false, false, false, false, false, false, false, false, false, rfl, rfl, (fun h => by cases h), (fun h => by cases h), (fun h => by cases h), (fun h => by cases h), (fun h => by cases h), (fun h => by cases h), (fun h => by cases h), (fun h => by cases h), fun _ => rfl, (fun h => by cases h)⟩
  case count => decide
  case step =>
    rintro listed a w' i ⟨l0, l1, l2, l3, l4, l5, l6, l7, l8, l9, l10, l11, l12, rfl, rfl, c2, c3, c4, c7, c8, c9, c11, c12, hw0, hw1⟩ hi'
    obtain ⟨hlt', hb⟩ := Ord.mem_ready hi'
    rcases Ord.lt_cases13 hlt' with rfl | rfl | rfl | rfl | rfl | rfl | rfl | rfl | rfl | rfl | rfl | rfl | rfl
    all_goals simp [Region.binds] at hb
    · have q0 := hb
      have f12 : l12 = false := by cases hh : l12 with | false => rfl | true => exact absurd ((c12 hh).1) (by rw [q0]; simp)
      obtain rfl := hw0 f12
      clear hw0 hw1 hi' hlt'
      subst q0 f12
      have H2c := hide c2; clear c2
      have H3c := hide c3; clear c3
      have H4c := hide c4; clear c4
      have H7c := hide c7; clear c7
      have H8c := hide c8; clear c8
      have H9c := hide c9; clear c9
      have H11c := hide c11; clear c11
      clear c12
      refine wpOpIn_step rfl (fun K hK => ?_)
      simp only [selD_f]
      go_simp
      refine hK _ _ ?_
      exact ⟨true, _, _, _, _, _, _, _, _, _, _, _, false, rfl, rfl, H2c.out, H3c.out, H4c.out, H7c.out, H8c.out, H9c.out, H11c.out, (fun h => by cases h), (fun _ => rfl), (fun h => by cases h)⟩
    · have q1 := hb
      have f2 : l2 = false := by cases hh : l2 with | false => rfl | true => exact absurd ((c2 hh)) (by rw [q1]; simp)
      have f3 : l3 = false := by cases hh : l3 with | false => rfl | true => exact absurd ((c3 hh)) (by rw [f2]; simp)
      have f4 : l4 = false := by cases hh : l4 with | false => rfl | true => exact absurd ((c4 hh)) (by rw [f3]; simp)
      have f8 : l8 = false := by cases hh : l8 with | false => rfl | true => exact absurd ((c8 hh).1) (by rw [f4]; simp)
      have f9 : l9 = false := by cases hh : l9 with | false => rfl | true => exact absurd ((c9 hh)) (by rw [f8]; simp)
      have f12 : l12 = false := by cases hh : l12 with | false => rfl | true => exact absurd ((c12 hh).2.1) (by rw [f9]; simp)
      obtain rfl := hw0 f12
      clear hw0 hw1 hi' hlt'
      subst q1 f2 f3 f4 f8 f9 f12
      clear c2
      clear c3
      clear c4
      have H7c := hide c7; clear c7
      clear c8
      clear c9
      have H11c := hide c11; clear c11
      clear c12
      refine wpOpIn_step rfl (fun K hK => ?_)
      simp only [selD_f]
      go_simp
      refine hK _ _ ?_
      exact ⟨_, true, false, false, false, _, _, _, false, false, _, _, false, rfl, rfl, (fun h => by cases h), (fun h => by cases h), (fun h => by cases h), H7c.out, (fun h => by cases h), (fun h => by cases h), H11c.out, (fun h => by cases h), (fun _ => rfl), (fun h => by cases h)⟩
    · obtain ⟨q2, e1⟩ := hb
      have f3 : l3 = false := by cases hh : l3 with | false => rfl | true => exact absurd ((c3 hh)) (by rw [q2]; simp)
      have f4 : l4 = false := by cases hh : l4 with | false => rfl | true => exact absurd ((c4 hh)) (by rw [f3]; simp)
      have f8 : l8 = false := by cases hh : l8 with | false => rfl | true => exact absurd ((c8 hh).1) (by rw [f4]; simp)
      have f9 : l9 = false := by cases hh : l9 with | false => rfl | true => exact absurd ((c9 hh)) (by rw [f8]; simp)
      have f12 : l12 = false := by cases hh : l12 with | false => rfl | true => exact absurd ((c12 hh).2.1) (by rw [f9]; simp)
      obtain rfl := hw0 f12
      clear hw0 hw1 hi' hlt'
      subst q2 e1 f3 f4 f8 f9 f12
      clear c2
      clear c3
      clear c4
      have H7c := hide c7; clear c7
      clear c8
      clear c9
      have H11c := hide c11; clear c11
      clear c12
      refine wpOpIn_step rfl (fun K hK => ?_)
      simp only [selD_t, selD_f]
      go_simp
      refine hK _ _ ?_
      exact ⟨_, true, true, false, false, _, _, _, false, false, _, _, false, rfl, rfl, fun _ => rfl, (fun h => by cases h), (fun h => by cases h), H7c.out, (fun h => by cases h), (fun h => by cases h), H11c.out, (fun h => by cases h), (fun _ => rfl), (fun h => by cases h)⟩
    · obtain ⟨q3, e2⟩ := hb
      obtain e1 := c2 e2
      have f4 : l4 = false := by cases hh : l4 with | false => rfl | true => exact absurd ((c4 hh)) (by rw [q3]; simp)
      have f8 : l8 = false := by cases hh : l8 with | false => rfl | true => exact absurd ((c8 hh).1) (by rw [f4]; simp)
      have f9 : l9 = false := by cases hh : l9 with | false => rfl | true => exact absurd ((c9 hh)) (by rw [f8]; simp)
      have f12 : l12 = false := by cases hh : l12 with | false => rfl | true => exact absurd ((c12 hh).2.1) (by rw [f9]; simp)
      obtain rfl := hw0 f12
      clear hw0 hw1 hi' hlt'
      subst q3 e1 e2 f4 f8 f9 f12
      clear c2
      clear c3
      clear c4
      have H7c := hide c7; clear c7
      clear c8
      clear c9
      have H11c := hide c11; clear c11
      clear c12
      refine wpOpIn_step rfl (fun K hK => ?_)
      simp only [selD_t, selD_f]
      go_simp
      refine hK _ _ ?_
      exact ⟨_, true, true, true, false, _, _, _, false, false, _, _, false, rfl, rfl, fun _ => rfl, fun _ => rfl, (fun h => by cases h), H7c.out, (fun h => by cases h), (fun h => by cases h), H11c.out, (fun h => by cases h), (fun _ => rfl), (fun h => by cases h)⟩
    · obtain ⟨q4, e3⟩ := hb
      obtain e2 := c3 e3
      obtain e1 := c2 e2
      have f8 : l8 = false := by cases hh : l8 with | false => rfl | true => exact absurd ((c8 hh).1) (by rw [q4]; simp)
      have f9 : l9 = false := by cases hh : l9 with | false => rfl | true => exact absurd ((c9 hh)) (by rw [f8]; simp)
      have f12 : l12 = false := by cases hh : l12 with | false => rfl | true => exact absurd ((c12 hh).2.1) (by rw [f9]; simp)
      obtain rfl := hw0 f12
      clear hw0 hw1 hi' hlt'
      subst q4 e1 e2 e3 f8 f9 f12
      clear c2
      clear c3
      clear c4
      have H7c := hide c7; clear c7
      clear c8
      clear c9
      have H11c := hide c11; clear c11
      clear c12
      refine wpOpIn_step rfl (fun K hK => ?_)
      simp only [selD_t, selD_f]
      go_simp
      refine hK _ _ ?_
      exact ⟨_, true, true, true, true, _, _, _, false, false, _, _, false, rfl, rfl, fun _ => rfl, fun _ => rfl, fun _ => rfl, H7c.out, (fun h => by cases h), (fun h => by cases h), H11c.out, (fun h => by cases h), (fun _ => rfl), (fun h => by cases h)⟩
    · have q5 := hb
      have f7 : l7 = false := by cases hh : l7 with | false => rfl | true => exact absurd ((c7 hh).1) (by rw [q5]; simp)
      have f8 : l8 = false := by cases hh : l8 with | false => rfl | true => exact absurd ((c8 hh).2) (by rw [f7]; simp)
      have f9 : l9 = false := by cases hh : l9 with | false => rfl | true => exact absurd ((c9 hh)) (by rw [f8]; simp)
      have f12 : l12 = false := by cases hh : l12 with | false => rfl | true => exact absurd ((c12 hh).2.1) (by rw [f9]; simp)
      obtain rfl := hw0 f12
      clear hw0 hw1 hi' hlt'
      subst q5 f7 f8 f9 f12
      have H2c := hide c2; clear c2
      have H3c := hide c3; clear c3
      have H4c := hide c4; clear c4
      clear c7
      clear c8
      clear c9
      have H11c := hide c11; clear c11
      clear c12
      refine wpOpIn_step rfl (fun K hK => ?_)
      simp only [selD_f]
      go_simp
      refine hK _ _ ?_
      exact ⟨_, _, _, _, _, true, _, false, false, false, _, _, false, rfl, rfl, H2c.out, H3c.out, H4c.out, (fun h => by cases h), (fun h => by cases h), (fun h => by cases h), H11c.out, (fun h => by cases h), (fun _ => rfl), (fun h => by cases h)⟩
    · have q6 := hb
      have f7 : l7 = false := by cases hh : l7 with | false => rfl | true => exact absurd ((c7 hh).2) (by rw [q6]; simp)
      have f8 : l8 = false := by cases hh : l8 with | false => rfl | true => exact absurd ((c8 hh).2) (by rw [f7]; simp)
      have f9 : l9 = false := by cases hh : l9 with | false => rfl | true => exact absurd ((c9 hh)) (by rw [f8]; simp)
      have f12 : l12 = false := by cases hh : l12 with | false => rfl | true => exact absurd ((c12 hh).2.1) (by rw [f9]; simp)
      obtain rfl := hw0 f12
      clear hw0 hw1 hi' hlt'
      subst q6 f7 f8 f9 f12
      have H2c := hide c2; clear c2
      have H3c := hide c3; clear c3
      have H4c := hide c4; clear c4
      clear c7
      clear c8
      clear c9
      have H11c := hide c11; clear c11
      clear c12
      refine wpOpIn_step rfl (fun K hK => ?_)
      simp only [selD_f]
      go_simp
      refine hK _ _ ?_
      exact ⟨_, _, _, _, _, _, true, false, false, false, _, _, false, rfl, rfl, H2c.out, H3c.out, H4c.out, (fun h => by cases h), (fun h => by cases h), (fun h => by cases h), H11c.out, (fun h => by cases h), (fun _ => rfl), (fun h => by cases h)⟩
    · obtain ⟨q7, e5, e6⟩ := hb
      have f8 : l8 = false := by cases hh : l8 with | false => rfl | true => exact absurd ((c8 hh).2) (by rw [q7]; simp)
      have f9 : l9 = false := by cases hh : l9 with | false => rfl | true => exact absurd ((c9 hh)) (by rw [f8]; simp)
      have f12 : l12 = false := by cases hh : l12 with | false => rfl | true => exact absurd ((c12 hh).2.1) (by rw [f9]; simp)
      obtain rfl := hw0 f12
      clear hw0 hw1 hi' hlt'
      subst q7 e5 e6 f8 f9 f12
      have H2c := hide c2; clear c2
      have H3c := hide c3; clear c3
      have H4c := hide c4; clear c4
      clear c7
      clear c8
      clear c9
      have H11c := hide c11; clear c11
      clear c12
      refine wpOpIn_step rfl (fun K hK => ?_)
      simp only [selD_t, selD_f]
      go_simp
      try rw [w1]
      refine hK _ _ ?_
      exact ⟨_, _, _, _, _, true, true, true, false, false, _, _, false, rfl, rfl, H2c.out, H3c.out, H4c.out, fun _ => ⟨rfl, rfl⟩, (fun h => by cases h), (fun h => by cases h), H11c.out, (fun h => by cases h), (fun _ => rfl), (fun h => by cases h)⟩
    · obtain ⟨q8, e4, e7⟩ := hb
      obtain ⟨e5, e6⟩ := c7 e7
      obtain e3 := c4 e4
      obtain e2 := c3 e3
      obtain e1 := c2 e2
      have f9 : l9 = false := by cases hh : l9 with | false => rfl | true => exact absurd ((c9 hh)) (by rw [q8]; simp)
      have f12 : l12 = false := by cases hh : l12 with | false => rfl | true => exact absurd ((c12 hh).2.1) (by rw [f9]; simp)
      obtain rfl := hw0 f12
      clear hw0 hw1 hi' hlt'
      subst q8 e1 e2 e3 e4 e5 e6 e7 f9 f12
      clear c2
      clear c3
      clear c4
      clear c7
      clear c8
      clear c9
      have H11c := hide c11; clear c11
      clear c12
      refine wpOpIn_step rfl (fun K hK => ?_)
      simp only [selD_t, selD_f]
      go_simp
      refine hK _ _ ?_
      exact ⟨_, true, true, true, true, true, true, true, true, false, _, _, false, rfl, rfl, fun _ => rfl, fun _ => rfl, fun _ => rfl, fun _ => ⟨rfl, rfl⟩, fun _ => ⟨rfl, rfl⟩, (fun h => by cases h), H11c.out, (fun h => by cases h), (fun _ => rfl), (fun h => by cases h)⟩
    · obtain ⟨q9, e8⟩ := hb
      obtain ⟨e4, e7⟩ := c8 e8
      obtain ⟨e5, e6⟩ := c7 e7
      obtain e3 := c4 e4
      obtain e2 := c3 e3
      obtain e1 := c2 e2
      have f12 : l12 = false := by cases hh : l12 with | false => rfl | true => exact absurd ((c12 hh).2.1) (by rw [q9]; simp)
      obtain rfl := hw0 f12
      clear hw0 hw1 hi' hlt'
      subst q9 e1 e2 e3 e4 e5 e6 e7 e8 f12
      clear c2
      clear c3
      clear c4
      clear c7
      clear c8
      clear c9
      have H11c := hide c11; clear c11
      clear c12
      refine wpOpIn_step rfl (fun K hK => ?_)
      simp only [selD_t, selD_f]
      go_simp
      refine hK _ _ ?_
      exact ⟨_, true, true, true, true, true, true, true, true, true, _, _, false, rfl, rfl, fun _ => rfl, fun _ => rfl, fun _ => rfl, fun _ => ⟨rfl, rfl⟩, fun _ => ⟨rfl, rfl⟩, fun _ => rfl, H11c.out, (fun h => by cases h), (fun _ => rfl), (fun h => by cases h)⟩
    · have q10 := hb
      have f11 : l11 = false := by cases hh : l11 with | false => rfl | true => exact absurd ((c11 hh)) (by rw [q10]; simp)
      have f12 : l12 = false := by cases hh : l12 with | false => rfl | true => exact absurd ((c12 hh).2.2) (by rw [f11]; simp)
      obtain rfl := hw0 f12
      clear hw0 hw1 hi' hlt'
      subst q10 f11 f12
      have H2c := hide c2; clear c2
      have H3c := hide c3; clear c3
      have H4c := hide c4; clear c4
      have H7c := hide c7; clear c7
      have H8c := hide c8; clear c8
      have H9c := hide c9; clear c9
      clear c11
      clear c12
      refine wpOpIn_step rfl (fun K hK => ?_)
      simp only [selD_f]
      go_simp
      refine hK _ _ ?_
      exact ⟨_, _, _, _, _, _, _, _, _, _, true, false, false, rfl, rfl, H2c.out, H3c.out, H4c.out, H7c.out, H8c.out, H9c.out, (fun h => by cases h), (fun h => by cases h), (fun _ => rfl), (fun h => by cases h)⟩
    · obtain ⟨q11, e10⟩ := hb
      have f12 : l12 = false := by cases hh : l12 with | false => rfl | true => exact absurd ((c12 hh).2.2) (by rw [q11]; simp)
      obtain rfl := hw0 f12
      clear hw0 hw1 hi' hlt'
      subst q11 e10 f12
      have H2c := hide c2; clear c2
      have H3c := hide c3; clear c3
      have H4c := hide c4; clear c4
      have H7c := hide c7; clear c7
      have H8c := hide c8; clear c8
      have H9c := hide c9; clear c9
      clear c11
      clear c12
      refine wpOpIn_step rfl (fun K hK => ?_)
      simp only [selD_t, selD_f]
      go_simp
      try rw [w2]
      refine hK _ _ ?_
      exact ⟨_, _, _, _, _, _, _, _, _, _, true, true, false, rfl, rfl, H2c.out, H3c.out, H4c.out, H7c.out, H8c.out, H9c.out, fun _ => rfl, (fun h => by cases h), (fun _ => rfl), (fun h => by cases h)⟩
    · obtain ⟨q12, e0, e9, e11⟩ := hb
      obtain e10 := c11 e11
      obtain e8 := c9 e9
      obtain ⟨e4, e7⟩ := c8 e8
      obtain ⟨e5, e6⟩ := c7 e7
      obtain e3 := c4 e4
      obtain e2 := c3 e3
      obtain e1 := c2 e2
      obtain rfl := hw0 q12
      clear hw0 hw1 hi' hlt'
      subst q12 e0 e1 e2 e3 e4 e5 e6 e7 e8 e9 e10 e11
      clear c2
      clear c3
      clear c4
      clear c7
      clear c8
      clear c9
      clear c11
      clear c12
      refine wpOpIn_step rfl (fun K hK => ?_)
      simp only [selD_t]
      go_simp
      refine ⟨trivial, fun _ => hn.out, (CallsIn.inRound l (callsIn_wide.2 CT')).mono ?_⟩
      rintro e W1 ⟨rfl, S2⟩
      refine hK _ _ ?_
      exact ⟨true, true, true, true, true, true, true, true, true, true, true, true, true, rfl, rfl, fun _ => rfl, fun _ => rfl, fun _ => rfl, fun _ => ⟨rfl, rfl⟩, fun _ => ⟨rfl, rfl⟩, fun _ => rfl, fun _ => rfl, fun _ => ⟨rfl, rfl, rfl⟩, (fun h => by cases h), fun _ => S2⟩
  case fin =>
    rintro listed a w' ⟨l0, l1, l2, l3, l4, l5, l6, l7, l8, l9, l10, l11, l12, rfl, rfl, c2, c3, c4, c7, c8, c9, c11, c12, hw0, hw1⟩ hi'
    have hx := fun i => Ord.not_ready hi' (i := i)
    have g0 : l0 = true := by have g := hx 0 (by simp); simp [Region.binds] at g; exact g
    have g1 : l1 = true := by have g := hx 1 (by simp); simp [Region.binds] at g; exact g
    have g2 : l2 = true := by have g := hx 2 (by simp); simp [Region.binds] at g; cases hh : l2 with | true => rfl | false => exact absurd (g hh ) (by rw [g1]; simp)
    have g3 : l3 = true := by have g := hx 3 (by simp); simp [Region.binds] at g; cases hh : l3 with | true => rfl | false => exact absurd (g hh ) (by rw [g2]; simp)
    have g4 : l4 = true := by have g := hx 4 (by simp); simp [Region.binds] at g; cases hh : l4 with | true => rfl | false => exact absurd (g hh ) (by rw [g3]; simp)
    have g5 : l5 = true := by have g := hx 5 (by simp); simp [Region.binds] at g; exact g
    have g6 : l6 = true := by have g := hx 6 (by simp); simp [Region.binds] at g; exact g
    have g7 : l7 = true := by have g := hx 7 (by simp); simp [Region.binds] at g; cases hh : l7 with | true => rfl | false => exact absurd (g hh g5) (by rw [g6]; simp)
    have g8 : l8 = true := by have g := hx 8 (by simp); simp [Region.binds] at g; cases hh : l8 with | true => rfl | false => exact absurd (g hh g4) (by rw [g7]; simp)
    have g9 : l9 = true := by have g := hx 9 (by simp); simp [Region.binds] at g; cases hh : l9 with | true => rfl | false => exact absurd (g hh ) (by rw [g8]; simp)
    have g10 : l10 = true := by have g := hx 10 (by simp); simp [Region.binds] at g; exact g
    have g11 : l11 = true := by have g := hx 11 (by simp); simp [Region.binds] at g; cases hh : l11 with | true => rfl | false => exact absurd (g hh ) (by rw [g10]; simp)
    have g12 : l12 = true := by have g := hx 12 (by simp); simp [Region.binds] at g; cases hh : l12 with | true => rfl | false => exact absurd (g hh g0 g9) (by rw [g11]; simp)
    subst g0 g1 g2 g3 g4 g5 g6 g7 g8 g9 g10 g11 g12
    have hO := hw1 rfl
    clear c2 c3 c4 c7 c8 c9 c11 c12 hi' hx hw0 hw1
    simp only [selD_t]
    exact hK _ hO.out
set_option maxRecDepth 100000 in
set_option maxHeartbeats 4000000 in
theorem rgn19 {l n : Nat} {V : World} {ba bM bR bi mb rb gk NN cap jj : Nat} {ni ah kx : Int} {K : Act → World → Prop} {Q : Exit → Act → World → Prop} {res : Value} {PP : World → Prop}
    (kM : V.cell? ⟨bM, 0, none⟩ = some (.pointer (some ⟨mb, 0, none⟩))) (kR : V.cell? ⟨bR, 0, none⟩ = some (.pointer (some ⟨rb, 0, none⟩))) (kK : V.cell? ⟨rb, 1, none⟩ = some (.slice (some ⟨gk, 0, none⟩) NN cap)) (kI : V.cell? ⟨bi, 0, none⟩ = some (.int .i64 ni)) (kA : V.cell? ⟨ba, 0, none⟩ = some (.int .i64 ah)) (kX : V.cell? ⟨gk, jj, none⟩ = some (.int .i64 kx))
    (h0 : 0 ≤ ni + ah) (h1 : ni + ah < (NN : Int)) (hj : (ni + ah).toNat = jj) (w1 : IntKind.i64.wrap (ni + ah) = ni + ah) (w2 : IntKind.i64.wrap (1000 + ni) = 1000 + ni) (hn : Hid (1 ≤ n))
    (CT : ∀ W, Kp Nu V W → Calls Try.prog 36 #[.pointer (some ⟨rb, 0, none⟩), .int .i64 kx, .int .i64 (1000 + ni)] W fun e w' => e = .returned res ∧ PP w')
    {t0 t1 t2 t3 t4 t5 t6 t8 t11 t12 t14 t15 t16 t17 t18 t19 t20 t21 t22 t23 t24 t25 t26 t27 t28 t29 t30 t31 t32 t33 t34 t35 t36 t37 t38 t39 t40 t41 t42 t43 t44 t45 t46 t47 t48 t49 t50 t51 t52 t53 t54 t55 t56 t57 t58 t59 t60 t61 t62 t63 t64 t65 t66 t67 t68 t69 t70 t71 t72 t73 t74 t75 t76 t77 t78 t79 t80 t81 t82 t83 t84 t85 t86 t87 t88 t89 t90 t91 t92 t93 t94 t95 t96 t97 t98 t99 t100 t101 t102 t103 t104 t105 t106 t107 t108 t109 t110 t111 t112 t113 t114 t115 t116 t117 t118 t119 t120 t121 t122 t123 t124 t125 t126 t127 t128 t129 t130 t131 t132 t133 t134 t135 t136 t137 t138 t139 t140 t141 : Value}
    (hK : ∀ V', PP V' → K { tmps := #[t0, t1, t2, t3, t4, t5, t6, .pointer (some ⟨ba, 0, none⟩), t8, .pointer (some ⟨bM, 0, none⟩), .pointer (some ⟨bR, 0, none⟩), t11, t12, .pointer (some ⟨bi, 0, none⟩), t14, t15, t16, t17, t18, t19, t20, t21, t22, t23, t24, t25, t26, t27, t28, t29, t30, t31, t32, t33, t34, t35, t36, t37, t38, t39, t40, t41, t42, t43, t44, t45, t46, t47, t48, t49, t50, t51, t52, t53, t54, t55, t56, t57, t58, t59, t60, t61, t62, t63, t64, t65, t66, t67, t68, t69, t70, t71, t72, t73, t74, t75, t76, t77, t78, t79, t80, t81, t82, t83, t84, t85, t86, t87, t88, t89, t90, t91, t92, t93, t94, t95, t96, t97, t98, (.pointer (some ⟨rb, 0, none⟩)), (.pointer (some ⟨rb, 0, none⟩)), (.pointer (some ⟨rb, 0, none⟩)), (.pointer (some ⟨rb, 1, none⟩)), (.slice (some ⟨gk, 0, none⟩) NN cap), (.int .i64 ni), (.int .i64 ah), (.int .i64 (ni + ah)), (.pointer (some ⟨gk, jj, none⟩)), (.int .i64 kx), (.int .i64 ni), (.int .i64 (1000 + ni)), (res), t112, t113, t114, t115, t116, t117, t118, t119, t120, t121, t122, t123, t124, t125, t126, t127, t128, t129, t130, t131, t132, t133, t134, t135, t136, t137, t138, t139, t140, t141], defers := [] } V') :
    (cR (cT (cR (cL (cR (cR (cR (cI (rd6 Try.f6))))))))).wpIn (Fence.wide.inRound l) n Try.prog (Exit.then K Q) { tmps := #[t0, t1, t2, t3, t4, t5, t6, .pointer (some ⟨ba, 0, none⟩), t8, .pointer (some ⟨bM, 0, none⟩), .pointer (some ⟨bR, 0, none⟩), t11, t12, .pointer (some ⟨bi, 0, none⟩), t14, t15, t16, t17, t18, t19, t20, t21, t22, t23, t24, t25, t26, t27, t28, t29, t30, t31, t32, t33, t34, t35, t36, t37, t38, t39, t40, t41, t42, t43, t44, t45, t46, t47, t48, t49, t50, t51, t52, t53, t54, t55, t56, t57, t58, t59, t60, t61, t62, t63, t64, t65, t66, t67, t68, t69, t70, t71, t72, t73, t74, t75, t76, t77, t78, t79, t80, t81, t82, t83, t84, t85, t86, t87, t88, t89, t90, t91, t92, t93, t94, t95, t96, t97, t98, t99, t100, t101, t102, t103, t104, t105, t106, t107, t108, t109, t110, t111, t112, t113, t114, t115, t116, t117, t118, t119, t120, t121, t122, t123, t124, t125, t126, t127, t128, t129, t130, t131, t132, t133, t134, t135, t136, t137, t138, t139, t140, t141], defers := [] } V := by
  have mixed : Try.prog.follows .mixedOrders = true := by kernel_rfl
  simp only [cL, cR, cI, cT, rd6, Try.f6, Option.getD]
  have dM : V.drew.cell? ⟨bM, 0, none⟩ = some (.pointer (some ⟨mb, 0, none⟩)) := kM
  have dR : V.drew.cell? ⟨bR, 0, none⟩ = some (.pointer (some ⟨rb, 0, none⟩)) := kR
  have dK : V.drew.cell? ⟨rb, 1, none⟩ = some (.slice (some ⟨gk, 0, none⟩) NN cap) := kK
  have dI : V.drew.cell? ⟨bi, 0, none⟩ = some (.int .i64 ni) := kI
  have dA : V.drew.cell? ⟨ba, 0, none⟩ = some (.int .i64 ah) := kA
  have dX : V.drew.cell? ⟨gk, jj, none⟩ = some (.int .i64 kx) := kX
  have CT' := CT V.drew ((Kp.refl Nu V).drew)
  clear kM kR kK kI kA kX CT
  refine wpIn_region_any (by assumption) ?_
  change wpAnyIn _ _ _ _ _ _ _ _ _ (World.drew _)
  refine Ord.wpAnyIn_inv (Inv := fun listed a w' => ∃ (l0 l1 l2 l3 l4 l5 l6 l7 l8 l9 l10 l11 l12 : Bool), listed = #[l0, l1, l2, l3, l4, l5, l6, l7, l8, l9, l10, l11, l12] ∧ a = { tmps := #[t0, t1, t2, t3, t4, t5, t6, .pointer (some ⟨ba, 0, none⟩), t8, .pointer (some ⟨bM, 0, none⟩), .pointer (some ⟨bR, 0, none⟩), t11, t12, .pointer (some ⟨bi, 0, none⟩), t14, t15, t16, t17, t18, t19, t20, t21, t22, t23, t24, t25, t26, t27, t28, t29, t30, t31, t32, t33, t34, t35, t36, t37, t38, t39, t40, t41, t42, t43, t44, t45, t46, t47, t48, t49, t50, t51, t52, t53, t54, t55, t56, t57, t58, t59, t60, t61, t62, t63, t64, t65, t66, t67, t68, t69, t70, t71, t72, t73, t74, t75, t76, t77, t78, t79, t80, t81, t82, t83, t84, t85, t86, t87, t88, t89, t90, t91, t92, t93, t94, t95, t96, t97, t98, selD l0 (.pointer (some ⟨rb, 0, none⟩)) t99, selD l1 (.pointer (some ⟨rb, 0, none⟩)) t100, selD l2 (.pointer (some ⟨rb, 0, none⟩)) t101, selD l3 (.pointer (some ⟨rb, 1, none⟩)) t102, selD l4 (.slice (some ⟨gk, 0, none⟩) NN cap) t103, selD l5 (.int .i64 ni) t104, selD l6 (.int .i64 ah) t105, selD l7 (.int .i64 (ni + ah)) t106, selD l8 (.pointer (some ⟨gk, jj, none⟩)) t107, selD l9 (.int .i64 kx) t108, selD l10 (.int .i64 ni) t109, selD l11 (.int .i64 (1000 + ni)) t110, selD l12 (res) t111, t112, t113, t114, t115, t116, t117, t118, t119, t120, t121, t122, t123, t124, t125, t126, t127, t128, t129, t130, t131, t132, t133, t134, t135, t136, t137, t138, t139, t140, t141], defers := [] } ∧ (l2 = true → l1 = true) ∧ (l3 = true → l2 = true) ∧ (l4 = true → l3 = true) ∧ (l7 = true → l5 = true ∧ l6 = true) ∧ (l8 = true → l4 = true ∧ l7 = true) ∧ (l9 = true → l8 = true) ∧ (l11 = true → l10 = true) ∧ (l12 = true → l0 = true ∧ l9 = true ∧ l11 = true) ∧ (l12 = false → w' = V.drew) ∧ (l12 = true → Hid (PP w'))) ?step ?fin _ _ _ _ ?start ?count
  case start => exact ⟨false, false, false, false, false, false, false, false, false, false, false, false, false, rfl, rfl, (fun h => by cases h), (fun h => by cases h), (fun h => by cases h), (fun h => by cases h), (fun h => by cases h), (fun h => by cases h), (fun h => by cases h), (fun h => by cases h), fun _ => rfl, (fun h => by cases h)⟩
  case count => decide
  case step =>
    rintro listed a w' i ⟨l0, l1, l2, l3, l4, l5, l6, l7, l8, l9, l10, l11, l12, rfl, rfl, c2, c3, c4, c7, c8, c9, c11, c12, hw0, hw1⟩ hi'
    obtain ⟨hlt', hb⟩ := Ord.mem_ready hi'
    rcases Ord.lt_cases13 hlt' with rfl | rfl | rfl | rfl | rfl | rfl | rfl | rfl | rfl | rfl | rfl | rfl | rfl
    all_goals simp [Region.binds] at hb
    · have q0 := hb
      have f12 : l12 = false := by cases hh : l12 with | false => rfl | true => exact absurd ((c12 hh).1) (by rw [q0]; simp)
      obtain rfl := hw0 f12
      clear hw0 hw1 hi' hlt'
      subst q0 f12
      have H2c := hide c2; clear c2
      have H3c := hide c3; clear c3
      have H4c := hide c4; clear c4
      have H7c := hide c7; clear c7
      have H8c := hide c8; clear c8
      have H9c := hide c9; clear c9
      have H11c := hide c11; clear c11
      clear c12
      refine wpOpIn_step rfl (fun K hK => ?_)
      simp only [selD_f]
      go_simp
      refine hK _ _ ?_
      exact ⟨true, _, _, _, _, _, _, _, _, _, _, _, false, rfl, rfl, H2c.out, H3c.out, H4c.out, H7c.out, H8c.out, H9c.out, H11c.out, (fun h => by cases h), (fun _ => rfl), (fun h => by cases h)⟩
    · have q1 := hb
      have f2 : l2 = false := by cases hh : l2 with | false => rfl | true => exact absurd ((c2 hh)) (by rw [q1]; simp)
      have f3 : l3 = false := by cases hh : l3 with | false => rfl | true => exact absurd ((c3 hh)) (by rw [f2]; simp)
      have f4 : l4 = false := by cases hh : l4 with | false => rfl | true => exact absurd ((c4 hh)) (by rw [f3]; simp)
      have f8 : l8 = false := by cases hh : l8 with | false => rfl | true => exact absurd ((c8 hh).1) (by rw [f4]; simp)
      have f9 : l9 = false := by cases hh : l9 with | false => rfl | true => exact absurd ((c9 hh)) (by rw [f8]; simp)
      have f12 : l12 = false := by cases hh : l12 with | false => rfl | true => exact absurd ((c12 hh).2.1) (by rw [f9]; simp)
      obtain rfl := hw0 f12
      clear hw0 hw1 hi' hlt'
      subst q1 f2 f3 f4 f8 f9 f12
      clear c2
      clear c3
      clear c4
      have H7c := hide c7; clear c7
      clear c8
      clear c9
      have H11c := hide c11; clear c11
      clear c12
      refine wpOpIn_step rfl (fun K hK => ?_)
      simp only [selD_f]
      go_simp
      refine hK _ _ ?_
      exact ⟨_, true, false, false, false, _, _, _, false, false, _, _, false, rfl, rfl, (fun h => by cases h), (fun h => by cases h), (fun h => by cases h), H7c.out, (fun h => by cases h), (fun h => by cases h), H11c.out, (fun h => by cases h), (fun _ => rfl), (fun h => by cases h)⟩
    · obtain ⟨q2, e1⟩ := hb
      have f3 : l3 = false := by cases hh : l3 with | false => rfl | true => exact absurd ((c3 hh)) (by rw [q2]; simp)
      have f4 : l4 = false := by cases hh : l4 with | false => rfl | true => exact absurd ((c4 hh)) (by rw [f3]; simp)
      have f8 : l8 = false := by cases hh : l8 with | false => rfl | true => exact absurd ((c8 hh).1) (by rw [f4]; simp)
      have f9 : l9 = false := by cases hh : l9 with | false => rfl | true => exact absurd ((c9 hh)) (by rw [f8]; simp)
      have f12 : l12 = false := by cases hh : l12 with | false => rfl | true => exact absurd ((c12 hh).2.1) (by rw [f9]; simp)
      obtain rfl := hw0 f12
      clear hw0 hw1 hi' hlt'
      subst q2 e1 f3 f4 f8 f9 f12
      clear c2
      clear c3
      clear c4
      have H7c := hide c7; clear c7
      clear c8
      clear c9
      have H11c := hide c11; clear c11
      clear c12
      refine wpOpIn_step rfl (fun K hK => ?_)
      simp only [selD_t, selD_f]
      go_simp
      refine hK _ _ ?_
      exact ⟨_, true, true, false, false, _, _, _, false, false, _, _, false, rfl, rfl, fun _ => rfl, (fun h => by cases h), (fun h => by cases h), H7c.out, (fun h => by cases h), (fun h => by cases h), H11c.out, (fun h => by cases h), (fun _ => rfl), (fun h => by cases h)⟩
    · obtain ⟨q3, e2⟩ := hb
      obtain e1 := c2 e2
      have f4 : l4 = false := by cases hh : l4 with | false => rfl | true => exact absurd ((c4 hh)) (by rw [q3]; simp)
      have f8 : l8 = false := by cases hh : l8 with | false => rfl | true => exact absurd ((c8 hh).1) (by rw [f4]; simp)
      have f9 : l9 = false := by cases hh : l9 with | false => rfl | true => exact absurd ((c9 hh)) (by rw [f8]; simp)
      have f12 : l12 = false := by cases hh : l12 with | false => rfl | true => exact absurd ((c12 hh).2.1) (by rw [f9]; simp)
      obtain rfl := hw0 f12
      clear hw0 hw1 hi' hlt'
      subst q3 e1 e2 f4 f8 f9 f12
      clear c2
      clear c3
      clear c4
      have H7c := hide c7; clear c7
      clear c8
      clear c9
      have H11c := hide c11; clear c11
      clear c12
      refine wpOpIn_step rfl (fun K hK => ?_)
      simp only [selD_t, selD_f]
      go_simp
      refine hK _ _ ?_
      exact ⟨_, true, true, true, false, _, _, _, false, false, _, _, false, rfl, rfl, fun _ => rfl, fun _ => rfl, (fun h => by cases h), H7c.out, (fun h => by cases h), (fun h => by cases h), H11c.out, (fun h => by cases h), (fun _ => rfl), (fun h => by cases h)⟩
    · obtain ⟨q4, e3⟩ := hb
      obtain e2 := c3 e3
      obtain e1 := c2 e2
      have f8 : l8 = false := by cases hh : l8 with | false => rfl | true => exact absurd ((c8 hh).1) (by rw [q4]; simp)
      have f9 : l9 = false := by cases hh : l9 with | false => rfl | true => exact absurd ((c9 hh)) (by rw [f8]; simp)
      have f12 : l12 = false := by cases hh : l12 with | false => rfl | true => exact absurd ((c12 hh).2.1) (by rw [f9]; simp)
      obtain rfl := hw0 f12
      clear hw0 hw1 hi' hlt'
      subst q4 e1 e2 e3 f8 f9 f12
      clear c2
      clear c3
      clear c4
      have H7c := hide c7; clear c7
      clear c8
      clear c9
      have H11c := hide c11; clear c11
      clear c12
      refine wpOpIn_step rfl (fun K hK => ?_)
      simp only [selD_t, selD_f]
      go_simp
      refine hK _ _ ?_
      exact ⟨_, true, true, true, true, _, _, _, false, false, _, _, false, rfl, rfl, fun _ => rfl, fun _ => rfl, fun _ => rfl, H7c.out, (fun h => by cases h), (fun h => by cases h), H11c.out, (fun h => by cases h), (fun _ => rfl), (fun h => by cases h)⟩
    · have q5 := hb
      have f7 : l7 = false := by cases hh : l7 with | false => rfl | true => exact absurd ((c7 hh).1) (by rw [q5]; simp)
      have f8 : l8 = false := by cases hh : l8 with | false => rfl | true => exact absurd ((c8 hh).2) (by rw [f7]; simp)
      have f9 : l9 = false := by cases hh : l9 with | false => rfl | true => exact absurd ((c9 hh)) (by rw [f8]; simp)
      have f12 : l12 = false := by cases hh : l12 with | false => rfl | true => exact absurd ((c12 hh).2.1) (by rw [f9]; simp)
      obtain rfl := hw0 f12
      clear hw0 hw1 hi' hlt'
      subst q5 f7 f8 f9 f12
      have H2c := hide c2; clear c2
      have H3c := hide c3; clear c3
      have H4c := hide c4; clear c4
      clear c7
      clear c8
      clear c9
      have H11c := hide c11; clear c11
      clear c12
      refine wpOpIn_step rfl (fun K hK => ?_)
      simp only [selD_f]
      go_simp
      refine hK _ _ ?_
      exact ⟨_, _, _, _, _, true, _, false, false, false, _, _, false, rfl, rfl, H2c.out, H3c.out, H4c.out, (fun h => by cases h), (fun h => by cases h), (fun h => by cases h), H11c.out, (fun h => by cases h), (fun _ => rfl), (fun h => by cases h)⟩
    · have q6 := hb
      have f7 : l7 = false := by cases hh : l7 with | false => rfl | true => exact absurd ((c7 hh).2) (by rw [q6]; simp)
      have f8 : l8 = false := by cases hh : l8 with | false => rfl | true => exact absurd ((c8 hh).2) (by rw [f7]; simp)
      have f9 : l9 = false := by cases hh : l9 with | false => rfl | true => exact absurd ((c9 hh)) (by rw [f8]; simp)
      have f12 : l12 = false := by cases hh : l12 with | false => rfl | true => exact absurd ((c12 hh).2.1) (by rw [f9]; simp)
      obtain rfl := hw0 f12
      clear hw0 hw1 hi' hlt'
      subst q6 f7 f8 f9 f12
      have H2c := hide c2; clear c2
      have H3c := hide c3; clear c3
      have H4c := hide c4; clear c4
      clear c7
      clear c8
      clear c9
      have H11c := hide c11; clear c11
      clear c12
      refine wpOpIn_step rfl (fun K hK => ?_)
      simp only [selD_f]
      go_simp
      refine hK _ _ ?_
      exact ⟨_, _, _, _, _, _, true, false, false, false, _, _, false, rfl, rfl, H2c.out, H3c.out, H4c.out, (fun h => by cases h), (fun h => by cases h), (fun h => by cases h), H11c.out, (fun h => by cases h), (fun _ => rfl), (fun h => by cases h)⟩
    · obtain ⟨q7, e5, e6⟩ := hb
      have f8 : l8 = false := by cases hh : l8 with | false => rfl | true => exact absurd ((c8 hh).2) (by rw [q7]; simp)
      have f9 : l9 = false := by cases hh : l9 with | false => rfl | true => exact absurd ((c9 hh)) (by rw [f8]; simp)
      have f12 : l12 = false := by cases hh : l12 with | false => rfl | true => exact absurd ((c12 hh).2.1) (by rw [f9]; simp)
      obtain rfl := hw0 f12
      clear hw0 hw1 hi' hlt'
      subst q7 e5 e6 f8 f9 f12
      have H2c := hide c2; clear c2
      have H3c := hide c3; clear c3
      have H4c := hide c4; clear c4
      clear c7
      clear c8
      clear c9
      have H11c := hide c11; clear c11
      clear c12
      refine wpOpIn_step rfl (fun K hK => ?_)
      simp only [selD_t, selD_f]
      go_simp
      try rw [w1]
      refine hK _ _ ?_
      exact ⟨_, _, _, _, _, true, true, true, false, false, _, _, false, rfl, rfl, H2c.out, H3c.out, H4c.out, fun _ => ⟨rfl, rfl⟩, (fun h => by cases h), (fun h => by cases h), H11c.out, (fun h => by cases h), (fun _ => rfl), (fun h => by cases h)⟩
    · obtain ⟨q8, e4, e7⟩ := hb
      obtain ⟨e5, e6⟩ := c7 e7
      obtain e3 := c4 e4
      obtain e2 := c3 e3
      obtain e1 := c2 e2
      have f9 : l9 = false := by cases hh : l9 with | false => rfl | true => exact absurd ((c9 hh)) (by rw [q8]; simp)
      have f12 : l12 = false := by cases hh : l12 with | false => rfl | true => exact absurd ((c12 hh).2.1) (by rw [f9]; simp)
      obtain rfl := hw0 f12
      clear hw0 hw1 hi' hlt'
      subst q8 e1 e2 e3 e4 e5 e6 e7 f9 f12
      clear c2
      clear c3
      clear c4
      clear c7
      clear c8
      clear c9
      have H11c := hide c11; clear c11
      clear c12
      refine wpOpIn_step rfl (fun K hK => ?_)
      simp only [selD_t, selD_f]
      go_simp
      refine hK _ _ ?_
      exact ⟨_, true, true, true, true, true, true, true, true, false, _, _, false, rfl, rfl, fun _ => rfl, fun _ => rfl, fun _ => rfl, fun _ => ⟨rfl, rfl⟩, fun _ => ⟨rfl, rfl⟩, (fun h => by cases h), H11c.out, (fun h => by cases h), (fun _ => rfl), (fun h => by cases h)⟩
    · obtain ⟨q9, e8⟩ := hb
      obtain ⟨e4, e7⟩ := c8 e8
      obtain ⟨e5, e6⟩ := c7 e7
      obtain e3 := c4 e4
      obtain e2 := c3 e3
      obtain e1 := c2 e2
      have f12 : l12 = false := by cases hh : l12 with | false => rfl | true => exact absurd ((c12 hh).2.1) (by rw [q9]; simp)
      obtain rfl := hw0 f12
      clear hw0 hw1 hi' hlt'
      subst q9 e1 e2 e3 e4 e5 e6 e7 e8 f12
      clear c2
      clear c3
      clear c4
      clear c7
      clear c8
      clear c9
      have H11c := hide c11; clear c11
      clear c12
      refine wpOpIn_step rfl (fun K hK => ?_)
      simp only [selD_t, selD_f]
      go_simp
      refine hK _ _ ?_
      exact ⟨_, true, true, true, true, true, true, true, true, true, _, _, false, rfl, rfl, fun _ => rfl, fun _ => rfl, fun _ => rfl, fun _ => ⟨rfl, rfl⟩, fun _ => ⟨rfl, rfl⟩, fun _ => rfl, H11c.out, (fun h => by cases h), (fun _ => rfl), (fun h => by cases h)⟩
    · have q10 := hb
      have f11 : l11 = false := by cases hh : l11 with | false => rfl | true => exact absurd ((c11 hh)) (by rw [q10]; simp)
      have f12 : l12 = false := by cases hh : l12 with | false => rfl | true => exact absurd ((c12 hh).2.2) (by rw [f11]; simp)
      obtain rfl := hw0 f12
      clear hw0 hw1 hi' hlt'
      subst q10 f11 f12
      have H2c := hide c2; clear c2
      have H3c := hide c3; clear c3
      have H4c := hide c4; clear c4
      have H7c := hide c7; clear c7
      have H8c := hide c8; clear c8
      have H9c := hide c9; clear c9
      clear c11
      clear c12
      refine wpOpIn_step rfl (fun K hK => ?_)
      simp only [selD_f]
      go_simp
      refine hK _ _ ?_
      exact ⟨_, _, _, _, _, _, _, _, _, _, true, false, false, rfl, rfl, H2c.out, H3c.out, H4c.out, H7c.out, H8c.out, H9c.out, (fun h => by cases h), (fun h => by cases h), (fun _ => rfl), (fun h => by cases h)⟩
    · obtain ⟨q11, e10⟩ := hb
      have f12 : l12 = false := by cases hh : l12 with | false => rfl | true => exact absurd ((c12 hh).2.2) (by rw [q11]; simp)
      obtain rfl := hw0 f12
      clear hw0 hw1 hi' hlt'
      subst q11 e10 f12
      have H2c := hide c2; clear c2
      have H3c := hide c3; clear c3
      have H4c := hide c4; clear c4
      have H7c := hide c7; clear c7
      have H8c := hide c8; clear c8
      have H9c := hide c9; clear c9
      clear c11
      clear c12
      refine wpOpIn_step rfl (fun K hK => ?_)
      simp only [selD_t, selD_f]
      go_simp
      try rw [w2]
      refine hK _ _ ?_
      exact ⟨_, _, _, _, _, _, _, _, _, _, true, true, false, rfl, rfl, H2c.out, H3c.out, H4c.out, H7c.out, H8c.out, H9c.out, fun _ => rfl, (fun h => by cases h), (fun _ => rfl), (fun h => by cases h)⟩
    · obtain ⟨q12, e0, e9, e11⟩ := hb
      obtain e10 := c11 e11
      obtain e8 := c9 e9
      obtain ⟨e4, e7⟩ := c8 e8
      obtain ⟨e5, e6⟩ := c7 e7
      obtain e3 := c4 e4
      obtain e2 := c3 e3
      obtain e1 := c2 e2
      obtain rfl := hw0 q12
      clear hw0 hw1 hi' hlt'
      subst q12 e0 e1 e2 e3 e4 e5 e6 e7 e8 e9 e10 e11
      clear c2
      clear c3
      clear c4
      clear c7
      clear c8
      clear c9
      clear c11
      clear c12
      refine wpOpIn_step rfl (fun K hK => ?_)
      simp only [selD_t]
      go_simp
      refine ⟨trivial, fun _ => hn.out, (CallsIn.inRound l (callsIn_wide.2 CT')).mono ?_⟩
      rintro e W1 ⟨rfl, S2⟩
      refine hK _ _ ?_
      exact ⟨true, true, true, true, true, true, true, true, true, true, true, true, true, rfl, rfl, fun _ => rfl, fun _ => rfl, fun _ => rfl, fun _ => ⟨rfl, rfl⟩, fun _ => ⟨rfl, rfl⟩, fun _ => rfl, fun _ => rfl, fun _ => ⟨rfl, rfl, rfl⟩, (fun h => by cases h), fun _ => S2⟩
  case fin =>
    rintro listed a w' ⟨l0, l1, l2, l3, l4, l5, l6, l7, l8, l9, l10, l11, l12, rfl, rfl, c2, c3, c4, c7, c8, c9, c11, c12, hw0, hw1⟩ hi'
    have hx := fun i => Ord.not_ready hi' (i := i)
    have g0 : l0 = true := by have g := hx 0 (by simp); simp [Region.binds] at g; exact g
    have g1 : l1 = true := by have g := hx 1 (by simp); simp [Region.binds] at g; exact g
    have g2 : l2 = true := by have g := hx 2 (by simp); simp [Region.binds] at g; cases hh : l2 with | true => rfl | false => exact absurd (g hh ) (by rw [g1]; simp)
    have g3 : l3 = true := by have g := hx 3 (by simp); simp [Region.binds] at g; cases hh : l3 with | true => rfl | false => exact absurd (g hh ) (by rw [g2]; simp)
    have g4 : l4 = true := by have g := hx 4 (by simp); simp [Region.binds] at g; cases hh : l4 with | true => rfl | false => exact absurd (g hh ) (by rw [g3]; simp)
    have g5 : l5 = true := by have g := hx 5 (by simp); simp [Region.binds] at g; exact g
    have g6 : l6 = true := by have g := hx 6 (by simp); simp [Region.binds] at g; exact g
    have g7 : l7 = true := by have g := hx 7 (by simp); simp [Region.binds] at g; cases hh : l7 with | true => rfl | false => exact absurd (g hh g5) (by rw [g6]; simp)
    have g8 : l8 = true := by have g := hx 8 (by simp); simp [Region.binds] at g; cases hh : l8 with | true => rfl | false => exact absurd (g hh g4) (by rw [g7]; simp)
    have g9 : l9 = true := by have g := hx 9 (by simp); simp [Region.binds] at g; cases hh : l9 with | true => rfl | false => exact absurd (g hh ) (by rw [g8]; simp)
    have g10 : l10 = true := by have g := hx 10 (by simp); simp [Region.binds] at g; exact g
    have g11 : l11 = true := by have g := hx 11 (by simp); simp [Region.binds] at g; cases hh : l11 with | true => rfl | false => exact absurd (g hh ) (by rw [g10]; simp)
    have g12 : l12 = true := by have g := hx 12 (by simp); simp [Region.binds] at g; cases hh : l12 with | true => rfl | false => exact absurd (g hh g0 g9) (by rw [g11]; simp)
    subst g0 g1 g2 g3 g4 g5 g6 g7 g8 g9 g10 g11 g12
    have hO := hw1 rfl
    clear c2 c3 c4 c7 c8 c9 c11 c12 hi' hx hw0 hw1
    simp only [selD_t]
    exact hK _ hO.out
end Go.Proofs.Ytchealdgncgjoaa.StI
