import Derived.Test.YtchealdgncgjoaaLaA
namespace Go.Proofs.Ytchealdgncgjoaa.StI
open Go.RowKit Go.Proofs.Ytchealdgncgjoaa.St Go.Shelf Go.Sort Go.Proofs.Ytchealdgncgjoaa.It
attribute [local go_sem] Oper.semAt_some
set_option linter.unusedVariables false
/-- StoreLate's text: the loop's body, the last loop's -/
def tl12 (f : Func) : Code := cR (cR (cR (cR (cR (cR (cR (cR (cR (f.body.getD .skip)))))))))
def bd7 (f : Func) : Code := cI (cI (cR (cL (cR (cR (tl12 f))))))
def lp12 (f : Func) : Code := cI (cI (cR (cL (tl12 f))))
/-- the blocks that turn in a round of the last loop -/
def Ld (bt mb rb : Nat) (vv : Value) (j : Nat) : Prop := j = bt ∨ j = mb ∨ j = rb ∨ vv.ownBlock = some j
/-- where the last loop stands -/
def LJ (w : World) (bx : List Nat) (b1 br bM bR mb rb B BA BB B1 B2 : Nat) (more lo hi : Int) (bt M : Nat) (Ls : List Nat) (pre : List (Int × Int)) (V : World) : Prop :=
  ∃ (t : T (Int × Int)) (told : Nat), La V (bt :: bx) b1 br bM bR mb rb B BA BB B1 B2 more lo hi t t.xs ∧ V.heap[bt]? = some (.cells #[.int .i64 (told : Int)] 3 (0, 0)) ∧ told ≤ pre.length ∧ t.sz ≤ M + min told 3 ∧ Below w.heap.size w V ∧ ∀ D ∈ Ls, V.heap[D]? = some (.deferred (some []))
section
variable {w V Z : World} {bx : List Nat} {b1 br bM bR mb rb B BA BB B1 B2 bt M : Nat} {more lo hi : Int} {t : T (Int × Int)} {L : List (Int × Int)} {vk vv : Value} {told : Int} {Ls : List Nat}
theorem ld_cells (h : La V (bt :: bx) b1 br bM bR mb rb B BA BB B1 B2 more lo hi t L) (hr : Rm B V rb 0 vk vv L) (hb : V.heap[bt]? = some (.cells #[.int .i64 told] 3 (0, 0))) {j : Nat} (hj : Ld bt mb rb vv j) : ∃ c ty, V.heap[j]? = some (.cells c ty (0, 0)) ∧ (ty = 3 ∨ ty = 130 ∨ ty = 52) := by
  rcases hj with rfl | rfl | rfl | hj
  · exact ⟨_, _, hb, .inl rfl⟩
  · obtain ⟨a, h1, _⟩ := h.mp.ex
    exact ⟨_, _, h1, .inr (.inl rfl)⟩
  · exact ⟨_, _, hr.blk, .inr (.inr rfl)⟩
  · obtain ⟨c, hc⟩ := own_obj hr.ov hj
    exact ⟨_, _, hc, .inl rfl⟩
theorem ld_post (h : La V (bt :: bx) b1 br bM bR mb rb B BA BB B1 B2 more lo hi t L) (hr : Rm B V rb 0 vk vv L) (hb : V.heap[bt]? = some (.cells #[.int .i64 told] 3 (0, 0))) (k : Kp (Ld bt mb rb vv) V Z) (hB : w.heap.size ≤ B) (hbt : w.heap.size ≤ bt) (hmb : w.heap.size ≤ mb) (hrb : w.heap.size ≤ rb) (hbel : Below w.heap.size w V) (hL : ∀ D ∈ Ls, V.heap[D]? = some (.deferred (some []))) (C : Nat) : KeepsFrom C V Z ∧ Kc KL V Z ∧ Below w.heap.size w Z ∧ ∀ D ∈ Ls, Z.heap[D]? = some (.deferred (some [])) := by
  refine ⟨kf_cells k (fun j hj => ?_), kc_cells k (fun j c ty m hj hc hK => ?_), ((Kp.of_below hbel).trans k (fun j hj e => ?_)).toBelow, fun D hD => (k.block D (blk_lt (hL D hD)) (fun e => ?_)).trans (hL D hD)⟩
  · obtain ⟨c, ty, h1, _⟩ := ld_cells h hr hb hj
    exact ⟨c, ty, _, h1⟩
  · obtain ⟨c', ty', h1, e⟩ := ld_cells h hr hb hj
    rw [hc] at h1; cases h1
    rcases hK with h | h | h | h <;> rcases e with e | e | e <;> rw [h] at e <;> cases e
  · rcases e with e | e | e | e
    · omega
    · omega
    · omega
    · have := own_low hr.ov e; omega
  · obtain ⟨c, ty, h1, _⟩ := ld_cells h hr hb e
    rw [hL D hD] at h1; cases h1
/-- a box of a number turns -/
theorem La.box (h : La V bx b1 br bM bR mb rb B BA BB B1 B2 more lo hi t L) {b : Nat} {c : Array Value} (hb : V.heap[b]? = some (.cells c 3 (0, 0))) (hbx : b ∈ bx) (n1 : b ≠ b1) (n2 : b ≠ B1) (n3 : b ≠ B2) (u : Value) : La (V.setCell ⟨b, 0, none⟩ u) bx b1 br bM bR mb rb B BA BB B1 B2 more lo hi t L := by
  obtain ⟨vk, vv, r1, r2, r3⟩ := h.ro
  have hn : ∀ {q : Nat} {c' : Array Value} {ty : TypeId}, V.heap[q]? = some (.cells c' ty (0, 0)) → ty ≠ 3 → (V.setCell ⟨b, 0, none⟩ u).heap[q]? = some (.cells c' ty (0, 0)) := fun {q c' ty} hq ht => (box_other _ (fun e => by rw [e, hb] at hq; cases hq; exact ht rfl)).trans hq
  refine ⟨(box_other _ (fun e => n1 e.symm)).trans h.g, hn h.r (by decide), hn h.m (by decide), hn h.d (by decide), hn h.xA (by decide), hn h.xB (by decide), (box_other _ (fun e => n2 e.symm)).trans h.x1, (box_other _ (fun e => n3 e.symm)).trans h.x2, h.mp.box hb, ⟨vk, vv, r1.box (fun e => by have := r1.blk; rw [e, hb] at this; cases this) (fun e => r2 _ e hbx) (fun e => r3 _ e hbx), r2, r3⟩, fun q hq => by simpa using h.bl q hq, h.i1, h.i2, h.i3, by simpa using h.lo⟩
end
theorem wk5 (k : Int) (h0 : 0 ≤ k) (h1 : k ≤ 17592186044100) : wrap64 (k + 1) = k + 1 := by unfold wrap64; omega
theorem ov_int (o : Option (Int × Int)) : ∃ z, ov o = .int .i64 z := by cases o <;> exact ⟨_, rfl⟩
set_option maxRecDepth 100000 in
set_option maxHeartbeats 4000000 in
theorem late_body {w V : World} {bx : List Nat} {b1 br bM bR mb rb B BA BB B1 B2 bt M l : Nat} {more lo hi : Int} {Ls : List Nat} {pre : List (Int × Int)} {xx : Int × Int} (hB : w.heap.size ≤ B) (hbt : w.heap.size ≤ bt) (hmb : w.heap.size ≤ mb) (hrb : w.heap.size ≤ rb) (hM : M ≤ 17592186043950) (hN : pre.length ≤ 17592186043950) (n1 : bt ≠ b1) (n2 : bt ≠ B1) (n3 : bt ≠ B2) (hJ : (LJ w bx b1 br bM bR mb rb B BA BB B1 B2 more lo hi bt M Ls) pre V) (C : Nat) {t0 t1 t2 t3 t4 t5 t6 t7 t8 t9 t11 t15 t16 t17 t18 t19 t20 t21 t22 t23 t24 t25 t28 t29 t30 t31 t32 t33 t34 t35 t36 t37 t38 t39 t40 t41 t42 t43 t44 t45 t46 t47 t48 t49 t50 t51 t52 t53 t54 t55 t56 t57 t58 t59 t60 t61 t62 t63 t64 t65 t66 t67 t68 t69 t70 t71 t72 t73 t74 t75 t76 t77 t78 t79 t80 t81 t82 t83 t84 t85 t86 t87 t88 t89 t90 t91 t92 t93 t94 t95 t96 t97 t98 t99 t100 t101 t102 t103 t104 t105 t106 t107 t108 t109 t110 t111 t112 t113 t114 t115 t116 t117 t118 t119 t120 t121 t122 t123 t124 t125 t126 t127 t128 t129 t130 t131 t132 t133 t134 t135 t136 t137 t138 t139 t140 t141 t142 t143 t144 t145 t146 t147 t148 t149 t150 t151 t152 t153 t154 t155 t156 t157 t158 t159 t160 t161 t162 t163 t164 t165 t166 t167 t168 t169 t170 t171 t172 t173 t174 t175 t176 t177 t178 t179 t180 t181 t182 t183 t184 t185 t186 t187 t188 t189 t190 t191 t192 t193 t194 t195 t196 t197 t198 t199 t200 t201 t202 t203 t204 t205 t206 t207 t208 t209 t210 t211 t212 t213 t214 t215 t216 t217 t218 t219 t220 t221 t222 : Value} :
    (bd7 Try.f12).wpIn (Fence.wide.inRound l) 2 Try.prog (ownPostG C (Kc KL) (LJ w bx b1 br bM bR mb rb B BA BB B1 B2 more lo hi bt M Ls) (fun _ _ _ => False) (pre ++ [xx]) V) { tmps := #[t0, t1, t2, t3, t4, t5, t6, t7, t8, t9, .pointer (some ⟨b1, 0, none⟩), t11, .pointer (some ⟨br, 0, none⟩), .pointer (some ⟨bM, 0, none⟩), .pointer (some ⟨bR, 0, none⟩), t15, t16, t17, t18, t19, t20, t21, t22, t23, t24, t25, .pointer (some ⟨bt, 0, none⟩), .int .i64 xx.1, t28, t29, t30, t31, t32, t33, t34, t35, t36, t37, t38, t39, t40, t41, t42, t43, t44, t45, t46, t47, t48, t49, t50, t51, t52, t53, t54, t55, t56, t57, t58, t59, t60, t61, t62, t63, t64, t65, t66, t67, t68, t69, t70, t71, t72, t73, t74, t75, t76, t77, t78, t79, t80, t81, t82, t83, t84, t85, t86, t87, t88, t89, t90, t91, t92, t93, t94, t95, t96, t97, t98, t99, t100, t101, t102, t103, t104, t105, t106, t107, t108, t109, t110, t111, t112, t113, t114, t115, t116, t117, t118, t119, t120, t121, t122, t123, t124, t125, t126, t127, t128, t129, t130, t131, t132, t133, t134, t135, t136, t137, t138, t139, t140, t141, t142, t143, t144, t145, t146, t147, t148, t149, t150, t151, t152, t153, t154, t155, t156, t157, t158, t159, t160, t161, t162, t163, t164, t165, t166, t167, t168, t169, t170, t171, t172, t173, t174, t175, t176, t177, t178, t179, t180, t181, t182, t183, t184, t185, t186, t187, t188, t189, t190, t191, t192, t193, t194, t195, t196, t197, t198, t199, t200, t201, t202, t203, t204, t205, t206, t207, t208, t209, t210, t211, t212, t213, t214, t215, t216, t217, t218, t219, t220, t221, t222], defers := [] } V := by
  simp only [cL, cR, cI, bd7, tl12, Try.f12, Option.getD]
  obtain ⟨t, told, hS, hbx, htl, hsz, hbel, hmk⟩ := hJ
  obtain ⟨vk, vv, hr, hvk, hvv⟩ := hS.ro
  have hszN : t.sz ≤ 17592186043953 := by omega
  have D1 := del_any hS.mp xx.1 (by omega)
  have cM := cell1 hS.m
  have HB := hide (And.intro hS (And.intro hr (And.intro hvk (And.intro hvv (And.intro hbx (And.intro hbel (And.intro hmk (And.intro hsz (And.intro htl (And.intro hM hN))))))))))
  have HW := hide (And.intro hB (And.intro hbt (And.intro hmb (And.intro hrb (And.intro n1 (And.intro n2 n3))))))
  have HSZ := hide hszN
  clear hS hr hvk hvv hbx hbel hmk hsz htl hM hN hB hbt hmb hrb n1 n2 n3 hszN
  gi_wp2_with fail
  refine ⟨trivial, (CallsIn.inRound l (callsIn_wide.2 D1)).mono ?_⟩
  rintro e W1 ⟨rfl, m1, k1⟩
  have S1 := HB.out.1.put m1 k1
  have hr1 := HB.out.2.1.keepM HB.out.1.mp k1
  have D2 := rdel_TN hr1 HB.out.1.mp.srt S1.lo xx.1 (by rw [T.xs_length]; have := HSZ.out; omega)
  obtain ⟨z, ez⟩ := ov_int (getT xx.1 t)
  rw [ez] at D2 ⊢
  generalize (T.fd (sd xx.1) t).2 = bb at D2 ⊢
  have cR := cell1 S1.d
  have H1 := hide (And.intro S1 (And.intro hr1 k1))
  clear D1 m1 k1 S1 hr1 ez cM
  gi_wp2_with fail
  refine ⟨trivial, (CallsIn.inRound l (callsIn_wide.2 D2)).mono ?_⟩
  rintro e W2 ⟨rfl, z2, k2⟩
  have S2 := H1.out.1.rput H1.out.2.1 HB.out.2.2.1 HB.out.2.2.2.1 z2 k2
  obtain ⟨vk2, vv2, r2, y2k, y2v⟩ := z2
  have hb2 : W2.heap[bt]? = some (.cells #[.int .i64 (told : Int)] 3 (0, 0)) := by
    have h0 := HB.out.2.2.2.2.1
    obtain ⟨a, ha, _⟩ := HB.out.1.mp.ex
    have h1 := (H1.out.2.2.block _ (blk_lt h0) (fun e => by have e : bt = mb := e; rw [e, ha] at h0; cases h0)).trans h0
    exact ro_keep H1.out.2.1 HB.out.2.2.2.1 k2 h1 (by decide) (.inr (List.mem_cons_self ..))
  have K2 : Kp (Ld bt mb rb vv) V W2 := (H1.out.2.2.mono (fun _ _ e => .inr (.inl e))).trans k2 (fun j hj e => by
    rcases e with e | e
    · exact .inr (.inr (.inl e))
    · exact .inr (.inr (.inr e)))
  have hvv2 : ∀ g, vv2.ownBlock = some g → vv.ownBlock = some g ∨ V.heap.size ≤ g := fun g hg => by
    rcases y2v g hg with h | h
    · exact .inl h
    · have := H1.out.2.2.size; exact .inr (by omega)
  have hvk2 : (∀ g, vk2.ownBlock = some g → g ∉ bt :: bx) ∧ (∀ g, vv2.ownBlock = some g → g ∉ bt :: bx) := by
    refine ⟨fun g hg hb => ?_, fun g hg hb => ?_⟩
    · rcases y2k g hg with h | h
      · exact HB.out.2.2.1 g h hb
      · have := H1.out.1.bl g hb; omega
    · rcases y2v g hg with h | h
      · exact HB.out.2.2.2.1 g h hb
      · have := H1.out.1.bl g hb; omega
  have hsz2 : (delT xx.1 t).sz ≤ t.sz := by rw [del_sz]; split <;> omega
  have b1' : (z != z) = false := by simp
  have b2' : (bb != bb) = false := by simp
  have ct := cell1 hb2
  have ft := free3 hb2 0
  have H2 := hide (And.intro S2 (And.intro r2 (And.intro hvv2 (And.intro hvk2 (And.intro hb2 (And.intro K2 hsz2))))))
  clear D2 y2k y2v r2 k2 S2 hvv2 hvk2 hb2 K2 hsz2 cR
  by_cases h3 : told < 3
  · have h3I : (told : Int) < 3 := by omega
    have h3d : decide ((told : Int) < 3) = true := by simpa using h3I
    have h3e : decide (told < 3) = true := by simpa using h3
    have cM2 := cell1 H2.out.1.m
    have cG2 := cell1 H2.out.1.g
    obtain ⟨kx, ekx⟩ : ∃ kx, wrap64 (more - (told : Int)) = kx := ⟨_, rfl⟩
    have P1 := put_any H2.out.1.mp kx (told : Int) (by have h1 := H2.out.2.2.2.2.2.2; have h2 := HSZ.out; omega)
    have H3 := hide h3
    clear h3
    gi_wp2_with fail
    (try rw [ekx])
    refine ⟨trivial, (CallsIn.inRound l (callsIn_wide.2 P1)).mono ?_⟩
    rintro e W3 ⟨rfl, m3, k3⟩
    have S3 := H2.out.1.put m3 k3
    have hr3 := H2.out.2.1.keepM H2.out.1.mp k3
    have P2 := rput_TN hr3 H2.out.1.mp.srt S3.lo kx (told : Int) (by rw [T.xs_length]; have h1 := H2.out.2.2.2.2.2.2; have h2 := HSZ.out; omega)
    have hb3 : W3.heap[bt]? = some (.cells #[.int .i64 (told : Int)] 3 (0, 0)) := by
      have h0 := H2.out.2.2.2.2.1
      obtain ⟨a, ha, _⟩ := H2.out.1.mp.ex
      exact (k3.block _ (blk_lt h0) (fun e => by have e : bt = mb := e; rw [e, ha] at h0; cases h0)).trans h0
    have cR3 := cell1 S3.d
    have cG3 := cell1 S3.g
    have ct3 := cell1 hb3
    have H4 := hide (And.intro S3 (And.intro hr3 (And.intro hb3 k3)))
    clear S3 hr3 hb3 k3 m3 P1 cM2 cG2
    gi_wp2_with fail
    (try rw [ekx])
    refine ⟨trivial, (CallsIn.inRound l (callsIn_wide.2 P2)).mono ?_⟩
    rintro e W4 ⟨rfl, z4, k4⟩
    have S4 := H4.out.1.rput H4.out.2.1 H2.out.2.2.2.1.1 H2.out.2.2.2.1.2 z4 k4
    have hb4 := ro_keep H4.out.2.1 H2.out.2.2.2.1.2 k4 H4.out.2.2.1 (by decide) (.inr (List.mem_cons_self ..))
    have K4 : Kp (Ld bt mb rb vv) V W4 := (H2.out.2.2.2.2.2.1.trans H4.out.2.2.2 (fun _ _ e => .inr (.inl e))).trans k4 (fun j hj e => by
      rcases e with e | e
      · exact .inr (.inr (.inl e))
      · rcases H2.out.2.2.1 j e with h | h
        · exact .inr (.inr (.inr h))
        · omega)
    have ct4 := cell1 hb4
    have ft4 := free3 hb4 0
    have H5 := hide (And.intro S4 (And.intro hb4 K4))
    have wT : wrap64 ((told : Int) + 1) = (told : Int) + 1 := wk5 _ (by omega) (by have h1 := HB.out.2.2.2.2.2.2.2.2.1; have h2 := HB.out.2.2.2.2.2.2.2.2.2.2; omega)
    have HF : Hid (ownPostG C (Kc KL) (LJ w bx b1 br bM bR mb rb B BA BB B1 B2 more lo hi bt M Ls) (fun _ _ _ => False) (pre ++ [xx]) V .normal { tmps := #[], defers := [] } ((W4).setCell ⟨bt, 0, none⟩ (.int .i64 ((told : Int) + 1)))) := hide (by
      obtain ⟨hB, hbt, hmb, hrb, n1, n2, n3⟩ := HW.out
      have K9 : Kp (Ld bt mb rb vv) V ((W4).setCell ⟨bt, 0, none⟩ (.int .i64 ((told : Int) + 1))) := (H5.out.2.2).trans (Kp.setCell _ ⟨bt, 0, none⟩ _) (fun _ _ e => .inl e)
      obtain ⟨p1, p2, p3, p4⟩ := ld_post HB.out.1 HB.out.2.1 HB.out.2.2.2.2.1 K9 hB hbt hmb hrb HB.out.2.2.2.2.2.1 HB.out.2.2.2.2.2.2.1 C
      refine ⟨p1, p2, putT kx (told : Int) (delT xx.1 t), told + 1, (H5.out.1).box H5.out.2.1 (List.mem_cons_self ..) n1 n2 n3 _, ?_, ?_, ?_, p3, p4⟩
      · rw [set3 H5.out.2.1]; simp
      · have h1 := HB.out.2.2.2.2.2.2.2.2.1
        rw [List.length_append]; simp; omega
      · have h1 := HB.out.2.2.2.2.2.2.2.1
        have h2 := H2.out.2.2.2.2.2.2
        have h3 := H3.out
        have h4 : (putT kx (told : Int) (delT xx.1 t)).sz ≤ (delT xx.1 t).sz + 1 := by rw [put_sz]; split <;> omega
        omega)
    clear S4 hb4 K4 z4 k4 P2 cR3 cG3 ct3 ct ft
    gi_wp2
    exact HF.out
  · have h3I : ¬ (told : Int) < 3 := by omega
    have h3d : decide ((told : Int) < 3) = false := by simpa using h3I
    have h3e : decide (told < 3) = false := by simpa using h3
    have H3 := hide h3
    have wT : wrap64 ((told : Int) + 1) = (told : Int) + 1 := wk5 _ (by omega) (by have h1 := HB.out.2.2.2.2.2.2.2.2.1; have h2 := HB.out.2.2.2.2.2.2.2.2.2.2; omega)
    have HF : Hid (ownPostG C (Kc KL) (LJ w bx b1 br bM bR mb rb B BA BB B1 B2 more lo hi bt M Ls) (fun _ _ _ => False) (pre ++ [xx]) V .normal { tmps := #[], defers := [] } ((W2).setCell ⟨bt, 0, none⟩ (.int .i64 ((told : Int) + 1)))) := hide (by
      obtain ⟨hB, hbt, hmb, hrb, n1, n2, n3⟩ := HW.out
      have K9 : Kp (Ld bt mb rb vv) V ((W2).setCell ⟨bt, 0, none⟩ (.int .i64 ((told : Int) + 1))) := (H2.out.2.2.2.2.2.1).trans (Kp.setCell _ ⟨bt, 0, none⟩ _) (fun _ _ e => .inl e)
      obtain ⟨p1, p2, p3, p4⟩ := ld_post HB.out.1 HB.out.2.1 HB.out.2.2.2.2.1 K9 hB hbt hmb hrb HB.out.2.2.2.2.2.1 HB.out.2.2.2.2.2.2.1 C
      refine ⟨p1, p2, delT xx.1 t, told + 1, (H2.out.1).box H2.out.2.2.2.2.1 (List.mem_cons_self ..) n1 n2 n3 _, ?_, ?_, ?_, p3, p4⟩
      · rw [set3 H2.out.2.2.2.2.1]; simp
      · have h1 := HB.out.2.2.2.2.2.2.2.2.1
        rw [List.length_append]; simp; omega
      · have h1 := HB.out.2.2.2.2.2.2.2.1
        have h2 := H2.out.2.2.2.2.2.2
        have h3 := H3.out
        omega)
    clear h3
    gi_wp2
    exact HF.out
end Go.Proofs.Ytchealdgncgjoaa.StI
