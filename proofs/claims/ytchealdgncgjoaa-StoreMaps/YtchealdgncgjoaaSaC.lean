import Derived.Test.YtchealdgncgjoaaSaB
namespace Go.Proofs.Ytchealdgncgjoaa.StI
open Go.RowKit Go.Proofs.Ytchealdgncgjoaa.St Go.Shelf Go.Sort Go.Proofs.Ytchealdgncgjoaa.It Go.BigFrame
attribute [local go_sem] Oper.semAt_some
set_option linter.unusedVariables false
theorem kp_dn (w : World) (n : Nat) : Kp Nu w (w.drewN n) := ⟨rfl, rfl, rfl, Nat.le_refl _, fun _ _ _ => rfl⟩
section
variable {w V V' : World} {bs ba br bM bR bT bi mb rb B n1 : Nat} {vk vv : Value} {stop ahead told i : Int} {ks : List Int} {t t' : T (Int × Int)} {L : List (Int × Int)}
/-- the blocks that turn in a round -/
def Sd (bT bi mb : Nat) (vv : Value) (j : Nat) : Prop := j = bT ∨ j = bi ∨ j = mb ∨ vv.ownBlock = some j
theorem sd_cells (hS : Sa V bs ba br bM bR bT bi mb rb B vk vv stop ahead told i t L) {j : Nat} (h : Sd bT bi mb vv j) : ∃ c ty, V.heap[j]? = some (.cells c ty (0, 0)) ∧ (ty = 3 ∨ ty = 130) := by
  rcases h with rfl | rfl | rfl | h
  · exact ⟨_, _, hS.o, .inl rfl⟩
  · exact ⟨_, _, hS.c, .inl rfl⟩
  · obtain ⟨a, h1, _⟩ := hS.mp.ex
    exact ⟨_, _, h1, .inr rfl⟩
  · obtain ⟨cur, hc⟩ := own_obj hS.rm.ov h
    exact ⟨_, _, hc, .inl rfl⟩
theorem sd_mk {Ls : List Nat} (hS : Sa V bs ba br bM bR bT bi mb rb B vk vv stop ahead told i t L) (k : Kp (Sd bT bi mb vv) V V') (h : ∀ D ∈ Ls, V.heap[D]? = some (.deferred (some []))) : ∀ D ∈ Ls, V'.heap[D]? = some (.deferred (some [])) := fun D hD =>
  (k.block D (blk_lt (h D hD)) (fun e => by obtain ⟨c, ty, hc, _⟩ := sd_cells hS e; rw [h D hD] at hc; cases hc)).trans (h D hD)
theorem sd_low (x : Sx bs ba br bM bR bT bi mb rb B n1 vk vv) {j : Nat} (h : Sd bT bi mb vv j) : B ≤ j := by
  have := x.mB; have := x.m1; have := x.nM; have := x.MR; have := x.RT; have := x.Ti
  rcases h with rfl | rfl | rfl | h
  · omega
  · omega
  · omega
  · exact (x.vB _ h).1
theorem sd_post (x : Sx bs ba br bM bR bT bi mb rb B n1 vk vv) (hS : Sa V bs ba br bM bR bT bi mb rb B vk vv stop ahead told i t L) (k : Kp (Sd bT bi mb vv) V V') (hB : w.heap.size ≤ B) (hbel : Below w.heap.size w V) (C : Nat) : KeepsFrom C V V' ∧ Kc KL V V' ∧ Below w.heap.size w V' := by
  refine ⟨kf_cells k (fun j hj => ?_), kc_cells k (fun j c ty m hj h hK => ?_), ?_⟩
  · obtain ⟨c, ty, h, _⟩ := sd_cells hS hj
    exact ⟨c, ty, _, h⟩
  · obtain ⟨c', ty', h', e⟩ := sd_cells hS hj
    rw [h] at h'
    cases h'
    rcases hK with h | h | h | h <;> rcases e with e | e <;> rw [h] at e <;> cases e
  · exact ((Kp.of_below hbel).trans k (fun j hj e => by have := sd_low x e; omega)).toBelow
end
set_option maxRecDepth 100000 in
set_option maxHeartbeats 4000000 in
theorem sall_body {w V : World} {bs ba br bM bR bT bi mb rb B n1 l : Nat} {vk vv : Value} {stop ahead told : Int} {ks : List Int} {Ls : List Nat} {pre : List (Int × Int)} {xx : Int × Int} (x : Sx bs ba br bM bR bT bi mb rb B n1 vk vv) (hB : w.heap.size ≤ B) (hks : ks.length ≤ 17592186043904) (ht : 0 ≤ told ∧ told ≤ 17592186043904) (hJ : (SaJ w bs ba br bM bR bT bi mb rb B vk vv stop ahead told ks Ls) pre V) (hv : VlM mb xx V) (hp : (pre ++ [xx]).map Prod.fst <+: ks) (C : Nat) {t0 t1 t2 t3 t4 t5 t12 t14 t17 t18 t19 t20 t21 t22 t23 t24 t25 t26 t27 t28 t29 t30 t31 t32 t33 t34 t35 t36 t37 t38 t39 t40 t41 t42 t43 t44 t45 t46 t47 t48 t49 t50 t51 t52 t53 t54 t55 t56 t57 t58 t59 t60 t61 t62 t63 t64 t65 t66 t67 t68 t69 t70 t71 t72 t73 t74 t75 t76 t77 t78 t79 t80 t81 t82 t83 t84 t85 t86 t87 t88 t89 t90 t91 t92 t93 t94 t95 t96 t97 t98 t99 t100 t101 t102 t103 t104 t105 t106 t107 t108 t109 t110 t111 t112 t113 t114 t115 t116 t117 t118 t119 t120 t121 t122 t123 t124 t125 t126 t127 t128 t129 t130 t131 t132 t133 t134 t135 t136 t137 t138 t139 t140 t141 : Value} :
    (rd6 Try.f6).wpIn (Fence.wide.inRound l) 2 Try.prog (ownPostG C (Kc KL) (SaJ w bs ba br bM bR bT bi mb rb B vk vv stop ahead told ks Ls) (SaE w bs ba br bM bR bT bi mb rb B vk vv stop ahead told ks Ls 2) (pre ++ [xx]) V) { tmps := #[t0, t1, t2, t3, t4, t5, .pointer (some ⟨bs, 0, none⟩), .pointer (some ⟨ba, 0, none⟩), .pointer (some ⟨br, 0, none⟩), .pointer (some ⟨bM, 0, none⟩), .pointer (some ⟨bR, 0, none⟩), .pointer (some ⟨bT, 0, none⟩), t12, .pointer (some ⟨bi, 0, none⟩), t14, .int .i64 xx.1, .int .i64 xx.2, t17, t18, t19, t20, t21, t22, t23, t24, t25, t26, t27, t28, t29, t30, t31, t32, t33, t34, t35, t36, t37, t38, t39, t40, t41, t42, t43, t44, t45, t46, t47, t48, t49, t50, t51, t52, t53, t54, t55, t56, t57, t58, t59, t60, t61, t62, t63, t64, t65, t66, t67, t68, t69, t70, t71, t72, t73, t74, t75, t76, t77, t78, t79, t80, t81, t82, t83, t84, t85, t86, t87, t88, t89, t90, t91, t92, t93, t94, t95, t96, t97, t98, t99, t100, t101, t102, t103, t104, t105, t106, t107, t108, t109, t110, t111, t112, t113, t114, t115, t116, t117, t118, t119, t120, t121, t122, t123, t124, t125, t126, t127, t128, t129, t130, t131, t132, t133, t134, t135, t136, t137, t138, t139, t140, t141], defers := [] } V := by
  simp only [cL, cR, cI, rd6, Try.f6, Option.getD]
  have mixed : Try.prog.follows .mixedOrders = true := by kernel_rfl
  obtain ⟨t, hS, hk, hbel, hno, hmk⟩ := hJ
  have HMK := hide hmk
  have hx := told_at hS.mp hk hp hv
  have hlenK := keys_len hk
  obtain ⟨n, en⟩ : ∃ n, pre.length = n := ⟨_, rfl⟩
  obtain ⟨N, eN⟩ : ∃ N, t.xs.length = N := ⟨_, rfl⟩
  have hln : n < N := by rw [← en, ← eN]; exact (List.getElem?_eq_some_iff.1 hx).1
  rw [en] at hS hno hx
  obtain ⟨gk, capk, ek, dk⟩ := rowI_at (i := n) (u := .int .i64 xx.1) hS.rm.ok (by simp [kv]) (by simp [kv, hx])
  obtain ⟨gv, capv, ev, dv⟩ := rowI_at (i := n) (u := .int .i64 xx.2) hS.rm.ov (by simp [vvs]) (by simp [vvs, hx])
  rw [eN] at ek ev
  have hlp : ((pre ++ [xx]).length : Int) = (n : Int) + 1 := by rw [List.length_append, en]; simp
  have hN2 : (N : Int) ≤ 17592186043904 := by rw [← eN, hlenK.1]; omega
  have ci := cell1 hS.c
  have cr := cell1 hS.d
  obtain ⟨_, r1, r2⟩ := cell3 hS.rm.blk
  rw [ek] at r1
  rw [ev] at r2
  have hnI : (n : Int) < (N : Int) := by omega
  have hge : ¬ (n : Int) ≥ (N : Int) := by omega
  have hgd : decide ((n : Int) ≥ (N : Int)) = false := by simpa using hge
  have hn0 : (0 : Int) ≤ (n : Int) := by omega
  have hgN : ¬ N ≤ n := by omega
  have hdN : decide (N ≤ n) = false := by simpa using hgN
  have hdI : decide ((N : Int) ≤ (n : Int)) = false := by simpa using hgN
  have b1 : (xx.1 != xx.1) = false := by simp
  have b2 : (xx.2 != xx.2) = false := by simp
  have HB := hide (And.intro x (And.intro hS (And.intro hk (And.intro hbel (And.intro hno (And.intro hx (And.intro hlp (And.intro hB (And.intro ek (And.intro eN (And.intro hlenK hks)))))))))))
  have HT := hide (And.intro ht hN2)
  clear x hS hk hbel hno hx hlp hB eN hlenK hks hv hp en ht hmk
  gi_wp2
  refine Qr.quiet_round (by kernel_rfl) (by kernel_rfl) (by kernel_rfl) ?_
  iterate 29 (gi_big_quiet_step (fail))
  refine wpQuietIn_nil ?_
  intro _ hw'
  obtain ⟨nq, hw''⟩ := hw'
  subst hw''
  have k1 := kp_dn V nq
  generalize V.drewN nq = V1 at k1 ⊢
  have S1 := HB.out.2.1.cc (Cc.nu k1)
  have cT := cell1 S1.o
  have fT := free3 S1.o 0
  have wT : wrap64 (told + (n : Int) + 1) = told + (n : Int) + 1 := by have := HT.out; unfold wrap64; omega
  have S2 := S1.tell HB.out.1 (told + (n : Int) + 1)
  have ci2 := cell1 S2.c
  have cs2 := cell1 S2.s
  have K2 : Kp (Sd bT bi mb vv) V (V1.setCell ⟨bT, 0, none⟩ (.int .i64 (told + (n : Int) + 1))) := (k1.mono (fun _ _ e => e.elim)).trans (Kp.setCell V1 ⟨bT, 0, none⟩ _) (fun _ _ e => .inl e)
  have H2 := hide (And.intro S2 K2)
  clear dk dv ci cr r1 r2 hge hgd hgN hdN hdI b1 b2 k1 S1 S2 K2
  by_cases hst : (n : Int) = stop
  · have hsb : ((n : Int) == stop) = true := by simpa using hst
    have HST := hide hst
    have HPO : Hid (ownPostG C (Kc KL) (SaJ w bs ba br bM bR bT bi mb rb B vk vv stop ahead told ks Ls) (SaE w bs ba br bM bR bT bi mb rb B vk vv stop ahead told ks Ls 2) (pre ++ [xx]) V (.exit 2) { tmps := #[], defers := [] } (V1.setCell ⟨bT, 0, none⟩ (.int .i64 (told + (n : Int) + 1)))) := by
      obtain ⟨x, hS, hk, hbel, hno, hx, hlp, hB, _⟩ := HB.out
      obtain ⟨p1, p2, p3⟩ := sd_post x hS H2.out.2 hB hbel C
      refine hide ⟨p1, rfl, t, ?_, hk, p3, by rw [hlp]; omega, by simp, sd_mk hS H2.out.2 HMK.out⟩
      rw [hlp, ← Int.add_assoc]
      have := H2.out.1
      rw [hst] at this ⊢
      exact this
    clear hst
    gi_wp2
    exact HPO.out
  · have hsb : ((n : Int) == stop) = false := by simpa using hst
    have HST := hide hst
    have wI : wrap64 ((n : Int) + 1) = (n : Int) + 1 := by have := HT.out; unfold wrap64; omega
    have FIN : Hid (∀ (t' : T (Int × Int)) (V9 : World) (a' : Act), Sa V9 bs ba br bM bR bT bi mb rb B vk vv stop ahead (told + (n : Int) + 1) (n : Int) t' t'.xs → t'.xs.map Prod.fst = ks → Kp (Sd bT bi mb vv) V V9 → ownPostG C (Kc KL) (SaJ w bs ba br bM bR bT bi mb rb B vk vv stop ahead told ks Ls) (SaE w bs ba br bM bR bT bi mb rb B vk vv stop ahead told ks Ls 2) (pre ++ [xx]) V .normal a' (V9.setCell ⟨bi, 0, none⟩ (.int .i64 ((n : Int) + 1)))) := hide (fun t' V9 a' h9 hk9 k9 => by
      obtain ⟨x, hS, hk, hbel, hno, hx, hlp, hB, _⟩ := HB.out
      have k10 : Kp (Sd bT bi mb vv) V (V9.setCell ⟨bi, 0, none⟩ (.int .i64 ((n : Int) + 1))) := k9.trans (Kp.setCell V9 ⟨bi, 0, none⟩ _) (fun _ _ e => .inr (.inl e))
      obtain ⟨p1, p2, p3⟩ := sd_post x hS k10 hB hbel C
      refine ⟨p1, p2, t', ?_, hk9, p3, ?_, sd_mk hS k10 HMK.out⟩
      · rw [hlp, ← Int.add_assoc]
        exact h9.step x _
      · rw [hlp]
        have := HST.out
        omega)
    clear hst
    have ca2 := cell1 H2.out.1.a
    have cr2 := cell1 H2.out.1.d
    have q1 := (cell3 H2.out.1.rm.blk).2.1
    rw [ek] at q1
    have wN : wrap64 ((N : Int) - (n : Int)) = (N : Int) - (n : Int) := by have := HT.out; unfold wrap64; omega
    have wN' : IntKind.i64.wrap ((N : Int) - (n : Int)) = (N : Int) - (n : Int) := by have := HT.out; rw [IntKind.wrap_i64]; omega
    by_cases ha : 0 < ahead
    rotate_left
    · have d1 : decide (ahead > 0) = false := by simpa using ha
      have d1' : decide (0 < ahead) = false := by simpa using ha
      gi_wp2
      refine Qr.quiet_round (by kernel_rfl) (by kernel_rfl) (by kernel_rfl) ?_
      iterate 17 (gi_big_quiet_step (fail))
      refine wpQuietIn_nil ?_
      intro _ hw'
      obtain ⟨nq2, hw''⟩ := hw'
      subst hw''
      have k3 := kp_dn (V1.setCell ⟨bT, 0, none⟩ (.int .i64 (told + (n : Int) + 1))) nq2
      generalize (V1.setCell ⟨bT, 0, none⟩ (.int .i64 (told + (n : Int) + 1))).drewN nq2 = V3 at k3 ⊢
      have S3 := H2.out.1.cc (Cc.nu k3)
      have K3 : Kp (Sd bT bi mb vv) V V3 := H2.out.2.trans (k3.mono (fun _ _ e => e.elim)) (fun _ _ e => e)
      have ci3 := cell1 S3.c
      have fi3 := free3 S3.c 0
      have HF := FIN.out t V3
      have H3 := hide (And.intro S3 K3)
      clear S3 K3 k3 FIN
      gi_wp2
      exact HF _ H3.out.1 HB.out.2.2.1 H3.out.2
    have d1 : decide (ahead > 0) = true := by simpa using ha
    have d1' : decide (0 < ahead) = true := by simpa using ha
    by_cases hb : ahead < (N : Int) - (n : Int)
    rotate_left
    · have d2 : decide (ahead < (N : Int) - (n : Int)) = false := by simpa using hb
      gi_wp2
      refine Qr.quiet_round (by kernel_rfl) (by kernel_rfl) (by kernel_rfl) ?_
      iterate 17 (gi_big_quiet_step (fail))
      refine wpQuietIn_nil ?_
      intro _ hw'
      obtain ⟨nq2, hw''⟩ := hw'
      subst hw''
      have k3 := kp_dn (V1.setCell ⟨bT, 0, none⟩ (.int .i64 (told + (n : Int) + 1))) nq2
      generalize (V1.setCell ⟨bT, 0, none⟩ (.int .i64 (told + (n : Int) + 1))).drewN nq2 = V3 at k3 ⊢
      have S3 := H2.out.1.cc (Cc.nu k3)
      have K3 : Kp (Sd bT bi mb vv) V V3 := H2.out.2.trans (k3.mono (fun _ _ e => e.elim)) (fun _ _ e => e)
      have ci3 := cell1 S3.c
      have fi3 := free3 S3.c 0
      have HF := FIN.out t V3
      have H3 := hide (And.intro S3 K3)
      clear S3 K3 k3 FIN
      gi_wp2
      exact HF _ H3.out.1 HB.out.2.2.1 H3.out.2
    have d2 : decide (ahead < (N : Int) - (n : Int)) = true := by simpa using hb
    by_cases hc : n < 40
    rotate_left
    · have hcI : ¬ (n : Int) < 40 := by omega
      have d3 : decide ((n : Int) < 40) = false := by simpa using hcI
      have d3' : decide (n < 40) = false := by simpa using hc
      gi_wp2
      refine Qr.quiet_round (by kernel_rfl) (by kernel_rfl) (by kernel_rfl) ?_
      iterate 17 (gi_big_quiet_step (fail))
      refine wpQuietIn_nil ?_
      intro _ hw'
      obtain ⟨nq2, hw''⟩ := hw'
      subst hw''
      have k3 := kp_dn (V1.setCell ⟨bT, 0, none⟩ (.int .i64 (told + (n : Int) + 1))) nq2
      generalize (V1.setCell ⟨bT, 0, none⟩ (.int .i64 (told + (n : Int) + 1))).drewN nq2 = V3 at k3 ⊢
      have S3 := H2.out.1.cc (Cc.nu k3)
      have K3 : Kp (Sd bT bi mb vv) V V3 := H2.out.2.trans (k3.mono (fun _ _ e => e.elim)) (fun _ _ e => e)
      have ci3 := cell1 S3.c
      have fi3 := free3 S3.c 0
      have HF := FIN.out t V3
      have H3 := hide (And.intro S3 K3)
      clear S3 K3 k3 FIN
      gi_wp2
      exact HF _ H3.out.1 HB.out.2.2.1 H3.out.2
    · have hcI : (n : Int) < 40 := by omega
      have d3 : decide ((n : Int) < 40) = true := by simpa using hcI
      have d3' : decide (n < 40) = true := by simpa using hc
      gi_wp2
      refine Qr.quiet_round (by kernel_rfl) (by kernel_rfl) (by kernel_rfl) ?_
      iterate 17 (gi_big_quiet_step (fail))
      refine wpQuietIn_nil ?_
      intro _ hw'
      obtain ⟨nq2, hw''⟩ := hw'
      subst hw''
      have k3 := kp_dn (V1.setCell ⟨bT, 0, none⟩ (.int .i64 (told + (n : Int) + 1))) nq2
      generalize (V1.setCell ⟨bT, 0, none⟩ (.int .i64 (told + (n : Int) + 1))).drewN nq2 = V3 at k3 ⊢
      have S3 := H2.out.1.cc (Cc.nu k3)
      have K3 : Kp (Sd bT bi mb vv) V V3 := H2.out.2.trans (k3.mono (fun _ _ e => e.elim)) (fun _ _ e => e)
      have ci3 := cell1 S3.c
      have fi3 := free3 S3.c 0
      obtain ⟨jj, ejj⟩ : ∃ jj : Nat, (n : Int) + ahead = (jj : Int) := ⟨((n : Int) + ahead).toNat, by omega⟩
      have hjN : jj < t.xs.length := by rw [HB.out.2.2.2.2.2.2.2.2.2.1]; omega
      obtain ⟨pj, hpj⟩ : ∃ pj, t.xs[jj]? = some pj := ⟨_, List.getElem?_eq_getElem hjN⟩
      obtain ⟨y1, y2, y3⟩ := put_keys HB.out.2.1.mp.srt hpj (1000 + (n : Int))
      obtain ⟨rk, ck, erk, cX⟩ := rowI_at (i := jj) (u := .int .i64 pj.1) S3.rm.ok (by simp [kv]) (by simp [kv, hpj])
      have egk : rk = gk ∧ ck = capk := by
        rw [ek] at erk
        simp only [Value.slice.injEq, Option.some.injEq, Addr.mk.injEq, and_true] at erk
        exact ⟨erk.1.symm, erk.2.2.symm⟩
      obtain ⟨rfl, rfl⟩ := egk
      have hsz : t.sz + 1 < 2 ^ 62 := by have h1 := HB.out.2.2.2.2.2.2.2.2.2.2.1.2; have h2 := HB.out.2.2.2.2.2.2.2.2.2.2.2; omega
      have hlx : t.xs.length ≤ 17592186043904 := by have h1 := HB.out.2.2.2.2.2.2.2.2.2.2.1.1; have h2 := HB.out.2.2.2.2.2.2.2.2.2.2.2; omega
      have z1 := (cell3 S3.rm.blk).2.1
      rw [ek] at z1
      have w1 : IntKind.i64.wrap ((n : Int) + ahead) = (n : Int) + ahead := by have := HT.out; rw [IntKind.wrap_i64]; omega
      have w2 : IntKind.i64.wrap (1000 + (n : Int)) = 1000 + (n : Int) := by rw [IntKind.wrap_i64]; omega
      have h0 : 0 ≤ (n : Int) + ahead := by omega
      have h1 : (n : Int) + ahead < (N : Int) := by omega
      have hj : ((n : Int) + ahead).toNat = jj := by omega
      have C18 : ∀ W, Kp Nu V3 W → Calls Try.prog 17 #[.pointer (some ⟨mb, 0, none⟩), .int .i64 pj.1, .int .i64 (1000 + (n : Int))] W fun e w' => e = .returned (.tuple #[ov (getT pj.1 t), .bool (T.fd (sd pj.1) t).2]) ∧ (Mp w' mb (putT pj.1 (1000 + (n : Int)) t) ∧ Kp (fun j => j = mb) V3 w') := fun W k => by
        refine (put_any (S3.mp.nu k) pj.1 (1000 + (n : Int)) hsz).mono ?_
        rintro e w' ⟨e1, e2, e3⟩
        exact ⟨e1, e2, (k.mono (fun _ _ e => e.elim)).trans e3 (fun _ _ e => e)⟩
      have HY := hide (And.intro y1 (And.intro y2 (And.intro y3 (And.intro hpj hlx))))
      have H3 := hide (And.intro S3 K3)
      have i1 := cell1 S3.m
      have i2 := cell1 S3.d
      have i3 := cell1 S3.a
      clear y1 y2 y3 hpj hlx S3 K3 k3 hjN hsz
      gi_wp2_with fail
      refine rgn18 (bM := bM) (bR := bR) (ba := ba) (bi := bi) (rb := rb) (gk := rk) (NN := N) (cap := ck) (jj := jj) i1 i2 z1 ci3 i3 cX h0 h1 hj w1 w2 (hide (by omega)) C18 ?_
      rintro V4 ⟨m4, k4⟩
      have S4 := H3.out.1.put m4 k4
      have K4 : Kp (Sd bT bi mb vv) V V4 := H3.out.2.trans k4 (fun _ _ e => .inr (.inr (.inl e)))
      obtain ⟨rk4, ck4, erk4, cX4⟩ := rowI_at (i := jj) (u := .int .i64 pj.1) S4.rm.ok (by simp [kv]) (by simp [kv, HY.out.2.2.2.1])
      have egk4 : rk4 = rk ∧ ck4 = ck := by
        rw [ek] at erk4
        simp only [Value.slice.injEq, Option.some.injEq, Addr.mk.injEq, and_true] at erk4
        exact ⟨erk4.1.symm, erk4.2.2.symm⟩
      obtain ⟨rfl, rfl⟩ := egk4
      have z4 := (cell3 S4.rm.blk).2.1
      rw [ek] at z4
      have C19 : ∀ W, Kp Nu V4 W → Calls Try.prog 36 #[.pointer (some ⟨rb, 0, none⟩), .int .i64 pj.1, .int .i64 (1000 + (n : Int))] W fun e w' => e = .returned (.tuple #[.int .i64 pj.2, .bool true]) ∧ (Rm B w' rb 0 vk vv (t.xs.modify jj (fun q => (q.1, 1000 + (n : Int)))) ∧ Kp (fun j => vv.ownBlock = some j) V4 w') := fun W k => by
        obtain ⟨_, _, y3, hpj, hlx⟩ := HY.out
        refine (rput_old (S4.rm.nu k) order_0 pj.1 (1000 + (n : Int)) hlx jj pj y3 hpj).mono ?_
        rintro e w' ⟨e1, e2, e3⟩
        exact ⟨e1, e2, (k.mono (fun _ _ e => e.elim)).trans e3 (fun _ _ e => e)⟩
      have H4 := hide (And.intro S4 K4)
      have i4 := cell1 S4.m
      have i5 := cell1 S4.d
      have i6 := cell1 S4.a
      have i7 := cell1 S4.c
      clear S4 K4 m4 k4 C18 i1 i2 z1 ci3 i3 cX erk4 erk
      gi_wp2_with fail
      refine rgn19 (mb := mb) (bM := bM) (bR := bR) (ba := ba) (bi := bi) (rb := rb) (gk := rk4) (NN := N) (cap := ck4) (jj := jj) i4 i5 z4 i7 i6 cX4 h0 h1 hj w1 w2 (hide (by omega)) C19 ?_
      rintro V5 ⟨r5, k5⟩
      have S5 := H4.out.1.rput HB.out.1 r5 k5
      rw [← HY.out.1] at S5
      have K5 : Kp (Sd bT bi mb vv) V V5 := H4.out.2.trans k5 (fun _ _ e => .inr (.inr (.inr e)))
      have ci5 := cell1 S5.c
      have fi5 := free3 S5.c 0
      have HF := FIN.out (putT pj.1 (1000 + (n : Int)) t) V5
      have H5 := hide (And.intro S5 K5)
      clear S5 K5 r5 k5 C19 FIN i4 i5 i6 i7 z4 cX4
      gi_wp2
      exact HF _ H5.out.1 (HY.out.2.1.trans HB.out.2.2.1) H5.out.2
end Go.Proofs.Ytchealdgncgjoaa.StI
