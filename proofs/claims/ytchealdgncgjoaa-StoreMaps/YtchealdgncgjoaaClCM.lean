import Derived.Test.YtchealdgncgjoaaClBM
import Derived.Test.YtchealdgncgjoaaBwB
namespace Go.Proofs.Ytchealdgncgjoaa.StM
open Go.RowKit Go.Proofs.Ytchealdgncgjoaa.St Go.Shelf Go.Sort Go.Proofs.Ytchealdgncgjoaa.It Go.Proofs.Ytchealdgncgjoaa.StI
attribute [local go_sem] Oper.semAt_some
set_option linter.unusedVariables false
set_option linter.unusedSimpArgs false
set_option maxRecDepth 100000 in
set_option maxHeartbeats 4000000 in
/-- Collect: the keys and the values, in rows of their own -/
theorem collect59 {bw : Nat} {wh : Int} {w : World} {mb : Nat} {t : T (Int × Int)} (hm : Mp bw wh w mb t) (hs : t.sz ≤ 17592186044000) :
    Calls Try.prog 59 #[.pointer (some ⟨mb, 0, none⟩)] w fun e w' => ∃ gk gv : Nat, e = .returned (.tuple #[.slice (some ⟨gk, 0, none⟩) t.sz t.sz, .slice (some ⟨gv, 0, none⟩) t.sz t.sz]) ∧ w'.ownsRow w.heap.size 3 1 (.slice (some ⟨gk, 0, none⟩) t.sz t.sz) t.sz (kv t.xs) ∧ w'.ownsRow w.heap.size 3 1 (.slice (some ⟨gv, 0, none⟩) t.sz t.sz) t.sz (vvs t.xs) ∧ gk ≠ gv ∧ Kp Nu w w' := by
  have mixed : Try.prog.follows .mixedOrders = true := by kernel_rfl
  obtain ⟨i3, hi3, hy0, hy1, hy2⟩ := info_parts info3s
  have LA := len_any hm
  have HBW : Hid (bw < w.heap.size) := hide (blk_lt hm.bx.1)
  obtain ⟨N, eN⟩ : ∃ N, t.sz = N := ⟨_, rfl⟩
  rw [eN] at LA hs ⊢
  obtain ⟨Wa, mka, moa, mga⟩ := run_make_own (P := Try.prog) w w.heap.size 47 3 i3 (.int .i64 0) 1 Try.underlying47 hi3 hy0 hy1 .i64 .i64 N (by rw [hy2]; omega) (by unfold maxLen; omega) (Nat.le_refl _)
  have ka : Kp Nu w Wa := (Kp.of_grown mga).mono (fun i _ e => by cases e)
  have kb := Kp.alloc Wa (.cells #[.slice (some ⟨w.heap.size, 0, none⟩) 0 N] 47) Nu
  have xb := heap_alloc_new Wa (.cells #[.slice (some ⟨w.heap.size, 0, none⟩) 0 N] 47)
  obtain ⟨Wb, eWb⟩ : ∃ Wb, Wa.alloc (.cells #[.slice (some ⟨w.heap.size, 0, none⟩) 0 N] 47) = Wb := ⟨_, rfl⟩
  rw [eWb] at kb xb
  have LB := len_any (hm.nu (ka.andNu kb))
  rw [eN] at LB
  obtain ⟨Wc, mkc, moc, mgc⟩ := run_make_own (P := Try.prog) Wb w.heap.size 47 3 i3 (.int .i64 0) 1 Try.underlying47 hi3 hy0 hy1 .i64 .i64 N (by rw [hy2]; omega) (by unfold maxLen; omega) (ka.andNu kb).size
  have kc : Kp Nu Wb Wc := (Kp.of_grown mgc).mono (fun i _ e => by cases e)
  have kd := Kp.alloc Wc (.cells #[.slice (some ⟨Wb.heap.size, 0, none⟩) 0 N] 47) Nu
  have xd := heap_alloc_new Wc (.cells #[.slice (some ⟨Wb.heap.size, 0, none⟩) 0 N] 47)
  obtain ⟨Wd, eWd⟩ : ∃ Wd, Wc.alloc (.cells #[.slice (some ⟨Wb.heap.size, 0, none⟩) 0 N] 47) = Wd := ⟨_, rfl⟩
  rw [eWd] at kd xd
  have AA := all_any Wd (some ⟨mb, 0, none⟩)
  have hsb : Wa.heap.size < Wb.heap.size := blk_lt xb
  have hsc := kc.size
  have HC0 : Hid (Cj Wd w.heap.size N Wa.heap.size Wc.heap.size w.heap.size Wb.heap.size [] ∧ Kp Nu w Wd ∧ Mp bw wh Wd mb t ∧ N ≤ 17592186044000) := hide ⟨⟨((kc.andNu kd).block _ (blk_lt xb) (fun h => h)).trans xb, xd,
    own_keep moa (fun g e => (((kb.andNu kc).andNu kd).block g (own_lt moa e) (fun h => h))), own_keep moc (fun g e => kd.block g (own_lt moc e) (fun h => h)), by have := ka.size; have := own_lt moa (g := w.heap.size) rfl; omega, by omega, ka.size, by have := ka.size; omega⟩, ((ka.andNu kb).andNu kc).andNu kd, hm.nu (((ka.andNu kb).andNu kc).andNu kd), hs⟩
  clear ka kb xb kc kd xd moa moc mga mgc hm hs hsb hsc
  refine (callsIn_wide (n := 4)).1 ?_
  refine callsIn_of_wp_marks Try.func59 rfl trivial ?_ rfl
  simp only [Try.ntmps59, List.size_toArray, List.length_cons, List.length_nil, Nat.reduceAdd, Nat.reduceSub, Array.replicate_succ, Array.replicate_zero, List.push_toArray, List.append_toArray, List.nil_append, List.cons_append]
  gi_wp2_with fail
  refine ⟨trivial, (callsIn_wide.2 LA).mono ?_⟩; rintro e w' ⟨rfl, hw⟩; obtain rfl := hw.symm
  gi_wp2_with fail
  refine ⟨trivial, (callsIn_wide.2 LB).mono ?_⟩; rintro e w' ⟨rfl, hw⟩; obtain rfl := hw.symm
  gi_wp2_with fail
  refine ⟨trivial, (callsIn_wide.2 AA).mono ?_⟩
  rintro e w5 ⟨rfl, hb5, k5⟩
  have SQ := all_q (HC0.out.2.2.1.nu k5) hb5 (by have := HC0.out.2.2.2; omega)
  have K5 : Kp Nu w w5 := HC0.out.2.1.andNu k5
  have HJ0 : Hid (Cj w5 w.heap.size N Wa.heap.size Wc.heap.size w.heap.size Wb.heap.size [] ∧ Mp bw wh w5 mb t ∧ Below w.heap.size w w5) := hide ⟨HC0.out.1.cc (Cc.nu k5), HC0.out.2.2.1.nu k5, K5.toBelow⟩
  have HS5 : Hid (w.heap.size ≤ w5.heap.size ∧ N ≤ 17592186044000 ∧ t.xs.length = N) := hide ⟨K5.size, HC0.out.2.2.2, by rw [T.xs_length]; exact eN⟩
  generalize Wa.heap.size = b4 at *
  generalize Wc.heap.size = b5 at *
  obtain ⟨gv, egv⟩ : ∃ g, Wb.heap.size = g := ⟨_, rfl⟩
  rw [egv] at HJ0 ⊢
  obtain ⟨gk, egk⟩ : ∃ g, w.heap.size = g := ⟨_, rfl⟩
  rw [show Cj w5 w.heap.size N b4 b5 w.heap.size gv [] = Cj w5 w.heap.size N b4 b5 gk gv [] by rw [← egk]] at HJ0
  rw [egk]
  clear HC0 LA LB AA mka mkc eWb eWd hb5 k5 K5 egk egv
  gi_wp2_with fail
  refine range_q (gf := 82) rfl (enters_of Try.func82 (by kernel_rfl) rfl) SQ (Below.refl _ _) (fun _ => rfl)
    (fun pre V' => Cj V' w.heap.size N b4 b5 gk gv pre ∧ Mp bw wh V' mb t ∧ Below w.heap.size w V') (fun _ _ _ => False)
    (fun pre X Z row hs hg hr => ⟨hs.1.cc (Cc.grown hg hr), cc_mp (Cc.grown hg hr) hs.2.1, ownFrom_below (β := Unit) (Nat.le_refl _) HS5.out.1 () X Z row hs.2.2 hg hr⟩)
    (fun _ _ _ _ _ hs _ _ => hs) HJ0.out
    (fun x a' V' => a' = { tmps := #[.pointer (some ⟨mb, 0, none⟩), undef, .slice none 0 0, .slice none 0 0, .pointer (some ⟨b4, 0, none⟩), .pointer (some ⟨b5, 0, none⟩), .int .i64 x.1, .int .i64 x.2, .pointer (some ⟨mb, 0, none⟩), .int .i64 (N : Int), .slice (some ⟨gk, 0, none⟩) 0 N, .pointer (some ⟨mb, 0, none⟩), .int .i64 (N : Int), .slice (some ⟨gv, 0, none⟩) 0 N, .pointer (some ⟨mb, 0, none⟩), .func (.func 82) #[] #[.pointer (some ⟨Wd.heap.size, 0, none⟩)], .int .i64 x.1, .int .i64 x.2, undef, undef, undef, undef, undef, undef, undef, undef, undef, undef], defers := [] }) (fun _ _ _ _ _ _ hs _ _ => hs)
    ?as0 ?bo ?dn (fun _ _ _ _ _ _ h _ => h.elim)
  case as0 =>
    rintro l' pre x V' R hI hR
    have HI := hide hI
    clear hI SQ
    gi_wp2
    exact hR _ _ (kf_nu _ (Kp.refl _ _)) (kc_nu (Kp.refl _ _)) HI.out rfl
  case bo =>
    rintro l' pre x a' V' hl' hq ⟨hC, hM, hB⟩ rfl hp
    obtain ⟨hx, hln⟩ := pre_at hp
    rw [HS5.out.2.2] at hln
    have c4 := cell1 hC.k
    have HJ := hide (And.intro hC (And.intro hM hB))
    have HO : Hid ((V'.alloc (.cells #[.int .i64 x.1] 3)).ownsRow w.heap.size 3 1 (.slice (some ⟨gk, 0, none⟩) pre.length N) pre.length (kv pre)) := hide (own_keep hC.ok (fun g e => (Kp.alloc V' (.cells #[.int .i64 x.1] 3) Nu).block g (own_lt hC.ok e) (fun h => h)))
    have HLE : Hid (pre.length + 1 ≤ N) := hide hln
    clear hC hM hB hp hx hln hq SQ HJ0
    gi_wp2_with (gi_at_builtin; refine unhidS ?_)
    refine wpListIn_append_fits _ rfl (.tmp 18) (.tmp 20) 47 rfl w.heap.size 3 i3 1 Try.underlying47 hi3 hy1 gk pre.length N (kv pre) rfl HO.out ⟨V'.heap.size, 0, none⟩ 1 1 [.int .i64 x.1] rfl rfl (cell_one_new V' _ _) (by simp [Value.oneCell']) HLE.out ?_
    intro V2 o2 g2
    obtain ⟨m1, m2, m3⟩ := cj_mid HJ.out.1 g2 (.slice (some ⟨gk, 0, none⟩) (pre.length + 1) N) (.cells #[.int .i64 x.2] 3)
    have c4' := cell1 m1
    have f4' := free3 m1 0
    have c5' := cell1 m2
    have H2 := hide (And.intro o2 (And.intro g2 m3))
    clear o2 g2 m1 m2 m3 c4
    gi_wp2_with (gi_at_builtin; refine unhidS ?_)
    refine wpListIn_append_fits _ rfl (.tmp 22) (.tmp 24) 47 rfl w.heap.size 3 i3 1 Try.underlying47 hi3 hy1 gv pre.length N (vvs pre) rfl H2.out.2.2 ⟨(V2.setCell ⟨b4, 0, none⟩ (.slice (some ⟨gk, 0, none⟩) (pre.length + 1) N)).heap.size, 0, none⟩ 1 1 [.int .i64 x.2] (by simp [Act.eval]) rfl (cell_one_new _ _ _) (by simp [Value.oneCell']) HLE.out ?_
    intro V4 o4 g4
    obtain ⟨j1, kk⟩ := cj_step HJ.out.1 H2.out.1 H2.out.2.1 o4 g4
    have m5 := cj_last (cj_mid HJ.out.1 H2.out.2.1 (.slice (some ⟨gk, 0, none⟩) (pre.length + 1) N) (.cells #[.int .i64 x.2] 3)).2.1 o4 g4 (cj_ne HJ.out.1)
    have c5'' := cell1 m5
    have f5'' := free3 m5 0
    have HP := hide (And.intro j1 kk)
    clear j1 kk m5 o4 g4 H2 c4' f4' c5'
    gi_wp2
    obtain ⟨p1, p2, p3⟩ := cj_post HJ.out.1 HP.out.2 HJ.out.2.1 (Nat.le_refl _) HJ.out.2.2 w5.heap.size
    exact ⟨p1, p2, HP.out.1, cj_mp HJ.out.1 HP.out.2 HJ.out.2.1 HBW.out, p3⟩
  case dn =>
    rintro D ys V' hD rfl ⟨hC, hM, hB⟩ hK'
    have hln := HS5.out.2.2
    have hk := hC.k
    have hv := hC.v
    rw [hln] at hk hv
    have c4 := cell1 hk
    have c5 := cell1 hv
    have d4 : V'.drew.cell? ⟨b4, 0, none⟩ = some (.slice (some ⟨gk, 0, none⟩) N N) := c4
    have d5 : V'.drew.cell? ⟨b5, 0, none⟩ = some (.slice (some ⟨gv, 0, none⟩) N N) := c5
    have HL6 : Hid (∀ D' ∈ [D], w.heap.size ≤ D' ∧ V'.drew.heap[D']? = some (.deferred (some []))) := hide (fun D' hD' => by
      obtain rfl : D' = D := by simpa using hD'
      exact ⟨Nat.le_trans HS5.out.1 hD, hK'⟩)
    have HR : Hid (∀ Z, Cc V'.drew Z → Kp (fun k => w.heap.size ≤ k) V'.drew Z → Z.ownsRow w.heap.size 3 1 (.slice (some ⟨gk, 0, none⟩) N N) N (kv t.xs) ∧ Z.ownsRow w.heap.size 3 1 (.slice (some ⟨gv, 0, none⟩) N N) N (vvs t.xs) ∧ gk ≠ gv ∧ Kp Nu w Z) := hide (fun Z hc hk => by
      have o1 := hC.ok
      have o2 := hC.ov
      rw [hln] at o1 o2
      exact ⟨hc.own o1, hc.own o2, hC.ne, ((Kp.of_below hB).drew).trans hk (fun i hi e => by have e : w.heap.size ≤ i := e; omega)⟩)
    clear hC hM hB hK' hk hv SQ HJ0 hln
    gi_wp2_with fail
    refine region_tight ?_
    gi_region_o
    all_goals (try gi_wp2_with fail)
    all_goals refine leaves_all [D] _ (by simp) HL6.out (fun Z hc hk => ?_)
    all_goals obtain ⟨z1, z2, z3⟩ := HR.out Z hc ⟨hk.os, hk.tape, hk.output, hk.size, hk.block⟩
    all_goals refine ⟨.tuple #[.slice (some ⟨gk, 0, none⟩) N N, .slice (some ⟨gv, 0, none⟩) N N], ?_, gk, gv, rfl, z1, z2, z3⟩
    all_goals simp [results, Try.results59, go_sem]
end Go.Proofs.Ytchealdgncgjoaa.StM
