import Derived.Test.YtchealdgncgjoaaClBM
import Derived.Test.YtchealdgncgjoaaMpBM
import Derived.Test.YtchealdgncgjoaaMpCM
import Derived.Test.YtchealdgncgjoaaRnD
import Derived.Test.YtchealdgncgjoaaRnE
import Derived.Test.YtchealdgncgjoaaRnF
import Derived.BigQuiet
import Derived.Deep.AppendLies
import Derived.Deep.RegionLaw
namespace Go.Proofs.Ytchealdgncgjoaa.StM
open Go.RowKit Go.Proofs.Ytchealdgncgjoaa.St Go.Shelf Go.Sort Go.Proofs.Ytchealdgncgjoaa.It Go.Proofs.Ytchealdgncgjoaa.StI
attribute [local go_sem] Oper.semAt_some
set_option linter.unusedVariables false
set_option linter.unusedSimpArgs false
theorem region_tight {F : Fence} {n : Nat} {P : Program} {c : Code} {K : Act → World → Prop} {Q : Exit → Act → World → Prop} {a : Act} {w : World} (h : c.wpIn F n P (Exit.then K (fun _ _ _ => False)) a w) : c.wpIn F n P (Exit.then K Q) a w :=
  Code.wpIn_mono (fun e a w h => by cases e <;> first | exact h | exact h.elim) h
set_option maxRecDepth 100000 in
set_option maxHeartbeats 4000000 in
/-- Collect: the keys and the values, in rows of their own -/
theorem collect59 {bw : Nat} {wh : Int} {w : World} {mb : Nat} {t : T (Int × Int)} (hm : Mp bw wh w mb t) (hs : t.sz ≤ 17592186044000) :
    Calls Try.prog 59 #[.pointer (some ⟨mb, 0, none⟩)] w fun e w' => ∃ gk gv : Nat, e = .returned (.tuple #[.slice (some ⟨gk, 0, none⟩) t.sz t.sz, .slice (some ⟨gv, 0, none⟩) t.sz t.sz]) ∧ w'.ownsRow w.heap.size 3 1 (.slice (some ⟨gk, 0, none⟩) t.sz t.sz) t.sz (kv t.xs) ∧ w'.ownsRow w.heap.size 3 1 (.slice (some ⟨gv, 0, none⟩) t.sz t.sz) t.sz (vvs t.xs) ∧ gk ≠ gv ∧ Kp Nu w w' := by
  have mixed : Try.prog.follows .mixedOrders = true := by kernel_rfl
  obtain ⟨i3, hi3, hy0, hy1, hy2⟩ := info_parts info3s
  have LA := len_any hm
  have HBW : Hid (bw < w.heap.size) := hide (blk_lt hm.bx.1)
  obtain ⟨N, eN⟩ : ∃ N, t.sz = N := ⟨_, rfl⟩
  rw [eN] at LA hs ⊢
  obtain ⟨Wa, mka, moa, mga⟩ := run_make_own (P := Try.prog) w w.heap.size 47 3 i3 (.int .i64 0) 1 Try.underlying47 hi3 hy0 hy1 .i64 .i64 N (by rw [hy2]; omega) (by unfold maxLen; omega) (Nat.le_refl _)
  have ka : Kp Nu w Wa := (Kp.of_grown mga).mono (fun i _ e => by cases e)
  have kb := Kp.alloc Wa (.cells #[.slice (some ⟨w.heap.size, 0, none⟩) 0 N] 47) Nu
  have xb := heap_alloc_new Wa (.cells #[.slice (some ⟨w.heap.size, 0, none⟩) 0 N] 47)
  obtain ⟨Wb, eWb⟩ : ∃ Wb, Wa.alloc (.cells #[.slice (some ⟨w.heap.size, 0, none⟩) 0 N] 47) = Wb := ⟨_, rfl⟩
  rw [eWb] at kb xb
  have LB := len_any (hm.nu (ka.andNu kb))
  rw [eN] at LB
  obtain ⟨Wc, mkc, moc, mgc⟩ := run_make_own (P := Try.prog) Wb w.heap.size 47 3 i3 (.int .i64 0) 1 Try.underlying47 hi3 hy0 hy1 .i64 .i64 N (by rw [hy2]; omega) (by unfold maxLen; omega) (ka.andNu kb).size
  have kc : Kp Nu Wb Wc := (Kp.of_grown mgc).mono (fun i _ e => by cases e)
  have kd := Kp.alloc Wc (.cells #[.slice (some ⟨Wb.heap.size, 0, none⟩) 0 N] 47) Nu
  have xd := heap_alloc_new Wc (.cells #[.slice (some ⟨Wb.heap.size, 0, none⟩) 0 N] 47)
  obtain ⟨Wd, eWd⟩ : ∃ Wd, Wc.alloc (.cells #[.slice (some ⟨Wb.heap.size, 0, none⟩) 0 N] 47) = Wd := ⟨_, rfl⟩
  rw [eWd] at kd xd
  have AA := all_any Wd (some ⟨mb, 0, none⟩)
  have hsb : Wa.heap.size < Wb.heap.size := blk_lt xb
  have hsc := kc.size
  have HC0 : Hid (Cj Wd w.heap.size N Wa.heap.size Wc.heap.size w.heap.size Wb.heap.size [] ∧ Kp Nu w Wd ∧ Mp bw wh Wd mb t ∧ N ≤ 17592186044000) := hide ⟨⟨((kc.andNu kd).block _ (blk_lt xb) (fun h => h)).trans xb, xd,
    own_keep moa (fun g e => (((kb.andNu kc).andNu kd).block g (own_lt moa e) (fun h => h))), own_keep moc (fun g e => kd.block g (own_lt moc e) (fun h => h)), by have := ka.size; have := own_lt moa (g := w.heap.size) rfl; omega, by omega, ka.size, by have := ka.size; omega⟩, ((ka.andNu kb).andNu kc).andNu kd, hm.nu (((ka.andNu kb).andNu kc).andNu kd), hs⟩
  clear ka kb xb kc kd xd moa moc mga mgc hm hs hsb hsc
  refine (callsIn_wide (n := 4)).1 ?_
  refine callsIn_of_wp_marks Try.func59 rfl trivial ?_ rfl
  simp only [Try.ntmps59, List.size_toArray, List.length_cons, List.length_nil, Nat.reduceAdd, Nat.reduceSub, Array.replicate_succ, Array.replicate_zero, List.push_toArray, List.append_toArray, List.nil_append, List.cons_append]
  gi_wp2_with fail
  refine ⟨trivial, (callsIn_wide.2 LA).mono ?_⟩; rintro e w' ⟨rfl, hw⟩; obtain rfl := hw.symm
  gi_wp2_with fail
  refine ⟨trivial, (callsIn_wide.2 LB).mono ?_⟩; rintro e w' ⟨rfl, hw⟩; obtain rfl := hw.symm
  gi_wp2_with fail
  refine ⟨trivial, (callsIn_wide.2 AA).mono ?_⟩
  rintro e w5 ⟨rfl, hb5, k5⟩
  have SQ := all_q (HC0.out.2.2.1.nu k5) hb5 (by have := HC0.out.2.2.2; omega)
  have K5 : Kp Nu w w5 := HC0.out.2.1.andNu k5
  have HJ0 : Hid (Cj w5 w.heap.size N Wa.heap.size Wc.heap.size w.heap.size Wb.heap.size [] ∧ Mp bw wh w5 mb t ∧ Below w.heap.size w w5) := hide ⟨HC0.out.1.cc (Cc.nu k5), HC0.out.2.2.1.nu k5, K5.toBelow⟩
  have HS5 : Hid (w.heap.size ≤ w5.heap.size ∧ N ≤ 17592186044000 ∧ t.xs.length = N) := hide ⟨K5.size, HC0.out.2.2.2, by rw [T.xs_length]; exact eN⟩
  generalize Wa.heap.size = b4 at *
  generalize Wc.heap.size = b5 at *
  obtain ⟨gv, egv⟩ : ∃ g, Wb.heap.size = g := ⟨_, rfl⟩
  rw [egv] at HJ0 ⊢
  obtain ⟨gk, egk⟩ : ∃ g, w.heap.size = g := ⟨_, rfl⟩
  rw [show Cj w5 w.heap.size N b4 b5 w.heap.size gv [] = Cj w5 w.heap.size N b4 b5 gk gv [] by rw [← egk]] at HJ0
  rw [egk]
  clear HC0 LA LB AA mka mkc eWb eWd hb5 k5 K5 egk egv
  gi_wp2_with fail
  refine range_q (gf := 82) rfl (enters_of Try.func82 (by kernel_rfl) rfl) SQ (Below.refl _ _) (fun _ => rfl)
    (fun pre V' => Cj V' w.heap.size N b4 b5 gk gv pre ∧ Mp bw wh V' mb t ∧ Below w.heap.size w V') (fun _ _ _ => False)
    (fun pre X Z row hs hg hr => ⟨hs.1.cc (Cc.grown hg hr), cc_mp (Cc.grown hg hr) hs.2.1, ownFrom_below (β := Unit) (Nat.le_refl _) HS5.out.1 () X Z row hs.2.2 hg hr⟩)
    (fun _ _ _ _ _ hs _ _ => hs) HJ0.out
    (fun x a' V' => a' = { tmps := #[.pointer (some ⟨mb, 0, none⟩), undef, .slice none 0 0, .slice none 0 0, .pointer (some ⟨b4, 0, none⟩), .pointer (some ⟨b5, 0, none⟩), .int .i64 x.1, .int .i64 x.2, .pointer (some ⟨mb, 0, none⟩), .int .i64 (N : Int), .slice (some ⟨gk, 0, none⟩) 0 N, .pointer (some ⟨mb, 0, none⟩), .int .i64 (N : Int), .slice (some ⟨gv, 0, none⟩) 0 N, .pointer (some ⟨mb, 0, none⟩), .func (.func 82) #[] #[.pointer (some ⟨Wd.heap.size, 0, none⟩)], .int .i64 x.1, .int .i64 x.2, undef, undef, undef, undef, undef, undef, undef, undef, undef, undef], defers := [] }) (fun _ _ _ _ _ _ hs _ _ => hs)
    ?as0 ?bo ?dn (fun _ _ _ _ _ _ h _ => h.elim)
  case as0 =>
    rintro l' pre x V' R hI hR
    have HI := hide hI
    clear hI SQ
    gi_wp2
    exact hR _ _ (kf_nu _ (Kp.refl _ _)) (kc_nu (Kp.refl _ _)) HI.out rfl
  case bo =>
    rintro l' pre x a' V' hl' hq ⟨hC, hM, hB⟩ rfl hp
    obtain ⟨hx, hln⟩ := pre_at hp
    rw [HS5.out.2.2] at hln
    have c4 := cell1 hC.k
    have HJ := hide (And.intro hC (And.intro hM hB))
    have HO : Hid ((V'.alloc (.cells #[.int .i64 x.1] 3)).ownsRow w.heap.size 3 1 (.slice (some ⟨gk, 0, none⟩) pre.length N) pre.length (kv pre)) := hide (own_keep hC.ok (fun g e => (Kp.alloc V' (.cells #[.int .i64 x.1] 3) Nu).block g (own_lt hC.ok e) (fun h => h)))
    have HLE : Hid (pre.length + 1 ≤ N) := hide hln
    clear hC hM hB hp hx hln hq SQ HJ0
    gi_wp2_with (gi_at_builtin; refine unhidS ?_)
    refine wpListIn_append_fits _ rfl (.tmp 18) (.tmp 20) 47 rfl w.heap.size 3 i3 1 Try.underlying47 hi3 hy1 gk pre.length N (kv pre) rfl HO.out ⟨V'.heap.size, 0, none⟩ 1 1 [.int .i64 x.1] rfl rfl (cell_one_new V' _ _) (by simp [Value.oneCell']) HLE.out ?_
    intro V2 o2 g2
    obtain ⟨m1, m2, m3⟩ := cj_mid HJ.out.1 g2 (.slice (some ⟨gk, 0, none⟩) (pre.length + 1) N) (.cells #[.int .i64 x.2] 3)
    have c4' := cell1 m1
    have f4' := free3 m1 0
    have c5' := cell1 m2
    have H2 := hide (And.intro o2 (And.intro g2 m3))
    clear o2 g2 m1 m2 m3 c4
    gi_wp2_with (gi_at_builtin; refine unhidS ?_)
    refine wpListIn_append_fits _ rfl (.tmp 22) (.tmp 24) 47 rfl w.heap.size 3 i3 1 Try.underlying47 hi3 hy1 gv pre.length N (vvs pre) rfl H2.out.2.2 ⟨(V2.setCell ⟨b4, 0, none⟩ (.slice (some ⟨gk, 0, none⟩) (pre.length + 1) N)).heap.size, 0, none⟩ 1 1 [.int .i64 x.2] (by simp [Act.eval]) rfl (cell_one_new _ _ _) (by simp [Value.oneCell']) HLE.out ?_
    intro V4 o4 g4
    obtain ⟨j1, kk⟩ := cj_step HJ.out.1 H2.out.1 H2.out.2.1 o4 g4
    have m5 := cj_last (cj_mid HJ.out.1 H2.out.2.1 (.slice (some ⟨gk, 0, none⟩) (pre.length + 1) N) (.cells #[.int .i64 x.2] 3)).2.1 o4 g4 (cj_ne HJ.out.1)
    have c5'' := cell1 m5
    have f5'' := free3 m5 0
    have HP := hide (And.intro j1 kk)
    clear j1 kk m5 o4 g4 H2 c4' f4' c5'
    gi_wp2
    obtain ⟨p1, p2, p3⟩ := cj_post HJ.out.1 HP.out.2 HJ.out.2.1 (Nat.le_refl _) HJ.out.2.2 w5.heap.size
    exact ⟨p1, p2, HP.out.1, cj_mp HJ.out.1 HP.out.2 HJ.out.2.1 HBW.out, p3⟩
  case dn =>
    rintro D ys V' hD rfl ⟨hC, hM, hB⟩ hK'
    have hln := HS5.out.2.2
    have hk := hC.k
    have hv := hC.v
    rw [hln] at hk hv
    have c4 := cell1 hk
    have c5 := cell1 hv
    have d4 : V'.drew.cell? ⟨b4, 0, none⟩ = some (.slice (some ⟨gk, 0, none⟩) N N) := c4
    have d5 : V'.drew.cell? ⟨b5, 0, none⟩ = some (.slice (some ⟨gv, 0, none⟩) N N) := c5
    have HL6 : Hid (∀ D' ∈ [D], w.heap.size ≤ D' ∧ V'.drew.heap[D']? = some (.deferred (some []))) := hide (fun D' hD' => by
      obtain rfl : D' = D := by simpa using hD'
      exact ⟨Nat.le_trans HS5.out.1 hD, hK'⟩)
    have HR : Hid (∀ Z, Cc V'.drew Z → Kp (fun k => w.heap.size ≤ k) V'.drew Z → Z.ownsRow w.heap.size 3 1 (.slice (some ⟨gk, 0, none⟩) N N) N (kv t.xs) ∧ Z.ownsRow w.heap.size 3 1 (.slice (some ⟨gv, 0, none⟩) N N) N (vvs t.xs) ∧ gk ≠ gv ∧ Kp Nu w Z) := hide (fun Z hc hk => by
      have o1 := hC.ok
      have o2 := hC.ov
      rw [hln] at o1 o2
      exact ⟨hc.own o1, hc.own o2, hC.ne, ((Kp.of_below hB).drew).trans hk (fun i hi e => by have e : w.heap.size ≤ i := e; omega)⟩)
    clear hC hM hB hK' hk hv SQ HJ0 hln
    gi_wp2_with fail
    refine region_tight ?_
    gi_region_o
    all_goals (try gi_wp2_with fail)
    all_goals refine leaves_all [D] _ (by simp) HL6.out (fun Z hc hk => ?_)
    all_goals obtain ⟨z1, z2, z3⟩ := HR.out Z hc ⟨hk.os, hk.tape, hk.output, hk.size, hk.block⟩
    all_goals refine ⟨.tuple #[.slice (some ⟨gk, 0, none⟩) N N, .slice (some ⟨gv, 0, none⟩) N N], ?_, gk, gv, rfl, z1, z2, z3⟩
    all_goals simp [results, Try.results59, go_sem]
end Go.Proofs.Ytchealdgncgjoaa.StM
namespace Go.Proofs.Ytchealdgncgjoaa.StM
open Go.RowKit Go.Proofs.Ytchealdgncgjoaa.St Go.Shelf Go.Sort Go.Proofs.Ytchealdgncgjoaa.It Go.Proofs.Ytchealdgncgjoaa.StI
set_option linter.unusedVariables false
set_option linter.unusedSimpArgs false
/-- the document's map and the program's find a key at the same place -/
theorem ahead_fd {wh : Int} {t : T (Int × Int)} (hs : Srt (cmpW wh) t.xs) (k : Int) : StI.ahead (cmpW wh) k t.xs t.xs.length = (T.fd (sd wh k) t).1 := by
  rw [T.fd_eq (sd wh k) t (hs.c (cmpW_ord wh) k)]
  unfold StI.ahead
  rw [List.take_length]
  refine List.countP_congr (fun p _ => ?_)
  have := (cmpW_ord wh).anti p.1 k
  simp only [decide_eq_true_eq]
  exact this
theorem plc_yes {wh : Int} {t : T (Int × Int)} (hs : Srt (cmpW wh) t.xs) {k : Int} (h : (T.fd (sd wh k) t).2 = true) : plc (cmpW wh) k t.xs = ((T.fd (sd wh k) t).1 : Int) := by
  have hf := T.fd_eq (sd wh k) t (hs.c (cmpW_ord wh) k)
  have h2 : t.xs.any (fun a => decide (sd wh k a = 0)) = true := by rw [← h, hf]
  obtain ⟨p, hp, hk⟩ := hs.at (cmpW_ord wh) h2
  have h1 : (T.fd (sd wh k) t).1 = t.xs.countP (fun a => decide (0 < sd wh k a)) := by rw [hf]
  unfold plc
  rw [ahead_fd hs k, h1, hp]
  have : (cmpW wh) p.1 k = 0 := (cmpW_ord wh).sym0.1 hk
  simp only [this, if_true]
theorem plc_no {wh : Int} {t : T (Int × Int)} (hs : Srt (cmpW wh) t.xs) {k : Int} (h : (T.fd (sd wh k) t).2 = false) : plc (cmpW wh) k t.xs = -1 := by
  have hf := T.fd_eq (sd wh k) t (hs.c (cmpW_ord wh) k)
  have h2 : t.xs.any (fun a => decide (sd wh k a = 0)) = false := by rw [← h, hf]
  unfold plc
  split
  · rename_i p hp
    rw [if_neg]
    intro h0
    have := List.any_eq_false.1 h2 p (List.mem_of_getElem? hp)
    exact this (by simpa using (cmpW_ord wh).sym0.1 h0)
  · rfl
section
variable {B : Nat} {w w' : World} {rb mb bw : Nat} {wh : Int} {vk vv : Value} {t : T (Int × Int)}
theorem lower {B' : Nat} {xs : List (Int × Int)} (h : Rm B' w rb wh vk vv xs) (hB : B ≤ B') : Rm B w rb wh vk vv xs := ⟨h.blk, own_lower hB h.ok, own_lower hB h.ov, h.apart⟩
theorem keepM {xs : List (Int × Int)} (h : Rm B w rb wh vk vv xs) (hm : Mp bw wh w mb t) (k : Kp (fun i => i = mb) w w') : Rm B w' rb wh vk vv xs := by
  obtain ⟨a, h1, _⟩ := hm.ex
  have hn : ∀ g c ty p, w.heap[g]? = some (.cells c ty p) → ty ≠ 130 → g ≠ mb := fun g c ty p hg hty e => by
    rw [e, h1] at hg; cases hg; exact hty rfl
  refine ⟨(k.block _ (blk_lt h.blk) (hn _ _ _ _ h.blk (by decide))).trans h.blk, own_keep h.ok (fun g hg => ?_), own_keep h.ov (fun g hg => ?_), h.apart⟩
  · obtain ⟨cur, hc⟩ := own_obj h.ok hg
    exact k.block g (blk_lt hc) (hn _ _ _ _ hc (by decide))
  · obtain ⟨cur, hc⟩ := own_obj h.ov hg
    exact k.block g (blk_lt hc) (hn _ _ _ _ hc (by decide))
theorem keepR {xs : List (Int × Int)} (hm : Mp bw wh w mb t) (hb : bw < B) (h : Rm B w rb wh vk vv xs) (k : Kp (fun i => i = rb ∨ vv.ownBlock = some i) w w') : Mp bw wh w' mb t := by
  obtain ⟨a, h1, h2⟩ := hm.ex
  have hn : ∀ g c ty p, w.heap[g]? = some (.cells c ty p) → ty ≠ 52 → ty ≠ 3 → ¬ (g = rb ∨ vv.ownBlock = some g) := fun g c ty p hg t1 t2 e => by
    rcases e with e | e
    · rw [e, h.blk] at hg; cases hg; exact t1 rfl
    · obtain ⟨cur, hc⟩ := own_obj h.ov e
      rw [hc] at hg; cases hg; exact t2 rfl
  refine ⟨⟨a, (k.block _ (blk_lt h1) (hn _ _ _ _ h1 (by decide) (by decide))).trans h1, h2.keep (Kn.of k (fun b c hb => hn _ _ _ _ hb (by decide) (by decide)))⟩, hm.bal, hm.srt, (k.block _ (blk_lt hm.bx.1) (fun e => ?_)).trans hm.bx.1, hm.bx.2⟩
  rcases e with e | e
  · have := h.blk; rw [← e, hm.bx.1] at this; cases this
  · have := own_low h.ov e; omega
/-- the document's Put, told by the program's: where its rows lie afterwards -/
theorem rput_TN (h : Rm B w rb wh vk vv t.xs) (ho : Oc wh (cmpW wh)) (hs : Srt (cmpW wh) t.xs) (hB : B ≤ w.heap.size) (k v : Int) (hl : t.xs.length ≤ 17592186044000) :
    Calls Try.prog 36 #[.pointer (some ⟨rb, 0, none⟩), .int .i64 k, .int .i64 v] w fun e w' => e = .returned (.tuple #[ov (getT wh k t), .bool (T.fd (sd wh k) t).2]) ∧ (∃ vk' vv', Rm B w' rb wh vk' vv' (putT wh k v t).xs ∧ (∀ g, vk'.ownBlock = some g → vk.ownBlock = some g ∨ w.heap.size ≤ g) ∧ (∀ g, vv'.ownBlock = some g → vv.ownBlock = some g ∨ w.heap.size ≤ g)) ∧ Kp (fun i => i = rb ∨ vv.ownBlock = some i) w w' := by
  cases hf : (T.fd (sd wh k) t).2 with
  | true =>
    obtain ⟨p, hp, hg⟩ := getT_some hf
    refine (rput_oldN h ho k v hl _ p (plc_yes hs hf) hp).mono ?_
    rintro e w' ⟨rfl, hr, hk⟩
    refine ⟨by rw [hg]; rfl, ⟨vk, vv, ?_, fun g h => .inl h, fun g h => .inl h⟩, hk.mono (fun _ _ h => .inr h)⟩
    rw [put_xs, if_pos hf]; exact hr
  | false =>
    refine (rput_newN h hB ho k v hl (plc_no hs hf)).mono ?_
    rintro e w' ⟨rfl, ⟨vk', vv', hr, hk⟩⟩
    have hg : getT wh k t = none := by unfold getT; rw [hf]; rfl
    refine ⟨by rw [hg]; rfl, ⟨vk', vv', ?_, fun g h => .inr (own_low hr.ok h), fun g h => .inr (own_low hr.ov h)⟩, hk.mono (fun _ _ h => .inl h)⟩
    rw [put_xs, hf]
    rw [ahead_fd hs k] at hr
    exact lower hr hB
/-- the document's Delete, told by the program's: where its rows lie afterwards -/
theorem rdel_TN (h : Rm B w rb wh vk vv t.xs) (ho : Oc wh (cmpW wh)) (hs : Srt (cmpW wh) t.xs) (hB : B ≤ w.heap.size) (k : Int) (hl : t.xs.length ≤ 17592186044000) :
    Calls Try.prog 42 #[.pointer (some ⟨rb, 0, none⟩), .int .i64 k] w fun e w' => e = .returned (.tuple #[ov (getT wh k t), .bool (T.fd (sd wh k) t).2]) ∧ (∃ vk' vv', Rm B w' rb wh vk' vv' (delT wh k t).xs ∧ (∀ g, vk'.ownBlock = some g → vk.ownBlock = some g ∨ w.heap.size ≤ g) ∧ (∀ g, vv'.ownBlock = some g → vv.ownBlock = some g ∨ w.heap.size ≤ g)) ∧ Kp (fun i => i = rb ∨ vv.ownBlock = some i) w w' := by
  cases hf : (T.fd (sd wh k) t).2 with
  | true =>
    obtain ⟨p, hp, hg⟩ := getT_some hf
    refine (rdel_yesN h hB ho k hl _ p (plc_yes hs hf) hp).mono ?_
    rintro e w' ⟨rfl, vk', vv', hr, hk⟩
    refine ⟨by rw [hg]; rfl, ⟨vk', vv', ?_, fun g h => .inr (own_low hr.ok h), fun g h => .inr (own_low hr.ov h)⟩, hk.mono (fun _ _ h => .inl h)⟩
    rw [del_xs, if_pos hf]; exact lower hr hB
  | false =>
    refine (rdel_noN h ho k hl (plc_no hs hf)).mono ?_
    rintro e w' ⟨rfl, hk⟩
    have hg : getT wh k t = none := by unfold getT; rw [hf]; rfl
    refine ⟨by rw [hg]; rfl, ⟨vk, vv, ?_, fun g h => .inl h, fun g h => .inl h⟩, hk.mono (fun _ _ h => h.elim)⟩
    rw [del_xs, hf]
    exact h.nu hk
end
end Go.Proofs.Ytchealdgncgjoaa.StM
namespace Go.Proofs.Ytchealdgncgjoaa.StM
open Go.RowKit Go.Proofs.Ytchealdgncgjoaa.St Go.Shelf Go.Sort Go.Proofs.Ytchealdgncgjoaa.It Go.Proofs.Ytchealdgncgjoaa.StI
set_option linter.unusedVariables false
set_option linter.unusedSimpArgs false
theorem plc_facts {wh : Int} {t : T (Int × Int)} (hs : Srt (cmpW wh) t.xs) (k : Int) (i : Nat) (p : Int × Int) (hp : t.xs[i]? = some p) :
    (cmpW wh p.1 k < 0 ↔ i < (T.fd (sd wh k) t).1) ∧ (cmpW wh p.1 k = 0 ↔ (i = (T.fd (sd wh k) t).1 ∧ (T.fd (sd wh k) t).2 = true)) := by
  have hf := T.fd_eq (sd wh k) t (hs.c (cmpW_ord wh) k)
  have h1 : (T.fd (sd wh k) t).1 = t.xs.countP (fun a => decide (0 < sd wh k a)) := by rw [hf]
  have h2 : (T.fd (sd wh k) t).2 = t.xs.any (fun a => decide (sd wh k a = 0)) := by rw [hf]
  rw [h1, h2]
  have hat : t.xs.any (fun a => decide (sd wh k a = 0)) = true → ∃ q, t.xs[t.xs.countP (fun a => decide (0 < sd wh k a))]? = some q ∧ cmpW wh k q.1 = 0 := fun h => hs.at (cmpW_ord wh) h
  obtain ⟨A, B, e, e1, e2, e3, e4⟩ := cut_c _ t.xs (hs.c (cmpW_ord wh) k)
  have an := (cmpW_ord wh).anti p.1 k
  have an' := (cmpW_ord wh).anti k p.1
  have e1' : t.xs.countP (fun a => decide (0 < sd wh k a)) = A.length := e1.symm
  rw [e1'] at hat ⊢
  have hi : i < t.xs.length := (List.getElem?_eq_some_iff.1 hp).1
  have hp0 := hp
  rcases Nat.lt_trichotomy i A.length with hlt | heq | hgt
  · rw [e, List.getElem?_append_left hlt] at hp
    have h3 := e2 p (List.mem_of_getElem? hp)
    have h3 : 0 < cmpW wh k p.1 := h3
    exact ⟨⟨fun _ => hlt, fun _ => an.2 h3⟩, ⟨fun h => by omega, fun h => by omega⟩⟩
  · rw [e, List.getElem?_append_right (by omega)] at hp
    have h3 := e3 p (List.mem_of_getElem? hp)
    have h3 : cmpW wh k p.1 ≤ 0 := h3
    refine ⟨⟨fun h => by omega, fun h => by omega⟩, ⟨fun h => ⟨heq, List.any_eq_true.2 ⟨p, List.mem_of_getElem? hp0, by
      have : cmpW wh k p.1 = 0 := by omega
      simpa [side] using this⟩⟩, fun h => ?_⟩⟩
    obtain ⟨q, hq, hk⟩ := hat h.2
    rw [← heq, hp0] at hq
    cases hq
    omega
  · rw [e, List.getElem?_append_right (by omega)] at hp
    have hb : p ∈ B.tail := by
      cases B with
      | nil => simp at hp
      | cons b B =>
        obtain ⟨j, hj⟩ : ∃ j, i - A.length = j + 1 := ⟨i - A.length - 1, by omega⟩
        rw [hj] at hp
        exact List.mem_of_getElem? (by simpa using hp)
    have h3 := e4 p hb
    have h3 : cmpW wh k p.1 < 0 := h3
    exact ⟨⟨fun h => by omega, fun h => by omega⟩, ⟨fun h => by omega, fun h => by omega⟩⟩
/-- the pair at a place -/
def atL (xs : List (Int × Int)) (i : Int) : Option (Int × Int) := if i < 0 then none else xs[i.toNat]?
theorem atT_L (t : T (Int × Int)) (i : Int) : atT t i = atL t.xs i := by
  unfold atL
  by_cases h : i < 0
  · rw [if_pos h, atT_neg t i h]
  · rw [if_neg h]
    have := atT_xs t i.toNat
    rwa [show ((i.toNat : Nat) : Int) = i by omega] at this
section
variable {B : Nat} {w : World} {rb : Nat} {wh : Int} {vk vv : Value} {xs : List (Int × Int)} {t : T (Int × Int)}
set_option maxRecDepth 100000 in
set_option maxHeartbeats 1000000 in
theorem get132 (h : Rm B w rb wh vk vv t.xs) (ho : Oc wh (cmpW wh)) (hs : Srt (cmpW wh) t.xs) (k : Int) (hl : t.xs.length ≤ 17592186044000) :
    Calls Try.prog 132 #[.pointer (some ⟨rb, 0, none⟩), .int .i64 k] w fun e w' => e = .returned (.tuple #[ov (getT wh k t), .bool (T.fd (sd wh k) t).2]) ∧ Kp Nu w w' := by
  have RA := rat_any h ho k (by omega)
  cases hf : (T.fd (sd wh k) t).2 with
  | true =>
    obtain ⟨p, hp, hg⟩ := getT_some hf
    rw [plc_yes hs hf] at RA
    rw [hg]
    show Calls Try.prog 132 #[.pointer (some ⟨rb, 0, none⟩), .int .i64 k] w fun e w' => e = .returned (.tuple #[.int .i64 p.2, .bool true]) ∧ Kp Nu w w'
    have HS : ∀ W, Kp Nu w W → ∃ r cap, W.cell? ⟨rb, 2, none⟩ = some (.slice (some ⟨r, 0, none⟩) t.xs.length cap) ∧ W.cell? ⟨r, (T.fd (sd wh k) t).1, none⟩ = some (.int .i64 p.2) := fun W q => by
      obtain ⟨_, _, d2⟩ := cell3 (h.nu q).blk
      obtain ⟨r, cap, e, hc⟩ := rowI_at (i := (T.fd (sd wh k) t).1) (u := .int .i64 p.2) (h.nu q).ov (by simp [vvs]) (by simp [vvs, hp])
      rw [e] at d2
      exact ⟨r, cap, d2, hc⟩
    have hlt : (T.fd (sd wh k) t).1 < t.xs.length := (List.getElem?_eq_some_iff.1 hp).1
    generalize (T.fd (sd wh k) t).1 = i at *
    generalize t.xs.length = N at *
    have hlI : (i : Int) < (N : Int) := by omega
    have hi0 : (0 : Int) ≤ (i : Int) := by omega
    clear h ho hs hf hg hp hlt hl
    go_enter Try.func132, Try.ntmps132
    go_wp2_with fail
    refine RA.mono ?_
    rintro e w1 ⟨rfl, k1⟩
    obtain ⟨r, cap, c2, c3⟩ := HS w1 k1
    clear RA HS
    go_wp2_with fail
    go_ret2
    exact ⟨rfl, k1⟩
  | false =>
    have hg : getT wh k t = none := by unfold getT; rw [hf]; rfl
    rw [plc_no hs hf] at RA
    rw [hg]
    clear h ho hs hf hg hl
    go_enter Try.func132, Try.ntmps132
    go_wp2_with fail
    refine RA.mono ?_
    rintro e w1 ⟨rfl, k1⟩
    clear RA
    go_wp2_with fail
    go_ret2
    exact ⟨rfl, k1⟩
set_option maxRecDepth 100000 in
set_option maxHeartbeats 1000000 in
theorem at180 (h : Rm B w rb wh vk vv xs) (i : Int) (hl : xs.length ≤ 17592186044000) :
    Calls Try.prog 180 #[.pointer (some ⟨rb, 0, none⟩), .int .i64 i] w fun e w' => e = .returned (.tuple #[ok (atL xs i), ov (atL xs i), .bool (atL xs i).isSome]) ∧ ∃ q, w' = w.drewN q := by
  have mixed : Try.prog.follows .mixedOrders = true := by kernel_rfl
  obtain ⟨adk, capk, ek⟩ := own_slice h.ok
  obtain ⟨adv, capv, ev⟩ := own_slice h.ov
  obtain ⟨_, d1, d2⟩ := cell3 h.blk
  rw [ek] at d1
  rw [ev] at d2
  by_cases h0 : i < 0
  · have e : atL xs i = none := by unfold atL; rw [if_pos h0]
    rw [e]
    clear h ek ev d1 d2 e
    go_enter Try.func180, Try.ntmps180
    go_wp2_with fail
    go_ret3
    exact ⟨rfl, 0, rfl⟩
  · by_cases h1 : i < (xs.length : Int)
    · obtain ⟨j, rfl⟩ : ∃ j : Nat, i = (j : Int) := ⟨i.toNat, by omega⟩
      obtain ⟨p, hp⟩ : ∃ p, xs[j]? = some p := ⟨_, List.getElem?_eq_getElem (by omega)⟩
      have e : atL xs (j : Int) = some p := by unfold atL; rw [if_neg h0]; simpa using hp
      rw [e]
      show Calls Try.prog 180 #[.pointer (some ⟨rb, 0, none⟩), .int .i64 (j : Int)] w fun e w' => e = .returned (.tuple #[.int .i64 p.1, .int .i64 p.2, .bool true]) ∧ ∃ q, w' = w.drewN q
      obtain ⟨r, cap, e1, hc⟩ := rowI_at (i := j) (u := .int .i64 p.1) h.ok (by simp [kv]) (by simp [kv, hp])
      obtain ⟨r2, cap2, e2, hc2⟩ := rowI_at (i := j) (u := .int .i64 p.2) h.ov (by simp [vvs]) (by simp [vvs, hp])
      rw [ek] at e1
      rw [ev] at e2
      cases e1
      cases e2
      generalize xs.length = N at *
      have g1 : ¬ (j : Int) ≥ (N : Int) := by omega
      have g2 : decide ((j : Int) < 0) = false := by simp
      clear h ek ev hp e hl
      go_enter Try.func180, Try.ntmps180
      go_wp2_with fail
      go_quiet (fail)
      go_wp2_with fail
      go_ret3
      exact ⟨rfl, nq, rfl⟩
    · have e : atL xs i = none := by unfold atL; rw [if_neg h0]; exact List.getElem?_eq_none (by omega)
      rw [e]
      generalize xs.length = N at *
      have g1 : i ≥ (N : Int) := by omega
      have g2 : decide (i < 0) = false := by simpa using h0
      clear h ek ev d2 e hl h1
      go_enter Try.func180, Try.ntmps180
      go_wp2_with fail
      go_ret3
      exact ⟨rfl, 0, rfl⟩
end
end Go.Proofs.Ytchealdgncgjoaa.StM
namespace Go.Proofs.Ytchealdgncgjoaa.StM
open Go.RowKit Go.Proofs.Ytchealdgncgjoaa.St Go.Shelf Go.Sort Go.Proofs.Ytchealdgncgjoaa.It Go.Proofs.Ytchealdgncgjoaa.StI
set_option linter.unusedVariables false
set_option linter.unusedSimpArgs false
/-- the last place of the first j whose key is not behind k -/
def bst (o : Int → Int → Int) (k : Int) (xs : List (Int × Int)) : Nat → Int
  | 0 => -1
  | j + 1 => match xs[j]? with
    | some p => if o p.1 k ≤ 0 then (j : Int) else bst o k xs j
    | none => bst o k xs j
theorem bst_le {o : Int → Int → Int} {k : Int} {xs : List (Int × Int)} : ∀ j : Nat, -1 ≤ bst o k xs j ∧ bst o k xs j < j
  | 0 => by simp [bst]
  | j + 1 => by
    have := bst_le (o := o) (k := k) (xs := xs) j
    simp only [bst]
    split
    · split <;> omega
    · omega
theorem bst_succ {o : Int → Int → Int} {k : Int} {xs : List (Int × Int)} {j : Nat} {p : Int × Int} (h : xs[j]? = some p) : bst o k xs (j + 1) = if o p.1 k ≤ 0 then (j : Int) else bst o k xs j := by
  simp only [bst, h]
theorem bst_fd {wh : Int} {t : T (Int × Int)} (hs : Srt (cmpW wh) t.xs) (k : Int) : ∀ j : Nat, j ≤ t.xs.length →
    bst (cmpW wh) k t.xs j = (if (T.fd (sd wh k) t).2 then (min j ((T.fd (sd wh k) t).1 + 1) : Int) - 1 else (min j (T.fd (sd wh k) t).1 : Int) - 1)
  | 0, _ => by
    have : (0 : Int) ≤ ((T.fd (sd wh k) t).1 : Int) := by omega
    show (-1 : Int) = _
    split <;> omega
  | j + 1, hj => by
    obtain ⟨p, hp⟩ : ∃ p, t.xs[j]? = some p := ⟨_, List.getElem?_eq_getElem (by omega)⟩
    have ih := bst_fd hs k j (by omega)
    obtain ⟨f1, f2⟩ := plc_facts hs k j p hp
    rw [bst_succ hp, ih]
    generalize (T.fd (sd wh k) t).1 = i at *
    cases hf : (T.fd (sd wh k) t).2 with
    | true =>
      rw [hf] at f2
      simp only [if_true] at ih ⊢
      by_cases c : cmpW wh p.1 k ≤ 0
      · rw [if_pos c]
        have : j ≤ i := by
          rcases Int.lt_or_eq_of_le c with h | h
          · have := f1.1 h; omega
          · have := (f2.1 h).1; omega
        omega
      · rw [if_neg c]
        have : i < j := by
          rcases Nat.lt_trichotomy j i with h | h | h
          · have := f1.2 h; omega
          · have := f2.2 ⟨h, rfl⟩; omega
          · exact h
        omega
    | false =>
      rw [hf] at f2
      simp only [Bool.false_eq_true, if_false] at ih ⊢
      by_cases c : cmpW wh p.1 k ≤ 0
      · rw [if_pos c]
        have : j < i := by
          rcases Int.lt_or_eq_of_le c with h | h
          · exact f1.1 h
          · have := (f2.1 h).2; cases this
        omega
      · rw [if_neg c]
        have : i ≤ j := by
          rcases Nat.lt_or_ge j i with h | h
          · have := f1.2 h; omega
          · exact h
        omega
theorem floor_bst {wh : Int} {t : T (Int × Int)} (hs : Srt (cmpW wh) t.xs) (k : Int) : atL t.xs (bst (cmpW wh) k t.xs t.xs.length) = floorT wh k t := by
  unfold floorT
  rw [atT_L, bst_fd hs k _ (Nat.le_refl _)]
  have h1 := T.fd_le (sd wh k) t
  have h2 := T.xs_length t
  congr 1
  cases hf : (T.fd (sd wh k) t).2 with
  | true =>
    have := h1.2 hf
    simp only [if_true]; omega
  | false => simp only [Bool.false_eq_true, if_false]; omega
theorem wq (k : Int) (h0 : 0 ≤ k) (h1 : k ≤ 17592186044000) : wrap64 (k + 1) = k + 1 := by unfold wrap64; omega
theorem sq {k N : Nat} (h : k < N) : k + 1 ≤ N := by omega
theorem mq {k N : Nat} (h : k < N) : N - (intOf (.int .i64 ((k : Int) + 1))).toNat < N - (intOf (.int .i64 (k : Int))).toNat := by simp [intOf]; omega
section
variable {B : Nat} {w : World} {rb : Nat} {wh : Int} {vk vv : Value} {t : T (Int × Int)}
set_option maxRecDepth 100000 in
set_option maxHeartbeats 2000000 in
theorem floor181 (h : Rm B w rb wh vk vv t.xs) (ho : Oc wh (cmpW wh)) (hs : Srt (cmpW wh) t.xs) (k : Int) (hl : t.xs.length ≤ 17592186044000) :
    Calls Try.prog 181 #[.pointer (some ⟨rb, 0, none⟩), .int .i64 k] w fun e w' => e = .returned (.tuple #[ok (floorT wh k t), ov (floorT wh k t), .bool (floorT wh k t).isSome]) ∧ ∃ q, w' = w.drewN q := by
  have mixed : Try.prog.follows .mixedOrders = true := by kernel_rfl
  have AT : ∀ q i, Calls Try.prog 180 #[.pointer (some ⟨rb, 0, none⟩), .int .i64 i] (w.drewN q) fun e w' => e = .returned (.tuple #[ok (atL t.xs i), ov (atL t.xs i), .bool (atL t.xs i).isSome]) ∧ ∃ q', w' = (w.drewN q).drewN q' := fun q i => at180 (h.nu (kp_dn w q)) i hl
  rw [← floor_bst hs k]
  have HS : Hid (∀ q (j : Nat) p, t.xs[j]? = some p → ∃ r cap, (w.drewN q).cell? ⟨rb, 0, none⟩ = some (.int .i64 wh) ∧ (w.drewN q).cell? ⟨rb, 1, none⟩ = some (.slice (some ⟨r, 0, none⟩) t.xs.length cap) ∧ (w.drewN q).cell? ⟨r, j, none⟩ = some (.int .i64 p.1)) := hide (fun q j p hp => by
    obtain ⟨d0, d1, _⟩ := cell3 (h.nu (kp_dn w q)).blk
    obtain ⟨r, cap, e, hc⟩ := rowI_at (i := j) (u := .int .i64 p.1) (h.nu (kp_dn w q)).ok (by simp [kv]) (by simp [kv, hp])
    rw [e] at d1
    exact ⟨r, cap, d0, d1, hc⟩)
  have HE : Hid (∀ q, ∃ ad cap, (w.drewN q).cell? ⟨rb, 1, none⟩ = some (.slice ad t.xs.length cap)) := hide (fun q => by
    obtain ⟨d0, d1, _⟩ := cell3 (h.nu (kp_dn w q)).blk
    obtain ⟨ad, cap, e⟩ := own_slice h.ok
    exact ⟨ad, cap, by rw [← e]; exact d1⟩)
  have HO := hide ho
  obtain ⟨N, eN⟩ : ∃ N, t.xs.length = N := ⟨_, rfl⟩
  rw [eN] at HS HE hl ⊢
  have HN := hide (And.intro eN hl)
  clear h ho hs eN hl
  go_enter Try.func181, Try.ntmps181
  go_wp2_with fail
  go_loopw [8, 7] (fun s8 s7 wr => ∃ j : Nat, s8 = .int .i64 (j : Int) ∧ s7 = .int .i64 (bst (cmpW wh) k t.xs j) ∧ j ≤ N ∧ ∃ q, wr = w.drewN q) (fun s8 _ _ => N - (intOf s8).toNat)
  case atStart => exact ⟨0, rfl, rfl, Nat.zero_le _, 0, rfl⟩
  case round =>
    obtain ⟨j, rfl, rfl, hj, q, hq⟩ := hrel
    by_cases hlt : j < N
    · obtain ⟨p, hp⟩ : ∃ p, t.xs[j]? = some p := ⟨_, List.getElem?_eq_getElem (by rw [HN.out.1]; exact hlt)⟩
      obtain ⟨r, cap, c0, c1, c2⟩ := HS.out q j p hp
      rw [← hq] at c0 c1 c2
      have hltI : (j : Int) < (N : Int) := by omega
      have hj0 : (0 : Int) ≤ (j : Int) := by omega
      have w1 := wq (j : Int) hj0 (by have := HN.out.2; omega)
      have hbs := hide (bst_succ (o := cmpW wh) (k := k) hp)
      have OR : ∀ n, Calls Try.prog 67 #[.int .i64 wh, .int .i64 p.1, .int .i64 k] (wr.drewN n) fun e w' => e = .returned (.int .i64 (cmpW wh p.1 k)) ∧ w' = wr.drewN n := fun n => HO.out p.1 k _
      have HK := hide (And.intro hlt hq)
      generalize bst (cmpW wh) k t.xs j = bj at *
      generalize cmpW wh p.1 k = oo at *
      clear hp hj hlt AT hq
      by_cases c : oo ≤ 0
      · go_wp2_with fail
        go_quiet (exact Calls.quiet_of_same (OR _))
        go_wp2_with fail
        rw [w1]
        refine ⟨⟨j + 1, by go_num, by rw [hbs.out, if_pos c], sq HK.out.1, q + nq, by rw [HK.out.2]; simp [World.drewN, Nat.add_comm, Nat.add_left_comm]⟩, mq HK.out.1⟩
      · go_wp2_with fail
        go_quiet (exact Calls.quiet_of_same (OR _))
        go_wp2_with fail
        rw [w1]
        refine ⟨⟨j + 1, by go_num, by rw [hbs.out, if_neg (by omega)], sq HK.out.1, q + nq, by rw [HK.out.2]; simp [World.drewN, Nat.add_comm, Nat.add_left_comm]⟩, mq HK.out.1⟩
    · obtain rfl : j = N := by omega
      obtain ⟨ad, cap, c1⟩ := HE.out q
      have hge : ¬ (j : Int) < (j : Int) := by omega
      have AQ := AT q (bst (cmpW wh) k t.xs j)
      rw [← hq] at c1 AQ
      have HQ := hide hq
      clear AT hj hlt hq
      go_wp2_with fail
      refine AQ.mono ?_
      rintro e w' ⟨rfl, q', rfl⟩
      go_wp2_with fail
      go_ret3
      exact ⟨rfl, q + q', by rw [HQ.out]; simp [World.drewN, Nat.add_comm, Nat.add_left_comm]⟩
set_option maxRecDepth 100000 in
set_option maxHeartbeats 2000000 in
theorem ceil182 (h : Rm B w rb wh vk vv t.xs) (ho : Oc wh (cmpW wh)) (hs : Srt (cmpW wh) t.xs) (k : Int) (hl : t.xs.length ≤ 17592186044000) :
    Calls Try.prog 182 #[.pointer (some ⟨rb, 0, none⟩), .int .i64 k] w fun e w' => e = .returned (.tuple #[ok (ceilT wh k t), ov (ceilT wh k t), .bool (ceilT wh k t).isSome]) ∧ ∃ q, w' = w.drewN q := by
  have mixed : Try.prog.follows .mixedOrders = true := by kernel_rfl
  have AT : ∀ q i, Calls Try.prog 180 #[.pointer (some ⟨rb, 0, none⟩), .int .i64 i] (w.drewN q) fun e w' => e = .returned (.tuple #[ok (atL t.xs i), ov (atL t.xs i), .bool (atL t.xs i).isSome]) ∧ ∃ q', w' = (w.drewN q).drewN q' := fun q i => at180 (h.nu (kp_dn w q)) i hl
  have eC : ceilT wh k t = atL t.xs ((T.fd (sd wh k) t).1 : Int) := by unfold ceilT; rw [atT_L]
  have PF : Hid (∀ j p, t.xs[j]? = some p → ((cmpW wh p.1 k < 0 ↔ j < (T.fd (sd wh k) t).1) ∧ (cmpW wh p.1 k = 0 ↔ (j = (T.fd (sd wh k) t).1 ∧ (T.fd (sd wh k) t).2 = true)))) := hide (fun j p hp => plc_facts hs k j p hp)
  have hle := (T.fd_le (sd wh k) t).1
  rw [← T.xs_length] at hle
  rw [eC]
  have HS : Hid (∀ q (j : Nat) p, t.xs[j]? = some p → ∃ r cap, (w.drewN q).cell? ⟨rb, 0, none⟩ = some (.int .i64 wh) ∧ (w.drewN q).cell? ⟨rb, 1, none⟩ = some (.slice (some ⟨r, 0, none⟩) t.xs.length cap) ∧ (w.drewN q).cell? ⟨r, j, none⟩ = some (.int .i64 p.1)) := hide (fun q j p hp => by
    obtain ⟨d0, d1, _⟩ := cell3 (h.nu (kp_dn w q)).blk
    obtain ⟨r, cap, e, hc⟩ := rowI_at (i := j) (u := .int .i64 p.1) (h.nu (kp_dn w q)).ok (by simp [kv]) (by simp [kv, hp])
    rw [e] at d1
    exact ⟨r, cap, d0, d1, hc⟩)
  have HE : Hid (∀ q, ∃ ad cap, (w.drewN q).cell? ⟨rb, 1, none⟩ = some (.slice ad t.xs.length cap)) := hide (fun q => by
    obtain ⟨d0, d1, _⟩ := cell3 (h.nu (kp_dn w q)).blk
    obtain ⟨ad, cap, e⟩ := own_slice h.ok
    exact ⟨ad, cap, by rw [← e]; exact d1⟩)
  have HO := hide ho
  obtain ⟨N, eN⟩ : ∃ N, t.xs.length = N := ⟨_, rfl⟩
  rw [eN] at HS HE hl hle
  obtain ⟨c0, ec⟩ : ∃ c, (T.fd (sd wh k) t).1 = c := ⟨_, rfl⟩
  rw [ec] at hle PF ⊢
  have HN := hide (And.intro eN (And.intro hl hle))
  clear h ho hs eN hl eC ec hle
  go_enter Try.func182, Try.ntmps182
  go_wp2_with fail
  go_loopw [7] (fun s7 wr => ∃ j : Nat, s7 = .int .i64 (j : Int) ∧ j ≤ c0 ∧ ∃ q, wr = w.drewN q) (fun s7 _ => N - (intOf s7).toNat)
  case atStart => exact ⟨0, rfl, Nat.zero_le _, 0, rfl⟩
  case round =>
    obtain ⟨j, rfl, hj, q, hq⟩ := hrel
    by_cases hlt : j < N
    · obtain ⟨p, hp⟩ : ∃ p, t.xs[j]? = some p := ⟨_, List.getElem?_eq_getElem (by rw [HN.out.1]; exact hlt)⟩
      obtain ⟨r, cap, d0, d1, d2⟩ := HS.out q j p hp
      rw [← hq] at d0 d1 d2
      have hltI : (j : Int) < (N : Int) := by omega
      have hj0 : (0 : Int) ≤ (j : Int) := by omega
      have w1 := wq (j : Int) hj0 (by have := HN.out.2.1; omega)
      have HP := hide (PF.out j p hp)
      have OR : ∀ n, Calls Try.prog 67 #[.int .i64 wh, .int .i64 p.1, .int .i64 k] (wr.drewN n) fun e w' => e = .returned (.int .i64 (cmpW wh p.1 k)) ∧ w' = wr.drewN n := fun n => HO.out p.1 k _
      have HK := hide (And.intro hlt (And.intro hj hq))
      generalize cmpW wh p.1 k = oo at *
      clear hp hj hlt
      by_cases c : oo ≥ 0
      · have hjc : (j : Int) = (c0 : Int) := by
          have h1 := HP.out.1
          have h2 := HK.out.2.1
          have : ¬ j < c0 := fun h => by have := h1.2 h; omega
          omega
        have AQ : ∀ n, Calls Try.prog 180 #[.pointer (some ⟨rb, 0, none⟩), .int .i64 (j : Int)] (wr.drewN n) fun e w' => e = .returned (.tuple #[ok (atL t.xs (c0 : Int)), ov (atL t.xs (c0 : Int)), .bool (atL t.xs (c0 : Int)).isSome]) ∧ ∃ q', w' = (wr.drewN n).drewN q' := fun n => by
          rw [← hjc, hq, World.drewN_drewN]
          exact AT (q + n) (j : Int)
        clear hjc AT hq
        go_wp2_with fail
        go_quiet (exact Calls.quiet_of_same (OR _))
        go_wp2_with fail
        refine (AQ _).mono ?_
        rintro e w' ⟨rfl, q', rfl⟩
        go_wp2_with fail
        go_ret3
        exact ⟨rfl, q + nq + q', by rw [HK.out.2.2]; simp [World.drewN, Nat.add_comm, Nat.add_left_comm]⟩
      · have hjc : j < c0 := HP.out.1.1 (by omega)
        have HJ := hide hjc
        clear hjc AT hq
        go_wp2_with fail
        go_quiet (exact Calls.quiet_of_same (OR _))
        go_wp2_with fail
        rw [w1]
        refine ⟨⟨j + 1, by go_num, sq HJ.out, q + nq, by rw [HK.out.2.2]; simp [World.drewN, Nat.add_comm, Nat.add_left_comm]⟩, mq HK.out.1⟩
    · have hjN : j = N := by have := HN.out.2.2; omega
      have e : atL t.xs (c0 : Int) = none := by
        unfold atL
        rw [if_neg (by omega)]
        exact List.getElem?_eq_none (by rw [HN.out.1]; omega)
      obtain ⟨ad, cap, d1⟩ := HE.out q
      rw [← hq] at d1
      have HQ := hide (And.intro hq e)
      have hge : ¬ (j : Int) < (N : Int) := by omega
      clear AT hj hlt hjN e hq
      go_wp2_with fail
      go_ret3
      exact ⟨by rw [HQ.out.2]; rfl, q, HQ.out.1⟩
end
end Go.Proofs.Ytchealdgncgjoaa.StM
namespace Go.Proofs.Ytchealdgncgjoaa.StM
open Go.RowKit Go.Proofs.Ytchealdgncgjoaa.St Go.Shelf Go.Sort Go.Proofs.Ytchealdgncgjoaa.It Go.Proofs.Ytchealdgncgjoaa.StI
set_option linter.unusedVariables false
set_option linter.unusedSimpArgs false
/-- a map of the document's in the making -/
structure Cx (w W : World) (rc : Nat) (wh : Int) (vk : Value) (lk : List Value) (vv : Value) (lv : List Value) : Prop where
  kp : Kp Nu w W
  bc : W.heap[rc]? = some (.cells #[.int .i64 wh, vk, vv] 52 (0, 0))
  lo : w.heap.size ≤ rc
  tw : Tw w.heap.size W vk lk vv lv
theorem Cx.nu {w W Z : World} {rc : Nat} {wh : Int} {vk vv : Value} {lk lv : List Value} (h : Cx w W rc wh vk lk vv lv) (k : Kp Nu W Z) : Cx w Z rc wh vk lk vv lv :=
  ⟨h.kp.andNu k, (k.block _ (blk_lt h.bc) (fun h => h)).trans h.bc, h.lo, h.tw.nu k⟩
theorem rc_ne {W : World} {rc g n : Nat} {B : Nat} {c : Array Value} {v : Value} {l : List Value} (hb : W.heap[rc]? = some (.cells c 52 (0, 0))) (h : W.ownsRow B 3 1 v n l) (hg : v.ownBlock = some g) : rc ≠ g := fun e => by
  obtain ⟨cur, hc⟩ := own_obj h hg
  rw [← e, hb] at hc; cases hc
theorem Cx.k {w W W4 : World} {rc g cap : Nat} {wh : Int} {vk vv u : Value} {lk lv : List Value} {o : Obj} (h : Cx w W rc wh vk lk vv lv) (hg : ((W.alloc o).drew).grownBy W4 vk.ownBlock)
    (ho : W4.ownsRow w.heap.size 3 1 (.slice (some ⟨g, 0, none⟩) (lk.length + 1) cap) (lk.length + 1) (lk ++ [u])) (hat : vk.ownBlock = some g ∨ g = W.heap.size + 1) :
    Cx w (W4.setCell ⟨rc, 1, none⟩ (.slice (some ⟨g, 0, none⟩) (lk.length + 1) cap)) rc wh (.slice (some ⟨g, 0, none⟩) (lk.length + 1) cap) (lk ++ [u]) vv lv := by
  have kA : Kp Nu W ((W.alloc o).drew) := (Kp.alloc W o Nu).drew
  have hA := h.nu kA
  have sA : ((W.alloc o).drew).heap.size = W.heap.size + 1 := World.size_alloc _ _
  have t4 := hA.tw.stepk ho hg (by
    rcases hat with e | e
    · exact .inl (by rw [e]; rfl)
    · exact .inr (by rw [sA, ← e]; rfl))
  have b4 : W4.heap[rc]? = some (.cells #[.int .i64 wh, vk, vv] 52 (0, 0)) := (hg.block rc (blk_lt hA.bc) (fun e => by
    exact rc_ne hA.bc hA.tw.ok e.symm rfl)).trans hA.bc
  have k4 : Kp Nu w W4 := hA.kp.trans (Kp.of_grown hg) (fun i hi e => by
    have := own_low hA.tw.ok e.symm
    omega)
  refine ⟨k4.trans (Kp.setCell W4 ⟨rc, 1, none⟩ _) (fun i hi e => ?_), by rw [set3 b4]; rfl, h.lo, ⟨own_keep t4.ok (fun q hq => Below.heap_setCell W4 ⟨rc, 1, none⟩ _ q (fun e => rc_ne b4 t4.ok hq (show rc = q from (show q = rc from e).symm))), own_keep t4.ov (fun q hq => Below.heap_setCell W4 ⟨rc, 1, none⟩ _ q (fun e => rc_ne b4 t4.ov hq (show rc = q from (show q = rc from e).symm))), t4.ap⟩⟩
  have e : i = rc := e
  have := h.lo; omega
theorem Cx.v {w W W4 : World} {rc g cap : Nat} {wh : Int} {vk vv u : Value} {lk lv : List Value} {o : Obj} (h : Cx w W rc wh vk lk vv lv) (hg : ((W.alloc o).drew).grownBy W4 vv.ownBlock)
    (ho : W4.ownsRow w.heap.size 3 1 (.slice (some ⟨g, 0, none⟩) (lv.length + 1) cap) (lv.length + 1) (lv ++ [u])) (hat : vv.ownBlock = some g ∨ g = W.heap.size + 1) :
    Cx w (W4.setCell ⟨rc, 2, none⟩ (.slice (some ⟨g, 0, none⟩) (lv.length + 1) cap)) rc wh vk lk (.slice (some ⟨g, 0, none⟩) (lv.length + 1) cap) (lv ++ [u]) := by
  have kA : Kp Nu W ((W.alloc o).drew) := (Kp.alloc W o Nu).drew
  have hA := h.nu kA
  have sA : ((W.alloc o).drew).heap.size = W.heap.size + 1 := World.size_alloc _ _
  have t4 := hA.tw.stepv ho hg (by
    rcases hat with e | e
    · exact .inl (by rw [e]; rfl)
    · exact .inr (by rw [sA, ← e]; rfl))
  have b4 : W4.heap[rc]? = some (.cells #[.int .i64 wh, vk, vv] 52 (0, 0)) := (hg.block rc (blk_lt hA.bc) (fun e => by
    exact rc_ne hA.bc hA.tw.ov e.symm rfl)).trans hA.bc
  have k4 : Kp Nu w W4 := hA.kp.trans (Kp.of_grown hg) (fun i hi e => by
    have := own_low hA.tw.ov e.symm
    omega)
  refine ⟨k4.trans (Kp.setCell W4 ⟨rc, 2, none⟩ _) (fun i hi e => ?_), by rw [set3 b4]; rfl, h.lo, ⟨own_keep t4.ok (fun q hq => Below.heap_setCell W4 ⟨rc, 2, none⟩ _ q (fun e => rc_ne b4 t4.ok hq (show rc = q from (show q = rc from e).symm))), own_keep t4.ov (fun q hq => Below.heap_setCell W4 ⟨rc, 2, none⟩ _ q (fun e => rc_ne b4 t4.ov hq (show rc = q from (show q = rc from e).symm))), t4.ap⟩⟩
  have e : i = rc := e
  have := h.lo; omega
theorem Cx.kn {w W W4 : World} {rc g cap n : Nat} {wh : Int} {vk vv u : Value} {lk lv : List Value} {o : Obj} (h : Cx w W rc wh vk lk vv lv) (hn : lk.length = n) (hg : ((W.alloc o).drew).grownBy W4 vk.ownBlock)
    (ho : W4.ownsRow w.heap.size 3 1 (.slice (some ⟨g, 0, none⟩) (n + 1) cap) (n + 1) (lk ++ [u])) (hat : vk.ownBlock = some g ∨ g = W.heap.size + 1) :
    Cx w (W4.setCell ⟨rc, 1, none⟩ (.slice (some ⟨g, 0, none⟩) (n + 1) cap)) rc wh (.slice (some ⟨g, 0, none⟩) (n + 1) cap) (lk ++ [u]) vv lv := by
  subst hn; exact h.k hg ho hat
theorem Cx.vn {w W W4 : World} {rc g cap n : Nat} {wh : Int} {vk vv u : Value} {lk lv : List Value} {o : Obj} (h : Cx w W rc wh vk lk vv lv) (hn : lv.length = n) (hg : ((W.alloc o).drew).grownBy W4 vv.ownBlock)
    (ho : W4.ownsRow w.heap.size 3 1 (.slice (some ⟨g, 0, none⟩) (n + 1) cap) (n + 1) (lv ++ [u])) (hat : vv.ownBlock = some g ∨ g = W.heap.size + 1) :
    Cx w (W4.setCell ⟨rc, 2, none⟩ (.slice (some ⟨g, 0, none⟩) (n + 1) cap)) rc wh vk lk (.slice (some ⟨g, 0, none⟩) (n + 1) cap) (lv ++ [u]) := by
  subst hn; exact h.v hg ho hat
theorem Cx.box {w W W4 : World} {rc : Nat} {wh : Int} {vk vv v : Value} {lk lv : List Value} {o : Obj} (h : Cx w W rc wh vk lk vv lv) (hg : ((W.alloc o).drew).grownBy W4 v.ownBlock) (hv : v = vk ∨ v = vv) :
    W4.heap[rc]? = some (.cells #[.int .i64 wh, vk, vv] 52 (0, 0)) := by
  have hA := h.nu (Kp.alloc W o Nu).drew
  refine (hg.block rc (blk_lt hA.bc) (fun e => ?_)).trans hA.bc
  rcases hv with rfl | rfl
  · exact rc_ne hA.bc hA.tw.ok e.symm rfl
  · exact rc_ne hA.bc hA.tw.ov e.symm rfl
end Go.Proofs.Ytchealdgncgjoaa.StM
