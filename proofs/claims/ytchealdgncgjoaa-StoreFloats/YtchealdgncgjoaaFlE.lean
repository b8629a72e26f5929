import Derived.Test.YtchealdgncgjoaaClBF
import Derived.Test.YtchealdgncgjoaaBwB
import Derived.Test.YtchealdgncgjoaaFlC
import Derived.Test.YtchealdgncgjoaaPq
import Derived.BigQuiet
namespace Go.Proofs.Ytchealdgncgjoaa.StF
open Go.RowKit Go.Proofs.Ytchealdgncgjoaa.St Go.Shelf Go.Sort Go.Proofs.Ytchealdgncgjoaa.It Go.Proofs.Ytchealdgncgjoaa.StI
attribute [local go_sem] Oper.semAt_some run_store_float
set_option linter.unusedVariables false
set_option linter.unusedSimpArgs false
set_option maxRecDepth 100000 in
set_option maxHeartbeats 4000000 in
/-- Collect: the keys and the values, in rows of their own -/
theorem collect43 {w : World} {mb : Nat} {t : T (FK × Int)} (hm : Mp w mb t) (hs : t.sz ≤ 17592186044000) :
    Calls Try.prog 43 #[.pointer (some ⟨mb, 0, none⟩)] w fun e w' => ∃ gk gv : Nat, e = .returned (.tuple #[.slice (some ⟨gk, 0, none⟩) t.sz t.sz, .slice (some ⟨gv, 0, none⟩) t.sz t.sz]) ∧ w'.ownsRow w.heap.size 59 1 (.slice (some ⟨gk, 0, none⟩) t.sz t.sz) t.sz (kv t.xs) ∧ w'.ownsRow w.heap.size 3 1 (.slice (some ⟨gv, 0, none⟩) t.sz t.sz) t.sz (vvs t.xs) ∧ Kp Nu w w' := by
  have mixed : Try.prog.follows .mixedOrders = true := by kernel_rfl
  obtain ⟨i3, hi3, hy0, hy1, hy2⟩ := info_parts info3s
  obtain ⟨i5, hi5, hz0, hz1, hz2⟩ := info_parts info59s
  have LA := len_any hm
  obtain ⟨N, eN⟩ : ∃ N, t.sz = N := ⟨_, rfl⟩
  rw [eN] at LA hs ⊢
  obtain ⟨Wa, mka, moa, mga⟩ := run_make_own (P := Try.prog) w w.heap.size 64 59 i5 (.float .f64 0) 1 Try.underlying64 hi5 hz0 hz1 .i64 .i64 N (by rw [hz2]; omega) (by unfold maxLen; omega) (Nat.le_refl _)
  have ka : Kp Nu w Wa := (Kp.of_grown mga).mono (fun i _ e => by cases e)
  have kb := Kp.alloc Wa (.cells #[.slice (some ⟨w.heap.size, 0, none⟩) 0 N] 64) Nu
  have xb := heap_alloc_new Wa (.cells #[.slice (some ⟨w.heap.size, 0, none⟩) 0 N] 64)
  obtain ⟨Wb, eWb⟩ : ∃ Wb, Wa.alloc (.cells #[.slice (some ⟨w.heap.size, 0, none⟩) 0 N] 64) = Wb := ⟨_, rfl⟩
  rw [eWb] at kb xb
  have LB := len_any (hm.nu (ka.andNu kb))
  rw [eN] at LB
  obtain ⟨Wc, mkc, moc, mgc⟩ := run_make_own (P := Try.prog) Wb w.heap.size 47 3 i3 (.int .i64 0) 1 Try.underlying47 hi3 hy0 hy1 .i64 .i64 N (by rw [hy2]; omega) (by unfold maxLen; omega) (ka.andNu kb).size
  have kc : Kp Nu Wb Wc := (Kp.of_grown mgc).mono (fun i _ e => by cases e)
  have kd := Kp.alloc Wc (.cells #[.slice (some ⟨Wb.heap.size, 0, none⟩) 0 N] 47) Nu
  have xd := heap_alloc_new Wc (.cells #[.slice (some ⟨Wb.heap.size, 0, none⟩) 0 N] 47)
  obtain ⟨Wd, eWd⟩ : ∃ Wd, Wc.alloc (.cells #[.slice (some ⟨Wb.heap.size, 0, none⟩) 0 N] 47) = Wd := ⟨_, rfl⟩
  rw [eWd] at kd xd
  have AA := all_any Wd (some ⟨mb, 0, none⟩)
  have hsb : Wa.heap.size < Wb.heap.size := blk_lt xb
  have hsc := kc.size
  have HC0 : Hid (Cj Wd w.heap.size N Wa.heap.size Wc.heap.size w.heap.size Wb.heap.size [] ∧ Kp Nu w Wd ∧ Mp Wd mb t ∧ N ≤ 17592186044000) := hide ⟨⟨((kc.andNu kd).block _ (blk_lt xb) (fun h => h)).trans xb, xd,
    own_keep moa (fun g e => (((kb.andNu kc).andNu kd).block g (own_lt moa e) (fun h => h))), own_keep moc (fun g e => kd.block g (own_lt moc e) (fun h => h)), by have := ka.size; have := own_lt moa (g := w.heap.size) rfl; omega, by omega, ka.size, by have := ka.size; omega⟩, ((ka.andNu kb).andNu kc).andNu kd, hm.nu (((ka.andNu kb).andNu kc).andNu kd), hs⟩
  clear ka kb xb kc kd xd moa moc mga mgc hm hs hsb hsc
  refine (callsIn_wide (n := 4)).1 ?_
  refine callsIn_of_wp_marks Try.func43 rfl trivial ?_ rfl
  simp only [Try.ntmps43, List.size_toArray, List.length_cons, List.length_nil, Nat.reduceAdd, Nat.reduceSub, Array.replicate_succ, Array.replicate_zero, List.push_toArray, List.append_toArray, List.nil_append, List.cons_append]
  gi_wp2_with fail
  refine ⟨trivial, (callsIn_wide.2 LA).mono ?_⟩; rintro e w' ⟨rfl, hw⟩; obtain rfl := hw.symm
  gi_wp2_with fail
  refine ⟨trivial, (callsIn_wide.2 LB).mono ?_⟩; rintro e w' ⟨rfl, hw⟩; obtain rfl := hw.symm
  gi_wp2_with fail
  refine ⟨trivial, (callsIn_wide.2 AA).mono ?_⟩
  rintro e w5 ⟨rfl, hb5, k5⟩
  have SQ := all_q (HC0.out.2.2.1.nu k5) hb5 (by have := HC0.out.2.2.2; omega)
  have K5 : Kp Nu w w5 := HC0.out.2.1.andNu k5
  have HJ0 : Hid (Cj w5 w.heap.size N Wa.heap.size Wc.heap.size w.heap.size Wb.heap.size [] ∧ Mp w5 mb t ∧ Below w.heap.size w w5) := hide ⟨HC0.out.1.cc (Cc.nu k5), HC0.out.2.2.1.nu k5, K5.toBelow⟩
  have HS5 : Hid (w.heap.size ≤ w5.heap.size ∧ N ≤ 17592186044000 ∧ t.xs.length = N) := hide ⟨K5.size, HC0.out.2.2.2, by rw [T.xs_length]; exact eN⟩
  generalize Wa.heap.size = b4 at *
  generalize Wc.heap.size = b5 at *
  obtain ⟨gv, egv⟩ : ∃ g, Wb.heap.size = g := ⟨_, rfl⟩
  rw [egv] at HJ0 ⊢
  obtain ⟨gk, egk⟩ : ∃ g, w.heap.size = g := ⟨_, rfl⟩
  rw [show Cj w5 w.heap.size N b4 b5 w.heap.size gv [] = Cj w5 w.heap.size N b4 b5 gk gv [] by rw [← egk]] at HJ0
  rw [egk]
  clear HC0 LA LB AA mka mkc eWb eWd hb5 k5 K5 egk egv
  gi_wp2_with fail
  refine range_q (gf := 162) rfl (enters_of Try.func162 (by kernel_rfl) rfl) SQ (Below.refl _ _) (fun _ => rfl)
    (fun pre V' => Cj V' w.heap.size N b4 b5 gk gv pre ∧ Mp V' mb t ∧ Below w.heap.size w V') (fun _ _ _ => False)
    (fun pre X Z row hs hg hr => ⟨hs.1.cc (Cc.grown hg hr), cc_mp (Cc.grown hg hr) hs.2.1, ownFrom_below (β := Unit) (Nat.le_refl _) HS5.out.1 () X Z row hs.2.2 hg hr⟩)
    (fun _ _ _ _ _ hs _ _ => hs) HJ0.out
    (fun x a' V' => a' = { tmps := #[.pointer (some ⟨mb, 0, none⟩), undef, .slice none 0 0, .slice none 0 0, .pointer (some ⟨b4, 0, none⟩), .pointer (some ⟨b5, 0, none⟩), .float .f64 x.1.bits, .int .i64 x.2, .pointer (some ⟨mb, 0, none⟩), .int .i64 (N : Int), .slice (some ⟨gk, 0, none⟩) 0 N, .pointer (some ⟨mb, 0, none⟩), .int .i64 (N : Int), .slice (some ⟨gv, 0, none⟩) 0 N, .pointer (some ⟨mb, 0, none⟩), .func (.func 162) #[] #[.pointer (some ⟨Wd.heap.size, 0, none⟩)], .float .f64 x.1.bits, .int .i64 x.2, undef, undef, undef, undef, undef, undef, undef, undef, undef, undef], defers := [] }) (fun _ _ _ _ _ _ hs _ _ => hs)
    ?as0 ?bo ?dn (fun _ _ _ _ _ _ h _ => h.elim)
  case as0 =>
    rintro l' pre x V' R hI hR
    have HI := hide hI
    clear hI SQ
    gi_wp2
    exact hR _ _ (kf_nu _ (Kp.refl _ _)) (kc_nu (Kp.refl _ _)) HI.out rfl
  case bo =>
    rintro l' pre x a' V' hl' hq ⟨hC, hM, hB⟩ rfl hp
    obtain ⟨hx, hln⟩ := pre_at hp
    rw [HS5.out.2.2] at hln
    have c4 := cell1 hC.k
    have HJ := hide (And.intro hC (And.intro hM hB))
    have HO : Hid ((V'.alloc (.cells #[.float .f64 x.1.bits] 59)).ownsRow w.heap.size 59 1 (.slice (some ⟨gk, 0, none⟩) pre.length N) pre.length (kv pre)) := hide (own_keep hC.ok (fun g e => (Kp.alloc V' (.cells #[.float .f64 x.1.bits] 59) Nu).block g (own_lt hC.ok e) (fun h => h)))
    have HLE : Hid (pre.length + 1 ≤ N) := hide hln
    clear hC hM hB hp hx hln hq SQ HJ0
    gi_wp2_with (gi_at_builtin; refine unhidS ?_)
    refine wpListIn_append_fits _ rfl (.tmp 18) (.tmp 20) 64 rfl w.heap.size 59 i5 1 Try.underlying64 hi5 hz1 gk pre.length N (kv pre) rfl HO.out ⟨V'.heap.size, 0, none⟩ 1 1 [.float .f64 x.1.bits] rfl rfl (cell_one_new V' _ _) (by simp [Value.oneCell']) HLE.out ?_
    intro V2 o2 g2
    obtain ⟨m1, m2, m3⟩ := cj_mid HJ.out.1 g2 (.slice (some ⟨gk, 0, none⟩) (pre.length + 1) N) (.cells #[.int .i64 x.2] 3)
    have c4' := cell1 m1
    have f4' := free3 m1 0
    have c5' := cell1 m2
    have H2 := hide (And.intro o2 (And.intro g2 m3))
    clear o2 g2 m1 m2 m3 c4
    gi_wp2_with (gi_at_builtin; refine unhidS ?_)
    refine wpListIn_append_fits _ rfl (.tmp 22) (.tmp 24) 47 rfl w.heap.size 3 i3 1 Try.underlying47 hi3 hy1 gv pre.length N (vvs pre) rfl H2.out.2.2 ⟨(V2.setCell ⟨b4, 0, none⟩ (.slice (some ⟨gk, 0, none⟩) (pre.length + 1) N)).heap.size, 0, none⟩ 1 1 [.int .i64 x.2] (by simp [Act.eval]) rfl (cell_one_new _ _ _) (by simp [Value.oneCell']) HLE.out ?_
    intro V4 o4 g4
    obtain ⟨j1, kk⟩ := cj_step HJ.out.1 H2.out.1 H2.out.2.1 o4 g4
    have m5 := cj_last (cj_mid HJ.out.1 H2.out.2.1 (.slice (some ⟨gk, 0, none⟩) (pre.length + 1) N) (.cells #[.int .i64 x.2] 3)).2.1 o4 g4 (cj_ne HJ.out.1)
    have c5'' := cell1 m5
    have f5'' := free3 m5 0
    have HP := hide (And.intro j1 kk)
    clear j1 kk m5 o4 g4 H2 c4' f4' c5'
    gi_wp2
    obtain ⟨p1, p2, p3⟩ := cj_post HJ.out.1 HP.out.2 HJ.out.2.1 (Nat.le_refl _) HJ.out.2.2 w5.heap.size
    exact ⟨p1, p2, HP.out.1, cj_mp HJ.out.1 HP.out.2 HJ.out.2.1, p3⟩
  case dn =>
    rintro D ys V' hD rfl ⟨hC, hM, hB⟩ hK'
    have hln := HS5.out.2.2
    have hk := hC.k
    have hv := hC.v
    rw [hln] at hk hv
    have c4 := cell1 hk
    have c5 := cell1 hv
    have d4 : V'.drew.cell? ⟨b4, 0, none⟩ = some (.slice (some ⟨gk, 0, none⟩) N N) := c4
    have d5 : V'.drew.cell? ⟨b5, 0, none⟩ = some (.slice (some ⟨gv, 0, none⟩) N N) := c5
    have HL6 : Hid (∀ D' ∈ [D], w.heap.size ≤ D' ∧ V'.drew.heap[D']? = some (.deferred (some []))) := hide (fun D' hD' => by
      obtain rfl : D' = D := by simpa using hD'
      exact ⟨Nat.le_trans HS5.out.1 hD, hK'⟩)
    have HR : Hid (∀ Z, Cc V'.drew Z → Kp (fun k => w.heap.size ≤ k) V'.drew Z → Z.ownsRow w.heap.size 59 1 (.slice (some ⟨gk, 0, none⟩) N N) N (kv t.xs) ∧ Z.ownsRow w.heap.size 3 1 (.slice (some ⟨gv, 0, none⟩) N N) N (vvs t.xs) ∧ Kp Nu w Z) := hide (fun Z hc hk => by
      have o1 := hC.ok
      have o2 := hC.ov
      rw [hln] at o1 o2
      exact ⟨cc_own hc o1, hc.own o2, ((Kp.of_below hB).drew).trans hk (fun i hi e => by have e : w.heap.size ≤ i := e; omega)⟩)
    clear hC hM hB hK' hk hv SQ HJ0 hln
    gi_wp2_with fail
    refine region_tight ?_
    gi_region_o
    all_goals (try gi_wp2_with fail)
    all_goals refine leaves_all [D] _ (by simp) HL6.out (fun Z hc hk => ?_)
    all_goals obtain ⟨z1, z2, z3⟩ := HR.out Z hc ⟨hk.os, hk.tape, hk.output, hk.size, hk.block⟩
    all_goals refine ⟨.tuple #[.slice (some ⟨gk, 0, none⟩) N N, .slice (some ⟨gv, 0, none⟩) N N], ?_, gk, gv, rfl, z1, z2, z3⟩
    all_goals simp [results, Try.results43, go_sem]
end Go.Proofs.Ytchealdgncgjoaa.StF
namespace Go.Proofs.Ytchealdgncgjoaa.StF
open Go.RowKit Go.Proofs.Ytchealdgncgjoaa.St Go.Proofs.Ytchealdgncgjoaa.Fl Ieee
set_option linter.unusedVariables false
set_option linter.unusedSimpArgs false
attribute [local go_sem] run_store_float
theorem Both.nu {w wl w2 : World} {mb rb n : Nat} {t : T (FK × Int)} (h : Both w mb rb n wl t) (k : Kp Nu wl w2) : Both w mb rb n w2 t := by
  obtain ⟨hm, ⟨vk, vv, hr⟩, hsz, kw⟩ := h
  exact ⟨hm.nu k, ⟨vk, vv, hr.nu k⟩, hsz, kw.andNu k⟩
theorem ov_int (o : Option (FK × Int)) : ∃ n : Int, ov o = .int .i64 n := by
  cases o with
  | none => exact ⟨0, rfl⟩
  | some p => exact ⟨p.2, rfl⟩
theorem vvs_pj (t : T (FK × Int)) : vvs t.xs = StI.vvs (t.map pj).xs := by
  rw [T.map_xs]
  unfold vvs StI.vvs
  rw [List.map_map]
  rfl
theorem run_inf0 (W : World) : (binOp .quo 59 (.float .f64 4607182418800017408) (.float .f64 0)).run Try.prog W = .ok (.float .f64 0x7FF0000000000000) W := run_float_arith W _ _ _ _ _ _ (by decide)
theorem run_inf1 (W : World) : (binOp .quo 59 (.float .f64 4607182418800017408) (.float .f64 9223372036854775808)).run Try.prog W = .ok (.float .f64 0xFFF0000000000000) W := run_float_arith W _ _ _ _ _ _ (by decide)
theorem run_lss0 (W : World) : (binOp .lss 59 (.float .f64 0x7FF0000000000000) (.float .f64 0)).run Try.prog W = .ok (.bool false) W := run_lss (by decide) W
theorem run_lss1 (W : World) : (binOp .lss 59 (.float .f64 0xFFF0000000000000) (.float .f64 0)).run Try.prog W = .ok (.bool true) W := run_lss (by decide) W
theorem wi1 (i : Nat) (h : i ≤ 17592186043904) : (i : Int) + 1 = ((i + 1 : Nat) : Int) ∧ wrap64 ((i : Int) + 1) = ((i + 1 : Nat) : Int) := ⟨by omega, by unfold wrap64; omega⟩
/-- the floats' loop of Puts -/
structure Pre (w : World) (mb rb N : Nat) (S : List Int) (ad0 : Option Addr) : Prop where
  m : w.heap.size ≤ mb
  r : w.heap.size ≤ rb
  n : S.length = N
  l : N ≤ 17592186043904
  c : ∀ W, Kp Nu w W → ∀ i s, S[i]? = some s → ∃ b off, ad0 = some ⟨b, off, none⟩ ∧ W.cell? ⟨b, off + i, none⟩ = some (.int .i64 s)
theorem zero_words {b : Nat} (h : Pl 0 b) : b = 0 ∨ b = 0x8000000000000000 := by
  rcases h with h | h | h | h | h
  · exact absurd h.1 (by decide)
  · exact absurd h.1 (by decide)
  · exact absurd h.1 (by decide)
  · exact h.2
  · exact absurd rfl h.1
theorem rowT_at {w : World} {B : Nat} {ty : TypeId} {v : Value} {n i : Nat} {l : List Value} {u : Value} (h : w.ownsRow B ty 1 v n l) (hn : l.length = n) (hi : l[i]? = some u) : ∃ r cap, v = .slice (some ⟨r, 0, none⟩) n cap ∧ w.cell? ⟨r, i, none⟩ = some u := by
  have hlt : i < l.length := (List.getElem?_eq_some_iff.1 hi).1
  rcases h.2 with ⟨_, h0⟩ | ⟨r, cap, cur, e, hB, hg, h1, h2, h3, h4⟩
  · omega
  · refine ⟨r, cap, e, ?_⟩
    have e1 : cur.toList[i]? = some u := by
      rw [← h4, List.getElem?_take_of_lt (by omega)] at hi
      exact hi
    simpa [World.cell?, hg] using e1
theorem wi_v {W : World} {B n : Nat} {v : Value} {L : List (Int × Int)} (h : W.ownsRow B 3 1 v n (StI.vvs L)) (hn : L.length = n) : StI.Wi W v (L.map Prod.snd) := by
  obtain ⟨ad, cap, e⟩ := own_slice h
  refine ⟨ad, cap, by rw [e]; simp [hn], fun i s hi => ?_⟩
  obtain ⟨r, cap', e', hc⟩ := rowT_at (i := i) (u := .int .i64 s) h (by simp [StI.vvs, hn]) (by simp [StI.vvs] at hi ⊢; exact hi)
  rw [e] at e'
  cases e'
  exact ⟨r, 0, rfl, by simpa using hc⟩
theorem mul_row {p : Int} (h0 : -1000 < p) (h1 : p < 1000) (hp : p ≠ 0) (W : World) : (binOp .mul 59 (.float .f64 (dv4 p)) (.float .f64 4616189618054758400)).run Try.prog W = .ok (.float .f64 (cnv p)) W ∧ (binOp .neq 59 (.float .f64 (cnv p)) (.float .f64 (floatOfInt .f64 p))).run Try.prog W = .ok (.bool false) W := by
  have h := row_ok h0 h1
  simp only [rowOk, Bool.and_eq_true, Bool.or_eq_true, beq_iff_eq] at h
  have h4 : cnv 4 = 4616189618054758400 := by decide
  have hm := h.1.2
  rw [h4] at hm
  refine ⟨run_float_arith W _ _ _ _ _ _ hm, run_neq ?_ W⟩
  show (double.order (cnv p) (cnv p) != some .eq) = false
  rw [(h.2.resolve_left (by simpa using hp)).2]
  rfl
theorem eql_row {p : Int} (h0 : -1000 < p) (h1 : p < 1000) (hp : p ≠ 0) (W : World) : (binOp .eql 59 (.float .f64 (dv4 p)) (.float .f64 0)).run Try.prog W = .ok (.bool false) W := by
  refine run_eql ?_ W
  have h := order_pl (p := p) (b := dv4 p) (q := 0) (c := 0) (.inr (.inr (.inr (.inr ⟨hp, h0, h1, rfl⟩)))) (.inr (.inr (.inr (.inl ⟨rfl, .inl rfl⟩)))) (by omega) (by decide)
  show (double.order (dv4 p) 0 == some .eq) = false
  rw [h]
  rcases Int.lt_trichotomy p 0 with c | c | c
  · rw [cmp_lt c]; rfl
  · exact absurd c hp
  · rw [cmp_gt c]; rfl
theorem eql_nan {b : Nat} (h : (double.read b).isNaN = true) (W : World) : (binOp .eql 59 (.float .f64 b) (.float .f64 0)).run Try.prog W = .ok (.bool false) W := by
  refine run_eql ?_ W
  show (double.order b 0 == some .eq) = false
  rw [order_nan_l h]; rfl
theorem no_nan {b : Nat} (h : (double.read b).isNaN = true) : ¬ FloatKind.f64.format.order b 0 = some Ordering.eq := by
  show ¬ double.order b 0 = some .eq
  rw [order_nan_l h]; simp
theorem no_row {p : Int} (h0 : -1000 < p) (h1 : p < 1000) (hp : p ≠ 0) : ¬ FloatKind.f64.format.order (dv4 p) 0 = some Ordering.eq := by
  have h := order_pl (p := p) (b := dv4 p) (q := 0) (c := 0) (.inr (.inr (.inr (.inr ⟨hp, h0, h1, rfl⟩)))) (.inr (.inr (.inr (.inl ⟨rfl, .inl rfl⟩)))) (by omega) (by decide)
  show ¬ double.order (dv4 p) 0 = some .eq
  rw [h]
  rcases Int.lt_trichotomy p 0 with c | c | c
  · rw [cmp_lt c]; simp
  · exact absurd c hp
  · rw [cmp_gt c]; simp
theorem ord_row {p : Int} (h0 : -1000 < p) (h1 : p < 1000) (hp : p ≠ 0) : FloatKind.f64.format.order (cnv p) (floatOfInt .f64 p) = some Ordering.eq := by
  have h := row_ok h0 h1
  simp only [rowOk, Bool.and_eq_true, Bool.or_eq_true, beq_iff_eq] at h
  exact (h.2.resolve_left (by simpa using hp)).2
theorem stp5 {k N : Nat} (h : k < N) : k + 1 ≤ N := by omega
theorem mea5 {k N : Nat} (h : k < N) : N - (intOf (.int .i64 ((k : Int) + 1))).toNat < N - (intOf (.int .i64 (k : Int))).toNat := by simp [intOf]; omega
theorem wk5 (k : Int) (h0 : 0 ≤ k) (h1 : k ≤ 17592186043904) : wrap64 (k + 1) = k + 1 := by unfold wrap64; omega
/-- sameInts of two rows that hold the same -/
theorem same_v {X : World} {v0 v1 : Value} {L : List Int} (h0 : StI.Wi X v0 L) (h1 : StI.Wi X v1 L) (hl : L.length ≤ 17592186044000) : Calls Try.prog 44 #[v0, v1] X fun e w' => e = .returned (.bool true) ∧ ∃ q, w' = X.drewN q := StI.same44 X v0 v1 L h0 h1 hl
end Go.Proofs.Ytchealdgncgjoaa.StF
