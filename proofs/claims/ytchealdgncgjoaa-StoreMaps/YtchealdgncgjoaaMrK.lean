import Derived.Test.YtchealdgncgjoaaMrJ
namespace Go.Proofs.Ytchealdgncgjoaa.StM
open Go.RowKit Go.Proofs.Ytchealdgncgjoaa.St Go.Shelf Go.Sort Go.Proofs.Ytchealdgncgjoaa.It Go.Proofs.Ytchealdgncgjoaa.StI
set_option linter.unusedVariables false
set_option linter.unusedSimpArgs false
theorem wi_k {W : World} {B n : Nat} {v : Value} {L : List (Int × Int)} (h : W.ownsRow B 3 1 v n (kv L)) (hn : L.length = n) : Wi W v (L.map Prod.fst) := by
  obtain ⟨ad, cap, e⟩ := own_slice h
  refine ⟨ad, cap, by rw [e]; simp [hn], fun i s hi => ?_⟩
  obtain ⟨r, cap', e', hc⟩ := rowI_at (i := i) (u := .int .i64 s) h (by simp [kv, hn]) (by simp [kv] at hi ⊢; exact hi)
  rw [e] at e'
  cases e'
  exact ⟨r, 0, rfl, by simpa using hc⟩
theorem wi_v {W : World} {B n : Nat} {v : Value} {L : List (Int × Int)} (h : W.ownsRow B 3 1 v n (vvs L)) (hn : L.length = n) : Wi W v (L.map Prod.snd) := by
  obtain ⟨ad, cap, e⟩ := own_slice h
  refine ⟨ad, cap, by rw [e]; simp [hn], fun i s hi => ?_⟩
  obtain ⟨r, cap', e', hc⟩ := rowI_at (i := i) (u := .int .i64 s) h (by simp [vvs, hn]) (by simp [vvs] at hi ⊢; exact hi)
  rw [e] at e'
  cases e'
  exact ⟨r, 0, rfl, by simpa using hc⟩
theorem ow_k {w Z : World} {B n : Nat} {v : Value} {l : List Value} {P : Nat → Prop} (o : w.ownsRow B 3 1 v n l) (k : Kp P w Z) (hP : ∀ g, v.ownBlock = some g → ¬ P g) : Z.ownsRow B 3 1 v n l :=
  own_keep o (fun g hg => k.block g (own_lt o hg) (hP g hg))
section
variable {bw : Nat} {wh : Int} {B : Nat} {w : World} {mb rb : Nat} {vk vv : Value} {t : T (Int × Int)}
set_option maxRecDepth 100000 in
set_option maxHeartbeats 2000000 in
theorem step_len (h : Mq bw wh B w mb rb vk vv t) (ho : Oc wh (cmpW wh)) (kd mm k v : Int) (hk : kd = 4) (hl : t.sz ≤ 4398046511104) :
    Calls Try.prog 70 #[.pointer (some ⟨mb, 0, none⟩), .pointer (some ⟨rb, 0, none⟩), .agg #[.int .i64 kd, .int .i64 mm, .int .i64 k, .int .i64 v]] w fun e w' => e = .returned (.bool true) ∧ Sq bw wh B w mb rb vk vv t w' := by
  subst hk
  have HS := heap_alloc_new w (opc 4 mm k v)
  obtain ⟨x0, x1, x2, x3⟩ := opc_at (W := w) HS
  have KA := Kp.alloc w (opc 4 mm k v) Nu
  have HM := hide (h.nu KA)
  have H0 := hide h
  have HL : Hid (t.xs.length ≤ 17592186044000 ∧ t.sz + 1 < 2 ^ 62 ∧ t.sz < 2 ^ 62) := hide ⟨by rw [T.xs_length]; omega, by omega, by omega⟩
  have HK := hide KA
  have HO := hide ho
  have LA := len_any HM.out.m
  have TA := height_any HM.out.m
  obtain ⟨adk, capk, ek⟩ := own_slice h.r.ok
  obtain ⟨_, d1, _⟩ := cell3 HM.out.r.blk
  rw [ek, T.xs_length] at d1
  have HI := high133 (w.alloc (opc 4 mm k v)) t.sz t.ht hl (ht_60 h.m.bal hl) (T.lt_ht t) (T.ht_le t h.m.bal)
  have b1 : ((t.sz : Int) == (t.sz : Int)) = true := by simp
  have HF : Hid (Sq bw wh B w mb rb vk vv t (w.alloc (opc 4 mm k v))) := hide (Sq.stay h KA)
  clear HM H0 HL HK HO h ho hl KA HS ek x1 x2 x3
  go_enter Try.func70, Try.ntmps70
  go_wp2_with (first
    | (go_at_call 21; refine LA.mono ?_; rintro e w' ⟨rfl, hw⟩; obtain rfl := hw.symm)
    | (go_at_call 22; refine TA.mono ?_; rintro e w' ⟨rfl, hw⟩; obtain rfl := hw.symm)
    | (go_at_call 133; refine HI.mono ?_; rintro e w' ⟨rfl, hw⟩; obtain rfl := hw.symm))
  go_ret
  exact ⟨rfl, HF.out⟩
set_option maxRecDepth 100000 in
set_option maxHeartbeats 4000000 in
theorem step_collect (h : Mq bw wh B w mb rb vk vv t) (ho : Oc wh (cmpW wh)) (kd mm k v : Int) (hk : kd = 8) (hl : t.sz ≤ 4398046511104) :
    Calls Try.prog 70 #[.pointer (some ⟨mb, 0, none⟩), .pointer (some ⟨rb, 0, none⟩), .agg #[.int .i64 kd, .int .i64 mm, .int .i64 k, .int .i64 v]] w fun e w' => e = .returned (.bool true) ∧ Sq bw wh B w mb rb vk vv t w' := by
  subst hk
  have HS := heap_alloc_new w (opc 8 mm k v)
  obtain ⟨x0, x1, x2, x3⟩ := opc_at (W := w) HS
  have KA := Kp.alloc w (opc 8 mm k v) Nu
  have HM := hide (h.nu KA)
  have H0 := hide h
  have HL : Hid (t.xs.length ≤ 17592186044000 ∧ t.sz + 1 < 2 ^ 62 ∧ t.sz < 2 ^ 62) := hide ⟨by rw [T.xs_length]; omega, by omega, by omega⟩
  have HK := hide KA
  have HO := hide ho
  have CA := collect59 HM.out.m (by omega)
  have HT : Hid (t.sz ≤ 4398046511104 ∧ t.xs.length = t.sz) := hide ⟨hl, T.xs_length t⟩
  have HLk : Hid ((t.xs.map Prod.fst).length ≤ 17592186044000) := hide (by simp only [List.length_map, T.xs_length]; omega)
  have HLv : Hid ((t.xs.map Prod.snd).length ≤ 17592186044000) := hide (by simp only [List.length_map, T.xs_length]; omega)
  obtain ⟨N, eN⟩ : ∃ N, t.sz = N := ⟨_, rfl⟩
  rw [eN] at CA HT
  clear h ho hl KA
  go_enter Try.func70, Try.ntmps70
  go_wp2_with fail
  refine CA.mono ?_
  rintro e w1 ⟨gk, gv, rfl, ok1, ov1, ne1, k1⟩
  have C2 := collect59 (HM.out.m.nu k1) (by have := HT.out.1; omega)
  rw [eN] at C2
  have H1 := hide (And.intro ok1 (And.intro ov1 (And.intro ne1 k1)))
  obtain ⟨y0, -, -, -⟩ := opc_at (W := w) ((k1.block _ (blk_lt HS) (fun h => h)).trans HS)
  clear CA HS k1 ok1 ov1 ne1 x0 x1 x2 x3
  go_wp2_with fail
  refine C2.mono ?_
  rintro e w2 ⟨gk2, gv2, rfl, ok2, ov2, ne2, k2⟩
  have HG : Hid (w.heap.size ≤ gk ∧ w.heap.size ≤ gv ∧ gk < w1.heap.size ∧ gv < w1.heap.size ∧ w1.heap.size ≤ gk2 ∧ w1.heap.size ≤ gv2 ∧ gk ≠ gv ∧ gk2 ≠ gv2 ∧ w.heap.size ≤ w2.heap.size ∧ Kp Nu w w2) := hide (by
    have a1 := own_low H1.out.1 (g := gk) rfl
    have a2 := own_low H1.out.2.1 (g := gv) rfl
    have a3 := HK.out.size
    have a4 := H1.out.2.2.2.size
    have a5 := k2.size
    exact ⟨by omega, by omega, own_lt H1.out.1 rfl, own_lt H1.out.2.1 rfl, own_low ok2 rfl, own_low ov2 rfl, H1.out.2.2.1, ne2, by omega, (HK.out.andNu H1.out.2.2.2).andNu k2⟩)
  have R2 := HM.out.r.nu (H1.out.2.2.2.andNu k2)
  have HVB : Hid (∀ g, vk.ownBlock = some g ∨ vv.ownBlock = some g → g < w.heap.size) := hide (fun g e => e.elim (fun e => own_lt H0.out.r.ok e) (fun e => own_lt H0.out.r.ov e))
  have HRB : Hid (rb < w.heap.size) := hide (blk_lt H0.out.r.blk)
  have HCc : Hid (∀ Z, Kp (fun i => i = gk ∨ i = gv ∨ i = gk2) w2 Z → Wi Z vk (t.xs.map Prod.fst) ∧ Wi Z vv (t.xs.map Prod.snd) ∧ Wi Z (.slice (some ⟨gv2, 0, none⟩) N N) (t.xs.map Prod.snd) ∧ Z.cell? ⟨rb, 1, none⟩ = some vk ∧ Z.cell? ⟨rb, 2, none⟩ = some vv) := hide (fun Z q => by
    have hg := HG.out
    have hr := HRB.out
    have hx := HT.out.2
    have hb := (q.block rb (blk_lt R2.blk) (by omega)).trans R2.blk
    obtain ⟨_, c1, c2⟩ := cell3 hb
    refine ⟨wi_k (ow_k R2.ok q (fun g e => ?_)) rfl, wi_v (ow_k R2.ov q (fun g e => ?_)) rfl, wi_v (ow_k ov2 q (fun g e => ?_)) hx, c1, c2⟩
    · have := HVB.out g (.inl e); omega
    · have := HVB.out g (.inr e); omega
    · have e : gv2 = g := Option.some.inj e
      omega)
  have HBb : Hid (∀ Z, Kp (fun i => i = gk ∨ i = gv) w2 Z → Wi Z (.slice (some ⟨gk2, 0, none⟩) N N) (t.xs.map Prod.fst) ∧ Z.ownsRow w1.heap.size 3 1 (.slice (some ⟨gk2, 0, none⟩) N N) N (kv t.xs) ∧ w1.heap.size ≤ Z.heap.size) := hide (fun Z q => by
    have hg := HG.out
    have o := ow_k ok2 q (fun g e => by have e : gk2 = g := Option.some.inj e; omega)
    exact ⟨wi_k o HT.out.2, o, by have := k2.size; have := q.size; omega⟩)
  have HB1 : Hid (∀ Z, Kp (fun i => i = gk) w2 Z → Wi Z (.slice (some ⟨gv, 0, none⟩) N N) (t.xs.map Prod.snd) ∧ Z.ownsRow (w.alloc (opc 8 mm k v)).heap.size 3 1 (.slice (some ⟨gv, 0, none⟩) N N) N (vvs t.xs) ∧ (w.alloc (opc 8 mm k v)).heap.size ≤ Z.heap.size) := hide (fun Z q => by
    have hg := HG.out
    have o := ow_k (ow_k H1.out.2.1 k2 (fun _ _ e => e)) q (fun g e => by have e : gv = g := Option.some.inj e; omega)
    exact ⟨wi_v o HT.out.2, o, by have := H1.out.2.2.2.size; have := k2.size; have := q.size; omega⟩)
  have HA1 : Hid (∀ Z, Kp Nu w2 Z → Wi Z (.slice (some ⟨gk, 0, none⟩) N N) (t.xs.map Prod.fst) ∧ Z.ownsRow (w.alloc (opc 8 mm k v)).heap.size 3 1 (.slice (some ⟨gk, 0, none⟩) N N) N (kv t.xs) ∧ (w.alloc (opc 8 mm k v)).heap.size ≤ Z.heap.size) := hide (fun Z q => by
    have o := ow_k (ow_k H1.out.1 k2 (fun _ _ e => e)) q (fun _ _ e => e)
    exact ⟨wi_k o HT.out.2, o, by have := H1.out.2.2.2.size; have := k2.size; have := q.size; omega⟩)
  have HF : Hid (∀ Z, Kp (fun i => i = gk ∨ i = gv ∨ i = gk2) w2 Z → Sq bw wh B w mb rb vk vv t Z) := hide (fun Z q => Sq.stay H0.out (HG.out.2.2.2.2.2.2.2.2.2.trans q (fun i hi e => by have hg := HG.out; omega)))
  have HXK : Hid ((kv t.xs).length = N ∧ (vvs t.xs).length = N) := hide (by simp [kv, vvs, HT.out.2])
  obtain ⟨LK, eLK⟩ : ∃ L, t.xs.map Prod.fst = L := ⟨_, rfl⟩
  obtain ⟨LV, eLV⟩ : ∃ L, t.xs.map Prod.snd = L := ⟨_, rfl⟩
  rw [eLK] at HCc HBb HA1 HLk
  rw [eLV] at HCc HB1 HLv
  have Q2 : Hid (Kp Nu w2 w2) := hide (Kp.refl Nu _)
  obtain ⟨-, -, -, c1, c2⟩ := HCc.out w2 (Q2.out.mono (fun _ _ e => e.elim))
  clear C2 H1 HM H0 HL HK HO HVB HRB HG R2 k2 ok2 ov2 ne2 y0 eN eLK eLV
  have HN : Hid (N ≤ 4398046511104) := hide HT.out.1
  clear HT
  have S3 := same44 w2 (.slice (some ⟨gk, 0, none⟩) N N) vk LK (HA1.out w2 Q2.out).1 (HCc.out w2 (Q2.out.mono (fun _ _ e => e.elim))).1 HLk.out
  go_wp2_with fail
  refine S3.mono ?_
  rintro e w3 ⟨rfl, q3, hq3⟩
  have Q3 : Hid (Kp Nu w2 w3) := hide (by rw [hq3]; exact Q2.out.andNu (kp_dn _ _))
  clear S3 hq3 Q2 c1 c2
  obtain ⟨-, -, -, c1, c2⟩ := HCc.out w3 (Q3.out.mono (fun _ _ e => e.elim))
  have S4 := same44 w3 (.slice (some ⟨gv, 0, none⟩) N N) vv LV (HB1.out w3 (Q3.out.mono (fun _ _ e => e.elim))).1 (HCc.out w3 (Q3.out.mono (fun _ _ e => e.elim))).2.1 HLv.out
  go_wp2_with fail
  refine S4.mono ?_
  rintro e w4 ⟨rfl, q4, hq4⟩
  have Q4 : Hid (Kp Nu w2 w4) := hide (by rw [hq4]; exact Q3.out.andNu (kp_dn _ _))
  clear S4 hq4 Q3 c1 c2
  obtain ⟨-, -, -, c1, c2⟩ := HCc.out w4 (Q4.out.mono (fun _ _ e => e.elim))
  have S5 := same44 w4 (.slice (some ⟨gk2, 0, none⟩) N N) vk LK (HBb.out w4 (Q4.out.mono (fun _ _ e => e.elim))).1 (HCc.out w4 (Q4.out.mono (fun _ _ e => e.elim))).1 HLk.out
  go_wp2_with fail
  refine S5.mono ?_
  rintro e w5 ⟨rfl, q5, hq5⟩
  have Q5 : Hid (Kp Nu w2 w5) := hide (by rw [hq5]; exact Q4.out.andNu (kp_dn _ _))
  clear S5 hq5 Q4 c1 c2
  obtain ⟨-, -, -, c1, c2⟩ := HCc.out w5 (Q5.out.mono (fun _ _ e => e.elim))
  have S6 := same44 w5 (.slice (some ⟨gv2, 0, none⟩) N N) vv LV (HCc.out w5 (Q5.out.mono (fun _ _ e => e.elim))).2.2.1 (HCc.out w5 (Q5.out.mono (fun _ _ e => e.elim))).2.1 HLv.out
  go_wp2_with fail
  refine S6.mono ?_
  rintro e w6 ⟨rfl, q6, hq6⟩
  have Q6 : Hid (Kp Nu w2 w6) := hide (by rw [hq6]; exact Q5.out.andNu (kp_dn _ _))
  clear S6 hq6 Q5 c1 c2
  obtain ⟨-, -, -, c1, c2⟩ := HCc.out w6 (Q6.out.mono (fun _ _ e => e.elim))
  have S7 := spoil134 71 (by omega) (HA1.out w6 Q6.out).2.1 HXK.out.1 (HA1.out w6 Q6.out).2.2 HN.out
  go_wp2_with fail
  refine S7.mono ?_
  rintro e w7 ⟨⟨u7, rfl⟩, q7⟩
  have Q7 : Hid (Kp (fun i => i = gk) w2 w7) := hide ((Q6.out.mono (T := fun i => i = gk) (fun _ _ e => e.elim)).trans q7 (fun _ _ e => e))
  clear S7 q7 Q6 c1 c2
  obtain ⟨-, -, -, c1, c2⟩ := HCc.out w7 (Q7.out.mono (fun _ _ e => by omega))
  have S8 := spoil134 81 (by omega) (HB1.out w7 Q7.out).2.1 HXK.out.2 (HB1.out w7 Q7.out).2.2 HN.out
  go_wp2_with fail
  refine S8.mono ?_
  rintro e w8 ⟨⟨u8, rfl⟩, q8⟩
  have Q8 : Hid (Kp (fun i => i = gk ∨ i = gv) w2 w8) := hide ((Q7.out.mono (T := fun i => i = gk ∨ i = gv) (fun _ _ e => .inl e)).trans q8 (fun _ _ e => .inr e))
  clear S8 q8 Q7 c1 c2
  obtain ⟨-, -, -, c1, c2⟩ := HCc.out w8 (Q8.out.mono (fun _ _ e => by omega))
  have S9 := same44 w8 (.slice (some ⟨gk2, 0, none⟩) N N) vk LK (HBb.out w8 Q8.out).1 (HCc.out w8 (Q8.out.mono (fun _ _ e => by omega))).1 HLk.out
  go_wp2_with fail
  refine S9.mono ?_
  rintro e w9 ⟨rfl, q9, hq9⟩
  have Q9 : Hid (Kp (fun i => i = gk ∨ i = gv) w2 w9) := hide (by rw [hq9]; exact Q8.out.andNu (kp_dn _ _))
  clear S9 hq9 Q8 c1 c2
  obtain ⟨-, -, -, c1, c2⟩ := HCc.out w9 (Q9.out.mono (fun _ _ e => by omega))
  have S10 := same44 w9 (.slice (some ⟨gv2, 0, none⟩) N N) vv LV (HCc.out w9 (Q9.out.mono (fun _ _ e => by omega))).2.2.1 (HCc.out w9 (Q9.out.mono (fun _ _ e => by omega))).2.1 HLv.out
  go_wp2_with fail
  refine S10.mono ?_
  rintro e w10 ⟨rfl, q10, hq10⟩
  have Q10 : Hid (Kp (fun i => i = gk ∨ i = gv) w2 w10) := hide (by rw [hq10]; exact Q9.out.andNu (kp_dn _ _))
  clear S10 hq10 Q9 c1 c2
  obtain ⟨-, -, -, c1, c2⟩ := HCc.out w10 (Q10.out.mono (fun _ _ e => by omega))
  have S11 := spoil134 91 (by omega) (HBb.out w10 Q10.out).2.1 HXK.out.1 (HBb.out w10 Q10.out).2.2 HN.out
  go_wp2_with fail
  refine S11.mono ?_
  rintro e w11 ⟨⟨u11, rfl⟩, q11⟩
  have Q11 : Hid (Kp (fun i => i = gk ∨ i = gv ∨ i = gk2) w2 w11) := hide ((Q10.out.mono (T := fun i => i = gk ∨ i = gv ∨ i = gk2) (fun _ _ e => by omega)).trans q11 (fun _ _ e => .inr (.inr e)))
  clear S11 q11 Q10 c1 c2
  obtain ⟨-, -, -, c1, c2⟩ := HCc.out w11 Q11.out
  have S12 := same44 w11 (.slice (some ⟨gv2, 0, none⟩) N N) vv LV (HCc.out w11 Q11.out).2.2.1 (HCc.out w11 Q11.out).2.1 HLv.out
  go_wp2_with fail
  refine S12.mono ?_
  rintro e w12 ⟨rfl, q12, hq12⟩
  have Q12 : Hid (Kp (fun i => i = gk ∨ i = gv ∨ i = gk2) w2 w12) := hide (by rw [hq12]; exact Q11.out.andNu (kp_dn _ _))
  clear S12 hq12 Q11 c1 c2
  obtain ⟨-, -, -, c1, c2⟩ := HCc.out w12 Q12.out
  have HE := hide (HF.out w12 Q12.out)
  clear HF HCc HBb HB1 HA1
  go_wp2_with fail
  go_ret
  exact ⟨rfl, HE.out⟩
set_option maxRecDepth 100000 in
set_option maxHeartbeats 2000000 in
theorem step_seek (h : Mq bw wh B w mb rb vk vv t) (ho : Oc wh (cmpW wh)) (kd mm k v : Int) (hk : k ≤ 9223372036854775807) (n1 : (kd == 1) = false) (n2 : (kd == 2) = false) (n3 : (kd == 3) = false) (n4 : (kd == 4) = false) (n8 : (kd == 8) = false) (hl : t.sz ≤ 4398046511104) :
    Calls Try.prog 70 #[.pointer (some ⟨mb, 0, none⟩), .pointer (some ⟨rb, 0, none⟩), .agg #[.int .i64 kd, .int .i64 mm, .int .i64 k, .int .i64 v]] w fun e w' => e = .returned (.bool true) ∧ Sq bw wh B w mb rb vk vv t w' := by
  have HS := heap_alloc_new w (opc kd mm k v)
  obtain ⟨x0, x1, x2, x3⟩ := opc_at (W := w) HS
  have KA := Kp.alloc w (opc kd mm k v) Nu
  have HM := hide (h.nu KA)
  have H0 := hide h
  have HL : Hid (t.xs.length ≤ 17592186044000 ∧ t.sz + 1 < 2 ^ 62 ∧ t.sz < 2 ^ 62) := hide ⟨by rw [T.xs_length]; omega, by omega, by omega⟩
  have HK := hide KA
  have HO := hide ho
  have HSK := seeks135 HM.out ho kd mm k v hk hl
  clear HM HL h ho hl KA hk HS HO
  go_enter Try.func70, Try.ntmps70
  go_wp2_with fail
  refine HSK.mono ?_
  rintro e w2 ⟨rfl, k2⟩
  have HF : Hid (Sq bw wh B w mb rb vk vv t w2) := hide (Sq.stay H0.out (HK.out.andNu k2))
  clear HSK k2 H0 HK
  go_wp2_with fail
  go_ret
  exact ⟨rfl, HF.out⟩
theorem mapStep70 (h : Mq bw wh B w mb rb vk vv t) (ho : Oc wh (cmpW wh)) (kd mm k v : Int) (hk : k ≤ 9223372036854775807) (hl : t.sz ≤ 4398046511104) :
    Calls Try.prog 70 #[.pointer (some ⟨mb, 0, none⟩), .pointer (some ⟨rb, 0, none⟩), .agg #[.int .i64 kd, .int .i64 mm, .int .i64 k, .int .i64 v]] w fun e w' => e = .returned (.bool true) ∧ Sq bw wh B w mb rb vk vv t w' := by
  by_cases h1 : kd = 1
  · exact step_put h ho kd mm k v h1 hl
  by_cases h2 : kd = 2
  · exact step_get h ho kd mm k v h2 hl
  by_cases h3 : kd = 3
  · exact step_del h ho kd mm k v h3 hl
  by_cases h4 : kd = 4
  · exact step_len h ho kd mm k v h4 hl
  by_cases h8 : kd = 8
  · exact step_collect h ho kd mm k v h8 hl
  · exact step_seek h ho kd mm k v hk (by simpa using h1) (by simpa using h2) (by simpa using h3) (by simpa using h4) (by simpa using h8) hl
end
end Go.Proofs.Ytchealdgncgjoaa.StM
