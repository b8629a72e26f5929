import Derived.Test.YtchealdgncgjoaaMrJ
namespace Go.Proofs.Ytchealdgncgjoaa.StM
open Go.RowKit Go.Proofs.Ytchealdgncgjoaa.St Go.Shelf Go.Sort Go.Proofs.Ytchealdgncgjoaa.It Go.Proofs.Ytchealdgncgjoaa.StI
set_option linter.unusedVariables false
set_option linter.unusedSimpArgs false
theorem wi_k {W : World} {B n : Nat} {v : Value} {L : List (Int × Int)} (h : W.ownsRow B 3 1 v n (kv L)) (hn : L.length = n) : Wi W v (L.map Prod.fst) := by
  obtain ⟨ad, cap, e⟩ := own_slice h
  refine ⟨ad, cap, by rw [e]; simp [hn], fun i s hi => ?_⟩
  obtain ⟨r, cap', e', hc⟩ := rowI_at (i := i) (u := .int .i64 s) h (by simp [kv, hn]) (by simp [kv] at hi ⊢; exact hi)
  rw [e] at e'
  cases e'
  exact ⟨r, 0, rfl, by simpa using hc⟩
theorem wi_v {W : World} {B n : Nat} {v : Value} {L : List (Int × Int)} (h : W.ownsRow B 3 1 v n (vvs L)) (hn : L.length = n) : Wi W v (L.map Prod.snd) := by
  obtain ⟨ad, cap, e⟩ := own_slice h
  refine ⟨ad, cap, by rw [e]; simp [hn], fun i s hi => ?_⟩
  obtain ⟨r, cap', e', hc⟩ := rowI_at (i := i) (u := .int .i64 s) h (by simp [vvs, hn]) (by simp [vvs] at hi ⊢; exact hi)
  rw [e] at e'
  cases e'
  exact ⟨r, 0, rfl, by simpa using hc⟩
theorem ow_k {w Z : World} {B n : Nat} {v : Value} {l : List Value} {P : Nat → Prop} (o : w.ownsRow B 3 1 v n l) (k : Kp P w Z) (hP : ∀ g, v.ownBlock = some g → ¬ P g) : Z.ownsRow B 3 1 v n l :=
  own_keep o (fun g hg => k.block g (own_lt o hg) (hP g hg))
section
variable {bw : Nat} {wh : Int} {B : Nat} {w : World} {mb rb : Nat} {vk vv : Value} {t : T (Int × Int)}
set_option maxRecDepth 100000 in
set_option maxHeartbeats 2000000 in
theorem step_len (h : Mq bw wh B w mb rb vk vv t) (ho : Oc wh (cmpW wh)) (kd mm k v : Int) (hk : kd = 4) (hl : t.sz ≤ 4398046511104) :
    Calls Try.prog 70 #[.pointer (some ⟨mb, 0, none⟩), .pointer (some ⟨rb, 0, none⟩), .agg #[.int .i64 kd, .int .i64 mm, .int .i64 k, .int .i64 v]] w fun e w' => e = .returned (.bool true) ∧ Sq bw wh B w mb rb vk vv t w' := by
  subst hk
  have HS := heap_alloc_new w (opc 4 mm k v)
  obtain ⟨x0, x1, x2, x3⟩ := opc_at (W := w) HS
  have KA := Kp.alloc w (opc 4 mm k v) Nu
  have HM := hide (h.nu KA)
  have H0 := hide h
  have HL : Hid (t.xs.length ≤ 17592186044000 ∧ t.sz + 1 < 2 ^ 62 ∧ t.sz < 2 ^ 62) := hide ⟨by rw [T.xs_length]; omega, by omega, by omega⟩
  have HK := hide KA
  have HO := hide ho
  have LA := len_any HM.out.m
  have TA := height_any HM.out.m
  obtain ⟨adk, capk, ek⟩ := own_slice h.r.ok
  obtain ⟨_, d1, _⟩ := cell3 HM.out.r.blk
  rw [ek, T.xs_length] at d1
  have HI := high133 (w.alloc (opc 4 mm k v)) t.sz t.ht hl (ht_60 h.m.bal hl) (T.lt_ht t) (T.ht_le t h.m.bal)
  have b1 : ((t.sz : Int) == (t.sz : Int)) = true := by simp
  have HF : Hid (Sq bw wh B w mb rb vk vv t (w.alloc (opc 4 mm k v))) := hide (Sq.stay h KA)
  clear HM H0 HL HK HO h ho hl KA HS ek x1 x2 x3
  go_enter Try.func70, Try.ntmps70
  go_wp2_with (first
    | (go_at_call 21; refine LA.mono ?_; rintro e w' ⟨rfl, hw⟩; obtain rfl := hw.symm)
    | (go_at_call 22; refine TA.mono ?_; rintro e w' ⟨rfl, hw⟩; obtain rfl := hw.symm)
    | (go_at_call 133; refine HI.mono ?_; rintro e w' ⟨rfl, hw⟩; obtain rfl := hw.symm))
  go_ret
  exact ⟨rfl, HF.out⟩
set_option maxRecDepth 100000 in
set_option maxHeartbeats 4000000 in
theorem step_collect (h : Mq bw wh B w mb rb vk vv t) (ho : Oc wh (cmpW wh)) (kd mm k v : Int) (hk : kd = 8) (hl : t.sz ≤ 4398046511104) :
    Calls Try.prog 70 #[.pointer (some ⟨mb, 0, none⟩), .pointer (some ⟨rb, 0, none⟩), .agg #[.int .i64 kd, .int .i64 mm, .int .i64 k, .int .i64 v]] w fun e w' => e = .returned (.bool true) ∧ Sq bw wh B w mb rb vk vv t w' := by
  subst hk
  have HS := heap_alloc_new w (opc 8 mm k v)
  obtain ⟨x0, x1, x2, x3⟩ := opc_at (W := w) HS
  have KA := Kp.alloc w (opc 8 mm k v) Nu
  have HM := hide (h.nu KA)
  have H0 := hide h
  have HL : Hid (t.xs.length ≤ 17592186044000 ∧ t.sz + 1 < 2 ^ 62 ∧ t.sz < 2 ^ 62) := hide ⟨by rw [T.xs_length]; omega, by omega, by omega⟩
  have HK := hide KA
  have HO := hide ho
  have CA := collect59 HM.out.m (by omega)
  have HT : Hid (t.sz ≤ 4398046511104 ∧ t.xs.length = t.sz) := hide ⟨hl, T.xs_length t⟩
  have HLk : Hid ((t.xs.map Prod.fst).length ≤ 17592186044000) := hide (by simp only [List.length_map, T.xs_length]; omega)
  have HLv : Hid ((t.xs.map Prod.snd).length ≤ 17592186044000) := hide (by simp only [List.length_map, T.xs_length]; omega)
  obtain ⟨N, eN⟩ : ∃ N, t.sz = N := ⟨_, rfl⟩
  rw [eN] at CA HT
  clear h ho hl KA
  go_enter Try.func70, Try.ntmps70
  go_wp2_with fail
  refine CA.mono ?_
  rintro e w1 ⟨gk, gv, rfl, ok1, ov1, ne1, k1⟩
  have C2 := collect59 (HM.out.m.nu k1) (by have := HT.out.1; omega)
  rw [eN] at C2
  have H1 := hide (And.intro ok1 (And.intro ov1 (And.intro ne1 k1)))
  obtain ⟨y0, -, -, -⟩ := opc_at (W := w) ((k1.block _ (blk_lt HS) (fun h => h)).trans HS)
  clear CA HS k1 ok1 ov1 ne1 x0 x1 x2 x3
  go_wp2_with fail
  refine C2.mono ?_
  rintro e w2 ⟨gk2, gv2, rfl, ok2, ov2, ne2, k2⟩
  have HG : Hid (w.heap.size ≤ gk ∧ w.heap.size ≤ gv ∧ gk < w1.heap.size ∧ gv < w1.heap.size ∧ w1.heap.size ≤ gk2 ∧ w1.heap.size ≤ gv2 ∧ gk ≠ gv ∧ gk2 ≠ gv2 ∧ w.heap.size ≤ w2.heap.size ∧ Kp Nu w w2) := hide (by
    have a1 := own_low H1.out.1 (g := gk) rfl
    have a2 := own_low H1.out.2.1 (g := gv) rfl
    have a3 := HK.out.size
    have a4 := H1.out.2.2.2.size
    have a5 := k2.size
    exact ⟨by omega, by omega, own_lt H1.out.1 rfl, own_lt H1.out.2.1 rfl, own_low ok2 rfl, own_low ov2 rfl, H1.out.2.2.1, ne2, by omega, (HK.out.andNu H1.out.2.2.2).andNu k2⟩)
  have R2 := HM.out.r.nu (H1.out.2.2.2.andNu k2)
  have HVB : Hid (∀ g, vk.ownBlock = some g ∨ vv.ownBlock = some g → g < w.heap.size) := hide (fun g e => e.elim (fun e => own_lt H0.out.r.ok e) (fun e => own_lt H0.out.r.ov e))
  have HRB : Hid (rb < w.heap.size) := hide (blk_lt H0.out.r.blk)
  have HCc : Hid (∀ Z, Kp (fun i => i = gk ∨ i = gv ∨ i = gk2) w2 Z → Wi Z vk (t.xs.map Prod.fst) ∧ Wi Z vv (t.xs.map Prod.snd) ∧ Wi Z (.slice (some ⟨gv2, 0, none⟩) N N) (t.xs.map Prod.snd) ∧ Z.cell? ⟨rb, 1, none⟩ = some vk ∧ Z.cell? ⟨rb, 2, none⟩ = some vv) := hide (fun Z q => by
    have hg := HG.out
    have hr := HRB.out
    have hx := HT.out.2
    have hb := (q.block rb (blk_lt R2.blk) (by omega)).trans R2.blk
    obtain ⟨_, c1, c2⟩ := cell3 hb
    refine ⟨wi_k (ow_k R2.ok q (fun g e => ?_)) rfl, wi_v (ow_k R2.ov q (fun g e => ?_)) rfl, wi_v (ow_k ov2 q (fun g e => ?_)) hx, c1, c2⟩
    · have := HVB.out g (.inl e); omega
    · have := HVB.out g (.inr e); omega
    · have e : gv2 = g := Option.some.inj e
      omega)
  have HBb : Hid (∀ Z, Kp (fun i => i = gk ∨ i = gv) w2 Z → Wi Z (.slice (some ⟨gk2, 0, none⟩) N N) (t.xs.map Prod.fst) ∧ Z.ownsRow w1.heap.size 3 1 (.slice (some ⟨gk2, 0, none⟩) N N) N (kv t.xs) ∧ w1.heap.size ≤ Z.heap.size) := hide (fun Z q => by
    have hg := HG.out
    have o := ow_k ok2 q (fun g e => by have e : gk2 = g := Option.some.inj e; omega)
    exact ⟨wi_k o HT.out.2, o, by have := k2.size; have := q.size; omega⟩)
  have HB1 : Hid (∀ Z, Kp (fun i => i = gk) w2 Z → Wi Z (.slice (some ⟨gv, 0, none⟩) N N) (t.xs.map Prod.snd) ∧ Z.ownsRow (w.alloc (opc 8 mm k v)).heap.size 3 1 (.slice (some ⟨gv, 0, none⟩) N N) N (vvs t.xs) ∧ (w.alloc (opc 8 mm k v)).heap.size ≤ Z.heap.size) := hide (fun Z q => by
    have hg := HG.out
    have o := ow_k (ow_k H1.out.2.1 k2 (fun _ _ e => e)) q (fun g e => by have e : gv = g := Option.some.inj e; omega)
    exact ⟨wi_v o HT.out.2, o, by have := H1.out.2.2.2.size; have := k2.size; have := q.size; omega⟩)
  have HA1 : Hid (∀ Z, Kp Nu w2 Z → Wi Z (.slice (some ⟨gk, 0, none⟩) N N) (t.xs.map Prod.fst) ∧ Z.ownsRow (w.alloc (opc 8 mm k v)).heap.size 3 1 (.slice (some ⟨gk, 0, none⟩) N N) N (kv t.xs) ∧ (w.alloc (opc 8 mm k v)).heap.size ≤ Z.heap.size) := hide (fun Z q => by
    have o := ow_k (ow_k H1.out.1 k2 (fun _ _ e => e)) q (fun _ _ e => e)
    exact ⟨wi_k o HT.out.2, o, by have := H1.out.2.2.2.size; have := k2.size; have := q.size; omega⟩)
  have HF : Hid (∀ Z, Kp (fun i => i = gk ∨ i = gv ∨ i = gk2) w2 Z → Sq bw wh B w mb rb vk vv t Z) := hide (fun Z q => Sq.stay H0.out (HG.out.2.2.2.2.2.2.2.2.2.trans q (fun i hi e => by have hg := HG.out; omega)))
  have HXK : Hid ((kv t.xs).length = N ∧ (vvs t.xs).length = N) := hide (by simp [kv, vvs, HT.out.2])
  obtain ⟨LK, eLK⟩ : ∃ L, t.xs.map Prod.fst = L := ⟨_, rfl⟩
  obtain ⟨LV, eLV⟩ : ∃ L, t.xs.map Prod.snd = L := ⟨_, rfl⟩
  rw [eLK] at HCc HBb HA1 HLk
  rw [eLV] at HCc HB1 HLv
  have Q2 : Hid (Kp Nu w2 w2) := hide (Kp.refl Nu _)
  obtain ⟨-, -, -, c1, c2⟩ := HCc.out w2 (Q2.out.mono (fun _ _ e => e.elim))
  clear C2 H1 HM H0 HL HK HO HVB HRB HG R2 k2 ok2 ov2 ne2 y0 eN eLK eLV
  have HN : Hid (N ≤ 4398046511104) := hide HT.out.1
  clear HT
  have S3 := same44 w2 (.slice (some ⟨gk, 0, none⟩) N N) vk LK (HA1.out w2 Q2.out).1 (HCc.out w2 (Q2.out.mono (fun _ _ e => e.elim))).1 HLk.out
  go_wp2_with fail
  refine S3.mono ?_
  rintro e w3 ⟨rfl, q3, hq3⟩
  have Q3 : Hid (Kp Nu w2 w3) := hide (by rw [hq3]; exact Q2.out.andNu (kp_dn _ _))
  clear S3 hq3 Q2 c1 c2
  obtain ⟨-, -, -, c1, c2⟩ := HCc.out w3 (Q3.out.mono (fun _ _ e => e.elim))
  have S4 := same44 w3 (.slice (some ⟨gv, 0, none⟩) N N) vv LV (HB1.out w3 (Q3.out.mono (fun _ _ e => e.elim))).1 (HCc.out w3 (Q3.out.mono (fun _ _ e => e.elim))).2.1 HLv.out
  go_wp2_with fail
  refine S4.mono ?_
  rintro e w4 ⟨rfl, q4, hq4⟩
  have Q4 : Hid (Kp Nu w2 w4) := hide (by rw [hq4]; exact Q3.out.andNu (kp_dn _ _))
  clear S4 hq4 Q3 c1 c2
  obtain ⟨-, -, -, c1, c2⟩ := HCc.out w4 (Q4.out.mono (fun _ _ e => e.elim))
  have S5 := same44 w4 (.slice (some ⟨gk2, 0, none⟩) N N) vk LK (HBb.out w4 (Q4.out.mono (fun _ _ e => e.elim))).1 (HCc.out w4 (Q4.out.mono (fun _ _ e => e.elim))).1 HLk.out
  go_wp2_with fail
  refine S5.mono ?_
  rintro e w5 ⟨rfl, q5, hq5⟩
  have Q5 : Hid (Kp Nu w2 w5) := hide (by rw [hq5]; exact Q4.out.andNu (kp_dn _ _))
  clear S5 hq5 Q4 c1 c2
  obtain ⟨-, -, -, c1, c2⟩ := HCc.out w5 (Q5.out.mono (fun _ _ e => e.elim))
  have S6 := same44 w5 (.slice (some ⟨gv2, 0, none⟩) N N) vv LV (HCc.out w5 (Q5.out.mono (fun _ _ e => e.elim))).2.2.1 (HCc.out w5 (Q5.out.mono (fun _ _ e => e.elim))).2.1 HLv.out
  go_wp2_with fail
  refine S6.mono ?_
  rintro e w6 ⟨rfl, q6, hq6⟩
  have Q6 : Hid (Kp Nu w2 w6) := hide (by rw [hq6]; exact Q5.out.andNu (kp_dn _ _))
  clear S6 hq6 Q5 c1 c2
  obtain ⟨-, -, -, c1, c2⟩ := HCc.out w6 (Q6.out.mono (fun _ _ e => e.elim))
  have S7 := spoil134 71 (by omega) (HA1.out w6 Q6.out).2.1 HXK.out.1 (HA1.out w6 Q6.out).2.2 HN.out
  go_wp2_with fail
  refine S7.mono ?_
  rintro e w7 ⟨⟨u7, rfl⟩, q7⟩
  have Q7 : Hid (Kp (fun i => i = gk) w2 w7) := hide ((Q6.out.mono (T := fun i => i = gk) (fun _ _ e => e.elim)).trans q7 (fun _ _ e => e))
  clear S7 q7 Q6 c1 c2
  obtain ⟨-, -, -, c1, c2⟩ := HCc.out w7 (Q7.out.mono (fun _ _ e => by omega))
  have S8 := spoil134 81 (by omega) (HB1.out w7 Q7.out).2.1 HXK.out.2 (HB1.out w7 Q7.out).2.2 HN.out
  go_wp2_with fail
  refine S8.mono ?_
  rintro e w8 ⟨⟨u8, rfl⟩, q8⟩
  have Q8 : Hid (Kp (fun i => i = gk ∨ i = gv) w2 w8) := hide ((Q7.out.mono (T := fun i => i = gk ∨ i = gv) (fun _ _ e => .inl e)).trans q8 (fun _ _ e => .inr e))
  clear S8 q8 Q7 c1 c2
  obtain ⟨-, -, -, c1, c2⟩ := HCc.out w8 (Q8.out.mono (fun _ _ e => by omega))
  have S9 := same44 w8 (.slice (some ⟨gk2, 0, none⟩) N N) vk LK (HBb.out w8 Q8.out).1 (HCc.out w8 (Q8.out.mono (fun _ _ e => by omega))).1 HLk.out
  go_wp2_with fail
  refine S9.mono ?_
  rintro e w9 ⟨rfl, q9, hq9⟩
  have Q9 : Hid (Kp (fun i => i = gk ∨ i = gv) w2 w9) := hide (by rw [hq9]; exact Q8.out.andNu (kp_dn _ _))
  clear S9 hq9 Q8 c1 c2
  obtain ⟨-, -, -, c1, c2⟩ := HCc.out w9 (Q9.out.mono (fun _ _ e => by omega))
  have S10 := same44 w9 (.slice (some ⟨gv2, 0, none⟩) N N) vv LV (HCc.out w9 (Q9.out.mono (fun _ _ e => by omega))).2.2.1 (HCc.out w9 (Q9.out.mono (fun _ _ e => by omega))).2.1 HLv.out
  go_wp2_with fail
  refine S10.mono ?_
  rintro e w10 ⟨rfl, q10, hq10⟩
  have Q10 : Hid (Kp (fun i => i = gk ∨ i = gv) w2 w10) := hide (by rw [hq10]; exact Q9.out.andNu (kp_dn _ _))
  clear S10 hq10 Q9 c1 c2
  obtain ⟨-, -, -, c1, c2⟩ := HCc.out w10 (Q10.out.mono (fun _ _ e => by omega))
  have S11 := spoil134 91 (by omega) (HBb.out w10 Q10.out).2.1 HXK.out.1 (HBb.out w10 Q10.out).2.2 HN.out
  go_wp2_with fail
  refine S11.mono ?_
  rintro e w11 ⟨⟨u11, rfl⟩, q11⟩
  have Q11 : Hid (Kp (fun i => i = gk ∨ i = gv ∨ i = gk2) w2 w11) := hide ((Q10.out.mono (T := fun i => i = gk ∨ i = gv ∨ i = gk2) (fun _ _ e => by omega)).trans q11 (fun _ _ e => .inr (.inr e)))
  clear S11 q11 Q10 c1 c2
  obtain ⟨-, -, -, c1, c2⟩ := HCc.out w11 Q11.out
  have S12 := same44 w11 (.slice (some ⟨gv2, 0, none⟩) N N) vv LV (HCc.out w11 Q11.out).2.2.1 (HCc.out w11 Q11.out).2.1 HLv.out
  go_wp2_with fail
  refine S12.mono ?_
  rintro e w12 ⟨rfl, q12, hq12⟩
  have Q12 : Hid (Kp (fun i => i = gk ∨ i = gv ∨ i = gk2) w2 w12) := hide (by rw [hq12]; exact Q11.out.andNu (kp_dn _ _))
  clear S12 hq12 Q11 c1 c2
  obtain ⟨-, -, -, c1, c2⟩ := HCc.out w12 Q12.out
  have HE := hide (HF.out w12 Q12.out)
  clear HF HCc HBb HB1 HA1
  go_wp2_with fail
  go_ret
  exact ⟨rfl, HE.out⟩
set_option maxRecDepth 100000 in
set_option maxHeartbeats 2000000 in
theorem step_seek (h : Mq bw wh B w mb rb vk vv t) (ho : Oc wh (cmpW wh)) (kd mm k v : Int) (hk : k ≤ 9223372036854775807) (n1 : (kd == 1) = false) (n2 : (kd == 2) = false) (n3 : (kd == 3) = false) (n4 : (kd == 4) = false) (n8 : (kd == 8) = false) (hl : t.sz ≤ 4398046511104) :
    Calls Try.prog 70 #[.pointer (some ⟨mb, 0, none⟩), .pointer (some ⟨rb, 0, none⟩), .agg #[.int .i64 kd, .int .i64 mm, .int .i64 k, .int .i64 v]] w fun e w' => e = .returned (.bool true) ∧ Sq bw wh B w mb rb vk vv t w' := by
  have HS := heap_alloc_new w (opc kd mm k v)
  obtain ⟨x0, x1, x2, x3⟩ := opc_at (W := w) HS
  have KA := Kp.alloc w (opc kd mm k v) Nu
  have HM := hide (h.nu KA)
  have H0 := hide h
  have HL : Hid (t.xs.length ≤ 17592186044000 ∧ t.sz + 1 < 2 ^ 62 ∧ t.sz < 2 ^ 62) := hide ⟨by rw [T.xs_length]; omega, by omega, by omega⟩
  have HK := hide KA
  have HO := hide ho
  have HSK := seeks135 HM.out ho kd mm k v hk hl
  clear HM HL h ho hl KA hk HS HO
  go_enter Try.func70, Try.ntmps70
  go_wp2_with fail
  refine HSK.mono ?_
  rintro e w2 ⟨rfl, k2⟩
  have HF : Hid (Sq bw wh B w mb rb vk vv t w2) := hide (Sq.stay H0.out (HK.out.andNu k2))
  clear HSK k2 H0 HK
  go_wp2_with fail
  go_ret
  exact ⟨rfl, HF.out⟩
theorem mapStep70 (h : Mq bw wh B w mb rb vk vv t) (ho : Oc wh (cmpW wh)) (kd mm k v : Int) (hk : k ≤ 9223372036854775807) (hl : t.sz ≤ 4398046511104) :
    Calls Try.prog 70 #[.pointer (some ⟨mb, 0, none⟩), .pointer (some ⟨rb, 0, none⟩), .agg #[.int .i64 kd, .int .i64 mm, .int .i64 k, .int .i64 v]] w fun e w' => e = .returned (.bool true) ∧ Sq bw wh B w mb rb vk vv t w' := by
  by_cases h1 : kd = 1
  · exact step_put h ho kd mm k v h1 hl
  by_cases h2 : kd = 2
  · exact step_get h ho kd mm k v h2 hl
  by_cases h3 : kd = 3
  · exact step_del h ho kd mm k v h3 hl
  by_cases h4 : kd = 4
  · exact step_len h ho kd mm k v h4 hl
  by_cases h8 : kd = 8
  · exact step_collect h ho kd mm k v h8 hl
  · exact step_seek h ho kd mm k v hk (by simpa using h1) (by simpa using h2) (by simpa using h3) (by simpa using h4) (by simpa using h8) hl
end
end Go.Proofs.Ytchealdgncgjoaa.StM
namespace Go.Proofs.Ytchealdgncgjoaa.StM
open Go.RowKit Go.Proofs.Ytchealdgncgjoaa.St Go.Shelf Go.Sort Go.Proofs.Ytchealdgncgjoaa.It Go.Proofs.Ytchealdgncgjoaa.StI
set_option linter.unusedVariables false
set_option linter.unusedSimpArgs false
/-- rows of one's own, of any kind of element -/
theorem ty_low {V : World} {ty : TypeId} {B : Nat} {n : Nat} {l : List Value} {v : Value} (h : V.ownsRow B ty 1 v n l) {g : Nat} (hg : v.ownBlock = some g) : B ≤ g := by
  rcases h.2 with ⟨rfl, h0⟩ | ⟨g', cap, cur, rfl, hb', hg', _⟩
  · cases hg
  · simp [Value.ownBlock] at hg; subst hg; exact hb'
theorem ty_set {w : World} {ty : TypeId} {B n i : Nat} {r cap : Nat} {l : List Value} (h : w.ownsRow B ty 1 (.slice (some ⟨r, 0, none⟩) n cap) n l) (u : Value) : (w.setCell ⟨r, i, none⟩ u).ownsRow B ty 1 (.slice (some ⟨r, 0, none⟩) n cap) n (l.set i u) := by
  refine ⟨by simpa using h.1, ?_⟩
  rcases h.2 with ⟨e, h0⟩ | ⟨g, cap', cur, e, hb, hg, h1, h2, h3, h4⟩
  · cases e
  · cases e
    refine .inr ⟨r, cap, cur.setIfInBounds i u, rfl, hb, set3 hg i u, h1, h2, by simpa using h3, ?_⟩
    rw [Array.toList_setIfInBounds, ← h4, List.take_set]
theorem ty_at {w : World} {ty : TypeId} {B : Nat} {v : Value} {n i : Nat} {l : List Value} {u : Value} (h : w.ownsRow B ty 1 v n l) (hn : l.length = n) (hi : l[i]? = some u) : ∃ r cap, v = .slice (some ⟨r, 0, none⟩) n cap ∧ w.cell? ⟨r, i, none⟩ = some u := by
  have hlt : i < l.length := (List.getElem?_eq_some_iff.1 hi).1
  rcases h.2 with ⟨_, h0⟩ | ⟨r, cap, cur, e, hB, hg, h1, h2, h3, h4⟩
  · omega
  · refine ⟨r, cap, e, ?_⟩
    have e1 : cur.toList[i]? = some u := by
      rw [← h4, List.getElem?_take_of_lt (by omega)] at hi
      exact hi
    simpa [World.cell?, hg] using e1
/-- a map of the program's and the document's, and where they lie -/
structure Sl where
  mb : Nat
  rb : Nat
  vk : Value
  vv : Value
  t : T (Int × Int)
abbrev pm (s : Sl) : Value := .pointer (some ⟨s.mb, 0, none⟩)
abbrev pr (s : Sl) : Value := .pointer (some ⟨s.rb, 0, none⟩)
/-- two of them apart -/
def Ap (s u : Sl) : Prop := s.mb ≠ u.mb ∧ s.rb ≠ u.rb ∧ ∀ g, s.vv.ownBlock = some g → u.vk.ownBlock ≠ some g ∧ u.vv.ownBlock ≠ some g
structure Ma (bw : Nat) (wh : Int) (B n : Nat) (W : World) (L : List Sl) : Prop where
  ok : ∀ (i : Nat) (s : Sl), L[i]? = some s → Mq bw wh B W s.mb s.rb s.vk s.vv s.t ∧ s.t.sz ≤ n ∧ B ≤ s.mb ∧ B ≤ s.rb
  ap : ∀ (i j : Nat) (s u : Sl), L[i]? = some s → L[j]? = some u → i ≠ j → Ap s u
section
variable {bw : Nat} {wh : Int} {B n : Nat} {W Z : World} {L : List Sl} {P : Nat → Prop}
theorem Mq.keep {mb rb : Nat} {vk vv : Value} {t : T (Int × Int)} (h : Mq bw wh B W mb rb vk vv t) (k : Kp P W Z) (h1 : ¬ P mb) (h2 : ¬ P rb) (h3 : ∀ g, vk.ownBlock = some g ∨ vv.ownBlock = some g → ¬ P g) (h4 : ¬ P bw) (h5 : ∀ b c, W.heap[b]? = some (.cells c 136 (0, 0)) → ¬ P b) : Mq bw wh B Z mb rb vk vv t := by
  obtain ⟨a, e1, e2⟩ := h.m.ex
  exact ⟨⟨⟨a, (k.block _ (blk_lt e1) h1).trans e1, e2.keep (Kn.of k h5)⟩, h.m.bal, h.m.srt, (k.block _ (blk_lt h.m.bx.1) h4).trans h.m.bx.1, h.m.bx.2⟩,
    ⟨(k.block _ (blk_lt h.r.blk) h2).trans h.r.blk, ow_k h.r.ok k (fun g e => h3 g (.inl e)), ow_k h.r.ov k (fun g e => h3 g (.inr e)), h.r.apart⟩, h.hb, Nat.le_trans h.hB k.size⟩
/-- a block of a kind that no map has -/
theorem Mq.kind {mb rb : Nat} {vk vv : Value} {t : T (Int × Int)} (h : Mq bw wh B W mb rb vk vv t) (k : Kp P W Z) (hP : ∀ g, P g → ∃ c ty p, W.heap[g]? = some (.cells c ty p) ∧ ty ≠ 130 ∧ ty ≠ 52 ∧ ty ≠ 3 ∧ ty ≠ 136) : Mq bw wh B Z mb rb vk vv t := by
  obtain ⟨a, e1, e2⟩ := h.m.ex
  have hn : ∀ g c ty p, W.heap[g]? = some (.cells c ty p) → (ty = 130 ∨ ty = 52 ∨ ty = 3 ∨ ty = 136) → ¬ P g := fun g c ty p hg ht e => by
    obtain ⟨c', ty', p', hg', n1, n2, n3, n4⟩ := hP g e
    rw [hg] at hg'
    cases hg'
    rcases ht with e | e | e | e <;> contradiction
  refine h.keep k (hn _ _ _ _ e1 (.inl rfl)) (hn _ _ _ _ h.r.blk (.inr (.inl rfl))) (fun g e => ?_) (hn _ _ _ _ h.m.bx.1 (.inr (.inr (.inl rfl)))) (fun b c hb => hn _ _ _ _ hb (.inr (.inr (.inr rfl))))
  rcases e with e | e
  · obtain ⟨cur, hc⟩ := own_obj h.r.ok e
    exact hn _ _ _ _ hc (.inr (.inr (.inl rfl)))
  · obtain ⟨cur, hc⟩ := own_obj h.r.ov e
    exact hn _ _ _ _ hc (.inr (.inr (.inl rfl)))
/-- a map stays while another one changes -/
theorem Mq.other {s u : Sl} (h : Mq bw wh B W u.mb u.rb u.vk u.vv u.t) (hs : Mq bw wh B W s.mb s.rb s.vk s.vv s.t) (a : Ap s u) (k : Kp (fun i => i = s.mb ∨ i = s.rb ∨ s.vv.ownBlock = some i) W Z) : Mq bw wh B Z u.mb u.rb u.vk u.vv u.t := by
  obtain ⟨p, e1, e2⟩ := h.m.ex
  obtain ⟨q, f1, f2⟩ := hs.m.ex
  have ne : ∀ (g : Nat) c ty (q : Nat × Nat) c' ty' (q' : Nat × Nat) (g' : Nat), W.heap[g]? = some (.cells c ty q) → W.heap[g']? = some (.cells c' ty' q') → ty ≠ ty' → g ≠ g' := fun g c ty q c' ty' q' g' x y n e => by
    rw [e, y] at x
    cases x
    exact n rfl
  have nv : ∀ (g : Nat) c ty (q : Nat × Nat), W.heap[g]? = some (.cells c ty q) → ty ≠ 3 → s.vv.ownBlock ≠ some g := fun g c ty q x n e => by
    obtain ⟨cur, hc⟩ := own_obj hs.r.ov e
    exact ne g c ty q _ _ _ g x hc n rfl
  refine h.keep k (fun e => ?_) (fun e => ?_) (fun g hg e => ?_) (fun e => ?_) (fun b c hb e => ?_)
  · rcases e with e | e | e
    · exact a.1 e.symm
    · exact ne _ _ _ _ _ _ _ _ e1 hs.r.blk (by decide) e
    · exact nv _ _ _ _ e1 (by decide) e
  · rcases e with e | e | e
    · exact ne _ _ _ _ _ _ _ _ h.r.blk f1 (by decide) e
    · exact a.2.1 e.symm
    · exact nv _ _ _ _ h.r.blk (by decide) e
  · obtain ⟨cur, hc⟩ : ∃ cur, W.heap[g]? = some (.cells cur 3 (0, 0)) := by
      rcases hg with hg | hg
      · exact own_obj h.r.ok hg
      · exact own_obj h.r.ov hg
    rcases e with e | e | e
    · exact ne _ _ _ _ _ _ _ _ hc f1 (by decide) e
    · exact ne _ _ _ _ _ _ _ _ hc hs.r.blk (by decide) e
    · obtain ⟨x, y⟩ := a.2.2 g e
      exact hg.elim x y
  · rcases e with e | e | e
    · exact ne _ _ _ _ _ _ _ _ hs.m.bx.1 f1 (by decide) e
    · exact ne _ _ _ _ _ _ _ _ hs.m.bx.1 hs.r.blk (by decide) e
    · have := own_low hs.r.ov e
      have := h.hb
      omega
  · rcases e with e | e | e
    · exact ne _ _ _ _ _ _ _ _ hb f1 (by decide) e
    · exact ne _ _ _ _ _ _ _ _ hb hs.r.blk (by decide) e
    · exact nv _ _ _ _ hb (by decide) e
theorem Ma.nu (h : Ma bw wh B n W L) (k : Kp Nu W Z) : Ma bw wh B n Z L :=
  ⟨fun i s hi => ⟨(h.ok i s hi).1.nu k, (h.ok i s hi).2⟩, h.ap⟩
theorem Ma.kind (h : Ma bw wh B n W L) (k : Kp P W Z) (hP : ∀ g, P g → ∃ c ty p, W.heap[g]? = some (.cells c ty p) ∧ ty ≠ 130 ∧ ty ≠ 52 ∧ ty ≠ 3 ∧ ty ≠ 136) : Ma bw wh B n Z L :=
  ⟨fun i s hi => ⟨(h.ok i s hi).1.kind k hP, (h.ok i s hi).2⟩, h.ap⟩
theorem Ma.mono {m : Nat} (h : Ma bw wh B n W L) (hm : n ≤ m) : Ma bw wh B m W L :=
  ⟨fun i s hi => ⟨(h.ok i s hi).1, Nat.le_trans (h.ok i s hi).2.1 hm, (h.ok i s hi).2.2⟩, h.ap⟩
theorem at_app {α : Type} {L : List α} {s u : α} {j : Nat} (h : (L ++ [s])[j]? = some u) : (j < L.length ∧ L[j]? = some u) ∨ (j = L.length ∧ s = u) := by
  rcases Nat.lt_or_ge j L.length with c | c
  · exact .inl ⟨c, by rwa [List.getElem?_append_left c] at h⟩
  · rw [List.getElem?_append_right c] at h
    have hj : j - L.length = 0 := by
      have := (List.getElem?_eq_some_iff.1 h).1
      simp at this
      omega
    rw [hj] at h
    exact .inr ⟨by omega, by simpa using h⟩
theorem at_set {α : Type} {L : List α} {s u : α} {d j : Nat} (h : (L.set d s)[j]? = some u) : (d ≠ j ∧ L[j]? = some u) ∨ (d = j ∧ s = u) := by
  rcases Nat.decEq d j with c | c
  · exact .inl ⟨c, by rwa [List.getElem?_set_ne c] at h⟩
  · subst c
    have hlt := (List.getElem?_eq_some_iff.1 h).1
    rw [List.length_set] at hlt
    rw [List.getElem?_set_self hlt] at h
    exact .inr ⟨rfl, by simpa using h⟩
/-- a step at one of the maps -/
theorem Ma.step {i : Nat} {s : Sl} (h : Ma bw wh B n W L) (hi : L[i]? = some s) (q : Sq bw wh B W s.mb s.rb s.vk s.vv s.t Z) : ∃ s' : Sl, s'.mb = s.mb ∧ s'.rb = s.rb ∧ Ma bw wh B (n + 1) Z (L.set i s') := by
  obtain ⟨vk', vv', t', hm, hsz, o1, o2⟩ := q.ex
  have hs := h.ok i s hi
  refine ⟨⟨s.mb, s.rb, vk', vv', t'⟩, rfl, rfl, ⟨fun j u hj => ?_, fun j l u x hj hl hjl => ?_⟩⟩
  · rcases Nat.decEq i j with e | e
    · rw [List.getElem?_set_ne e] at hj
      have hu := h.ok j u hj
      exact ⟨hu.1.other hs.1 (h.ap i j s u hi hj e) q.kp, by omega, hu.2.2⟩
    · subst e
      rw [List.getElem?_set_self (List.getElem?_eq_some_iff.1 hi).1] at hj
      cases hj
      exact ⟨hm, by have := hs.2.1; show t'.sz ≤ n + 1; omega, hs.2.2⟩
  · have old : ∀ (y : Sl) (k : Nat), L[k]? = some y → ∀ g, y.vk.ownBlock = some g ∨ y.vv.ownBlock = some g → g < W.heap.size := fun y k hk g e => e.elim (fun e => own_lt (h.ok k y hk).1.r.ok e) (fun e => own_lt (h.ok k y hk).1.r.ov e)
    rcases Nat.decEq i j with e | e
    · rw [List.getElem?_set_ne e] at hj
      rcases Nat.decEq i l with e2 | e2
      · rw [List.getElem?_set_ne e2] at hl
        exact h.ap j l u x hj hl hjl
      · subst e2
        rw [List.getElem?_set_self (List.getElem?_eq_some_iff.1 hi).1] at hl
        cases hl
        have a := h.ap j i u s hj hi hjl
        have b := h.ap i j s u hi hj e
        refine ⟨a.1, a.2.1, fun g hg => ⟨fun e3 => ?_, fun e3 => ?_⟩⟩
        · have := old u j hj g (.inr hg)
          rcases o1 g e3 with e4 | e4
          · exact (a.2.2 g hg).1 e4
          · omega
        · have := old u j hj g (.inr hg)
          rcases o2 g e3 with e4 | e4
          · exact (a.2.2 g hg).2 e4
          · omega
    · subst e
      rw [List.getElem?_set_self (List.getElem?_eq_some_iff.1 hi).1] at hj
      cases hj
      rw [List.getElem?_set_ne hjl] at hl
      have b := h.ap i l s x hi hl hjl
      refine ⟨b.1, b.2.1, fun g hg => ⟨fun e3 => ?_, fun e3 => ?_⟩⟩
      · have := old x l hl g (.inl e3)
        rcases o2 g hg with e4 | e4
        · exact (b.2.2 g e4).1 e3
        · omega
      · have := old x l hl g (.inr e3)
        rcases o2 g hg with e4 | e4
        · exact (b.2.2 g e4).2 e3
        · omega
/-- one more map, or one in another's place -/
theorem Ma.add {s : Sl} {W0 : World} (h : Ma bw wh B n W L) (h0 : Ma bw wh B n W0 L) (hs : Mq bw wh B W s.mb s.rb s.vk s.vv s.t ∧ s.t.sz ≤ n ∧ B ≤ s.mb ∧ B ≤ s.rb) (h1 : W0.heap.size ≤ s.mb) (h2 : W0.heap.size ≤ s.rb) (h3 : ∀ g, s.vk.ownBlock = some g ∨ s.vv.ownBlock = some g → W0.heap.size ≤ g) :
    Ma bw wh B n W (L ++ [s]) ∧ ∀ d, Ma bw wh B n W (L.set d s) := by
  have old : ∀ (y : Sl) (k : Nat), L[k]? = some y → y.mb < W0.heap.size ∧ y.rb < W0.heap.size ∧ ∀ g, y.vk.ownBlock = some g ∨ y.vv.ownBlock = some g → g < W0.heap.size := fun y k hk => by
    have hq := (h0.ok k y hk).1
    exact ⟨hq.m.lt, blk_lt hq.r.blk, fun g e => e.elim (fun e => own_lt hq.r.ok e) (fun e => own_lt hq.r.ov e)⟩
  have a1 : ∀ (y : Sl) (k : Nat), L[k]? = some y → Ap y s := fun y k hk => by
    obtain ⟨x1, x2, x3⟩ := old y k hk
    exact ⟨by omega, by omega, fun g hg => ⟨fun e => by have := x3 g (.inr hg); have := h3 g (.inl e); omega, fun e => by have := x3 g (.inr hg); have := h3 g (.inr e); omega⟩⟩
  have a2 : ∀ (y : Sl) (k : Nat), L[k]? = some y → Ap s y := fun y k hk => by
    obtain ⟨x1, x2, x3⟩ := old y k hk
    exact ⟨by omega, by omega, fun g hg => ⟨fun e => by have := x3 g (.inl e); have := h3 g (.inr hg); omega, fun e => by have := x3 g (.inr e); have := h3 g (.inr hg); omega⟩⟩
  refine ⟨⟨fun j u hj => ?_, fun j l u x hj hl hjl => ?_⟩, fun d => ⟨fun j u hj => ?_, fun j l u x hj hl hjl => ?_⟩⟩
  · rcases at_app hj with ⟨_, e⟩ | ⟨_, rfl⟩
    · exact h.ok j u e
    · exact hs
  · rcases at_app hj with ⟨g1, e⟩ | ⟨g1, rfl⟩
    · rcases at_app hl with ⟨g2, e2⟩ | ⟨g2, rfl⟩
      · exact h.ap j l u x e e2 hjl
      · exact a1 u j e
    · rcases at_app hl with ⟨g2, e2⟩ | ⟨g2, rfl⟩
      · exact a2 x l e2
      · omega
  · rcases at_set hj with ⟨_, e⟩ | ⟨_, rfl⟩
    · exact h.ok j u e
    · exact hs
  · rcases at_set hj with ⟨g1, e⟩ | ⟨g1, rfl⟩
    · rcases at_set hl with ⟨g2, e2⟩ | ⟨g2, rfl⟩
      · exact h.ap j l u x e e2 hjl
      · exact a1 u j e
    · rcases at_set hl with ⟨g2, e2⟩ | ⟨g2, rfl⟩
      · exact a2 x l e2
      · omega
end
end Go.Proofs.Ytchealdgncgjoaa.StM
