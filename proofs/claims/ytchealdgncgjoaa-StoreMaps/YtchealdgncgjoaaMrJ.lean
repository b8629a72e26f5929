import Derived.Test.YtchealdgncgjoaaMrH
namespace Go.Proofs.Ytchealdgncgjoaa.StM
open Go.RowKit Go.Proofs.Ytchealdgncgjoaa.St Go.Shelf Go.Sort Go.Proofs.Ytchealdgncgjoaa.It Go.Proofs.Ytchealdgncgjoaa.StI
set_option linter.unusedVariables false
set_option linter.unusedSimpArgs false
/-- a map of the program's and the document's, with the same pairs -/
structure Mq (bw : Nat) (wh : Int) (B : Nat) (W : World) (mb rb : Nat) (vk vv : Value) (t : T (Int × Int)) : Prop where
  m : Mp bw wh W mb t
  r : Rm B W rb wh vk vv t.xs
  hb : bw < B
  hB : B ≤ W.heap.size
theorem Mq.nu {bw : Nat} {wh : Int} {B : Nat} {W Z : World} {mb rb : Nat} {vk vv : Value} {t : T (Int × Int)} (h : Mq bw wh B W mb rb vk vv t) (k : Kp Nu W Z) : Mq bw wh B Z mb rb vk vv t :=
  ⟨h.m.nu k, h.r.nu k, h.hb, Nat.le_trans h.hB k.size⟩
theorem ok_int (o : Option (Int × Int)) : ∃ n : Int, ok o = .int .i64 n := by
  cases o with
  | none => exact ⟨0, rfl⟩
  | some p => exact ⟨p.1, rfl⟩
theorem ov_int (o : Option (Int × Int)) : ∃ n : Int, ov o = .int .i64 n := by
  cases o with
  | none => exact ⟨0, rfl⟩
  | some p => exact ⟨p.2, rfl⟩
/-- the box of a step -/
abbrev opc (kd mm k v : Int) : Obj := .cells #[.int .i64 kd, .int .i64 mm, .int .i64 k, .int .i64 v] 111
theorem opc_cells (W : World) (kd mm k v : Int) : ∀ Z, Kp Nu (W.alloc (opc kd mm k v)) Z → Z.cell? ⟨W.heap.size, 0, none⟩ = some (.int .i64 kd) ∧ Z.cell? ⟨W.heap.size, 1, none⟩ = some (.int .i64 mm) ∧ Z.cell? ⟨W.heap.size, 2, none⟩ = some (.int .i64 k) ∧ Z.cell? ⟨W.heap.size, 3, none⟩ = some (.int .i64 v) := fun Z q => by
  have h := (q.block _ (blk_lt (heap_alloc_new W (opc kd mm k v))) (fun h => h)).trans (heap_alloc_new W (opc kd mm k v))
  refine ⟨?_, ?_, ?_, ?_⟩ <;> simp [World.cell?, h]
section
variable {bw : Nat} {wh : Int} {B : Nat} {w : World} {mb rb : Nat} {vk vv : Value} {t : T (Int × Int)}
theorem rank102 (h : Rm B w rb wh vk vv t.xs) (ho : Oc wh (cmpW wh)) (hs : Srt (cmpW wh) t.xs) (k : Int) (hl : t.xs.length ≤ 17592186044000) :
    Calls Try.prog 102 #[.pointer (some ⟨rb, 0, none⟩), .int .i64 k] w fun e w' => e = .returned (.int .i64 ((T.fd (sd wh k) t).1 : Int)) ∧ Kp Nu w w' := by
  have := rrank_any h ho k (by omega)
  rwa [ahead_fd hs k] at this
set_option maxRecDepth 100000 in
set_option maxHeartbeats 2000000 in
theorem seek_rank (h : Mq bw wh B w mb rb vk vv t) (ho : Oc wh (cmpW wh)) (kd mm k v : Int) (hk : kd = 5) (hl : t.sz ≤ 4398046511104) :
    Calls Try.prog 135 #[.pointer (some ⟨mb, 0, none⟩), .pointer (some ⟨rb, 0, none⟩), .agg #[.int .i64 kd, .int .i64 mm, .int .i64 k, .int .i64 v]] w fun e w' => e = .returned (.bool true) ∧ Kp Nu w w' := by
  subst hk
  have HS := opc_cells w 5 mm k v
  obtain ⟨x0, x1, x2, x3⟩ := HS _ (Kp.refl Nu _)
  have KA := Kp.alloc w (opc 5 mm k v) Nu
  have HM := hide (h.nu KA)
  have HL : Hid (t.xs.length ≤ 17592186044000 ∧ t.sz + 1 < 2 ^ 62 ∧ t.sz < 2 ^ 62) := hide ⟨by rw [T.xs_length]; omega, by omega, by omega⟩
  have HK := hide KA
  have HO := hide ho
  have PA := rank_any HM.out.m k HL.out.2.1
  have DD := fun Z (q : Kp Nu (w.alloc (opc 5 mm k v)) Z) => rank102 (HM.out.r.nu q) ho HM.out.m.srt k HL.out.1
  clear h ho hl KA
  go_enter Try.func135, Try.ntmps135
  go_wp2_with fail
  refine PA.mono ?_
  rintro e w1 ⟨rfl, k1⟩
  have DA := DD w1 k1
  obtain ⟨y0, y1, y2, y3⟩ := HS w1 k1
  have H1 := hide k1
  clear PA DD HS k1 x0 x1 x2 x3
  go_wp2_with fail
  refine DA.mono ?_
  rintro e w2 ⟨rfl, k2⟩
  have H2 := hide k2
  clear DA k2
  go_wp2_with fail
  go_ret
  exact ⟨by simp, (HK.out.andNu H1.out).andNu H2.out⟩
set_option maxRecDepth 100000 in
set_option maxHeartbeats 2000000 in
theorem seek_at (h : Mq bw wh B w mb rb vk vv t) (ho : Oc wh (cmpW wh)) (kd mm k v : Int) (hk : kd = 6) (hk2 : k ≤ 9223372036854775807) (hl : t.sz ≤ 4398046511104) :
    Calls Try.prog 135 #[.pointer (some ⟨mb, 0, none⟩), .pointer (some ⟨rb, 0, none⟩), .agg #[.int .i64 kd, .int .i64 mm, .int .i64 k, .int .i64 v]] w fun e w' => e = .returned (.bool true) ∧ Kp Nu w w' := by
  subst hk
  have HS := opc_cells w 6 mm k v
  obtain ⟨x0, x1, x2, x3⟩ := HS _ (Kp.refl Nu _)
  have KA := Kp.alloc w (opc 6 mm k v) Nu
  have HM := hide (h.nu KA)
  have HL : Hid (t.xs.length ≤ 17592186044000 ∧ t.sz + 1 < 2 ^ 62 ∧ t.sz < 2 ^ 62) := hide ⟨by rw [T.xs_length]; omega, by omega, by omega⟩
  have HK := hide KA
  have HO := hide ho
  have PA := At_any HM.out.m k hk2 HL.out.2.2
  have DD := fun Z (q : Kp Nu (w.alloc (opc 6 mm k v)) Z) => at180 (HM.out.r.nu q) k HL.out.1
  rw [atT_L] at PA
  obtain ⟨n1, e1⟩ := ok_int (atL t.xs k)
  obtain ⟨n2, e2⟩ := ov_int (atL t.xs k)
  rw [e1, e2] at PA DD
  have b1 : (n1 == n1) = true := by simp
  have b2 : (n2 == n2) = true := by simp
  have b3 : ((atL t.xs k).isSome == (atL t.xs k).isSome) = true := by simp
  clear h ho hl KA hk2 e1 e2
  go_enter Try.func135, Try.ntmps135
  go_wp2_with fail
  refine PA.mono ?_
  rintro e w1 ⟨rfl, k1⟩
  have DA := DD w1 k1
  obtain ⟨y0, y1, y2, y3⟩ := HS w1 k1
  have H1 := hide k1
  clear PA DD HS k1 x0 x1 x2 x3
  go_wp2_with fail
  refine DA.mono ?_
  rintro e w2 ⟨rfl, q2, hq2⟩
  have H2 : Hid (Kp Nu w1 w2) := hide (by rw [hq2]; exact kp_dn _ _)
  clear DA hq2
  go_wp2_with fail
  go_ret
  exact ⟨rfl, (HK.out.andNu H1.out).andNu H2.out⟩
set_option maxRecDepth 100000 in
set_option maxHeartbeats 2000000 in
theorem seek_fc (h : Mq bw wh B w mb rb vk vv t) (ho : Oc wh (cmpW wh)) (kd mm k v : Int) (n5 : (kd == 5) = false) (n6 : (kd == 6) = false) (hl : t.sz ≤ 4398046511104) :
    Calls Try.prog 135 #[.pointer (some ⟨mb, 0, none⟩), .pointer (some ⟨rb, 0, none⟩), .agg #[.int .i64 kd, .int .i64 mm, .int .i64 k, .int .i64 v]] w fun e w' => e = .returned (.bool true) ∧ Kp Nu w w' := by
  have HS := opc_cells w kd mm k v
  obtain ⟨x0, x1, x2, x3⟩ := HS _ (Kp.refl Nu _)
  have KA := Kp.alloc w (opc kd mm k v) Nu
  have HM := hide (h.nu KA)
  have HL : Hid (t.xs.length ≤ 17592186044000 ∧ t.sz + 1 < 2 ^ 62 ∧ t.sz < 2 ^ 62) := hide ⟨by rw [T.xs_length]; omega, by omega, by omega⟩
  have HK := hide KA
  have HO := hide ho
  have PA := floor_any HM.out.m k HL.out.2.1
  have DD := fun Z (q : Kp Nu (w.alloc (opc kd mm k v)) Z) => floor181 (HM.out.r.nu q) ho HM.out.m.srt k HL.out.1
  have PC := fun Z (q : Kp Nu (w.alloc (opc kd mm k v)) Z) => ceil_any (HM.out.m.nu q) k HL.out.2.1
  have DC := fun Z (q : Kp Nu (w.alloc (opc kd mm k v)) Z) => ceil182 (HM.out.r.nu q) ho HM.out.m.srt k HL.out.1
  obtain ⟨n1, e1⟩ := ok_int (floorT wh k t)
  obtain ⟨n2, e2⟩ := ov_int (floorT wh k t)
  obtain ⟨n3, e3⟩ := ok_int (ceilT wh k t)
  obtain ⟨n4, e4⟩ := ov_int (ceilT wh k t)
  rw [e1, e2] at PA DD
  rw [e3, e4] at PC DC
  have b1 : (n1 != n1) = false := by simp
  have b2 : (n2 != n2) = false := by simp
  have b3 : ((floorT wh k t).isSome != (floorT wh k t).isSome) = false := by simp
  have b4 : (n3 == n3) = true := by simp
  have b5 : (n4 == n4) = true := by simp
  have b6 : ((ceilT wh k t).isSome == (ceilT wh k t).isSome) = true := by simp
  clear h ho hl KA e1 e2 e3 e4
  go_enter Try.func135, Try.ntmps135
  go_wp2_with fail
  refine PA.mono ?_
  rintro e w1 ⟨rfl, k1⟩
  have DA := DD w1 k1
  obtain ⟨y0, y1, y2, y3⟩ := HS w1 k1
  have H1 := hide k1
  clear PA DD k1 x0 x1 x2 x3
  go_wp2_with fail
  refine DA.mono ?_
  rintro e w2 ⟨rfl, q2, hq2⟩
  have H2 : Hid (Kp Nu (w.alloc (opc kd mm k v)) w2) := hide (by rw [hq2]; exact H1.out.andNu (kp_dn _ _))
  have PC2 := PC w2 H2.out
  obtain ⟨z0, z1, z2, z3⟩ := HS w2 H2.out
  clear DA hq2 PC y0 y1 y2 y3
  go_wp2_with fail
  refine PC2.mono ?_
  rintro e w3 ⟨rfl, k3⟩
  have H3 : Hid (Kp Nu (w.alloc (opc kd mm k v)) w3) := hide (H2.out.andNu k3)
  have DC3 := DC w3 H3.out
  obtain ⟨u0, u1, u2, u3⟩ := HS w3 H3.out
  clear PC2 DC k3 z0 z1 z2 z3 HS
  go_wp2_with fail
  refine DC3.mono ?_
  rintro e w4 ⟨rfl, q4, hq4⟩
  have H4 : Hid (Kp Nu w w4) := hide (by rw [hq4]; exact (HK.out.andNu H3.out).andNu (kp_dn _ _))
  clear DC3 hq4
  go_wp2_with fail
  go_ret
  exact ⟨rfl, H4.out⟩
theorem seeks135 (h : Mq bw wh B w mb rb vk vv t) (ho : Oc wh (cmpW wh)) (kd mm k v : Int) (hk : k ≤ 9223372036854775807) (hl : t.sz ≤ 4398046511104) :
    Calls Try.prog 135 #[.pointer (some ⟨mb, 0, none⟩), .pointer (some ⟨rb, 0, none⟩), .agg #[.int .i64 kd, .int .i64 mm, .int .i64 k, .int .i64 v]] w fun e w' => e = .returned (.bool true) ∧ Kp Nu w w' := by
  by_cases h5 : kd = 5
  · exact seek_rank h ho kd mm k v h5 hl
  by_cases h6 : kd = 6
  · exact seek_at h ho kd mm k v h6 hk hl
  · exact seek_fc h ho kd mm k v (by simpa using h5) (by simpa using h6) hl
end
end Go.Proofs.Ytchealdgncgjoaa.StM
namespace Go.Proofs.Ytchealdgncgjoaa.StM
open Go.RowKit Go.Proofs.Ytchealdgncgjoaa.St Go.Shelf Go.Sort Go.Proofs.Ytchealdgncgjoaa.It Go.Proofs.Ytchealdgncgjoaa.StI
set_option linter.unusedVariables false
set_option linter.unusedSimpArgs false
theorem opc_at {W Z : World} {b : Nat} {kd mm k v : Int} (h : Z.heap[b]? = some (opc kd mm k v)) : Z.cell? ⟨b, 0, none⟩ = some (.int .i64 kd) ∧ Z.cell? ⟨b, 1, none⟩ = some (.int .i64 mm) ∧ Z.cell? ⟨b, 2, none⟩ = some (.int .i64 k) ∧ Z.cell? ⟨b, 3, none⟩ = some (.int .i64 v) := by
  refine ⟨?_, ?_, ?_, ?_⟩ <;> simp [World.cell?, h]
section
variable {bw : Nat} {wh : Int} {B : Nat} {w : World} {mb rb : Nat} {vk vv : Value} {t : T (Int × Int)}
theorem kp_three {wA w1 w2 : World} (kA : Kp Nu w wA) (k1 : Kp (fun i => i = mb) wA w1) (k2 : Kp (fun i => i = rb ∨ vv.ownBlock = some i) w1 w2) : Kp (fun i => i = mb ∨ i = rb ∨ vv.ownBlock = some i) w w2 := by
  have a : Kp (fun i => i = mb ∨ i = rb ∨ vv.ownBlock = some i) w wA := kA.mono (fun _ _ e => e.elim)
  exact (a.trans k1 (fun i _ e => .inl e)).trans k2 (fun i _ e => .inr e)
/-- what a step leaves -/
structure Sq (bw : Nat) (wh : Int) (B : Nat) (w : World) (mb rb : Nat) (vk vv : Value) (t : T (Int × Int)) (W : World) : Prop where
  ex : ∃ vk' vv' t', Mq bw wh B W mb rb vk' vv' t' ∧ t'.sz ≤ t.sz + 1 ∧ (∀ g, vk'.ownBlock = some g → vk.ownBlock = some g ∨ w.heap.size ≤ g) ∧ (∀ g, vv'.ownBlock = some g → vv.ownBlock = some g ∨ w.heap.size ≤ g)
  kp : Kp (fun i => i = mb ∨ i = rb ∨ vv.ownBlock = some i) w W
theorem Sq.stay {W : World} (h : Mq bw wh B w mb rb vk vv t) (k : Kp Nu w W) : Sq bw wh B w mb rb vk vv t W :=
  ⟨⟨vk, vv, t, h.nu k, by omega, fun _ e => .inl e, fun _ e => .inl e⟩, k.mono (fun _ _ e => e.elim)⟩
theorem Sq.moved {wA w1 w2 : World} {t' : T (Int × Int)} {vk' vv' : Value} (h : Mq bw wh B w mb rb vk vv t) (kA : Kp Nu w wA) (k1 : Kp (fun i => i = mb) wA w1) (m1 : Mp bw wh w1 mb t') (r1 : Rm B w1 rb wh vk vv t.xs) (k2 : Kp (fun i => i = rb ∨ vv.ownBlock = some i) w1 w2) (r2 : Rm B w2 rb wh vk' vv' t'.xs) (hs : t'.sz ≤ t.sz + 1)
    (o1 : ∀ g, vk'.ownBlock = some g → vk.ownBlock = some g ∨ w1.heap.size ≤ g) (o2 : ∀ g, vv'.ownBlock = some g → vv.ownBlock = some g ∨ w1.heap.size ≤ g) : Sq bw wh B w mb rb vk vv t w2 := by
  have s1 := kA.size
  have s2 := k1.size
  have s3 := k2.size
  have s4 := h.hB
  exact ⟨⟨vk', vv', t', ⟨keepR m1 h.hb r1 k2, r2, h.hb, by omega⟩, hs, fun g e => (o1 g e).imp id (fun e => by omega), fun g e => (o2 g e).imp id (fun e => by omega)⟩,
    kp_three kA k1 k2⟩
set_option maxRecDepth 100000 in
set_option maxHeartbeats 2000000 in
theorem step_put (h : Mq bw wh B w mb rb vk vv t) (ho : Oc wh (cmpW wh)) (kd mm k v : Int) (hk : kd = 1) (hl : t.sz ≤ 4398046511104) :
    Calls Try.prog 70 #[.pointer (some ⟨mb, 0, none⟩), .pointer (some ⟨rb, 0, none⟩), .agg #[.int .i64 kd, .int .i64 mm, .int .i64 k, .int .i64 v]] w fun e w' => e = .returned (.bool true) ∧ Sq bw wh B w mb rb vk vv t w' := by
  subst hk
  have HS := heap_alloc_new w (opc 1 mm k v)
  obtain ⟨x0, x1, x2, x3⟩ := opc_at (W := w) HS
  have KA := Kp.alloc w (opc 1 mm k v) Nu
  have HM := hide (h.nu KA)
  have H0 := hide h
  have HL : Hid (t.xs.length ≤ 17592186044000 ∧ t.sz + 1 < 2 ^ 62 ∧ t.sz < 2 ^ 62) := hide ⟨by rw [T.xs_length]; omega, by omega, by omega⟩
  have HK := hide KA
  have HO := hide ho
  have PA := put_any HM.out.m k v HL.out.2.1
  have hmb : w.heap.size ≠ mb := by have := h.m.lt; omega
  obtain ⟨n1, e1⟩ := ov_int (getT wh k t)
  rw [e1] at PA
  have b1 : (n1 == n1) = true := by simp
  have b2 : ((T.fd (sd wh k) t).2 == (T.fd (sd wh k) t).2) = true := by simp
  clear h ho hl KA
  go_enter Try.func70, Try.ntmps70
  go_wp2_with fail
  refine PA.mono ?_
  rintro e w1 ⟨rfl, m1, k1⟩
  have R1 : Rm B w1 rb wh vk vv t.xs := keepM HM.out.r HM.out.m k1
  have DA := rput_TN R1 HO.out H0.out.m.srt (by have := H0.out.hB; have := HK.out.size; have := k1.size; omega) k v HL.out.1
  rw [e1] at DA
  obtain ⟨y0, y1, y2, y3⟩ := opc_at (W := w) ((k1.block _ (blk_lt HS) hmb).trans HS)
  have H1 := hide (And.intro m1 (And.intro k1 R1))
  clear PA HS k1 m1 R1 x0 x1 x2 x3 e1 hmb
  go_wp2_with fail
  refine DA.mono ?_
  rintro e w2 ⟨rfl, ⟨vk', vv', r2, o1, o2⟩, k2⟩
  have HF : Hid (Sq bw wh B w mb rb vk vv t w2) := hide (Sq.moved H0.out HK.out H1.out.2.1 H1.out.1 H1.out.2.2 k2 r2 (by rw [put_sz]; split <;> omega) o1 o2)
  clear DA r2 o1 o2 k2
  go_wp2_with fail
  go_ret
  exact ⟨rfl, HF.out⟩
set_option maxRecDepth 100000 in
set_option maxHeartbeats 2000000 in
theorem step_del (h : Mq bw wh B w mb rb vk vv t) (ho : Oc wh (cmpW wh)) (kd mm k v : Int) (hk : kd = 3) (hl : t.sz ≤ 4398046511104) :
    Calls Try.prog 70 #[.pointer (some ⟨mb, 0, none⟩), .pointer (some ⟨rb, 0, none⟩), .agg #[.int .i64 kd, .int .i64 mm, .int .i64 k, .int .i64 v]] w fun e w' => e = .returned (.bool true) ∧ Sq bw wh B w mb rb vk vv t w' := by
  subst hk
  have HS := heap_alloc_new w (opc 3 mm k v)
  obtain ⟨x0, x1, x2, x3⟩ := opc_at (W := w) HS
  have KA := Kp.alloc w (opc 3 mm k v) Nu
  have HM := hide (h.nu KA)
  have H0 := hide h
  have HL : Hid (t.xs.length ≤ 17592186044000 ∧ t.sz + 1 < 2 ^ 62 ∧ t.sz < 2 ^ 62) := hide ⟨by rw [T.xs_length]; omega, by omega, by omega⟩
  have HK := hide KA
  have HO := hide ho
  have PA := del_any HM.out.m k HL.out.2.1
  have hmb : w.heap.size ≠ mb := by have := h.m.lt; omega
  obtain ⟨n1, e1⟩ := ov_int (getT wh k t)
  rw [e1] at PA
  have b1 : (n1 == n1) = true := by simp
  have b2 : ((T.fd (sd wh k) t).2 == (T.fd (sd wh k) t).2) = true := by simp
  clear h ho hl KA
  go_enter Try.func70, Try.ntmps70
  go_wp2_with fail
  refine PA.mono ?_
  rintro e w1 ⟨rfl, m1, k1⟩
  have R1 : Rm B w1 rb wh vk vv t.xs := keepM HM.out.r HM.out.m k1
  have DA := rdel_TN R1 HO.out H0.out.m.srt (by have := H0.out.hB; have := HK.out.size; have := k1.size; omega) k HL.out.1
  rw [e1] at DA
  obtain ⟨y0, y1, y2, y3⟩ := opc_at (W := w) ((k1.block _ (blk_lt HS) hmb).trans HS)
  have H1 := hide (And.intro m1 (And.intro k1 R1))
  clear PA HS k1 m1 R1 x0 x1 x2 x3 e1 hmb
  go_wp2_with fail
  refine DA.mono ?_
  rintro e w2 ⟨rfl, ⟨vk', vv', r2, o1, o2⟩, k2⟩
  have HF : Hid (Sq bw wh B w mb rb vk vv t w2) := hide (Sq.moved H0.out HK.out H1.out.2.1 H1.out.1 H1.out.2.2 k2 r2 (by rw [del_sz]; split <;> omega) o1 o2)
  clear DA r2 o1 o2 k2
  go_wp2_with fail
  go_ret
  exact ⟨rfl, HF.out⟩
set_option maxRecDepth 100000 in
set_option maxHeartbeats 2000000 in
theorem step_get (h : Mq bw wh B w mb rb vk vv t) (ho : Oc wh (cmpW wh)) (kd mm k v : Int) (hk : kd = 2) (hl : t.sz ≤ 4398046511104) :
    Calls Try.prog 70 #[.pointer (some ⟨mb, 0, none⟩), .pointer (some ⟨rb, 0, none⟩), .agg #[.int .i64 kd, .int .i64 mm, .int .i64 k, .int .i64 v]] w fun e w' => e = .returned (.bool true) ∧ Sq bw wh B w mb rb vk vv t w' := by
  subst hk
  have HS := heap_alloc_new w (opc 2 mm k v)
  obtain ⟨x0, x1, x2, x3⟩ := opc_at (W := w) HS
  have KA := Kp.alloc w (opc 2 mm k v) Nu
  have HM := hide (h.nu KA)
  have H0 := hide h
  have HL : Hid (t.xs.length ≤ 17592186044000 ∧ t.sz + 1 < 2 ^ 62 ∧ t.sz < 2 ^ 62) := hide ⟨by rw [T.xs_length]; omega, by omega, by omega⟩
  have HK := hide KA
  have HO := hide ho
  have PA := get_any HM.out.m k HL.out.2.1
  have DD := fun Z (q : Kp Nu (w.alloc (opc 2 mm k v)) Z) => get132 (HM.out.r.nu q) ho HM.out.m.srt k HL.out.1
  obtain ⟨n1, e1⟩ := ov_int (getT wh k t)
  rw [e1] at PA DD
  have b1 : (n1 == n1) = true := by simp
  have b2 : ((T.fd (sd wh k) t).2 == (T.fd (sd wh k) t).2) = true := by simp
  clear h ho hl KA e1
  go_enter Try.func70, Try.ntmps70
  go_wp2_with fail
  refine PA.mono ?_
  rintro e w1 ⟨rfl, k1⟩
  have DA := DD w1 k1
  obtain ⟨y0, y1, y2, y3⟩ := opc_at (W := w) ((k1.block _ (blk_lt HS) (fun h => h)).trans HS)
  have H1 := hide k1
  clear PA DD HS k1 x0 x1 x2 x3
  go_wp2_with fail
  refine DA.mono ?_
  rintro e w2 ⟨rfl, k2⟩
  have HF : Hid (Sq bw wh B w mb rb vk vv t w2) := hide (Sq.stay H0.out ((HK.out.andNu H1.out).andNu k2))
  clear DA k2
  go_wp2_with fail
  go_ret
  exact ⟨rfl, HF.out⟩
end
end Go.Proofs.Ytchealdgncgjoaa.StM
