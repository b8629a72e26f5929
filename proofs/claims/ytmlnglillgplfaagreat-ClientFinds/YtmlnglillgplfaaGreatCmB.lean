import Derived.Test.YtmlnglillgplfaaGreatStC
import Derived.BigRegion
namespace Go.Proofs.YtmlnglillgplfaaGreat.Cl
open Go.RowKit Go.Maps
set_option linter.unusedVariables false
/-- what takeRedirect answers -/
def Rdr (w : World) (b : Nat) (s : Cs) (nb : Nat) (D : DataW Unit) (V O : List Int) (B : Nat) (L : List Rg.Sg) (lo hi to : Int) (e : Ending) (w' : World) : Prop :=
  (Maps.has D (Lit.int .u8 to) = true ∧ e = .returned (.tuple #[.slice none 0 0, .int .i64 0]) ∧ Cl w' b s nb D V O ∧ Hnt B w' s.hb L lo hi to ∧ Kp (fun i => i = b ∨ i = s.mb ∨ i = s.hb) w w')
  ∨ (Maps.has D (Lit.int .u8 to) = false ∧ ∃ g v' o', e = .returned (.tuple #[.slice (some ⟨g, 0, none⟩) 1 1, .int .i64 0]) ∧ w'.heap[g]? = some (.cells (outC to s v' o') 38 (0, 0)) ∧ w.heap.size ≤ g ∧ Bt w' v' V ∧ Bt w' o' O ∧ Cl w' b { s with hops := s.hops + 1, tmo := 0, host := to, sent := s.sent + 1, ticks := 0 } (nb + 1) (D.put (Lit.int .u8 to) (.agg [])) V O ∧ Hnt B w' s.hb L lo hi to ∧ Kp (fun i => i = b ∨ i = s.mb ∨ i = s.hb) w w')
set_option maxRecDepth 100000 in
set_option maxHeartbeats 4000000 in
theorem redirect_any {w : World} {b nb B : Nat} {s : Cs} {D : DataW Unit} {V O : List Int} {tv : Value} {L : List Rg.Sg} (h : Cl w b s nb D V O) (hT : Rg.Tb B w s.hb 64 tv L) (hBw : B ≤ w.heap.size) (seq lo hi to : Int) (h1 : lo ≤ s.rkey) (h2 : s.rkey ≤ hi) (l0 : 0 ≤ lo) (l1 : hi < 18446744073709551616) (t0 : 0 ≤ to) (t1 : to < s.hosts) (t2 : s.hosts ≤ 16) (hne : ¬ to = s.host) (p0 : 0 ≤ s.hops) (p1 : s.hops ≤ 1000) (s0 : 0 ≤ s.sent) (s1 : s.sent < 1000000) (hnb : nb < 1000000) :
    Calls Tryz.prog 94 #[.pointer (some ⟨b, 0, none⟩), .int .u8 s.host, .agg #[.int .u8 7, .int .u64 seq, .int .u64 lo, .int .u64 hi, .slice none 0 0, .slice none 0 0, .bool false, .int .u8 0, .int .u8 0, .int .u8 to, .int .u32 0, .int .u32 0, .int .u64 0, .int .u8 0, .slice none 0 0, .slice none 0 0, .slice none 0 0]] w fun e w' => Rdr w b s nb D V O B L lo hi to e w' := by
  have mixed : Tryz.prog.follows .mixedOrders = true := by kernel_rfl
  obtain ⟨wa, hwa⟩ : ∃ wa, w.alloc (.cells #[.int .u8 7, .int .u64 seq, .int .u64 lo, .int .u64 hi, .slice none 0 0, .slice none 0 0, .bool false, .int .u8 0, .int .u8 0, .int .u8 to, .int .u32 0, .int .u32 0, .int .u64 0, .int .u8 0, .slice none 0 0, .slice none 0 0, .slice none 0 0] 36) = wa := ⟨_, rfl⟩
  have ka : Kp Nu w wa := by rw [← hwa]; exact Kp.alloc _ _ _
  have hbx : wa.heap[w.heap.size]? = some (.cells #[.int .u8 7, .int .u64 seq, .int .u64 lo, .int .u64 hi, .slice none 0 0, .slice none 0 0, .bool false, .int .u8 0, .int .u8 0, .int .u8 to, .int .u32 0, .int .u32 0, .int .u64 0, .int .u8 0, .slice none 0 0, .slice none 0 0, .slice none 0 0] 36 (0, 0)) := by rw [← hwa]; exact heap_new w _
  have hca := h.nu ka
  have hta := hT.nu (kpR' ka)
  have HIs := isHost_any hca.cb to t0 (by omega)
  have hd : decide (to < s.hosts) = true := by simpa using t1
  rw [hd] at HIs
  have n1 : ¬ s.rkey < lo := by omega
  have n2 : ¬ s.rkey > hi := by omega
  have c_rkey := hca.cb.c_rkey
  have c_host := hca.cb.c_host
  have x2 := cellAt hbx 2 (v := .int .u64 lo) rfl
  have x3 := cellAt hbx 3 (v := .int .u64 hi) rfl
  have x9 := cellAt hbx 9 (v := .int .u8 to) rfl
  have hq : (to == s.host) = false := by simpa using hne
  have HH := hide (And.intro hca (And.intro hta (And.intro ka hbx)))
  have HX := hide (And.intro h (And.intro hBw (And.intro h1 (And.intro h2 (And.intro l0 (And.intro l1 (And.intro t0 (And.intro t1 (And.intro t2 (And.intro p0 (And.intro p1 (And.intro s0 (And.intro s1 hnb)))))))))))))
  clear h hT hca hta ka hbx hBw h1 h2 l0 l1 t0 t1 t2 p0 p1 s0 s1 hnb hd hne
  go_enter Tryz.func94, Tryz.ntmps94
  go_wp2_with fail
  refine HIs.mono ?_; rintro e w' ⟨rfl, hw⟩
  obtain rfl := hw.symm
  clear HIs hw
  go_wp2_with fail
  have AS := fun X (hX : Kp Nu wa X) => (assign_some (HH.out.2.1.nu (kpR' hX)) (Nat.le_trans HX.out.2.1 (HH.out.2.2.1.andNu hX).size) lo hi to HX.out.2.2.2.2.1 (Int.le_trans HX.out.2.2.1 HX.out.2.2.2.1) HX.out.2.2.2.2.2.1 HX.out.2.2.2.2.2.2.1 (Int.lt_of_lt_of_le HX.out.2.2.2.2.2.2.2.1 HX.out.2.2.2.2.2.2.2.2.1)).mono (fun e w' h => (by obtain ⟨c, h1, h2, h3⟩ := h; exact ⟨c, h1, hide (And.intro h2 ((hX.mono (T := fun k => k = s.hb) (fun _ _ h => h.elim)).trans h3 (fun _ _ e => e)))⟩ : ∃ c, e = .returned (.int .i64 c) ∧ Hid (Hnt B w' s.hb L lo hi to ∧ Kp (fun k => k = s.hb) wa w')))
  have hnx : w.heap.size ≠ s.hb := by
    intro e
    have e1 := HH.out.2.1.blk
    rw [← e, HH.out.2.2.2] at e1
    simp at e1
  have hnc := (tb_ne HH.out.2.1 HH.out.1.cb (by decide)).symm
  have HS : ∀ X, Kp (fun k => k = s.hb) wa X → (X.cell? ⟨b, 3, none⟩ = some (.pointer (some ⟨s.hb, 0, none⟩)) ∧ X.cell? ⟨w.heap.size, 2, none⟩ = some (.int .u64 lo) ∧ X.cell? ⟨w.heap.size, 3, none⟩ = some (.int .u64 hi) ∧ X.cell? ⟨w.heap.size, 9, none⟩ = some (.int .u8 to)) := fun X hX => by
    have hc := HH.out.1.cb.kp hX hnc
    have hb := (hX.block _ (blk_lt HH.out.2.2.2) hnx).trans HH.out.2.2.2
    exact ⟨hc.c_hb, cellAt hb 2 rfl, cellAt hb 3 rfl, cellAt hb 9 rfl⟩
  have HS2 : ∀ X, Kp Nu wa X → (X.cell? ⟨b, 3, none⟩ = some (.pointer (some ⟨s.hb, 0, none⟩)) ∧ X.cell? ⟨w.heap.size, 2, none⟩ = some (.int .u64 lo) ∧ X.cell? ⟨w.heap.size, 3, none⟩ = some (.int .u64 hi) ∧ X.cell? ⟨w.heap.size, 9, none⟩ = some (.int .u8 to)) := fun X hX => HS X (hX.mono (fun _ _ h => h.elim))
  have HN := hide (And.intro hnx hnc)
  clear hnx hnc c_rkey c_host x2 x3 x9 n1 n2 hq
  go_region_held3 (fun X => X.cell? ⟨b, 3, none⟩ = some (.pointer (some ⟨s.hb, 0, none⟩)) ∧ X.cell? ⟨w.heap.size, 2, none⟩ = some (.int .u64 lo) ∧ X.cell? ⟨w.heap.size, 3, none⟩ = some (.int .u64 hi) ∧ X.cell? ⟨w.heap.size, 9, none⟩ = some (.int .u8 to)) (first | (refine HS2 _ ?_; (repeat (first | assumption | exact Kp.refl _ _ | apply Kp.drew)); done) | (refine HS _ (HF.out.2); done)) (first | (go_at_call 119; refine (AS _ ?_).mono ?_; (repeat (first | assumption | exact Kp.refl _ _ | apply Kp.drew)); rintro e w3 ⟨c, rfl, HF⟩))
  clear AS HS HS2
  have k3 : Kp (fun k => k = s.hb) w w3 := (HH.out.2.2.1.mono (fun _ _ h => h.elim)).trans HF.out.2 (fun _ _ e => e)
  have hC3 : Cl w3 b s nb D V O := HH.out.1.tb HH.out.2.1 HF.out.2
  have hb3 := (HF.out.2.block _ (blk_lt HH.out.2.2.2) HN.out.1).trans HH.out.2.2.2
  obtain ⟨w4, e4⟩ : ∃ w4, w3.drew.alloc (.cells #[] 193) = w4 := ⟨_, rfl⟩
  have k34 : Kp Nu w3 w4 := by rw [← e4]; exact ((Kp.refl Nu w3).drew).andAlloc _
  have kd3 : Kp Nu w3 w3.drew := (Kp.refl Nu w3).drew
  have hb4 := (k34.block _ (blk_lt hb3) (fun h => h)).trans hb3
  have hbd := (kd3.block _ (blk_lt hb3) (fun h => h)).trans hb3
  have u1 := (hC3.nu kd3).cb.c_mb
  have u2 := (hC3.nu k34).cb.c_mb
  have y1 := cellAt hbd 9 (v := .int .u8 to) rfl
  have y2 := cellAt hb4 9 (v := .int .u8 to) rfl
  have l1 := (hC3.nu kd3).am.look HX.out.2.2.2.2.2.2.1 (Int.lt_of_lt_of_le HX.out.2.2.2.2.2.2.2.1 (Int.le_trans HX.out.2.2.2.2.2.2.2.2.1 (by omega)))
  have l2 := (hC3.nu k34).am.look HX.out.2.2.2.2.2.2.1 (Int.lt_of_lt_of_le HX.out.2.2.2.2.2.2.2.1 (Int.le_trans HX.out.2.2.2.2.2.2.2.2.1 (by omega)))
  have HC4 := hide (And.intro (hC3.nu k34) (And.intro (HF.out.1.nu k34) (And.intro (k3.andNu k34) hb4)))
  have HZ : Hid (∀ g, w4.heap.size ≤ g → w.heap.size ≤ g) := fun g hg => Nat.le_trans (k3.andNu k34).size hg
  clear k3 hC3 hb3 k34 kd3 hb4 hbd HF HH HN
  rcases hr : Maps.has D (Lit.int .u8 to) with _ | _
  · rw [hr] at l1 l2
    have HR := hide hr
    clear hr
    go_wp2_with fail
    go_region
    clear l1 l2 u1 u2 y1 y2 e4
    have c_hops := HC4.out.1.cb.c_hops
    have f_hops := HC4.out.1.cb.free 19
    have c_tmo := HC4.out.1.cb.c_tmo
    have f_tmo := HC4.out.1.cb.free 22
    have hwh : IntKind.i64.wrap (s.hops + 1) = s.hops + 1 := by
      have a1 := HX.out.2.2.2.2.2.2.2.2.2.1
      have a2 := HX.out.2.2.2.2.2.2.2.2.2.2.1
      simp only [IntKind.wrap, IntKind.signed, IntKind.bits]
      first | omega | (simp; omega)
    have hbx4 := HC4.out.2.2.2
    have hbl := HX.out.1.cb.lt
    have hnb' : w.heap.size ≠ b := by omega
    obtain ⟨w5, e5⟩ : ∃ w5, w4.setCell ⟨b, 19, none⟩ (.int .i64 (s.hops + 1)) = w5 := ⟨_, rfl⟩
    obtain ⟨w6, e6⟩ : ∃ w6, w5.setCell ⟨b, 22, none⟩ (.int .i64 0) = w6 := ⟨_, rfl⟩
    have k45 : Kp (fun i => i = b) w4 w5 := by rw [← e5]; exact Kp.setCell w4 ⟨b, 19, none⟩ _
    have k56 : Kp (fun i => i = b) w5 w6 := by rw [← e6]; exact Kp.setCell w5 ⟨b, 22, none⟩ _
    have C5 : CB w5 b { s with hops := s.hops + 1 } := by rw [← e5]; exact HC4.out.1.cb.s_hops _
    have C6 : CB w6 b { s with hops := s.hops + 1, tmo := 0 } := by rw [← e6]; exact C5.s_tmo _
    have k46 : Kp (fun i => i = b) w4 w6 := k45.trans k56 (fun _ _ e => e)
    have hC6 : Cl w6 b { s with hops := s.hops + 1, tmo := 0 } nb D V O := HC4.out.1.turn k46 C6 rfl rfl rfl
    have c_tmo5 := C5.c_tmo
    have f_tmo5 := C5.free 22
    have hb6 := (k46.block _ (blk_lt hbx4) (fun e => hnb' e)).trans hbx4
    have z9 := cellAt hb6 9 (v := .int .u8 to) rfl
    have SD := send_any hC6.cb hC6.am HX.out.2.2.2.2.2.2.2.2.2.2.2.2.2 hC6.v hC6.o hC6.lv hC6.lo to HX.out.2.2.2.2.2.2.1 (Int.lt_of_lt_of_le HX.out.2.2.2.2.2.2.2.1 (Int.le_trans HX.out.2.2.2.2.2.2.2.2.1 (by omega))) HX.out.2.2.2.2.2.2.2.2.2.2.2.1 HX.out.2.2.2.2.2.2.2.2.2.2.2.2.1
    have H6 := hide (And.intro hC6 (And.intro k46 (HC4.out.2.1.cl HC4.out.1.cb HC4.out.1.am (k46.mono (fun _ _ e => .inl e)))))
    clear k45 k56 C5 C6 k46 hC6 hb6 hbx4 hbl hnb' c_tmo f_tmo
    go_wp2_with fail
    refine SD.mono ?_; rintro e w7 ⟨g, v', o', rfl, hg, hgl, hv, ho, hc, hm, hk⟩
    have HG := hide (And.intro hg (And.intro hgl (And.intro hv (And.intro ho (And.intro hc (And.intro hm hk))))))
    clear SD hg hgl hv ho hc hm hk e5 e6
    go_wp2
    go_ret2
    obtain ⟨hg, hgl, hv, ho, hc, hm, hk⟩ := HG.out
    obtain ⟨hC6, k46, hN6⟩ := H6.out
    have k67 : Kp (fun i => i = b ∨ i = s.mb) w6 w7 := hk
    have nb5 : ∀ i, (i = b ∨ i = s.mb) → ∀ c, w6.heap[i]? ≠ some (.cells c 5 (0, 0)) := fun i hi c hx => by
      rcases hi with hi | hi
      · rw [hi, hC6.cb] at hx; simp only [Option.some.injEq, Obj.cells.injEq] at hx; exact absurd hx.2.1 (by decide)
      · obtain ⟨es, cl, hy⟩ := hC6.am.obj; rw [hi] at hx; have hy' : w6.heap[s.mb]? = some (.map es cl) := hy; rw [hy'] at hx; cases hx
    have k04 : Kp (fun i => i = b ∨ i = s.mb ∨ i = s.hb) w w4 := HC4.out.2.2.1.mono (fun _ _ e => .inr (.inr e))
    have k46' : Kp (fun i => i = b ∨ i = s.mb ∨ i = s.hb) w w6 := k04.trans k46 (fun _ _ e => .inl e)
    refine .inr ⟨HR.out, g, v', o', rfl, hg, ?_, hv, ho, ⟨hc, hm, hC6.v.kp k67 nb5, hC6.o.kp k67 nb5, hC6.lv, hC6.lo⟩, hN6.cl hC6.cb hC6.am k67, k46'.trans k67 (fun _ _ e => e.elim .inl (fun e => .inr (.inl e)))⟩
    exact HZ.out g (Nat.le_trans k46.size hgl)
  · rw [hr] at l1 l2
    have HR := hide hr
    clear hr
    go_wp2_with fail
    go_region
    go_wp2
    go_ret2
    exact .inl ⟨HR.out, rfl, HC4.out.1, HC4.out.2.1, HC4.out.2.2.1.mono (fun _ _ e => .inr (.inr e))⟩
end Go.Proofs.YtmlnglillgplfaaGreat.Cl
