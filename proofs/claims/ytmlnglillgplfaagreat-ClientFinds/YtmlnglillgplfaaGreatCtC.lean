import Derived.Test.YtmlnglillgplfaaGreatCtB
namespace Go.Proofs.YtmlnglillgplfaaGreat.Cl
open Go.RowKit Go.Maps
set_option linter.unusedVariables false
theorem key_to {h : Int} (h0 : 0 ≤ h) (h1 : h < 256) : keyOf Tryz.prog 30 (.int .u8 h) = some (Lit.int .u8 h) := keyOf_int_mk Tryz.underlying30 (by simp [Lit.wf, IntKind.min, IntKind.max, IntKind.signed, IntKind.bits]; omega)
/-- something to be sent -/
def outC (to : Int) (s : Cs) (v o : Sl) : Array Value := #[.int .u8 to, .int .u8 s.rk, .int .u64 s.seq, .int .u64 s.rkey, .int .u64 s.rhi, v.val, o.val, .bool s.rhas, .int .u8 0, .int .u8 0, .int .u8 0, .int .u32 0, .int .u32 0, .int .u64 0, .int .u8 s.rlim, .slice none 0 0, .slice none 0 0, .slice none 0 0]
set_option maxRecDepth 100000 in
set_option maxHeartbeats 4000000 in
theorem send_any {w : World} {b nb : Nat} {s : Cs} {D : DataW Unit} {V O : List Int} (h : CB w b s) (hm : Am w s.mb nb D) (hnb : nb < 1000000) (hv : Bt w s.rv V) (ho : Bt w s.ro O) (lv : V.length ≤ 3072) (lo : O.length ≤ 3072) (to : Int) (t0 : 0 ≤ to) (t1 : to < 256) (hs0 : 0 ≤ s.sent) (hs1 : s.sent < 1000000) :
    Calls Tryz.prog 91 #[.pointer (some ⟨b, 0, none⟩), .int .u8 to] w fun e w' => ∃ g v' o', e = .returned (.slice (some ⟨g, 0, none⟩) 1 1) ∧ w'.heap[g]? = some (.cells (outC to s v' o') 38 (0, 0)) ∧ w.heap.size ≤ g ∧ Bt w' v' V ∧ Bt w' o' O ∧ CB w' b { s with host := to, sent := s.sent + 1, ticks := 0 } ∧ Am w' s.mb (nb + 1) (D.put (Lit.int .u8 to) (.agg [])) ∧ Kp (fun i => i = b ∨ i = s.mb) w w' := by
  have mixed : Tryz.prog.follows .mixedOrders = true := by kernel_rfl
  have c_mb := h.c_mb
  have hkey := key_to t0 t1
  have hmn : nb < maxLen := by unfold maxLen; omega
  have hbm : b ≠ s.mb := by
    rintro e
    obtain ⟨es, cl, hx⟩ := hm.obj
    rw [← e, h] at hx
    cases hx
  have HM := hide hm
  have HC := hide h
  have HV := hide hv
  have HO := hide ho
  have hsw : IntKind.i64.wrap (s.sent + 1) = s.sent + 1 := by
    simp only [IntKind.wrap, IntKind.signed, IntKind.bits]
    first | omega | (simp; omega)
  have HL := hide (And.intro lv lo)
  have HS0 := hide (And.intro hs0 hs1)
  clear h hm hv ho t0 t1 hnb lv lo
  go_enter Tryz.func91, Tryz.ntmps91
  go_wp2_with (at_mapUpdate; refine wpList_mapUpdate_own _ rfl _ _ _ 120 rfl 30 193 hostKeyed Tryz.underlying120 unitElem s.mb nb D rfl HM.out hmn _ _ _ rfl rfl hkey (.agg []) [] unitElem_mk ?_; intro w1 hown1 hg1; have K1 := Kp.of_grown hg1; have hC1 := CB.kp HC.out K1 (fun e => hbm (by simpa using e)); have c_host := hC1.c_host; have c_sent := hC1.c_sent; have c_ticks := hC1.c_ticks; have f_host := hC1.free 17; have f_sent := hC1.free 18; have f_ticks := hC1.free 21; have HC1 := hide hC1; have HK1 := hide K1; have HO1 := hide hown1; clear K1 hC1 hown1 hg1)
  obtain ⟨W, hW⟩ : ∃ W, ((w1.setCell ⟨b, 17, none⟩ (.int .u8 to)).setCell ⟨b, 18, none⟩ (.int .i64 (s.sent + 1))).setCell ⟨b, 21, none⟩ (.int .i64 0) = W := ⟨_, rfl⟩
  have hCW : CB W b { s with host := to, sent := s.sent + 1, ticks := 0 } := by rw [← hW]; exact ((HC1.out.s_host to).s_sent (s.sent + 1)).s_ticks 0
  have hKW : Kp (fun i => i = b) w1 W := by rw [← hW]; exact (((Kp.refl (fun i => i = b) w1).andSet ⟨b, 17, none⟩ _ (.inr rfl)).andSet ⟨b, 18, none⟩ _ (.inr rfl)).andSet ⟨b, 21, none⟩ _ (.inr rfl)
  have hMW : Am W s.mb (nb + 1) (D.put (Lit.int .u8 to) (.agg [])) := Am.keep HO1.out (hKW.block _ (Am.lt HO1.out) (fun e => hbm (show s.mb = b from e).symm))
  have nb5 : ∀ i, (some i = some s.mb) → ∀ c, w.heap[i]? ≠ some (.cells c 5 (0, 0)) := fun i hi c hc => by
    obtain ⟨es, cl, hx⟩ := HM.out.obj
    simp only [Option.some.injEq] at hi
    rw [hi, hx] at hc; cases hc
  have nbb : ∀ i, i = b → ∀ c, w1.heap[i]? ≠ some (.cells c 5 (0, 0)) := fun i hi c hc => by subst hi; rw [HC1.out] at hc; cases hc
  have hVW : Bt W s.rv V := (HV.out.kp HK1.out nb5).kp hKW nbb
  have hOW : Bt W s.ro O := (HO.out.kp HK1.out nb5).kp hKW nbb
  have hKK : Kp (fun i => i = b ∨ i = s.mb) w W := (HK1.out.mono (T := fun i => i = b ∨ i = s.mb) (fun i _ e => .inr (by simpa using e))).trans hKW (fun i _ e => .inl e)
  rw [hW]
  have HS : ∀ X, Kp Nu W X → (X.cell? ⟨b, 4, none⟩ = some (.int .u8 s.rk) ∧ X.cell? ⟨b, 5, none⟩ = some (.int .u64 s.rkey) ∧ X.cell? ⟨b, 6, none⟩ = some (.int .u64 s.rhi) ∧ X.cell? ⟨b, 7, none⟩ = some (.slice s.rv.a s.rv.n s.rv.c) ∧ X.cell? ⟨b, 8, none⟩ = some (.slice s.ro.a s.ro.n s.ro.c) ∧ X.cell? ⟨b, 9, none⟩ = some (.bool s.rhas) ∧ X.cell? ⟨b, 10, none⟩ = some (.int .u8 s.rlim) ∧ X.cell? ⟨b, 12, none⟩ = some (.int .u64 s.seq)) := fun X hX => by
    have hc := hCW.nu hX
    exact ⟨hc.c_rk, hc.c_rkey, hc.c_rhi, hc.c_rv, hc.c_ro, hc.c_rhas, hc.c_rlim, hc.c_seq⟩
  have CP := fun X (hX : Kp Nu W X) => (copy_any X s.rk s.rkey s.rhi s.rlim s.rhas s.rv s.ro V O (hVW.nu hX).rd (hOW.nu hX).rd HL.out.1 HL.out.2).mono (fun e w' h => by obtain ⟨v', o', h1, h2, h3, h4⟩ := h; exact (⟨v', o', h1, hide (And.intro h2 h3), hX.andNu h4⟩ : ∃ v' o' : Sl, e = .returned (.agg #[.int .u8 s.rk, .int .u64 s.rkey, .int .u64 s.rhi, v'.val, o'.val, .bool s.rhas, .int .u8 s.rlim]) ∧ Hid (Bt w' v' V ∧ Bt w' o' O) ∧ Kp Nu W w'))
  have MO := fun X (v' o' : Sl) (hX : Kp Nu W X) (hB : Hid (Bt X v' V ∧ Bt X o' O)) => (messageOf_any X s.rk s.rkey s.rhi s.rlim s.seq v'.a o'.a v'.n v'.c o'.n o'.c s.rhas).mono (fun e w' h => (⟨h.1, hide (And.intro (hB.out.1.nu h.2) (hB.out.2.nu h.2)), hX.andNu h.2⟩ : e = .returned (.agg #[.int .u8 s.rk, .int .u64 s.seq, .int .u64 s.rkey, .int .u64 s.rhi, .slice v'.a v'.n v'.c, .slice o'.a o'.n o'.c, .bool s.rhas, .int .u8 0, .int .u8 0, .int .u8 0, .int .u32 0, .int .u32 0, .int .u64 0, .int .u8 s.rlim, .slice none 0 0, .slice none 0 0, .slice none 0 0]) ∧ Hid (Bt w' v' V ∧ Bt w' o' O) ∧ Kp Nu W w'))
  have HCW := hide hCW
  have HMW := hide hMW
  have HKK := hide hKK
  unfold Sl.val at CP
  have HSZ : Hid (w.heap.size ≤ W.heap.size) := hKK.size
  clear hCW hKW hMW nb5 nbb hVW hOW hKK hW c_host c_sent c_ticks f_host f_sent f_ticks c_mb hkey hmn hsw HC HM HV HO HC1 HK1 HO1
  go_region_held3 (fun X => X.cell? ⟨b, 4, none⟩ = some (.int .u8 s.rk) ∧ X.cell? ⟨b, 5, none⟩ = some (.int .u64 s.rkey) ∧ X.cell? ⟨b, 6, none⟩ = some (.int .u64 s.rhi) ∧ X.cell? ⟨b, 7, none⟩ = some (.slice s.rv.a s.rv.n s.rv.c) ∧ X.cell? ⟨b, 8, none⟩ = some (.slice s.ro.a s.ro.n s.ro.c) ∧ X.cell? ⟨b, 9, none⟩ = some (.bool s.rhas) ∧ X.cell? ⟨b, 10, none⟩ = some (.int .u8 s.rlim) ∧ X.cell? ⟨b, 12, none⟩ = some (.int .u64 s.seq)) (first | (refine HS _ ?_; (repeat (first | assumption | exact Kp.refl _ _ | apply Kp.andAlloc | apply Kp.drew)); done)) (first | (go_at_call 54; refine (CP _ ?_).mono ?_; (repeat (first | assumption | exact Kp.refl _ _ | apply Kp.drew)); rintro e w3 ⟨v', o', rfl, hb3, hk3⟩) | (go_at_call 53; refine (MO _ v' o' ?_ ?_).mono ?_; (first | assumption); (first | assumption); rintro e w4 ⟨rfl, hb4, hk4⟩))
  have HK4 := hide (hk4.andAlloc (.cells (outC to s v' o') 38))
  have HK4' := hide hk4
  have KA := hide (Kp.alloc w4 (.cells (outC to s v' o') 38) Nu)
  clear hk3 hk4 hb3 CP MO HS
  go_wp2
  go_ret
  refine ⟨w4.heap.size, v', o', rfl, heap_new w4 _, ?_, hb4.out.1.nu KA.out, hb4.out.2.nu KA.out, HCW.out.nu HK4.out, HMW.out.keep (HK4.out.block _ (HMW.out.lt) (fun h => h)), HKK.out.andNu HK4.out⟩
  have h1 := HSZ.out
  have h2 := HK4'.out.size
  omega
theorem clear_map {w : World} {bm nb : Nat} {D : DataW Unit} (h : Am w bm nb D) : ∃ W, (∀ ty, (Builtin.clear_ #[120] ty #[.map (some bm)]).run Tryz.prog w = .ok (.tuple #[]) W) ∧ Am W bm 0 (.map [] : DataW Unit) ∧ w.mapTurned W bm := by
  obtain ⟨es, clock, hb, F, hn, hD⟩ := h
  refine ⟨ChangeMaps.setBlock w bm (.map #[] clock), fun ty => ?_, ⟨#[], clock, ChangeMaps.heap_setBlock_same hb _, ?_, Nat.le_refl _, rfl⟩, ⟨es, clock, #[], clock, hb, rfl⟩⟩
  · simp [Builtin.clear_, run_underlying Tryz.underlying120, MapKept.run_getObj_map hb, MapKept.run_setObj_map _ hb, Result.andThen]
    rfl
  · exact ⟨by simp, MapKept.stamped_empty clock, by simp⟩
theorem kp_turned {w W : World} {bm : Nat} (h : w.mapTurned W bm) : Kp (fun i => i = bm) w W := by
  obtain ⟨es, clock, es', clock', hb, rfl⟩ := h
  refine ⟨rfl, rfl, rfl, ?_, fun k hk hn => ?_⟩
  · simp [ChangeMaps.setBlock]
  · exact ChangeMaps.heap_setBlock_other hb _ hn
set_option maxRecDepth 100000 in
set_option maxHeartbeats 1000000 in
theorem nextTry_any {w : World} {b nb : Nat} {s : Cs} {D : DataW Unit} {V O : List Int} (h : CB w b s) (hm : Am w s.mb nb D) (hv : Bt w s.rv V) (ho : Bt w s.ro O) (lv : V.length ≤ 3072) (lo : O.length ≤ 3072) (to : Int) (t0 : 0 ≤ to) (t1 : to < 256) (hs0 : 0 ≤ s.sent) (hs1 : s.sent < 1000000) :
    Calls Tryz.prog 55 #[.pointer (some ⟨b, 0, none⟩), .int .u8 to] w fun e w' => ∃ g v' o', e = .returned (.slice (some ⟨g, 0, none⟩) 1 1) ∧ w'.heap[g]? = some (.cells (outC to s v' o') 38 (0, 0)) ∧ w.heap.size ≤ g ∧ Bt w' v' V ∧ Bt w' o' O ∧ CB w' b { s with host := to, sent := s.sent + 1, ticks := 0 } ∧ Am w' s.mb 1 ((DataW.map []).put (Lit.int .u8 to) (.agg [])) ∧ Kp (fun i => i = b ∨ i = s.mb) w w' := by
  obtain ⟨W, hcl, hAW, ht⟩ := clear_map hm
  have hbm : b ≠ s.mb := by
    rintro e
    obtain ⟨es, cl, hx⟩ := hm.obj
    rw [← e, h] at hx
    cases hx
  have kt := kp_turned ht
  have nbm : ∀ i, i = s.mb → ∀ c, w.heap[i]? ≠ some (.cells c 5 (0, 0)) := fun i hi c hc => by
    obtain ⟨es, cl, hx⟩ := hm.obj
    rw [hi, hx] at hc; cases hc
  have SE := send_any (h.kp kt (fun e => hbm e)) hAW (by omega) (hv.kp kt nbm) (ho.kp kt nbm) lv lo to t0 t1 hs0 hs1
  have c_mb := h.c_mb
  have HKT := hide kt
  clear h hm hv ho lv lo t0 t1 hs0 hs1 hAW ht kt nbm hbm
  go_enter Tryz.func55, Tryz.ntmps55
  go_wp2_with fail
  refine SE.mono ?_
  rintro e w2 ⟨g, v', o', rfl, hg, hgl, hv2, ho2, hc2, hm2, hk2⟩
  have HG := hide hg
  have HF := hide (And.intro hgl (And.intro hv2 (And.intro ho2 (And.intro hc2 (And.intro hm2 hk2)))))
  clear SE hg hgl hv2 ho2 hc2 hm2 hk2 hcl c_mb
  go_wp2
  go_ret
  obtain ⟨hgl, hv2, ho2, hc2, hm2, hk2⟩ := HF.out
  exact ⟨g, v', o', rfl, HG.out, Nat.le_trans HKT.out.size hgl, hv2, ho2, hc2, hm2, (HKT.out.mono (T := fun i => i = b ∨ i = s.mb) (fun i _ e => .inr e)).trans hk2 (fun i _ e => e)⟩
end Go.Proofs.YtmlnglillgplfaaGreat.Cl
