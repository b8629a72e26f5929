import Derived.Test.YtmlnglillgplfaaGreatCtE
namespace Go.Proofs.YtmlnglillgplfaaGreat.Cl
open Go.RowKit Go.Maps
set_option linter.unusedVariables false
set_option maxRecDepth 100000 in
set_option maxHeartbeats 1000000 in
/-- Tick: patience -/
theorem tick_less {w : World} {b nb : Nat} {s : Cs} {D : DataW Unit} {V O : List Int} (h : Cl w b s nb D V O) (hp : s.ph = 1) (t0 : 0 ≤ s.ticks) (t1 : s.ticks ≤ 1000) (hl : s.ticks + 1 < s.pat) :
    Calls Tryz.prog 18 #[.pointer (some ⟨b, 0, none⟩)] w fun e w' => e = .returned (.slice none 0 0) ∧ Cl w' b { s with ticks := s.ticks + 1 } nb D V O ∧ Kp (fun i => i = b) w w' := by
  have mixed : Tryz.prog.follows .mixedOrders = true := by kernel_rfl
  have WA := waits_yes h.cb hp
  have c_ticks := h.cb.c_ticks
  have c_pat := h.cb.c_pat
  have f_ticks := h.cb.free 21
  have e1 := wrap64 (x := s.ticks + 1) (by omega) (by omega)
  have HC := hide h
  clear h hp t0 t1
  go_enter Tryz.func18, Tryz.ntmps18
  go_wp2_with fail
  refine WA.mono ?_; rintro e w' ⟨rfl, hw⟩
  obtain rfl := hw.symm
  clear WA hw
  go_wp2
  go_quiet (fail)
  go_wp2
  go_ret
  have hk : Kp (fun i => i = b) w ((w.setCell ⟨b, 21, none⟩ (.int .i64 (s.ticks + 1))).drewN nq) := ((Kp.refl (fun i => i = b) w).andSet ⟨b, 21, none⟩ _ (.inr rfl)).trans (kp_dn _ nq) (fun _ _ h => h.elim)
  exact ⟨rfl, HC.out.turn hk ((CB.s_ticks HC.out.cb (s.ticks + 1)).nu (kp_dn _ nq)) rfl rfl rfl, hk⟩
/-- Tick: it is given up -/
theorem tick_end {w : World} {b nb : Nat} {s : Cs} {D : DataW Unit} {V O : List Int} (h : Cl w b s nb D V O) (hp : s.ph = 1) (t0 : 0 ≤ s.ticks) (t1 : s.ticks ≤ 1000) (hl : ¬ s.ticks + 1 < s.pat) (he : s.sent - s.hops = s.tries) (r0 : -1000 ≤ s.sent - s.hops) (r1 : s.sent - s.hops ≤ 1000) :
    Calls Tryz.prog 18 #[.pointer (some ⟨b, 0, none⟩)] w fun e w' => e = .returned (.slice none 0 0) ∧ Cl w' b { s with ticks := s.ticks + 1, ph := 3 } nb D V O ∧ Kp (fun i => i = b) w w' := by
  have mixed : Tryz.prog.follows .mixedOrders = true := by kernel_rfl
  have WA := waits_yes h.cb hp
  have c_ticks := h.cb.c_ticks
  have c_pat := h.cb.c_pat
  have f_ticks := h.cb.free 21
  have e1 := wrap64 (x := s.ticks + 1) (by omega) (by omega)
  have TE := fun n => timeOut_end (b := b) (s := { s with ticks := s.ticks + 1 }) (w := (w.setCell ⟨b, 21, none⟩ (.int .i64 (s.ticks + 1))).drewN n) ((CB.s_ticks h.cb (s.ticks + 1)).nu (kp_dn _ n)) he r0 r1
  have HC := hide h
  clear h hp t0 t1 he r0 r1
  go_enter Tryz.func18, Tryz.ntmps18
  go_wp2_with fail
  refine WA.mono ?_; rintro e w' ⟨rfl, hw⟩
  obtain rfl := hw.symm
  clear WA hw
  go_wp2
  go_quiet (fail)
  go_wp2_with fail
  refine (TE nq).mono ?_; rintro e w2 ⟨rfl, hc, hk⟩
  have HCC := hide hc
  have hk2 : Kp (fun i => i = b) w w2 := (((Kp.refl (fun i => i = b) w).andSet ⟨b, 21, none⟩ (.int .i64 (s.ticks + 1)) (.inr rfl)).trans (kp_dn _ nq) (fun _ _ h => h.elim)).trans hk (fun _ _ h => h)
  have HK := hide hk2
  clear TE hc hk hk2
  go_wp2
  go_ret
  exact ⟨rfl, HC.out.turn HK.out HCC.out rfl rfl rfl, HK.out⟩
set_option maxRecDepth 100000 in
set_option maxHeartbeats 1000000 in
/-- Tick: it is sent again -/
theorem tick_again {w : World} {b nb : Nat} {s : Cs} {D : DataW Unit} {V O : List Int} (h : Cl w b s nb D V O) (hp : s.ph = 1) (t0 : 0 ≤ s.ticks) (t1 : s.ticks ≤ 1000) (hl : ¬ s.ticks + 1 < s.pat) (he : ¬ s.sent - s.hops = s.tries) (r0 : 0 ≤ s.sent) (r1 : s.sent ≤ 1000) (p0 : 0 ≤ s.hops) (p1 : s.hops ≤ 1000) (h0 : 0 ≤ s.host) (h1 : s.host < s.hosts) (hh : s.hosts ≤ 16) (m0 : 0 ≤ s.tmo) (m1 : s.tmo ≤ 1) :
    Calls Tryz.prog 18 #[.pointer (some ⟨b, 0, none⟩)] w fun e w' => ∃ g, e = .returned (.slice (some ⟨g, 0, none⟩) 1 1) ∧ Snt w' (.slice (some ⟨g, 0, none⟩) 1 1) (if s.tmo = 1 then nxt s.host s.hosts else s.host) s V O ∧ w.heap.size ≤ g ∧ Cl w' b { s with host := (if s.tmo = 1 then nxt s.host s.hosts else s.host), sent := s.sent + 1, ticks := 0, tmo := (if s.tmo = 1 then 0 else 1) } 1 ((DataW.map []).put (Lit.int .u8 (if s.tmo = 1 then nxt s.host s.hosts else s.host)) (.agg [])) V O ∧ Kp (fun i => i = b ∨ i = s.mb) w w' := by
  have mixed : Tryz.prog.follows .mixedOrders = true := by kernel_rfl
  have WA := waits_yes h.cb hp
  have c_ticks := h.cb.c_ticks
  have c_pat := h.cb.c_pat
  have f_ticks := h.cb.free 21
  have e1 := wrap64 (x := s.ticks + 1) (by omega) (by omega)
  have hkd := fun n => ((Kp.refl (fun i => i = b) w).andSet ⟨b, 21, none⟩ (.int .i64 (s.ticks + 1)) (.inr rfl)).trans (kp_dn (w.setCell ⟨b, 21, none⟩ (.int .i64 (s.ticks + 1))) n) (fun _ _ h => h.elim)
  have TA := fun n => timeOut_again (s := { s with ticks := s.ticks + 1 }) (h.turn (s' := { s with ticks := s.ticks + 1 }) (hkd n) ((CB.s_ticks h.cb (s.ticks + 1)).nu (kp_dn _ n)) rfl rfl rfl) he r0 r1 p0 p1 h0 h1 hh m0 m1
  simp only [] at TA
  have HKD := hide hkd
  clear h hp t0 t1 he r0 r1 p0 p1 h0 h1 hh m0 m1 hkd
  generalize hto : (if s.tmo = 1 then nxt s.host s.hosts else s.host) = to at *
  generalize htm : (if s.tmo = 1 then (0 : Int) else 1) = tm at *
  clear hto htm
  go_enter Tryz.func18, Tryz.ntmps18
  go_wp2_with fail
  refine WA.mono ?_; rintro e w' ⟨rfl, hw⟩
  obtain rfl := hw.symm
  clear WA hw
  go_wp2
  go_quiet (fail)
  go_wp2_with fail
  refine (TA nq).mono ?_; rintro e w2 ⟨g, rfl, hsn, hgl, hcl, hk⟩
  have HF := hide (And.intro hsn (And.intro hgl (And.intro hcl hk)))
  clear TA hsn hgl hcl hk
  go_wp2
  go_ret
  obtain ⟨hsn, hgl, hcl, hk⟩ := HF.out
  refine ⟨g, rfl, ?_, ?_, hcl, ((HKD.out nq).mono (T := fun i => i = b ∨ i = s.mb) (fun i _ e => .inl e)).trans hk (fun i _ e => e)⟩
  · obtain ⟨g', v'', o'', e1, e2, e3, e4⟩ := hsn.out
    exact ⟨g', v'', o'', e1, e2, e3, e4⟩
  · simpa [World.setCell] using hgl
end Go.Proofs.YtmlnglillgplfaaGreat.Cl
