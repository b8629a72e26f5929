import Derived.Test.YtmlnglillgplfaaGreatCtC
import Derived.BigQuiet
import Derived.Deep.QuietTactic
namespace Go.Proofs.YtmlnglillgplfaaGreat.Cl
open Go.RowKit Go.Maps
set_option linter.unusedVariables false
theorem made_any {w : World} {b : Nat} {s : Cs} (h : CB w b s) : Calls Tryz.prog 50 #[.pointer (some ⟨b, 0, none⟩)] w fun e w' => e = .returned (.bool true) ∧ w' = w := by
  have c_hb := h.c_hb
  clear h
  go_enter Tryz.func50, Tryz.ntmps50
  go_wp2
  go_ret
  exact ⟨rfl, rfl⟩
theorem waits_yes {w : World} {b : Nat} {s : Cs} (h : CB w b s) (hp : s.ph = 1) : Calls Tryz.prog 48 #[.pointer (some ⟨b, 0, none⟩)] w fun e w' => e = .returned (.bool true) ∧ w' = w := by
  have MA := made_any h
  have c_ph := h.c_ph
  rw [hp] at c_ph
  clear h hp
  go_enter Tryz.func48, Tryz.ntmps48
  go_wp2_with fail
  refine MA.mono ?_; rintro e w' ⟨rfl, hw⟩
  obtain rfl := hw.symm
  clear MA
  go_wp2
  go_ret
  exact ⟨rfl, rfl⟩
theorem waits_no {w : World} {b : Nat} {s : Cs} (h : CB w b s) (hp : ¬ s.ph = 1) : Calls Tryz.prog 48 #[.pointer (some ⟨b, 0, none⟩)] w fun e w' => e = .returned (.bool false) ∧ w' = w := by
  have MA := made_any h
  have c_ph := h.c_ph
  have hq : (s.ph == 1) = false := by simpa using hp
  clear h hp
  go_enter Tryz.func48, Tryz.ntmps48
  go_wp2_with fail
  refine MA.mono ?_; rintro e w' ⟨rfl, hw⟩
  obtain rfl := hw.symm
  clear MA
  go_wp2
  go_ret
  exact ⟨rfl, rfl⟩
/-- the host behind -/
def nxt (h n : Int) : Int := if h + 1 = n then 0 else h + 1
theorem nxt_range {h n : Int} (h0 : 0 ≤ h) (h1 : h < n) : 0 ≤ nxt h n ∧ nxt h n < n := by unfold nxt; split <;> omega
theorem nxt_mod {h n : Int} (h0 : 0 ≤ h) (h1 : h < n) : (h + 1).tmod n = nxt h n := by
  unfold nxt
  split
  · rename_i e; rw [e]; exact Int.tmod_self
  · exact Int.tmod_eq_of_lt (by omega) (by omega)
theorem wrap64 {x : Int} (h0 : -1000000 ≤ x) (h1 : x ≤ 1000000) : IntKind.i64.wrap x = x := by
  simp only [IntKind.wrap, IntKind.signed, IntKind.bits]
  first | omega | (simp; omega)
theorem wrap8' {x : Int} (h0 : 0 ≤ x) (h1 : x < 256) : IntKind.u8.wrap x = x := by
  simp only [IntKind.wrap, IntKind.signed, IntKind.bits]
  first | omega | (simp; omega)
theorem behind_any {w : World} {b : Nat} {s : Cs} (h : CB w b s) (t : Int) (t0 : 0 ≤ t) (t1 : t < s.hosts) (hh : s.hosts ≤ 16) : Calls Tryz.prog 86 #[.pointer (some ⟨b, 0, none⟩), .int .u8 t] w fun e w' => e = .returned (.int .u8 (nxt t s.hosts)) ∧ w' = w := by
  have c_hosts := h.c_hosts
  have e1 := wrap64 (x := t) (by omega) (by omega)
  have e2 := wrap64 (x := t + 1) (by omega) (by omega)
  have e3 := nxt_mod t0 t1
  obtain ⟨r0, r1⟩ := nxt_range t0 t1
  have e4 := wrap8' r0 (by omega)
  have e5 := wrap64 (x := nxt t s.hosts) (by omega) (by omega)
  have hz : ¬ s.hosts = 0 := by omega
  have hm : ¬ s.hosts = -1 := by omega
  clear h t0 t1 hh r0 r1
  generalize nxt t s.hosts = n at *
  go_enter Tryz.func86, Tryz.ntmps86
  go_wp2
  go_ret
  exact ⟨rfl, rfl⟩
set_option maxRecDepth 100000 in
set_option maxHeartbeats 1000000 in
theorem timeOut_end {w : World} {b : Nat} {s : Cs} (h : CB w b s) (he : s.sent - s.hops = s.tries) (r0 : -1000 ≤ s.sent - s.hops) (r1 : s.sent - s.hops ≤ 1000) : Calls Tryz.prog 49 #[.pointer (some ⟨b, 0, none⟩)] w fun e w' => e = .returned (.slice none 0 0) ∧ CB w' b { s with ph := 3 } ∧ Kp (fun i => i = b) w w' := by
  have mixed : Tryz.prog.follows .mixedOrders = true := by kernel_rfl
  have c_sent := h.c_sent
  have c_hops := h.c_hops
  have c_tries := h.c_tries
  have c_ph := h.c_ph
  have f_ph := h.free 11
  have e1 := wrap64 (x := s.sent - s.hops) (by omega) (by omega)
  rw [← he] at c_tries
  have HC := hide h
  clear h he r0 r1
  go_enter Tryz.func49, Tryz.ntmps49
  go_wp2
  go_quiet (fail)
  go_wp2
  go_ret
  exact ⟨rfl, CB.s_ph (CB.nu HC.out (⟨rfl, rfl, rfl, Nat.le_refl _, fun _ _ _ => rfl⟩ : Kp Nu w (w.drewN nq))) 3, ((Kp.refl (fun i => i = b) w).trans (⟨rfl, rfl, rfl, Nat.le_refl _, fun _ _ _ => rfl⟩ : Kp Nu w (w.drewN nq)) (fun _ _ h => h.elim)).andSet ⟨b, 11, none⟩ _ (.inr rfl)⟩
end Go.Proofs.YtmlnglillgplfaaGreat.Cl
namespace Go.Proofs.YtmlnglillgplfaaGreat.Cl
open Go.RowKit Go.Maps
set_option linter.unusedVariables false
theorem kp_dn (w : World) (n : Nat) : Kp Nu w (w.drewN n) := ⟨rfl, rfl, rfl, Nat.le_refl _, fun _ _ _ => rfl⟩
/-- a client with its lists -/
structure Cl (w : World) (b : Nat) (s : Cs) (nb : Nat) (D : DataW Unit) (V O : List Int) : Prop where
  cb : CB w b s
  am : Am w s.mb nb D
  v : Bt w s.rv V
  o : Bt w s.ro O
  lv : V.length ≤ 3072
  lo : O.length ≤ 3072
theorem Cl.ne {w : World} {b : Nat} {s : Cs} {nb : Nat} {D : DataW Unit} {V O : List Int} (h : Cl w b s nb D V O) : b ≠ s.mb := by
  rintro e
  obtain ⟨es, cl, hx⟩ := h.am.obj
  rw [← e, h.cb] at hx
  cases hx
theorem Cl.nu {w w' : World} {b : Nat} {s : Cs} {nb : Nat} {D : DataW Unit} {V O : List Int} (h : Cl w b s nb D V O) (k : Kp Nu w w') : Cl w' b s nb D V O :=
  ⟨h.cb.nu k, h.am.keep (k.block _ h.am.lt (fun h => h)), h.v.nu k, h.o.nu k, h.lv, h.lo⟩
/-- one cell of it has turned -/
theorem Cl.turn {w w' : World} {b : Nat} {s s' : Cs} {nb : Nat} {D : DataW Unit} {V O : List Int} (h : Cl w b s nb D V O) (k : Kp (fun i => i = b) w w') (hc : CB w' b s') (em : s'.mb = s.mb) (ev : s'.rv = s.rv) (eo : s'.ro = s.ro) : Cl w' b s' nb D V O := by
  have nb5 : ∀ i, i = b → ∀ c, w.heap[i]? ≠ some (.cells c 5 (0, 0)) := fun i hi c hx5 => by rw [hi, h.cb] at hx5; cases hx5
  refine ⟨hc, ?_, ?_, ?_, h.lv, h.lo⟩
  · rw [em]; exact h.am.keep (k.block _ h.am.lt (fun e => h.ne (show s.mb = b from e).symm))
  · rw [ev]; exact h.v.kp k nb5
  · rw [eo]; exact h.o.kp k nb5
/-- what is to be sent -/
structure Snt (w : World) (u : Value) (to : Int) (s : Cs) (V O : List Int) : Prop where
  out : ∃ g v o, u = .slice (some ⟨g, 0, none⟩) 1 1 ∧ w.heap[g]? = some (.cells (outC to s v o) 38 (0, 0)) ∧ Bt w v V ∧ Bt w o O
theorem Cl.next {w : World} {b nb : Nat} {s : Cs} {D : DataW Unit} {V O : List Int} (h : Cl w b s nb D V O) (to : Int) (t0 : 0 ≤ to) (t1 : to < 256) (hs0 : 0 ≤ s.sent) (hs1 : s.sent < 1000000) :
    Calls Tryz.prog 55 #[.pointer (some ⟨b, 0, none⟩), .int .u8 to] w fun e w' => ∃ g v' o', e = .returned (.slice (some ⟨g, 0, none⟩) 1 1) ∧ Snt w' (.slice (some ⟨g, 0, none⟩) 1 1) to s V O ∧ w.heap.size ≤ g ∧ Cl w' b { s with host := to, sent := s.sent + 1, ticks := 0 } 1 ((DataW.map []).put (Lit.int .u8 to) (.agg [])) V O ∧ Kp (fun i => i = b ∨ i = s.mb) w w' ∧ w'.heap[g]? = some (.cells (outC to s v' o') 38 (0, 0)) := by
  refine (nextTry_any h.cb h.am h.v h.o h.lv h.lo to t0 t1 hs0 hs1).mono ?_
  rintro e w' ⟨g, v', o', rfl, hg, hgl, hv, ho, hc, hm, hk⟩
  have nb5 : ∀ i, (i = b ∨ i = s.mb) → ∀ c, w.heap[i]? ≠ some (.cells c 5 (0, 0)) := fun i hi c hx5 => by
    rcases hi with hi | hi
    · rw [hi, h.cb] at hx5; cases hx5
    · obtain ⟨es, cl, hx⟩ := h.am.obj
      rw [hi, hx] at hx5; cases hx5
  exact ⟨g, v', o', rfl, ⟨g, v', o', rfl, hg, hv, ho⟩, hgl, ⟨hc, hm, h.v.kp hk nb5, h.o.kp hk nb5, h.lv, h.lo⟩, hk, hg⟩
set_option maxRecDepth 100000 in
set_option maxHeartbeats 1000000 in
theorem timeOut_again {w : World} {b nb : Nat} {s : Cs} {D : DataW Unit} {V O : List Int} (h : Cl w b s nb D V O) (he : ¬ s.sent - s.hops = s.tries) (r0 : 0 ≤ s.sent) (r1 : s.sent ≤ 1000) (p0 : 0 ≤ s.hops) (p1 : s.hops ≤ 1000) (h0 : 0 ≤ s.host) (h1 : s.host < s.hosts) (hh : s.hosts ≤ 16) (m0 : 0 ≤ s.tmo) (m1 : s.tmo ≤ 1) :
    Calls Tryz.prog 49 #[.pointer (some ⟨b, 0, none⟩)] w fun e w' => ∃ g, e = .returned (.slice (some ⟨g, 0, none⟩) 1 1) ∧ Snt w' (.slice (some ⟨g, 0, none⟩) 1 1) (if s.tmo = 1 then nxt s.host s.hosts else s.host) s V O ∧ w.heap.size ≤ g ∧ Cl w' b { s with host := (if s.tmo = 1 then nxt s.host s.hosts else s.host), sent := s.sent + 1, ticks := 0, tmo := (if s.tmo = 1 then 0 else 1) } 1 ((DataW.map []).put (Lit.int .u8 (if s.tmo = 1 then nxt s.host s.hosts else s.host)) (.agg [])) V O ∧ Kp (fun i => i = b ∨ i = s.mb) w w' := by
  have mixed : Tryz.prog.follows .mixedOrders = true := by kernel_rfl
  have c_sent := h.cb.c_sent
  have c_hops := h.cb.c_hops
  have c_tries := h.cb.c_tries
  have c_host := h.cb.c_host
  have c_tmo := h.cb.c_tmo
  have f_tmo := h.cb.free 22
  have e1 := wrap64 (x := s.sent - s.hops) (by omega) (by omega)
  have e2 := wrap64 (x := s.tmo + 1) (by omega) (by omega)
  have hq : (s.sent - s.hops == s.tries) = false := by simpa using he
  have HC := hide h
  by_cases hm : s.tmo = 1
  · have hKd := fun n => kp_dn w n
    have hB := fun n => (CB.s_tmo (h.cb.nu (kp_dn w n)) 2)
    have BE := fun n => behind_any (hB n) s.host h0 h1 hh
    have hr := nxt_range h0 h1
    have NX := fun n => Cl.next (s := { s with tmo := 0 }) (b := b) (nb := nb) (D := D) (V := V) (O := O) (w := ((w.drewN n).setCell ⟨b, 22, none⟩ (.int .i64 2)).setCell ⟨b, 22, none⟩ (.int .i64 0)) (h.turn (s' := { s with tmo := 0 }) ((((Kp.refl (fun i => i = b) w).trans (kp_dn w n) (fun _ _ h => h.elim)).andSet ⟨b, 22, none⟩ _ (.inr rfl)).andSet ⟨b, 22, none⟩ _ (.inr rfl)) (CB.s_tmo (CB.s_tmo (h.cb.nu (kp_dn w n)) 2) 0) rfl rfl rfl) (nxt s.host s.hosts) hr.1 (by omega) r0 (by show s.sent < _; omega)
    rw [hm] at c_tmo e2
    have HM := hide hm
    clear h he r0 r1 p0 p1 h0 h1 hh m0 m1 hm hr hKd
    simp only [] at BE
    go_enter Tryz.func49, Tryz.ntmps49
    go_wp2
    go_quiet (fail)
    go_wp2_with fail
    refine (BE nq).mono ?_; rintro e w' ⟨rfl, hw⟩
    obtain rfl := hw.symm
    clear BE hw
    go_wp2_with fail
    refine (NX nq).mono ?_
    rintro e w2 ⟨g, v', o', rfl, hsn, hgl, hcl, hk, _⟩
    have HF := hide (And.intro hsn (And.intro hgl (And.intro hcl hk)))
    have KD := hide ((((Kp.refl (fun i => i = b ∨ i = s.mb) w).trans (kp_dn w nq) (fun _ _ h => h.elim)).andSet ⟨b, 22, none⟩ (.int .i64 2) (.inr (.inl rfl))).andSet ⟨b, 22, none⟩ (.int .i64 0) (.inr (.inl rfl)))
    clear NX hsn hgl hcl hk hB
    go_wp2
    go_ret
    obtain ⟨hsn, hgl, hcl, hk⟩ := HF.out
    refine ⟨g, rfl, ?_, ?_, hcl, KD.out.trans hk (fun i _ e => e)⟩
    · obtain ⟨g', v'', o'', e1, e2, e3, e4⟩ := hsn.out
      exact ⟨g', v'', o'', e1, e2, e3, e4⟩
    · simpa [World.setCell] using hgl
  · have hm0 : s.tmo = 0 := by omega
    have NX := fun n => Cl.next (s := { s with tmo := 1 }) (b := b) (nb := nb) (D := D) (V := V) (O := O) (w := (w.drewN n).setCell ⟨b, 22, none⟩ (.int .i64 1)) (h.turn (s' := { s with tmo := 1 }) (((Kp.refl (fun i => i = b) w).trans (kp_dn w n) (fun _ _ h => h.elim)).andSet ⟨b, 22, none⟩ _ (.inr rfl)) (CB.s_tmo (h.cb.nu (kp_dn w n)) 1) rfl rfl rfl) s.host h0 (by omega) r0 (by show s.sent < _; omega)
    rw [hm0] at c_tmo e2
    have HM := hide hm
    clear h he r0 r1 p0 p1 h0 h1 hh m0 m1 hm hm0
    go_enter Tryz.func49, Tryz.ntmps49
    go_wp2
    go_quiet (fail)
    go_wp2_with fail
    refine (NX nq).mono ?_
    rintro e w2 ⟨g, v', o', rfl, hsn, hgl, hcl, hk, _⟩
    have HF := hide (And.intro hsn (And.intro hgl (And.intro hcl hk)))
    have KD := hide (((Kp.refl (fun i => i = b ∨ i = s.mb) w).trans (kp_dn w nq) (fun _ _ h => h.elim)).andSet ⟨b, 22, none⟩ (.int .i64 1) (.inr (.inl rfl)))
    clear NX hsn hgl hcl hk
    go_wp2
    go_ret
    obtain ⟨hsn, hgl, hcl, hk⟩ := HF.out
    refine ⟨g, rfl, ?_, ?_, hcl, KD.out.trans hk (fun i _ e => e)⟩
    · obtain ⟨g', v'', o'', e1, e2, e3, e4⟩ := hsn.out
      exact ⟨g', v'', o'', e1, e2, e3, e4⟩
    · simpa [World.setCell] using hgl
end Go.Proofs.YtmlnglillgplfaaGreat.Cl
namespace Go.Proofs.YtmlnglillgplfaaGreat.Cl
open Go.RowKit Go.Maps
set_option linter.unusedVariables false
set_option maxRecDepth 100000 in
set_option maxHeartbeats 1000000 in
/-- Tick: patience -/
theorem tick_less {w : World} {b nb : Nat} {s : Cs} {D : DataW Unit} {V O : List Int} (h : Cl w b s nb D V O) (hp : s.ph = 1) (t0 : 0 ≤ s.ticks) (t1 : s.ticks ≤ 1000) (hl : s.ticks + 1 < s.pat) :
    Calls Tryz.prog 18 #[.pointer (some ⟨b, 0, none⟩)] w fun e w' => e = .returned (.slice none 0 0) ∧ Cl w' b { s with ticks := s.ticks + 1 } nb D V O ∧ Kp (fun i => i = b) w w' := by
  have mixed : Tryz.prog.follows .mixedOrders = true := by kernel_rfl
  have WA := waits_yes h.cb hp
  have c_ticks := h.cb.c_ticks
  have c_pat := h.cb.c_pat
  have f_ticks := h.cb.free 21
  have e1 := wrap64 (x := s.ticks + 1) (by omega) (by omega)
  have HC := hide h
  clear h hp t0 t1
  go_enter Tryz.func18, Tryz.ntmps18
  go_wp2_with fail
  refine WA.mono ?_; rintro e w' ⟨rfl, hw⟩
  obtain rfl := hw.symm
  clear WA hw
  go_wp2
  go_quiet (fail)
  go_wp2
  go_ret
  have hk : Kp (fun i => i = b) w ((w.setCell ⟨b, 21, none⟩ (.int .i64 (s.ticks + 1))).drewN nq) := ((Kp.refl (fun i => i = b) w).andSet ⟨b, 21, none⟩ _ (.inr rfl)).trans (kp_dn _ nq) (fun _ _ h => h.elim)
  exact ⟨rfl, HC.out.turn hk ((CB.s_ticks HC.out.cb (s.ticks + 1)).nu (kp_dn _ nq)) rfl rfl rfl, hk⟩
/-- Tick: it is given up -/
theorem tick_end {w : World} {b nb : Nat} {s : Cs} {D : DataW Unit} {V O : List Int} (h : Cl w b s nb D V O) (hp : s.ph = 1) (t0 : 0 ≤ s.ticks) (t1 : s.ticks ≤ 1000) (hl : ¬ s.ticks + 1 < s.pat) (he : s.sent - s.hops = s.tries) (r0 : -1000 ≤ s.sent - s.hops) (r1 : s.sent - s.hops ≤ 1000) :
    Calls Tryz.prog 18 #[.pointer (some ⟨b, 0, none⟩)] w fun e w' => e = .returned (.slice none 0 0) ∧ Cl w' b { s with ticks := s.ticks + 1, ph := 3 } nb D V O ∧ Kp (fun i => i = b) w w' := by
  have mixed : Tryz.prog.follows .mixedOrders = true := by kernel_rfl
  have WA := waits_yes h.cb hp
  have c_ticks := h.cb.c_ticks
  have c_pat := h.cb.c_pat
  have f_ticks := h.cb.free 21
  have e1 := wrap64 (x := s.ticks + 1) (by omega) (by omega)
  have TE := fun n => timeOut_end (b := b) (s := { s with ticks := s.ticks + 1 }) (w := (w.setCell ⟨b, 21, none⟩ (.int .i64 (s.ticks + 1))).drewN n) ((CB.s_ticks h.cb (s.ticks + 1)).nu (kp_dn _ n)) he r0 r1
  have HC := hide h
  clear h hp t0 t1 he r0 r1
  go_enter Tryz.func18, Tryz.ntmps18
  go_wp2_with fail
  refine WA.mono ?_; rintro e w' ⟨rfl, hw⟩
  obtain rfl := hw.symm
  clear WA hw
  go_wp2
  go_quiet (fail)
  go_wp2_with fail
  refine (TE nq).mono ?_; rintro e w2 ⟨rfl, hc, hk⟩
  have HCC := hide hc
  have hk2 : Kp (fun i => i = b) w w2 := (((Kp.refl (fun i => i = b) w).andSet ⟨b, 21, none⟩ (.int .i64 (s.ticks + 1)) (.inr rfl)).trans (kp_dn _ nq) (fun _ _ h => h.elim)).trans hk (fun _ _ h => h)
  have HK := hide hk2
  clear TE hc hk hk2
  go_wp2
  go_ret
  exact ⟨rfl, HC.out.turn HK.out HCC.out rfl rfl rfl, HK.out⟩
set_option maxRecDepth 100000 in
set_option maxHeartbeats 1000000 in
/-- Tick: it is sent again -/
theorem tick_again {w : World} {b nb : Nat} {s : Cs} {D : DataW Unit} {V O : List Int} (h : Cl w b s nb D V O) (hp : s.ph = 1) (t0 : 0 ≤ s.ticks) (t1 : s.ticks ≤ 1000) (hl : ¬ s.ticks + 1 < s.pat) (he : ¬ s.sent - s.hops = s.tries) (r0 : 0 ≤ s.sent) (r1 : s.sent ≤ 1000) (p0 : 0 ≤ s.hops) (p1 : s.hops ≤ 1000) (h0 : 0 ≤ s.host) (h1 : s.host < s.hosts) (hh : s.hosts ≤ 16) (m0 : 0 ≤ s.tmo) (m1 : s.tmo ≤ 1) :
    Calls Tryz.prog 18 #[.pointer (some ⟨b, 0, none⟩)] w fun e w' => ∃ g, e = .returned (.slice (some ⟨g, 0, none⟩) 1 1) ∧ Snt w' (.slice (some ⟨g, 0, none⟩) 1 1) (if s.tmo = 1 then nxt s.host s.hosts else s.host) s V O ∧ w.heap.size ≤ g ∧ Cl w' b { s with host := (if s.tmo = 1 then nxt s.host s.hosts else s.host), sent := s.sent + 1, ticks := 0, tmo := (if s.tmo = 1 then 0 else 1) } 1 ((DataW.map []).put (Lit.int .u8 (if s.tmo = 1 then nxt s.host s.hosts else s.host)) (.agg [])) V O ∧ Kp (fun i => i = b ∨ i = s.mb) w w' := by
  have mixed : Tryz.prog.follows .mixedOrders = true := by kernel_rfl
  have WA := waits_yes h.cb hp
  have c_ticks := h.cb.c_ticks
  have c_pat := h.cb.c_pat
  have f_ticks := h.cb.free 21
  have e1 := wrap64 (x := s.ticks + 1) (by omega) (by omega)
  have hkd := fun n => ((Kp.refl (fun i => i = b) w).andSet ⟨b, 21, none⟩ (.int .i64 (s.ticks + 1)) (.inr rfl)).trans (kp_dn (w.setCell ⟨b, 21, none⟩ (.int .i64 (s.ticks + 1))) n) (fun _ _ h => h.elim)
  have TA := fun n => timeOut_again (s := { s with ticks := s.ticks + 1 }) (h.turn (s' := { s with ticks := s.ticks + 1 }) (hkd n) ((CB.s_ticks h.cb (s.ticks + 1)).nu (kp_dn _ n)) rfl rfl rfl) he r0 r1 p0 p1 h0 h1 hh m0 m1
  simp only [] at TA
  have HKD := hide hkd
  clear h hp t0 t1 he r0 r1 p0 p1 h0 h1 hh m0 m1 hkd
  generalize hto : (if s.tmo = 1 then nxt s.host s.hosts else s.host) = to at *
  generalize htm : (if s.tmo = 1 then (0 : Int) else 1) = tm at *
  clear hto htm
  go_enter Tryz.func18, Tryz.ntmps18
  go_wp2_with fail
  refine WA.mono ?_; rintro e w' ⟨rfl, hw⟩
  obtain rfl := hw.symm
  clear WA hw
  go_wp2
  go_quiet (fail)
  go_wp2_with fail
  refine (TA nq).mono ?_; rintro e w2 ⟨g, rfl, hsn, hgl, hcl, hk⟩
  have HF := hide (And.intro hsn (And.intro hgl (And.intro hcl hk)))
  clear TA hsn hgl hcl hk
  go_wp2
  go_ret
  obtain ⟨hsn, hgl, hcl, hk⟩ := HF.out
  refine ⟨g, rfl, ?_, ?_, hcl, ((HKD.out nq).mono (T := fun i => i = b ∨ i = s.mb) (fun i _ e => .inl e)).trans hk (fun i _ e => e)⟩
  · obtain ⟨g', v'', o'', e1, e2, e3, e4⟩ := hsn.out
    exact ⟨g', v'', o'', e1, e2, e3, e4⟩
  · simpa [World.setCell] using hgl
end Go.Proofs.YtmlnglillgplfaaGreat.Cl
