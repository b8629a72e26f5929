import Derived.Test.YtmlnglillgplfaaGreatNwB
import Derived.Test.YtmlnglillgplfaaGreatCeA
import Derived.Test.YtmlnglillgplfaaGreatSmC
namespace Go.Proofs.YtmlnglillgplfaaGreat.Cl
open Go.RowKit Go.Maps
set_option linter.unusedVariables false
/-- the document's client in memory, with nothing under way yet -/
def Rk (w : World) (b : Nat) (a hosts pat tries : Int) (s : Value) : Prop := w.heap[b]? = some (.cells (rcl a hosts pat tries 64 s) 107 (0, 0))
theorem Rk.nu {w w' : World} {b : Nat} {a hosts pat tries : Int} {s : Value} (h : Rk w b a hosts pat tries s) (k : Kp Nu w w') : Rk w' b a hosts pat tries s := (k.block b (blk_lt h) (fun h => h)).trans h
theorem Rk.req {w : World} {b : Nat} {a hosts pat tries : Int} {s : Value} (h : Rk w b a hosts pat tries s) : w.rangeAt b 8 [.int .u8 0, .int .u64 0, .int .u64 0, .slice none 0 0, .slice none 0 0, .bool false, .int .u8 0] := by
  intro j v hv
  have hj : j < 7 := (List.getElem?_eq_some_iff.1 hv).1
  have hc : j = 0 ∨ j = 1 ∨ j = 2 ∨ j = 3 ∨ j = 4 ∨ j = 5 ∨ j = 6 := by omega
  rcases hc with rfl | rfl | rfl | rfl | rfl | rfl | rfl <;>
  · simp only [List.getElem?_cons_succ, List.getElem?_cons_zero, Option.some.injEq] at hv
    subst hv
    exact cellAt h _ rfl
theorem refOutcome_idle {w : World} {b : Nat} {a hosts pat tries : Int} {s : Value} (h : Rk w b a hosts pat tries s) : Calls Tryz.prog 81 #[.pointer (some ⟨b, 0, none⟩)] w fun e w' => e = .returned (.agg #[.int .u8 0, .int .u64 0, .int .u8 0, .slice none 0 0, .slice none 0 0, .int .u64 0, .int .u8 0, .int .i64 0, .int .i64 0]) ∧ Kp Nu w w' := by
  have c7 := cellAt (h.nu (Kp.alloc w (.cells #[.int .u8 0, .int .u64 0, .int .u8 0, .slice none 0 0, .slice none 0 0, .int .u64 0, .int .u8 0, .int .i64 0, .int .i64 0] 55) Nu)) 7 (v := .int .i64 0) rfl
  clear h
  go_enter Tryz.func81, Tryz.ntmps81
  go_wp2_with (guard_target =~ wpList _ _ _ ({ dst := none, op := Op.store 55 (Operand.tmp 2) (Operand.tmp 11), type := _, pos := _, after := _, guard := _ } :: _) _ _; refine wpList_store_new 55 9 (.tmp 2) (.tmp 11) rfl rfl info55 _ _ _ rfl rfl (by simp) rfl rfl (by simp [Value.oneCell']) ?_)
  refine bodyPost_ret (results_cell_row rfl _ _ w.heap.size 55 _ _ _ rfl (heap_new w _) Tryz.underlying55 rfl info55) rfl ?_
  exact ⟨rfl, Kp.alloc _ _ _⟩
set_option maxHeartbeats 1000000 in
theorem request_new {w : World} {b hb mb : Nat} {hosts pat tries : Int} (h : CB w b (Cs.new hosts pat tries hb mb)) : Calls Tryz.prog 24 #[.pointer (some ⟨b, 0, none⟩)] w fun e w' => ∃ v o : Sl, e = .returned (.agg #[.int .u8 0, .int .u64 0, .int .u64 0, .slice v.a v.n v.c, .slice o.a o.n o.c, .bool false, .int .u8 0]) ∧ Bt w' v [] ∧ Bt w' o [] ∧ Kp Nu w w' := by
  obtain ⟨wa, hwa⟩ : ∃ wa, w.alloc (.cells #[.int .u8 0, .int .u64 0, .int .u64 0, .slice none 0 0, .slice none 0 0, .bool false, .int .u8 0] 26) = wa := ⟨_, rfl⟩
  have ka : Kp Nu w wa := by rw [← hwa]; exact Kp.alloc _ _ _
  have hz : wa.heap[w.heap.size]? = some (.cells #[.int .u8 0, .int .u64 0, .int .u64 0, .slice none 0 0, .slice none 0 0, .bool false, .int .u8 0] 26 (0, 0)) := by rw [← hwa]; exact heap_new w _
  have ha := h.nu ka
  have MA := made_any ha
  have c4 : wa.cell? ⟨b, 4, none⟩ = some (.int .u8 0) := ha.c_rk
  have c5 : wa.cell? ⟨b, 5, none⟩ = some (.int .u64 0) := ha.c_rkey
  have c6 : wa.cell? ⟨b, 6, none⟩ = some (.int .u64 0) := ha.c_rhi
  have c7 : wa.cell? ⟨b, 7, none⟩ = some (.slice none 0 0) := ha.c_rv
  have c8 : wa.cell? ⟨b, 8, none⟩ = some (.slice none 0 0) := ha.c_ro
  have c9 : wa.cell? ⟨b, 9, none⟩ = some (.bool false) := ha.c_rhas
  have c10 : wa.cell? ⟨b, 10, none⟩ = some (.int .u8 0) := ha.c_rlim
  have CP := fun W => copy_any W 0 0 0 0 false Sl.nil Sl.nil [] [] (.inl ⟨rfl, rfl⟩) (.inl ⟨rfl, rfl⟩) (Nat.zero_le _) (Nat.zero_le _)
  simp only [Sl.val, Sl.nil] at CP
  have HZ := hide hz
  have HA := hide ka
  clear h ha hz ka
  go_enter Tryz.func24, Tryz.ntmps24
  go_wp2_with fail
  refine MA.mono ?_; rintro e w' ⟨rfl, hw⟩
  obtain rfl := hw.symm
  clear MA hw
  go_wp2_with fail
  refine (CP _).mono ?_; rintro e w2 ⟨v, o, rfl, hv, ho, hk2⟩
  have HZ2 := hide (box_k HZ.out hk2)
  have HV := hide (And.intro hv (And.intro ho hk2))
  clear CP hv ho hk2 c4 c5 c6 c7 c8 c9 c10
  go_wp2_with (guard_target =~ wpList _ _ _ ({ dst := none, op := Op.store 26 (Operand.tmp 2) (Operand.tmp 11), type := _, pos := _, after := _, guard := _ } :: _) _ _; refine wpList_store_all 26 7 (.tmp 2) (.tmp 11) rfl rfl info26 w.heap.size _ rfl rfl HZ2.out rfl rfl (by simp [Value.oneCell']) ?_; intro W hW kW sW)
  refine bodyPost_ret (results_cell_row rfl _ _ w.heap.size 26 _ _ _ rfl hW Tryz.underlying26 rfl info26) rfl ?_
  obtain ⟨hv, ho, hk2⟩ := HV.out
  have nb5 : ∀ i, i = w.heap.size → ∀ c, w2.heap[i]? ≠ some (.cells c 5 (0, 0)) := fun i hi c hx => by rw [hi, HZ2.out] at hx; simp at hx
  exact ⟨v, o, rfl, hv.kp kW nb5, ho.kp kW nb5, (HA.out.andNu hk2).trans kW (fun i hi e => by have e' : i = w.heap.size := e; omega)⟩
theorem hints_any {w : World} {b B : Nat} {s : Cs} {tv : Value} {L : List Rg.Sg} (h : CB w b s) (hT : Rg.Tb B w s.hb 64 tv L) : Calls Tryz.prog 25 #[.pointer (some ⟨b, 0, none⟩)] w fun e w' => ∃ u, e = .returned u ∧ Hid (w'.ownsRow w.heap.size 76 3 u L.length (Rg.cells L)) ∧ Kp Nu w w' := by
  have MA := made_any h
  have c3 := h.c_hb
  have LA := Rg.list_any hT
  clear h hT
  go_enter Tryz.func25, Tryz.ntmps25
  go_wp2_with fail
  refine MA.mono ?_; rintro e w' ⟨rfl, hw⟩
  obtain rfl := hw.symm
  clear MA hw
  go_wp2_with fail
  refine LA.mono ?_; rintro e w2 ⟨u, rfl, hu, hk⟩
  obtain ⟨ad, cp, eu⟩ := own_slice hu
  have HU := hide (And.intro hu hk)
  subst eu
  clear LA hu hk
  go_wp2
  go_ret
  exact ⟨_, rfl, hide HU.out.1, kpR HU.out.2⟩
set_option maxHeartbeats 1000000 in
theorem sameSeg_one {w : World} {g r cap : Nat} {x y z : Int} (g0 : w.cell? ⟨g, 0, none⟩ = some (.int .u64 x)) (g1 : w.cell? ⟨g, 1, none⟩ = some (.int .u64 y)) (g2 : w.cell? ⟨g, 2, none⟩ = some (.int .u8 z)) (r0 : w.cell? ⟨r, 0, none⟩ = some (.int .u64 x)) (r1 : w.cell? ⟨r, 1, none⟩ = some (.int .u64 y)) (r2 : w.cell? ⟨r, 2, none⟩ = some (.int .u8 z)) :
    Calls Tryz.prog 80 #[.slice (some ⟨g, 0, none⟩) 1 cap, .slice (some ⟨r, 0, none⟩) 1 1] w fun e w' => e = .returned (.bool true) ∧ Kp Nu w w' := by
  have mixed : Tryz.prog.follows .mixedOrders = true := by kernel_rfl
  go_enter Tryz.func80, Tryz.ntmps80
  go_wp2
  go_loopw [5] (fun iv wr => (iv = .int .i64 0 ∧ wr = w) ∨ (iv = .int .i64 1 ∧ Kp Nu w wr)) (fun iv _ => 1 - (intOf iv).toNat)
  case atStart => exact .inl ⟨rfl, rfl⟩
  case round =>
    rcases hrel with ⟨rfl, rfl⟩ | ⟨rfl, hk⟩
    · go_wp2_with fail
      go_quiet (fail)
      go_wp2
      exact ⟨.inr ⟨by go_num, kp_drewN _ _⟩, by simp [intOf]⟩
    · have HK := hide hk
      clear hk g0 g1 g2 r0 r1 r2
      go_wp2
      go_ret
      exact ⟨rfl, HK.out⟩
theorem own_three {w : World} {B n : Nat} {u a b c : Value} (h : w.ownsRow B 76 3 u n [a, b, c]) (hn : n = 1) : ∃ g cap, u = .slice (some ⟨g, 0, none⟩) 1 cap ∧ w.cell? ⟨g, 0, none⟩ = some a ∧ w.cell? ⟨g, 1, none⟩ = some b ∧ w.cell? ⟨g, 2, none⟩ = some c := by
  subst hn
  rcases h.2 with ⟨rfl, h0⟩ | ⟨g, cap, cur, rfl, hb', hg, h1, h2, h3, h4⟩
  · omega
  · refine ⟨g, cap, rfl, ?_, ?_, ?_⟩
    · exact cellAt hg 0 (by have e := congrArg (fun l => l[0]?) h4; simpa using e)
    · exact cellAt hg 1 (by have e := congrArg (fun l => l[1]?) h4; simpa using e)
    · exact cellAt hg 2 (by have e := congrArg (fun l => l[2]?) h4; simpa using e)
/-- asks, of the hints -/
theorem asks7_new {w : World} {b hb mb B rb r : Nat} {a hosts pat tries : Int} {tv : Value} (h : CB w b (Cs.new hosts pat tries hb mb)) (hT : Rg.Tb B w hb 64 tv [⟨0, 18446744073709551615, 0⟩]) (hR : Rk w rb a hosts pat tries (.slice (some ⟨r, 0, none⟩) 1 1)) (hr : w.heap[r]? = some (.cells #[.int .u64 0, .int .u64 18446744073709551615, .int .u8 0] 76 (0, 0))) :
    Calls Tryz.prog 45 #[.pointer (some ⟨b, 0, none⟩), .pointer (some ⟨rb, 0, none⟩), .int .i64 7] w fun e w' => e = .returned (.bool true) ∧ Kp Nu w w' := by
  have HI := hints_any h hT
  have HR := hide (And.intro hR hr)
  clear h hT hR hr
  go_enter Tryz.func45, Tryz.ntmps45
  go_wp2_with fail
  refine HI.mono ?_; rintro e w2 ⟨u, rfl, HU, hk⟩
  obtain ⟨g, cap, rfl, g0, g1, g2⟩ := own_three HU.out rfl
  have hr2 := box_k HR.out.2 hk
  have c5 := cellAt (HR.out.1.nu hk) 5 (v := .slice (some ⟨r, 0, none⟩) 1 1) rfl
  have SS := sameSeg_one (cap := cap) g0 g1 g2 (cellAt hr2 0 rfl) (cellAt hr2 1 rfl) (cellAt hr2 2 rfl)
  have HK := hide hk
  clear HI HU hk hr2 g0 g1 g2
  go_wp2_with fail
  refine SS.mono ?_; rintro e w3 ⟨rfl, hk3⟩
  have HK3 := hide (HK.out.andNu hk3)
  clear SS hk3
  go_wp2
  go_ret
  exact ⟨rfl, HK3.out⟩
set_option maxRecDepth 100000 in
set_option maxHeartbeats 2000000 in
/-- asks, of the outcome and the request -/
theorem asks6_new {w : World} {b hb mb rb : Nat} {a hosts pat tries : Int} {s : Value} (h : CB w b (Cs.new hosts pat tries hb mb)) (hR : Rk w rb a hosts pat tries s) :
    Calls Tryz.prog 45 #[.pointer (some ⟨b, 0, none⟩), .pointer (some ⟨rb, 0, none⟩), .int .i64 6] w fun e w' => e = .returned (.bool true) ∧ Kp Nu w w' := by
  have mixed : Tryz.prog.follows .mixedOrders = true := by kernel_rfl
  have OU := outcome_ok h rfl rfl
  have RO := fun W (k : Kp Nu w W) => refOutcome_idle (hR.nu k)
  have RQ := fun W (k : Kp Nu w W) => request_new (h.nu k)
  have SO := fun W => sameOutcome_true W 0 0 0 0 0 0 0 [] none none none none 0 0 0 0 (.inl ⟨rfl, rfl⟩) (.inl ⟨rfl, rfl⟩) (fun _ h => by cases h)
  simp only [Cs.outc, Cs.new] at OU
  simp only [List.length_nil] at SO
  have HR := hide hR
  clear h hR
  go_enter Tryz.func45, Tryz.ntmps45
  go_wp2_with fail
  refine OU.mono ?_; rintro e w1 ⟨rfl, hk1⟩
  have k2 : Kp Nu w (w1.alloc (.cells #[.int .u8 0, .int .u64 0, .int .u8 0, .slice none 0 0, .slice none 0 0, .int .u64 0, .int .u8 0, .int .i64 0, .int .i64 0] 55)) := hk1.andAlloc _
  have b1 := hide (heap_new w1 (.cells #[.int .u8 0, .int .u64 0, .int .u8 0, .slice none 0 0, .slice none 0 0, .int .u64 0, .int .u8 0, .int .i64 0, .int .i64 0] 55))
  have RO2 := RO _ k2
  have K2 := hide k2
  clear OU RO hk1 k2
  go_wp2_with (guard_target =~ wpList _ _ _ ({ dst := none, op := Op.store 55 (Operand.tmp 8) (Operand.tmp 25), type := _, pos := _, after := _, guard := _ } :: _) _ _; refine wpList_store_new 55 9 (.tmp 8) (.tmp 25) rfl rfl info55 _ _ _ rfl rfl (by simp) rfl rfl (by simp [Value.oneCell']) ?_)
  refine RO2.mono ?_; rintro e w3 ⟨rfl, hk3⟩
  have K3 := hide (K2.out.andNu hk3)
  have K34 := hide ((K2.out.andNu hk3).andAlloc (.cells #[.int .u8 0, .int .u64 0, .int .u8 0, .slice none 0 0, .slice none 0 0, .int .u64 0, .int .u8 0, .int .i64 0, .int .i64 0] 55))
  have b2 := hide (heap_new w3 (.cells #[.int .u8 0, .int .u64 0, .int .u8 0, .slice none 0 0, .slice none 0 0, .int .u64 0, .int .u8 0, .int .i64 0, .int .i64 0] 55))
  have b14 := hide (box_k b1.out (hk3.andAlloc (.cells #[.int .u8 0, .int .u64 0, .int .u8 0, .slice none 0 0, .slice none 0 0, .int .u64 0, .int .u8 0, .int .i64 0, .int .i64 0] 55)))
  have RQ4 := RQ _ K34.out
  clear RO2 RQ b1 hk3 K2
  go_wp2_with (guard_target =~ wpList _ _ _ ({ dst := none, op := Op.store 55 (Operand.tmp 9) (Operand.tmp 27), type := _, pos := _, after := _, guard := _ } :: _) _ _; refine wpList_store_new 55 9 (.tmp 9) (.tmp 27) rfl rfl info55 _ _ _ rfl rfl (by simp) rfl rfl (by simp [Value.oneCell']) ?_)
  refine RQ4.mono ?_; rintro e w5 ⟨v, o, rfl, hv, ho, hk5⟩
  have k56 : Kp Nu w5 (w5.alloc (.cells #[.int .u8 0, .int .u64 0, .int .u64 0, .slice v.a v.n v.c, .slice o.a o.n o.c, .bool false, .int .u8 0] 26)) := Kp.alloc _ _ _
  have b3 := heap_new w5 (.cells #[.int .u8 0, .int .u64 0, .int .u64 0, .slice v.a v.n v.c, .slice o.a o.n o.c, .bool false, .int .u8 0] 26)
  have b16 := box_k b14.out (hk5.andNu k56)
  have b26 := box_k b2.out (hk5.andNu k56)
  have HF := hide (And.intro (hv.nu k56) (And.intro (ho.nu k56) (And.intro b3 ((K34.out.andNu hk5).andNu k56))))
  have SO6 := SO (w5.alloc (.cells #[.int .u8 0, .int .u64 0, .int .u64 0, .slice v.a v.n v.c, .slice o.a o.n o.c, .bool false, .int .u8 0] 26))
  have B16 := hide b16
  have B26 := hide b26
  clear RQ4 SO b14 b2 hv ho hk5 k56 b3 K3 K34 b16 b26
  go_wp2_with (first | (guard_target =~ wpList _ _ _ ({ dst := none, op := Op.store 26 (Operand.tmp 10) (Operand.tmp 29), type := _, pos := _, after := _, guard := _ } :: _) _ _; refine wpList_store_new 26 7 (.tmp 10) (.tmp 29) rfl rfl info26 _ _ _ rfl rfl (by simp) rfl rfl (by simp [Value.oneCell']) ?_) | (guard_target =~ wpList _ _ _ ({ dst := _, op := Op.load 55 (Operand.tmp 8), type := _, pos := _, after := _, guard := _ } :: _) _ _; refine wpList_load_all 55 9 (.tmp 8) rfl rfl info55 _ Tryz.underlying55 rfl _ rfl B16.out rfl ?_) | (guard_target =~ wpList _ _ _ ({ dst := _, op := Op.load 55 (Operand.tmp 9), type := _, pos := _, after := _, guard := _ } :: _) _ _; refine wpList_load_all 55 9 (.tmp 9) rfl rfl info55 _ Tryz.underlying55 rfl _ rfl B26.out rfl ?_))
  refine SO6.mono ?_; rintro e w7 ⟨rfl, hk7⟩
  have HK7 := hide hk7
  clear SO6 hk7 B16 B26
  obtain ⟨hv, ho, b3, k6⟩ := HF.out
  have hvn : v.n = 0 := hv.n
  have hon : o.n = 0 := ho.n
  have hR7 := HR.out.nu (k6.andNu HK7.out)
  have b37 := box_k b3 HK7.out
  have dk : Kp Nu w7 { w7 with drawn := w7.drawn + 1 } := ⟨rfl, rfl, rfl, Nat.le_refl _, fun _ _ _ => rfl⟩
  have SR := sameRequest_true { w7 with drawn := w7.drawn + 1 } 0 0 0 0 false [] [] v.a none o.a none v.c 0 o.c 0 (by have := ((hv.nu HK7.out).nu dk).rd; simpa [Sl.val, hvn] using this) (.inl ⟨rfl, rfl⟩) (by have := ((ho.nu HK7.out).nu dk).rd; simpa [Sl.val, hon] using this) (.inl ⟨rfl, rfl⟩) (fun _ h => by cases h) (fun _ h => by cases h)
  simp only [List.length_nil] at SR
  rw [hvn, hon] at b37
  have HB := hide (And.intro b37 (And.intro hR7 (k6.andNu HK7.out)))
  have rbn := hR7
  clear hv ho b3 k6 hvn hon hR7 b37 HF
  go_wp2_with fail
  refine wp_region_still_tail 5 mixed (by kernel_rfl) ?_
  simp only [List.take_succ_cons, List.take_zero, List.drop_succ_cons, List.drop_zero]
  refine wpStill_load 26 7 (.tmp 10) rfl rfl info26 _ Tryz.underlying26 rfl w5.heap.size 0 rfl [.int .u8 0, .int .u64 0, .int .u64 0, .slice v.a 0 v.c, .slice o.a 0 o.c, .bool false, .int .u8 0] (range_drawn (range_of HB.out.1)) rfl ?_
  still_step
  still_step
  still_step
  refine wpStill_load 26 7 (.tmp 36) rfl rfl info26 _ Tryz.underlying26 rfl rb 8 rfl [.int .u8 0, .int .u64 0, .int .u64 0, .slice none 0 0, .slice none 0 0, .bool false, .int .u8 0] (range_drawn HB.out.2.1.req) rfl ?_
  refine wpStill_nil ?_
  clear rbn
  go_wp2_with fail
  refine SR.mono ?_; rintro e w8 ⟨rfl, hk8⟩
  have HK8 := hide ((HB.out.2.2.andNu dk).andNu hk8)
  clear SR hk8 dk
  go_wp2
  go_ret
  exact ⟨rfl, HK8.out⟩
end Go.Proofs.YtmlnglillgplfaaGreat.Cl
