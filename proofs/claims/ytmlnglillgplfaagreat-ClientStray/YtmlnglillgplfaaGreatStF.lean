import Derived.Test.YtmlnglillgplfaaGreatStE
import Derived.Test.YtmlnglillgplfaaGreatStM
import Derived.Test.YtmlnglillgplfaaGreatOpD
import Derived.Test.YtmlnglillgplfaaGreatNwC
namespace Go.Proofs.YtmlnglillgplfaaGreat.Cl
open Go.RowKit Go.Maps
set_option linter.unusedVariables false
theorem out1_oneS (k key hi : Int) (v o : Sl) (has : Bool) (lim : Int) : (out1 k key hi v o has lim).all (·.oneCell') = true := by
  simp [out1, Sl.val, Value.oneCell']
theorem Rd.cellS {w : World} {u : Value} {ys : List Int} (h : Rd w u ys) {i : Nat} {x : Int} (hx : ys[i]? = some x) : ∃ a cap, u = .slice (some a) ys.length cap ∧ w.cell? (a.add i) = some (.int .u8 x) := by
  rcases h with ⟨rfl, rfl⟩ | ⟨a, cap, rfl, hc⟩
  · simp at hx
  · exact ⟨a, cap, rfl, hc i _ (by simp [cs, hx])⟩
theorem Mg.one (m : Mg) : m.cells.all (·.oneCell') = true := by
  simp [Mg.cells, Sl.val, Value.oneCell']
theorem Cl.btT {w w' : World} {b nb z : Nat} {s : Cs} {D : DataW Unit} {V O : List Int} {c : Array Value} {t : TypeId} (h : Cl w b s nb D V O) (k : Kp (fun i => i = z) w w') (hz : w.heap[z]? = some (.cells c t (0, 0))) (t5 : t ≠ 5) (h1 : b ≠ z) (h2 : s.mb ≠ z) : Cl w' b s nb D V O := by
  have nb5 : ∀ i, i = z → ∀ c, w.heap[i]? ≠ some (.cells c 5 (0, 0)) := fun i hi c hx => by
    rw [hi, hz] at hx
    simp only [Option.some.injEq, Obj.cells.injEq] at hx
    exact t5 hx.2.1
  exact ⟨h.cb.kp k h1, h.am.keep (k.block _ h.am.lt h2), h.v.kp k nb5, h.o.kp k nb5, h.lv, h.lo⟩
/-- the client that was given up -/
def Cs.gv (hosts : Int) (hb mb : Nat) (k key hi : Int) (v o : Sl) (has : Bool) (lim : Int) : Cs := { Cs.run hosts 5 5 hb mb k key hi v o has lim with ph := 3 }
/-- the client whose second request is under way -/
def Cs.sn (hosts : Int) (hb mb : Nat) (k key hi : Int) (v o : Sl) (has : Bool) (lim : Int) : Cs := ⟨hosts, 5, 5, hb, k, key, hi, v, o, has, lim, 1, 2, 0, Sl.nil, Sl.nil, 0, 0, 1, 0, mb, 0, 0⟩
/-- what was sent then -/
def out2 (k key hi : Int) (v o : Sl) (has : Bool) (lim : Int) : Array Value := #[.int .u8 0, .int .u8 k, .int .u64 2, .int .u64 key, .int .u64 hi, v.val, o.val, .bool has, .int .u8 0, .int .u8 0, .int .u8 0, .int .u32 0, .int .u32 0, .int .u64 0, .int .u8 lim, .slice none 0 0, .slice none 0 0, .slice none 0 0]
theorem out2_one (k key hi : Int) (v o : Sl) (has : Bool) (lim : Int) : (out2 k key hi v o has lim).all (·.oneCell') = true := by
  simp [out2, Sl.val, Value.oneCell']
/-- what stands behind the second Begin -/
structure Sy (w w8 : World) (hosts : Int) (b hb mb bF bO : Nat) (k key hi : Int) (v o v2 o2 v0 o0 : Sl) (has : Bool) (lim : Int) (V O : List Int) : Prop where
  cl : ∃ D, Cl w8 b (Cs.sn hosts hb mb k key hi v o has lim) 1 D V O
  tb : ∃ B tv, Rg.Tb B w8 hb 64 tv [⟨0, 18446744073709551615, 0⟩]
  bx : w8.heap[w.heap.size]? = some (.cells #[.int .u8 k, .int .u64 key, .int .u64 hi, .slice v0.a v0.n v0.c, .slice o0.a o0.n o0.c, .bool has, .int .u8 lim] 26 (0, 0))
  fo : w8.heap[bF]? = some (.cells (out2 k key hi v2 o2 has lim) 38 (0, 0))
  ob : w8.heap[bO]? = some (.cells #[.int .u8 1, .int .u64 2, .int .u8 0, .slice none 0 0, .slice none 0 0, .int .u64 0, .int .u8 0, .int .i64 1, .int .i64 0] 55 (0, 0))
  kp : Kp Nu w w8
  lb : w.heap.size ≤ b
theorem Sy.nu {w w8 w9 : World} {hosts : Int} {b hb mb bF bO : Nat} {k key hi : Int} {v o v2 o2 v0 o0 : Sl} {has : Bool} {lim : Int} {V O : List Int} (h : Sy w w8 hosts b hb mb bF bO k key hi v o v2 o2 v0 o0 has lim V O) (q : Kp Nu w8 w9) : Sy w w9 hosts b hb mb bF bO k key hi v o v2 o2 v0 o0 has lim V O := by
  obtain ⟨D, hc⟩ := h.cl
  obtain ⟨B, tv, hT⟩ := h.tb
  exact ⟨⟨D, hc.nu q⟩, ⟨B, tv, hT.nu (kpR' q)⟩, box_k h.bx q, box_k h.fo q, box_k h.ob q, h.kp.andNu q, h.lb⟩
/-- the second request -/
theorem again_ok {w : World} {b hb mb nb B : Nat} {D : DataW Unit} {V0 O0 : List Int} {tv : Value} {hosts k key hi lim : Int} {v0 o0 v o : Sl} {has : Bool} {V O : List Int} (hc : Cl w b (Cs.gv hosts hb mb k key hi v0 o0 has lim) nb D V0 O0) (hT : Rg.Tb B w hb 64 tv [⟨0, 18446744073709551615, 0⟩]) (hv : Ct w v V) (ho : Ct w o O) (hB : RqB k key hi lim) (hR : RqOk k key hi v o has lim) :
    Calls Tryz.prog 19 #[.pointer (some ⟨b, 0, none⟩), .agg #[.int .u8 k, .int .u64 key, .int .u64 hi, v.val, o.val, .bool has, .int .u8 lim]] w fun e w' => ∃ g v' o' v2 o2, e = .returned (.tuple #[.slice (some ⟨g, 0, none⟩) 1 1, .int .i64 0]) ∧ w'.heap[g]? = some (.cells (out2 k key hi v2 o2 has lim) 38 (0, 0)) ∧ Hid (w.heap.size ≤ g ∧ (∃ D, Cl w' b (Cs.sn hosts hb mb k key hi v' o' has lim) 1 D V O) ∧ Rg.Tb B w' hb 64 tv [⟨0, 18446744073709551615, 0⟩] ∧ Kp (fun i => i = b ∨ i = mb) w w') := by
  have h := begin_ok (s := Cs.gv hosts hb mb k key hi v0 o0 has lim) hc.cb hc.am (by show ¬ (3 : Int) = 1; omega) hT k key hi lim v o has V O hv ho hB hR (by show (0 : Int) ≤ 1; omega) (by show (1 : Int) + 1 < _; omega) (by rw [ow_one key hB.key.1 hB.key.2]; omega) (by rw [ow_one key hB.key.1 hB.key.2]; omega)
  rw [ow_one key hB.key.1 hB.key.2] at h
  refine h.mono ?_
  rintro e w' ⟨g, v', o', rfl, hsn, hgl, hcl, hk⟩
  obtain ⟨g', v2, o2, eg, hg, _, _⟩ := hsn.out
  simp only [Value.slice.injEq, Option.some.injEq, Addr.mk.injEq, and_true] at eg
  obtain rfl := eg
  exact ⟨g, v', o', v2, o2, rfl, hg, hide ⟨hgl, ⟨_, hcl⟩, tb_cl hT hc.cb hc.am hk, hk⟩⟩
set_option maxRecDepth 100000 in
set_option maxHeartbeats 8000000 in
theorem stray_walk (w : World) (hosts : Int) (k key hi lim : Int) (v o : Sl) (has : Bool) (V O : List Int) (hv : Ct w v V) (ho : Ct w o O) (hB : RqB k key hi lim) (fa : Option Addr) (fc : Nat) (fs : List Int) (hfs : Rd w (.slice fa fs.length fc) fs) (bfs : Byt fs) (hfl : fs.length ≤ 140737488351232) (ma : Option Addr) (mc : Nat) (ms : List Mg) (hms : Ms w (.slice ma ms.length mc) ms) (hmo : ∀ m ∈ ms, m.Ok) (hml : ms.length ≤ 140737488351232) (st : Int) (t0 : 0 ≤ st) (t1 : st < 256) :
    Calls Tryz.prog 7 #[.int .i64 hosts, .agg #[.int .u8 k, .int .u64 key, .int .u64 hi, v.val, o.val, .bool has, .int .u8 lim], .slice fa fs.length fc, .slice ma ms.length mc, .int .u8 st] w fun e w' => e = .returned (.bool true) ∧ Kp Nu w w' := by
  have mixed : Tryz.prog.follows .mixedOrders = true := by kernel_rfl
  have LI := fun W => limits_any W hosts 5 5
  have MB := fun W (kp : Kp Nu w W) => mayBe_any W k key hi lim v o has V O hB (hv.nu kp) (ho.nu kp)
  have BG := fun W (kp : Kp Nu w W) (L : Lim hosts 5 5) (hR : RqOk k key hi v o has lim) => begun_tb W hosts 5 5 L.h0 L.h1 L.p0 L.p1 L.t0 L.t1 k key hi lim v o has V O (hv.nu kp) (ho.nu kp) hB hR
  have AG := fun (W : World) (kp : Kp Nu w W) (hR : RqOk k key hi v o has lim) b hb mb nb B D tv v0 o0 hc hT => again_ok (w := W) (b := b) (hb := hb) (mb := mb) (nb := nb) (B := B) (D := D) (V0 := V) (O0 := O) (tv := tv) (hosts := hosts) (v0 := v0) (o0 := o0) (V := V) (O := O) hc hT (hv.nu kp) (ho.nu kp) hB hR
  have NM := fun W n => num_any W n
  have HRQ := hide hB
  have HLS := hide (And.intro hfs (And.intro bfs (And.intro hms hmo)))
  have HST := hide (And.intro t0 t1)
  have hfl' : (fs.length : Int) ≤ 140737488351232 := by omega
  have hml' : (ms.length : Int) ≤ 140737488351232 := by omega
  clear hv ho hB hfs bfs hfl hms hmo hml t0 t1
  unfold Sl.val at MB BG AG ⊢
  go_enter Tryz.func7, Tryz.ntmps7
  go_wp2_with fail
  refine (LI _).mono ?_; rintro e w' ⟨⟨bo, rfl, hL⟩, hw⟩
  obtain rfl := hw.symm
  have HL := hide hL
  clear LI hw hL
  go_wp2_with (guard_target =~ wpList _ _ _ ({ dst := _, op := Op.load 26 (Operand.tmp 6), type := _, pos := _, after := _, guard := _ } :: _) _ _; refine wpList_load_all 26 7 (.tmp 6) rfl rfl info26 _ Tryz.underlying26 rfl _ rfl (heap_new w _) rfl ?_)
  refine (MB _ (Kp.alloc _ _ _)).mono ?_; rintro e w1 ⟨⟨bm, rfl, hR⟩, hk1⟩
  have HR := hide hR
  have HA1 := hide (new_at w _ hk1)
  have HK1 := hide ((Kp.alloc w _ Nu).andNu hk1)
  clear MB hR hk1
  cases bo with
  | false =>
    go_wp2
    go_ret
    exact ⟨rfl, HK1.out⟩
  | true =>
  cases bm with
  | false =>
    go_wp2
    go_ret
    exact ⟨rfl, HK1.out⟩
  | true =>
  have L := HL.out rfl
  have BG1 := BG w1 HK1.out L (HR.out rfl)
  have HRR := hide (HR.out rfl)
  have HLL := hide L
  clear BG L HL HR
  go_wp2_with (guard_target =~ wpList _ _ _ ({ dst := _, op := Op.load 26 (Operand.tmp 6), type := _, pos := _, after := _, guard := _ } :: _) _ _; refine wpList_load_all 26 7 (.tmp 6) rfl rfl info26 _ Tryz.underlying26 rfl _ rfl HA1.out rfl ?_)
  refine BG1.mono ?_; rintro e w2 ⟨b, hb, mb, v', o', v1, o1, rfl, hcl, hv1, ho1, hbl, hml2, ⟨tv, hT2⟩, hk2⟩
  have hlo := hT2.low
  have h1s := blk_lt HA1.out
  obtain ⟨w3, e3⟩ : ∃ w3, w2.alloc (.cells (out1 k key hi v1 o1 has lim) 38) = w3 := ⟨_, rfl⟩
  have k23 : Kp Nu w2 w3 := by rw [← e3]; exact Kp.alloc _ _ _
  have hf3 : w3.heap[w2.heap.size]? = some (.cells (out1 k key hi v1 o1 has lim) 38 (0, 0)) := by rw [← e3]; exact heap_new w2 _
  have GU := giveUp_wait (hcl.nu k23) rfl
  have HF3 := hide (And.intro (hT2.nu (kpR' k23)) (And.intro hf3 (And.intro (box_k HA1.out (hk2.andNu k23)) (And.intro ((HK1.out.andNu hk2).andNu k23) (hcl.nu k23)))))
  have HBL := hide (And.intro hbl (And.intro hml2 (And.intro hlo (And.intro h1s (And.intro hcl.cb.lt (And.intro (show mb < w2.heap.size from hcl.am.lt) (blk_lt hT2.blk)))))))
  clear BG1 hcl hv1 ho1 hbl hml2 hT2 hk2 HA1 HK1 hlo h1s k23 hf3
  go_wp2_with (guard_target =~ wpList _ _ _ ({ dst := none, op := Op.store 38 (Operand.tmp 14) (Operand.tmp 47), type := _, pos := _, after := _, guard := _ } :: _) _ _; refine wpList_store_new 38 18 (.tmp 14) (.tmp 47) rfl rfl info38 _ _ _ rfl rfl (by simp) rfl rfl (out1_oneS _ _ _ _ _ _ _) ?_)
  refine GU.mono ?_; rintro e w4 ⟨rfl, hc4, hk4⟩
  obtain ⟨hT3, hf3, ha3, kw3, hc3⟩ := HF3.out
  obtain ⟨hbl, hml2, hlo, h1s, hbt, hmt, hht⟩ := HBL.out
  have hs3 := blk_lt hf3
  have hT4 := tb_cl hT3 hc3.cb hc3.am (hk4.mono (fun _ _ e => .inl e))
  have ha4 := (hk4.block _ (blk_lt ha3) (fun e => by have e' : w.heap.size = b := e; omega)).trans ha3
  have hf4 := (hk4.block _ hs3 (fun e => by have e' : w2.heap.size = b := e; omega)).trans hf3
  have kw4 : Kp Nu w w4 := kw3.trans hk4 (fun q hq e => by have e' : q = b := e; omega)
  have AG4 := AG w4 kw4 HRR.out b hb mb _ _ _ tv v' o' hc4 hT4
  have HF4 := hide (And.intro ha4 (And.intro hf4 kw4))
  clear AG GU hc4 hk4 hT3 hf3 ha3 kw3 hc3 hT4 ha4 hf4 kw4 hs3 hbl hml2 hlo h1s hbt hmt hht HF3
  go_wp2_with (guard_target =~ wpList _ _ _ ({ dst := _, op := Op.load 26 (Operand.tmp 6), type := _, pos := _, after := _, guard := _ } :: _) _ _; refine wpList_load_all 26 7 (.tmp 6) rfl rfl info26 _ Tryz.underlying26 rfl _ rfl HF4.out.1 rfl ?_)
  refine AG4.mono ?_; rintro e w5 ⟨g, v3, o3, v2, o2, rfl, hg, HG⟩
  have g2 := cellAt hg 2 (v := .int .u64 2) rfl
  obtain ⟨ha4, hf4, kw4⟩ := HF4.out
  obtain ⟨hbl, hml2, hlo, h1s, hbt, hmt, hht⟩ := HBL.out
  obtain ⟨hgl, hc5, hT5, hk5⟩ := HG.out
  have ha5 := (hk5.block _ (blk_lt ha4) (fun e => Or.elim e (fun e => by have e' : w.heap.size = b := e; omega) (fun e => by have e' : w.heap.size = mb := e; omega))).trans ha4
  have hf5 := (hk5.block _ (blk_lt hf4) (fun e => Or.elim e (fun e => by have e' : w2.heap.size = b := e; omega) (fun e => by have e' : w2.heap.size = mb := e; omega))).trans hf4
  have kw5 : Kp Nu w w5 := kw4.trans hk5 (fun q hq e => Or.elim e (fun e => by have e' : q = b := e; omega) (fun e => by have e' : q = mb := e; omega))
  have HF5 := hide (And.intro ha5 (And.intro hf5 (And.intro kw5 (And.intro hc5 hT5))))
  have HGG := hide hg
  clear AG4 hg HG HF4 ha4 hf4 kw4 hgl hc5 hT5 hk5 ha5 hf5 kw5 hbl hml2 hlo h1s hbt hmt hht
  go_wp2_with fail
  refine (NM _ 0).mono ?_; rintro e w' ⟨rfl, hw⟩
  obtain rfl := hw.symm
  clear hw
  go_wp2_with fail
  refine (NM _ 0).mono ?_; rintro e w' ⟨rfl, hw⟩
  obtain rfl := hw.symm
  clear hw
  go_wp2_with (first | (guard_target =~ wpList _ _ _ ({ dst := _, op := Op.load 38 (Operand.tmp 81), type := _, pos := _, after := _, guard := _ } :: _) _ _; refine wpList_load_all 38 18 (.tmp 81) rfl rfl info38 _ Tryz.underlying38 rfl _ rfl HGG.out rfl ?_) | (guard_target =~ wpList _ _ _ ({ dst := none, op := Op.store 38 (Operand.tmp 14) (Operand.tmp 82), type := _, pos := _, after := _, guard := _ } :: _) _ _; refine wpList_store_all 38 18 (.tmp 14) (.tmp 82) rfl rfl info38 w2.heap.size _ rfl rfl HF5.out.2.1 rfl rfl (out2_one _ _ _ _ _ _ _) ?_; intro w6 hW6 kW6 sW6))
  obtain ⟨ha5, hf5, kw5, ⟨D5, hc5⟩, hT5⟩ := HF5.out
  obtain ⟨hbl, hml2, hlo, h1s, hbt, hmt, hht⟩ := HBL.out
  have hc6 := hc5.btT (z := w2.heap.size) kW6 hf5 (by decide) (by omega) (by show mb ≠ w2.heap.size; omega)
  have hT6 := tb_kp hT5 kW6 (tb_ne hT5 hf5 (by decide)) (fun q hq c hx => by have hq' : q = w2.heap.size := hq; rw [hq', hf5] at hx; simp at hx)
  have ha6 := (kW6.block _ (blk_lt ha5) (fun e => by have e' : w.heap.size = w2.heap.size := e; omega)).trans ha5
  have kw6 : Kp Nu w w6 := kw5.trans kW6 (fun q hq e => by have e' : q = w2.heap.size := e; omega)
  have OU := outcome_ok hc6.cb rfl rfl
  simp only [Cs.outc, Cs.sn] at OU
  have HF6 := hide (And.intro hc6 (And.intro hT6 (And.intro ha6 (And.intro kw6 (And.intro hW6 hbl)))))
  clear HF5 HGG ha5 hf5 kw5 hc5 hT5 hbl hml2 hlo h1s hbt hmt hht hc6 hT6 ha6 kw6 hW6 kW6 sW6 g2
  refine OU.mono ?_; rintro e w7 ⟨rfl, hk7⟩
  obtain ⟨hc6, hT6, ha6, kw6, hW6, hbl⟩ := HF6.out
  have k8 : Kp Nu w6 (w7.alloc (.cells #[.int .u8 1, .int .u64 2, .int .u8 0, .slice none 0 0, .slice none 0 0, .int .u64 0, .int .u8 0, .int .i64 1, .int .i64 0] 55)) := hk7.andAlloc _
  have h1s := HBL.out.2.2.2.1
  have S8 : Sy w (w7.alloc (.cells #[.int .u8 1, .int .u64 2, .int .u8 0, .slice none 0 0, .slice none 0 0, .int .u64 0, .int .u8 0, .int .i64 1, .int .i64 0] 55)) hosts b hb mb w2.heap.size w7.heap.size k key hi v3 o3 v2 o2 v o has lim V O := ⟨⟨D5, hc6.nu k8⟩, ⟨_, tv, hT6.nu (kpR' k8)⟩, box_k ha6 k8, box_k hW6 k8, heap_new w7 _, kw6.andNu k8, by omega⟩
  have HS8 := hide S8
  clear OU HF6 hc6 hT6 ha6 kw6 hW6 hbl k8 h1s S8 hk7 HBL
  go_wp2_with (guard_target =~ wpList _ _ _ ({ dst := none, op := Op.store 55 (Operand.tmp 19) (Operand.tmp 84), type := _, pos := _, after := _, guard := _ } :: _) _ _; refine wpList_store_new 55 9 (.tmp 19) (.tmp 84) rfl rfl info55 _ _ _ rfl rfl (by simp) rfl rfl (by simp [Value.oneCell']) ?_)
  obtain ⟨w8, e8⟩ : ∃ w8, w7.alloc (.cells #[.int .u8 1, .int .u64 2, .int .u8 0, .slice none 0 0, .slice none 0 0, .int .u64 0, .int .u8 0, .int .i64 1, .int .i64 0] 55) = w8 := ⟨_, rfl⟩
  rw [e8] at HS8 ⊢
  clear e8
  obtain ⟨hh0, hh1, _, _, _, _⟩ := HLL.out
  generalize w2.heap.size = bF at *
  generalize w7.heap.size = bO at *
  go_loopw [20] (fun iv wr => ∃ i : Nat, iv = .int .i64 (i : Int) ∧ i ≤ ms.length ∧ Hid (Kp Nu w8 wr)) (fun iv _ => ms.length - (intOf iv).toNat)
  case atStart => exact ⟨0, rfl, Nat.zero_le _, hide (Kp.refl _ _)⟩
  case round =>
    obtain ⟨i, rfl, hi1, hI⟩ := hrel
    have hi0 : (0 : Int) ≤ (i : Int) := by omega
    have Sr := HS8.out.nu hI.out
    by_cases hlt : i < ms.length ∧ i < fs.length
    · obtain ⟨hlm, hlf⟩ := hlt
      have hlmI : (i : Int) < (ms.length : Int) := by omega
      have hlfI : (i : Int) < (fs.length : Int) := by omega
      obtain ⟨m, hm⟩ : ∃ m, ms[i]? = some m := ⟨_, List.getElem?_eq_getElem hlm⟩
      obtain ⟨x, hx⟩ : ∃ x, fs[i]? = some x := ⟨_, List.getElem?_eq_getElem hlf⟩
      obtain ⟨fa', fc', ef, hcell⟩ := Rd.cellS (HLS.out.1.nu Sr.kp) hx
      simp only [Value.slice.injEq] at ef
      obtain ⟨rfl, _, rfl⟩ := ef
      have hxb := HLS.out.2.1 x (List.mem_of_getElem? hx)
      have hmk := HLS.out.2.2.2 m (List.mem_of_getElem? hm)
      rcases (HLS.out.2.2.1.nu Sr.kp) with ⟨_, e0⟩ | ⟨bm, off, cap, em, hrg⟩
      · rw [e0] at hlm; simp at hlm
      simp only [Value.slice.injEq] at em
      obtain ⟨rfl, _, rfl⟩ := em
      have RNG := hrg i m hm
      clear hrg hm hx
      obtain ⟨mk, mseq, mkey, mhi, ⟨mva, mvn, mvc⟩, ⟨moa, mon, moc⟩, mhas, mof, mst, mhost, mgr, mbo, mma, mli, ⟨mpa, mpn, mpc⟩, ⟨msa, msn, msc⟩, ⟨mya, myn, myc⟩⟩ := m
      have hk0 : 0 ≤ mk ∧ mk < 256 := hmk.k
      have hs0 : 0 ≤ mseq ∧ mseq < 18446744073709551616 := hmk.seq
      simp only [Mg.cells, Sl.val] at RNG
      have ex : IntKind.i64.wrap x = x := by
        have := hxb.1; have := hxb.2
        simp only [IntKind.wrap, IntKind.signed, IntKind.bits]
        first | omega | (simp; omega)
      have ek : IntKind.i64.wrap mk = mk := by
        simp only [IntKind.wrap, IntKind.signed, IntKind.bits]
        first | omega | (simp; omega)
      clear hmk
      by_cases hout : x ≥ hosts
      · have hod : decide (x ≥ hosts) = true := by simpa using hout
        by_cases n6 : mk = 6
        · subst n6
          have ka : Kp Nu wr (wr.alloc (.cells #[.int .u8 6, .int .u64 mseq, .int .u64 mkey, .int .u64 mhi, .slice mva mvn mvc, .slice moa mon moc, .bool mhas, .int .u8 mof, .int .u8 mst, .int .u8 mhost, .int .u32 mgr, .int .u32 mbo, .int .u64 mma, .int .u8 mli, .slice mpa mpn mpc, .slice msa msn msc, .slice mya myn myc] 36)) := Kp.alloc _ _ _
          have y2 := cellAt (box_k Sr.fo ka) 2 (v := .int .u64 2) rfl
          have hca := (World.cell?_of_block (ka.block _ (World.block_lt_of_cell? wr _ hcell) (fun h => h))).trans hcell
          have c0 := cellAt (heap_new wr (.cells #[.int .u8 6, .int .u64 mseq, .int .u64 mkey, .int .u64 mhi, .slice mva mvn mvc, .slice moa mon moc, .bool mhas, .int .u8 mof, .int .u8 mst, .int .u8 mhost, .int .u32 mgr, .int .u32 mbo, .int .u64 mma, .int .u8 mli, .slice mpa mpn mpc, .slice msa msn msc, .slice mya myn myc] 36)) 0 (v := .int .u8 6) rfl
          have c1 := cellAt (heap_new wr (.cells #[.int .u8 6, .int .u64 mseq, .int .u64 mkey, .int .u64 mhi, .slice mva mvn mvc, .slice moa mon moc, .bool mhas, .int .u8 mof, .int .u8 mst, .int .u8 mhost, .int .u32 mgr, .int .u32 mbo, .int .u64 mma, .int .u8 mli, .slice mpa mpn mpc, .slice msa msn msc, .slice mya myn myc] 36)) 1 (v := .int .u64 mseq) rfl
          have kb : Kp Nu wr (wr.alloc (.cells #[.int .u8 6, .int .u64 mseq, .int .u64 mkey, .int .u64 mhi, .slice mva mvn mvc, .slice moa mon moc, .bool mhas, .int .u8 mof, .int .u8 mst, .int .u8 mhost, .int .u32 mgr, .int .u32 mbo, .int .u64 mma, .int .u8 mli, .slice mpa mpn mpc, .slice msa msn msc, .slice mya myn myc] 36)) := Kp.alloc _ _ _
          have hcb := (World.cell?_of_block (kb.block _ (World.block_lt_of_cell? wr _ hcell) (fun h => h))).trans hcell
          have dk : Kp Nu (wr.alloc (.cells #[.int .u8 6, .int .u64 mseq, .int .u64 mkey, .int .u64 mhi, .slice mva mvn mvc, .slice moa mon moc, .bool mhas, .int .u8 mof, .int .u8 mst, .int .u8 mhost, .int .u32 mgr, .int .u32 mbo, .int .u64 mma, .int .u8 mli, .slice mpa mpn mpc, .slice msa msn msc, .slice mya myn myc] 36)) (wr.alloc (.cells #[.int .u8 6, .int .u64 mseq, .int .u64 mkey, .int .u64 mhi, .slice mva mvn mvc, .slice moa mon moc, .bool mhas, .int .u8 mof, .int .u8 mst, .int .u8 mhost, .int .u32 mgr, .int .u32 mbo, .int .u64 mma, .int .u8 mli, .slice mpa mpn mpc, .slice msa msn msc, .slice mya myn myc] 36)).drew := (Kp.refl Nu _).drew
          have TS : ∀ W, Kp Nu wr W → Calls Tryz.prog 20 #[.pointer (some ⟨b, 0, none⟩), .int .u8 x, .agg #[.int .u8 6, .int .u64 mseq, .int .u64 mkey, .int .u64 mhi, .slice mva mvn mvc, .slice moa mon moc, .bool mhas, .int .u8 mof, .int .u8 mst, .int .u8 mhost, .int .u32 mgr, .int .u32 mbo, .int .u64 mma, .int .u8 mli, .slice mpa mpn mpc, .slice msa msn msc, .slice mya myn myc]] W fun e w' => e = .returned (.tuple #[.slice none 0 0, .int .i64 123]) ∧ Kp Nu W w' := fun W kW => by obtain ⟨D, hc⟩ := Sr.cl; exact take_stray (hc.cb.nu kW) (⟨6, mseq, mkey, mhi, ⟨mva, mvn, mvc⟩, ⟨moa, mon, moc⟩, mhas, mof, mst, mhost, mgr, mbo, mma, mli, ⟨mpa, mpn, mpc⟩, ⟨msa, msn, msc⟩, ⟨mya, myn, myc⟩⟩ : Mg) x hxb.1 (by have := hxb.2; omega) (by show (0 : Int) ≤ 6; omega) (by show (6 : Int) < 256; omega) (.inr (.inr (.inl (by show ¬ x < hosts; omega))))
          have hcd : (wr.alloc (.cells #[.int .u8 6, .int .u64 mseq, .int .u64 mkey, .int .u64 mhi, .slice mva mvn mvc, .slice moa mon moc, .bool mhas, .int .u8 mof, .int .u8 mst, .int .u8 mhost, .int .u32 mgr, .int .u32 mbo, .int .u64 mma, .int .u8 mli, .slice mpa mpn mpc, .slice msa msn msc, .slice mya myn myc] 36)).drew.cell? (fa'.add i) = some (.int .u8 x) := hcb
          have HI := hide (And.intro hI.out (And.intro kb dk))
          have TS9 := TS _ (kb.andNu dk)
          clear TS Sr ka kb dk hI
          go_wp2_with (first | (guard_target =~ wpList _ _ _ ({ dst := _, op := Op.load 36 (Operand.tmp 99), type := _, pos := _, after := _, guard := _ } :: _) _ _; refine wpList_load_mid rfl 36 (.tmp 99) rfl bm (off + i * 17) rfl _ _ RNG Tryz.underlying36 rfl info36 ?_) | (guard_target =~ wpList _ _ _ ({ dst := none, op := Op.store 36 (Operand.tmp 21) (Operand.tmp 100), type := _, pos := _, after := _, guard := _ } :: _) _ _; refine wpList_store_new 36 17 (.tmp 21) (.tmp 100) rfl rfl info36 _ _ _ rfl rfl (by simp) rfl rfl (by simp [Value.oneCell']) ?_))
          refine str22 (fun _ _ _ _ _ h => h) mixed b wr.heap.size fa' _ _ i x [.int .u8 6, .int .u64 mseq, .int .u64 mkey, .int .u64 mhi, .slice mva mvn mvc, .slice moa mon moc, .bool mhas, .int .u8 mof, .int .u8 mst, .int .u8 mhost, .int .u32 mgr, .int .u32 mbo, .int .u64 mma, .int .u8 mli, .slice mpa mpn mpc, .slice msa msn msc, .slice mya myn myc] (.slice none 0 0) (.int .i64 123) _ rfl rfl rfl rfl rfl hlf hfl' rfl hcd (range_of (heap_new wr (.cells #[.int .u8 6, .int .u64 mseq, .int .u64 mkey, .int .u64 mhi, .slice mva mvn mvc, .slice moa mon moc, .bool mhas, .int .u8 mof, .int .u8 mst, .int .u8 mhost, .int .u32 mgr, .int .u32 mbo, .int .u64 mma, .int .u8 mli, .slice mpa mpn mpc, .slice msa msn msc, .slice mya myn myc] 36))) TS9 ?_
          intro w9 hk9
          have K9 := hide (((HI.out.1.andNu HI.out.2.1).andNu HI.out.2.2).andNu hk9)
          clear TS9 hk9 HI
          go_frame
          go_wp2_with fail
          refine (NM _ 123).mono ?_; rintro e w' ⟨rfl, hw⟩
          obtain rfl := hw.symm
          clear hw
          go_wp2
          exact ⟨⟨i + 1, by go_num, by omega, K9⟩, by simp [intOf]; omega⟩
        · by_cases n7 : mk = 7
          · subst n7
            have ka : Kp Nu wr (wr.alloc (.cells #[.int .u8 7, .int .u64 mseq, .int .u64 mkey, .int .u64 mhi, .slice mva mvn mvc, .slice moa mon moc, .bool mhas, .int .u8 mof, .int .u8 mst, .int .u8 mhost, .int .u32 mgr, .int .u32 mbo, .int .u64 mma, .int .u8 mli, .slice mpa mpn mpc, .slice msa msn msc, .slice mya myn myc] 36)) := Kp.alloc _ _ _
            have y2 := cellAt (box_k Sr.fo ka) 2 (v := .int .u64 2) rfl
            have hca := (World.cell?_of_block (ka.block _ (World.block_lt_of_cell? wr _ hcell) (fun h => h))).trans hcell
            have c0 := cellAt (heap_new wr (.cells #[.int .u8 7, .int .u64 mseq, .int .u64 mkey, .int .u64 mhi, .slice mva mvn mvc, .slice moa mon moc, .bool mhas, .int .u8 mof, .int .u8 mst, .int .u8 mhost, .int .u32 mgr, .int .u32 mbo, .int .u64 mma, .int .u8 mli, .slice mpa mpn mpc, .slice msa msn msc, .slice mya myn myc] 36)) 0 (v := .int .u8 7) rfl
            have c1 := cellAt (heap_new wr (.cells #[.int .u8 7, .int .u64 mseq, .int .u64 mkey, .int .u64 mhi, .slice mva mvn mvc, .slice moa mon moc, .bool mhas, .int .u8 mof, .int .u8 mst, .int .u8 mhost, .int .u32 mgr, .int .u32 mbo, .int .u64 mma, .int .u8 mli, .slice mpa mpn mpc, .slice msa msn msc, .slice mya myn myc] 36)) 1 (v := .int .u64 mseq) rfl
            have kb : Kp Nu wr (wr.alloc (.cells #[.int .u8 7, .int .u64 mseq, .int .u64 mkey, .int .u64 mhi, .slice mva mvn mvc, .slice moa mon moc, .bool mhas, .int .u8 mof, .int .u8 mst, .int .u8 mhost, .int .u32 mgr, .int .u32 mbo, .int .u64 mma, .int .u8 mli, .slice mpa mpn mpc, .slice msa msn msc, .slice mya myn myc] 36)) := Kp.alloc _ _ _
            have hcb := (World.cell?_of_block (kb.block _ (World.block_lt_of_cell? wr _ hcell) (fun h => h))).trans hcell
            have dk : Kp Nu (wr.alloc (.cells #[.int .u8 7, .int .u64 mseq, .int .u64 mkey, .int .u64 mhi, .slice mva mvn mvc, .slice moa mon moc, .bool mhas, .int .u8 mof, .int .u8 mst, .int .u8 mhost, .int .u32 mgr, .int .u32 mbo, .int .u64 mma, .int .u8 mli, .slice mpa mpn mpc, .slice msa msn msc, .slice mya myn myc] 36)) (wr.alloc (.cells #[.int .u8 7, .int .u64 mseq, .int .u64 mkey, .int .u64 mhi, .slice mva mvn mvc, .slice moa mon moc, .bool mhas, .int .u8 mof, .int .u8 mst, .int .u8 mhost, .int .u32 mgr, .int .u32 mbo, .int .u64 mma, .int .u8 mli, .slice mpa mpn mpc, .slice msa msn msc, .slice mya myn myc] 36)).drew := (Kp.refl Nu _).drew
            have TS : ∀ W, Kp Nu wr W → Calls Tryz.prog 20 #[.pointer (some ⟨b, 0, none⟩), .int .u8 x, .agg #[.int .u8 7, .int .u64 mseq, .int .u64 mkey, .int .u64 mhi, .slice mva mvn mvc, .slice moa mon moc, .bool mhas, .int .u8 mof, .int .u8 mst, .int .u8 mhost, .int .u32 mgr, .int .u32 mbo, .int .u64 mma, .int .u8 mli, .slice mpa mpn mpc, .slice msa msn msc, .slice mya myn myc]] W fun e w' => e = .returned (.tuple #[.slice none 0 0, .int .i64 123]) ∧ Kp Nu W w' := fun W kW => by obtain ⟨D, hc⟩ := Sr.cl; exact take_stray (hc.cb.nu kW) (⟨7, mseq, mkey, mhi, ⟨mva, mvn, mvc⟩, ⟨moa, mon, moc⟩, mhas, mof, mst, mhost, mgr, mbo, mma, mli, ⟨mpa, mpn, mpc⟩, ⟨msa, msn, msc⟩, ⟨mya, myn, myc⟩⟩ : Mg) x hxb.1 (by have := hxb.2; omega) (by show (0 : Int) ≤ 7; omega) (by show (7 : Int) < 256; omega) (.inr (.inr (.inl (by show ¬ x < hosts; omega))))
            have hcd : (wr.alloc (.cells #[.int .u8 7, .int .u64 mseq, .int .u64 mkey, .int .u64 mhi, .slice mva mvn mvc, .slice moa mon moc, .bool mhas, .int .u8 mof, .int .u8 mst, .int .u8 mhost, .int .u32 mgr, .int .u32 mbo, .int .u64 mma, .int .u8 mli, .slice mpa mpn mpc, .slice msa msn msc, .slice mya myn myc] 36)).drew.cell? (fa'.add i) = some (.int .u8 x) := hcb
            have HI := hide (And.intro hI.out (And.intro kb dk))
            have TS9 := TS _ (kb.andNu dk)
            clear TS Sr ka kb dk hI
            go_wp2_with (first | (guard_target =~ wpList _ _ _ ({ dst := _, op := Op.load 36 (Operand.tmp 99), type := _, pos := _, after := _, guard := _ } :: _) _ _; refine wpList_load_mid rfl 36 (.tmp 99) rfl bm (off + i * 17) rfl _ _ RNG Tryz.underlying36 rfl info36 ?_) | (guard_target =~ wpList _ _ _ ({ dst := none, op := Op.store 36 (Operand.tmp 21) (Operand.tmp 100), type := _, pos := _, after := _, guard := _ } :: _) _ _; refine wpList_store_new 36 17 (.tmp 21) (.tmp 100) rfl rfl info36 _ _ _ rfl rfl (by simp) rfl rfl (by simp [Value.oneCell']) ?_))
            refine str22 (fun _ _ _ _ _ h => h) mixed b wr.heap.size fa' _ _ i x [.int .u8 7, .int .u64 mseq, .int .u64 mkey, .int .u64 mhi, .slice mva mvn mvc, .slice moa mon moc, .bool mhas, .int .u8 mof, .int .u8 mst, .int .u8 mhost, .int .u32 mgr, .int .u32 mbo, .int .u64 mma, .int .u8 mli, .slice mpa mpn mpc, .slice msa msn msc, .slice mya myn myc] (.slice none 0 0) (.int .i64 123) _ rfl rfl rfl rfl rfl hlf hfl' rfl hcd (range_of (heap_new wr (.cells #[.int .u8 7, .int .u64 mseq, .int .u64 mkey, .int .u64 mhi, .slice mva mvn mvc, .slice moa mon moc, .bool mhas, .int .u8 mof, .int .u8 mst, .int .u8 mhost, .int .u32 mgr, .int .u32 mbo, .int .u64 mma, .int .u8 mli, .slice mpa mpn mpc, .slice msa msn msc, .slice mya myn myc] 36))) TS9 ?_
            intro w9 hk9
            have K9 := hide (((HI.out.1.andNu HI.out.2.1).andNu HI.out.2.2).andNu hk9)
            clear TS9 hk9 HI
            go_frame
            go_wp2_with fail
            refine (NM _ 123).mono ?_; rintro e w' ⟨rfl, hw⟩
            obtain rfl := hw.symm
            clear hw
            go_wp2
            exact ⟨⟨i + 1, by go_num, by omega, K9⟩, by simp [intOf]; omega⟩
          · have q6 : (mk == 6) = false := by simpa using n6
            have q6d : decide (mk = 6) = false := by simpa using n6
            have q7 : (mk == 7) = false := by simpa using n7
            have q7d : decide (mk = 7) = false := by simpa using n7
            have ka : Kp Nu wr (wr.alloc (.cells #[.int .u8 mk, .int .u64 mseq, .int .u64 mkey, .int .u64 mhi, .slice mva mvn mvc, .slice moa mon moc, .bool mhas, .int .u8 mof, .int .u8 mst, .int .u8 mhost, .int .u32 mgr, .int .u32 mbo, .int .u64 mma, .int .u8 mli, .slice mpa mpn mpc, .slice msa msn msc, .slice mya myn myc] 36)) := Kp.alloc _ _ _
            have y2 := cellAt (box_k Sr.fo ka) 2 (v := .int .u64 2) rfl
            have hca := (World.cell?_of_block (ka.block _ (World.block_lt_of_cell? wr _ hcell) (fun h => h))).trans hcell
            have c0 := cellAt (heap_new wr (.cells #[.int .u8 mk, .int .u64 mseq, .int .u64 mkey, .int .u64 mhi, .slice mva mvn mvc, .slice moa mon moc, .bool mhas, .int .u8 mof, .int .u8 mst, .int .u8 mhost, .int .u32 mgr, .int .u32 mbo, .int .u64 mma, .int .u8 mli, .slice mpa mpn mpc, .slice msa msn msc, .slice mya myn myc] 36)) 0 (v := .int .u8 mk) rfl
            have c1 := cellAt (heap_new wr (.cells #[.int .u8 mk, .int .u64 mseq, .int .u64 mkey, .int .u64 mhi, .slice mva mvn mvc, .slice moa mon moc, .bool mhas, .int .u8 mof, .int .u8 mst, .int .u8 mhost, .int .u32 mgr, .int .u32 mbo, .int .u64 mma, .int .u8 mli, .slice mpa mpn mpc, .slice msa msn msc, .slice mya myn myc] 36)) 1 (v := .int .u64 mseq) rfl
            have kb : Kp Nu wr (wr.alloc (.cells #[.int .u8 mk, .int .u64 mseq, .int .u64 mkey, .int .u64 mhi, .slice mva mvn mvc, .slice moa mon moc, .bool mhas, .int .u8 mof, .int .u8 mst, .int .u8 mhost, .int .u32 mgr, .int .u32 mbo, .int .u64 mma, .int .u8 mli, .slice mpa mpn mpc, .slice msa msn msc, .slice mya myn myc] 36)) := Kp.alloc _ _ _
            have hcb := (World.cell?_of_block (kb.block _ (World.block_lt_of_cell? wr _ hcell) (fun h => h))).trans hcell
            have dk : Kp Nu (wr.alloc (.cells #[.int .u8 mk, .int .u64 mseq, .int .u64 mkey, .int .u64 mhi, .slice mva mvn mvc, .slice moa mon moc, .bool mhas, .int .u8 mof, .int .u8 mst, .int .u8 mhost, .int .u32 mgr, .int .u32 mbo, .int .u64 mma, .int .u8 mli, .slice mpa mpn mpc, .slice msa msn msc, .slice mya myn myc] 36)) (wr.alloc (.cells #[.int .u8 mk, .int .u64 mseq, .int .u64 mkey, .int .u64 mhi, .slice mva mvn mvc, .slice moa mon moc, .bool mhas, .int .u8 mof, .int .u8 mst, .int .u8 mhost, .int .u32 mgr, .int .u32 mbo, .int .u64 mma, .int .u8 mli, .slice mpa mpn mpc, .slice msa msn msc, .slice mya myn myc] 36)).drew := (Kp.refl Nu _).drew
            have TS : ∀ W, Kp Nu wr W → Calls Tryz.prog 20 #[.pointer (some ⟨b, 0, none⟩), .int .u8 x, .agg #[.int .u8 mk, .int .u64 mseq, .int .u64 mkey, .int .u64 mhi, .slice mva mvn mvc, .slice moa mon moc, .bool mhas, .int .u8 mof, .int .u8 mst, .int .u8 mhost, .int .u32 mgr, .int .u32 mbo, .int .u64 mma, .int .u8 mli, .slice mpa mpn mpc, .slice msa msn msc, .slice mya myn myc]] W fun e w' => e = .returned (.tuple #[.slice none 0 0, .int .i64 123]) ∧ Kp Nu W w' := fun W kW => by obtain ⟨D, hc⟩ := Sr.cl; exact take_stray (hc.cb.nu kW) (⟨mk, mseq, mkey, mhi, ⟨mva, mvn, mvc⟩, ⟨moa, mon, moc⟩, mhas, mof, mst, mhost, mgr, mbo, mma, mli, ⟨mpa, mpn, mpc⟩, ⟨msa, msn, msc⟩, ⟨mya, myn, myc⟩⟩ : Mg) x hxb.1 (by have := hxb.2; omega) hk0.1 hk0.2 (.inr (.inr (.inl (by show ¬ x < hosts; omega))))
            have hcd : (wr.alloc (.cells #[.int .u8 mk, .int .u64 mseq, .int .u64 mkey, .int .u64 mhi, .slice mva mvn mvc, .slice moa mon moc, .bool mhas, .int .u8 mof, .int .u8 mst, .int .u8 mhost, .int .u32 mgr, .int .u32 mbo, .int .u64 mma, .int .u8 mli, .slice mpa mpn mpc, .slice msa msn msc, .slice mya myn myc] 36)).drew.cell? (fa'.add i) = some (.int .u8 x) := hcb
            have HI := hide (And.intro hI.out (And.intro kb dk))
            have TS9 := TS _ (kb.andNu dk)
            clear TS Sr ka kb dk hI
            go_wp2_with (first | (guard_target =~ wpList _ _ _ ({ dst := _, op := Op.load 36 (Operand.tmp 99), type := _, pos := _, after := _, guard := _ } :: _) _ _; refine wpList_load_mid rfl 36 (.tmp 99) rfl bm (off + i * 17) rfl _ _ RNG Tryz.underlying36 rfl info36 ?_) | (guard_target =~ wpList _ _ _ ({ dst := none, op := Op.store 36 (Operand.tmp 21) (Operand.tmp 100), type := _, pos := _, after := _, guard := _ } :: _) _ _; refine wpList_store_new 36 17 (.tmp 21) (.tmp 100) rfl rfl info36 _ _ _ rfl rfl (by simp) rfl rfl (by simp [Value.oneCell']) ?_))
            refine str22 (fun _ _ _ _ _ h => h) mixed b wr.heap.size fa' _ _ i x [.int .u8 mk, .int .u64 mseq, .int .u64 mkey, .int .u64 mhi, .slice mva mvn mvc, .slice moa mon moc, .bool mhas, .int .u8 mof, .int .u8 mst, .int .u8 mhost, .int .u32 mgr, .int .u32 mbo, .int .u64 mma, .int .u8 mli, .slice mpa mpn mpc, .slice msa msn msc, .slice mya myn myc] (.slice none 0 0) (.int .i64 123) _ rfl rfl rfl rfl rfl hlf hfl' rfl hcd (range_of (heap_new wr (.cells #[.int .u8 mk, .int .u64 mseq, .int .u64 mkey, .int .u64 mhi, .slice mva mvn mvc, .slice moa mon moc, .bool mhas, .int .u8 mof, .int .u8 mst, .int .u8 mhost, .int .u32 mgr, .int .u32 mbo, .int .u64 mma, .int .u8 mli, .slice mpa mpn mpc, .slice msa msn msc, .slice mya myn myc] 36))) TS9 ?_
            intro w9 hk9
            have K9 := hide (((HI.out.1.andNu HI.out.2.1).andNu HI.out.2.2).andNu hk9)
            clear TS9 hk9 HI
            go_frame
            go_wp2_with fail
            refine (NM _ 123).mono ?_; rintro e w' ⟨rfl, hw⟩
            obtain rfl := hw.symm
            clear hw
            go_wp2
            exact ⟨⟨i + 1, by go_num, by omega, K9⟩, by simp [intOf]; omega⟩
      · have hod : decide (x ≥ hosts) = false := by simpa using hout
        have hxh : x < hosts := by omega
        by_cases n6 : mk = 6
        · subst n6
          by_cases hsq : mseq = 2
          · subst hsq
            have ka : Kp Nu wr (wr.alloc (.cells #[.int .u8 6, .int .u64 2, .int .u64 mkey, .int .u64 mhi, .slice mva mvn mvc, .slice moa mon moc, .bool mhas, .int .u8 mof, .int .u8 mst, .int .u8 mhost, .int .u32 mgr, .int .u32 mbo, .int .u64 mma, .int .u8 mli, .slice mpa mpn mpc, .slice msa msn msc, .slice mya myn myc] 36)) := Kp.alloc _ _ _
            have y2 := cellAt (box_k Sr.fo ka) 2 (v := .int .u64 2) rfl
            have hca := (World.cell?_of_block (ka.block _ (World.block_lt_of_cell? wr _ hcell) (fun h => h))).trans hcell
            have c0 := cellAt (heap_new wr (.cells #[.int .u8 6, .int .u64 2, .int .u64 mkey, .int .u64 mhi, .slice mva mvn mvc, .slice moa mon moc, .bool mhas, .int .u8 mof, .int .u8 mst, .int .u8 mhost, .int .u32 mgr, .int .u32 mbo, .int .u64 mma, .int .u8 mli, .slice mpa mpn mpc, .slice msa msn msc, .slice mya myn myc] 36)) 0 (v := .int .u8 6) rfl
            have c1 := cellAt (heap_new wr (.cells #[.int .u8 6, .int .u64 2, .int .u64 mkey, .int .u64 mhi, .slice mva mvn mvc, .slice moa mon moc, .bool mhas, .int .u8 mof, .int .u8 mst, .int .u8 mhost, .int .u32 mgr, .int .u32 mbo, .int .u64 mma, .int .u8 mli, .slice mpa mpn mpc, .slice msa msn msc, .slice mya myn myc] 36)) 1 (v := .int .u64 2) rfl
            have f1 := free3 (heap_new wr (.cells #[.int .u8 6, .int .u64 2, .int .u64 mkey, .int .u64 mhi, .slice mva mvn mvc, .slice moa mon moc, .bool mhas, .int .u8 mof, .int .u8 mst, .int .u8 mhost, .int .u32 mgr, .int .u32 mbo, .int .u64 mma, .int .u8 mli, .slice mpa mpn mpc, .slice msa msn msc, .slice mya myn myc] 36)) 1
            have kb : Kp Nu wr (wr.alloc (.cells #[.int .u8 6, .int .u64 3, .int .u64 mkey, .int .u64 mhi, .slice mva mvn mvc, .slice moa mon moc, .bool mhas, .int .u8 mof, .int .u8 mst, .int .u8 mhost, .int .u32 mgr, .int .u32 mbo, .int .u64 mma, .int .u8 mli, .slice mpa mpn mpc, .slice msa msn msc, .slice mya myn myc] 36)) := Kp.alloc _ _ _
            have hcb := (World.cell?_of_block (kb.block _ (World.block_lt_of_cell? wr _ hcell) (fun h => h))).trans hcell
            have dk : Kp Nu (wr.alloc (.cells #[.int .u8 6, .int .u64 3, .int .u64 mkey, .int .u64 mhi, .slice mva mvn mvc, .slice moa mon moc, .bool mhas, .int .u8 mof, .int .u8 mst, .int .u8 mhost, .int .u32 mgr, .int .u32 mbo, .int .u64 mma, .int .u8 mli, .slice mpa mpn mpc, .slice msa msn msc, .slice mya myn myc] 36)) (wr.alloc (.cells #[.int .u8 6, .int .u64 3, .int .u64 mkey, .int .u64 mhi, .slice mva mvn mvc, .slice moa mon moc, .bool mhas, .int .u8 mof, .int .u8 mst, .int .u8 mhost, .int .u32 mgr, .int .u32 mbo, .int .u64 mma, .int .u8 mli, .slice mpa mpn mpc, .slice msa msn msc, .slice mya myn myc] 36)).drew := (Kp.refl Nu _).drew
            have TS : ∀ W, Kp Nu wr W → Calls Tryz.prog 20 #[.pointer (some ⟨b, 0, none⟩), .int .u8 x, .agg #[.int .u8 6, .int .u64 3, .int .u64 mkey, .int .u64 mhi, .slice mva mvn mvc, .slice moa mon moc, .bool mhas, .int .u8 mof, .int .u8 mst, .int .u8 mhost, .int .u32 mgr, .int .u32 mbo, .int .u64 mma, .int .u8 mli, .slice mpa mpn mpc, .slice msa msn msc, .slice mya myn myc]] W fun e w' => e = .returned (.tuple #[.slice none 0 0, .int .i64 123]) ∧ Kp Nu W w' := fun W kW => by obtain ⟨D, hc⟩ := Sr.cl; exact take_stray (hc.cb.nu kW) (⟨6, 3, mkey, mhi, ⟨mva, mvn, mvc⟩, ⟨moa, mon, moc⟩, mhas, mof, mst, mhost, mgr, mbo, mma, mli, ⟨mpa, mpn, mpc⟩, ⟨msa, msn, msc⟩, ⟨mya, myn, myc⟩⟩ : Mg) x hxb.1 (by have := hxb.2; omega) (by show (0 : Int) ≤ 6; omega) (by show (6 : Int) < 256; omega) (.inr (.inr (.inr (by show ¬ (3 : Int) = 2; omega))))
            have hcd : (wr.alloc (.cells #[.int .u8 6, .int .u64 3, .int .u64 mkey, .int .u64 mhi, .slice mva mvn mvc, .slice moa mon moc, .bool mhas, .int .u8 mof, .int .u8 mst, .int .u8 mhost, .int .u32 mgr, .int .u32 mbo, .int .u64 mma, .int .u8 mli, .slice mpa mpn mpc, .slice msa msn msc, .slice mya myn myc] 36)).drew.cell? (fa'.add i) = some (.int .u8 x) := hcb
            have HI := hide (And.intro hI.out (And.intro kb dk))
            have TS9 := TS _ (kb.andNu dk)
            clear TS Sr ka kb dk hI
            go_wp2_with (first | (guard_target =~ wpList _ _ _ ({ dst := _, op := Op.load 36 (Operand.tmp 99), type := _, pos := _, after := _, guard := _ } :: _) _ _; refine wpList_load_mid rfl 36 (.tmp 99) rfl bm (off + i * 17) rfl _ _ RNG Tryz.underlying36 rfl info36 ?_) | (guard_target =~ wpList _ _ _ ({ dst := none, op := Op.store 36 (Operand.tmp 21) (Operand.tmp 100), type := _, pos := _, after := _, guard := _ } :: _) _ _; refine wpList_store_new 36 17 (.tmp 21) (.tmp 100) rfl rfl info36 _ _ _ rfl rfl (by simp) rfl rfl (by simp [Value.oneCell']) ?_))
            refine str22 (fun _ _ _ _ _ h => h) mixed b wr.heap.size fa' _ _ i x [.int .u8 6, .int .u64 3, .int .u64 mkey, .int .u64 mhi, .slice mva mvn mvc, .slice moa mon moc, .bool mhas, .int .u8 mof, .int .u8 mst, .int .u8 mhost, .int .u32 mgr, .int .u32 mbo, .int .u64 mma, .int .u8 mli, .slice mpa mpn mpc, .slice msa msn msc, .slice mya myn myc] (.slice none 0 0) (.int .i64 123) _ rfl rfl rfl rfl rfl hlf hfl' rfl hcd (range_of (heap_new wr (.cells #[.int .u8 6, .int .u64 3, .int .u64 mkey, .int .u64 mhi, .slice mva mvn mvc, .slice moa mon moc, .bool mhas, .int .u8 mof, .int .u8 mst, .int .u8 mhost, .int .u32 mgr, .int .u32 mbo, .int .u64 mma, .int .u8 mli, .slice mpa mpn mpc, .slice msa msn msc, .slice mya myn myc] 36))) TS9 ?_
            intro w9 hk9
            have K9 := hide (((HI.out.1.andNu HI.out.2.1).andNu HI.out.2.2).andNu hk9)
            clear TS9 hk9 HI
            go_frame
            go_wp2_with fail
            refine (NM _ 123).mono ?_; rintro e w' ⟨rfl, hw⟩
            obtain rfl := hw.symm
            clear hw
            go_wp2
            exact ⟨⟨i + 1, by go_num, by omega, K9⟩, by simp [intOf]; omega⟩
          · have hsd : decide (mseq = 2) = false := by simpa using hsq
            have hsb : (mseq == 2) = false := by simpa using hsq
            have ka : Kp Nu wr (wr.alloc (.cells #[.int .u8 6, .int .u64 mseq, .int .u64 mkey, .int .u64 mhi, .slice mva mvn mvc, .slice moa mon moc, .bool mhas, .int .u8 mof, .int .u8 mst, .int .u8 mhost, .int .u32 mgr, .int .u32 mbo, .int .u64 mma, .int .u8 mli, .slice mpa mpn mpc, .slice msa msn msc, .slice mya myn myc] 36)) := Kp.alloc _ _ _
            have y2 := cellAt (box_k Sr.fo ka) 2 (v := .int .u64 2) rfl
            have hca := (World.cell?_of_block (ka.block _ (World.block_lt_of_cell? wr _ hcell) (fun h => h))).trans hcell
            have c0 := cellAt (heap_new wr (.cells #[.int .u8 6, .int .u64 mseq, .int .u64 mkey, .int .u64 mhi, .slice mva mvn mvc, .slice moa mon moc, .bool mhas, .int .u8 mof, .int .u8 mst, .int .u8 mhost, .int .u32 mgr, .int .u32 mbo, .int .u64 mma, .int .u8 mli, .slice mpa mpn mpc, .slice msa msn msc, .slice mya myn myc] 36)) 0 (v := .int .u8 6) rfl
            have c1 := cellAt (heap_new wr (.cells #[.int .u8 6, .int .u64 mseq, .int .u64 mkey, .int .u64 mhi, .slice mva mvn mvc, .slice moa mon moc, .bool mhas, .int .u8 mof, .int .u8 mst, .int .u8 mhost, .int .u32 mgr, .int .u32 mbo, .int .u64 mma, .int .u8 mli, .slice mpa mpn mpc, .slice msa msn msc, .slice mya myn myc] 36)) 1 (v := .int .u64 mseq) rfl
            have kb : Kp Nu wr (wr.alloc (.cells #[.int .u8 6, .int .u64 mseq, .int .u64 mkey, .int .u64 mhi, .slice mva mvn mvc, .slice moa mon moc, .bool mhas, .int .u8 mof, .int .u8 mst, .int .u8 mhost, .int .u32 mgr, .int .u32 mbo, .int .u64 mma, .int .u8 mli, .slice mpa mpn mpc, .slice msa msn msc, .slice mya myn myc] 36)) := Kp.alloc _ _ _
            have hcb := (World.cell?_of_block (kb.block _ (World.block_lt_of_cell? wr _ hcell) (fun h => h))).trans hcell
            have dk : Kp Nu (wr.alloc (.cells #[.int .u8 6, .int .u64 mseq, .int .u64 mkey, .int .u64 mhi, .slice mva mvn mvc, .slice moa mon moc, .bool mhas, .int .u8 mof, .int .u8 mst, .int .u8 mhost, .int .u32 mgr, .int .u32 mbo, .int .u64 mma, .int .u8 mli, .slice mpa mpn mpc, .slice msa msn msc, .slice mya myn myc] 36)) (wr.alloc (.cells #[.int .u8 6, .int .u64 mseq, .int .u64 mkey, .int .u64 mhi, .slice mva mvn mvc, .slice moa mon moc, .bool mhas, .int .u8 mof, .int .u8 mst, .int .u8 mhost, .int .u32 mgr, .int .u32 mbo, .int .u64 mma, .int .u8 mli, .slice mpa mpn mpc, .slice msa msn msc, .slice mya myn myc] 36)).drew := (Kp.refl Nu _).drew
            have TS : ∀ W, Kp Nu wr W → Calls Tryz.prog 20 #[.pointer (some ⟨b, 0, none⟩), .int .u8 x, .agg #[.int .u8 6, .int .u64 mseq, .int .u64 mkey, .int .u64 mhi, .slice mva mvn mvc, .slice moa mon moc, .bool mhas, .int .u8 mof, .int .u8 mst, .int .u8 mhost, .int .u32 mgr, .int .u32 mbo, .int .u64 mma, .int .u8 mli, .slice mpa mpn mpc, .slice msa msn msc, .slice mya myn myc]] W fun e w' => e = .returned (.tuple #[.slice none 0 0, .int .i64 123]) ∧ Kp Nu W w' := fun W kW => by obtain ⟨D, hc⟩ := Sr.cl; exact take_stray (hc.cb.nu kW) (⟨6, mseq, mkey, mhi, ⟨mva, mvn, mvc⟩, ⟨moa, mon, moc⟩, mhas, mof, mst, mhost, mgr, mbo, mma, mli, ⟨mpa, mpn, mpc⟩, ⟨msa, msn, msc⟩, ⟨mya, myn, myc⟩⟩ : Mg) x hxb.1 (by have := hxb.2; omega) (by show (0 : Int) ≤ 6; omega) (by show (6 : Int) < 256; omega) (.inr (.inr (.inr (by show ¬ mseq = 2; exact hsq))))
            have hcd : (wr.alloc (.cells #[.int .u8 6, .int .u64 mseq, .int .u64 mkey, .int .u64 mhi, .slice mva mvn mvc, .slice moa mon moc, .bool mhas, .int .u8 mof, .int .u8 mst, .int .u8 mhost, .int .u32 mgr, .int .u32 mbo, .int .u64 mma, .int .u8 mli, .slice mpa mpn mpc, .slice msa msn msc, .slice mya myn myc] 36)).drew.cell? (fa'.add i) = some (.int .u8 x) := hcb
            have HI := hide (And.intro hI.out (And.intro kb dk))
            have TS9 := TS _ (kb.andNu dk)
            clear TS Sr ka kb dk hI
            go_wp2_with (first | (guard_target =~ wpList _ _ _ ({ dst := _, op := Op.load 36 (Operand.tmp 99), type := _, pos := _, after := _, guard := _ } :: _) _ _; refine wpList_load_mid rfl 36 (.tmp 99) rfl bm (off + i * 17) rfl _ _ RNG Tryz.underlying36 rfl info36 ?_) | (guard_target =~ wpList _ _ _ ({ dst := none, op := Op.store 36 (Operand.tmp 21) (Operand.tmp 100), type := _, pos := _, after := _, guard := _ } :: _) _ _; refine wpList_store_new 36 17 (.tmp 21) (.tmp 100) rfl rfl info36 _ _ _ rfl rfl (by simp) rfl rfl (by simp [Value.oneCell']) ?_))
            refine str22 (fun _ _ _ _ _ h => h) mixed b wr.heap.size fa' _ _ i x [.int .u8 6, .int .u64 mseq, .int .u64 mkey, .int .u64 mhi, .slice mva mvn mvc, .slice moa mon moc, .bool mhas, .int .u8 mof, .int .u8 mst, .int .u8 mhost, .int .u32 mgr, .int .u32 mbo, .int .u64 mma, .int .u8 mli, .slice mpa mpn mpc, .slice msa msn msc, .slice mya myn myc] (.slice none 0 0) (.int .i64 123) _ rfl rfl rfl rfl rfl hlf hfl' rfl hcd (range_of (heap_new wr (.cells #[.int .u8 6, .int .u64 mseq, .int .u64 mkey, .int .u64 mhi, .slice mva mvn mvc, .slice moa mon moc, .bool mhas, .int .u8 mof, .int .u8 mst, .int .u8 mhost, .int .u32 mgr, .int .u32 mbo, .int .u64 mma, .int .u8 mli, .slice mpa mpn mpc, .slice msa msn msc, .slice mya myn myc] 36))) TS9 ?_
            intro w9 hk9
            have K9 := hide (((HI.out.1.andNu HI.out.2.1).andNu HI.out.2.2).andNu hk9)
            clear TS9 hk9 HI
            go_frame
            go_wp2_with fail
            refine (NM _ 123).mono ?_; rintro e w' ⟨rfl, hw⟩
            obtain rfl := hw.symm
            clear hw
            go_wp2
            exact ⟨⟨i + 1, by go_num, by omega, K9⟩, by simp [intOf]; omega⟩
        · by_cases n7 : mk = 7
          · subst n7
            by_cases hsq : mseq = 2
            · subst hsq
              have ka : Kp Nu wr (wr.alloc (.cells #[.int .u8 7, .int .u64 2, .int .u64 mkey, .int .u64 mhi, .slice mva mvn mvc, .slice moa mon moc, .bool mhas, .int .u8 mof, .int .u8 mst, .int .u8 mhost, .int .u32 mgr, .int .u32 mbo, .int .u64 mma, .int .u8 mli, .slice mpa mpn mpc, .slice msa msn msc, .slice mya myn myc] 36)) := Kp.alloc _ _ _
              have y2 := cellAt (box_k Sr.fo ka) 2 (v := .int .u64 2) rfl
              have hca := (World.cell?_of_block (ka.block _ (World.block_lt_of_cell? wr _ hcell) (fun h => h))).trans hcell
              have c0 := cellAt (heap_new wr (.cells #[.int .u8 7, .int .u64 2, .int .u64 mkey, .int .u64 mhi, .slice mva mvn mvc, .slice moa mon moc, .bool mhas, .int .u8 mof, .int .u8 mst, .int .u8 mhost, .int .u32 mgr, .int .u32 mbo, .int .u64 mma, .int .u8 mli, .slice mpa mpn mpc, .slice msa msn msc, .slice mya myn myc] 36)) 0 (v := .int .u8 7) rfl
              have c1 := cellAt (heap_new wr (.cells #[.int .u8 7, .int .u64 2, .int .u64 mkey, .int .u64 mhi, .slice mva mvn mvc, .slice moa mon moc, .bool mhas, .int .u8 mof, .int .u8 mst, .int .u8 mhost, .int .u32 mgr, .int .u32 mbo, .int .u64 mma, .int .u8 mli, .slice mpa mpn mpc, .slice msa msn msc, .slice mya myn myc] 36)) 1 (v := .int .u64 2) rfl
              have f1 := free3 (heap_new wr (.cells #[.int .u8 7, .int .u64 2, .int .u64 mkey, .int .u64 mhi, .slice mva mvn mvc, .slice moa mon moc, .bool mhas, .int .u8 mof, .int .u8 mst, .int .u8 mhost, .int .u32 mgr, .int .u32 mbo, .int .u64 mma, .int .u8 mli, .slice mpa mpn mpc, .slice msa msn msc, .slice mya myn myc] 36)) 1
              have kb : Kp Nu wr (wr.alloc (.cells #[.int .u8 7, .int .u64 3, .int .u64 mkey, .int .u64 mhi, .slice mva mvn mvc, .slice moa mon moc, .bool mhas, .int .u8 mof, .int .u8 mst, .int .u8 mhost, .int .u32 mgr, .int .u32 mbo, .int .u64 mma, .int .u8 mli, .slice mpa mpn mpc, .slice msa msn msc, .slice mya myn myc] 36)) := Kp.alloc _ _ _
              have hcb := (World.cell?_of_block (kb.block _ (World.block_lt_of_cell? wr _ hcell) (fun h => h))).trans hcell
              have dk : Kp Nu (wr.alloc (.cells #[.int .u8 7, .int .u64 3, .int .u64 mkey, .int .u64 mhi, .slice mva mvn mvc, .slice moa mon moc, .bool mhas, .int .u8 mof, .int .u8 mst, .int .u8 mhost, .int .u32 mgr, .int .u32 mbo, .int .u64 mma, .int .u8 mli, .slice mpa mpn mpc, .slice msa msn msc, .slice mya myn myc] 36)) (wr.alloc (.cells #[.int .u8 7, .int .u64 3, .int .u64 mkey, .int .u64 mhi, .slice mva mvn mvc, .slice moa mon moc, .bool mhas, .int .u8 mof, .int .u8 mst, .int .u8 mhost, .int .u32 mgr, .int .u32 mbo, .int .u64 mma, .int .u8 mli, .slice mpa mpn mpc, .slice msa msn msc, .slice mya myn myc] 36)).drew := (Kp.refl Nu _).drew
              have TS : ∀ W, Kp Nu wr W → Calls Tryz.prog 20 #[.pointer (some ⟨b, 0, none⟩), .int .u8 x, .agg #[.int .u8 7, .int .u64 3, .int .u64 mkey, .int .u64 mhi, .slice mva mvn mvc, .slice moa mon moc, .bool mhas, .int .u8 mof, .int .u8 mst, .int .u8 mhost, .int .u32 mgr, .int .u32 mbo, .int .u64 mma, .int .u8 mli, .slice mpa mpn mpc, .slice msa msn msc, .slice mya myn myc]] W fun e w' => e = .returned (.tuple #[.slice none 0 0, .int .i64 123]) ∧ Kp Nu W w' := fun W kW => by obtain ⟨D, hc⟩ := Sr.cl; exact take_stray (hc.cb.nu kW) (⟨7, 3, mkey, mhi, ⟨mva, mvn, mvc⟩, ⟨moa, mon, moc⟩, mhas, mof, mst, mhost, mgr, mbo, mma, mli, ⟨mpa, mpn, mpc⟩, ⟨msa, msn, msc⟩, ⟨mya, myn, myc⟩⟩ : Mg) x hxb.1 (by have := hxb.2; omega) (by show (0 : Int) ≤ 7; omega) (by show (7 : Int) < 256; omega) (.inr (.inr (.inr (by show ¬ (3 : Int) = 2; omega))))
              have hcd : (wr.alloc (.cells #[.int .u8 7, .int .u64 3, .int .u64 mkey, .int .u64 mhi, .slice mva mvn mvc, .slice moa mon moc, .bool mhas, .int .u8 mof, .int .u8 mst, .int .u8 mhost, .int .u32 mgr, .int .u32 mbo, .int .u64 mma, .int .u8 mli, .slice mpa mpn mpc, .slice msa msn msc, .slice mya myn myc] 36)).drew.cell? (fa'.add i) = some (.int .u8 x) := hcb
              have HI := hide (And.intro hI.out (And.intro kb dk))
              have TS9 := TS _ (kb.andNu dk)
              clear TS Sr ka kb dk hI
              go_wp2_with (first | (guard_target =~ wpList _ _ _ ({ dst := _, op := Op.load 36 (Operand.tmp 99), type := _, pos := _, after := _, guard := _ } :: _) _ _; refine wpList_load_mid rfl 36 (.tmp 99) rfl bm (off + i * 17) rfl _ _ RNG Tryz.underlying36 rfl info36 ?_) | (guard_target =~ wpList _ _ _ ({ dst := none, op := Op.store 36 (Operand.tmp 21) (Operand.tmp 100), type := _, pos := _, after := _, guard := _ } :: _) _ _; refine wpList_store_new 36 17 (.tmp 21) (.tmp 100) rfl rfl info36 _ _ _ rfl rfl (by simp) rfl rfl (by simp [Value.oneCell']) ?_))
              refine str22 (fun _ _ _ _ _ h => h) mixed b wr.heap.size fa' _ _ i x [.int .u8 7, .int .u64 3, .int .u64 mkey, .int .u64 mhi, .slice mva mvn mvc, .slice moa mon moc, .bool mhas, .int .u8 mof, .int .u8 mst, .int .u8 mhost, .int .u32 mgr, .int .u32 mbo, .int .u64 mma, .int .u8 mli, .slice mpa mpn mpc, .slice msa msn msc, .slice mya myn myc] (.slice none 0 0) (.int .i64 123) _ rfl rfl rfl rfl rfl hlf hfl' rfl hcd (range_of (heap_new wr (.cells #[.int .u8 7, .int .u64 3, .int .u64 mkey, .int .u64 mhi, .slice mva mvn mvc, .slice moa mon moc, .bool mhas, .int .u8 mof, .int .u8 mst, .int .u8 mhost, .int .u32 mgr, .int .u32 mbo, .int .u64 mma, .int .u8 mli, .slice mpa mpn mpc, .slice msa msn msc, .slice mya myn myc] 36))) TS9 ?_
              intro w9 hk9
              have K9 := hide (((HI.out.1.andNu HI.out.2.1).andNu HI.out.2.2).andNu hk9)
              clear TS9 hk9 HI
              go_frame
              go_wp2_with fail
              refine (NM _ 123).mono ?_; rintro e w' ⟨rfl, hw⟩
              obtain rfl := hw.symm
              clear hw
              go_wp2
              exact ⟨⟨i + 1, by go_num, by omega, K9⟩, by simp [intOf]; omega⟩
            · have hsd : decide (mseq = 2) = false := by simpa using hsq
              have hsb : (mseq == 2) = false := by simpa using hsq
              have ka : Kp Nu wr (wr.alloc (.cells #[.int .u8 7, .int .u64 mseq, .int .u64 mkey, .int .u64 mhi, .slice mva mvn mvc, .slice moa mon moc, .bool mhas, .int .u8 mof, .int .u8 mst, .int .u8 mhost, .int .u32 mgr, .int .u32 mbo, .int .u64 mma, .int .u8 mli, .slice mpa mpn mpc, .slice msa msn msc, .slice mya myn myc] 36)) := Kp.alloc _ _ _
              have y2 := cellAt (box_k Sr.fo ka) 2 (v := .int .u64 2) rfl
              have hca := (World.cell?_of_block (ka.block _ (World.block_lt_of_cell? wr _ hcell) (fun h => h))).trans hcell
              have c0 := cellAt (heap_new wr (.cells #[.int .u8 7, .int .u64 mseq, .int .u64 mkey, .int .u64 mhi, .slice mva mvn mvc, .slice moa mon moc, .bool mhas, .int .u8 mof, .int .u8 mst, .int .u8 mhost, .int .u32 mgr, .int .u32 mbo, .int .u64 mma, .int .u8 mli, .slice mpa mpn mpc, .slice msa msn msc, .slice mya myn myc] 36)) 0 (v := .int .u8 7) rfl
              have c1 := cellAt (heap_new wr (.cells #[.int .u8 7, .int .u64 mseq, .int .u64 mkey, .int .u64 mhi, .slice mva mvn mvc, .slice moa mon moc, .bool mhas, .int .u8 mof, .int .u8 mst, .int .u8 mhost, .int .u32 mgr, .int .u32 mbo, .int .u64 mma, .int .u8 mli, .slice mpa mpn mpc, .slice msa msn msc, .slice mya myn myc] 36)) 1 (v := .int .u64 mseq) rfl
              have kb : Kp Nu wr (wr.alloc (.cells #[.int .u8 7, .int .u64 mseq, .int .u64 mkey, .int .u64 mhi, .slice mva mvn mvc, .slice moa mon moc, .bool mhas, .int .u8 mof, .int .u8 mst, .int .u8 mhost, .int .u32 mgr, .int .u32 mbo, .int .u64 mma, .int .u8 mli, .slice mpa mpn mpc, .slice msa msn msc, .slice mya myn myc] 36)) := Kp.alloc _ _ _
              have hcb := (World.cell?_of_block (kb.block _ (World.block_lt_of_cell? wr _ hcell) (fun h => h))).trans hcell
              have dk : Kp Nu (wr.alloc (.cells #[.int .u8 7, .int .u64 mseq, .int .u64 mkey, .int .u64 mhi, .slice mva mvn mvc, .slice moa mon moc, .bool mhas, .int .u8 mof, .int .u8 mst, .int .u8 mhost, .int .u32 mgr, .int .u32 mbo, .int .u64 mma, .int .u8 mli, .slice mpa mpn mpc, .slice msa msn msc, .slice mya myn myc] 36)) (wr.alloc (.cells #[.int .u8 7, .int .u64 mseq, .int .u64 mkey, .int .u64 mhi, .slice mva mvn mvc, .slice moa mon moc, .bool mhas, .int .u8 mof, .int .u8 mst, .int .u8 mhost, .int .u32 mgr, .int .u32 mbo, .int .u64 mma, .int .u8 mli, .slice mpa mpn mpc, .slice msa msn msc, .slice mya myn myc] 36)).drew := (Kp.refl Nu _).drew
              have TS : ∀ W, Kp Nu wr W → Calls Tryz.prog 20 #[.pointer (some ⟨b, 0, none⟩), .int .u8 x, .agg #[.int .u8 7, .int .u64 mseq, .int .u64 mkey, .int .u64 mhi, .slice mva mvn mvc, .slice moa mon moc, .bool mhas, .int .u8 mof, .int .u8 mst, .int .u8 mhost, .int .u32 mgr, .int .u32 mbo, .int .u64 mma, .int .u8 mli, .slice mpa mpn mpc, .slice msa msn msc, .slice mya myn myc]] W fun e w' => e = .returned (.tuple #[.slice none 0 0, .int .i64 123]) ∧ Kp Nu W w' := fun W kW => by obtain ⟨D, hc⟩ := Sr.cl; exact take_stray (hc.cb.nu kW) (⟨7, mseq, mkey, mhi, ⟨mva, mvn, mvc⟩, ⟨moa, mon, moc⟩, mhas, mof, mst, mhost, mgr, mbo, mma, mli, ⟨mpa, mpn, mpc⟩, ⟨msa, msn, msc⟩, ⟨mya, myn, myc⟩⟩ : Mg) x hxb.1 (by have := hxb.2; omega) (by show (0 : Int) ≤ 7; omega) (by show (7 : Int) < 256; omega) (.inr (.inr (.inr (by show ¬ mseq = 2; exact hsq))))
              have hcd : (wr.alloc (.cells #[.int .u8 7, .int .u64 mseq, .int .u64 mkey, .int .u64 mhi, .slice mva mvn mvc, .slice moa mon moc, .bool mhas, .int .u8 mof, .int .u8 mst, .int .u8 mhost, .int .u32 mgr, .int .u32 mbo, .int .u64 mma, .int .u8 mli, .slice mpa mpn mpc, .slice msa msn msc, .slice mya myn myc] 36)).drew.cell? (fa'.add i) = some (.int .u8 x) := hcb
              have HI := hide (And.intro hI.out (And.intro kb dk))
              have TS9 := TS _ (kb.andNu dk)
              clear TS Sr ka kb dk hI
              go_wp2_with (first | (guard_target =~ wpList _ _ _ ({ dst := _, op := Op.load 36 (Operand.tmp 99), type := _, pos := _, after := _, guard := _ } :: _) _ _; refine wpList_load_mid rfl 36 (.tmp 99) rfl bm (off + i * 17) rfl _ _ RNG Tryz.underlying36 rfl info36 ?_) | (guard_target =~ wpList _ _ _ ({ dst := none, op := Op.store 36 (Operand.tmp 21) (Operand.tmp 100), type := _, pos := _, after := _, guard := _ } :: _) _ _; refine wpList_store_new 36 17 (.tmp 21) (.tmp 100) rfl rfl info36 _ _ _ rfl rfl (by simp) rfl rfl (by simp [Value.oneCell']) ?_))
              refine str22 (fun _ _ _ _ _ h => h) mixed b wr.heap.size fa' _ _ i x [.int .u8 7, .int .u64 mseq, .int .u64 mkey, .int .u64 mhi, .slice mva mvn mvc, .slice moa mon moc, .bool mhas, .int .u8 mof, .int .u8 mst, .int .u8 mhost, .int .u32 mgr, .int .u32 mbo, .int .u64 mma, .int .u8 mli, .slice mpa mpn mpc, .slice msa msn msc, .slice mya myn myc] (.slice none 0 0) (.int .i64 123) _ rfl rfl rfl rfl rfl hlf hfl' rfl hcd (range_of (heap_new wr (.cells #[.int .u8 7, .int .u64 mseq, .int .u64 mkey, .int .u64 mhi, .slice mva mvn mvc, .slice moa mon moc, .bool mhas, .int .u8 mof, .int .u8 mst, .int .u8 mhost, .int .u32 mgr, .int .u32 mbo, .int .u64 mma, .int .u8 mli, .slice mpa mpn mpc, .slice msa msn msc, .slice mya myn myc] 36))) TS9 ?_
              intro w9 hk9
              have K9 := hide (((HI.out.1.andNu HI.out.2.1).andNu HI.out.2.2).andNu hk9)
              clear TS9 hk9 HI
              go_frame
              go_wp2_with fail
              refine (NM _ 123).mono ?_; rintro e w' ⟨rfl, hw⟩
              obtain rfl := hw.symm
              clear hw
              go_wp2
              exact ⟨⟨i + 1, by go_num, by omega, K9⟩, by simp [intOf]; omega⟩
          · have q6 : (mk == 6) = false := by simpa using n6
            have q6d : decide (mk = 6) = false := by simpa using n6
            have q7 : (mk == 7) = false := by simpa using n7
            have q7d : decide (mk = 7) = false := by simpa using n7
            have ka : Kp Nu wr (wr.alloc (.cells #[.int .u8 mk, .int .u64 mseq, .int .u64 mkey, .int .u64 mhi, .slice mva mvn mvc, .slice moa mon moc, .bool mhas, .int .u8 mof, .int .u8 mst, .int .u8 mhost, .int .u32 mgr, .int .u32 mbo, .int .u64 mma, .int .u8 mli, .slice mpa mpn mpc, .slice msa msn msc, .slice mya myn myc] 36)) := Kp.alloc _ _ _
            have y2 := cellAt (box_k Sr.fo ka) 2 (v := .int .u64 2) rfl
            have hca := (World.cell?_of_block (ka.block _ (World.block_lt_of_cell? wr _ hcell) (fun h => h))).trans hcell
            have c0 := cellAt (heap_new wr (.cells #[.int .u8 mk, .int .u64 mseq, .int .u64 mkey, .int .u64 mhi, .slice mva mvn mvc, .slice moa mon moc, .bool mhas, .int .u8 mof, .int .u8 mst, .int .u8 mhost, .int .u32 mgr, .int .u32 mbo, .int .u64 mma, .int .u8 mli, .slice mpa mpn mpc, .slice msa msn msc, .slice mya myn myc] 36)) 0 (v := .int .u8 mk) rfl
            have c1 := cellAt (heap_new wr (.cells #[.int .u8 mk, .int .u64 mseq, .int .u64 mkey, .int .u64 mhi, .slice mva mvn mvc, .slice moa mon moc, .bool mhas, .int .u8 mof, .int .u8 mst, .int .u8 mhost, .int .u32 mgr, .int .u32 mbo, .int .u64 mma, .int .u8 mli, .slice mpa mpn mpc, .slice msa msn msc, .slice mya myn myc] 36)) 1 (v := .int .u64 mseq) rfl
            have kb : Kp Nu wr (wr.alloc (.cells #[.int .u8 mk, .int .u64 mseq, .int .u64 mkey, .int .u64 mhi, .slice mva mvn mvc, .slice moa mon moc, .bool mhas, .int .u8 mof, .int .u8 mst, .int .u8 mhost, .int .u32 mgr, .int .u32 mbo, .int .u64 mma, .int .u8 mli, .slice mpa mpn mpc, .slice msa msn msc, .slice mya myn myc] 36)) := Kp.alloc _ _ _
            have hcb := (World.cell?_of_block (kb.block _ (World.block_lt_of_cell? wr _ hcell) (fun h => h))).trans hcell
            have dk : Kp Nu (wr.alloc (.cells #[.int .u8 mk, .int .u64 mseq, .int .u64 mkey, .int .u64 mhi, .slice mva mvn mvc, .slice moa mon moc, .bool mhas, .int .u8 mof, .int .u8 mst, .int .u8 mhost, .int .u32 mgr, .int .u32 mbo, .int .u64 mma, .int .u8 mli, .slice mpa mpn mpc, .slice msa msn msc, .slice mya myn myc] 36)) (wr.alloc (.cells #[.int .u8 mk, .int .u64 mseq, .int .u64 mkey, .int .u64 mhi, .slice mva mvn mvc, .slice moa mon moc, .bool mhas, .int .u8 mof, .int .u8 mst, .int .u8 mhost, .int .u32 mgr, .int .u32 mbo, .int .u64 mma, .int .u8 mli, .slice mpa mpn mpc, .slice msa msn msc, .slice mya myn myc] 36)).drew := (Kp.refl Nu _).drew
            have TS : ∀ W, Kp Nu wr W → Calls Tryz.prog 20 #[.pointer (some ⟨b, 0, none⟩), .int .u8 x, .agg #[.int .u8 mk, .int .u64 mseq, .int .u64 mkey, .int .u64 mhi, .slice mva mvn mvc, .slice moa mon moc, .bool mhas, .int .u8 mof, .int .u8 mst, .int .u8 mhost, .int .u32 mgr, .int .u32 mbo, .int .u64 mma, .int .u8 mli, .slice mpa mpn mpc, .slice msa msn msc, .slice mya myn myc]] W fun e w' => e = .returned (.tuple #[.slice none 0 0, .int .i64 123]) ∧ Kp Nu W w' := fun W kW => by obtain ⟨D, hc⟩ := Sr.cl; exact take_stray (hc.cb.nu kW) (⟨mk, mseq, mkey, mhi, ⟨mva, mvn, mvc⟩, ⟨moa, mon, moc⟩, mhas, mof, mst, mhost, mgr, mbo, mma, mli, ⟨mpa, mpn, mpc⟩, ⟨msa, msn, msc⟩, ⟨mya, myn, myc⟩⟩ : Mg) x hxb.1 (by have := hxb.2; omega) hk0.1 hk0.2 (.inl ⟨n6, n7⟩)
            have hcd : (wr.alloc (.cells #[.int .u8 mk, .int .u64 mseq, .int .u64 mkey, .int .u64 mhi, .slice mva mvn mvc, .slice moa mon moc, .bool mhas, .int .u8 mof, .int .u8 mst, .int .u8 mhost, .int .u32 mgr, .int .u32 mbo, .int .u64 mma, .int .u8 mli, .slice mpa mpn mpc, .slice msa msn msc, .slice mya myn myc] 36)).drew.cell? (fa'.add i) = some (.int .u8 x) := hcb
            have HI := hide (And.intro hI.out (And.intro kb dk))
            have TS9 := TS _ (kb.andNu dk)
            clear TS Sr ka kb dk hI
            go_wp2_with (first | (guard_target =~ wpList _ _ _ ({ dst := _, op := Op.load 36 (Operand.tmp 99), type := _, pos := _, after := _, guard := _ } :: _) _ _; refine wpList_load_mid rfl 36 (.tmp 99) rfl bm (off + i * 17) rfl _ _ RNG Tryz.underlying36 rfl info36 ?_) | (guard_target =~ wpList _ _ _ ({ dst := none, op := Op.store 36 (Operand.tmp 21) (Operand.tmp 100), type := _, pos := _, after := _, guard := _ } :: _) _ _; refine wpList_store_new 36 17 (.tmp 21) (.tmp 100) rfl rfl info36 _ _ _ rfl rfl (by simp) rfl rfl (by simp [Value.oneCell']) ?_))
            refine str22 (fun _ _ _ _ _ h => h) mixed b wr.heap.size fa' _ _ i x [.int .u8 mk, .int .u64 mseq, .int .u64 mkey, .int .u64 mhi, .slice mva mvn mvc, .slice moa mon moc, .bool mhas, .int .u8 mof, .int .u8 mst, .int .u8 mhost, .int .u32 mgr, .int .u32 mbo, .int .u64 mma, .int .u8 mli, .slice mpa mpn mpc, .slice msa msn msc, .slice mya myn myc] (.slice none 0 0) (.int .i64 123) _ rfl rfl rfl rfl rfl hlf hfl' rfl hcd (range_of (heap_new wr (.cells #[.int .u8 mk, .int .u64 mseq, .int .u64 mkey, .int .u64 mhi, .slice mva mvn mvc, .slice moa mon moc, .bool mhas, .int .u8 mof, .int .u8 mst, .int .u8 mhost, .int .u32 mgr, .int .u32 mbo, .int .u64 mma, .int .u8 mli, .slice mpa mpn mpc, .slice msa msn msc, .slice mya myn myc] 36))) TS9 ?_
            intro w9 hk9
            have K9 := hide (((HI.out.1.andNu HI.out.2.1).andNu HI.out.2.2).andNu hk9)
            clear TS9 hk9 HI
            go_frame
            go_wp2_with fail
            refine (NM _ 123).mono ?_; rintro e w' ⟨rfl, hw⟩
            obtain rfl := hw.symm
            clear hw
            go_wp2
            exact ⟨⟨i + 1, by go_num, by omega, K9⟩, by simp [intOf]; omega⟩
    · have hge : ¬ ((i : Int) < (ms.length : Int) ∧ (i : Int) < (fs.length : Int)) := fun q => hlt ⟨by omega, by omega⟩
      obtain ⟨D, hc⟩ := Sr.cl
      obtain ⟨B, tvb, hT⟩ := Sr.tb
      have OU := outcome_ok hc.cb rfl rfl
      simp only [Cs.outc, Cs.sn] at OU
      have HSr := hide Sr
      clear hI hc hT Sr
      by_cases hlm : (i : Int) < (ms.length : Int)
      · have hlf : ¬ (i : Int) < (fs.length : Int) := fun q => hge ⟨hlm, q⟩
        go_wp2_with fail
        refine OU.mono ?_; rintro e w10 ⟨rfl, hk10⟩
        have ka := hk10.andAlloc (.cells #[.int .u8 1, .int .u64 2, .int .u8 0, .slice none 0 0, .slice none 0 0, .int .u64 0, .int .u8 0, .int .i64 1, .int .i64 0] 55)
        have S10 := HSr.out.nu ka
        have no := heap_new w10 (.cells #[.int .u8 1, .int .u64 2, .int .u8 0, .slice none 0 0, .slice none 0 0, .int .u64 0, .int .u8 0, .int .i64 1, .int .i64 0] 55)
        obtain ⟨D10, hc10⟩ := S10.cl
        obtain ⟨B10, tv10, hT10⟩ := S10.tb
        have HI := hints_any hc10.cb hT10
        have H10 := hide (And.intro S10 no)
        clear OU hk10 ka S10 no hc10 hT10
        go_wp2_with (guard_target =~ wpList _ _ _ ({ dst := none, op := Op.store 55 (Operand.tmp 26) (Operand.tmp 155), type := _, pos := _, after := _, guard := _ } :: _) _ _; refine wpList_store_new 55 9 (.tmp 26) (.tmp 155) rfl rfl info55 _ _ _ rfl rfl (by simp) rfl rfl (by simp [Value.oneCell']) ?_)
        refine HI.mono ?_; rintro e w11 ⟨u, rfl, HU, hk11⟩
        obtain ⟨g11, cap11, rfl, _, _, _⟩ := own_three HU.out rfl
        have S11 := H10.out.1.nu hk11
        have o11 := hide (box_k H10.out.2 hk11)
        have w11o := hide S11.ob
        have SO := sameOutcome_true w11 1 2 0 0 0 1 0 [] none none none none 0 0 0 0 (.inl ⟨rfl, rfl⟩) (.inl ⟨rfl, rfl⟩) (fun _ h => by cases h)
        simp only [List.length_nil] at SO
        have H11 := hide S11
        clear HI HU hk11 S11 H10
        go_wp2_with (first | (guard_target =~ wpList _ _ _ ({ dst := _, op := Op.load 55 (Operand.tmp 19), type := _, pos := _, after := _, guard := _ } :: _) _ _; refine wpList_load_all 55 9 (.tmp 19) rfl rfl info55 _ Tryz.underlying55 rfl _ rfl w11o.out rfl ?_) | (guard_target =~ wpList _ _ _ ({ dst := _, op := Op.load 55 (Operand.tmp 26), type := _, pos := _, after := _, guard := _ } :: _) _ _; refine wpList_load_all 55 9 (.tmp 26) rfl rfl info55 _ Tryz.underlying55 rfl _ rfl o11.out rfl ?_))
        refine SO.mono ?_; rintro e w12 ⟨rfl, hk12⟩
        have S12 := H11.out.nu hk12
        have bx12 := hide S12.bx
        have fo2 := cellAt S12.fo 2 (v := .int .u64 2) rfl
        have AN := answer_ok w12 k key hi lim 2 st v.a o.a v.n v.c o.n o.c has HRR.out.1.1 HRR.out.1.2 HRQ.out.hi.1 HRQ.out.hi.2 (by omega) (by omega) HST.out.1 HST.out.2
        have H12 := hide S12
        clear SO hk12 S12 H11 o11 w11o
        go_wp2_with (guard_target =~ wpList _ _ _ ({ dst := _, op := Op.load 26 (Operand.tmp 6), type := _, pos := _, after := _, guard := _ } :: _) _ _; refine wpList_load_all 26 7 (.tmp 6) rfl rfl info26 _ Tryz.underlying26 rfl _ rfl bx12.out rfl ?_)
        refine AN.mono ?_; rintro e w13 ⟨st', rfl, HS', hk13⟩
        obtain ⟨hstk, hst0, hst1⟩ := HS'.out
        have hyh : (k = 5 → key ≤ yhi k hi ∧ yhi k hi ≤ hi) ∧ (¬ k = 5 → yhi k hi = 0) ∧ 0 ≤ yhi k hi ∧ yhi k hi < 18446744073709551616 := by
          have hh := HRQ.out.hi
          refine ⟨fun e5 => ?_, fun n5 => by unfold yhi; rw [if_neg n5], ?_, ?_⟩
          · have e1 : yhi k hi = hi := by unfold yhi; rw [if_pos e5]
            have h3 := HRR.out.2.1 3 (by rw [e5]; unfold ul rqM; simp)
            rw [e1]
            exact ⟨h3, Int.le_refl _⟩
          · unfold yhi; split <;> omega
          · unfold yhi; split <;> omega
        generalize yhi k hi = yh at *
        have kA := hk13.andAlloc (.cells #[.int .u8 6, .int .u64 2, .int .u64 0, .int .u64 yh, .slice none 0 0, .slice none 0 0, .bool false, .int .u8 k, .int .u8 st', .int .u8 0, .int .u32 0, .int .u32 0, .int .u64 0, .int .u8 0, .slice none 0 0, .slice none 0 0, .slice none 0 0] 36)
        have S13 := H12.out.nu kA
        obtain ⟨D13, hc13⟩ := S13.cl
        have fo0 := cellAt S13.fo 0 (v := .int .u8 0) rfl
        have TR := take_reply hc13.cb 0 k st' yh rfl HRR.out.1.1 HRR.out.1.2 hyh.1 hyh.2.1 HRQ.out.lim.1 HRQ.out.lim.2 hst0 hst1 hstk hyh.2.2.1 hyh.2.2.2 rfl (by show (1 : Int) ≤ 2; omega) (by show (2 : Int) < _; omega) (Int.le_refl _) (by show (0 : Int) < hosts; omega) hh1
        have H13 := hide (And.intro S13 (And.intro (heap_new w13 (.cells #[.int .u8 6, .int .u64 2, .int .u64 0, .int .u64 yh, .slice none 0 0, .slice none 0 0, .bool false, .int .u8 k, .int .u8 st', .int .u8 0, .int .u32 0, .int .u32 0, .int .u64 0, .int .u8 0, .slice none 0 0, .slice none 0 0, .slice none 0 0] 36)) (hc13.cb.lt)))
        have HYH := hide hyh
        clear AN HS' hk13 kA S13 hc13 H12 bx12 fo2 hyh
        go_wp2_with (first | (guard_target =~ wpList _ _ _ ({ dst := none, op := Op.store 36 (Operand.tmp 29) (Operand.tmp 173), type := _, pos := _, after := _, guard := _ } :: _) _ _; refine wpList_store_new 36 17 (.tmp 29) (.tmp 173) rfl rfl info36 _ _ _ rfl rfl (by simp) rfl rfl (by simp [Value.oneCell']) ?_) | (guard_target =~ wpList _ _ _ ({ dst := _, op := Op.load 36 (Operand.tmp 29), type := _, pos := _, after := _, guard := _ } :: _) _ _; refine wpList_load_all 36 17 (.tmp 29) rfl rfl info36 _ Tryz.underlying36 rfl _ rfl (heap_new w13 _) rfl ?_))
        refine TR.mono ?_; rintro e w14 ⟨rfl, hc14, hk14⟩
        obtain ⟨S13, yb13, hb13⟩ := H13.out
        have hfne : bF ≠ b := fun e => by have h1 := S13.fo; obtain ⟨D, hc⟩ := S13.cl; have h2 := hc.cb; unfold CB at h2; rw [← e, h1] at h2; simp at h2
        have hyne : w13.heap.size ≠ b := fun e => by obtain ⟨D, hc⟩ := S13.cl; have h2 := hc.cb; unfold CB at h2; rw [← e, yb13] at h2; simp at h2
        have fo14 := (hk14.block _ (blk_lt S13.fo) (fun e => hfne e)).trans S13.fo
        have yb14 := (hk14.block _ (blk_lt yb13) (fun e => hyne e)).trans yb13
        have kw14 : Kp Nu w w14 := S13.kp.trans hk14 (fun q hq e => by have e' : q = b := e; have := S13.lb; omega)
        have OU := outcome_ok hc14 rfl rfl
        simp only [Cs.outc, Cs.don, Cs.sn] at OU
        have H14 := hide (And.intro hc14 (And.intro fo14 (And.intro yb14 kw14)))
        clear TR hc14 hk14 S13 yb13 hb13 hfne hyne fo14 yb14 kw14 H13 fo0
        go_wp2_with fail
        refine OU.mono ?_; rintro e w15 ⟨rfl, hk15⟩
        obtain ⟨hc14, fo14, yb14, kw14⟩ := H14.out
        have kB := hk15.andAlloc (.cells #[.int .u8 2, .int .u64 2, .int .u8 st', .slice none 0 0, .slice none 0 0, .int .u64 yh, .int .u8 0, .int .i64 1, .int .i64 0] 55)
        have hc15 := hc14.nu kB
        have fo15 := cellAt (box_k fo14 kB) 0 (v := .int .u8 0) rfl
        have yb15 := hide (box_k yb14 kB)
        have d15 := heap_new w15 (.cells #[.int .u8 2, .int .u64 2, .int .u8 st', .slice none 0 0, .slice none 0 0, .int .u64 yh, .int .u8 0, .int .i64 1, .int .i64 0] 55)
        have TS := take_stray hc15 ⟨6, 2, 0, yh, Sl.nil, Sl.nil, false, k, st', 0, 0, 0, 0, 0, Sl.nil, Sl.nil, Sl.nil⟩ 0 (Int.le_refl _) (by omega) (by show (0 : Int) ≤ 6; omega) (by show (6 : Int) < 256; omega) (.inr (.inl (by show ¬ (2 : Int) = 1; omega)))
        simp only [Mg.cells, Sl.val, Sl.nil] at TS
        have H15 := hide (And.intro hc15 (And.intro d15 (kw14.andNu kB)))
        clear OU hk15 hc14 fo14 yb14 kw14 kB hc15 d15 H14
        go_wp2_with (first | (guard_target =~ wpList _ _ _ ({ dst := none, op := Op.store 55 (Operand.tmp 30) (Operand.tmp 183), type := _, pos := _, after := _, guard := _ } :: _) _ _; refine wpList_store_new 55 9 (.tmp 30) (.tmp 183) rfl rfl info55 _ _ _ rfl rfl (by simp) rfl rfl (by simp [Value.oneCell']) ?_) | (guard_target =~ wpList _ _ _ ({ dst := _, op := Op.load 36 (Operand.tmp 29), type := _, pos := _, after := _, guard := _ } :: _) _ _; refine wpList_load_all 36 17 (.tmp 29) rfl rfl info36 _ Tryz.underlying36 rfl _ rfl yb15.out rfl ?_))
        refine TS.mono ?_; rintro e w16 ⟨rfl, hk16⟩
        obtain ⟨hc15, d15, kw15⟩ := H15.out
        have OU := outcome_ok (hc15.nu hk16) rfl rfl
        simp only [Cs.outc, Cs.don, Cs.sn] at OU
        have H16 := hide (And.intro (box_k d15 hk16) (kw15.andNu hk16))
        clear TS hk16 hc15 d15 kw15 H15 yb15 fo15
        go_wp2_with fail
        refine OU.mono ?_; rintro e w17 ⟨rfl, hk17⟩
        obtain ⟨d16, kw16⟩ := H16.out
        have kC := hk17.andAlloc (.cells #[.int .u8 2, .int .u64 2, .int .u8 st', .slice none 0 0, .slice none 0 0, .int .u64 yh, .int .u8 0, .int .i64 1, .int .i64 0] 55)
        have d17 := hide (box_k d16 kC)
        have n17 := hide (heap_new w17 (.cells #[.int .u8 2, .int .u64 2, .int .u8 st', .slice none 0 0, .slice none 0 0, .int .u64 yh, .int .u8 0, .int .i64 1, .int .i64 0] 55))
        have p17 := cellAt d17.out 0 (v := .int .u8 2) rfl
        have SO := fun W => sameOutcome_true W 2 2 st' yh 0 1 0 [] none none none none 0 0 0 0 (.inl ⟨rfl, rfl⟩) (.inl ⟨rfl, rfl⟩) (fun _ h => by cases h)
        simp only [List.length_nil] at SO
        have H17 := hide (kw16.andNu kC)
        clear OU hk17 d16 kw16 kC H16
        go_wp2_with (first | (guard_target =~ wpList _ _ _ ({ dst := none, op := Op.store 55 (Operand.tmp 31) (Operand.tmp 193), type := _, pos := _, after := _, guard := _ } :: _) _ _; refine wpList_store_new 55 9 (.tmp 31) (.tmp 193) rfl rfl info55 _ _ _ rfl rfl (by simp) rfl rfl (by simp [Value.oneCell']) ?_) | (guard_target =~ wpList _ _ _ ({ dst := _, op := Op.load 55 (Operand.tmp 30), type := _, pos := _, after := _, guard := _ } :: _) _ _; refine wpList_load_all 55 9 (.tmp 30) rfl rfl info55 _ Tryz.underlying55 rfl _ rfl d17.out rfl ?_) | (guard_target =~ wpList _ _ _ ({ dst := _, op := Op.load 55 (Operand.tmp 31), type := _, pos := _, after := _, guard := _ } :: _) _ _; refine wpList_load_all 55 9 (.tmp 31) rfl rfl info55 _ Tryz.underlying55 rfl _ rfl n17.out rfl ?_))
        refine (SO _).mono ?_; rintro e w18 ⟨rfl, hk18⟩
        have p18 := cellAt (box_k d17.out hk18) 0 (v := .int .u8 2) rfl
        have H18 := hide (H17.out.andNu hk18)
        clear SO hk18 d17 n17 p17 H17
        go_wp2_with fail
        refine (NM _ 0).mono ?_; rintro e w' ⟨rfl, hw⟩
        obtain rfl := hw.symm
        clear hw
        go_wp2_with fail
        refine (NM _ 123).mono ?_; rintro e w' ⟨rfl, hw⟩
        obtain rfl := hw.symm
        clear hw NM
        go_wp2
        go_ret
        exact ⟨rfl, H18.out⟩
      · go_wp2_with fail
        refine OU.mono ?_; rintro e w10 ⟨rfl, hk10⟩
        have ka := hk10.andAlloc (.cells #[.int .u8 1, .int .u64 2, .int .u8 0, .slice none 0 0, .slice none 0 0, .int .u64 0, .int .u8 0, .int .i64 1, .int .i64 0] 55)
        have S10 := HSr.out.nu ka
        have no := heap_new w10 (.cells #[.int .u8 1, .int .u64 2, .int .u8 0, .slice none 0 0, .slice none 0 0, .int .u64 0, .int .u8 0, .int .i64 1, .int .i64 0] 55)
        obtain ⟨D10, hc10⟩ := S10.cl
        obtain ⟨B10, tv10, hT10⟩ := S10.tb
        have HI := hints_any hc10.cb hT10
        have H10 := hide (And.intro S10 no)
        clear OU hk10 ka S10 no hc10 hT10
        go_wp2_with (guard_target =~ wpList _ _ _ ({ dst := none, op := Op.store 55 (Operand.tmp 26) (Operand.tmp 155), type := _, pos := _, after := _, guard := _ } :: _) _ _; refine wpList_store_new 55 9 (.tmp 26) (.tmp 155) rfl rfl info55 _ _ _ rfl rfl (by simp) rfl rfl (by simp [Value.oneCell']) ?_)
        refine HI.mono ?_; rintro e w11 ⟨u, rfl, HU, hk11⟩
        obtain ⟨g11, cap11, rfl, _, _, _⟩ := own_three HU.out rfl
        have S11 := H10.out.1.nu hk11
        have o11 := hide (box_k H10.out.2 hk11)
        have w11o := hide S11.ob
        have SO := sameOutcome_true w11 1 2 0 0 0 1 0 [] none none none none 0 0 0 0 (.inl ⟨rfl, rfl⟩) (.inl ⟨rfl, rfl⟩) (fun _ h => by cases h)
        simp only [List.length_nil] at SO
        have H11 := hide S11
        clear HI HU hk11 S11 H10
        go_wp2_with (first | (guard_target =~ wpList _ _ _ ({ dst := _, op := Op.load 55 (Operand.tmp 19), type := _, pos := _, after := _, guard := _ } :: _) _ _; refine wpList_load_all 55 9 (.tmp 19) rfl rfl info55 _ Tryz.underlying55 rfl _ rfl w11o.out rfl ?_) | (guard_target =~ wpList _ _ _ ({ dst := _, op := Op.load 55 (Operand.tmp 26), type := _, pos := _, after := _, guard := _ } :: _) _ _; refine wpList_load_all 55 9 (.tmp 26) rfl rfl info55 _ Tryz.underlying55 rfl _ rfl o11.out rfl ?_))
        refine SO.mono ?_; rintro e w12 ⟨rfl, hk12⟩
        have S12 := H11.out.nu hk12
        have bx12 := hide S12.bx
        have fo2 := cellAt S12.fo 2 (v := .int .u64 2) rfl
        have AN := answer_ok w12 k key hi lim 2 st v.a o.a v.n v.c o.n o.c has HRR.out.1.1 HRR.out.1.2 HRQ.out.hi.1 HRQ.out.hi.2 (by omega) (by omega) HST.out.1 HST.out.2
        have H12 := hide S12
        clear SO hk12 S12 H11 o11 w11o
        go_wp2_with (guard_target =~ wpList _ _ _ ({ dst := _, op := Op.load 26 (Operand.tmp 6), type := _, pos := _, after := _, guard := _ } :: _) _ _; refine wpList_load_all 26 7 (.tmp 6) rfl rfl info26 _ Tryz.underlying26 rfl _ rfl bx12.out rfl ?_)
        refine AN.mono ?_; rintro e w13 ⟨st', rfl, HS', hk13⟩
        obtain ⟨hstk, hst0, hst1⟩ := HS'.out
        have hyh : (k = 5 → key ≤ yhi k hi ∧ yhi k hi ≤ hi) ∧ (¬ k = 5 → yhi k hi = 0) ∧ 0 ≤ yhi k hi ∧ yhi k hi < 18446744073709551616 := by
          have hh := HRQ.out.hi
          refine ⟨fun e5 => ?_, fun n5 => by unfold yhi; rw [if_neg n5], ?_, ?_⟩
          · have e1 : yhi k hi = hi := by unfold yhi; rw [if_pos e5]
            have h3 := HRR.out.2.1 3 (by rw [e5]; unfold ul rqM; simp)
            rw [e1]
            exact ⟨h3, Int.le_refl _⟩
          · unfold yhi; split <;> omega
          · unfold yhi; split <;> omega
        generalize yhi k hi = yh at *
        have kA := hk13.andAlloc (.cells #[.int .u8 6, .int .u64 2, .int .u64 0, .int .u64 yh, .slice none 0 0, .slice none 0 0, .bool false, .int .u8 k, .int .u8 st', .int .u8 0, .int .u32 0, .int .u32 0, .int .u64 0, .int .u8 0, .slice none 0 0, .slice none 0 0, .slice none 0 0] 36)
        have S13 := H12.out.nu kA
        obtain ⟨D13, hc13⟩ := S13.cl
        have fo0 := cellAt S13.fo 0 (v := .int .u8 0) rfl
        have TR := take_reply hc13.cb 0 k st' yh rfl HRR.out.1.1 HRR.out.1.2 hyh.1 hyh.2.1 HRQ.out.lim.1 HRQ.out.lim.2 hst0 hst1 hstk hyh.2.2.1 hyh.2.2.2 rfl (by show (1 : Int) ≤ 2; omega) (by show (2 : Int) < _; omega) (Int.le_refl _) (by show (0 : Int) < hosts; omega) hh1
        have H13 := hide (And.intro S13 (And.intro (heap_new w13 (.cells #[.int .u8 6, .int .u64 2, .int .u64 0, .int .u64 yh, .slice none 0 0, .slice none 0 0, .bool false, .int .u8 k, .int .u8 st', .int .u8 0, .int .u32 0, .int .u32 0, .int .u64 0, .int .u8 0, .slice none 0 0, .slice none 0 0, .slice none 0 0] 36)) (hc13.cb.lt)))
        have HYH := hide hyh
        clear AN HS' hk13 kA S13 hc13 H12 bx12 fo2 hyh
        go_wp2_with (first | (guard_target =~ wpList _ _ _ ({ dst := none, op := Op.store 36 (Operand.tmp 29) (Operand.tmp 173), type := _, pos := _, after := _, guard := _ } :: _) _ _; refine wpList_store_new 36 17 (.tmp 29) (.tmp 173) rfl rfl info36 _ _ _ rfl rfl (by simp) rfl rfl (by simp [Value.oneCell']) ?_) | (guard_target =~ wpList _ _ _ ({ dst := _, op := Op.load 36 (Operand.tmp 29), type := _, pos := _, after := _, guard := _ } :: _) _ _; refine wpList_load_all 36 17 (.tmp 29) rfl rfl info36 _ Tryz.underlying36 rfl _ rfl (heap_new w13 _) rfl ?_))
        refine TR.mono ?_; rintro e w14 ⟨rfl, hc14, hk14⟩
        obtain ⟨S13, yb13, hb13⟩ := H13.out
        have hfne : bF ≠ b := fun e => by have h1 := S13.fo; obtain ⟨D, hc⟩ := S13.cl; have h2 := hc.cb; unfold CB at h2; rw [← e, h1] at h2; simp at h2
        have hyne : w13.heap.size ≠ b := fun e => by obtain ⟨D, hc⟩ := S13.cl; have h2 := hc.cb; unfold CB at h2; rw [← e, yb13] at h2; simp at h2
        have fo14 := (hk14.block _ (blk_lt S13.fo) (fun e => hfne e)).trans S13.fo
        have yb14 := (hk14.block _ (blk_lt yb13) (fun e => hyne e)).trans yb13
        have kw14 : Kp Nu w w14 := S13.kp.trans hk14 (fun q hq e => by have e' : q = b := e; have := S13.lb; omega)
        have OU := outcome_ok hc14 rfl rfl
        simp only [Cs.outc, Cs.don, Cs.sn] at OU
        have H14 := hide (And.intro hc14 (And.intro fo14 (And.intro yb14 kw14)))
        clear TR hc14 hk14 S13 yb13 hb13 hfne hyne fo14 yb14 kw14 H13 fo0
        go_wp2_with fail
        refine OU.mono ?_; rintro e w15 ⟨rfl, hk15⟩
        obtain ⟨hc14, fo14, yb14, kw14⟩ := H14.out
        have kB := hk15.andAlloc (.cells #[.int .u8 2, .int .u64 2, .int .u8 st', .slice none 0 0, .slice none 0 0, .int .u64 yh, .int .u8 0, .int .i64 1, .int .i64 0] 55)
        have hc15 := hc14.nu kB
        have fo15 := cellAt (box_k fo14 kB) 0 (v := .int .u8 0) rfl
        have yb15 := hide (box_k yb14 kB)
        have d15 := heap_new w15 (.cells #[.int .u8 2, .int .u64 2, .int .u8 st', .slice none 0 0, .slice none 0 0, .int .u64 yh, .int .u8 0, .int .i64 1, .int .i64 0] 55)
        have TS := take_stray hc15 ⟨6, 2, 0, yh, Sl.nil, Sl.nil, false, k, st', 0, 0, 0, 0, 0, Sl.nil, Sl.nil, Sl.nil⟩ 0 (Int.le_refl _) (by omega) (by show (0 : Int) ≤ 6; omega) (by show (6 : Int) < 256; omega) (.inr (.inl (by show ¬ (2 : Int) = 1; omega)))
        simp only [Mg.cells, Sl.val, Sl.nil] at TS
        have H15 := hide (And.intro hc15 (And.intro d15 (kw14.andNu kB)))
        clear OU hk15 hc14 fo14 yb14 kw14 kB hc15 d15 H14
        go_wp2_with (first | (guard_target =~ wpList _ _ _ ({ dst := none, op := Op.store 55 (Operand.tmp 30) (Operand.tmp 183), type := _, pos := _, after := _, guard := _ } :: _) _ _; refine wpList_store_new 55 9 (.tmp 30) (.tmp 183) rfl rfl info55 _ _ _ rfl rfl (by simp) rfl rfl (by simp [Value.oneCell']) ?_) | (guard_target =~ wpList _ _ _ ({ dst := _, op := Op.load 36 (Operand.tmp 29), type := _, pos := _, after := _, guard := _ } :: _) _ _; refine wpList_load_all 36 17 (.tmp 29) rfl rfl info36 _ Tryz.underlying36 rfl _ rfl yb15.out rfl ?_))
        refine TS.mono ?_; rintro e w16 ⟨rfl, hk16⟩
        obtain ⟨hc15, d15, kw15⟩ := H15.out
        have OU := outcome_ok (hc15.nu hk16) rfl rfl
        simp only [Cs.outc, Cs.don, Cs.sn] at OU
        have H16 := hide (And.intro (box_k d15 hk16) (kw15.andNu hk16))
        clear TS hk16 hc15 d15 kw15 H15 yb15 fo15
        go_wp2_with fail
        refine OU.mono ?_; rintro e w17 ⟨rfl, hk17⟩
        obtain ⟨d16, kw16⟩ := H16.out
        have kC := hk17.andAlloc (.cells #[.int .u8 2, .int .u64 2, .int .u8 st', .slice none 0 0, .slice none 0 0, .int .u64 yh, .int .u8 0, .int .i64 1, .int .i64 0] 55)
        have d17 := hide (box_k d16 kC)
        have n17 := hide (heap_new w17 (.cells #[.int .u8 2, .int .u64 2, .int .u8 st', .slice none 0 0, .slice none 0 0, .int .u64 yh, .int .u8 0, .int .i64 1, .int .i64 0] 55))
        have p17 := cellAt d17.out 0 (v := .int .u8 2) rfl
        have SO := fun W => sameOutcome_true W 2 2 st' yh 0 1 0 [] none none none none 0 0 0 0 (.inl ⟨rfl, rfl⟩) (.inl ⟨rfl, rfl⟩) (fun _ h => by cases h)
        simp only [List.length_nil] at SO
        have H17 := hide (kw16.andNu kC)
        clear OU hk17 d16 kw16 kC H16
        go_wp2_with (first | (guard_target =~ wpList _ _ _ ({ dst := none, op := Op.store 55 (Operand.tmp 31) (Operand.tmp 193), type := _, pos := _, after := _, guard := _ } :: _) _ _; refine wpList_store_new 55 9 (.tmp 31) (.tmp 193) rfl rfl info55 _ _ _ rfl rfl (by simp) rfl rfl (by simp [Value.oneCell']) ?_) | (guard_target =~ wpList _ _ _ ({ dst := _, op := Op.load 55 (Operand.tmp 30), type := _, pos := _, after := _, guard := _ } :: _) _ _; refine wpList_load_all 55 9 (.tmp 30) rfl rfl info55 _ Tryz.underlying55 rfl _ rfl d17.out rfl ?_) | (guard_target =~ wpList _ _ _ ({ dst := _, op := Op.load 55 (Operand.tmp 31), type := _, pos := _, after := _, guard := _ } :: _) _ _; refine wpList_load_all 55 9 (.tmp 31) rfl rfl info55 _ Tryz.underlying55 rfl _ rfl n17.out rfl ?_))
        refine (SO _).mono ?_; rintro e w18 ⟨rfl, hk18⟩
        have p18 := cellAt (box_k d17.out hk18) 0 (v := .int .u8 2) rfl
        have H18 := hide (H17.out.andNu hk18)
        clear SO hk18 d17 n17 p17 H17
        go_wp2_with fail
        refine (NM _ 0).mono ?_; rintro e w' ⟨rfl, hw⟩
        obtain rfl := hw.symm
        clear hw
        go_wp2_with fail
        refine (NM _ 123).mono ?_; rintro e w' ⟨rfl, hw⟩
        obtain rfl := hw.symm
        clear hw NM
        go_wp2
        go_ret
        exact ⟨rfl, H18.out⟩
end Go.Proofs.YtmlnglillgplfaaGreat.Cl
