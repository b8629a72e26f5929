import Derived.Test.YtmlnglillgplfaaGreatCmD
import Derived.Test.YtmlnglillgplfaaGreatCrD
namespace Go.Proofs.YtmlnglillgplfaaGreat.Cl
open Go.RowKit Go.Maps
set_option linter.unusedVariables false
theorem run_cm (hosts : Int) (hb mb : Nat) (k key hi : Int) (v o : Sl) (has : Bool) (lim : Int) : Cs.run hosts 5 5 hb mb k key hi v o has lim = Cs.cm hosts hb mb k key hi v o has lim 0 0 := rfl
theorem Rd.cell {w : World} {u : Value} {ys : List Int} (h : Rd w u ys) {i : Nat} {x : Int} (hx : ys[i]? = some x) : ∃ a cap, u = .slice (some a) ys.length cap ∧ w.cell? (a.add i) = some (.int .u8 x) := by
  rcases h with ⟨rfl, rfl⟩ | ⟨a, cap, rfl, hc⟩
  · simp at hx
  · exact ⟨a, cap, rfl, hc i _ (by simp [cs, hx])⟩
/-- the state of a round -/
structure Cm (w wr : World) (hosts : Int) (b hb mb B bT bF : Nat) (k key hi : Int) (v o v1 o1 v0 o0 : Sl) (has : Bool) (lim : Int) (V O : List Int) (H a h : Nat) : Prop where
  st : ∃ f nb D, Cl wr b (Cs.cm hosts hb mb k key hi v o has lim a h) nb D V O ∧ Sn D f H h ∧ nb ≤ h + 1 ∧ wr.heap[bT]? = some (.cells (snL f).toArray 65 (0, 0))
  tb : ∃ tv L, Rg.Tb B wr hb 64 tv L
  bx : wr.heap[w.heap.size]? = some (.cells #[.int .u8 k, .int .u64 key, .int .u64 hi, .slice v0.a v0.n v0.c, .slice o0.a o0.n o0.c, .bool has, .int .u8 lim] 26 (0, 0))
  fb : wr.heap[bF]? = some (.cells (out1 k key hi v1 o1 has lim) 38 (0, 0))
  kp : Kp Nu w wr
theorem Cl.bt65 {w w' : World} {b nb z : Nat} {s : Cs} {D : DataW Unit} {V O : List Int} {c : Array Value} (h : Cl w b s nb D V O) (k : Kp (fun i => i = z) w w') (hz : w.heap[z]? = some (.cells c 65 (0, 0))) : Cl w' b s nb D V O := by
  have nb5 : ∀ i, i = z → ∀ c, w.heap[i]? ≠ some (.cells c 5 (0, 0)) := fun i hi c hx => by rw [hi, hz] at hx; simp at hx
  have h1 : b ≠ z := fun e => by have hc := h.cb; unfold CB at hc; rw [e, hz] at hc; simp at hc
  have h2 : s.mb ≠ z := fun e => by obtain ⟨es, cl, hm⟩ := h.am.obj; rw [e, hz] at hm; cases hm
  exact ⟨h.cb.kp k h1, h.am.keep (k.block _ h.am.lt h2), h.v.kp k nb5, h.o.kp k nb5, h.lv, h.lo⟩
set_option maxRecDepth 100000 in
set_option maxHeartbeats 4000000 in
theorem calm_walk (w : World) (hosts : Int) (k key hi lim : Int) (v o : Sl) (has : Bool) (V O : List Int) (hv : Ct w v V) (ho : Ct w o O) (hB : RqB k key hi lim) (la : Option Addr) (lc : Nat) (ls : List Int) (hls : Rd w (.slice la ls.length lc) ls) (bls : Byt ls) (hll : ls.length ≤ 140737488351232) :
    Calls Tryz.prog 5 #[.int .i64 hosts, .agg #[.int .u8 k, .int .u64 key, .int .u64 hi, v.val, o.val, .bool has, .int .u8 lim], .slice la ls.length lc] w fun e w' => e = .returned (.bool true) ∧ Kp Nu w w' := by
  have LI := fun W => limits_any W hosts 5 5
  have MB := fun W (kp : Kp Nu w W) => mayBe_any W k key hi lim v o has V O hB (hv.nu kp) (ho.nu kp)
  have BG := fun W (kp : Kp Nu w W) (L : Lim hosts 5 5) (hR : RqOk k key hi v o has lim) => begun_tb W hosts 5 5 L.h0 L.h1 L.p0 L.p1 L.t0 L.t1 k key hi lim v o has V O (hv.nu kp) (ho.nu kp) hB hR
  have HKY := hide (And.intro hB.key.1 hB.key.2)
  have HLS := hide (And.intro hls bls)
  have hll' : (ls.length : Int) ≤ 140737488351232 := by omega
  clear hv ho hB hls bls hll
  unfold Sl.val at MB BG ⊢
  go_enter Tryz.func5, Tryz.ntmps5
  go_wp2_with fail
  refine (LI _).mono ?_; rintro e w' ⟨⟨bo, rfl, hL⟩, hw⟩
  obtain rfl := hw.symm
  have HL := hide hL
  clear LI hw hL
  go_wp2_with (guard_target =~ wpList _ _ _ ({ dst := _, op := Op.load 26 (Operand.tmp 4), type := _, pos := _, after := _, guard := _ } :: _) _ _; refine wpList_load_all 26 7 (.tmp 4) rfl rfl info26 _ Tryz.underlying26 rfl _ rfl (heap_new w _) rfl ?_)
  refine (MB _ (Kp.alloc _ _ _)).mono ?_; rintro e w1 ⟨⟨bm, rfl, hR⟩, hk1⟩
  have HR := hide hR
  have HA1 := hide (new_at w _ hk1)
  have HK1 := hide ((Kp.alloc w _ Nu).andNu hk1)
  clear MB hR hk1
  cases bo with
  | false =>
    go_wp2
    go_ret
    exact ⟨rfl, HK1.out⟩
  | true =>
  cases bm with
  | false =>
    go_wp2
    go_ret
    exact ⟨rfl, HK1.out⟩
  | true =>
  have L := HL.out rfl
  have BG1 := BG w1 HK1.out L (HR.out rfl)
  have HLL := hide L
  clear BG L HL HR
  go_wp2_with (guard_target =~ wpList _ _ _ ({ dst := _, op := Op.load 26 (Operand.tmp 4), type := _, pos := _, after := _, guard := _ } :: _) _ _; refine wpList_load_all 26 7 (.tmp 4) rfl rfl info26 _ Tryz.underlying26 rfl _ rfl HA1.out rfl ?_)
  refine BG1.mono ?_; rintro e w2 ⟨b, hb, mb, v', o', v1, o1, rfl, hcl, hv1, ho1, hbl, hml, hT2, hk2⟩
  rw [run_cm] at hcl
  have HCL := hide hcl
  have HT2 := hide hT2
  have HA2 := hide (box_k HA1.out hk2)
  have HK2 := hide (HK1.out.andNu hk2)
  have HBL := hide (And.intro hbl (And.intro hml (And.intro hk2.size (blk_lt HA1.out))))
  clear BG1 hcl hv1 ho1 hbl hml hk2 HA1 hT2
  have y0 := fun q => cellAt (new12 w2 (.cells (out1 k key hi v1 o1 has lim) 38) q) 0 (v := .int .u8 0) rfl
  go_wp2_with (guard_target =~ wpList _ _ _ ({ dst := none, op := Op.store 38 (Operand.tmp 10) (Operand.tmp 36), type := _, pos := _, after := _, guard := _ } :: _) _ _; refine wpList_store_new 38 18 (.tmp 10) (.tmp 36) rfl rfl info38 _ _ _ rfl rfl (by simp) rfl rfl (out1_one _ _ _ _ _ _ _) ?_)
  obtain ⟨w3, hw3⟩ : ∃ w3, (w2.alloc (.cells (out1 k key hi v1 o1 has lim) 38)).alloc (.cells (snL sn0).toArray 65) = w3 := ⟨_, rfl⟩
  have hT3 : w3.heap[w2.heap.size + 1]? = some (.cells (snL sn0).toArray 65 (0, 0)) := by rw [← hw3]; exact new2 w2 _ _
  have hF3 : w3.heap[w2.heap.size]? = some (.cells (out1 k key hi v1 o1 has lim) 38 (0, 0)) := by rw [← hw3]; exact new12 w2 _ _
  have k23 : Kp Nu w2 w3 := by rw [← hw3]; exact (Kp.alloc _ _ _).andAlloc _
  have hcl3 := HCL.out.nu k23
  obtain ⟨tv2, hT2⟩ := HT2.out
  have hTb3 := hT2.nu (kpR' k23)
  have hbt : b < w2.heap.size := HCL.out.cb.lt
  have hmt : mb < w2.heap.size := HCL.out.am.lt
  have hht : hb < w2.heap.size := blk_lt hT2.blk
  have hhl := hT2.low
  change Code.wp _ _ _ _ ((w2.alloc (.cells (out1 k key hi v1 o1 has lim) 38)).alloc (.cells (snL sn0).toArray 65))
  rw [hw3]
  obtain ⟨hh0, hh1, _, _, _, _⟩ := HLL.out
  obtain ⟨H, hH⟩ : ∃ H : Nat, (H : Int) = hosts := ⟨hosts.toNat, by omega⟩
  have C3 : Cm w w3 hosts b hb mb w1.heap.size (w2.heap.size + 1) w2.heap.size k key hi v' o' v1 o1 v o has lim V O H 0 0 := ⟨⟨sn0, 1, _, hcl3, sn_first H (by omega), Nat.le_refl _, hT3⟩, ⟨_, _, hTb3⟩, box_k HA2.out k23, hF3, HK2.out.andNu k23⟩
  have HBT : Hid (w.heap.size ≤ w1.heap.size ∧ w1.heap.size ≤ b ∧ w1.heap.size ≤ mb ∧ w1.heap.size ≤ hb ∧ b < w2.heap.size ∧ mb < w2.heap.size ∧ hb < w2.heap.size ∧ w1.heap.size ≤ w2.heap.size ∧ w.heap.size < w1.heap.size) := by
    have h1 := HK1.out.size
    have h2 := HBL.out
    have h3 : w.heap.size < w1.heap.size := HBL.out.2.2.2
    show _ ∧ _
    omega
  generalize hbF : w2.heap.size = bF at *
  generalize hbB : w1.heap.size = B at *
  have HC3 := hide C3
  have HH := hide hH
  clear C3 hw3 hT3 hF3 k23 hcl3 hT2 hTb3 hbt hmt hht hhl y0 HCL HT2 HA2 HK2 HBL hbF hbB hH HK1
  go_loopw [13, 14, 15] (fun av hv iv wr => ∃ a h i : Nat, av = .int .u8 (a : Int) ∧ hv = .int .i64 (h : Int) ∧ iv = .int .i64 (i : Int) ∧ i ≤ ls.length ∧ (a : Int) < hosts ∧ Hid (Cm w wr hosts b hb mb B (bF + 1) bF k key hi v' o' v1 o1 v o has lim V O H a h)) (fun _ _ iv _ => ls.length - (intOf iv).toNat)
  case atStart => exact ⟨0, 0, 0, rfl, rfl, rfl, Nat.zero_le _, by omega, HC3⟩
  case round =>
    obtain ⟨a, h, i, rfl, rfl, rfl, hi1, hah, hI⟩ := hrel
    have hi0 : (0 : Int) ≤ (i : Int) := by omega
    by_cases hlt : i < ls.length
    · have hltI : (i : Int) < (ls.length : Int) := by omega
      obtain ⟨x, hx⟩ : ∃ x, ls[i]? = some x := ⟨_, List.getElem?_eq_getElem hlt⟩
      obtain ⟨la', lc', e1, hcell⟩ := (HLS.out.1.nu hI.out.kp).cell hx
      simp only [Value.slice.injEq] at e1
      obtain ⟨rfl, _, rfl⟩ := e1
      have hxb := HLS.out.2 x (List.mem_of_getElem? hx)
      obtain ⟨t, ht⟩ : ∃ t : Nat, (t : Int) = x % 16 := ⟨(x % 16).toNat, by omega⟩
      have ht16 : t < 16 := by omega
      have htI : (t : Int) < 16 := by omega
      have ht0 : (0 : Int) ≤ (t : Int) := by omega
      have hrm : x.tmod 16 = (t : Int) := by rw [Int.tmod_eq_emod_of_nonneg (by omega)]; omega
      have hrm' : x % 16 = (t : Int) := ht.symm
      have ew : IntKind.u8.wrap (t : Int) = (t : Int) := wrap8 ⟨by omega, by omega⟩
      clear ht hx hxb
      by_cases hge : (t : Int) ≥ hosts
      · have hge' : ¬ (t : Int) < hosts := by omega
        go_wp2
        exact ⟨⟨a, h, i + 1, rfl, rfl, by go_num, by omega, hah, hI⟩, by simp [intOf]; omega⟩
      · by_cases heq : (t : Int) = (a : Int)
        · have heq' : ((t : Int) == (a : Int)) = true := by simpa using heq
          go_wp2
          exact ⟨⟨a, h, i + 1, rfl, rfl, by go_num, by omega, hah, hI⟩, by simp [intOf]; omega⟩
        · have heq' : ((t : Int) == (a : Int)) = false := by simpa using heq
          obtain ⟨⟨f, nb, D, hcl, sn, hnb, hta⟩, hTb, hbx, hfb, hkw⟩ := hI.out
          have hbt := HBT.out
          have hfl := blk_lt hfb
          have htl := blk_lt hta
          have hth : (t : Int) < hosts := by omega
          have hge2 : ¬ (t : Int) ≥ hosts := hge
          have hh16 := sn.lt
          have hH := HH.out
          have x1 := cellAt hbx 1 (v := .int .u64 key) rfl
          have y2 := cellAt hfb 2 (v := .int .u64 1) rfl
          have ka : Kp Nu wr (wr.alloc (.cells #[.int .u8 7, .int .u64 1, .int .u64 key, .int .u64 key, .slice none 0 0, .slice none 0 0, .bool false, .int .u8 0, .int .u8 0, .int .u8 (t : Int), .int .u32 0, .int .u32 0, .int .u64 0, .int .u8 0, .slice none 0 0, .slice none 0 0, .slice none 0 0] 36)) := Kp.alloc _ _ _
          have CT := cm_take (f' := 0) (hcl.nu ka) (by obtain ⟨tv, L, hT⟩ := hTb; exact ⟨tv, L, hT.nu (kpR' ka)⟩) (by have := ka.size; omega) sn hH hh1 HKY.out.1 HKY.out.2 (Int.natCast_nonneg a) hah t hth heq hnb
          have NM := fun W => num_any W 0
          have HG := hide (And.intro hcl (And.intro sn (And.intro hnb (And.intro hta (And.intro hTb (And.intro hbx (And.intro hfb (And.intro hkw ka))))))))
          have hhI : (h : Int) < 16 := by omega
          clear hI hcl sn hnb hta hTb hbx hfb hkw ka hfl htl hbt hH
          go_wp2_with (first | (guard_target =~ wpList _ _ _ ({ dst := none, op := Op.store 36 (Operand.tmp 17) (Operand.tmp 72), type := _, pos := _, after := _, guard := _ } :: _) _ _; refine wpList_store_new 36 17 (.tmp 17) (.tmp 72) rfl rfl info36 _ _ _ rfl rfl (by simp) rfl rfl (by simp [Value.oneCell']) ?_) | (guard_target =~ wpList _ _ _ ({ dst := _, op := Op.load 36 (Operand.tmp 17), type := _, pos := _, after := _, guard := _ } :: _) _ _; refine wpList_load_all 36 17 (.tmp 17) rfl rfl info36 _ Tryz.underlying36 rfl _ rfl (heap_new wr _) rfl ?_))
          refine CT.mono ?_
          clear CT
          rintro e w5 (⟨hf, rfl, HF⟩ | ⟨hf, g, v5, o5, rfl, hg, HF⟩)
          · obtain ⟨hcl5, hT5, hk5⟩ := HF.out
            obtain ⟨hcl, sn, hnb, hta, hTb, hbx, hfb, hkw, ka⟩ := HG.out
            have hbt := HBT.out
            have hfl := blk_lt hfb
            have htl := blk_lt hta
            have stay : ∀ q, q < wr.heap.size → q ≠ b → q ≠ mb → q ≠ hb → w5.heap[q]? = wr.heap[q]? := fun q hq n1 n2 n3 => (hk5.block q (Nat.lt_of_lt_of_le hq ka.size) (fun e => by rcases e with e | e | e <;> contradiction)).trans (ka.block q hq (fun h => h))
            have hta5 := (stay (bF + 1) htl (by omega) (by omega) (by omega)).trans hta
            have q1 := cellAt hta5 t (sn_at f t ht16)
            rw [hf] at q1
            have C5 : Cm w w5 hosts b hb mb B (bF + 1) bF k key hi v' o' v1 o1 v o has lim V O H a h := ⟨⟨f, nb, D, hcl5, sn, hnb, hta5⟩, hT5, (stay _ (by omega) (by omega) (by omega) (by omega)).trans hbx, (stay _ hfl (by omega) (by omega) (by omega)).trans hfb, (hkw.andNu ka).trans hk5 (fun q hq e => by rcases e with e | e | e <;> omega)⟩
            have HC5 := hide C5
            clear C5 hcl5 hT5 hk5 hcl sn hnb hta hTb hbx hfb hkw ka hfl htl hbt stay hta5 HF HG
            go_wp2_with fail
            refine (NM _).mono ?_; rintro e w' ⟨rfl, hw⟩
            obtain rfl := hw.symm
            clear hw
            go_wp2
            exact ⟨⟨a, h, i + 1, rfl, rfl, by go_num, by omega, hah, HC5⟩, by simp [intOf]; omega⟩
          · obtain ⟨hgl, hcl5, hT5, hk5⟩ := HF.out
            obtain ⟨hcl, sn, hnb, hta, hTb, hbx, hfb, hkw, ka⟩ := HG.out
            have hbt := HBT.out
            have hfl := blk_lt hfb
            have htl := blk_lt hta
            have hH := HH.out
            have stay : ∀ q, q < wr.heap.size → q ≠ b → q ≠ mb → q ≠ hb → w5.heap[q]? = wr.heap[q]? := fun q hq n1 n2 n3 => (hk5.block q (Nat.lt_of_lt_of_le hq ka.size) (fun e => by rcases e with e | e | e <;> contradiction)).trans (ka.block q hq (fun h => h))
            have hta5 := (stay (bF + 1) htl (by omega) (by omega) (by omega)).trans hta
            have q1 := cellAt hta5 t (sn_at f t ht16)
            rw [hf] at q1
            have q2 := free3 hta5 t
            have q0 := cellAt hg 0 (v := .int .u8 (t : Int)) rfl
            have kS := Kp.setCell w5 ⟨bF + 1, t, none⟩ (.bool true)
            have hS := set3 hta5 t (.bool true)
            rw [sn_set f t ht16] at hS
            have hT6 : ∃ tv L, Rg.Tb B (w5.setCell ⟨bF + 1, t, none⟩ (.bool true)) hb 64 tv L := by
              obtain ⟨tv, L, hT⟩ := hT5
              exact ⟨tv, L, tb_kp hT kS (tb_ne hT hta5 (by decide)) (fun q hq c hx => by have hq' : q = bF + 1 := hq; rw [hq', hta5] at hx; simp at hx)⟩
            have k05 : Kp Nu w w5 := (hkw.andNu ka).trans hk5 (fun q hq e => by rcases e with e | e | e <;> omega)
            have C5 : Cm w (w5.setCell ⟨bF + 1, t, none⟩ (.bool true)) hosts b hb mb B (bF + 1) bF k key hi v' o' v1 o1 v o has lim V O H t (h + 1) :=
              ⟨⟨upd f t, nb + 1, _, hcl5.bt65 kS hta5, sn.put t (by omega) hf, by omega, hS⟩, hT6, ((kS.block _ (by have := k05.size; have := ka.size; have := hk5.size; omega) (fun e => by have e' : w.heap.size = bF + 1 := e; omega)).trans (stay _ (by omega) (by omega) (by omega) (by omega))).trans hbx, ((kS.block _ (by have := ka.size; have := hk5.size; omega) (fun e => by have e' : bF = bF + 1 := e; omega)).trans (stay _ hfl (by omega) (by omega) (by omega))).trans hfb, k05.andSet _ _ (.inl (by show w.heap.size ≤ bF + 1; omega))⟩
            have HC5 := hide C5
            clear C5 hcl5 hT5 hk5 hcl sn hnb hta hTb hbx hfb hkw ka hfl htl hbt stay hta5 HF HG kS hS hT6 k05 hH hgl hg
            go_wp2_with fail
            refine (NM _).mono ?_; rintro e w' ⟨rfl, hw⟩
            obtain rfl := hw.symm
            clear hw
            go_wp2
            exact ⟨⟨t, h + 1, i + 1, rfl, by go_num, by go_num, by omega, hth, HC5⟩, by simp [intOf]; omega⟩
    · obtain rfl : i = ls.length := by omega
      have hge : ¬ (ls.length : Int) < (ls.length : Int) := by omega
      obtain ⟨⟨f, nb, D, hcl, sn, hnb, hta⟩, hTb, hbx, hfb, hkw⟩ := hI.out
      have OU := outcome_ok hcl.cb rfl rfl
      have hlt2 : (h : Int) < hosts := by have := sn.lt; have := HH.out; omega
      have hhI : (h : Int) < 16 := by omega
      have hh00 : (0 : Int) ≤ (h : Int) := Int.natCast_nonneg h
      have HK := hide hkw
      clear hI hcl sn hnb hta hTb hbx hfb hkw
      simp only [Cs.outc, Cs.cm] at OU
      go_wp2_with fail
      refine OU.mono ?_; rintro e w5 ⟨rfl, hk5⟩
      have HK5 := hide (HK.out.andNu hk5)
      clear OU hk5
      go_wp2_with (guard_target =~ wpList _ _ _ ({ dst := none, op := Op.store 55 (Operand.tmp 20) (Operand.tmp 112), type := _, pos := _, after := _, guard := _ } :: _) _ _; refine wpList_store_new 55 9 (.tmp 20) (.tmp 112) rfl rfl info55 _ _ _ rfl rfl (by simp) rfl rfl (by simp [Value.oneCell']) ?_)
      go_ret
      exact ⟨by simp, HK5.out.andAlloc _⟩
end Go.Proofs.YtmlnglillgplfaaGreat.Cl
