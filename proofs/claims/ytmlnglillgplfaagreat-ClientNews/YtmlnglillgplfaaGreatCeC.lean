import Derived.Test.YtmlnglillgplfaaGreatCeB
import Derived.Test.YtmlnglillgplfaaGreatCrD
namespace Go.Proofs.YtmlnglillgplfaaGreat.Cl
open Go.RowKit Go.Maps
set_option linter.unusedVariables false
theorem run_en (hosts pat tries : Int) (hb mb : Nat) (k key hi : Int) (v o : Sl) (has : Bool) (lim : Int) : Cs.run hosts pat tries hb mb k key hi v o has lim = Cs.en hosts pat tries hb mb k key hi v o has lim 0 0 1 0 1 := rfl
/-- where the rounds stand -/
def Ei (w0 : World) (bl : Nat) (hosts pat tries : Int) (b hb mb : Nat) (k key hi : Int) (v' o' v1 o1 : Sl) (has : Bool) (lim : Int) (V O : List Int) (host tmo m t ph : Int) (wr : World) : Prop :=
  (∃ nb D, Cl wr b (Cs.en hosts pat tries hb mb k key hi v' o' has lim host tmo m t ph) nb D V O) ∧ wr.heap[bl]? = some (.cells (out1 k key hi v1 o1 has lim) 38 (0, 0)) ∧ Bt wr v1 V ∧ Bt wr o1 O ∧ Kp Nu w0 wr
theorem Ei.step {w0 wr w5 w7 : World} {bl : Nat} {hosts pat tries : Int} {b hb mb : Nat} {k key hi : Int} {v' o' v1 o1 : Sl} {has : Bool} {lim : Int} {V O : List Int} {host tmo m t ph host' tmo' m' t' ph' : Int}
    (h : Ei w0 bl hosts pat tries b hb mb k key hi v' o' v1 o1 has lim V O host tmo m t ph wr) (hb1 : b < bl ∧ mb < bl ∧ w0.heap.size ≤ b ∧ w0.heap.size ≤ mb) (hk : Kp (fun j => j = b ∨ j = mb) wr w5)
    (hc : ∃ nb D, Cl w5 b (Cs.en hosts pat tries hb mb k key hi v' o' has lim host' tmo' m' t' ph') nb D V O) (k2 : Kp Nu w5 w7) : Ei w0 bl hosts pat tries b hb mb k key hi v' o' v1 o1 has lim V O host' tmo' m' t' ph' w7 := by
  obtain ⟨⟨nb, D, hcl⟩, hl, hv, ho, hkw⟩ := h
  obtain ⟨nb', D', hc'⟩ := hc
  have nb5 : ∀ i, (i = b ∨ i = mb) → ∀ c, wr.heap[i]? ≠ some (.cells c 5 (0, 0)) := fun i hi c hx => by
    rcases hi with e | e
    · rw [e, hcl.cb] at hx; simp at hx
    · obtain ⟨es, cl, hy⟩ := hcl.am.obj
      have hy' : wr.heap[mb]? = _ := hy
      rw [e, hy'] at hx; simp at hx
  refine ⟨⟨nb', D', hc'.nu k2⟩, box_k ((hk.block bl (blk_lt hl) (fun e => Or.elim e (fun e => by have e' : bl = b := e; omega) (fun e => by have e' : bl = mb := e; omega))).trans hl) k2, (hv.kp hk nb5).nu k2, (ho.kp hk nb5).nu k2, ?_⟩
  exact (hkw.trans hk (fun q hq e => Or.elim e (fun e => by have e' : q = b := e; omega) (fun e => by have e' : q = mb := e; omega))).andNu k2
theorem Ei.nu {w0 wr w7 : World} {bl : Nat} {hosts pat tries : Int} {b hb mb : Nat} {k key hi : Int} {v' o' v1 o1 : Sl} {has : Bool} {lim : Int} {V O : List Int} {host tmo m t ph : Int}
    (h : Ei w0 bl hosts pat tries b hb mb k key hi v' o' v1 o1 has lim V O host tmo m t ph wr) (k2 : Kp Nu wr w7) : Ei w0 bl hosts pat tries b hb mb k key hi v' o' v1 o1 has lim V O host tmo m t ph w7 := by
  obtain ⟨⟨nb, D, hcl⟩, hl, hv, ho, hkw⟩ := h
  exact ⟨⟨nb, D, hcl.nu k2⟩, box_k hl k2, hv.nu k2, ho.nu k2, hkw.andNu k2⟩
theorem range_one {w : World} {b t : Nat} {x : Value} {cs : List Value} (h : w.heap[b]? = some (.cells (x :: cs).toArray t (0, 0))) : w.rangeAt b 1 cs := range_mid h cs (fun j v hv => by rw [Nat.add_comm, List.getElem?_toArray]; exact hv)
theorem en_rem' {i pat r : Int} (h : 1 ≤ i) (e : i.tmod pat = r) : i % pat = r := by rw [← e, Int.tmod_eq_emod_of_nonneg (by omega)]
theorem en_quo' {i pat r : Int} (h : 1 ≤ i) (e : i.tdiv pat = r) : i / pat = r := by rw [← e, Int.tdiv_eq_ediv_of_nonneg (by omega)]
theorem out_en {w : World} {b nb : Nat} {D : DataW Unit} {V O : List Int} {hosts pat tries : Int} {hb mb : Nat} {k key hi : Int} {v o : Sl} {has : Bool} {lim host tmo m t ph : Int} (h : Cl w b (Cs.en hosts pat tries hb mb k key hi v o has lim host tmo m t ph) nb D V O) :
    Calls Tryz.prog 23 #[.pointer (some ⟨b, 0, none⟩)] w fun e w' => e = .returned (.agg #[.int .u8 ph, .int .u64 1, .int .u8 0, .slice none 0 0, .slice none 0 0, .int .u64 0, .int .u8 host, .int .i64 m, .int .i64 0]) ∧ Kp Nu w w' := outcome_ok h.cb rfl rfl
set_option maxRecDepth 100000 in
set_option maxHeartbeats 4000000 in
theorem ends_walk (w : World) (hosts pat tries : Int) (k key hi lim : Int) (v o : Sl) (has : Bool) (V O : List Int) (hv : Ct w v V) (ho : Ct w o O) (hB : RqB k key hi lim) :
    Calls Tryz.prog 6 #[.int .i64 hosts, .int .i64 pat, .int .i64 tries, .agg #[.int .u8 k, .int .u64 key, .int .u64 hi, v.val, o.val, .bool has, .int .u8 lim]] w fun e w' => e = .returned (.bool true) ∧ Kp Nu w w' := by
  have mixed : Tryz.prog.follows .mixedOrders = true := by kernel_rfl
  have LI := fun W => limits_any W hosts pat tries
  have MB := fun W (kp : Kp Nu w W) => mayBe_any W k key hi lim v o has V O hB (hv.nu kp) (ho.nu kp)
  have BG := fun W (kp : Kp Nu w W) (L : Lim hosts pat tries) (hR : RqOk k key hi v o has lim) => begun_ok W hosts pat tries L.h0 L.h1 L.p0 L.p1 L.t0 L.t1 k key hi lim v o has V O (hv.nu kp) (ho.nu kp) hB hR
  have HBY := hide (And.intro hv.by_ ho.by_)
  clear hv ho hB
  unfold Sl.val at MB BG ⊢
  go_enter Tryz.func6, Tryz.ntmps6
  go_wp2_with fail
  refine (LI _).mono ?_; rintro e w' ⟨⟨bo, rfl, hL⟩, hw⟩
  obtain rfl := hw.symm
  have HL := hide hL
  clear LI hw hL
  go_wp2_with (guard_target =~ wpList _ _ _ ({ dst := _, op := Op.load 26 (Operand.tmp 7), type := _, pos := _, after := _, guard := _ } :: _) _ _; refine wpList_load_all 26 7 (.tmp 7) rfl rfl info26 _ Tryz.underlying26 rfl _ rfl (heap_new w _) rfl ?_)
  refine (MB _ (Kp.alloc _ _ _)).mono ?_; rintro e w1 ⟨⟨bm, rfl, hR⟩, hk1⟩
  have HR := hide hR
  have HA1 := hide (new_at w _ hk1)
  have HK1 := hide ((Kp.alloc w _ Nu).andNu hk1)
  clear MB hR hk1
  cases bo with
  | false =>
    go_wp2
    go_ret
    exact ⟨rfl, HK1.out⟩
  | true =>
  cases bm with
  | false =>
    go_wp2
    go_ret
    exact ⟨rfl, HK1.out⟩
  | true =>
  have L := HL.out rfl
  have BG1 := BG w1 HK1.out L (HR.out rfl)
  have HLL := hide L
  clear BG L HL HR
  go_wp2_with (guard_target =~ wpList _ _ _ ({ dst := _, op := Op.load 26 (Operand.tmp 7), type := _, pos := _, after := _, guard := _ } :: _) _ _; refine wpList_load_all 26 7 (.tmp 7) rfl rfl info26 _ Tryz.underlying26 rfl _ rfl HA1.out rfl ?_)
  refine BG1.mono ?_; rintro e w2 ⟨b, hb, mb, v', o', v1, o1, nb, D, rfl, hcl, hv1, ho1, hbl, hml, hk2⟩
  rw [run_en] at hcl
  have HBL := hide (And.intro hbl hml)
  have hkn := Kp.alloc w2 (.cells (out1 k key hi v1 o1 has lim) 38 (0, 0)) Nu
  have HE := hide (show Ei w w2.heap.size hosts pat tries b hb mb k key hi v' o' v1 o1 has lim V O 0 0 1 0 1 (w2.alloc (.cells (out1 k key hi v1 o1 has lim) 38 (0, 0))) from ⟨⟨_, _, hcl.nu hkn⟩, heap_new w2 _, hv1.nu hkn, ho1.nu hkn, (HK1.out.andNu hk2).andNu hkn⟩)
  have hbt := hcl.cb.lt
  have hmt := hcl.am.lt
  have hw1 := HK1.out.size
  have HBT : Hid (b < w2.heap.size ∧ mb < w2.heap.size ∧ w.heap.size ≤ b ∧ w.heap.size ≤ mb) := by show _ ∧ _; exact ⟨hbt, hmt, by omega, by omega⟩
  clear BG1 hcl hv1 ho1 hbl hml hk2 HA1 hkn hbt hmt hw1
  obtain ⟨hh0, hh1, hp0, hp1, ht0, ht1⟩ := HLL.out
  have hM1 : pat * tries ≤ 4096 := by
    have h1 : pat * tries ≤ 64 * tries := Int.mul_le_mul_of_nonneg_right hp1 (by omega)
    omega
  have hM0 : 1 ≤ pat * tries := by
    have h1 : 1 * tries ≤ pat * tries := Int.mul_le_mul_of_nonneg_right hp0 (by omega)
    omega
  have eM := wrap64 (x := pat * tries) (by omega) (by omega)
  go_wp2_with (guard_target =~ wpList _ _ _ ({ dst := none, op := Op.store 38 (Operand.tmp 12) (Operand.tmp 41), type := _, pos := _, after := _, guard := _ } :: _) _ _; refine wpList_store_new 38 18 (.tmp 12) (.tmp 41) rfl rfl info38 _ _ _ rfl rfl (by simp) rfl rfl (out1_one _ _ _ _ _ _ _) ?_)
  generalize w2.alloc (.cells (out1 k key hi v1 o1 has lim) 38 (0, 0)) = w3 at HE ⊢
  go_loopw [14] (fun iv wr => ∃ i m t host tmo ph : Int, iv = .int .i64 i ∧ (ph = 1 ∧ i = (m - 1) * pat + t + 1 ∧ 0 ≤ t ∧ t < pat ∧ 1 ≤ m ∧ m ≤ tries ∨ ph = 3 ∧ i = pat * tries + 1) ∧ (0 ≤ host ∧ host < hosts) ∧ (0 ≤ tmo ∧ tmo ≤ 1) ∧ Hid (Ei w w2.heap.size hosts pat tries b hb mb k key hi v' o' v1 o1 has lim V O host tmo m t ph wr)) (fun iv _ => (pat * tries + 1 - intOf iv).toNat)
  case atStart => exact ⟨1, 1, 0, 0, 0, 1, rfl, .inl ⟨rfl, by simp, by omega, by omega, by omega, by omega⟩, by omega, by omega, HE⟩
  case round =>
    obtain ⟨i, m, t, host, tmo, ph, rfl, hph, hho, htm, hI⟩ := hrel
    rcases hph with ⟨rfl, hie0, t0, t1, m1, m2⟩ | ⟨rfl, hie0⟩
    · obtain ⟨a1, a2, a3, a4, a5⟩ := en_arith (tries := tries) hp0 t0 t1 m1 m2 hie0
      have hp00 : ¬ pat = 0 := by omega
      have HI := hide hie0
      clear hie0
      by_cases hA : t + 1 < pat
      · have hlt := a4 hA
        have hne : ¬ i = pat * tries := by omega
        have eR := en_rem hp0 t0 m1 hA HI.out
        have eR' := en_rem' a1 eR
        have hR0 : ¬ t + 1 = 0 := by omega
        obtain ⟨⟨nb, D, hcl⟩, hl, hv1, ho1, hkw⟩ := hI.out
        have TL := en_less hcl t0 hp1 hA
        clear hcl hl hv1 ho1 hkw a3 a4 a5
        go_wp2_with fail
        refine TL.mono ?_; rintro e w5 ⟨rfl, hcl5, hk5⟩
        have OU := out_en hcl5
        have HC5 := hide hcl5
        have HK5 := hide hk5
        clear TL hcl5 hk5
        go_wp2_with fail
        refine OU.mono ?_; rintro e w6 ⟨rfl, hk6⟩
        have HK6 := hide hk6
        clear OU hk6
        go_wp2
        exact ⟨⟨i + 1, m, t + 1, host, tmo, 1, by go_num, .inl ⟨rfl, by have := HI.out; omega, by omega, by omega, by omega, by omega⟩, hho, htm, hI.out.step HBT.out (HK5.out.mono (T := fun j => j = b ∨ j = mb) (fun _ _ h => .inl h)) ⟨_, _, HC5.out⟩ (HK6.out.andAlloc _)⟩, by simp [intOf]; omega⟩
      · have hB : t + 1 = pat := by omega
        obtain ⟨eR, eQ⟩ := en_quo hp0 hB HI.out
        have eR' := en_rem' a1 eR
        have eQ' := en_quo' a1 eQ
        obtain ⟨⟨nb, D, hcl⟩, hl, hv1, ho1, hkw⟩ := hI.out
        by_cases hm : m = tries
        · have hie := a5 hB hm
          have TL := en_end hcl t0 hp1 hB hm m1 (by omega)
          have HIE := hide hie
          have hile : i ≤ pat * tries := a2
          have hbe : (i == pat * tries) = true := by simp [hie]
          clear hcl hl hv1 ho1 hkw a3 a4 a5
          clear hie
          go_wp2_with fail
          refine TL.mono ?_; rintro e w5 ⟨rfl, hcl5, hk5⟩
          have OU := out_en hcl5
          have HC5 := hide hcl5
          have HK5 := hide hk5
          clear TL hcl5 hk5
          go_wp2_with fail
          refine OU.mono ?_; rintro e w6 ⟨rfl, hk6⟩
          have HK6 := hide hk6
          clear OU hk6
          have hie' := HIE.out
          go_wp2
          exact ⟨⟨i + 1, m, t + 1, host, tmo, 3, by go_num, .inr ⟨rfl, by have := HIE.out; omega⟩, hho, htm, hI.out.step HBT.out (HK5.out.mono (T := fun j => j = b ∨ j = mb) (fun _ _ h => .inl h)) ⟨_, _, HC5.out⟩ (HK6.out.andAlloc _)⟩, by simp [intOf]; omega⟩
        · have hmt : m < tries := by omega
          have hlt := a3 hmt
          have hne : ¬ i = pat * tries := by omega
          have TL := en_again hcl t0 hp1 hB hmt m1 (by omega) hho.1 hho.2 hh1 htm.1 htm.2
          clear hcl hl hv1 ho1 hkw a3 a4 a5
          go_wp2_with fail
          refine TL.mono ?_; rintro e w5 ⟨g, v6, o6, host', tmo', rfl, hg5, hv6, ho6, hgl, hh', ht', ⟨nb5, D5, hcl5⟩, hk5⟩
          have OU := out_en hcl5
          have HC5 := hide hcl5
          have HK5 := hide hk5
          have HG5 := hide (And.intro hg5 (And.intro hv6 ho6))
          clear TL hcl5 hk5 hg5 hv6 ho6
          go_wp2_with fail
          refine OU.mono ?_; rintro e w6 ⟨rfl, hk6'⟩
          have HK6 := hide hk6'
          clear OU hk6'
          go_wp2_with fail
          have hk6 := HK6.out
          obtain ⟨w7, hw7⟩ : ∃ w7, w6.alloc (.cells #[.int .u8 1, .int .u64 1, .int .u8 0, .slice none 0 0, .slice none 0 0, .int .u64 0, .int .u8 host', .int .i64 (m + 1), .int .i64 0] 55 (0, 0)) = w7 := ⟨_, rfl⟩
          have hn7 : w7.heap[w6.heap.size]? = some (.cells #[.int .u8 1, .int .u64 1, .int .u8 0, .slice none 0 0, .slice none 0 0, .int .u64 0, .int .u8 host', .int .i64 (m + 1), .int .i64 0] 55 (0, 0)) := by rw [← hw7]; exact heap_new w6 _
          have k57 : Kp Nu w5 w7 := by rw [← hw7]; exact hk6.andAlloc _
          have hg7 := box_k HG5.out.1 k57
          have hv7 := HG5.out.2.1.nu k57
          have ho7 := HG5.out.2.2.nu k57
          have E7 := hI.out.step HBT.out HK5.out ⟨_, _, HC5.out⟩ k57
          have SAM := fun X (hX : Kp Nu w7 X) => (sameT X k 1 key hi lim has v6 o6 v1 o1 V O ((hv7.nu hX).ct HBY.out.1) ((ho7.nu hX).ct HBY.out.2) ((E7.2.2.1.nu hX).ct HBY.out.1) ((E7.2.2.2.1.nu hX).ct HBY.out.2)).mono (fun e w' h => (⟨h.1, hX.andNu h.2⟩ : e = .returned (.bool true) ∧ Kp Nu w7 w'))
          have HE7 := hide E7
          have HN7 := hide hn7
          have HG7 := hide hg7
          rw [hw7]
          clear hk6 hn7 k57 hg7 hv7 ho7 E7 hw7
          refine wp_region_still_tail 6 mixed (by kernel_rfl) ?_
          simp only [List.take_succ_cons, List.take_zero, List.drop_succ_cons, List.drop_zero]
          still_step
          still_step
          still_step
          refine wpStill_load 36 17 (.tmp 89) rfl rfl info36 _ Tryz.underlying36 rfl g 1 rfl [.int .u8 k, .int .u64 1, .int .u64 key, .int .u64 hi, .slice v6.a v6.n v6.c, .slice o6.a o6.n o6.c, .bool has, .int .u8 0, .int .u8 0, .int .u8 0, .int .u32 0, .int .u32 0, .int .u64 0, .int .u8 lim, .slice none 0 0, .slice none 0 0, .slice none 0 0] (range_drawn (range_one (x := .int .u8 host') (t := 38) HG7.out)) rfl ?_
          still_step
          refine wpStill_load 36 17 (.tmp 91) rfl rfl info36 _ Tryz.underlying36 rfl w2.heap.size 1 rfl [.int .u8 k, .int .u64 1, .int .u64 key, .int .u64 hi, .slice v1.a v1.n v1.c, .slice o1.a o1.n o1.c, .bool has, .int .u8 0, .int .u8 0, .int .u8 0, .int .u32 0, .int .u32 0, .int .u64 0, .int .u8 lim, .slice none 0 0, .slice none 0 0, .slice none 0 0] (range_drawn (range_one (x := .int .u8 0) (t := 38) HE7.out.2.1)) rfl ?_
          refine wpStill_nil ?_
          have dk : Kp Nu w7 { w7 with drawn := w7.drawn + 1 } := ⟨rfl, rfl, rfl, Nat.le_refl _, fun _ _ _ => rfl⟩
          have SAM1 := SAM _ dk
          clear SAM dk
          go_wp2_with fail
          refine SAM1.mono ?_; rintro e w8 ⟨rfl, hk8⟩
          clear SAM1
          have z0 := cellAt (box_k HG7.out hk8) 0 (v := .int .u8 host') rfl
          have z7 := cellAt (box_k HN7.out hk8) 7 (v := .int .i64 (m + 1)) rfl
          have HK8 := hide hk8
          have hge : ¬ host' ≥ hosts := by omega
          have hge' : ¬ hosts ≤ host' := by omega
          have hgd : decide (hosts ≤ host') = false := by simp; omega
          have eT := wrap64 (x := host') (by omega) (by omega)
          have eW := wrap64 (x := m + 1) (by omega) (by omega)
          have eC : 1 + m = m + 1 := by omega
          clear hk8
          go_wp2_with fail
          go_quiet (fail)
          go_wp2
          have hx1 : (m - 1) * pat = m * pat - pat := by rw [Int.sub_mul, Int.one_mul]
          have hx2 : (m + 1 - 1) * pat = m * pat := by rw [Int.add_sub_cancel]
          have hx3 := HI.out
          exact ⟨⟨i + 1, m + 1, 0, host', tmo', 1, by go_num, .inl ⟨rfl, by omega, by omega, by omega, by omega, by omega⟩, hh', ht', HE7.out.nu (HK8.out.andNu (kp_dn _ nq))⟩, by simp [intOf]; omega⟩
    · obtain ⟨⟨nb, D, hcl⟩, hl, hv1, ho1, hkw⟩ := hI.out
      have TI := tick_idle hcl.cb (by show ¬ (3 : Int) = 1; omega)
      have GI := giveUp_idle hcl.cb (by show ¬ (3 : Int) = 1; omega)
      have NM := fun W => num_any W 121
      have hgt : ¬ i ≤ pat * tries := by omega
      have HKW := hide hkw
      clear hcl hl hv1 ho1 hkw hI hie0
      go_wp2_with fail
      refine TI.mono ?_; rintro e w5 ⟨rfl, hw⟩
      obtain rfl := hw.symm
      clear TI hw
      go_wp2_with fail
      refine GI.mono ?_; rintro e w5 ⟨rfl, hw⟩
      obtain rfl := hw.symm
      clear GI hw
      go_wp2_with fail
      refine (NM _).mono ?_; rintro e w5 ⟨rfl, hw⟩
      obtain rfl := hw.symm
      clear NM hw
      go_wp2
      go_ret
      exact ⟨rfl, HKW.out⟩
end Go.Proofs.YtmlnglillgplfaaGreat.Cl
