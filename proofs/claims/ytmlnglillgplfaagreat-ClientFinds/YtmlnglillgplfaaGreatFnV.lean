import Derived.Test.YtmlnglillgplfaaGreatFnU
import Derived.Test.YtmlnglillgplfaaGreatFnW
import Derived.Test.YtmlnglillgplfaaGreatFnX
import Derived.Test.YtmlnglillgplfaaGreatStE
import Derived.Test.YtmlnglillgplfaaGreatCmC
import Derived.Test.YtmlnglillgplfaaGreatCrC
import Derived.BigRegion
namespace Go.Proofs.YtmlnglillgplfaaGreat.Cl
open Go.RowKit Go.Maps
set_option linter.unusedVariables false
/-- the client whose request is under way at a host -/
def Cs.fd (hosts : Int) (hb mb : Nat) (k key hi : Int) (v o : Sl) (has : Bool) (lim aim host hops : Int) : Cs := ⟨hosts, 5, 5, hb, k, key, hi, v, o, has, lim, 1, 1, 0, Sl.nil, Sl.nil, 0, host, hops + 1, hops, mb, 0, 0⟩
theorem ow_at (key a : Int) (h0 : 0 ≤ key) (h1 : key < 18446744073709551616) : Rg.ow [⟨0, 18446744073709551615, a⟩] key = a := by
  simp only [Rg.ow]
  split
  · rfl
  · omega
theorem rng_one {w : World} {b t : Nat} {x : Value} {cs : List Value} (h : w.heap[b]? = some (.cells (x :: cs).toArray t (0, 0))) : w.rangeAt b 1 cs := range_mid h cs (fun j v hv => by rw [Nat.add_comm, List.getElem?_toArray]; exact hv)
theorem box_red {w w' : World} {b nb B q : Nat} {s : Cs} {D : DataW Unit} {V O : List Int} {tv : Value} {L : List Rg.Sg} {c : Array Value} {t : TypeId} (h : Cl w b s nb D V O) (hT : Rg.Tb B w s.hb 64 tv L) (k : Kp (fun i => i = b ∨ i = s.mb ∨ i = s.hb) w w') (hq : w.heap[q]? = some (.cells c t (0, 0))) (h1 : t ≠ 122) (h2 : t ≠ 212) : w'.heap[q]? = some (.cells c t (0, 0)) := by
  refine (k.block q (blk_lt hq) (fun e => ?_)).trans hq
  rcases e with e | e | e
  · have hc := h.cb
    unfold CB at hc
    rw [e, hc] at hq
    simp only [Option.some.injEq, Obj.cells.injEq] at hq
    exact h1 hq.2.1.symm
  · obtain ⟨es, cl, hx⟩ := h.am.obj
    rw [e, hx] at hq
    cases hq
  · exact tb_ne hT hq h2 (show s.hb = q from e.symm)
theorem bt_red {w w' : World} {b nb B : Nat} {s : Cs} {D : DataW Unit} {V O : List Int} {tv : Value} {L : List Rg.Sg} {x : Sl} {X : List Int} (h : Cl w b s nb D V O) (hT : Rg.Tb B w s.hb 64 tv L) (k : Kp (fun i => i = b ∨ i = s.mb ∨ i = s.hb) w w') (hv : Bt w x X) : Bt w' x X := by
  refine hv.kp k (fun i hi c hx => ?_)
  rcases hi with e | e | e
  · have hc := h.cb
    unfold CB at hc
    rw [e, hc] at hx
    simp only [Option.some.injEq, Obj.cells.injEq] at hx
    exact absurd hx.2.1 (by decide)
  · obtain ⟨es, cl, hm⟩ := h.am.obj
    rw [e, hm] at hx
    cases hx
  · exact tb_ne hT hx (by decide) (show s.hb = i from e.symm)
set_option maxRecDepth 100000 in
set_option maxHeartbeats 8000000 in
theorem finds_walk (w : World) (hosts : Int) (su : Value) (M : List Rg.Sg) (hM : Rg.Sgs w su M) (hml : (M.length : Int) ≤ 5864062014634) (aim : Int) (a0 : 0 ≤ aim) (a1 : aim < 256) (k key hi0q lim : Int) (v o : Sl) (has : Bool) (V O : List Int) (hv : Ct w v V) (ho : Ct w o O) (hB : RqB k key hi0q lim) (st : Int) (t0 : 0 ≤ st) (t1 : st < 256) :
    Calls Tryz.prog 8 #[.int .i64 hosts, su, .int .u8 aim, .agg #[.int .u8 k, .int .u64 key, .int .u64 hi0q, v.val, o.val, .bool has, .int .u8 lim], .int .u8 st] w fun e w' => e = .returned (.bool true) ∧ Kp Nu w w' := by
  have mixed : Tryz.prog.follows .mixedOrders = true := by kernel_rfl
  have LI := fun W => limits_any W hosts 5 5
  have MB := fun W (kp : Kp Nu w W) => mayBe_any W k key hi0q lim v o has V O hB (hv.nu kp) (ho.nu kp)
  have nuS : ∀ {W : World}, Kp Nu w W → Rg.Sgs W su M := fun {W} q => by
    rcases hM with h | ⟨b, off, cp, h0, h3⟩
    · exact .inl h
    · exact .inr ⟨b, off, cp, h0, fun i s hs => ⟨Rg.cell_nu (h3 i s hs).c0 (kpR' q), Rg.cell_nu (h3 i s hs).c1 (kpR' q), Rg.cell_nu (h3 i s hs).c2 (kpR' q), (h3 i s hs).fit⟩⟩
  have GO := fun W (kp : Kp Nu w W) => good_ok W su M (nuS kp) hml
  obtain ⟨sad, scap, hsu⟩ := hM.slice
  have NM := fun W n => num_any W n
  have HRQ := hide hB
  have HVO := hide (And.intro hv ho)
  have HST := hide (And.intro t0 t1)
  generalize M.length = MN at hsu
  subst hsu
  clear hv ho hB hM hml nuS t0 t1
  unfold Sl.val at MB ⊢
  go_enter Tryz.func8, Tryz.ntmps8
  go_wp2_with fail
  refine (LI _).mono ?_; rintro e w' ⟨⟨bo, rfl, hL⟩, hw⟩
  obtain rfl := hw.symm
  have HL := hide hL
  clear LI hw hL
  go_wp2_with (guard_target =~ wpList _ _ _ ({ dst := _, op := Op.load 26 (Operand.tmp 8), type := _, pos := _, after := _, guard := _ } :: _) _ _; refine wpList_load_all 26 7 (.tmp 8) rfl rfl info26 _ Tryz.underlying26 rfl _ rfl (heap_new w _) rfl ?_)
  refine (MB _ (Kp.alloc _ _ _)).mono ?_; rintro e w1 ⟨⟨bm, rfl, hR⟩, hk1⟩
  have HR := hide hR
  have HA1 := hide (new_at w _ hk1)
  have HK1 := hide ((Kp.alloc w _ Nu).andNu hk1)
  have GO1 := GO w1 HK1.out
  clear MB hR hk1 GO
  go_wp2_with fail
  refine GO1.mono ?_; rintro e w2 ⟨s, L, rfl, HD, hk2⟩
  obtain ⟨r, off, cap, rfl, hcs⟩ := HD.out.mem
  obtain ⟨N, hN⟩ : ∃ N, L.length = N := ⟨_, rfl⟩
  have hN64 := HD.out.len
  rw [hN] at hN64 ⊢
  obtain ⟨w3, e3⟩ : ∃ w3, w2.alloc (.cells #[.int .i64 64, .slice (some ⟨r, off, none⟩) N cap] 73) = w3 := ⟨_, rfl⟩
  have k23 : Kp Nu w2 w3 := by rw [← e3]; exact Kp.alloc _ _ _
  have hb3 : w3.heap[w2.heap.size]? = some (.cells #[.int .i64 64, .slice (some ⟨r, off, none⟩) N cap] 73 (0, 0)) := by rw [← e3]; exact heap_new w2 _
  have x1 := cellAt hb3 1 (v := .slice (some ⟨r, off, none⟩) N cap) rfl
  have D3 := HD.out.nu k23
  have H3 := hide (And.intro D3 (And.intro hb3 (And.intro (box_k HA1.out (hk2.andNu k23)) (And.intro ((HK1.out.andNu hk2).andNu k23) (And.intro hN (fun i g hg => (⟨Rg.cell_nu (hcs i g hg).c0 (kpR' k23), Rg.cell_nu (hcs i g hg).c1 (kpR' k23), Rg.cell_nu (hcs i g hg).c2 (kpR' k23), (hcs i g hg).fit⟩ : Rg.SgAt w3 r (off + i * 3) g)))))))
  clear GO1 HD hk2 hcs hN k23 hb3 D3 HA1 HK1
  go_wp2_with fail
  go_loopw [14] (fun iv wr => ∃ i : Nat, iv = .int .i64 (i : Int) ∧ i ≤ N ∧ wr = w3 ∧ Hid (∀ j g, j < i → L[j]? = some g → g.h < hosts)) (fun iv _ => N - (intOf iv).toNat)
  case atStart => exact ⟨0, rfl, Nat.zero_le _, by first | rfl | simp, hide (fun j g hj => by omega)⟩
  case round =>
    obtain ⟨i, rfl, hi, hw3, hI⟩ := hrel
    obtain rfl := hw3
    have hi0 : (0 : Int) ≤ (i : Int) := by omega
    by_cases hlt : i < N
    · have hltI : (i : Int) < (N : Int) := by omega
      obtain ⟨g, hg⟩ : ∃ g, L[i]? = some g := ⟨_, List.getElem?_eq_getElem (by rw [H3.out.2.2.2.2.1]; exact hlt)⟩
      obtain ⟨c0, c1, c2, hfit⟩ := H3.out.2.2.2.2.2 i g hg
      have HG := hide hg
      have ew : IntKind.i64.wrap g.h = g.h := by
        simp only [IntKind.wrap, IntKind.signed, IntKind.bits]
        first | omega | (simp; omega)
      clear hg
      by_cases hh : g.h ≥ hosts
      · have hd : decide (g.h ≥ hosts) = true := by simpa using hh
        go_wp2
        go_ret
        exact ⟨rfl, H3.out.2.2.2.1⟩
      · have hd : decide (g.h ≥ hosts) = false := by simpa using hh
        go_wp2
        exact ⟨⟨i + 1, by go_num, by omega, by first | rfl | simp, hide (fun j g' hj hg' => by
          by_cases e : j = i
          · subst e; rw [HG.out] at hg'; cases hg'; omega
          · exact hI.out j g' (by omega) hg')⟩, by simp [intOf]; omega⟩
    · have hge : ¬ (i : Int) < (N : Int) := by omega
      have HH : Hid (∀ g ∈ L, g.h < hosts) := hide (fun g hg => by
        obtain ⟨j, hj, rfl⟩ := List.mem_iff_getElem.1 hg
        exact hI.out j _ (by have := H3.out.2.2.2.2.1; omega) (List.getElem?_eq_getElem hj))
      cases bo with
      | false =>
        go_wp2
        go_ret
        exact ⟨rfl, H3.out.2.2.2.1⟩
      | true =>
      cases bm with
      | false =>
        go_wp2
        go_ret
        exact ⟨rfl, H3.out.2.2.2.1⟩
      | true =>
      have Lm := HL.out (by simp)
      have HRR := hide (HR.out (by simp))
      have ea : IntKind.i64.wrap aim = aim := by
        simp only [IntKind.wrap, IntKind.signed, IntKind.bits]
        first | omega | (simp; omega)
      by_cases hah : aim ≥ hosts
      · have hd : decide (aim ≥ hosts) = true := by simpa using hah
        go_wp2
        go_ret
        exact ⟨rfl, H3.out.2.2.2.1⟩
      have hd : decide (aim ≥ hosts) = false := by simpa using hah
      have NC := fun W => new_client W 31 hosts 5 5 (by omega) (by omega) Lm.h0 Lm.h1 (by omega) (by omega) (by omega) (by omega)
      have HLm := hide Lm
      have hah' : aim < hosts := by omega
      have h16 := Lm.h1
      clear Lm HL HR hI
      go_wp2_with fail
      refine (NC _).mono ?_; rintro e w4 ⟨b, hb, mb, tv, rfl, hc4, hm4, hT4, hbl, hml, hk4⟩
      have AM := aim_ok hc4 (by show ¬ (0 : Int) = 1; omega) aim a0 hah' h16
      have H4 := hide (And.intro hm4 (And.intro hbl (And.intro hml (And.intro hk4 hc4))))
      clear NC hc4 hm4 hT4 hbl hml hk4
      go_wp2_with fail
      refine (NM _ 0).mono ?_; rintro e w' ⟨rfl, hw⟩
      obtain rfl := hw.symm
      clear hw
      go_wp2_with fail
      refine AM.mono ?_; rintro e w5 ⟨hb5, tv5, rfl, hc5, hT5, hk5⟩
      obtain ⟨hm4, hbl, hml, hk4, hc4⟩ := H4.out
      have hbne : mb ≠ b := fun e => by obtain ⟨es, cl, hx⟩ := hm4.obj; have h2 := hc4; unfold CB at h2; rw [← e, hx] at h2; cases h2
      have hm5 : Am w5 mb 0 (.map []) := hm4.keep (hk5.block _ hm4.lt (fun e => hbne e))
      have kw4 : Kp Nu w w4 := H3.out.2.2.2.1.andNu hk4
      replace hT5 := tb_base hT5 kw4.size
      have kw5 : Kp Nu w w5 := kw4.trans hk5 (fun q hq e => by have e' : q = b := e; have := H3.out.2.2.2.1.size; omega)
      have BG := begin_ok (s := { Cs.new hosts 5 5 hb mb with hb := hb5 }) hc5 hm5 (by show ¬ (0 : Int) = 1; omega) hT5 k key _ lim v o has V O (HVO.out.1.nu kw5) (HVO.out.2.nu kw5) HRQ.out HRR.out (by show (0 : Int) ≤ 0; omega) (by show (0 : Int) + 1 < _; omega) (by rw [ow_at key aim HRQ.out.key.1 HRQ.out.key.2]; omega) (by rw [ow_at key aim HRQ.out.key.1 HRQ.out.key.2]; omega)
      rw [ow_at key aim HRQ.out.key.1 HRQ.out.key.2] at BG
      unfold Sl.val at BG
      have nsz := H3.out.2.2.2.1.size
      have ha5 := (hk5.block _ (Nat.lt_of_lt_of_le (blk_lt H3.out.2.2.1) hk4.size) (fun e => by have e' : w.heap.size = b := e; have := blk_lt H3.out.2.2.1; omega)).trans (box_k H3.out.2.2.1 hk4)
      have hb5' := (hk5.block _ (Nat.lt_of_lt_of_le (blk_lt H3.out.2.1) hk4.size) (fun e => by have e' : w2.heap.size = b := e; have := blk_lt H3.out.2.1; omega)).trans (box_k H3.out.2.1 hk4)
      have D5 : Dt w5 (.slice (some ⟨r, off, none⟩) N cap) L := by
        have q := H3.out.1
        obtain ⟨r', off', cap', er, hcs⟩ := q.mem
        rw [H3.out.2.2.2.2.1] at er
        simp only [Value.slice.injEq, Option.some.injEq, Addr.mk.injEq, and_true, true_and] at er
        obtain ⟨⟨rfl, rfl⟩, rfl⟩ := er
        refine ⟨q.tab, q.len, r, off, cap, by rw [H3.out.2.2.2.2.1], fun i g hg => ?_⟩
        have c := hcs i g hg
        have rl : r < wr.heap.size := World.block_lt_of_cell? wr _ c.c0
        have e5 : w5.heap[r]? = wr.heap[r]? := (hk5.block _ (Nat.lt_of_lt_of_le rl hk4.size) (fun e => by have e' : r = b := e; omega)).trans (hk4.block _ rl (fun h => h))
        exact ⟨(World.cell?_of_block e5).trans c.c0, (World.cell?_of_block e5).trans c.c1, (World.cell?_of_block e5).trans c.c2, c.fit⟩
      have hbs : w2.heap.size < wr.heap.size := blk_lt H3.out.2.1
      have hws : w.heap.size < wr.heap.size := blk_lt H3.out.2.2.1
      have hrl : r < wr.heap.size := by
        have q := H3.out.1.tab
        have hne : 0 < L.length := by
          rcases L with _ | ⟨x, y⟩
          · have e : (0 : Int) = 18446744073709551616 := q.cov; omega
          · simp
        have c := H3.out.2.2.2.2.2 0 _ (List.getElem?_eq_getElem hne)
        exact World.block_lt_of_cell? wr _ c.c0
      have H5 := hide (And.intro ha5 (And.intro hT5 (And.intro kw5 (And.intro hc5 (And.intro hm5 (And.intro hb5' (And.intro D5 (And.intro hbl (And.intro hml (And.intro hbs (And.intro hws hrl)))))))))))
      clear AM hc5 hm5 hT5 hk5 hm4 hbl hml hk4 hc4 hbne kw4 kw5 nsz ha5 hb5' D5 hbs hws hrl
      go_wp2_with (guard_target =~ wpList _ _ _ ({ dst := _, op := Op.load 26 (Operand.tmp 8), type := _, pos := _, after := _, guard := _ } :: _) _ _; refine wpList_load_all 26 7 (.tmp 8) rfl rfl info26 _ Tryz.underlying26 rfl _ rfl H5.out.1 rfl ?_)
      refine BG.mono ?_; rintro e w6 ⟨g, v', o', rfl, hsn, hgl, hcl, hk6⟩
      obtain ⟨g', v2, o2, eg, hg, hv2, ho2⟩ := hsn.out
      simp only [Value.slice.injEq, Option.some.injEq, Addr.mk.injEq, and_true] at eg
      obtain rfl := eg
      obtain ⟨ha5, hT5, kw5, hc5, hm5, hb5', D5, hbl, hml, hbs, hws, hrl⟩ := H5.out
      have hT6 := tb_cl hT5 hc5 hm5 hk6
      have stay : ∀ q, q < wr.heap.size → w6.heap[q]? = w5.heap[q]? := fun q hq => hk6.block q (by have := hc5.lt; omega) (fun e => Or.elim e (fun e => by have e' : q = b := e; omega) (fun e => by have e' : q = mb := e; omega))
      have ha6 := (stay _ hws).trans ha5
      have hb6 := (stay _ hbs).trans hb5'
      have y0 := cellAt hg 0 (v := .int .u8 aim) rfl
      have y2 := cellAt hg 2 (v := .int .u64 1) rfl
      have x1k := cellAt ha6 1 (v := .int .u64 key) rfl
      have D6 : Dt w6 (.slice (some ⟨r, off, none⟩) N cap) L := by
        obtain ⟨r', off', cap', er, hcs⟩ := D5.mem
        rw [H3.out.2.2.2.2.1] at er
        simp only [Value.slice.injEq, Option.some.injEq, Addr.mk.injEq, and_true, true_and] at er
        obtain ⟨⟨rfl, rfl⟩, rfl⟩ := er
        refine ⟨D5.tab, D5.len, r, off, cap, by rw [H3.out.2.2.2.2.1], fun i g hg => ?_⟩
        have c := hcs i g hg
        have e5 := stay r hrl
        exact ⟨(World.cell?_of_block e5).trans c.c0, (World.cell?_of_block e5).trans c.c1, (World.cell?_of_block e5).trans c.c2, c.fit⟩
      have SA := segAt_ok w6 64 _ L D6 key HRQ.out.key.1 HRQ.out.key.2
      have kw6 : Kp Nu w w6 := kw5.trans hk6 (fun q hq e => Or.elim e (fun e => by have e' : q = b := e; omega) (fun e => by have e' : q = mb := e; omega))
      have hcl' : Cl w6 b (Cs.fd hosts hb5 mb k key hi0q v' o' has lim aim aim 0) 1 _ V O := hcl
      have H6 := hide (And.intro hg (And.intro hv2 (And.intro ho2 (And.intro hcl' (And.intro hT6 (And.intro ha6 (And.intro kw6 (And.intro hbl (And.intro hml (And.intro D6 (And.intro hws hgl)))))))))))
      have HB6 := hide hb6
      clear BG hsn hgl hcl hcl' hk6 hg hv2 ho2 ha5 hT5 kw5 hc5 hm5 hb5' D5 hbl hml hbs hws hrl hT6 stay ha6 hb6 D6 kw6 H5
      go_wp2_with fail
      refine (NM _ 0).mono ?_; rintro e w' ⟨rfl, hw⟩
      obtain rfl := hw.symm
      clear hw
      go_wp2_with fail
      refine (NM _ 0).mono ?_; rintro e w' ⟨rfl, hw⟩
      obtain rfl := hw.symm
      clear hw
      go_wp2_with (guard_target =~ wpList _ _ _ ({ dst := _, op := Op.load 73 (Operand.tmp 13), type := _, pos := _, after := _, guard := _ } :: _) _ _; refine wpList_load_all 73 2 (.tmp 13) rfl rfl info73 _ Tryz.underlying73 rfl _ rfl HB6.out rfl ?_)
      refine SA.mono ?_; rintro e w7 ⟨sg, rfl, HSG, hk7⟩
      have hfl := H6.out
      have S7 := hide (And.intro (box_k H6.out.1 hk7) (And.intro (H6.out.2.1.nu hk7) (And.intro (H6.out.2.2.1.nu hk7) (And.intro (H6.out.2.2.2.1.nu hk7) (And.intro (H6.out.2.2.2.2.1.nu (kpR' hk7)) (And.intro (box_k H6.out.2.2.2.2.2.1 hk7) (H6.out.2.2.2.2.2.2.1.andNu hk7)))))))
      have kwsz : Hid (w.heap.size ≤ wr.heap.size) := hide H3.out.2.2.2.1.size
      have HBL := hide (And.intro H6.out.2.2.2.2.2.2.2.1 H6.out.2.2.2.2.2.2.2.2.1)
      have D6t := hide H6.out.2.2.2.2.2.2.2.2.2.1.tab
      clear SA hk7 hfl H6 HB6 y0 y2 x1k
      by_cases hsa : sg.h = aim
      · skip
        have hsd : (sg.h != aim) = false := by simpa using hsa
        have hse : decide (sg.h = aim) = true := by simpa using hsa
        have HOW : Hid (Rg.ow [⟨0, 18446744073709551615, aim⟩] key = sg.h) := hide (by rw [ow_at key aim HRQ.out.key.1 HRQ.out.key.2]; exact hsa.symm)
        clear hsa
        go_wp2_with fail
        have ka8 : Kp Nu w7 (w7.alloc (.cells #[.int .u64 sg.lo, .int .u64 sg.hi, .int .u8 sg.h] 76)) := Kp.alloc _ _ _
        have S8 := hide (And.intro (S7.out.2.2.2.1.nu ka8) (And.intro (box_k S7.out.1 ka8) (And.intro (box_k S7.out.2.2.2.2.2.1 ka8) (And.intro (heap_new w7 (.cells #[.int .u64 sg.lo, .int .u64 sg.hi, .int .u8 sg.h] 76)) (And.intro (S7.out.2.2.2.2.1.nu (kpR' ka8)) (S7.out.2.2.2.2.2.2.andNu ka8))))))
        clear ka8
        have TS27 : ∀ X, Kp Nu (w7.alloc (.cells #[.int .u64 sg.lo, .int .u64 sg.hi, .int .u8 sg.h] 76)) X → Calls Tryz.prog 30 #[.agg #[.int .u8 k, .int .u64 key, .int .u64 hi0q, .slice v.a v.n v.c, .slice o.a o.n o.c, .bool has, .int .u8 lim], .int .u64 1, .int .u8 st] X fun e w' => ∃ cs, e = .returned (.agg cs) ∧ ((∃ st', cs = #[.int .u8 6, .int .u64 1, .int .u64 0, .int .u64 (yhi k hi0q), .slice none 0 0, .slice none 0 0, .bool false, .int .u8 k, .int .u8 st', .int .u8 0, .int .u32 0, .int .u32 0, .int .u64 0, .int .u8 0, .slice none 0 0, .slice none 0 0, .slice none 0 0] ∧ stOk k st' ∧ 0 ≤ st' ∧ st' < 256) ∧ Kp Nu X w') := fun X _ => (answer_ok X k key hi0q lim 1 st v.a o.a v.n v.c o.n o.c has HRR.out.1.1 HRR.out.1.2 HRQ.out.hi.1 HRQ.out.hi.2 (by omega) (by omega) HST.out.1 HST.out.2).mono (fun e w' h => by
          obtain ⟨st', h1, h2, h3⟩ := h
          exact ⟨_, h1, ⟨st', rfl, h2.out.1, h2.out.2.1, h2.out.2.2⟩, h3⟩)
        have gc2 := cellAt S8.out.2.1 2 (v := .int .u64 1) rfl
        refine fnd27 (fun _ _ _ _ _ h => h) mixed g w.heap.size 1 (.int .u8 st) [.int .u8 k, .int .u64 key, .int .u64 hi0q, .slice v.a v.n v.c, .slice o.a o.n o.c, .bool has, .int .u8 lim] (fun cs => ∃ st', cs = #[.int .u8 6, .int .u64 1, .int .u64 0, .int .u64 (yhi k hi0q), .slice none 0 0, .slice none 0 0, .bool false, .int .u8 k, .int .u8 st', .int .u8 0, .int .u32 0, .int .u32 0, .int .u64 0, .int .u8 0, .slice none 0 0, .slice none 0 0, .slice none 0 0] ∧ stOk k st' ∧ 0 ≤ st' ∧ st' < 256) rfl rfl rfl rfl rfl gc2 (range_of S8.out.2.2.1) (fun cs hp => by obtain ⟨st', rfl, _⟩ := hp; exact ⟨rfl, by simp [Value.oneCell']⟩) TS27 ?_
        intro bx cs W9 hbx hbl9 hPC hk9
        obtain ⟨st', rfl, hst, hst0, hst1⟩ := hPC
        clear TS27 gc2
        go_frame
        have hyh : (k = 5 → key ≤ yhi k hi0q ∧ yhi k hi0q ≤ hi0q) ∧ (¬ k = 5 → yhi k hi0q = 0) ∧ 0 ≤ yhi k hi0q ∧ yhi k hi0q < 18446744073709551616 := by
          have hh := HRQ.out.hi
          refine ⟨fun e5 => ?_, fun n5 => by unfold yhi; rw [if_neg n5], ?_, ?_⟩
          · have e1 : yhi k hi0q = hi0q := by unfold yhi; rw [if_pos e5]
            have h3 := HRR.out.2.1 3 (by rw [e5]; unfold ul rqM; simp)
            rw [e1]
            exact ⟨h3, Int.le_refl _⟩
          · unfold yhi; split <;> omega
          · unfold yhi; split <;> omega
        generalize yhi k hi0q = yh at *
        have hc9 := S8.out.1.nu hk9
        have hsh : 0 ≤ sg.h ∧ sg.h < hosts := ⟨(D6t.out.hs sg HSG.out.1).1, HH.out sg HSG.out.1⟩
        have TR := take_reply hc9.cb sg.h k st' yh rfl HRR.out.1.1 HRR.out.1.2 hyh.1 hyh.2.1 HRQ.out.lim.1 HRQ.out.lim.2 hst0 hst1 hst hyh.2.2.1 hyh.2.2.2 rfl (by show (1 : Int) ≤ 1; omega) (by show (1 : Int) < _; omega) hsh.1 hsh.2 h16
        have sc9 := cellAt (box_k S8.out.2.2.2.1 hk9) 2 (v := .int .u8 sg.h) rfl
        have H9 := hide (And.intro hc9 (And.intro (box_k S8.out.2.1 hk9) (And.intro (box_k S8.out.2.2.1 hk9) (And.intro (box_k S8.out.2.2.2.1 hk9) (And.intro (S8.out.2.2.2.2.1.nu (kpR' hk9)) (And.intro (S8.out.2.2.2.2.2.andNu hk9) (And.intro hbx hsh)))))))
        have HBX := hide hbx
        have HYH := hide (And.intro hyh (And.intro hst (And.intro hst0 hst1)))
        clear hc9 hk9 hbl9 hbx hyh hst hst0 hst1 S8 hsh
        go_wp2_with (guard_target =~ wpList _ _ _ ({ dst := _, op := Op.load 36 (Operand.tmp 25), type := _, pos := _, after := _, guard := _ } :: _) _ _; refine wpList_load_all 36 17 (.tmp 25) rfl rfl info36 _ Tryz.underlying36 rfl _ rfl HBX.out rfl ?_)
        refine TR.mono ?_; rintro e w10 ⟨rfl, hc10, hk10⟩
        have OU := outcome_ok hc10 rfl rfl
        simp only [Cs.outc, Cs.don, Cs.fd] at OU
        obtain ⟨hc9, hg9, ha9, hs9, hT9, kw9, hbx9, hsh⟩ := H9.out
        have hcb9 : W9.heap[b]? = some (.cells (Cs.cells _) 122 (0, 0)) := hc9.cb
        have ne1 : g ≠ b := fun e => by rw [e, hcb9] at hg9; simp at hg9
        have ne2 : w.heap.size ≠ b := fun e => by rw [e, hcb9] at ha9; simp at ha9
        have ne3 : w7.heap.size ≠ b := fun e => by rw [e, hcb9] at hs9; simp at hs9
        have ne4 : bx ≠ b := fun e => by rw [e, hcb9] at hbx9; simp at hbx9
        have hg10 := (hk10.block _ (blk_lt hg9) (fun e => ne1 e)).trans hg9
        have ha10 := (hk10.block _ (blk_lt ha9) (fun e => ne2 e)).trans ha9
        have hs10 := (hk10.block _ (blk_lt hs9) (fun e => ne3 e)).trans hs9
        have hbx10 := (hk10.block _ (blk_lt hbx9) (fun e => ne4 e)).trans hbx9
        have hT10 := tb_cl hT9 hc9.cb hc9.am (hk10.mono (fun _ _ e => .inl e))
        have hm10 : Am w10 mb 1 _ := hc9.am.keep (hk10.block _ hc9.am.lt (fun e => hc9.ne (show mb = b from e).symm))
        have kw10 : Kp Nu w w10 := kw9.trans hk10 (fun q hq e => by have e' : q = b := e; have := HBL.out.1; have := kwsz.out; omega)
        have H10 := hide (And.intro hc10 (And.intro hg10 (And.intro ha10 (And.intro hs10 (And.intro hbx10 (And.intro hT10 (And.intro hm10 kw10)))))))
        clear TR hc9 hg9 ha9 hs9 hT9 kw9 hbx9 hcb9 ne1 ne2 ne3 ne4 hg10 ha10 hs10 hbx10 hT10 hm10 kw10 hc10 hk10 H9 HBX sc9
        go_wp2_with fail
        refine OU.mono ?_; rintro e w11 ⟨rfl, hk11⟩
        obtain ⟨hc10, hg10, ha10, hs10, hbx10, hT10, hm10, kw10⟩ := H10.out
        have k12 := hk11.andAlloc (.cells #[.int .u8 2, .int .u64 1, .int .u8 st', .slice none 0 0, .slice none 0 0, .int .u64 yh, .int .u8 sg.h, .int .i64 1, .int .i64 0] 55)
        have no := heap_new w11 (.cells #[.int .u8 2, .int .u64 1, .int .u8 st', .slice none 0 0, .slice none 0 0, .int .u64 yh, .int .u8 sg.h, .int .i64 1, .int .i64 0] 55)
        have n0 := cellAt no 0 (v := .int .u8 2) rfl
        have n2 := cellAt no 2 (v := .int .u8 st') rfl
        have n6 := cellAt no 6 (v := .int .u8 sg.h) rfl
        have n7 := cellAt no 7 (v := .int .i64 1) rfl
        have n8 := cellAt no 8 (v := .int .i64 0) rfl
        have sb := cellAt (box_k hs10 k12) 2 (v := .int .u8 sg.h) rfl
        have yb := cellAt (box_k hbx10 k12) 8 (v := .int .u8 st') rfl
        have kw12 := kw10.andNu k12
        have hc12 := hc10.nu k12
        have hm12 := hm10.keep (k12.block _ hm10.lt (fun h => h))
        have B2 := begin_ok hc12 hm12 (by show ¬ (2 : Int) = 1; omega) (hT10.nu (kpR' k12)) k key hi0q lim v o has V O (HVO.out.1.nu kw12) (HVO.out.2.nu kw12) HRQ.out HRR.out (by show (0 : Int) ≤ 1; omega) (by show (1 : Int) + 1 < _; omega) (by rw [HOW.out]; exact hsh.1) (by rw [HOW.out]; omega)
        rw [HOW.out] at B2
        unfold Sl.val at B2
        have ha12 := hide (box_k ha10 k12)
        have H12 := hide (And.intro (box_k hg10 k12) (And.intro (box_k hs10 k12) (And.intro kw12 (And.intro hc12 hm12))))
        clear OU hk11 hc10 hg10 ha10 hs10 hbx10 hT10 hm10 kw10 k12 no kw12 H10 hc12 hm12
        go_wp2_with (guard_target =~ wpList _ _ _ ({ dst := none, op := Op.store 55 (Operand.tmp 28) (Operand.tmp 179), type := _, pos := _, after := _, guard := _ } :: _) _ _; refine wpList_store_new 55 9 (.tmp 28) (.tmp 179) rfl rfl info55 _ _ _ rfl rfl (by simp) rfl rfl (by simp [Value.oneCell']) ?_)
        refine (NM _ 0).mono ?_; rintro e w' ⟨rfl, hw⟩
        obtain rfl := hw.symm
        clear hw
        go_wp2_with (guard_target =~ wpList _ _ _ ({ dst := _, op := Op.load 26 (Operand.tmp 8), type := _, pos := _, after := _, guard := _ } :: _) _ _; refine wpList_load_all 26 7 (.tmp 8) rfl rfl info26 _ Tryz.underlying26 rfl _ rfl ha12.out rfl ?_)
        refine B2.mono ?_; rintro e w13 ⟨g2, v3, o3, rfl, hsn2, hgl2, hcl2, hk13⟩
        obtain ⟨g3, v4, o4, eg2, hg2, hv4, ho4⟩ := hsn2.out
        simp only [Value.slice.injEq, Option.some.injEq, Addr.mk.injEq, and_true] at eg2
        obtain rfl := eg2
        obtain ⟨hg12, hs12, kw12, hc12, hm12⟩ := H12.out
        obtain ⟨es12, cl12, hx12⟩ := hm12.obj
        have hcb12 := hc12
        unfold CB at hcb12
        have ne1 : g ≠ b := fun e => by rw [e, hcb12] at hg12; simp at hg12
        have ne3 : w7.heap.size ≠ b := fun e => by rw [e, hcb12] at hs12; simp at hs12
        have ne5 : g ≠ mb := fun e => by rw [e, hx12] at hg12; cases hg12
        have ne6 : w7.heap.size ≠ mb := fun e => by rw [e, hx12] at hs12; cases hs12
        have hg13 := (hk13.block _ (blk_lt hg12) (fun e => Or.elim e (fun e => ne1 e) (fun e => ne5 e))).trans hg12
        have hs13 := (hk13.block _ (blk_lt hs12) (fun e => Or.elim e (fun e => ne3 e) (fun e => ne6 e))).trans hs12
        have kw13 : Kp Nu w w13 := kw12.trans hk13 (fun q hq e => Or.elim e (fun e => by have e' : q = b := e; have := HBL.out.1; have := kwsz.out; omega) (fun e => by have e' : q = mb := e; have := HBL.out.2; have := kwsz.out; omega))
        have z0 := cellAt hg2 0 (v := .int .u8 sg.h) rfl
        have z2 := cellAt hg2 2 (v := .int .u64 2) rfl
        have gg2 := cellAt hg13 2 (v := .int .u64 1) rfl
        have ss2 := cellAt hs13 2 (v := .int .u8 sg.h) rfl
        have eqh : (sg.h == sg.h) = true := by simp
        have H13 := hide kw13
        clear B2 hsn2 hgl2 hcl2 hk13 hg2 hv4 ho4 hg12 hs12 kw12 hc12 hm12 hx12 hcb12 ne1 ne3 ne5 ne6 hg13 hs13 kw13 H12 ha12 n0 n2 n6 n7 n8 sb yb
        go_wp2_with fail
        go_quiet (first | (go_at_call 28; exact Calls.quiet_of_same (NM _ 0)))
        go_wp2
        go_ret
        exact ⟨by first | rfl | simp, H13.out.andNu (kp_dn _ _)⟩
      · skip
        have hsd : (sg.h != aim) = true := by simpa using hsa
        have hse : decide (sg.h = aim) = false := by simpa using hsa
        have HSA := hide hsa
        clear hsa
        obtain ⟨w8, e8⟩ : ∃ w8, w7.alloc (.cells #[.int .u64 sg.lo, .int .u64 sg.hi, .int .u8 sg.h] 76) = w8 := ⟨_, rfl⟩
        have ka8 : Kp Nu w7 w8 := by rw [← e8]; exact Kp.alloc _ _ _
        have hs8 : w8.heap[w7.heap.size]? = some (.cells #[.int .u64 sg.lo, .int .u64 sg.hi, .int .u8 sg.h] 76 (0, 0)) := by rw [← e8]; exact heap_new w7 _
        have sc0 := cellAt hs8 0 (v := .int .u64 sg.lo) rfl
        have sc1 := cellAt hs8 1 (v := .int .u64 sg.hi) rfl
        have sc2 := cellAt hs8 2 (v := .int .u8 sg.h) rfl
        have gc2 := cellAt (box_k S7.out.1 ka8) 2 (v := .int .u64 1) rfl
        have S8b := hide (And.intro (S7.out.2.2.2.1.nu ka8) (And.intro (box_k S7.out.1 ka8) (And.intro (box_k S7.out.2.2.2.2.2.1 ka8) (And.intro hs8 (And.intro (S7.out.2.2.2.2.1.nu (kpR' ka8)) (And.intro (S7.out.2.2.2.2.2.2.andNu ka8) (And.intro (S7.out.2.1.nu ka8) (S7.out.2.2.1.nu ka8))))))))
        have hl7 : w7.heap.size < w8.heap.size := blk_lt hs8
        have hlg : g < w8.heap.size := blk_lt S8b.out.2.1
        clear ka8 hs8
        go_wp2_with fail
        go_region
        obtain ⟨w21, e21⟩ : ∃ w21, (w8.alloc (.cells #[.int .u8 7, .int .u64 1, .int .u64 sg.lo, .int .u64 sg.hi, .slice none 0 0, .slice none 0 0, .bool false, .int .u8 0, .int .u8 0, .int .u8 sg.h, .int .u32 0, .int .u32 0, .int .u64 0, .int .u8 0, .slice none 0 0, .slice none 0 0, .slice none 0 0] 36)).drew = w21 := ⟨_, rfl⟩
        have k21 : Kp Nu w8 w21 := by rw [← e21]; exact (Kp.alloc w8 _ Nu).drew
        have hbx21 : w21.heap[w8.heap.size]? = some (.cells #[.int .u8 7, .int .u64 1, .int .u64 sg.lo, .int .u64 sg.hi, .slice none 0 0, .slice none 0 0, .bool false, .int .u8 0, .int .u8 0, .int .u8 sg.h, .int .u32 0, .int .u32 0, .int .u64 0, .int .u8 0, .slice none 0 0, .slice none 0 0, .slice none 0 0] 36 (0, 0)) := by rw [← e21]; exact heap_new w8 _
        rw [e21]
        have hcl21 := S8b.out.1.nu k21
        have hT21 := S8b.out.2.2.2.2.1.nu (kpR' k21)
        have kw21 := S8b.out.2.2.2.2.2.1.andNu k21
        have fit := tab_fit D6t.out HSG.out.1
        have hsh : 0 ≤ sg.h ∧ sg.h < hosts := ⟨(D6t.out.hs sg HSG.out.1).1, HH.out sg HSG.out.1⟩
        have TK : Calls Tryz.prog 20 #[.pointer (some ⟨b, 0, none⟩), .int .u8 aim, .agg #[.int .u8 7, .int .u64 1, .int .u64 sg.lo, .int .u64 sg.hi, .slice none 0 0, .slice none 0 0, .bool false, .int .u8 0, .int .u8 0, .int .u8 sg.h, .int .u32 0, .int .u32 0, .int .u64 0, .int .u8 0, .slice none 0 0, .slice none 0 0, .slice none 0 0]] w21 fun e w' => Rdr w21 b (Cs.fd hosts hb5 mb k key hi0q v' o' has lim aim aim 0) 1 _ V O w.heap.size [⟨0, 18446744073709551615, aim⟩] sg.lo sg.hi sg.h e w' := take_red (s := Cs.fd hosts hb5 mb k key hi0q v' o' has lim aim aim 0) hcl21 hT21 kw21.size sg.lo sg.hi sg.h HSG.out.2.1 HSG.out.2.2 fit.1 fit.2.2.2.1 hsh.1 hsh.2 h16 HSA.out (by show (0 : Int) ≤ 0; omega) (by show (0 : Int) ≤ 1000; omega) (by show (0 : Int) ≤ 0 + 1; omega) (by show (0 : Int) + 1 < 1000000; omega) (by omega) rfl (by show (1 : Int) ≤ 1; omega) (by show (1 : Int) < _; omega) a0 hah'
        have HX := hide hbx21
        have H21 := hide (And.intro hcl21 (And.intro hT21 (And.intro kw21 (And.intro (box_k S8b.out.2.1 k21) (And.intro (box_k S8b.out.2.2.1 k21) (And.intro (box_k S8b.out.2.2.2.1 k21) (And.intro (S8b.out.2.2.2.2.2.2.1.nu k21) (And.intro (S8b.out.2.2.2.2.2.2.2.nu k21) (And.intro fit hsh)))))))))
        clear e21 k21 hbx21 hcl21 hT21 kw21 fit hsh sc0 sc1 sc2 gc2 hl7 hlg e8 S8b
        go_wp2_with (guard_target =~ wpList _ _ _ ({ dst := _, op := Op.load 36 (Operand.tmp 21), type := _, pos := _, after := _, guard := _ } :: _) _ _; refine wpList_load_all 36 17 (.tmp 21) rfl rfl info36 _ Tryz.underlying36 rfl _ rfl HX.out rfl ?_)
        refine TK.mono ?_; rintro e w22 hR
        rcases hR with ⟨hh, _⟩ | ⟨_, g4, v5, o5, rfl, hg4, hgl4, hv5, ho5, hcl4, hnt4, hk22⟩
        · exfalso
          have hs := HSA.out
          rw [has_put_other (by intro e2; simp only [Lit.int.injEq, true_and] at e2; omega)] at hh
          simp [Maps.has] at hh
        obtain ⟨hcl21, hT21, kw21, hg21, ha21, hs21, hv21, ho21, fit, hsh⟩ := H21.out
        have hg22 := box_red hcl21 hT21 hk22 hg21 (by decide) (by decide)
        have ha22 := box_red hcl21 hT21 hk22 ha21 (by decide) (by decide)
        have hs22 := box_red hcl21 hT21 hk22 hs21 (by decide) (by decide)
        have hv22 := bt_red hcl21 hT21 hk22 hv21
        have ho22 := bt_red hcl21 hT21 hk22 ho21
        obtain ⟨tv9, L9, hT22, how9⟩ := hnt_ow (key := key) hnt4 a0 (by omega) fit.1 HSG.out.2.1 HSG.out.2.2 fit.2.2.2.1 hsh.1 (by omega)
        have HOW := hide how9
        have hlo := hT21.low
        have kw22 : Kp Nu w w22 := kw21.trans hk22 (fun q hq e => by
          have h1 := HBL.out
          have h2 := kwsz.out
          rcases e with e | e | e
          · have e' : q = b := e; omega
          · have e' : q = mb := e; omega
          · have e' : q = hb5 := e
            have h3 : w.heap.size ≤ hb5 := hlo
            omega)
        have hcl22 : Cl w22 b (Cs.fd hosts hb5 mb k key hi0q v' o' has lim aim sg.h 1) 2 _ V O := hcl4
        have y0 := cellAt hg4 0 (v := .int .u8 sg.h) rfl
        have ss2 := cellAt hs22 2 (v := .int .u8 sg.h) rfl
        have eqn : (sg.h != sg.h) = false := by simp
        have H22 := hide (And.intro hcl22 (And.intro hg22 (And.intro ha22 (And.intro hs22 (And.intro hT22 (And.intro kw22 (And.intro hg4 (And.intro hv5 (And.intro ho5 (And.intro hv22 ho22))))))))))
        clear TK hcl21 hT21 kw21 hg21 ha21 hs21 hv21 ho21 fit hsh hg22 ha22 hs22 hv22 ho22 hT22 how9 hlo kw22 hcl22 hcl4 hnt4 hk22 hg4 hgl4 hv5 ho5 HX H21
        go_wp2_with fail
        go_quiet (first | (go_at_call 28; exact Calls.quiet_of_same (NM _ 0)))
        go_wp2_with fail
        obtain ⟨w23, e23⟩ : ∃ w23, w22.drewN nq = w23 := ⟨_, rfl⟩
        have k23b : Kp Nu w22 w23 := by rw [← e23]; exact kp_dn _ _
        rw [e23]
        obtain ⟨hcl22, hg22, ha22, hs22, hT22, kw22, hg4, hv5, ho5, hv22, ho22⟩ := H22.out
        have hg4' := box_k hg4 k23b
        have hg23 := box_k hg22 k23b
        have byV := HVO.out.1.by_
        have byO := HVO.out.2.by_
        have SAM := fun X (hX : Kp Nu w23 X) => (sameT X k 1 key hi0q lim has v5 o5 v2 o2 V O (((hv5.nu k23b).nu hX).ct byV) (((ho5.nu k23b).nu hX).ct byO) (((hv22.nu k23b).nu hX).ct byV) (((ho22.nu k23b).nu hX).ct byO)).mono (fun e w' h => (⟨h.1, hX.andNu h.2⟩ : e = .returned (.bool true) ∧ Kp Nu w23 w'))
        have HG4 := hide hg4'
        have HG23 := hide hg23
        have H23 := hide (And.intro (hcl22.nu k23b) (And.intro (box_k hg22 k23b) (And.intro (box_k ha22 k23b) (And.intro (box_k hs22 k23b) (And.intro (hT22.nu (kpR' k23b)) (kw22.andNu k23b))))))
        clear e23 k23b hcl22 hg22 ha22 hs22 hT22 kw22 hg4 hv5 ho5 hv22 ho22 hg4' hg23 byV byO H22 y0 ss2
        refine wp_region_still_tail 8 mixed (by kernel_rfl) ?_
        simp only [List.take_succ_cons, List.take_zero, List.drop_succ_cons, List.drop_zero]
        still_step
        still_step
        still_step
        refine wpStill_load 36 17 (.tmp 153) rfl rfl info36 _ Tryz.underlying36 rfl g4 1 rfl [.int .u8 k, .int .u64 1, .int .u64 key, .int .u64 hi0q, .slice v5.a v5.n v5.c, .slice o5.a o5.n o5.c, .bool has, .int .u8 0, .int .u8 0, .int .u8 0, .int .u32 0, .int .u32 0, .int .u64 0, .int .u8 lim, .slice none 0 0, .slice none 0 0, .slice none 0 0] (range_drawn (rng_one (x := .int .u8 sg.h) (t := 38) HG4.out)) rfl ?_
        still_step
        still_step
        still_step
        refine wpStill_load 36 17 (.tmp 157) rfl rfl info36 _ Tryz.underlying36 rfl g 1 rfl [.int .u8 k, .int .u64 1, .int .u64 key, .int .u64 hi0q, .slice v2.a v2.n v2.c, .slice o2.a o2.n o2.c, .bool has, .int .u8 0, .int .u8 0, .int .u8 0, .int .u32 0, .int .u32 0, .int .u64 0, .int .u8 lim, .slice none 0 0, .slice none 0 0, .slice none 0 0] (range_drawn (rng_one (x := .int .u8 aim) (t := 38) HG23.out)) rfl ?_
        refine wpStill_nil ?_
        have dk : Kp Nu w23 { w23 with drawn := w23.drawn + 1 } := ⟨rfl, rfl, rfl, Nat.le_refl _, fun _ _ _ => rfl⟩
        have SAM1 := SAM _ dk
        clear SAM dk
        go_wp2_with fail
        refine SAM1.mono ?_; rintro e wB ⟨rfl, hkB⟩
        have S8 := hide (And.intro (H23.out.1.nu hkB) (And.intro (box_k H23.out.2.1 hkB) (And.intro (box_k H23.out.2.2.1 hkB) (And.intro (box_k H23.out.2.2.2.1 hkB) (And.intro (H23.out.2.2.2.2.1.nu (kpR' hkB)) (H23.out.2.2.2.2.2.andNu hkB))))))
        clear SAM1 hkB H23 HG4 HG23
        go_wp2_with fail
        have TS27 : ∀ X, Kp Nu wB X → Calls Tryz.prog 30 #[.agg #[.int .u8 k, .int .u64 key, .int .u64 hi0q, .slice v.a v.n v.c, .slice o.a o.n o.c, .bool has, .int .u8 lim], .int .u64 1, .int .u8 st] X fun e w' => ∃ cs, e = .returned (.agg cs) ∧ ((∃ st', cs = #[.int .u8 6, .int .u64 1, .int .u64 0, .int .u64 (yhi k hi0q), .slice none 0 0, .slice none 0 0, .bool false, .int .u8 k, .int .u8 st', .int .u8 0, .int .u32 0, .int .u32 0, .int .u64 0, .int .u8 0, .slice none 0 0, .slice none 0 0, .slice none 0 0] ∧ stOk k st' ∧ 0 ≤ st' ∧ st' < 256) ∧ Kp Nu X w') := fun X _ => (answer_ok X k key hi0q lim 1 st v.a o.a v.n v.c o.n o.c has HRR.out.1.1 HRR.out.1.2 HRQ.out.hi.1 HRQ.out.hi.2 (by omega) (by omega) HST.out.1 HST.out.2).mono (fun e w' h => by
          obtain ⟨st', h1, h2, h3⟩ := h
          exact ⟨_, h1, ⟨st', rfl, h2.out.1, h2.out.2.1, h2.out.2.2⟩, h3⟩)
        have gc2 := cellAt S8.out.2.1 2 (v := .int .u64 1) rfl
        refine fnd27 (fun _ _ _ _ _ h => h) mixed g w.heap.size 1 (.int .u8 st) [.int .u8 k, .int .u64 key, .int .u64 hi0q, .slice v.a v.n v.c, .slice o.a o.n o.c, .bool has, .int .u8 lim] (fun cs => ∃ st', cs = #[.int .u8 6, .int .u64 1, .int .u64 0, .int .u64 (yhi k hi0q), .slice none 0 0, .slice none 0 0, .bool false, .int .u8 k, .int .u8 st', .int .u8 0, .int .u32 0, .int .u32 0, .int .u64 0, .int .u8 0, .slice none 0 0, .slice none 0 0, .slice none 0 0] ∧ stOk k st' ∧ 0 ≤ st' ∧ st' < 256) rfl rfl rfl rfl rfl gc2 (range_of S8.out.2.2.1) (fun cs hp => by obtain ⟨st', rfl, _⟩ := hp; exact ⟨rfl, by simp [Value.oneCell']⟩) TS27 ?_
        intro bx cs W9 hbx hbl9 hPC hk9
        obtain ⟨st', rfl, hst, hst0, hst1⟩ := hPC
        clear TS27 gc2
        go_frame
        have hyh : (k = 5 → key ≤ yhi k hi0q ∧ yhi k hi0q ≤ hi0q) ∧ (¬ k = 5 → yhi k hi0q = 0) ∧ 0 ≤ yhi k hi0q ∧ yhi k hi0q < 18446744073709551616 := by
          have hh := HRQ.out.hi
          refine ⟨fun e5 => ?_, fun n5 => by unfold yhi; rw [if_neg n5], ?_, ?_⟩
          · have e1 : yhi k hi0q = hi0q := by unfold yhi; rw [if_pos e5]
            have h3 := HRR.out.2.1 3 (by rw [e5]; unfold ul rqM; simp)
            rw [e1]
            exact ⟨h3, Int.le_refl _⟩
          · unfold yhi; split <;> omega
          · unfold yhi; split <;> omega
        generalize yhi k hi0q = yh at *
        have hc9 := S8.out.1.nu hk9
        have hsh : 0 ≤ sg.h ∧ sg.h < hosts := ⟨(D6t.out.hs sg HSG.out.1).1, HH.out sg HSG.out.1⟩
        have TR := take_reply hc9.cb sg.h k st' yh rfl HRR.out.1.1 HRR.out.1.2 hyh.1 hyh.2.1 HRQ.out.lim.1 HRQ.out.lim.2 hst0 hst1 hst hyh.2.2.1 hyh.2.2.2 rfl (by show (1 : Int) ≤ 1; omega) (by show (1 : Int) < _; omega) hsh.1 hsh.2 h16
        have sc9 := cellAt (box_k S8.out.2.2.2.1 hk9) 2 (v := .int .u8 sg.h) rfl
        have H9 := hide (And.intro hc9 (And.intro (box_k S8.out.2.1 hk9) (And.intro (box_k S8.out.2.2.1 hk9) (And.intro (box_k S8.out.2.2.2.1 hk9) (And.intro (S8.out.2.2.2.2.1.nu (kpR' hk9)) (And.intro (S8.out.2.2.2.2.2.andNu hk9) (And.intro hbx hsh)))))))
        have HBX := hide hbx
        have HYH := hide (And.intro hyh (And.intro hst (And.intro hst0 hst1)))
        clear hc9 hk9 hbl9 hbx hyh hst hst0 hst1 S8 hsh
        go_wp2_with (guard_target =~ wpList _ _ _ ({ dst := _, op := Op.load 36 (Operand.tmp 25), type := _, pos := _, after := _, guard := _ } :: _) _ _; refine wpList_load_all 36 17 (.tmp 25) rfl rfl info36 _ Tryz.underlying36 rfl _ rfl HBX.out rfl ?_)
        refine TR.mono ?_; rintro e w10 ⟨rfl, hc10, hk10⟩
        have OU := outcome_ok hc10 rfl rfl
        simp only [Cs.outc, Cs.don, Cs.fd] at OU
        obtain ⟨hc9, hg9, ha9, hs9, hT9, kw9, hbx9, hsh⟩ := H9.out
        have hcb9 : W9.heap[b]? = some (.cells (Cs.cells _) 122 (0, 0)) := hc9.cb
        have ne1 : g ≠ b := fun e => by rw [e, hcb9] at hg9; simp at hg9
        have ne2 : w.heap.size ≠ b := fun e => by rw [e, hcb9] at ha9; simp at ha9
        have ne3 : w7.heap.size ≠ b := fun e => by rw [e, hcb9] at hs9; simp at hs9
        have ne4 : bx ≠ b := fun e => by rw [e, hcb9] at hbx9; simp at hbx9
        have hg10 := (hk10.block _ (blk_lt hg9) (fun e => ne1 e)).trans hg9
        have ha10 := (hk10.block _ (blk_lt ha9) (fun e => ne2 e)).trans ha9
        have hs10 := (hk10.block _ (blk_lt hs9) (fun e => ne3 e)).trans hs9
        have hbx10 := (hk10.block _ (blk_lt hbx9) (fun e => ne4 e)).trans hbx9
        have hT10 := tb_cl hT9 hc9.cb hc9.am (hk10.mono (fun _ _ e => .inl e))
        have hm10 : Am w10 mb 2 _ := hc9.am.keep (hk10.block _ hc9.am.lt (fun e => hc9.ne (show mb = b from e).symm))
        have kw10 : Kp Nu w w10 := kw9.trans hk10 (fun q hq e => by have e' : q = b := e; have := HBL.out.1; have := kwsz.out; omega)
        have H10 := hide (And.intro hc10 (And.intro hg10 (And.intro ha10 (And.intro hs10 (And.intro hbx10 (And.intro hT10 (And.intro hm10 kw10)))))))
        clear TR hc9 hg9 ha9 hs9 hT9 kw9 hbx9 hcb9 ne1 ne2 ne3 ne4 hg10 ha10 hs10 hbx10 hT10 hm10 kw10 hc10 hk10 H9 HBX sc9
        go_wp2_with fail
        refine OU.mono ?_; rintro e w11 ⟨rfl, hk11⟩
        obtain ⟨hc10, hg10, ha10, hs10, hbx10, hT10, hm10, kw10⟩ := H10.out
        have k12 := hk11.andAlloc (.cells #[.int .u8 2, .int .u64 1, .int .u8 st', .slice none 0 0, .slice none 0 0, .int .u64 yh, .int .u8 sg.h, .int .i64 2, .int .i64 1] 55)
        have no := heap_new w11 (.cells #[.int .u8 2, .int .u64 1, .int .u8 st', .slice none 0 0, .slice none 0 0, .int .u64 yh, .int .u8 sg.h, .int .i64 2, .int .i64 1] 55)
        have n0 := cellAt no 0 (v := .int .u8 2) rfl
        have n2 := cellAt no 2 (v := .int .u8 st') rfl
        have n6 := cellAt no 6 (v := .int .u8 sg.h) rfl
        have n7 := cellAt no 7 (v := .int .i64 2) rfl
        have n8 := cellAt no 8 (v := .int .i64 1) rfl
        have sb := cellAt (box_k hs10 k12) 2 (v := .int .u8 sg.h) rfl
        have yb := cellAt (box_k hbx10 k12) 8 (v := .int .u8 st') rfl
        have kw12 := kw10.andNu k12
        have hc12 := hc10.nu k12
        have hm12 := hm10.keep (k12.block _ hm10.lt (fun h => h))
        have B2 := begin_ok hc12 hm12 (by show ¬ (2 : Int) = 1; omega) (hT10.nu (kpR' k12)) k key hi0q lim v o has V O (HVO.out.1.nu kw12) (HVO.out.2.nu kw12) HRQ.out HRR.out (by show (0 : Int) ≤ 1; omega) (by show (1 : Int) + 1 < _; omega) (by rw [HOW.out]; exact hsh.1) (by rw [HOW.out]; omega)
        rw [HOW.out] at B2
        unfold Sl.val at B2
        have ha12 := hide (box_k ha10 k12)
        have H12 := hide (And.intro (box_k hg10 k12) (And.intro (box_k hs10 k12) (And.intro kw12 (And.intro hc12 hm12))))
        clear OU hk11 hc10 hg10 ha10 hs10 hbx10 hT10 hm10 kw10 k12 no kw12 H10 hc12 hm12
        go_wp2_with (guard_target =~ wpList _ _ _ ({ dst := none, op := Op.store 55 (Operand.tmp 28) (Operand.tmp 179), type := _, pos := _, after := _, guard := _ } :: _) _ _; refine wpList_store_new 55 9 (.tmp 28) (.tmp 179) rfl rfl info55 _ _ _ rfl rfl (by simp) rfl rfl (by simp [Value.oneCell']) ?_)
        refine (NM _ 0).mono ?_; rintro e w' ⟨rfl, hw⟩
        obtain rfl := hw.symm
        clear hw
        go_wp2_with (guard_target =~ wpList _ _ _ ({ dst := _, op := Op.load 26 (Operand.tmp 8), type := _, pos := _, after := _, guard := _ } :: _) _ _; refine wpList_load_all 26 7 (.tmp 8) rfl rfl info26 _ Tryz.underlying26 rfl _ rfl ha12.out rfl ?_)
        refine B2.mono ?_; rintro e w13 ⟨g2, v3, o3, rfl, hsn2, hgl2, hcl2, hk13⟩
        obtain ⟨g3, v4, o4, eg2, hg2, hv4, ho4⟩ := hsn2.out
        simp only [Value.slice.injEq, Option.some.injEq, Addr.mk.injEq, and_true] at eg2
        obtain rfl := eg2
        obtain ⟨hg12, hs12, kw12, hc12, hm12⟩ := H12.out
        obtain ⟨es12, cl12, hx12⟩ := hm12.obj
        have hcb12 := hc12
        unfold CB at hcb12
        have ne1 : g ≠ b := fun e => by rw [e, hcb12] at hg12; simp at hg12
        have ne3 : w7.heap.size ≠ b := fun e => by rw [e, hcb12] at hs12; simp at hs12
        have ne5 : g ≠ mb := fun e => by rw [e, hx12] at hg12; cases hg12
        have ne6 : w7.heap.size ≠ mb := fun e => by rw [e, hx12] at hs12; cases hs12
        have hg13 := (hk13.block _ (blk_lt hg12) (fun e => Or.elim e (fun e => ne1 e) (fun e => ne5 e))).trans hg12
        have hs13 := (hk13.block _ (blk_lt hs12) (fun e => Or.elim e (fun e => ne3 e) (fun e => ne6 e))).trans hs12
        have kw13 : Kp Nu w w13 := kw12.trans hk13 (fun q hq e => Or.elim e (fun e => by have e' : q = b := e; have := HBL.out.1; have := kwsz.out; omega) (fun e => by have e' : q = mb := e; have := HBL.out.2; have := kwsz.out; omega))
        have z0 := cellAt hg2 0 (v := .int .u8 sg.h) rfl
        have z2 := cellAt hg2 2 (v := .int .u64 2) rfl
        have gg2 := cellAt hg13 2 (v := .int .u64 1) rfl
        have ss2 := cellAt hs13 2 (v := .int .u8 sg.h) rfl
        have eqh : (sg.h == sg.h) = true := by simp
        have H13 := hide kw13
        clear B2 hsn2 hgl2 hcl2 hk13 hg2 hv4 ho4 hg12 hs12 kw12 hc12 hm12 hx12 hcb12 ne1 ne3 ne5 ne6 hg13 hs13 kw13 H12 ha12 n0 n2 n6 n7 n8 sb yb
        go_wp2_with fail
        go_quiet (first | (go_at_call 28; exact Calls.quiet_of_same (NM _ 0)))
        go_wp2
        go_ret
        exact ⟨by first | rfl | simp, H13.out.andNu (kp_dn _ _)⟩
end Go.Proofs.YtmlnglillgplfaaGreat.Cl
