import Derived.Test.YtcbonbeogdgogaaLoE
namespace Go.Proofs.Ytcbonbeogdgogaa.Li
open Go.RowKit
set_option linter.unusedVariables false
theorem lst_call {L : List Ca} {o : List Int} {i : Nat} {x : Int} (h : Lst L o o.length) (hx : o[i]? = some x) : 0 ≤ x ∧ x < (L.length : Int) ∧ ∃ c, L[x.toNat]? = some c ∧ ¬ c.k = 5 := by
  have hi := (List.getElem?_eq_some_iff.1 hx).1
  obtain ⟨h0, ⟨c, hc, h5⟩, _⟩ := h i x hi hx
  have := (List.getElem?_eq_some_iff.1 hc).1
  exact ⟨h0, by omega, c, hc, h5⟩
theorem ld3 (w : World) (A : Addr) (x : Int) (hc : w.cell? A = some (.int .i64 x)) : (loadVar 3 A).run Try.prog w = .ok (.int .i64 x) w := by
  simp [go_sem, hc]
/-- a number loaded in a region that draws -/
theorem wpStill_3 {ops : Array Oper} {rest : List Oper} {o : Oper} {a : Act} {w : World} {Q : Act → Prop} (x : Operand) (hgd : o.guard = none) (ho : o.op = .load 3 x) (A : Addr) (v : Int) (hx : a.eval x = .pointer (some A)) (hc : w.cell? A = some (.int .i64 v))
    (h : wpStill Try.prog ops w Q rest (a.put o.dst (.int .i64 v))) : wpStill Try.prog ops w Q (o :: rest) a := by
  refine wpStill_step (fun K hK => ?_)
  have hw : Region.wanted o (yielded ops a.tmps) = true := by simp [Region.wanted, hgd]
  rw [if_pos hw]
  unfold Oper.still execOp
  simp only [ho, hx, Instr.loadAt, Instr.sureAddr, Sem.run_bind, Sem.run_pure, Result.andThen_ok, ld3 w A v hc, Oper.stillUpon]
  exact ⟨trivial, hK _ h⟩
/-- a call of the list, as the walk loads it -/
theorem call_at {w : World} {ua : Option Addr} {N uc : Nat} {L : List Ca} (hL : Cls w (.slice ua N uc) L) (hN : L.length = N) {i : Nat} {c : Ca} (hc : L[i]? = some c) :
    ∃ b off, ua = some ⟨b, off, none⟩ ∧ w.rangeAt b (off + i * 13) c.cells ∧ CaOk w c := by
  obtain ⟨b, off, cap, eu, hR, ok⟩ := cls_at hL hc
  rw [hN] at eu
  simp only [Value.slice.injEq, true_and] at eu
  exact ⟨b, off, eu.1, hR, ok⟩
set_option maxRecDepth 100000 in
set_option maxHeartbeats 8000000 in
theorem obeys22 (w : World) (u v : Value) (L : List Ca) (o : List Int) (hL : Cls w u L) (hO : Ns w v o) (hN : L.length ≤ 400) (hM : o.length ≤ 400) :
    Calls Try.prog 22 #[u, v] w fun e w' => Ans (Obs L o) e ∧ Kp Nu w w' := by
  have mixed : Try.prog.follows .mixedOrders = true := by kernel_rfl
  have AM := allMayBe41 w u L hL (by omega)
  have LI := fun W (k : Kp Nu w W) => listed42 W u v L o (hL.nu k) (hO.nu k) (by omega) (by omega)
  have WH := fun W (k : Kp Nu w W) => whole43 W u v L o (hL.nu k) (hO.nu k) (by omega) (by omega)
  obtain ⟨ua, uc, rfl⟩ := hL.slice
  obtain ⟨va, vc, rfl, _, _⟩ := id hO
  obtain ⟨N, eN⟩ : ∃ N, L.length = N := ⟨_, rfl⟩
  obtain ⟨M, eM⟩ : ∃ M, o.length = M := ⟨_, rfl⟩
  have HL := hide (And.intro hL (And.intro eN (And.intro hO eM)))
  rw [eN] at AM LI WH hN ⊢
  rw [eM] at LI WH hM ⊢
  have hNI : (N : Int) ≤ 400 := by omega
  have hMI : (M : Int) ≤ 400 := by omega
  clear hL hO eN eM hN
  have bad : ∀ (P : Prop), (Obs L o → P) → ¬ P → ∀ (e : Ending) (W : World), e = .returned (.bool false) → Kp Nu w W → Ans (Obs L o) e ∧ Kp Nu w W := fun P h1 h2 e W he hk => ⟨⟨false, he, by simp; exact fun h => h2 (h1 h)⟩, hk⟩
  have HBad := hide bad
  clear bad
  go_enter Try.func22, Try.ntmps22
  go_wp2_with fail
  refine AM.mono ?_; rintro e w1 ⟨⟨b1, rfl, hb1⟩, hk1⟩
  have LI1 := LI w1 hk1
  have HB1 := hide hb1
  have HK1 := hide hk1
  clear AM LI hb1 hk1
  cases b1 with
  | false =>
    go_wp2
    go_ret
    exact HBad.out _ (fun h => h.all) (fun h => by have := HB1.out.2 h; simp at this) _ _ rfl HK1.out
  | true =>
  go_wp2_with fail
  refine LI1.mono ?_; rintro e w2 ⟨⟨b2, rfl, hb2⟩, hk2⟩
  have WH2 := WH w2 (HK1.out.andNu hk2)
  have HB2 := hide hb2
  have HK2 := hide (HK1.out.andNu hk2)
  clear LI1 WH hb2 hk2
  cases b2 with
  | false =>
    go_wp2
    go_ret
    exact HBad.out (Lst L o M) (fun h => by have := h.lst; rw [HL.out.2.2.2] at this; exact this) (fun h => by have := HB2.out.2 h; simp at this) _ _ rfl HK2.out
  | true =>
  go_wp2_with fail
  refine WH2.mono ?_; rintro e w3 ⟨⟨b3, rfl, hb3⟩, hk3⟩
  have HB3 := hide hb3
  have HK3 := hide (HK2.out.andNu hk3)
  clear WH2 hb3 hk3
  cases b3 with
  | false =>
    go_wp2
    go_ret
    exact HBad.out (Whl L o N) (fun h => by have := h.whl; rw [HL.out.2.1] at this; exact this) (fun h => by have := HB3.out.2 h; simp at this) _ _ rfl HK3.out
  | true =>
  have HP : Hid (AllMB L ∧ Lst L o o.length ∧ Whl L o L.length) := hide ⟨HB1.out.1 (by simp), by rw [HL.out.2.2.2]; exact HB2.out.1 (by simp), by rw [HL.out.2.1]; exact HB3.out.1 (by simp)⟩
  clear HB1 HB2 HB3 HK1 HK2
  go_wp2
  go_loopw [5] (fun iv wr => ∃ i : Nat, iv = .int .i64 (i : Int) ∧ i ≤ M ∧ Hid (Kp Nu w wr ∧ InT L o i)) (fun iv _ => M - (intOf iv).toNat)
  case atStart => exact ⟨0, rfl, Nat.zero_le _, hide ⟨HK3.out, fun p q x y c d hp => by omega⟩⟩
  case round =>
    obtain ⟨i, rfl, hi, hI⟩ := hrel
    have hi0 : (0 : Int) ≤ (i : Int) := by omega
    obtain ⟨wl, rfl⟩ : ∃ wl : World, wl = wr := ⟨_, rfl⟩
    by_cases hlt : i < M
    · have hltI : (i : Int) < (M : Int) := by omega
      obtain ⟨x, hx⟩ : ∃ x, o[i]? = some x := ⟨_, List.getElem?_eq_getElem (by rw [HL.out.2.2.2]; exact hlt)⟩
      obtain ⟨hx0, hxN, c, hc, _⟩ := lst_call HP.out.2.1 hx
      rw [HL.out.2.1] at hxN
      have HX := hide (And.intro hx hc)
      clear hx hc
      go_wp2
      go_loopw [6] (fun jv wr => ∃ j : Nat, jv = .int .i64 (j : Int) ∧ j ≤ i ∧ Hid (Kp Nu w wr ∧ ∀ q y d, q < j → o[q]? = some y → L[y.toNat]? = some d → ¬ bef c d)) (fun jv _ => i - (intOf jv).toNat)
      case atStart => exact ⟨0, rfl, Nat.zero_le _, hide ⟨hI.out.1, fun q y d hq => by omega⟩⟩
      case round =>
        obtain ⟨j, rfl, hj, hJ⟩ := hrel
        have hj0 : (0 : Int) ≤ (j : Int) := by omega
        by_cases hjl : j < i
        · have hjI : (j : Int) < (i : Int) := by omega
          have hjM : (j : Int) < (M : Int) := by omega
          obtain ⟨y, hy⟩ : ∃ y, o[j]? = some y := ⟨_, List.getElem?_eq_getElem (by rw [HL.out.2.2.2]; omega)⟩
          obtain ⟨hy0, hyN, d, hd, _⟩ := lst_call HP.out.2.1 hy
          rw [HL.out.2.1] at hyN
          obtain ⟨bL, off, rfl, hR, ok⟩ := call_at (HL.out.1.nu hJ.out.1) rfl HX.out.2
          obtain ⟨bL', off', e', hR', ok'⟩ := call_at (HL.out.1.nu hJ.out.1) rfl hd
          simp only [Option.some.injEq, Addr.mk.injEq, and_true] at e'
          obtain ⟨rfl, rfl⟩ := e'
          obtain ⟨bO, rfl, kx⟩ := (HL.out.2.2.1.nu hJ.out.1).at_ HX.out.1
          obtain ⟨bO', e', ky⟩ := (HL.out.2.2.1.nu hJ.out.1).at_ hy
          simp only [Option.some.injEq] at e'
          subst e'
          have eti : (i : Int).toNat = i := by omega
          have etj : (j : Int).toNat = j := by omega
          have BF := before48 { wr with drawn := wr.drawn + 1 } c d
          have HY := hide (And.intro hy hd)
          have HR := hide (And.intro hR (And.intro hR' (And.intro kx ky)))
          have dk : Kp Nu wr { wr with drawn := wr.drawn + 1 } := ⟨rfl, rfl, rfl, Nat.le_refl _, fun _ _ _ => rfl⟩
          have HD := hide dk
          clear hy hd hR hR' ok ok' kx ky dk
          go_wp2_with fail
          refine wp_region_still_tail 14 mixed (by kernel_rfl) ?_
          simp only [List.take_succ_cons, List.take_zero, List.drop_succ_cons, List.drop_zero]
          still_step
          still_step
          still_step
          still_step
          refine wpStill_3 (.tmp 43) rfl rfl (bO.add i) x rfl HR.out.2.2.1 ?_
          still_step
          refine wpStill_load 30 13 (.tmp 45) rfl rfl info30 _ Try.underlying30 rfl bL (off + x.toNat * 13) rfl c.cells (range_drawn HR.out.1) rfl ?_
          still_step
          still_step
          still_step
          still_step
          refine wpStill_3 (.tmp 50) rfl rfl (bO.add j) y rfl HR.out.2.2.2 ?_
          still_step
          refine wpStill_load 30 13 (.tmp 52) rfl rfl info30 _ Try.underlying30 rfl bL (off + y.toNat * 13) rfl d.cells (range_drawn HR.out.2.1) rfl ?_
          refine wpStill_nil ?_
          go_wp2_with fail
          refine BF.mono ?_; rintro e w6 ⟨⟨bb, rfl, hbb⟩, hk6⟩
          have HB := hide hbb
          have HK6 := hide (hJ.out.1.andNu (HD.out.andNu hk6))
          clear BF hbb hk6
          cases bb with
          | true =>
            go_wp2
            go_ret
            refine HBad.out (InT L o M) (fun h => by have := h.inT; rw [HL.out.2.2.2] at this; exact this) (fun h => ?_) _ _ rfl HK6.out
            exact h i j x y c d hlt hjl HX.out.1 HY.out.1 HX.out.2 HY.out.2 (HB.out.1 (by simp))
          | false =>
            go_wp2
            refine ⟨⟨j + 1, by go_num, by omega, hide ⟨HK6.out, fun q z f hq hz hf => ?_⟩⟩, by simp [intOf]; omega⟩
            by_cases e : q = j
            · subst e
              rw [HY.out.1] at hz
              cases hz
              rw [HY.out.2] at hf
              cases hf
              exact fun h => by have := HB.out.2 h; simp at this
            · exact hJ.out.2 q z f (by omega) hz hf
        · have hge : ¬ (j : Int) < (i : Int) := by omega
          obtain rfl : j = i := by omega
          go_wp2
          refine ⟨⟨j + 1, by go_num, by omega, hide ⟨hJ.out.1, fun p q x' y c' d hp hq hx hy hc hd => ?_⟩⟩, by simp [intOf]; omega⟩
          by_cases e : p = j
          · subst e
            rw [HX.out.1] at hx
            cases hx
            rw [HX.out.2] at hc
            cases hc
            exact hJ.out.2 q y d hq hy hd
          · exact hI.out.2 p q x' y c' d (by omega) hq hx hy hc hd
    · have hge : ¬ (i : Int) < (M : Int) := by omega
      obtain rfl : M = i := by omega
      obtain ⟨z0, hzi, hz0, hz1, hz2⟩ := info_parts info60z
      have hsz0 : w.heap.size ≤ wl.heap.size := hI.out.1.size
      go_wp2_with (at_make; refine wpList_make_full _ rfl _ _ 78 rfl w.heap.size 60 z0 _ 2 Try.underlying78 hzi hz0 hz1 _ _ _ _ M rfl rfl rfl rfl (by rw [hz2]; omega) (by unfold maxLen; omega) hsz0 ?_; intro w4 hrow4 hgr4)
      have H4 : Hid (Pl3 w w4 L o 0 M wl.heap.size (List.replicate M ⟨false, none, 0, 0⟩)) := hide ⟨hI.out.1.trans (Kp.of_grown hgr4) (fun q hq e => by cases e), rw_made hrow4, ⟨_, Fr.zero L o⟩, fun q x c z hq => by omega⟩
      clear hrow4 hgr4
      go_loopw [8] (fun iv wr => ∃ (i : Nat) (Z : List Zc), iv = .int .i64 (i : Int) ∧ i ≤ M ∧ Hid (Pl3 w wr L o i M wl.heap.size Z)) (fun iv _ => M - (intOf iv).toNat)
      case atStart => exact ⟨0, _, rfl, Nat.zero_le _, H4⟩
      case round =>
        obtain ⟨i, Z, rfl, hi, hJ⟩ := hrel
        have hi0' : (0 : Int) ≤ (i : Int) := by omega
        obtain ⟨w5, rfl⟩ : ∃ w5 : World, w5 = wr := ⟨_, rfl⟩
        by_cases hlt : i < M
        · have hltI : (i : Int) < (M : Int) := by omega
          obtain ⟨x, hx⟩ : ∃ x, o[i]? = some x := ⟨_, List.getElem?_eq_getElem (by rw [HL.out.2.2.2]; exact hlt)⟩
          obtain ⟨hx0, hxN, c, hc, _⟩ := lst_call HP.out.2.1 hx
          rw [HL.out.2.1] at hxN
          obtain ⟨bL, off, rfl, hR, ok⟩ := call_at (HL.out.1.nu hJ.out.kp) rfl hc
          obtain ⟨bO, rfl, kx⟩ := (HL.out.2.2.1.nu hJ.out.kp).at_ hx
          have okw : CaOk w c := by obtain ⟨_, _, _, _, q⟩ := call_at HL.out.1 rfl hc; exact q
          have eti : (i : Int).toNat = i := by omega
          obtain ⟨r0, r1, r2, r3, r4, r5, r6, r7, r8, r9, r10, r11, r12⟩ := range_cells hR
          have HX := hide (And.intro hx (And.intro hc okw))
          have k56 : Kp Nu w5 ((w5.alloc (.cells #[.int .u8 c.who, .int .u64 c.seq, .int .u8 c.k, .int .u64 c.key, .int .u64 c.hi, .slice c.va c.V.length c.vc, .slice c.oa c.O.length c.oc, .bool c.has, .int .u8 c.lim, .int .u8 c.st, .slice c.ya c.Y.length c.yc, .int .i64 c.beg, .int .i64 c.en] 30)).alloc (.cells #[.bool false, .slice none 0 0] 60)) := (Kp.alloc w5 _ Nu).andAlloc _
          have H6 : Hid (In4 w ((w5.alloc (.cells #[.int .u8 c.who, .int .u64 c.seq, .int .u8 c.k, .int .u64 c.key, .int .u64 c.hi, .slice c.va c.V.length c.vc, .slice c.oa c.O.length c.oc, .bool c.has, .int .u8 c.lim, .int .u8 c.st, .slice c.ya c.Y.length c.yc, .int .i64 c.beg, .int .i64 c.en] 30)).alloc (.cells #[.bool false, .slice none 0 0] 60)) L o 0 M wl.heap.size (w5.heap.size + 1) w5.heap.size c Z ⟨false, none, 0, 0⟩) := hide ⟨hJ.out.kp.andNu k56, hJ.out.rw.kp (k56.block _ hJ.out.rw.lt (fun h => h)), new2 w5 _ _, new12 w5 _ _, ⟨_, Fr.zero L o, [], rfl, by simp⟩⟩
          have HG := hide (And.intro hJ.out.rw.lt hJ.out.kp.size)
          clear hx hc okw hR ok k56
          go_wp2
          go_loopw [11] (fun jv wr => ∃ (j : Nat) (z : Zc), jv = .int .i64 (j : Int) ∧ j ≤ i ∧ Hid (In4 w wr L o j M wl.heap.size (w5.heap.size + 1) w5.heap.size c Z z)) (fun jv _ => i - (intOf jv).toNat)
          case atStart => exact ⟨0, _, rfl, Nat.zero_le _, H6⟩
          case round =>
            obtain ⟨j, z, rfl, hj, hK⟩ := hrel
            have hj0 : (0 : Int) ≤ (j : Int) := by omega
            by_cases hjl : j < i
            · have hjI : (j : Int) < (i : Int) := by omega
              have hjM : (j : Int) < (M : Int) := by omega
              obtain ⟨y, hy⟩ : ∃ y, o[j]? = some y := ⟨_, List.getElem?_eq_getElem (by rw [HL.out.2.2.2]; omega)⟩
              obtain ⟨hy0, hyN, d, hd, _⟩ := lst_call HP.out.2.1 hy
              rw [HL.out.2.1] at hyN
              obtain ⟨zj, hzj⟩ : ∃ zj, Z[j]? = some zj := ⟨_, List.getElem?_eq_getElem (by rw [hJ.out.rw.len]; omega)⟩
              obtain ⟨bL', off', e', hR', ok'⟩ := call_at (HL.out.1.nu hK.out.kp) rfl hd
              simp only [Option.some.injEq, Addr.mk.injEq, and_true] at e'
              obtain ⟨rfl, rfl⟩ := e'
              obtain ⟨bO', e', ky⟩ := (HL.out.2.2.1.nu hK.out.kp).at_ hy
              simp only [Option.some.injEq] at e'
              subst e'
              have etj : (j : Int).toNat = j := by omega
              have s3 := (range_cells hR').2.2.2.1
              have c3 := cellAt hK.out.bc 3 (v := .int .u64 c.key) rfl
              have x0 := cellAt hK.out.bx 0 (v := .bool z.h) rfl
              have x1 := cellAt hK.out.bx 1 (v := .slice z.a z.n z.c) rfl
              have f0 := free3 hK.out.bx 0
              have f1 := free3 hK.out.bx 1
              obtain ⟨g0, g1⟩ := hK.out.rw.at_ hzj
              have HY := hide (And.intro hy (And.intro hd hzj))
              clear hy hd hzj hR' ok'
              by_cases hkk : d.key = c.key
              · have e1 : (d.key == c.key) = true := by simpa using hkk
                have HKK := hide hkk
                clear hkk
                go_wp2_with fail
                go_quiet (fail)
                go_wp2
                have hbX := hK.out.bx
                have hT := hK.out.turn (W := ((wr.drewN nq).setCell ⟨w5.heap.size + 1, 0, none⟩ (.bool zj.h)).setCell ⟨w5.heap.size + 1, 1, none⟩ (.slice zj.a zj.n zj.c)) (z' := zj) (j' := j + 1) ((((kp_dn wr nq).mono (T := fun i => i = w5.heap.size + 1) (fun _ _ h => h.elim)).andSet _ _ (.inr rfl)).andSet _ _ (.inr rfl)) (set3 (set3 (w := wr.drewN nq) hbX 0 _) 1 _) (by have := HG.out; omega) (by have := HG.out; omega) (by
                  obtain ⟨f, h1, h2⟩ := hJ.out.each j y d zj hjl HY.out.1 HY.out.2.1 HY.out.2.2
                  rw [HKK.out] at h2
                  exact ⟨f, h1, h2⟩)
                exact ⟨⟨j + 1, zj, by go_num, by omega, hide hT⟩, by simp [intOf]; omega⟩
              · have e1 : (d.key == c.key) = false := by simpa using hkk
                have HKK := hide hkk
                clear hkk
                go_wp2_with fail
                go_quiet (fail)
                go_wp2
                have hT := hK.out.turn (W := wr.drewN nq) (z' := z) (j' := j + 1) ((kp_dn wr nq).mono (fun _ _ h => h.elim)) hK.out.bx (by have := HG.out; omega) (by have := HG.out; omega) (by
                  obtain ⟨f', h1, h2⟩ := hJ.out.each j y d zj hjl HY.out.1 HY.out.2.1 HY.out.2.2
                  obtain ⟨f, h3, h4⟩ := hK.out.now
                  refine ⟨f', h1, ?_⟩
                  rw [Fr.keep HY.out.1 HY.out.2.1 h3 h1 HKK.out]
                  exact h4)
                exact ⟨⟨j + 1, z, by go_num, by omega, hide hT⟩, by simp [intOf]; omega⟩
            · have hgej : ¬ (j : Int) < (i : Int) := by omega
              obtain rfl : i = j := by omega
              obtain ⟨f, hf, X, hX, hby⟩ := hK.out.now
              have okc := HX.out.2.2
              have PL := play26 w wr hK.out.kp z.h z.a z.n z.c X c.V c.O c.Y c.who c.seq c.k c.key c.hi c.lim c.st c.beg c.en c.has c.va c.oa c.ya c.V.length c.vc c.O.length c.oc c.Y.length c.yc (HP.out.1 c (List.mem_of_getElem? HX.out.2.1)) hby okc.v okc.o okc.y
              have hBC := hK.out.bc
              have x0 := cellAt hK.out.bx 0 (v := .bool z.h) rfl
              have x1 := cellAt hK.out.bx 1 (v := .slice z.a z.n z.c) rfl
              have HBC := hide hBC
              have HF := hide (And.intro hf hX)
              clear hf hX hby okc hBC
              go_wp2_with (guard_target =~ wpList _ _ _ ({ dst := _, op := Op.load 30 (Operand.tmp 9), type := _, pos := _, after := _, guard := _ } :: _) _ _; refine wpList_load_all 30 13 (.tmp 9) rfl rfl info30 _ Try.underlying30 rfl _ rfl HBC.out rfl ?_)
              refine PL.mono ?_; rintro e w7 ⟨⟨can, h1, xa1, xn1, xc1, X1, rfl, q1, q2⟩, hk7⟩
              have HQ := hide (And.intro q1 q2)
              obtain ⟨w8, e8⟩ : ∃ w8, w7.alloc (.cells #[.bool h1, .slice xa1 xn1 xc1] 60) = w8 := ⟨_, rfl⟩
              have k78 : Kp Nu w7 w8 := by rw [← e8]; exact Kp.alloc _ _ _
              have hE : w8.heap[w7.heap.size]? = some (.cells #[.bool h1, .slice xa1 xn1 xc1] 60 (0, 0)) := by rw [← e8]; exact heap_new _ _
              have k8 := hk7.andNu k78
              have kw8 := hK.out.kp.andNu k8
              have hrw8 := hK.out.rw.kp (k8.block _ hK.out.rw.lt (fun h => h))
              have g0 := cellAt hE 0 (v := .bool h1) rfl
              have g1 := cellAt hE 1 (v := .slice xa1 xn1 xc1) rfl
              have hstp : Hid (stp c.k c.st (c.en != -1) c.has c.V c.O c.Y (opt z.h X) = stpc c (f c.key)) := hide (by rw [HF.out.2]; rfl)
              have H8 := hide (And.intro kw8 hrw8)
              clear PL q1 q2 hk7 k78 hE k8 x0 x1
              cases can with
              | false =>
                clear hrw8
                go_wp2
                go_ret
                refine HBad.out _ (fun h => h.run) (fun h => ?_) _ _ rfl kw8
                have hn : stpc c (f c.key) = none := by
                  have := HQ.out.1
                  rw [hstp.out] at this
                  revert this
                  cases stpc c (f c.key) <;> simp
                have : Fr L o (i + 1) = none := by rw [Fr.step HX.out.1 HX.out.2.1, HF.out.1]; simp [hn]
                rw [Fr.none this] at h
                simp at h
              | true =>
                obtain ⟨zi, hzi⟩ : ∃ zi, Z[i]? = some zi := ⟨_, List.getElem?_eq_getElem (by rw [hJ.out.rw.len]; omega)⟩
                obtain ⟨y0, y1⟩ := hrw8.at_ hzi
                have f0 := hrw8.free (i * 2)
                have f1 := hrw8.free (i * 2 + 1)
                clear hrw8 kw8 hzi
                go_wp2
                have hq := HQ.out.2 (by simp)
                have hst : stpc c (f c.key) = some (opt h1 X1) := by rw [← hstp.out]; exact hq.1
                have hF1 : Fr L o (i + 1) = some (upd f c.key (opt h1 X1)) := by rw [Fr.step HX.out.1 HX.out.2.1, HF.out.1]; simp [hst]
                have hlen := hJ.out.rw.len
                refine ⟨⟨i + 1, Z.set i ⟨h1, xa1, xn1, xc1⟩, by go_num, by omega, hide ⟨(H8.out.1.andSet _ _ (.inl hsz0)).andSet _ _ (.inl hsz0), H8.out.2.set i hlt ⟨h1, xa1, xn1, xc1⟩, ⟨_, hF1⟩, fun q x' c' z' hq' hx' hc' hz' => ?_⟩⟩, by simp [intOf]; omega⟩
                by_cases e : q = i
                · subst e
                  rw [HX.out.1] at hx'
                  cases hx'
                  rw [HX.out.2.1] at hc'
                  cases hc'
                  rw [List.getElem?_set_self (by omega)] at hz'
                  cases hz'
                  exact ⟨_, hF1, X1, by simp [upd], hq.2⟩
                · rw [List.getElem?_set_ne (fun e' => e e'.symm)] at hz'
                  exact hJ.out.each q x' c' z' (by omega) hx' hc' hz'
        · have hge2 : ¬ (i : Int) < (M : Int) := by omega
          obtain rfl : M = i := by omega
          go_wp2
          go_ret
          refine ⟨⟨true, rfl, ?_⟩, hJ.out.kp⟩
          simp
          refine ⟨HP.out.1, HP.out.2.1, HP.out.2.2, by rw [HL.out.2.2.2]; exact hI.out.2, ?_⟩
          obtain ⟨f, hf⟩ := hJ.out.run
          rw [Fr.all L o (by rw [HL.out.2.2.2]; exact Nat.le_refl _)] at hf
          rw [hf]
          rfl
end Go.Proofs.Ytcbonbeogdgogaa.Li
