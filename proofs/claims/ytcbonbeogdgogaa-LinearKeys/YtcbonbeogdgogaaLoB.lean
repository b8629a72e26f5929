import Derived.Test.YtcbonbeogdgogaaLoA
namespace Go.Proofs.Ytcbonbeogdgogaa.Li
open Go.RowKit
set_option linter.unusedVariables false
/-- numbers in memory -/
def Ns (w : World) (u : Value) (o : List Int) : Prop := ∃ a cap, u = .slice a o.length cap ∧ o.length ≤ cap ∧ ∀ (j : Nat) x, o[j]? = some x → ∃ b : Addr, a = some b ∧ w.cell? (b.add j) = some (.int .i64 x)
theorem Ns.nu {w w' : World} {u : Value} {o : List Int} (h : Ns w u o) (k : Kp Nu w w') : Ns w' u o := by
  obtain ⟨a, cap, h0, h2, h1⟩ := h
  refine ⟨a, cap, h0, h2, fun j x hx => ?_⟩
  obtain ⟨b, hb, hc⟩ := h1 j x hx
  exact ⟨b, hb, (World.cell?_of_block (k.block _ (World.block_lt_of_cell? w _ hc) (fun h => h))).trans hc⟩
theorem Ns.at_ {w : World} {a : Option Addr} {n cap : Nat} {o : List Int} (h : Ns w (.slice a n cap) o) {j : Nat} {x : Int} (hx : o[j]? = some x) : ∃ b : Addr, a = some b ∧ w.cell? (b.add j) = some (.int .i64 x) := by
  obtain ⟨a', cap', h0, h2, h1⟩ := h
  simp only [Value.slice.injEq] at h0
  obtain ⟨rfl, _, _⟩ := h0
  exact h1 j x hx
theorem Ns.len {w : World} {a : Option Addr} {n cap : Nat} {o : List Int} (h : Ns w (.slice a n cap) o) : n = o.length := by
  obtain ⟨a', cap', h0, h2, h1⟩ := h
  simp only [Value.slice.injEq] at h0
  exact h0.2.1
theorem Ns.cap {w : World} {a : Option Addr} {n cap : Nat} {o : List Int} (h : Ns w (.slice a n cap) o) : n ≤ cap := by
  obtain ⟨a', cap', h0, h2, h1⟩ := h
  simp only [Value.slice.injEq] at h0
  omega
theorem Ns.take {w : World} {a : Option Addr} {n cap : Nat} {o : List Int} (h : Ns w (.slice a n cap) o) {i : Nat} (hi : i ≤ n) : Ns w (.slice a i cap) (o.take i) := by
  have hl := h.len
  have hc := h.cap
  refine ⟨a, cap, by rw [List.length_take, Nat.min_eq_left (by omega)], by rw [List.length_take]; omega, fun j x hx => ?_⟩
  have hj : j < i := by
    have := (List.getElem?_eq_some_iff.1 hx).1
    rw [List.length_take] at this
    omega
  rw [List.getElem?_take_of_lt hj] at hx
  exact h.at_ hx
/-- a bool that says whether p -/
theorem Ans.congr {p q : Prop} {e : Ending} (h : Ans p e) (hq : p ↔ q) : Ans q e := by
  obtain ⟨b, h1, h2⟩ := h
  exact ⟨b, h1, h2.trans hq⟩
set_option maxHeartbeats 1000000 in
theorem has45 (w : World) (u : Value) (o : List Int) (x : Int) (h : Ns w u o) (hN : o.length ≤ 140737488351232) : Calls Try.prog 45 #[u, .int .i64 x] w fun e w' => Ans (x ∈ o) e ∧ w' = w := by
  obtain ⟨a, cap, rfl, _, _⟩ := id h
  obtain ⟨N, eN⟩ : ∃ N, o.length = N := ⟨_, rfl⟩
  have HN := hide (And.intro h eN)
  rw [eN] at hN ⊢
  have hNI : (N : Int) ≤ 140737488351232 := by omega
  clear h eN hN
  go_enter Try.func45, Try.ntmps45
  go_wp2
  go_loopw [5] (fun iv wr => ∃ i : Nat, iv = .int .i64 (i : Int) ∧ i ≤ N ∧ wr = w ∧ Hid (x ∉ o.take i)) (fun iv _ => N - (intOf iv).toNat)
  case atStart => exact ⟨0, rfl, Nat.zero_le _, rfl, hide (by simp)⟩
  case round =>
    obtain ⟨i, rfl, hi, hw, hI⟩ := hrel
    obtain rfl := hw
    have hi0 : (0 : Int) ≤ (i : Int) := by omega
    by_cases hlt : i < N
    · have hltI : (i : Int) < (N : Int) := by omega
      obtain ⟨y, hy⟩ : ∃ y, o[i]? = some y := ⟨_, List.getElem?_eq_getElem (by rw [HN.out.2]; exact hlt)⟩
      obtain ⟨b, rfl, hc⟩ := HN.out.1.at_ hy
      have HY := hide hy
      have eti : (i : Int).toNat = i := by omega
      clear hy
      by_cases hxy : y = x
      · have e1 : (y == x) = true := by simpa using hxy
        have HX := hide hxy
        clear hxy
        go_wp2
        go_ret
        refine ⟨⟨true, rfl, ?_⟩, rfl⟩
        have := HX.out
        subst this
        simp
        exact List.mem_of_getElem? HY.out
      · have e1 : (y == x) = false := by simpa using hxy
        have HX := hide hxy
        clear hxy
        go_wp2
        refine ⟨⟨i + 1, by go_num, by omega, trivial, hide ?_⟩, by simp [intOf]; omega⟩
        rw [List.take_add_one, HY.out]
        simp only [Option.toList_some, List.mem_append, List.mem_singleton, not_or]
        exact ⟨hI.out, fun e => HX.out e.symm⟩
    · have hge : ¬ (i : Int) < (N : Int) := by omega
      have HE : Hid (x ∉ o) := hide (by
        have h := hI.out
        rw [List.take_of_length_le (by have := HN.out.2; omega)] at h
        exact h)
      go_wp2
      go_ret
      exact ⟨⟨false, rfl, by simp; exact HE.out⟩, rfl⟩
set_option maxRecDepth 100000 in
set_option maxHeartbeats 2000000 in
theorem isBefore63 (w : World) (c d : Ca) : Calls Try.prog 63 #[.agg #[.int .u8 c.who, .int .u64 c.seq, .int .u8 c.k, .int .u64 c.key, .int .u64 c.hi, .slice c.va c.V.length c.vc, .slice c.oa c.O.length c.oc, .bool c.has, .int .u8 c.lim, .int .u8 c.st, .slice c.ya c.Y.length c.yc, .int .i64 c.beg, .int .i64 c.en], .agg #[.int .u8 d.who, .int .u64 d.seq, .int .u8 d.k, .int .u64 d.key, .int .u64 d.hi, .slice d.va d.V.length d.vc, .slice d.oa d.O.length d.oc, .bool d.has, .int .u8 d.lim, .int .u8 d.st, .slice d.ya d.Y.length d.yc, .int .i64 d.beg, .int .i64 d.en]] w fun e w' => Ans (bef c d) e ∧ Kp Nu w w' := by
  have KN := fun W => known54 W c.who c.seq c.k c.key c.hi c.lim c.st c.beg c.en c.has c.va c.oa c.ya c.V.length c.vc c.O.length c.oc c.Y.length c.yc
  have HB := hide (And.intro (new12 w (.cells #[.int .u8 c.who, .int .u64 c.seq, .int .u8 c.k, .int .u64 c.key, .int .u64 c.hi, .slice c.va c.V.length c.vc, .slice c.oa c.O.length c.oc, .bool c.has, .int .u8 c.lim, .int .u8 c.st, .slice c.ya c.Y.length c.yc, .int .i64 c.beg, .int .i64 c.en] 30) (.cells #[.int .u8 d.who, .int .u64 d.seq, .int .u8 d.k, .int .u64 d.key, .int .u64 d.hi, .slice d.va d.V.length d.vc, .slice d.oa d.O.length d.oc, .bool d.has, .int .u8 d.lim, .int .u8 d.st, .slice d.ya d.Y.length d.yc, .int .i64 d.beg, .int .i64 d.en] 30)) (new2 w (.cells #[.int .u8 c.who, .int .u64 c.seq, .int .u8 c.k, .int .u64 c.key, .int .u64 c.hi, .slice c.va c.V.length c.vc, .slice c.oa c.O.length c.oc, .bool c.has, .int .u8 c.lim, .int .u8 c.st, .slice c.ya c.Y.length c.yc, .int .i64 c.beg, .int .i64 c.en] 30) (.cells #[.int .u8 d.who, .int .u64 d.seq, .int .u8 d.k, .int .u64 d.key, .int .u64 d.hi, .slice d.va d.V.length d.vc, .slice d.oa d.O.length d.oc, .bool d.has, .int .u8 d.lim, .int .u8 d.st, .slice d.ya d.Y.length d.yc, .int .i64 d.beg, .int .i64 d.en] 30)))
  go_enter Try.func63, Try.ntmps63
  go_wp2_with (guard_target =~ wpList _ _ _ ({ dst := _, op := Op.load 30 (Operand.tmp 2), type := _, pos := _, after := _, guard := _ } :: _) _ _; refine wpList_load_all 30 13 (.tmp 2) rfl rfl info30 _ Try.underlying30 rfl _ rfl HB.out.1 rfl ?_)
  refine (KN _).mono ?_; rintro e w1 ⟨rfl, hk1⟩
  have a12 := cellAt (box_k HB.out.1 hk1) 12 (v := .int .i64 c.en) rfl
  have b11 := cellAt (box_k HB.out.2 hk1) 11 (v := .int .i64 d.beg) rfl
  have HK := hide (((Kp.alloc w _ Nu).andAlloc _).andNu hk1)
  clear KN hk1 HB
  by_cases hen : c.en = -1
  · have hn : (c.en != -1) = false := by simpa using hen
    have HE := hide hen
    clear hen
    go_wp2
    go_ret
    exact ⟨⟨false, rfl, by simp [bef, HE.out]⟩, HK.out⟩
  · have hn : (c.en != -1) = true := by simpa using hen
    have HE := hide hen
    clear hen
    go_wp2
    go_ret
    exact ⟨⟨_, rfl, by simp [bef, HE.out]⟩, HK.out⟩
set_option maxRecDepth 100000 in
set_option maxHeartbeats 2000000 in
theorem before48 (w : World) (c d : Ca) : Calls Try.prog 48 #[.agg #[.int .u8 c.who, .int .u64 c.seq, .int .u8 c.k, .int .u64 c.key, .int .u64 c.hi, .slice c.va c.V.length c.vc, .slice c.oa c.O.length c.oc, .bool c.has, .int .u8 c.lim, .int .u8 c.st, .slice c.ya c.Y.length c.yc, .int .i64 c.beg, .int .i64 c.en], .agg #[.int .u8 d.who, .int .u64 d.seq, .int .u8 d.k, .int .u64 d.key, .int .u64 d.hi, .slice d.va d.V.length d.vc, .slice d.oa d.O.length d.oc, .bool d.has, .int .u8 d.lim, .int .u8 d.st, .slice d.ya d.Y.length d.yc, .int .i64 d.beg, .int .i64 d.en]] w fun e w' => Ans (bef c d) e ∧ Kp Nu w w' := by
  have KN := fun W => known50 W c.who c.seq c.k c.key c.hi c.lim c.st c.beg c.en c.has c.va c.oa c.ya c.V.length c.vc c.O.length c.oc c.Y.length c.yc
  have HB := hide (And.intro (new12 w (.cells #[.int .u8 c.who, .int .u64 c.seq, .int .u8 c.k, .int .u64 c.key, .int .u64 c.hi, .slice c.va c.V.length c.vc, .slice c.oa c.O.length c.oc, .bool c.has, .int .u8 c.lim, .int .u8 c.st, .slice c.ya c.Y.length c.yc, .int .i64 c.beg, .int .i64 c.en] 30) (.cells #[.int .u8 d.who, .int .u64 d.seq, .int .u8 d.k, .int .u64 d.key, .int .u64 d.hi, .slice d.va d.V.length d.vc, .slice d.oa d.O.length d.oc, .bool d.has, .int .u8 d.lim, .int .u8 d.st, .slice d.ya d.Y.length d.yc, .int .i64 d.beg, .int .i64 d.en] 30)) (new2 w (.cells #[.int .u8 c.who, .int .u64 c.seq, .int .u8 c.k, .int .u64 c.key, .int .u64 c.hi, .slice c.va c.V.length c.vc, .slice c.oa c.O.length c.oc, .bool c.has, .int .u8 c.lim, .int .u8 c.st, .slice c.ya c.Y.length c.yc, .int .i64 c.beg, .int .i64 c.en] 30) (.cells #[.int .u8 d.who, .int .u64 d.seq, .int .u8 d.k, .int .u64 d.key, .int .u64 d.hi, .slice d.va d.V.length d.vc, .slice d.oa d.O.length d.oc, .bool d.has, .int .u8 d.lim, .int .u8 d.st, .slice d.ya d.Y.length d.yc, .int .i64 d.beg, .int .i64 d.en] 30)))
  go_enter Try.func48, Try.ntmps48
  go_wp2_with (guard_target =~ wpList _ _ _ ({ dst := _, op := Op.load 30 (Operand.tmp 2), type := _, pos := _, after := _, guard := _ } :: _) _ _; refine wpList_load_all 30 13 (.tmp 2) rfl rfl info30 _ Try.underlying30 rfl _ rfl HB.out.1 rfl ?_)
  refine (KN _).mono ?_; rintro e w1 ⟨rfl, hk1⟩
  have a12 := cellAt (box_k HB.out.1 hk1) 12 (v := .int .i64 c.en) rfl
  have b11 := cellAt (box_k HB.out.2 hk1) 11 (v := .int .i64 d.beg) rfl
  have HK := hide (((Kp.alloc w _ Nu).andAlloc _).andNu hk1)
  clear KN hk1 HB
  by_cases hen : c.en = -1
  · have hn : (c.en != -1) = false := by simpa using hen
    have HE := hide hen
    clear hen
    go_wp2
    go_ret
    exact ⟨⟨false, rfl, by simp [bef, HE.out]⟩, HK.out⟩
  · have hn : (c.en != -1) = true := by simpa using hen
    have HE := hide hen
    clear hen
    go_wp2
    go_ret
    exact ⟨⟨_, rfl, by simp [bef, HE.out]⟩, HK.out⟩
set_option maxRecDepth 100000 in
set_option maxHeartbeats 2000000 in
theorem allMayBe41 (w : World) (u : Value) (L : List Ca) (hL : Cls w u L) (hN : L.length ≤ 140737488351232) : Calls Try.prog 41 #[u] w fun e w' => Ans (AllMB L) e ∧ Kp Nu w w' := by
  obtain ⟨ua, uc, rfl⟩ := hL.slice
  obtain ⟨N, eN⟩ : ∃ N, L.length = N := ⟨_, rfl⟩
  have HL := hide (And.intro hL eN)
  rw [eN] at hN ⊢
  have hNI : (N : Int) ≤ 140737488351232 := by omega
  clear hL eN hN
  go_enter Try.func41, Try.ntmps41
  go_wp2
  go_loopw [3] (fun iv wr => ∃ i : Nat, iv = .int .i64 (i : Int) ∧ i ≤ N ∧ Hid (Kp Nu w wr ∧ ∀ j c, j < i → L[j]? = some c → MBc c)) (fun iv _ => N - (intOf iv).toNat)
  case atStart => exact ⟨0, rfl, Nat.zero_le _, hide ⟨Kp.refl _ _, fun j c hj => by omega⟩⟩
  case round =>
    obtain ⟨i, rfl, hi, hI⟩ := hrel
    have hi0 : (0 : Int) ≤ (i : Int) := by omega
    by_cases hlt : i < N
    · have hltI : (i : Int) < (N : Int) := by omega
      obtain ⟨c, hc⟩ : ∃ c, L[i]? = some c := ⟨_, List.getElem?_eq_getElem (by rw [HL.out.2]; exact hlt)⟩
      obtain ⟨b, off, cap, eu, hR, ok⟩ := cls_at (HL.out.1.nu hI.out.1) hc
      rw [HL.out.2] at eu
      simp only [Value.slice.injEq, true_and] at eu
      obtain ⟨rfl, rfl⟩ := eu
      obtain ⟨r0, r1, r2, r3, r4, r5, r6, r7, r8, r9, r10, r11, r12⟩ := range_cells hR
      have MY := fun W => mayBe25 W c.who c.seq c.k c.key c.hi c.lim c.st c.beg c.en c.has c.va c.oa c.ya c.V.length c.vc c.O.length c.oc c.Y.length c.yc
      have HC := hide hc
      clear hR ok hc
      go_wp2_with fail
      refine (MY _).mono ?_; rintro e w1 ⟨⟨bb, rfl, hb⟩, hk1⟩
      have HB := hide hb
      have HK := hide (hI.out.1.andNu hk1)
      clear MY hb hk1 r0 r1 r2 r3 r4 r5 r6 r7 r8 r9 r10 r11 r12
      cases bb with
      | false =>
        go_wp2
        go_ret
        refine ⟨⟨false, rfl, ?_⟩, HK.out⟩
        simp
        intro h
        have := HB.out.2 (h c (List.mem_of_getElem? HC.out))
        simp at this
      | true =>
        go_wp2
        refine ⟨⟨i + 1, by go_num, by omega, hide ⟨HK.out, fun j d hj hd => ?_⟩⟩, by simp [intOf]; omega⟩
        by_cases e : j = i
        · subst e
          rw [HC.out] at hd
          cases hd
          exact HB.out.1 (by simp)
        · exact hI.out.2 j d (by omega) hd
    · have hge : ¬ (i : Int) < (N : Int) := by omega
      go_wp2
      go_ret
      refine ⟨⟨true, rfl, ?_⟩, hI.out.1⟩
      simp
      intro c hc
      obtain ⟨j, hj⟩ := List.getElem?_of_mem hc
      have := (List.getElem?_eq_some_iff.1 hj).1
      exact hI.out.2 j c (by have := HL.out.2; omega) hj
set_option maxRecDepth 100000 in
set_option maxHeartbeats 2000000 in
theorem mayBe59 (w : World) (c : Ca) : Calls Try.prog 59 #[.agg #[.int .u8 c.who, .int .u64 c.seq, .int .u8 c.k, .int .u64 c.key, .int .u64 c.hi, .slice c.va c.V.length c.vc, .slice c.oa c.O.length c.oc, .bool c.has, .int .u8 c.lim, .int .u8 c.st, .slice c.ya c.Y.length c.yc, .int .i64 c.beg, .int .i64 c.en]] w fun e w' => Ans (¬ MBc c) e ∧ Kp Nu w w' := by
  have MY := fun W => mayBe27 W c.who c.seq c.k c.key c.hi c.lim c.st c.beg c.en c.has c.va c.oa c.ya c.V.length c.vc c.O.length c.oc c.Y.length c.yc
  have HA := hide (heap_new w (.cells #[.int .u8 c.who, .int .u64 c.seq, .int .u8 c.k, .int .u64 c.key, .int .u64 c.hi, .slice c.va c.V.length c.vc, .slice c.oa c.O.length c.oc, .bool c.has, .int .u8 c.lim, .int .u8 c.st, .slice c.ya c.Y.length c.yc, .int .i64 c.beg, .int .i64 c.en] 30))
  go_enter Try.func59, Try.ntmps59
  go_wp2_with (guard_target =~ wpList _ _ _ ({ dst := _, op := Op.load 30 (Operand.tmp 1), type := _, pos := _, after := _, guard := _ } :: _) _ _; refine wpList_load_all 30 13 (.tmp 1) rfl rfl info30 _ Try.underlying30 rfl _ rfl HA.out rfl ?_)
  refine (MY _).mono ?_; rintro e w1 ⟨⟨bb, rfl, hb⟩, hk1⟩
  have HB := hide hb
  have HK := hide ((Kp.alloc w _ Nu).andNu hk1)
  clear MY hb hk1 HA
  go_wp2
  go_ret
  refine ⟨⟨_, rfl, ?_⟩, HK.out⟩
  have := HB.out
  unfold MBc
  rw [← this]
  simp
set_option maxRecDepth 100000 in
set_option maxHeartbeats 2000000 in
theorem index86 (w : World) (u : Value) (L : List Ca) (hL : Cls w u L) (hN : L.length ≤ 140737488351232) : Calls Try.prog 86 #[u, .func (.func 59) #[] #[]] w fun e w' => ∃ j : Int, e = .returned (.int .i64 j) ∧ Hid (0 ≤ j ↔ ¬ AllMB L) ∧ Kp Nu w w' := by
  obtain ⟨ua, uc, rfl⟩ := hL.slice
  obtain ⟨N, eN⟩ : ∃ N, L.length = N := ⟨_, rfl⟩
  have HL := hide (And.intro hL eN)
  rw [eN] at hN ⊢
  have hNI : (N : Int) ≤ 140737488351232 := by omega
  clear hL eN hN
  go_enter Try.func86, Try.ntmps86
  go_wp2
  go_loopw [8] (fun iv wr => ∃ i : Nat, iv = .int .i64 (i : Int) ∧ i ≤ N ∧ Hid (Kp Nu w wr ∧ ∀ j c, j < i → L[j]? = some c → MBc c)) (fun iv _ => N - (intOf iv).toNat)
  case atStart => exact ⟨0, rfl, Nat.zero_le _, hide ⟨Kp.refl _ _, fun j c hj => by omega⟩⟩
  case round =>
    obtain ⟨i, rfl, hi, hI⟩ := hrel
    have hi0 : (0 : Int) ≤ (i : Int) := by omega
    by_cases hlt : i < N
    · have hltI : (i : Int) < (N : Int) := by omega
      obtain ⟨c, hc⟩ : ∃ c, L[i]? = some c := ⟨_, List.getElem?_eq_getElem (by rw [HL.out.2]; exact hlt)⟩
      obtain ⟨b, off, cap, eu, hR, ok⟩ := cls_at (HL.out.1.nu hI.out.1) hc
      rw [HL.out.2] at eu
      simp only [Value.slice.injEq, true_and] at eu
      obtain ⟨rfl, rfl⟩ := eu
      obtain ⟨r0, r1, r2, r3, r4, r5, r6, r7, r8, r9, r10, r11, r12⟩ := range_cells hR
      have MY := fun W => mayBe59 W c
      have HC := hide hc
      clear hR ok hc
      go_wp2_with fail
      refine (MY _).mono ?_; rintro e w1 ⟨⟨bb, rfl, hb⟩, hk1⟩
      have HB := hide hb
      have HK := hide (hI.out.1.andNu hk1)
      clear MY hb hk1 r0 r1 r2 r3 r4 r5 r6 r7 r8 r9 r10 r11 r12
      cases bb with
      | true =>
        go_wp2
        go_ret
        refine ⟨_, rfl, hide ?_, HK.out⟩
        have h1 := HB.out.1 (by simp)
        exact ⟨fun _ h => h1 (h c (List.mem_of_getElem? HC.out)), fun _ => by omega⟩
      | false =>
        go_wp2
        refine ⟨⟨i + 1, by go_num, by omega, hide ⟨HK.out, fun j d hj hd => ?_⟩⟩, by simp [intOf]; omega⟩
        by_cases e : j = i
        · subst e
          rw [HC.out] at hd
          cases hd
          exact Classical.byContradiction (fun h => by have := HB.out.2 h; simp at this)
        · exact hI.out.2 j d (by omega) hd
    · have hge : ¬ (i : Int) < (N : Int) := by omega
      go_wp2
      go_ret
      refine ⟨_, rfl, hide ?_, hI.out.1⟩
      have hall : AllMB L := fun c hc => by
        obtain ⟨j, hj⟩ := List.getElem?_of_mem hc
        have := (List.getElem?_eq_some_iff.1 hj).1
        exact hI.out.2 j c (by have := HL.out.2; omega) hj
      exact ⟨fun h => by omega, fun h => absurd hall h⟩
set_option maxHeartbeats 1000000 in
theorem allMayBe32 (w : World) (u : Value) (L : List Ca) (hL : Cls w u L) (hN : L.length ≤ 140737488351232) : Calls Try.prog 32 #[u] w fun e w' => Ans (AllMB L) e ∧ Kp Nu w w' := by
  have IA := index86 w u L hL hN
  obtain ⟨ua, uc, rfl⟩ := hL.slice
  have CF : Calls Try.prog 58 #[.slice ua L.length uc, .func (.func 59) #[] #[]] w fun e w' => Ans (¬ AllMB L) e ∧ Kp Nu w w' := by
    clear hL hN
    go_enter Try.func58, Try.ntmps58
    go_wp2_with fail
    refine IA.mono ?_; rintro e w1 ⟨j, rfl, hj, hk1⟩
    have HK := hide hk1
    clear IA hk1
    go_wp2
    go_ret
    exact ⟨⟨_, rfl, by rw [← hj.out]; simp⟩, HK.out⟩
  clear IA hL hN
  go_enter Try.func32, Try.ntmps32
  go_wp2_with fail
  refine CF.mono ?_; rintro e w1 ⟨⟨bb, rfl, hb⟩, hk1⟩
  have HB := hide hb
  have HK := hide hk1
  clear CF hb hk1
  go_wp2
  go_ret
  refine ⟨⟨_, rfl, ?_⟩, HK.out⟩
  have := HB.out
  cases bb
  · simp at this; simp [this]
  · simp at this; simp [this]
end Go.Proofs.Ytcbonbeogdgogaa.Li
