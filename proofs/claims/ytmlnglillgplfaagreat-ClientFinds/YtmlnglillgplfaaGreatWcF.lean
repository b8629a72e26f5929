import Derived.Test.YtmlnglillgplfaaGreatWcD
namespace Go.Proofs.YtmlnglillgplfaaGreat.Cl
open Go.RowKit
set_option linter.unusedVariables false
/-- the message without some fields -/
def Mg.clfs (m : Mg) (fs : List Nat) : Mg := fs.foldl Mg.clf m
theorem clfs_take {m : Mg} {fs : List Nat} {k f : Nat} (h : fs[k]? = some f) : m.clfs (fs.take (k + 1)) = (m.clfs (fs.take k)).clf f := by
  rw [List.take_add_one, h, Option.toList_some, Mg.clfs, List.foldl_append]; rfl
theorem Fs.nu {w w' : World} {v : Value} {fs : List Nat} {S : Nat → Prop} (h : Fs w v fs) (k : Kp S w w') (hn : ∀ r n c, v = .slice (some ⟨r, 0, none⟩) n c → ¬ S r) : Fs w' v fs := by
  rcases h with h | ⟨r, c, e, hb⟩
  · exact .inl h
  · exact .inr ⟨r, c, e, (k.block r (blk_lt hb) (hn _ _ _ e)).trans hb⟩
theorem Fs.slice {w : World} {v : Value} {fs : List Nat} (h : Fs w v fs) : ∃ a c, v = .slice a fs.length c := by
  rcases h with ⟨rfl, rfl⟩ | ⟨r, c, e, hb⟩
  · exact ⟨none, 0, rfl⟩
  · exact ⟨_, c, e⟩
theorem Fs.cell {w : World} {a : Option Addr} {n c : Nat} {fs : List Nat} (h : Fs w (.slice a n c) fs) {k f : Nat} (hk : fs[k]? = some f) : ∃ r, a = some ⟨r, 0, none⟩ ∧ w.cell? ⟨r, k, none⟩ = some (fv f) := by
  rcases h with ⟨e, rfl⟩ | ⟨r, c, e, hb⟩
  · simp at hk
  · simp only [Value.slice.injEq] at e
    exact ⟨r, e.1, cellAt hb k (by simp [hk])⟩
theorem fv_one (f : Nat) : ∃ t u, fv f = .iface t u := by
  unfold fv
  split <;> exact ⟨_, _, rfl⟩
set_option maxRecDepth 100000 in
set_option maxHeartbeats 2000000 in
/-- all fields are gone through -/
theorem each_ok {w : World} {ub mb fb : Nat} {U M : Mg} (hu : Blk w ub U) (hm : Blk w mb M) (ok : M.Ok) (hne : ub ≠ mb) (k1 : 1 ≤ M.k) (k7 : M.k ≤ 7) (hf : ∀ f ∈ flds M.k, M.okf f) (ha : ∀ f ∈ M.ans, M.okf f) :
    Calls Tryz.prog 88 #[.pointer (some ⟨mb, 0, none⟩), .func (.func 89) #[] #[.pointer (some ⟨ub, 0, none⟩), .pointer (some ⟨mb, 0, none⟩), .pointer (some ⟨fb, 0, none⟩)]] w fun e w' => e = .returned (.tuple #[]) ∧ Blk w' ub ((U.clfs (flds M.k)).clfs M.ans) ∧ Kp (fun i => i = ub) w w' := by
  have FO := fieldsOf_any w M.k k1 k7
  have c0 := hm.at 0 (.int .u8 M.k) rfl
  have h12 : M.k ≠ 12 := by omega
  have CL := fun W V (k : Kp (fun i => i = ub) w W) (b : Blk W ub V) f (h : M.okf f) => cl_any (fb := fb) b (hm.kp k (fun e => hne e.symm)) ok hne h12 f h
  have AO := fun W (k : Kp (fun i => i = ub) w W) => answerOf_any (hm.kp k (fun e => hne e.symm))
  have ubl : ub < w.heap.size := blk_lt hu
  have HU := hide hu
  have HF := hide hf
  have HA := hide ha
  clear hu hm ok hf ha k1 k7 h12
  have l4 : (flds M.k).length ≤ 4 := by unfold flds; repeat (first | split | simp)
  have l2 : M.ans.length ≤ 4 := by unfold Mg.ans; repeat (first | split | simp)
  generalize flds M.k = fs at *
  generalize M.ans = gs at *
  go_enter Tryz.func88, Tryz.ntmps88
  go_wp2_with fail
  refine FO.mono ?_; rintro e w1 ⟨v, rfl, hfs, hr, hk1⟩
  obtain ⟨a, c, rfl⟩ := hfs.slice
  obtain ⟨N, hN⟩ : ∃ N, fs.length = N := ⟨_, rfl⟩
  rw [hN] at hfs hr l4 ⊢
  have HN := hide hN
  have HFS := hide hfs
  have HR := hide hr
  have HK1 := hide hk1
  clear FO hfs hr hk1 hN c0
  go_wp2_with fail
  go_loopw [14] (fun i wr => ∃ k : Nat, i = .int .i64 (k : Int) ∧ k ≤ N ∧ Hid (Blk wr ub (U.clfs (fs.take k)) ∧ Kp (fun i => i = ub) w1 wr)) (fun i _ => N - (intOf i).toNat)
  case atStart => exact ⟨0, rfl, Nat.zero_le _, ⟨HU.out.nu HK1.out, Kp.refl _ _⟩⟩
  case round =>
    obtain ⟨k, rfl, hk, hI⟩ := hrel
    obtain ⟨hb, hkp⟩ := hI.out
    have KW : Kp (fun i => i = ub) w wr := (HK1.out.mono (T := fun i => i = ub) (fun _ _ h => h.elim)).trans hkp (fun _ _ h => h)
    by_cases hlt : k < N
    · obtain ⟨f, hfk⟩ : ∃ f, fs[k]? = some f := ⟨_, List.getElem?_eq_getElem (by rw [HN.out]; exact hlt)⟩
      have hlow : ∀ r n c', (.slice a N c : Value) = .slice (some ⟨r, 0, none⟩) n c' → ¬ r = ub := fun r n c' e e2 => by
        have := HR.out r n c' e
        omega
      obtain ⟨r, ea, hcell⟩ := (HFS.out.nu hkp hlow).cell hfk
      have CF := CL wr _ KW hb f (HF.out f (List.mem_of_getElem? hfk))
      have HC := hide (clfs_take (m := U) hfk)
      have HK := hide hkp
      have hltI : (k : Int) < (N : Int) := by omega
      have hk0 : (0 : Int) ≤ (k : Int) := by omega
      have hkN : (k : Int) ≤ 4 := by omega
      obtain ⟨ft, fu, efv⟩ := fv_one f
      rw [efv] at hcell CF
      subst ea
      clear hI hb hkp KW hlow hfk efv
      go_wp2_with fail
      refine CF.mono ?_; rintro e w2 ⟨rfl, hb2, hk2⟩
      have HB2 := hide hb2
      have HK2 := hide hk2
      clear CF hb2 hk2
      go_wp2
      exact ⟨⟨k + 1, by go_num, by omega, ⟨by rw [HC.out]; exact HB2.out, HK.out.trans HK2.out (fun _ _ h => h)⟩⟩, by simp [intOf]; omega⟩
    · obtain rfl : k = N := by omega
      have hge : ¬ (k : Int) < (k : Int) := by omega
      rw [List.take_of_length_le (by rw [HN.out]; omega)] at hb
      have AF := AO wr KW
      have HB := hide hb
      have HKW := hide KW
      clear hI hkp KW hb hlt
      go_wp2_with fail
      refine AF.mono ?_; rintro e w3 ⟨v3, rfl, hfs3, hr3, hk3⟩
      obtain ⟨a3, c3, rfl⟩ := hfs3.slice
      obtain ⟨M3, hM3⟩ : ∃ M3, gs.length = M3 := ⟨_, rfl⟩
      rw [hM3] at hfs3 hr3 l2 ⊢
      have HM3 := hide hM3
      have HFS3 := hide hfs3
      have HR3 := hide hr3
      have HK3 := hide hk3
      have HB3 := hide (HB.out.nu hk3)
      have HKW3 := hide (HKW.out.andNu hk3)
      have ubl3 : ub < wr.heap.size := Nat.lt_of_lt_of_le ubl HKW.out.size
      clear AF hfs3 hr3 hk3 hM3
      go_wp2_with fail
      go_loopw [25] (fun i wx => ∃ j : Nat, i = .int .i64 (j : Int) ∧ j ≤ M3 ∧ Hid (Blk wx ub ((U.clfs fs).clfs (gs.take j)) ∧ Kp (fun i => i = ub) w3 wx)) (fun i _ => M3 - (intOf i).toNat)
      case atStart => exact ⟨0, rfl, Nat.zero_le _, ⟨HB3.out, Kp.refl _ _⟩⟩
      case round =>
        rename World => wx
        obtain ⟨j, rfl, hj, hJ⟩ := hrel
        obtain ⟨hb, hkp⟩ := hJ.out
        have KW : Kp (fun i => i = ub) w wx := HKW3.out.trans hkp (fun _ _ h => h)
        by_cases hlt : j < M3
        · obtain ⟨f, hfk⟩ : ∃ f, gs[j]? = some f := ⟨_, List.getElem?_eq_getElem (by rw [HM3.out]; exact hlt)⟩
          have hlow : ∀ r n c', (.slice a3 M3 c3 : Value) = .slice (some ⟨r, 0, none⟩) n c' → ¬ r = ub := fun r n c' e e2 => by
            have := HR3.out r n c' e
            omega
          obtain ⟨r, ea, hcell⟩ := (HFS3.out.nu hkp hlow).cell hfk
          have CF := CL wx _ KW hb f (HA.out f (List.mem_of_getElem? hfk))
          have HC := hide (clfs_take (m := U.clfs fs) hfk)
          have HK := hide hkp
          have hltI : (j : Int) < (M3 : Int) := by omega
          have hk0 : (0 : Int) ≤ (j : Int) := by omega
          have hkN : (j : Int) ≤ 4 := by omega
          obtain ⟨ft, fu, efv⟩ := fv_one f
          rw [efv] at hcell CF
          subst ea
          clear hJ hb hkp KW hlow hfk efv
          go_wp2_with fail
          refine CF.mono ?_; rintro e w2 ⟨rfl, hb2, hk2⟩
          have HB2 := hide hb2
          have HK2 := hide hk2
          clear CF hb2 hk2
          go_wp2
          exact ⟨⟨j + 1, by go_num, by omega, ⟨by rw [HC.out]; exact HB2.out, HK.out.trans HK2.out (fun _ _ h => h)⟩⟩, by simp [intOf]; omega⟩
        · obtain rfl : j = M3 := by omega
          have hge2 : ¬ (j : Int) < (j : Int) := by omega
          rw [List.take_of_length_le (by rw [HM3.out]; omega)] at hb
          have HBF := hide hb
          have HKF := hide KW
          clear hJ hb hkp KW hlt
          go_wp2
          go_end0
          exact ⟨rfl, HBF.out, HKF.out⟩
/-- nothing is left of it -/
structure Mg.Blank (m : Mg) : Prop where
  num : ∀ n, n ≤ 9 → m.num n = 0
  has : m.has = false
  o : m.o.n = 0
  v : m.v.n = 0
  py : m.py.n = 0
  pa : m.pa.n = 0
  se : m.se.n = 0
theorem Mg.Blank.ok {m : Mg} (h : m.Blank) (h0 : 0 ≤ m.k ∧ m.k < 256) : m.Ok := by
  have q := h.num
  refine ⟨h0, ?_, ?_, ?_, ?_, ?_, ?_, ?_, ?_, ?_, ?_⟩
  · have := q 0 (by omega); simp only [Mg.num] at this; omega
  · have := q 1 (by omega); simp only [Mg.num] at this; omega
  · have := q 2 (by omega); simp only [Mg.num] at this; omega
  · have := q 4 (by omega); simp only [Mg.num] at this; omega
  · have := q 5 (by omega); simp only [Mg.num] at this; omega
  · have := q 6 (by omega); simp only [Mg.num] at this; omega
  · have := q 7 (by omega); simp only [Mg.num] at this; omega
  · have := q 8 (by omega); simp only [Mg.num] at this; omega
  · have := q 9 (by omega); simp only [Mg.num] at this; omega
  · have := q 3 (by omega); simp only [Mg.num] at this; omega
set_option maxRecDepth 100000 in
set_option maxHeartbeats 2000000 in
theorem isBlank_true {w : World} {b : Nat} {m : Mg} (h : Blk w b m) (hb : m.Blank) (h0 : 0 ≤ m.k ∧ m.k < 256) : Calls Tryz.prog 90 #[.pointer (some ⟨b, 0, none⟩)] w fun e w' => e = .returned (.bool true) ∧ w' = w := by
  have GE := fun n hn => get_any h (hb.ok h0) n hn
  have c6 := h.at 6 (.bool m.has) rfl
  have c5 := h.at 5 (.slice m.o.a m.o.n m.o.c) rfl
  have c4 := h.at 4 (.slice m.v.a m.v.n m.v.c) rfl
  have c16 := h.at 16 (.slice m.py.a m.py.n m.py.c) rfl
  have c14 := h.at 14 (.slice m.pa.a m.pa.n m.pa.c) rfl
  have c15 := h.at 15 (.slice m.se.a m.se.n m.se.c) rfl
  rw [hb.has] at c6; rw [hb.o] at c5; rw [hb.v] at c4; rw [hb.py] at c16; rw [hb.pa] at c14; rw [hb.se] at c15
  have HN := hide hb.num
  clear h hb h0
  go_enter Tryz.func90, Tryz.ntmps90
  go_wp2_with fail
  go_loopw [3] (fun i wr => ∃ k : Nat, i = .int .i64 (k : Int) ∧ k ≤ 10 ∧ wr = w) (fun i _ => 10 - (intOf i).toNat)
  case atStart => exact ⟨0, rfl, by omega, rfl⟩
  case round =>
    obtain ⟨k, rfl, hk, rfl⟩ := hrel
    by_cases hlt : k ≤ 9
    · have GK := GE k hlt
      rw [HN.out k hlt] at GK
      have hI : (k : Int) ≤ 9 := by omega
      have hI0 : (0 : Int) ≤ (k : Int) := by omega
      clear GE
      go_wp2_with fail
      refine GK.mono ?_; rintro e w' ⟨rfl, hw⟩
      obtain rfl := hw.symm
      clear GK
      go_wp2
      exact ⟨⟨k + 1, by go_num, by omega, trivial⟩, by simp [intOf]; omega⟩
    · have hI : ¬ (k : Int) ≤ 9 := by omega
      clear GE
      go_wp2
      go_ret
      exact ⟨rfl, rfl⟩
end Go.Proofs.YtmlnglillgplfaaGreat.Cl
namespace Go.Proofs.YtmlnglillgplfaaGreat.Cl
open Go.RowKit
set_option linter.unusedVariables false
theorem info47 : (Tryz.prog.info? 47).map (·.size) = some 1 := by kernel_rfl
theorem isKind_any (w : World) (k : Int) (h1 : 1 ≤ k) (h7 : k ≤ 7) : Calls Tryz.prog 87 #[.int .u8 k] w fun e w' => e = .returned (.bool true) ∧ w' = w := by
  have h12 : k ≤ 12 := by omega
  go_enter Tryz.func87, Tryz.ntmps87
  go_wp2
  go_ret
  exact ⟨rfl, rfl⟩
theorem clf_k (m : Mg) (f : Nat) : (m.clf f).k = m.k := by
  unfold Mg.clf
  split <;> (first | rfl | (unfold Mg.clr; split <;> rfl))
theorem clfs_k : ∀ (fs : List Nat) (m : Mg), (m.clfs fs).k = m.k
  | [], m => rfl
  | f :: fs, m => by
    show ((m.clf f).clfs fs).k = m.k
    rw [clfs_k fs, clf_k]
set_option maxRecDepth 100000 in
set_option maxHeartbeats 2000000 in
/-- wire's Check of a message that may be -/
theorem check_ok (w : World) (m : Mg) (ok : m.Ok) (k1 : 1 ≤ m.k) (k7 : m.k ≤ 7) (hf : ∀ f ∈ flds m.k, m.okf f) (ha : ∀ f ∈ m.ans, m.okf f) (hb : ((m.clfs (flds m.k)).clfs m.ans).Blank) :
    Calls Tryz.prog 52 #[.agg m.cells] w fun e w' => e = .returned (.int .i64 0) ∧ Kp Nu w w' := by
  have EA := fun W ub mb fb (hu : Blk W ub m) (hm : Blk W mb m) (hne : ub ≠ mb) => each_ok (fb := fb) hu hm ok hne k1 k7 hf ha
  have IB := fun W ub (h : Blk W ub ((m.clfs (flds m.k)).clfs m.ans)) => isBlank_true h hb (by rw [clfs_k, clfs_k]; exact ok.k)
  have IK := fun W => isKind_any W m.k k1 k7
  clear ok k1 k7 hf ha hb
  generalize hB : (m.clfs (flds m.k)).clfs m.ans = mB at *
  have HB := hide hB
  clear hB HB
  obtain ⟨wa, hwa⟩ : ∃ wa, (w.alloc (.cells m.cells 36)).alloc (.cells #[.int .i64 0] 47) = wa := ⟨_, rfl⟩
  have hm1 : Blk wa w.heap.size m := by rw [← hwa]; exact (Below.heap_alloc _ _ _ (by simp)).trans (heap_new w _)
  have hf1 : wa.heap[w.heap.size + 1]? = some (.cells #[.int .i64 0] 47 (0, 0)) := by
    have := heap_new (w.alloc (.cells m.cells 36)) (.cells #[.int .i64 0] 47)
    rw [World.size_alloc] at this
    rw [← hwa]; exact this
  have hs1 : wa.heap.size = w.heap.size + 2 := by rw [← hwa]; simp
  have kw1 : Kp Nu w wa := by rw [← hwa]; exact (Kp.alloc _ _ _).andAlloc _
  have E1 := EA (wa.alloc (.cells m.cells 36)) wa.heap.size w.heap.size (w.heap.size + 1) (heap_new wa _) (hm1.nu (Kp.alloc _ _ _)) (by omega)
  have HM1 := hide hm1
  have HF1 := hide hf1
  have HS1 := hide hs1
  have HW1 := hide kw1
  have HI := hide IB
  clear EA IB hm1 hf1 kw1 hs1
  obtain ⟨k, seq, key, hi, ⟨va, vn, vc⟩, ⟨oa, on, oc⟩, has, of, st, host, gr, bo, ma, li, ⟨paa, pan, pac⟩, ⟨sea, sen, sec⟩, ⟨pya, pyn, pyc⟩⟩ := m
  simp only [Mg.cells, Sl.val] at E1 IK hwa HM1 ⊢
  have HB0 : Hid (wa.heap[w.heap.size]? = some (.cells #[.int .u8 k, .int .u64 seq, .int .u64 key, .int .u64 hi, .slice va vn vc, .slice oa on oc, .bool has, .int .u8 of, .int .u8 st, .int .u8 host, .int .u32 gr, .int .u32 bo, .int .u64 ma, .int .u8 li, .slice paa pan pac, .slice sea sen sec, .slice pya pyn pyc] 36 (0, 0))) := HM1.out
  rw [HS1.out] at E1
  subst hwa
  go_enter Tryz.func52, Tryz.ntmps52
  go_wp2_with fail
  refine (IK _).mono ?_; rintro e w' ⟨rfl, rfl⟩
  clear IK
  go_wp2_with (guard_target =~ wpList _ _ _ ({ dst := none, op := Op.store 36 (Operand.tmp 4) (Operand.tmp 9), type := _, pos := _, after := _, guard := _ } :: _) _ _; refine wpList_store_new 36 17 (.tmp 4) (.tmp 9) rfl rfl info36 _ _ _ rfl rfl (by simp) rfl rfl (by simp [Value.oneCell']) ?_)
  refine E1.mono ?_; rintro e w2 ⟨rfl, hb2, hk2⟩
  have IB2 := HI.out _ _ hb2
  have hf2 : w2.heap[w.heap.size + 1]? = some (.cells #[.int .i64 0] 47 (0, 0)) := (hk2.block _ (by simp) (fun e => by omega)).trans ((Below.heap_alloc _ _ _ (by simp)).trans HF1.out)
  have y0 := cellAt hf2 0 (by rfl)
  have HK2 := hide (((HW1.out.andAlloc (.cells #[.int .u8 k, .int .u64 seq, .int .u64 key, .int .u64 hi, .slice va vn vc, .slice oa on oc, .bool has, .int .u8 of, .int .u8 st, .int .u8 host, .int .u32 gr, .int .u32 bo, .int .u64 ma, .int .u8 li, .slice paa pan pac, .slice sea sen sec, .slice pya pyn pyc] 36)).trans hk2 (fun i hi e => by have e : i = w.heap.size + 2 := e; omega) : Kp Nu w w2))
  clear E1 hb2 hk2 HI hf2
  go_wp2_with fail
  refine IB2.mono ?_; rintro e w' ⟨rfl, rfl⟩
  clear IB2
  go_wp2
  go_ret
  exact ⟨rfl, HK2.out⟩
end Go.Proofs.YtmlnglillgplfaaGreat.Cl
