import Derived.Test.YtmlnglillgplfaaGreatWcD
namespace Go.Proofs.YtmlnglillgplfaaGreat.Cl
open Go.RowKit
set_option linter.unusedVariables false
/-- the message without some fields -/
def Mg.clfs (m : Mg) (fs : List Nat) : Mg := fs.foldl Mg.clf m
theorem clfs_take {m : Mg} {fs : List Nat} {k f : Nat} (h : fs[k]? = some f) : m.clfs (fs.take (k + 1)) = (m.clfs (fs.take k)).clf f := by
  rw [List.take_add_one, h, Option.toList_some, Mg.clfs, List.foldl_append]; rfl
theorem Fs.nu {w w' : World} {v : Value} {fs : List Nat} {S : Nat → Prop} (h : Fs w v fs) (k : Kp S w w') (hn : ∀ r n c, v = .slice (some ⟨r, 0, none⟩) n c → ¬ S r) : Fs w' v fs := by
  rcases h with h | ⟨r, c, e, hb⟩
  · exact .inl h
  · exact .inr ⟨r, c, e, (k.block r (blk_lt hb) (hn _ _ _ e)).trans hb⟩
theorem Fs.slice {w : World} {v : Value} {fs : List Nat} (h : Fs w v fs) : ∃ a c, v = .slice a fs.length c := by
  rcases h with ⟨rfl, rfl⟩ | ⟨r, c, e, hb⟩
  · exact ⟨none, 0, rfl⟩
  · exact ⟨_, c, e⟩
theorem Fs.cell {w : World} {a : Option Addr} {n c : Nat} {fs : List Nat} (h : Fs w (.slice a n c) fs) {k f : Nat} (hk : fs[k]? = some f) : ∃ r, a = some ⟨r, 0, none⟩ ∧ w.cell? ⟨r, k, none⟩ = some (fv f) := by
  rcases h with ⟨e, rfl⟩ | ⟨r, c, e, hb⟩
  · simp at hk
  · simp only [Value.slice.injEq] at e
    exact ⟨r, e.1, cellAt hb k (by simp [hk])⟩
theorem fv_one (f : Nat) : ∃ t u, fv f = .iface t u := by
  unfold fv
  split <;> exact ⟨_, _, rfl⟩
set_option maxRecDepth 100000 in
set_option maxHeartbeats 2000000 in
/-- all fields are gone through -/
theorem each_ok {w : World} {ub mb fb : Nat} {U M : Mg} (hu : Blk w ub U) (hm : Blk w mb M) (ok : M.Ok) (hne : ub ≠ mb) (k1 : 1 ≤ M.k) (k7 : M.k ≤ 7) (hf : ∀ f ∈ flds M.k, M.okf f) (ha : ∀ f ∈ M.ans, M.okf f) :
    Calls Tryz.prog 88 #[.pointer (some ⟨mb, 0, none⟩), .func (.func 89) #[] #[.pointer (some ⟨ub, 0, none⟩), .pointer (some ⟨mb, 0, none⟩), .pointer (some ⟨fb, 0, none⟩)]] w fun e w' => e = .returned (.tuple #[]) ∧ Blk w' ub ((U.clfs (flds M.k)).clfs M.ans) ∧ Kp (fun i => i = ub) w w' := by
  have FO := fieldsOf_any w M.k k1 k7
  have c0 := hm.at 0 (.int .u8 M.k) rfl
  have h12 : M.k ≠ 12 := by omega
  have CL := fun W V (k : Kp (fun i => i = ub) w W) (b : Blk W ub V) f (h : M.okf f) => cl_any (fb := fb) b (hm.kp k (fun e => hne e.symm)) ok hne h12 f h
  have AO := fun W (k : Kp (fun i => i = ub) w W) => answerOf_any (hm.kp k (fun e => hne e.symm))
  have ubl : ub < w.heap.size := blk_lt hu
  have HU := hide hu
  have HF := hide hf
  have HA := hide ha
  clear hu hm ok hf ha k1 k7 h12
  have l4 : (flds M.k).length ≤ 4 := by unfold flds; repeat (first | split | simp)
  have l2 : M.ans.length ≤ 4 := by unfold Mg.ans; repeat (first | split | simp)
  generalize flds M.k = fs at *
  generalize M.ans = gs at *
  go_enter Tryz.func88, Tryz.ntmps88
  go_wp2_with fail
  refine FO.mono ?_; rintro e w1 ⟨v, rfl, hfs, hr, hk1⟩
  obtain ⟨a, c, rfl⟩ := hfs.slice
  obtain ⟨N, hN⟩ : ∃ N, fs.length = N := ⟨_, rfl⟩
  rw [hN] at hfs hr l4 ⊢
  have HN := hide hN
  have HFS := hide hfs
  have HR := hide hr
  have HK1 := hide hk1
  clear FO hfs hr hk1 hN c0
  go_wp2_with fail
  go_loopw [14] (fun i wr => ∃ k : Nat, i = .int .i64 (k : Int) ∧ k ≤ N ∧ Hid (Blk wr ub (U.clfs (fs.take k)) ∧ Kp (fun i => i = ub) w1 wr)) (fun i _ => N - (intOf i).toNat)
  case atStart => exact ⟨0, rfl, Nat.zero_le _, ⟨HU.out.nu HK1.out, Kp.refl _ _⟩⟩
  case round =>
    obtain ⟨k, rfl, hk, hI⟩ := hrel
    obtain ⟨hb, hkp⟩ := hI.out
    have KW : Kp (fun i => i = ub) w wr := (HK1.out.mono (T := fun i => i = ub) (fun _ _ h => h.elim)).trans hkp (fun _ _ h => h)
    by_cases hlt : k < N
    · obtain ⟨f, hfk⟩ : ∃ f, fs[k]? = some f := ⟨_, List.getElem?_eq_getElem (by rw [HN.out]; exact hlt)⟩
      have hlow : ∀ r n c', (.slice a N c : Value) = .slice (some ⟨r, 0, none⟩) n c' → ¬ r = ub := fun r n c' e e2 => by
        have := HR.out r n c' e
        omega
      obtain ⟨r, ea, hcell⟩ := (HFS.out.nu hkp hlow).cell hfk
      have CF := CL wr _ KW hb f (HF.out f (List.mem_of_getElem? hfk))
      have HC := hide (clfs_take (m := U) hfk)
      have HK := hide hkp
      have hltI : (k : Int) < (N : Int) := by omega
      have hk0 : (0 : Int) ≤ (k : Int) := by omega
      have hkN : (k : Int) ≤ 4 := by omega
      obtain ⟨ft, fu, efv⟩ := fv_one f
      rw [efv] at hcell CF
      subst ea
      clear hI hb hkp KW hlow hfk efv
      go_wp2_with fail
      refine CF.mono ?_; rintro e w2 ⟨rfl, hb2, hk2⟩
      have HB2 := hide hb2
      have HK2 := hide hk2
      clear CF hb2 hk2
      go_wp2
      exact ⟨⟨k + 1, by go_num, by omega, ⟨by rw [HC.out]; exact HB2.out, HK.out.trans HK2.out (fun _ _ h => h)⟩⟩, by simp [intOf]; omega⟩
    · obtain rfl : k = N := by omega
      have hge : ¬ (k : Int) < (k : Int) := by omega
      rw [List.take_of_length_le (by rw [HN.out]; omega)] at hb
      have AF := AO wr KW
      have HB := hide hb
      have HKW := hide KW
      clear hI hkp KW hb hlt
      go_wp2_with fail
      refine AF.mono ?_; rintro e w3 ⟨v3, rfl, hfs3, hr3, hk3⟩
      obtain ⟨a3, c3, rfl⟩ := hfs3.slice
      obtain ⟨M3, hM3⟩ : ∃ M3, gs.length = M3 := ⟨_, rfl⟩
      rw [hM3] at hfs3 hr3 l2 ⊢
      have HM3 := hide hM3
      have HFS3 := hide hfs3
      have HR3 := hide hr3
      have HK3 := hide hk3
      have HB3 := hide (HB.out.nu hk3)
      have HKW3 := hide (HKW.out.andNu hk3)
      have ubl3 : ub < wr.heap.size := Nat.lt_of_lt_of_le ubl HKW.out.size
      clear AF hfs3 hr3 hk3 hM3
      go_wp2_with fail
      go_loopw [25] (fun i wx => ∃ j : Nat, i = .int .i64 (j : Int) ∧ j ≤ M3 ∧ Hid (Blk wx ub ((U.clfs fs).clfs (gs.take j)) ∧ Kp (fun i => i = ub) w3 wx)) (fun i _ => M3 - (intOf i).toNat)
      case atStart => exact ⟨0, rfl, Nat.zero_le _, ⟨HB3.out, Kp.refl _ _⟩⟩
      case round =>
        rename World => wx
        obtain ⟨j, rfl, hj, hJ⟩ := hrel
        obtain ⟨hb, hkp⟩ := hJ.out
        have KW : Kp (fun i => i = ub) w wx := HKW3.out.trans hkp (fun _ _ h => h)
        by_cases hlt : j < M3
        · obtain ⟨f, hfk⟩ : ∃ f, gs[j]? = some f := ⟨_, List.getElem?_eq_getElem (by rw [HM3.out]; exact hlt)⟩
          have hlow : ∀ r n c', (.slice a3 M3 c3 : Value) = .slice (some ⟨r, 0, none⟩) n c' → ¬ r = ub := fun r n c' e e2 => by
            have := HR3.out r n c' e
            omega
          obtain ⟨r, ea, hcell⟩ := (HFS3.out.nu hkp hlow).cell hfk
          have CF := CL wx _ KW hb f (HA.out f (List.mem_of_getElem? hfk))
          have HC := hide (clfs_take (m := U.clfs fs) hfk)
          have HK := hide hkp
          have hltI : (j : Int) < (M3 : Int) := by omega
          have hk0 : (0 : Int) ≤ (j : Int) := by omega
          have hkN : (j : Int) ≤ 4 := by omega
          obtain ⟨ft, fu, efv⟩ := fv_one f
          rw [efv] at hcell CF
          subst ea
          clear hJ hb hkp KW hlow hfk efv
          go_wp2_with fail
          refine CF.mono ?_; rintro e w2 ⟨rfl, hb2, hk2⟩
          have HB2 := hide hb2
          have HK2 := hide hk2
          clear CF hb2 hk2
          go_wp2
          exact ⟨⟨j + 1, by go_num, by omega, ⟨by rw [HC.out]; exact HB2.out, HK.out.trans HK2.out (fun _ _ h => h)⟩⟩, by simp [intOf]; omega⟩
        · obtain rfl : j = M3 := by omega
          have hge2 : ¬ (j : Int) < (j : Int) := by omega
          rw [List.take_of_length_le (by rw [HM3.out]; omega)] at hb
          have HBF := hide hb
          have HKF := hide KW
          clear hJ hb hkp KW hlt
          go_wp2
          go_end0
          exact ⟨rfl, HBF.out, HKF.out⟩
/-- nothing is left of it -/
structure Mg.Blank (m : Mg) : Prop where
  num : ∀ n, n ≤ 9 → m.num n = 0
  has : m.has = false
  o : m.o.n = 0
  v : m.v.n = 0
  py : m.py.n = 0
  pa : m.pa.n = 0
  se : m.se.n = 0
theorem Mg.Blank.ok {m : Mg} (h : m.Blank) (h0 : 0 ≤ m.k ∧ m.k < 256) : m.Ok := by
  have q := h.num
  refine ⟨h0, ?_, ?_, ?_, ?_, ?_, ?_, ?_, ?_, ?_, ?_⟩
  · have := q 0 (by omega); simp only [Mg.num] at this; omega
  · have := q 1 (by omega); simp only [Mg.num] at this; omega
  · have := q 2 (by omega); simp only [Mg.num] at this; omega
  · have := q 4 (by omega); simp only [Mg.num] at this; omega
  · have := q 5 (by omega); simp only [Mg.num] at this; omega
  · have := q 6 (by omega); simp only [Mg.num] at this; omega
  · have := q 7 (by omega); simp only [Mg.num] at this; omega
  · have := q 8 (by omega); simp only [Mg.num] at this; omega
  · have := q 9 (by omega); simp only [Mg.num] at this; omega
  · have := q 3 (by omega); simp only [Mg.num] at this; omega
set_option maxRecDepth 100000 in
set_option maxHeartbeats 2000000 in
theorem isBlank_true {w : World} {b : Nat} {m : Mg} (h : Blk w b m) (hb : m.Blank) (h0 : 0 ≤ m.k ∧ m.k < 256) : Calls Tryz.prog 90 #[.pointer (some ⟨b, 0, none⟩)] w fun e w' => e = .returned (.bool true) ∧ w' = w := by
  have GE := fun n hn => get_any h (hb.ok h0) n hn
  have c6 := h.at 6 (.bool m.has) rfl
  have c5 := h.at 5 (.slice m.o.a m.o.n m.o.c) rfl
  have c4 := h.at 4 (.slice m.v.a m.v.n m.v.c) rfl
  have c16 := h.at 16 (.slice m.py.a m.py.n m.py.c) rfl
  have c14 := h.at 14 (.slice m.pa.a m.pa.n m.pa.c) rfl
  have c15 := h.at 15 (.slice m.se.a m.se.n m.se.c) rfl
  rw [hb.has] at c6; rw [hb.o] at c5; rw [hb.v] at c4; rw [hb.py] at c16; rw [hb.pa] at c14; rw [hb.se] at c15
  have HN := hide hb.num
  clear h hb h0
  go_enter Tryz.func90, Tryz.ntmps90
  go_wp2_with fail
  go_loopw [3] (fun i wr => ∃ k : Nat, i = .int .i64 (k : Int) ∧ k ≤ 10 ∧ wr = w) (fun i _ => 10 - (intOf i).toNat)
  case atStart => exact ⟨0, rfl, by omega, rfl⟩
  case round =>
    obtain ⟨k, rfl, hk, rfl⟩ := hrel
    by_cases hlt : k ≤ 9
    · have GK := GE k hlt
      rw [HN.out k hlt] at GK
      have hI : (k : Int) ≤ 9 := by omega
      have hI0 : (0 : Int) ≤ (k : Int) := by omega
      clear GE
      go_wp2_with fail
      refine GK.mono ?_; rintro e w' ⟨rfl, hw⟩
      obtain rfl := hw.symm
      clear GK
      go_wp2
      exact ⟨⟨k + 1, by go_num, by omega, trivial⟩, by simp [intOf]; omega⟩
    · have hI : ¬ (k : Int) ≤ 9 := by omega
      clear GE
      go_wp2
      go_ret
      exact ⟨rfl, rfl⟩
end Go.Proofs.YtmlnglillgplfaaGreat.Cl
