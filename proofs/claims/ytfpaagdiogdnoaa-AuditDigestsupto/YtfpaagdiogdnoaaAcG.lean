import Derived.Test.YtfpaagdiogdnoaaAcE
namespace Go.Proofs.Ytfpaagdiogdnoaa.Cd
open Go.RowKit
set_option linter.unusedVariables false
theorem grow_kp {a wr w1 : World} {o : Obj} {v : Value} {n : Nat} {l : List Value} (k : Kp Nu a wr) (h : wr.ownsRow a.heap.size 5 1 v n l) (hg : (wr.alloc o).grownBy w1 v.ownBlock) : Kp Nu a w1 := by
  refine Kp.trans (k.andNu (Kp.alloc wr _ Nu)) (Kp.of_grown hg) (fun j hj e => ?_)
  have := (own_ge h e.symm).1
  omega
theorem grow_kp' {a wr w1 : World} {v : Value} {n : Nat} {l : List Value} (k : Kp Nu a wr) (h : wr.ownsRow a.heap.size 5 1 v n l) (hg : wr.grownBy w1 v.ownBlock) : Kp Nu a w1 := by
  refine Kp.trans k (Kp.of_grown hg) (fun j hj e => ?_)
  have := (own_ge h e.symm).1
  omega
/-- the two bytes of a length -/
theorem be2 (n : Nat) : be 2 (n % 65536) = [((n % 65536 / 256 : Nat) : Int), ((n % 65536 % 256 : Nat) : Int)] := by
  simp only [be]
  congr 1
  · have : n % 65536 / 256 ^ 1 % 256 = n % 65536 / 256 := by
      rw [Nat.pow_one]; omega
    rw [this]
  · simp
set_option maxRecDepth 100000 in
set_option maxHeartbeats 4000000 in
theorem refDigest7 (w : World) (u : Value) (L : List Pq) (hL : Prs w u L) (hN : L.length ≤ 1048576) :
    Calls Try.prog 7 #[u] w fun e w' => e = .returned (.int .u64 (fv 14695981039346656037 (lay (said L)))) ∧ Kp Nu w w' := by
  obtain ⟨i0, hi0, hz0, hz1, hz2⟩ := info_parts info5
  obtain ⟨ua, uc, hu, hdm⟩ := id hL
  clear hdm
  obtain ⟨N, eN⟩ : ∃ N, L.length = N := ⟨_, rfl⟩
  rw [eN] at hu hN
  subst hu
  have HL := hide (And.intro hL eN)
  have hNI : (N : Int) ≤ 1048576 := by omega
  clear hL eN
  go_enter Try.func7, Try.ntmps7
  go_wp2
  go_loopw [3, 4] (fun bv iv wr => ∃ (i n : Nat) (ba : Option Addr) (bc : Nat), iv = .int .i64 (i : Int) ∧ bv = .slice ba n bc ∧ i ≤ N ∧ wr.ownsRow w.heap.size 5 1 (.slice ba n bc) n (cs (lay (said (L.take i)))) ∧ n ≤ i * 1048586 ∧ Hid (Kp Nu w wr)) (fun _ iv _ => N - (intOf iv).toNat)
  case atStart => exact ⟨0, 0, none, 0, rfl, rfl, Nat.zero_le _, World.ownsRow_nil _ _ _ _, by omega, Kp.refl _ _⟩
  case round =>
    obtain ⟨i, n, ba, bc, rfl, rfl, hiN, hrow, hn, hK⟩ := hrel
    have hii : (0 : Int) ≤ (i : Int) := by omega
    by_cases hlt : i < N
    · have hltI : (i : Int) < (N : Int) := by omega
      obtain ⟨p, hp⟩ : ∃ p, L[i]? = some p := ⟨_, List.getElem?_eq_getElem (by rw [HL.out.2]; exact hlt)⟩
      obtain ⟨b, o, rfl, hdm⟩ := HL.out.1.at_ hp
      clear hdm
      have eti : (i : Int).toNat = i := by omega
      have hst := said_take hp
      have hfine : p.Fine := ((HL.out.1.at_ hp).choose_spec.choose_spec).2.2.2.fine
      obtain ⟨X, eX⟩ : ∃ X, lay (said (L.take i)) = X := ⟨_, rfl⟩
      rw [eX] at hrow
      have hnX : n = X.length := by
        have := hrow.1
        simp only [cs_length] at this
        omega
      have HP := hide (And.intro hp (And.intro hst (And.intro eX hfine)))
      have HnX := hide hnX
      clear hp hst eX hfine hnX
      go_wp2_with fail
      obtain ⟨wo, ewo⟩ : ∃ wo : World, wo = wr := ⟨_, rfl⟩
      subst ewo
      go_loopw [3, 5] (fun bv kv wi => ∃ (j m : Nat) (pre : List Int) (ba : Option Addr) (bc : Nat), kv = .int .i64 ((j : Int) - 1) ∧ bv = .slice ba m bc ∧ j ≤ 8 ∧ wi.ownsRow w.heap.size 5 1 (.slice ba m bc) m (cs (X ++ pre)) ∧ m ≤ n + 8 ∧ Hid (pre ++ be j p.k.toNat = be 8 p.k.toNat ∧ Kp Nu w wi)) (fun _ kv _ => (intOf kv + 1).toNat)
      case atStart => exact ⟨8, n, [], ba, bc, rfl, rfl, Nat.le_refl _, by simpa using hrow, by omega, rfl, hK.out⟩
      case round =>
        obtain ⟨j, m, pre, ba, bc, rfl, rfl, hj, hrow, hm0, hI⟩ := hrel
        have hm : m = n + (8 - j) := by
          have h1 := hrow.1
          have h2 := congrArg List.length hI.out.1
          have h3 := HnX.out
          simp only [cs_length, List.length_append, be_length] at h1 h2
          omega
        have HM := hide hm
        clear hm
        obtain ⟨b0, o0, e0, x0, x1, hok⟩ := (HL.out.1.nu hI.out.2).at_ HP.out.1
        obtain ⟨rfl, rfl⟩ : b = b0 ∧ o = o0 := by simpa using e0
        clear e0
        have hsz : w.heap.size ≤ wr.heap.size := hI.out.2.size
        cases j with
        | zero =>
          have epre : pre = be 8 p.k.toNat := by simpa [be] using hI.out.1
          have hlen := HP.out.2.2.2.len
          have HZ := hide (And.intro epre (And.intro hok.rd hI.out.2))
          have x1' : w.cell? ⟨b, o + i * 2 + 1, none⟩ = some (.slice p.a p.xs.length p.c) := by
            obtain ⟨b9, o9, e9, _, h9, _⟩ := HL.out.1.at_ HP.out.1
            obtain ⟨rfl, rfl⟩ : b = b9 ∧ o = o9 := by simpa using e9
            exact h9
          obtain ⟨ln, eln⟩ : ∃ ln, p.xs.length = ln := ⟨_, rfl⟩
          have hrd := hok.rd
          rw [eln] at x1 hlen x1' hrd
          have HLN := hide eln
          have hlnI : (ln : Int) ≤ 1048576 := by omega
          obtain ⟨pa, epa⟩ : ∃ pa, p.a = pa := ⟨_, rfl⟩
          obtain ⟨pc, epc⟩ : ∃ pc, p.c = pc := ⟨_, rfl⟩
          rw [epa, epc] at x1 x1' hrd
          have QC0 : ∀ q, pa = some q → ∀ W, Kp Nu w W → ∀ j u, (cs p.xs)[j]? = some u → W.cell? (q.add j) = some u := fun q hq W kk j u hj => by
            obtain ⟨b9, o9, e9, _, h9, hok9⟩ := HL.out.1.at_ HP.out.1
            have hr9 := hok9.rd.nu kk
            rw [epa, epc] at hr9
            rcases hr9 with ⟨_, h0⟩ | ⟨a9, c9, e10, h10⟩
            · rw [h0] at hj; simp [cs] at hj
            · rw [hq] at e10; cases e10; exact h10 j u hj
          have hcase : (pa = none ∧ ln = 0 ∧ pc = 0) ∨ ∃ q, pa = some q := by
            rcases hrd with ⟨h0, _⟩ | ⟨a9, c9, e10, _⟩
            · cases h0; exact .inl ⟨rfl, rfl, rfl⟩
            · cases e10; exact .inr ⟨_, rfl⟩
          have X0 := hide x1'
          clear hI epre x0 hok x1' eln hrd epa epc
          rcases hcase with ⟨rfl, rfl, rfl⟩ | ⟨qa, rfl⟩
          · clear QC0
            go_wp2_with (first
              | (guard_target =~ wpList _ _ _ ({ dst := some 41, op := _, type := _, pos := _, after := _, guard := _ } :: _) _ _; refine wpList_append_own_at _ rfl _ _ 28 rfl w.heap.size 5 i0 _ 1 1 Try.underlying28 hi0 hz0 hz1 hz2 rfl (by decide) _ _ _ rfl (hrow.alloc _) ⟨wr.heap.size, 0, none⟩ 1 1 [.int .u8 0] rfl rfl (cell_one_new _ _ _) (by simp [Value.oneCell']) (by have := HM.out; unfold maxLen; omega) (by have := HM.out; omega) (by rw [World.size_alloc]; omega) ?_; intro v1 w1 hr1 hg1 hn1 hat1; obtain ⟨a1, c1, ev1⟩ := own_slice hr1; subst ev1; have k1 := grow_kp HZ.out.2.2 hrow hg1; have hs1 : w.heap.size ≤ w1.heap.size := k1.size; have HK1 := hide k1; clear hg1 hn1 hat1 k1)
              | (guard_target =~ wpList _ _ _ ({ dst := some 47, op := _, type := _, pos := _, after := _, guard := _ } :: _) _ _; refine wpList_append_own_at _ rfl _ _ 28 rfl w.heap.size 5 i0 _ 1 1 Try.underlying28 hi0 hz0 hz1 hz2 rfl (by decide) _ _ _ rfl (hr1.alloc _) ⟨w1.heap.size, 0, none⟩ 1 1 [.int .u8 0] rfl rfl (cell_one_new _ _ _) (by simp [Value.oneCell']) (by have := HM.out; unfold maxLen; omega) (by have := HM.out; omega) (by rw [World.size_alloc]; omega) ?_; intro v2 w2 hr2 hg2 hn2 hat2; obtain ⟨a2, c2, ev2⟩ := own_slice hr2; subst ev2; have k2 := grow_kp HK1.out hr1 hg2; have x1 := cell_nu X0.out k2; have HK2 := hide k2; clear hg2 hn2 hat2 k2)
              | (guard_target =~ wpList _ _ _ ({ dst := some 54, op := _, type := _, pos := _, after := _, guard := _ } :: _) _ _; refine wpList_append_own_none rfl _ _ 28 rfl w.heap.size 5 i0 1 Try.underlying28 hi0 _ _ _ rfl hr2 rfl ?_; have HK3 := HK2; have hr3 := hr2))
            obtain ⟨epre, hrd, hk0⟩ := HZ.out
            refine ⟨⟨i + 1, m + 1 + 1, a2, c2, by go_num, rfl, by omega, ?_, by have := HM.out; omega, hide HK3.out⟩, by simp [intOf]; omega⟩
            rw [HP.out.2.1, lay_snoc, HP.out.2.2.1, HLN.out, hd, be2, ← epre]
            have e0 : p.xs = [] := List.eq_nil_of_length_eq_zero HLN.out
            rw [e0]
            simpa [cs] using hr3
          · have QC := QC0 qa rfl
            clear QC0
            go_wp2_with (first
              | (guard_target =~ wpList _ _ _ ({ dst := some 41, op := _, type := _, pos := _, after := _, guard := _ } :: _) _ _; refine wpList_append_own_at _ rfl _ _ 28 rfl w.heap.size 5 i0 _ 1 1 Try.underlying28 hi0 hz0 hz1 hz2 rfl (by decide) _ _ _ rfl (hrow.alloc _) ⟨wr.heap.size, 0, none⟩ 1 1 [.int .u8 ((ln : Int) % 65536 / 256)] rfl rfl (cell_one_new _ _ _) (by simp [Value.oneCell']) (by have := HM.out; unfold maxLen; omega) (by have := HM.out; omega) (by rw [World.size_alloc]; omega) ?_; intro v1 w1 hr1 hg1 hn1 hat1; obtain ⟨a1, c1, ev1⟩ := own_slice hr1; subst ev1; have k1 := grow_kp HZ.out.2.2 hrow hg1; have hs1 : w.heap.size ≤ w1.heap.size := k1.size; have HK1 := hide k1; clear hg1 hn1 hat1 k1)
              | (guard_target =~ wpList _ _ _ ({ dst := some 47, op := _, type := _, pos := _, after := _, guard := _ } :: _) _ _; refine wpList_append_own_at _ rfl _ _ 28 rfl w.heap.size 5 i0 _ 1 1 Try.underlying28 hi0 hz0 hz1 hz2 rfl (by decide) _ _ _ rfl (hr1.alloc _) ⟨w1.heap.size, 0, none⟩ 1 1 [.int .u8 ((ln : Int) % 256)] rfl rfl (cell_one_new _ _ _) (by simp [Value.oneCell']) (by have := HM.out; unfold maxLen; omega) (by have := HM.out; omega) (by rw [World.size_alloc]; omega) ?_; intro v2 w2 hr2 hg2 hn2 hat2; obtain ⟨a2, c2, ev2⟩ := own_slice hr2; subst ev2; have k2 := grow_kp HK1.out hr1 hg2; have x1 := cell_nu X0.out k2; have HK2 := hide k2; clear hg2 hn2 hat2 k2)
              | (guard_target =~ wpList _ _ _ ({ dst := some 54, op := _, type := _, pos := _, after := _, guard := _ } :: _) _ _; refine wpList_append_own_at _ rfl _ _ 28 rfl w.heap.size 5 i0 _ 1 1 Try.underlying28 hi0 hz0 hz1 hz2 rfl (by decide) _ _ _ rfl hr2 qa ln pc (cs p.xs) rfl (by rw [cs_length, HLN.out]; simp) (QC _ HK2.out) (cs_one _) (by have := HM.out; unfold maxLen; omega) (by have := HM.out; omega) HK2.out.size ?_; intro v3 w3 hr3 hg3 hn3 hat3; obtain ⟨a3, c3, ev3⟩ := own_slice hr3; subst ev3; have HK3 := hide (grow_kp' HK2.out hr2 hg3); clear hg3 hn3 hat3))
            obtain ⟨epre, hrd, hk0⟩ := HZ.out
            refine ⟨⟨i + 1, m + 1 + 1 + ln, a3, c3, by go_num, rfl, by omega, ?_, by have := HM.out; omega, hide HK3.out⟩, by simp [intOf]; omega⟩
            rw [HP.out.2.1, lay_snoc, HP.out.2.2.1, HLN.out, hd, be2, ← epre]
            have e1 : ((ln % 65536 / 256 : Nat) : Int) = (ln : Int) % 65536 / 256 := by omega
            have e2 : ((ln % 65536 % 256 : Nat) : Int) = (ln : Int) % 256 := by omega
            rw [e1, e2]
            simpa [cs] using hr3
        | succ j =>
          have hk0 := HP.out.2.2.2.lo
          have hk1 := HP.out.2.2.2.hi
          obtain ⟨K, eK⟩ : ∃ K : Nat, p.k = (K : Int) := ⟨p.k.toNat, by omega⟩
          rw [eK] at x0 hk1
          have hj8 : j < 8 := by omega
          have hjI : (0 : Int) ≤ (j : Int) := by omega
          have hjI2 : (j : Int) < 8 := by omega
          have e1 : ((j + 1 : Nat) : Int) - 1 = (j : Int) := by omega
          rw [e1]
          have HE := hide eK
          clear eK x1 hok hk0 hk1
          go_wp2_with (at_builtin; refine wpList_append_own_at _ rfl _ _ 28 rfl w.heap.size 5 i0 _ 1 1 Try.underlying28 hi0 hz0 hz1 hz2 rfl (by decide) _ _ _ rfl (hrow.alloc _) ⟨wr.heap.size, 0, none⟩ 1 1 [.int .u8 ((K : Int) / 2 ^ (8 * j) % 256)] rfl rfl (cell_one_new _ _ _) (by simp [Value.oneCell']) ?q1 ?q2 ?q3 ?_; rotate_left 3; intro v' w1 hown' hgrow _ hat; obtain ⟨g', cap', rfl⟩ := ownsRow_succ hown')
          · refine ⟨⟨j, m + 1, pre ++ [((K / 256 ^ j % 256 : Nat) : Int)], _, _, by go_num, rfl, by omega, ?_, by have := HM.out; omega, ?_, ?_⟩, by simp [intOf]⟩
            · rw [byteAt] at hown'
              simpa [cs] using hown'
            · rw [List.append_assoc]
              have h1 := hI.out.1
              rw [HE.out, Int.toNat_natCast] at h1 ⊢
              exact h1
            · refine Kp.trans (hI.out.2.andNu (Kp.alloc wr _ Nu)) (Kp.of_grown hgrow) (fun j hj e => ?_)
              have := (own_ge hrow e.symm).1
              omega
          · have := HM.out; unfold maxLen; omega
          · have := HM.out; omega
          · rw [World.size_alloc]; omega
    · have hge : ¬ (i : Int) < (N : Int) := by omega
      rw [List.take_of_length_le (by have := HL.out.2; omega)] at hrow
      have hl : n = (lay (said L)).length := by
        have := hrow.1
        simp only [cs_length] at this
        omega
      have F := refFnv13 wr _ _ (own_zero hrow hl) (by rw [← hl]; omega)
      have HF := hide F
      clear F hl
      go_wp2_with fail
      refine HF.out.mono ?_; rintro e w' ⟨rfl, hk⟩
      go_wp2
      go_ret
      exact ⟨rfl, hK.out.andNu hk⟩
end Go.Proofs.Ytfpaagdiogdnoaa.Cd
