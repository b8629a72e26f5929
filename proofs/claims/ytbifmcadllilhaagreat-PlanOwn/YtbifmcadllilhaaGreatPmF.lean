import Derived.Test.YtbifmcadllilhaaGreatPmB
namespace Go.Proofs.YtbifmcadllilhaaGreat.Rg
open Go.RowKit Go.Shelf Go.Sort
set_option linter.unusedVariables false
section
theorem m_len (w : World) (pb off : Nat) (v : Value) (h : w.cell? ⟨pb, off, none⟩ = some v) : (method 301 103 (.pointer (some ⟨pb, off, none⟩)) "Len").run Tryz.prog w = .ok (28, v) w := by
  have e : (method 301 103 (.pointer (some ⟨pb, off, none⟩)) "Len").run Tryz.prog w = ((loadVar 75 ⟨pb, off, none⟩) >>= fun v => pure (28, v)).run Tryz.prog w := by kernel_rfl
  rw [e]
  simp [loadVar, go_sem, h]
theorem m_less (w : World) (pb off : Nat) (v : Value) (h : w.cell? ⟨pb, off, none⟩ = some v) : (method 301 103 (.pointer (some ⟨pb, off, none⟩)) "Less").run Tryz.prog w = .ok (145, v) w := by
  have e : (method 301 103 (.pointer (some ⟨pb, off, none⟩)) "Less").run Tryz.prog w = ((loadVar 75 ⟨pb, off, none⟩) >>= fun v => pure (145, v)).run Tryz.prog w := by kernel_rfl
  rw [e]
  simp [loadVar, go_sem, h]
theorem m_swap (w : World) (pb off : Nat) (v : Value) (h : w.cell? ⟨pb, off, none⟩ = some v) : (method 301 103 (.pointer (some ⟨pb, off, none⟩)) "Swap").run Tryz.prog w = .ok (146, v) w := by
  have e : (method 301 103 (.pointer (some ⟨pb, off, none⟩)) "Swap").run Tryz.prog w = ((loadVar 75 ⟨pb, off, none⟩) >>= fun v => pure (146, v)).run Tryz.prog w := by kernel_rfl
  rw [e]
  simp [loadVar, go_sem, h]
theorem m_push (w : World) (a : Addr) : (method 301 103 (.pointer (some a)) "Push").run Tryz.prog w = .ok (149, .pointer (some a)) w := by kernel_rfl
theorem m_pop (w : World) (a : Addr) : (method 301 103 (.pointer (some a)) "Pop").run Tryz.prog w = .ok (148, .pointer (some a)) w := by kernel_rfl
end
/-- a queue: its row, and the field that holds it -/
structure Qm (w : World) (pb off B : Nat) (v : Value) (l : List Wt) : Prop where
  cell : w.cell? ⟨pb, off, none⟩ = some v
  row : Wr w B v l
  ne : ∀ g, v.ownBlock = some g → g ≠ pb
theorem Qm.keep {w w' : World} {pb off B : Nat} {v : Value} {l l' : List Wt} (h : Qm w pb off B v l) (k : Kp (fun g => some g = v.ownBlock) w w') (hr : Wr w' B v l') : Qm w' pb off B v l' :=
  ⟨(World.cell?_of_block (k.block _ (World.block_lt_of_cell? w _ h.cell) (fun e => h.ne pb e.symm rfl))).trans h.cell, hr, h.ne⟩
theorem Qm.nu {w w' : World} {pb off B : Nat} {v : Value} {l : List Wt} (h : Qm w pb off B v l) (k : Kp Nu w w') : Qm w' pb off B v l := ⟨cell_nu h.cell k, h.row.nu k, h.ne⟩
theorem Wr.slice {w : World} {B : Nat} {v : Value} {l : List Wt} (h : Wr w B v l) : ∃ a cap, v = .slice a l.length cap := own_slice h
theorem Kp.sub {S : Nat → Prop} {a b c : World} (h : Kp S a b) (k : Kp Nu b c) : Kp S a c := h.trans k (fun _ _ e => e.elim)
set_option maxRecDepth 100000 in
set_option maxHeartbeats 1000000 in
theorem up95 (w : World) (pb off B : Nat) (v : Value) (l : List Wt) (j : Nat) (h : Qm w pb off B v l) (hj : j < l.length) (hl : l.length ≤ 100000) (hu : Hup l l.length j) :
    Calls Tryz.prog 65 #[.iface 103 (.pointer (some ⟨pb, off, none⟩)), .int .i64 (j : Int)] w fun e w' => e = .returned (.tuple #[]) ∧ ∃ l', Qm w' pb off B v l' ∧ l'.Perm l ∧ Hok l' l'.length ∧ Kp (fun g => some g = v.ownBlock) w w' := by
  obtain ⟨N, eN⟩ : ∃ N, l.length = N := ⟨_, rfl⟩
  obtain ⟨va, vc, hv⟩ := h.row.slice
  rw [eN] at hv
  subst hv
  have HU := hide (And.intro h (And.intro hu eN))
  rw [eN] at hj hl
  have hNI : (N : Int) ≤ 100000 := by omega
  clear h hu eN
  go_enter Tryz.func65, Tryz.ntmps65
  go_wp2
  go_loopw [1] (fun jv wr => ∃ j : Nat, jv = .int .i64 (j : Int) ∧ j < N ∧ Hid (∃ l', Qm wr pb off B (.slice va N vc) l' ∧ l'.Perm l ∧ Hup l' l'.length j ∧ l'.length = N ∧ Kp (fun g => some g = (Value.slice va N vc).ownBlock) w wr)) (fun jv _ => (intOf jv).toNat)
  case atStart => exact ⟨j, rfl, hj, hide ⟨l, HU.out.1, .refl _, HU.out.2.1, HU.out.2.2, Kp.refl _ _⟩⟩
  case round =>
    obtain ⟨j, rfl, hjN, hI⟩ := hrel
    obtain ⟨l', hq, hp, hu, hn, hk⟩ := hI.out
    obtain ⟨i, ei⟩ : ∃ i, (j - 1) / 2 = i := ⟨_, rfl⟩
    by_cases h0 : j = 0
    · subst h0
      have h00 : i = 0 := by omega
      subst h00
      have HO := hide (And.intro hq (And.intro hp (And.intro hu.zero hk)))
      clear hq hp hu hn hk hI ei
      go_wp2
      go_end0
      exact ⟨rfl, l', HO.out.1, HO.out.2.1, HO.out.2.2.1, HO.out.2.2.2⟩
    · have e2 : ((j : Int) - 1) / 2 = (i : Int) := by omega
      have hij : ((i : Int) == (j : Int)) = false := by
        rw [beq_eq_false_iff_ne]
        omega
      have hijI : ¬ (i : Int) = (j : Int) := by omega
      have LE := less160 wr B _ l' hq.row j i (by omega) (by omega) (by omega)
      have q1 := m_less wr pb off _ hq.cell
      have HO := hide (And.intro hq (And.intro hp (And.intro hu (And.intro hn (And.intro hk (And.intro ei h0))))))
      have hj1 : (1 : Int) ≤ (j : Int) := by omega
      obtain ⟨b, hb⟩ : ∃ b, decide (wlt (we l' j) (we l' i)) = b := ⟨_, rfl⟩
      rw [hb] at LE
      have HB := hide hb
      clear hq hp hu hn hk hI ei hb
      go_wp2_with fail
      refine LE.mono ?_; rintro e w1 ⟨rfl, hk1⟩
      obtain ⟨hq, hp, hu, hn, hk, ei, h0'⟩ := HO.out
      cases b with
      | false =>
        have hno : ¬ wlt (we l' j) (we l' i) := by simpa using HB.out
        have HF := hide (And.intro (hq.nu hk1) (And.intro hp (And.intro (hu.stop (by rw [ei]; exact hno)) (hk.sub hk1))))
        clear hq hp hu hn hk ei hno HO LE q1
        go_wp2
        go_end0
        exact ⟨rfl, l', HF.out.1, HF.out.2.1, HF.out.2.2.1, HF.out.2.2.2⟩
      | true =>
        have hyes : wlt (we l' j) (we l' i) := by simpa using HB.out
        have hq1 := hq.nu hk1
        have SW := swap161 w1 B _ l' hq1.row i j (by omega) (by omega) (by omega)
        have q2 := m_swap w1 pb off _ hq1.cell
        have HF := hide (And.intro hq1 (And.intro (hu.step (Nat.le_refl _) (by omega) (by omega) ei hyes) (And.intro (swp_perm (i := i) (j := j) (by omega : i < l'.length) (by omega)) (hk.sub hk1))))
        have HN := hide (And.intro hn (And.intro hp ei))
        clear hq hp hu hn hk ei hyes HO LE q1 hq1
        go_wp2_with fail
        refine SW.mono ?_; rintro e w2 ⟨rfl, hr2, hk2⟩
        obtain ⟨hq1, hu1, hp1, hk1'⟩ := HF.out
        have HG := hide (And.intro (hq1.keep hk2 hr2) (And.intro (hp1.trans HN.out.2.1) (And.intro hu1 (hk1'.trans hk2 (fun _ _ e => e)))))
        clear hq1 hu1 hp1 hk1' SW q2 hr2 hk2
        go_wp2
        refine ⟨⟨i, by first | rfl | (congr 1), by have := HN.out.2.2; omega, hide ⟨swp l' i j, HG.out.1, HG.out.2.1, ?_, by rw [swp_len]; exact HN.out.1, HG.out.2.2.2⟩⟩, by simp [intOf]; have := HN.out.2.2; omega⟩
        rw [swp_len]
        exact HG.out.2.2.1
end Go.Proofs.YtbifmcadllilhaaGreat.Rg
namespace Go.Proofs.YtbifmcadllilhaaGreat.Rg
open Go.RowKit Go.Shelf Go.Sort
set_option linter.unusedVariables false
/-- where down stands -/
structure Dn (w wr : World) (pb off B : Nat) (v : Value) (l l' : List Wt) (N n i : Nat) : Prop where
  q : Qm wr pb off B v l'
  p : l'.Perm l
  d : Hdn l' n i
  len : l'.length = N
  far : ∀ k, n ≤ k → we l' k = we l k
  kp : Kp (fun g => some g = v.ownBlock) w wr
structure DnE (w wr : World) (pb off B : Nat) (v : Value) (l l' : List Wt) (N n : Nat) : Prop where
  q : Qm wr pb off B v l'
  p : l'.Perm l
  ok : Hok l' n
  len : l'.length = N
  far : ∀ k, n ≤ k → we l' k = we l k
  kp : Kp (fun g => some g = v.ownBlock) w wr
theorem Dn.swap {w wr w1 w2 : World} {pb off B : Nat} {v : Value} {l l' : List Wt} {N n i j : Nat} (h : Dn w wr pb off B v l l' N n i) (hn : n ≤ N) (hk1 : Kp Nu wr w1) (hb : Best l' n i j) (hs : wlt (we l' j) (we l' i)) (hr : Wr w2 B v (swp l' i j)) (hk2 : Kp (fun g => some g = v.ownBlock) w1 w2) : Dn w w2 pb off B v l (swp l' i j) N n j := by
  have hj := hb.2.1
  have hjj := hb.1
  have hlen := h.len
  have il : i < l'.length := by omega
  have jl : j < l'.length := by omega
  refine ⟨(h.q.nu hk1).keep hk2 hr, (swp_perm il jl).trans h.p, h.d.step (by omega) hb hs, by rw [swp_len]; exact h.len, fun k hk => ?_, (h.kp.sub hk1).trans hk2 (fun _ _ e => e)⟩
  rw [swp_at il jl, if_neg (by omega), if_neg (by omega)]
  exact h.far k hk
theorem best_hi {l : List Wt} {n i : Nat} (h : 2 * i + 2 < n) (hw : wlt (we l (2 * i + 2)) (we l (2 * i + 1))) : Best l n i (2 * i + 2) := by
  refine ⟨by omega, h, fun c h1 h2 h3 => ?_⟩
  rcases (by omega : c = 2 * i + 1 ∨ c = 2 * i + 2) with e | e
  · rw [e]; exact wlt_asym hw
  · rw [e]; exact fun hh => wlt_asym hh hh
theorem best_lo {l : List Wt} {n i : Nat} (h : 2 * i + 1 < n) (hw : 2 * i + 2 < n → ¬ wlt (we l (2 * i + 2)) (we l (2 * i + 1))) : Best l n i (2 * i + 1) := by
  refine ⟨by omega, h, fun c h1 h2 h3 => ?_⟩
  rcases (by omega : c = 2 * i + 1 ∨ c = 2 * i + 2) with e | e
  · rw [e]; exact fun hh => wlt_asym hh hh
  · rw [e]; exact hw (by omega)
set_option maxRecDepth 100000 in
set_option maxHeartbeats 1000000 in
theorem down110 (w : World) (pb off B : Nat) (v : Value) (l : List Wt) (i0 n : Nat) (h : Qm w pb off B v l) (hn : n ≤ l.length) (hi0 : i0 ≤ n) (hl : l.length ≤ 100000) (hd : Hdn l n i0) :
    Calls Tryz.prog 87 #[.iface 103 (.pointer (some ⟨pb, off, none⟩)), .int .i64 (i0 : Int), .int .i64 (n : Int)] w fun e w' => ∃ b l', e = .returned (.bool b) ∧ DnE w w' pb off B v l l' l.length n := by
  obtain ⟨N, eN⟩ : ∃ N, l.length = N := ⟨_, rfl⟩
  obtain ⟨va, vc, hv⟩ := h.row.slice
  rw [eN] at hv
  subst hv
  have HU := hide (And.intro h (And.intro hd eN))
  rw [eN] at hn hl ⊢
  have hNI : (N : Int) ≤ 100000 := by omega
  have hnI : (n : Int) ≤ 100000 := by omega
  clear h hd eN
  go_enter Tryz.func87, Tryz.ntmps87
  go_wp2
  go_loopw [7] (fun iv wr => ∃ i : Nat, iv = .int .i64 (i : Int) ∧ i ≤ n ∧ Hid (∃ l', Dn w wr pb off B (.slice va N vc) l l' N n i)) (fun iv _ => n - (intOf iv).toNat)
  case atStart => exact ⟨i0, rfl, hi0, hide ⟨l, HU.out.1, .refl _, HU.out.2.1, HU.out.2.2, fun _ _ => rfl, Kp.refl _ _⟩⟩
  case round =>
    obtain ⟨i, rfl, hi, hI⟩ := hrel
    obtain ⟨l', hD⟩ := hI.out
    have hi00 : (0 : Int) ≤ (i : Int) := by omega
    by_cases c1 : n ≤ 2 * i + 1
    · have d1 : decide (2 * (i : Int) + 1 ≥ (n : Int)) = true := by simp; omega
      have c1I : 2 * (i : Int) + 1 ≥ (n : Int) := by omega
      have HF := hide (DnE.mk hD.q hD.p (hD.d.leaf c1) hD.len hD.far hD.kp)
      clear hD hI c1
      go_wp2
      go_ret
      exact ⟨_, l', rfl, HF.out⟩
    · have c1I : ¬ (2 * (i : Int) + 1 ≥ (n : Int)) := by omega
      have c2I : ¬ (2 * (i : Int) + 1 < 0) := by omega
      have hlen := hD.len
      have hin : (i : Int) < (n : Int) := by omega
      by_cases c2 : 2 * i + 2 < n
      · have c3I : 2 * (i : Int) + 1 + 1 < (n : Int) := by omega
        have LE := less160 wr B _ l' hD.q.row (2 * i + 2) (2 * i + 1) (by omega) (by omega) (by omega)
        have e1 : ((2 * i + 2 : Nat) : Int) = 2 * (i : Int) + 1 + 1 := by omega
        have e2 : ((2 * i + 1 : Nat) : Int) = 2 * (i : Int) + 1 := by omega
        rw [e1, e2] at LE
        have q1 := m_less wr pb off _ hD.q.cell
        have HO := hide (And.intro hD (And.intro c1 c2))
        obtain ⟨b, hb⟩ : ∃ b, decide (wlt (we l' (2 * i + 2)) (we l' (2 * i + 1))) = b := ⟨_, rfl⟩
        rw [hb] at LE
        have HB := hide hb
        clear hD hI hb c1 c2 hlen e1 e2
        go_wp2_with fail
        refine LE.mono ?_; rintro e w1 ⟨rfl, hk1⟩
        have HK1 := hide hk1
        clear LE q1 hk1
        cases b with
        | true =>
          have h21 : wlt (we l' (2 * i + 2)) (we l' (2 * i + 1)) := by simpa using HB.out
          have H21 := hide h21
          clear h21
          have hq1 := HO.out.1.q.nu HK1.out
          have hlen := HO.out.1.len
          have hcc := HO.out.2
          have LE2 := less160 w1 B _ l' hq1.row (2 * i + 2) i (by omega) (by omega) (by omega)
          have e3 : ((2 * i + 2 : Nat) : Int) = 2 * (i : Int) + 1 + 1 := by omega
          rw [e3] at LE2
          have q2 := m_less w1 pb off _ hq1.cell
          have HBe : Hid (Best l' n i (2 * i + 2)) := hide (best_hi hcc.2 H21.out)
          obtain ⟨b2, hb2⟩ : ∃ b2, decide (wlt (we l' (2 * i + 2)) (we l' i)) = b2 := ⟨_, rfl⟩
          rw [hb2] at LE2
          have HB2 := hide hb2
          clear hb2 hq1 hlen hcc e3
          go_wp2_with fail
          refine LE2.mono ?_; rintro e w3 ⟨rfl, hk3⟩
          have hk03 : Kp Nu wr w3 := HK1.out.andNu hk3
          have HK3 := hide hk03
          clear hk3 LE2 q2
          cases b2 with
          | false =>
            have hno : ¬ wlt (we l' (2 * i + 2)) (we l' i) := by simpa using HB2.out
            have HF := hide (DnE.mk (HO.out.1.q.nu hk03) HO.out.1.p (HO.out.1.d.stop HBe.out hno) HO.out.1.len HO.out.1.far (HO.out.1.kp.sub hk03))
            clear hk03 hno
            go_wp2
            go_ret
            exact ⟨_, l', rfl, HF.out⟩
          | true =>
            have hyes : wlt (we l' (2 * i + 2)) (we l' i) := by simpa using HB2.out
            have hq3 := HO.out.1.q.nu hk03
            have hlen := HO.out.1.len
            have hcc := HO.out.2
            have SW := swap161 w3 B _ l' hq3.row i (2 * i + 2) (by omega) (by omega) (by omega)
            have e4 : ((2 * i + 2 : Nat) : Int) = 2 * (i : Int) + 1 + 1 := by omega
            rw [e4] at SW
            have q4 := m_swap w3 pb off _ hq3.cell
            have HY := hide hyes
            clear hq3 hyes hk03 hlen hcc
            go_wp2_with fail
            refine SW.mono ?_; rintro e w4 ⟨rfl, hr4, hk4⟩
            have HG := hide (HO.out.1.swap hn HK3.out HBe.out HY.out hr4 hk4)
            clear SW q4 hr4 hk4
            go_wp2
            refine ⟨⟨2 * i + 2, by first | rfl | (rw [e4]) | (congr 1; omega), by have := HBe.out.2.1; omega, hide ⟨_, HG.out⟩⟩, by simp [intOf]; have := HBe.out.2.1; omega⟩
        | false =>
          have h21 : ¬ wlt (we l' (2 * i + 2)) (we l' (2 * i + 1)) := by simpa using HB.out
          have H21 := hide h21
          clear h21
          have hq1 := HO.out.1.q.nu HK1.out
          have hlen := HO.out.1.len
          have hcc := HO.out.2
          have LE2 := less160 w1 B _ l' hq1.row (2 * i + 1) i (by omega) (by omega) (by omega)
          have e3 : ((2 * i + 1 : Nat) : Int) = 2 * (i : Int) + 1 := by omega
          rw [e3] at LE2
          have q2 := m_less w1 pb off _ hq1.cell
          have HBe : Hid (Best l' n i (2 * i + 1)) := hide (best_lo (by omega) (fun _ => H21.out))
          obtain ⟨b2, hb2⟩ : ∃ b2, decide (wlt (we l' (2 * i + 1)) (we l' i)) = b2 := ⟨_, rfl⟩
          rw [hb2] at LE2
          have HB2 := hide hb2
          clear hb2 hq1 hlen hcc e3
          go_wp2_with fail
          refine LE2.mono ?_; rintro e w3 ⟨rfl, hk3⟩
          have hk03 : Kp Nu wr w3 := HK1.out.andNu hk3
          have HK3 := hide hk03
          clear hk3 LE2 q2
          cases b2 with
          | false =>
            have hno : ¬ wlt (we l' (2 * i + 1)) (we l' i) := by simpa using HB2.out
            have HF := hide (DnE.mk (HO.out.1.q.nu hk03) HO.out.1.p (HO.out.1.d.stop HBe.out hno) HO.out.1.len HO.out.1.far (HO.out.1.kp.sub hk03))
            clear hk03 hno
            go_wp2
            go_ret
            exact ⟨_, l', rfl, HF.out⟩
          | true =>
            have hyes : wlt (we l' (2 * i + 1)) (we l' i) := by simpa using HB2.out
            have hq3 := HO.out.1.q.nu hk03
            have hlen := HO.out.1.len
            have hcc := HO.out.2
            have SW := swap161 w3 B _ l' hq3.row i (2 * i + 1) (by omega) (by omega) (by omega)
            have e4 : ((2 * i + 1 : Nat) : Int) = 2 * (i : Int) + 1 := by omega
            rw [e4] at SW
            have q4 := m_swap w3 pb off _ hq3.cell
            have HY := hide hyes
            clear hq3 hyes hk03 hlen hcc
            go_wp2_with fail
            refine SW.mono ?_; rintro e w4 ⟨rfl, hr4, hk4⟩
            have HG := hide (HO.out.1.swap hn HK3.out HBe.out HY.out hr4 hk4)
            clear SW q4 hr4 hk4
            go_wp2
            refine ⟨⟨2 * i + 1, by first | rfl | (rw [e4]) | (congr 1; omega), by have := HBe.out.2.1; omega, hide ⟨_, HG.out⟩⟩, by simp [intOf]; have := HBe.out.2.1; omega⟩
      · have c3I : ¬ (2 * (i : Int) + 1 + 1 < (n : Int)) := by omega
        have HO := hide (And.intro hD (And.intro c1 c2))
        have HK1 := hide (Kp.refl Nu wr)
        clear hD hI c1 c2 hlen
        have hq1 := HO.out.1.q.nu HK1.out
        have hlen := HO.out.1.len
        have hcc := HO.out.2
        have LE2 := less160 wr B _ l' hq1.row (2 * i + 1) i (by omega) (by omega) (by omega)
        have e3 : ((2 * i + 1 : Nat) : Int) = 2 * (i : Int) + 1 := by omega
        rw [e3] at LE2
        have q2 := m_less wr pb off _ hq1.cell
        have HBe : Hid (Best l' n i (2 * i + 1)) := hide (best_lo (by omega) (fun hh => absurd hh hcc.2))
        obtain ⟨b2, hb2⟩ : ∃ b2, decide (wlt (we l' (2 * i + 1)) (we l' i)) = b2 := ⟨_, rfl⟩
        rw [hb2] at LE2
        have HB2 := hide hb2
        clear hb2 hq1 hlen hcc e3
        go_wp2_with fail
        refine LE2.mono ?_; rintro e w3 ⟨rfl, hk3⟩
        have hk03 : Kp Nu wr w3 := HK1.out.andNu hk3
        have HK3 := hide hk03
        clear hk3 LE2 q2
        cases b2 with
        | false =>
          have hno : ¬ wlt (we l' (2 * i + 1)) (we l' i) := by simpa using HB2.out
          have HF := hide (DnE.mk (HO.out.1.q.nu hk03) HO.out.1.p (HO.out.1.d.stop HBe.out hno) HO.out.1.len HO.out.1.far (HO.out.1.kp.sub hk03))
          clear hk03 hno
          go_wp2
          go_ret
          exact ⟨_, l', rfl, HF.out⟩
        | true =>
          have hyes : wlt (we l' (2 * i + 1)) (we l' i) := by simpa using HB2.out
          have hq3 := HO.out.1.q.nu hk03
          have hlen := HO.out.1.len
          have hcc := HO.out.2
          have SW := swap161 w3 B _ l' hq3.row i (2 * i + 1) (by omega) (by omega) (by omega)
          have e4 : ((2 * i + 1 : Nat) : Int) = 2 * (i : Int) + 1 := by omega
          rw [e4] at SW
          have q4 := m_swap w3 pb off _ hq3.cell
          have HY := hide hyes
          clear hq3 hyes hk03 hlen hcc
          go_wp2_with fail
          refine SW.mono ?_; rintro e w4 ⟨rfl, hr4, hk4⟩
          have HG := hide (HO.out.1.swap hn HK3.out HBe.out HY.out hr4 hk4)
          clear SW q4 hr4 hk4
          go_wp2
          refine ⟨⟨2 * i + 1, by first | rfl | (rw [e4]) | (congr 1; omega), by have := HBe.out.2.1; omega, hide ⟨_, HG.out⟩⟩, by simp [intOf]; have := HBe.out.2.1; omega⟩
end Go.Proofs.YtbifmcadllilhaaGreat.Rg
namespace Go.Proofs.YtbifmcadllilhaaGreat.Rg
open Go.RowKit Go.Shelf Go.Sort
set_option linter.unusedVariables false
theorem info135 : (Tryz.prog.info? 105).map (fun i => (i.zero, i.size, i.bytes)) = some (some (.agg #[.int .u8 0, .int .i64 0]), 2, 16) := by kernel_rfl
/-- a queue in a planner -/
structure Qb (w : World) (pb off B : Nat) (cs : Array Value) (v : Value) (l : List Wt) : Prop where
  blk : w.heap[pb]? = some (.cells cs 77 (0, 0))
  at_ : cs[off]? = some v
  row : Wr w B v l
theorem Qb.qm {w : World} {pb off B : Nat} {cs : Array Value} {v : Value} {l : List Wt} (h : Qb w pb off B cs v l) : Qm w pb off B v l :=
  ⟨by simp [World.cell?, h.blk, h.at_], h.row, fun g hg e => by
    obtain ⟨c, hc⟩ := own_obj h.row hg
    rw [e, h.blk] at hc; cases hc⟩
/-- the row turned, the field stands -/
theorem Qb.turn {w w' : World} {pb off B : Nat} {cs : Array Value} {v : Value} {l l' : List Wt} (h : Qb w pb off B cs v l) (k : Kp (fun g => some g = v.ownBlock) w w') (hq : Qm w' pb off B v l') : Qb w' pb off B cs v l' :=
  ⟨(k.block pb (blk_lt h.blk) (fun e => h.qm.ne pb e.symm rfl)).trans h.blk, h.at_, hq.row⟩
theorem cell_two_new (w : World) (x y : Value) (t : TypeId) : ∀ j u, [x, y][j]? = some u → (w.alloc (.cells #[x, y] t)).cell? ((⟨w.heap.size, 0, none⟩ : Addr).add j) = some u := by
  intro j u hj
  have hb := heap_alloc_new w (.cells #[x, y] t)
  obtain ⟨y0, y1⟩ := cell2' hb
  rw [Addr.add_lit, Nat.zero_add]
  match j, hj with
  | 0, hj => simp at hj; subst hj; exact y0
  | 1, hj => simp at hj; subst hj; exact y1
  | j + 2, hj => simp at hj
theorem ta135 (v : Value) (w : World) : (Instr.typeAssert (.iface 105 v) 20 105 false).run Tryz.prog w = .ok v w := by kernel_rfl
/-- what a change of the queue leaves: its block, the planner's, new ones -/
structure Qf (w w' : World) (pb off : Nat) (cs : Array Value) (v v' : Value) : Prop where
  kp : Kp (fun g => g = pb ∨ some g = v.ownBlock) w w'
  lie : v'.ownBlock = v.ownBlock ∨ ∃ g, w.heap.size ≤ g ∧ v'.ownBlock = some g
set_option maxRecDepth 100000 in
set_option maxHeartbeats 1000000 in
theorem push163 (w : World) (pb off B : Nat) (cs : Array Value) (v : Value) (l : List Wt) (x : Wt) (h : Qb w pb off B cs v l) (hl : l.length ≤ 100000) (hB : B ≤ w.heap.size) :
    Calls Tryz.prog 149 #[.pointer (some ⟨pb, off, none⟩), .iface 105 (.agg #[.int .u8 x.h, .int .i64 x.p])] w fun e w' => e = .returned (.tuple #[]) ∧ ∃ v', Qb w' pb off B (cs.setIfInBounds off v') v' (l ++ [x]) ∧ Qf w w' pb off cs v v' := by
  have mixed : Tryz.prog.follows .mixedOrders = true := by kernel_rfl
  obtain ⟨i0, hi, hz0, hz1, hz2⟩ := info_parts info135
  obtain ⟨va, vc, hv⟩ := h.row.slice
  obtain ⟨N, eN⟩ : ∃ N, l.length = N := ⟨_, rfl⟩
  rw [eN] at hv hl
  subst hv
  have c0 := h.qm.cell
  have hrow := h.row
  unfold Wr at hrow
  rw [eN] at hrow
  have HU := hide (And.intro h eN)
  clear h eN
  have hrow2 : ((w.alloc (.cells #[.int .u8 x.h, .int .i64 x.p] 105)).drew).ownsRow B 105 2 (.slice va N vc) N (cellsW l) := World.ownsRow.alloc (w := w) hrow _
  have hcn : ∀ j u, [Value.int .u8 x.h, .int .i64 x.p][j]? = some u → ((w.alloc (.cells #[.int .u8 x.h, .int .i64 x.p] 105)).drew).cell? ((⟨w.heap.size, 0, none⟩ : Addr).add j) = some u := cell_two_new w _ _ _
  have hpbA : ((w.alloc (.cells #[.int .u8 x.h, .int .i64 x.p] 105)).drew).heap[pb]? = some (.cells cs 77 (0, 0)) := (Below.heap_alloc w _ pb (blk_lt HU.out.1.blk)).trans HU.out.1.blk
  have kA : Kp Nu w ((w.alloc (.cells #[.int .u8 x.h, .int .i64 x.p] 105)).drew) := ((Kp.refl Nu w).andAlloc _).drew
  have hszA : ((w.alloc (.cells #[.int .u8 x.h, .int .i64 x.p] 105)).drew).heap.size = w.heap.size + 1 := World.size_alloc _ _
  have HA := hide (And.intro hrow2 (And.intro hcn (And.intro hpbA (And.intro kA hszA))))
  clear hrow hrow2 hcn hpbA kA hszA
  have d0 : w.drew.cell? ⟨pb, off, none⟩ = some (.slice va N vc) := c0
  have d1 : ((w.alloc (.cells #[.int .u8 x.h, .int .i64 x.p] 105)).drew).cell? ⟨pb, off, none⟩ = some (.slice va N vc) := by simp [World.cell?, HA.out.2.2.1, HU.out.1.at_]
  have qT := ta135
  go_enter Tryz.func149, Tryz.ntmps149
  go_wp2_with fail
  go_region_law (first | (refine step_append_lies _ rfl (.tmp 7) (.tmp 10) 75 rfl B 105 i0 _ 2 16 Tryz.underlying75 hi hz0 hz1 hz2 rfl (by decide) (.slice va N vc) N (cellsW l) rfl HA.out.1 ⟨w.heap.size, 0, none⟩ 1 1 [.int .u8 x.h, .int .i64 x.p] rfl rfl HA.out.2.1 (by simp [Value.oneCell']) (by decide) (by unfold maxLen; omega) (by omega) (by have := HA.out.2.2.2.2; omega) (w.heap.size + 1) HA.out.2.2.2.2 ?_; intro g cap w4 ho hg hgat hglt; have hpb4 : w4.heap[pb]? = some (.cells cs 77 (0, 0)) := (hg.block pb (blk_lt HA.out.2.2.1) (fun e => (by obtain ⟨c, hc⟩ := own_obj HA.out.1 e.symm; rw [HA.out.2.2.1] at hc; cases hc))).trans HA.out.2.2.1; have z1 : w4.cell? ⟨pb, off, none⟩ = some (.slice va N vc) := (by simp [World.cell?, hpb4, HU.out.1.at_]); have z2 : w4.frozen? ⟨pb, off, none⟩ = false := free3 hpb4 off; have HW := hide (And.intro ho (And.intro hg (And.intro hgat (And.intro hglt hpb4)))); clear ho hg hgat hglt hpb4))
  all_goals (
    go_end0
    obtain ⟨ho, hg, hgat, hglt, hpb4⟩ := HW.out
    have hne : g ≠ pb := fun e => by
      obtain ⟨c, hc⟩ := own_obj ho rfl
      rw [e, hpb4] at hc; cases hc
    have kS := Kp.setCell w4 ⟨pb, off, none⟩ (.slice (some ⟨g, 0, none⟩) (N + 1) cap)
    have hoff : off < cs.size := by
      have := HU.out.1.at_
      rcases Nat.lt_or_ge off cs.size with h | h
      · exact h
      · rw [Array.getElem?_eq_none h] at this; cases this
    refine ⟨rfl, .slice (some ⟨g, 0, none⟩) (N + 1) cap, ⟨set3 hpb4 off _, by simp [hoff], ?_⟩, ?_, ?_⟩
    · unfold Wr
      rw [List.length_append, HU.out.2, cellsW_snoc]
      exact own_keep ho (fun g' e => by
        have e2 : g = g' := by simpa [Value.ownBlock] using e
        exact kS.block g' (by rw [← e2]; exact hglt) (fun e3 => hne (e2.trans e3)))
    · refine ((HA.out.2.2.2.1.mono (T := fun g => g = pb ∨ some g = (Value.slice va N vc).ownBlock) (fun _ _ h => h.elim)).trans (Kp.of_grown hg) (fun _ _ e => .inr e)).trans kS (fun _ _ e => .inl e)
    · rcases hgat with e | e
      · exact .inl (by rw [e]; rfl)
      · exact .inr ⟨g, by omega, rfl⟩)
end Go.Proofs.YtbifmcadllilhaaGreat.Rg
namespace Go.Proofs.YtbifmcadllilhaaGreat.Rg
open Go.RowKit Go.Shelf Go.Sort
set_option linter.unusedVariables false
theorem we_app {l : List Wt} {x : Wt} {k : Nat} (h : k < l.length) : we (l ++ [x]) k = we l k := by
  unfold we
  rw [List.getD_eq_getElem?_getD, List.getD_eq_getElem?_getD, List.getElem?_append_left h]
theorem Hok.up {l : List Wt} (h : Hok l l.length) (x : Wt) : Hup (l ++ [x]) (l ++ [x]).length l.length := by
  rw [List.length_append, List.length_singleton]
  refine ⟨fun c h1 h2 hne => ?_, fun c h1 h2 h3 h4 => by omega⟩
  rw [we_app (by omega), we_app (by omega)]
  exact h c h1 (by omega)
theorem Qf.trans {a b c : World} {pb off : Nat} {cs cs' : Array Value} {v v' v'' : Value} (h : Qf a b pb off cs v v') (k : Qf b c pb off cs' v' v'') : Qf a c pb off cs v v'' := by
  refine ⟨h.kp.trans k.kp (fun i hi e => ?_), ?_⟩
  · rcases e with e | e
    · exact .inl e
    · rcases h.lie with e2 | ⟨g, hg, e2⟩
      · exact .inr (e.trans e2)
      · rw [e2] at e; cases e; omega
  · rcases k.lie with e | ⟨g, hg, e⟩
    · rcases h.lie with e2 | ⟨g, hg, e2⟩
      · exact .inl (e.trans e2)
      · exact .inr ⟨g, hg, e.trans e2⟩
    · exact .inr ⟨g, Nat.le_trans h.kp.size hg, e⟩
theorem Qf.of_row {a b : World} {pb off : Nat} {cs : Array Value} {v : Value} (k : Kp (fun g => some g = v.ownBlock) a b) : Qf a b pb off cs v v := ⟨k.mono (fun _ _ e => .inr e), .inl rfl⟩
set_option maxRecDepth 100000 in
set_option maxHeartbeats 1000000 in
theorem hpush75 (w : World) (pb off B : Nat) (cs : Array Value) (v : Value) (l : List Wt) (x : Wt) (h : Qb w pb off B cs v l) (hl : l.length ≤ 90000) (hB : B ≤ w.heap.size) (hok : Hok l l.length) :
    Calls Tryz.prog 49 #[.iface 103 (.pointer (some ⟨pb, off, none⟩)), .iface 105 (.agg #[.int .u8 x.h, .int .i64 x.p])] w fun e w' => e = .returned (.tuple #[]) ∧ ∃ v' l', Qb w' pb off B (cs.setIfInBounds off v') v' l' ∧ l'.Perm (l ++ [x]) ∧ Hok l' l'.length ∧ Qf w w' pb off cs v v' := by
  have PU := push163 w pb off B cs v l x h (by omega) hB
  have q1 := m_push w ⟨pb, off, none⟩
  have HH := hide (And.intro hok hl)
  clear h hok hl
  go_enter Tryz.func49, Tryz.ntmps49
  go_wp2_with fail
  refine PU.mono ?_; rintro e w1 ⟨rfl, v', hq1, hf1⟩
  obtain ⟨va, vc, hv⟩ := hq1.row.slice
  have q2 := m_len w1 pb off _ hq1.qm.cell
  have hn : (l ++ [x]).length = l.length + 1 := by simp
  have UP := up95 w1 pb off B v' (l ++ [x]) l.length hq1.qm (by omega) (by rw [hn]; have := HH.out.2; omega) (HH.out.1.up x)
  rw [hn] at hv
  subst hv
  have LN := len50 w1 va (l.length + 1) vc
  have HQ := hide (And.intro hq1 hf1)
  have hb := HH.out.2
  obtain ⟨N, eN⟩ : ∃ N, l.length = N := ⟨_, rfl⟩
  rw [eN] at UP LN q2 hb
  clear PU q1 hq1 hf1 hn
  go_wp2_with fail
  refine LN.mono ?_; rintro e w2 ⟨rfl, hw⟩
  obtain rfl := hw
  have e1 : ((N + 1 : Nat) : Int) - 1 = (N : Int) := by omega
  clear LN q2
  go_wp2_with fail
  refine UP.mono ?_; rintro e w3 ⟨rfl, l', hq3, hp3, hk3, hkp3⟩
  have HZ := hide (And.intro hq3 (And.intro hp3 (And.intro hk3 hkp3)))
  clear UP hq3 hp3 hk3 hkp3
  go_wp2
  go_end0
  obtain ⟨hq3, hp3, hk3, hkp3⟩ := HZ.out
  rw [eN] at HQ
  exact ⟨rfl, _, l', HQ.out.1.turn hkp3 hq3, hp3, hk3, HQ.out.2.trans (Qf.of_row (cs := cs) hkp3)⟩
end Go.Proofs.YtbifmcadllilhaaGreat.Rg
