import Derived.Test.YtchealdgncgjoaaRtC
namespace Go.Proofs.Ytchealdgncgjoaa.StU
open Go.RowKit Go.Proofs.Ytchealdgncgjoaa.St Go.Shelf Go.Maps
set_option linter.unusedVariables false
set_option linter.unusedSimpArgs false
theorem info78s : (Try.prog.info? 78).map (fun i => (i.zero, i.size, i.bytes)) = some (some (.agg #[.int .u64 0, .slice none 0 0]), 2, 32) := by kernel_rfl
theorem mkv_facts (i : Nat) : ∃ x : Int, Int.tmod (i : Int) 200 = x ∧ (i : Int) % 200 = x ∧ x % 256 = x ∧ IntKind.u8.wrap x = x ∧ Hid (mkv i = .int .u8 x) := by
  refine ⟨((i % 200 : Nat) : Int), ?_, ?_, ?_, ?_, rfl⟩
  · rw [Int.tmod_eq_emod_of_nonneg (by omega)]; omega
  · omega
  · omega
  · rw [IntKind.wrap_u8]; omega
theorem own_setk {w : World} {B e sz n i : Nat} {r cap : Nat} {l : List Value} (h : w.ownsRow B e sz (.slice (some ⟨r, 0, none⟩) n cap) n l) (u : Value) : (w.setCell ⟨r, i, none⟩ u).ownsRow B e sz (.slice (some ⟨r, 0, none⟩) n cap) n (l.set i u) := by
  refine ⟨by simpa using h.1, ?_⟩
  rcases h.2 with ⟨e, h0⟩ | ⟨g, cap', cur, e, hb, hg, h1, h2, h3, h4⟩
  · cases e
  · cases e
    refine .inr ⟨r, cap, cur.setIfInBounds i u, rfl, hb, set3 hg i u, h1, h2, by simpa using h3, ?_⟩
    rw [Array.toList_setIfInBounds, ← h4, List.take_set]
theorem Spn.row {r N uc : Nat} {L : List (Int × Sv)} : Spn ⟨some ⟨r, 0, none⟩, N, uc⟩ L r := .inl rfl
/-- a row that its holder grows -/
structure Sr (w : World) (u : Sv) (L : List (Int × Sv)) (W : World) (v : Value) (n : Nat) : Prop where
  kp : Kp (Spn u L) w W
  ow : ∃ l, W.ownsRow 0 78 2 v n l
  bl : ∀ g, v.ownBlock = some g → (sl u).ownBlock = some g ∨ w.heap.size ≤ g
theorem Sr.app {w W W4 : World} {u : Sv} {L : List (Int × Sv)} {n g2 cap : Nat} {v : Value} {l : List Value} {o : Obj} (h : Sr w u L W v n) (ho : W4.ownsRow 0 78 2 (.slice (some ⟨g2, 0, none⟩) (n + 1) cap) (n + 1) l) (hg : (W.alloc o).grownBy W4 v.ownBlock) (hat : v.ownBlock = some g2 ∨ g2 = W.heap.size + 1) : Sr w u L W4 (.slice (some ⟨g2, 0, none⟩) (n + 1) cap) (n + 1) := by
  refine ⟨(h.kp.trans (Kp.alloc W o (Spn u L)) (fun _ _ e => e)).trans (Kp.of_grown hg) (fun i hi e => ?_), ⟨_, ho⟩, fun q hq => ?_⟩
  · rcases h.bl i e.symm with e2 | e2
    · exact .inl e2
    · omega
  · have hq : g2 = q := by simpa [Value.ownBlock] using hq
    rcases hat with e | e
    · rw [hq] at e; exact h.bl q e
    · have := h.kp.size; exact .inr (by omega)
set_option maxRecDepth 100000 in
set_option maxHeartbeats 8000000 in
theorem spoilPairs188 {w : World} {u : Sv} {L : List (Int × Sv)} {C0 : Nat → List Value} (hu : w.ownsRow 0 78 2 (sl u) u.n (pc L)) (hv : Rws w L C0) (hap : Apt L) (hn : ∀ p ∈ L, p.2.n ≤ 140737488355200) (hun : u.n ≤ 4398046511000) :
    Calls Try.prog 188 #[sl u] w fun e w' => e = .returned (.bool true) ∧ Kp (Spn u L) w w' := by
  obtain ⟨i5, hi5, hy0, hy1, hy2⟩ := info_parts info5R
  obtain ⟨i78, hi78, hx0, hx1, hx2⟩ := info_parts info78s
  obtain ⟨ua, N, uc⟩ := u
  simp only [sl] at hu hun ⊢
  have hLN : L.length = N := by have := hu.1; rw [pc_length] at this; omega
  have H0 : Hid (Sq w ⟨ua, N, uc⟩ L (C1 C0 0) w) := hide ((Sq.mk (Kp.refl _ _) hu hv).congr (fun q p hp => by unfold C1; rw [if_neg (by omega)]))
  have HB : Hid (∀ q ∈ L, ∀ g, (sl q.2).ownBlock = some g → g < w.heap.size) := hide (fun q hq g hg => by
    obtain ⟨i, hi⟩ := List.mem_iff_getElem?.1 hq
    exact own_lt (hv i q hi) hg)
  have HL : Hid (∀ i p, L[i]? = some p → (C0 i).length = p.2.n) := hide (fun i p hp => by have := (hv i p hp).1; omega)
  have HH := hide (And.intro hLN (And.intro hap (And.intro hn hun)))
  clear hu hv hap hn hLN hun
  go_enter Try.func188, Try.ntmps188
  go_wp2_with fail
  go_loopw [3] (fun it wr => ∃ i : Nat, it = .int .i64 (i : Int) ∧ i ≤ N ∧ Hid (Sq w ⟨ua, N, uc⟩ L (C1 C0 i) wr)) (fun it _ => N - (intOf it).toNat)
  case atStart => exact ⟨0, rfl, Nat.zero_le _, H0⟩
  case round =>
    clear H0
    obtain ⟨i, rfl, hi, HI⟩ := hrel
    by_cases hlt : i < N
    · obtain ⟨p, hp⟩ : ∃ p, L[i]? = some p := ⟨_, List.getElem?_eq_getElem (by rw [HH.out.1]; exact hlt)⟩
      have hpl := HL.out i p hp
      obtain ⟨mq0, m0, m1, m2, m3, HMK⟩ := mkv_facts i
      have hltI : (i : Int) < (N : Int) := by omega
      have hi00 : (0 : Int) ≤ (i : Int) := by omega
      have hwi := wq (i : Int) hi00 (by have := HH.out.2.2.2; omega)
      obtain ⟨r, ea, _, d0, d1⟩ := HI.out.at_ hp
      subst ea
      have HW := hide (And.intro hlt (And.intro hp hpl))
      have hpb := HH.out.2.2.1 p (List.mem_of_getElem? hp)
      have HPB := hide hpb
      obtain ⟨pk, ⟨pa, pn, pcc⟩⟩ := p
      simp only at d1 hpl
      have HSt : Hid (Sq w ⟨some ⟨r, 0, none⟩, N, uc⟩ L (C2 C0 i 0) wr) := hide (HI.out.congr (fun q p hp => C2_zero C0 i q))
      have HM := hide hwi
      clear hlt hi hp hpl HI hpb d0 d1 hwi
      go_wp2_with fail
      generalize wr = wz at *
      go_loopw [4] (fun jt wr => ∃ j : Nat, jt = .int .i64 (j : Int) ∧ j ≤ pn ∧ Hid (Sq w ⟨some ⟨r, 0, none⟩, N, uc⟩ L (C2 C0 i j) wr)) (fun jt _ => pn - (intOf jt).toNat)
      case atStart => exact ⟨0, rfl, Nat.zero_le _, HSt⟩
      case round =>
        clear HSt
        obtain ⟨j, rfl, hj, HJ⟩ := hrel
        obtain ⟨r', er, _, d0, d1⟩ := HJ.out.at_ HW.out.2.1
        cases er
        simp only at d1
        by_cases hjn : j < pn
        · have hvs := HJ.out.vs i _ HW.out.2.1
          have hlen : (C2 C0 i j i).length = pn := by have := hvs.1; simp only at this; omega
          obtain ⟨x, hx⟩ : ∃ x, (C2 C0 i j i)[j]? = some x := ⟨_, List.getElem?_eq_getElem (by omega)⟩
          obtain ⟨r2, cap2, e2, dj⟩ := row_at1 hvs hx
          simp only at e2
          have e2' : sl (pk, (⟨pa, pn, pcc⟩ : Sv)).2 = .slice (some ⟨r2, 0, none⟩) pn cap2 := e2
          cases e2
          obtain ⟨cur, hcur⟩ := own_obj hvs (show _ = some r2 from rfl)
          have fz := free3 hcur j
          have hjI : (j : Int) < (pn : Int) := by omega
          have hj0 : (0 : Int) ≤ (j : Int) := by omega
          have wj := wq (j : Int) hj0 (by have h : pn ≤ 140737488355200 := HPB.out; omega)
          have HS2 : Hid (Sq w ⟨some ⟨r, 0, none⟩, N, uc⟩ L (C2 C0 i (j + 1)) (wr.setCell ⟨r2, j, none⟩ (.int .u8 mq0))) := hide (by
            have h1 := (HJ.out.set HH.out.2.1 (j := j) HW.out.2.1 e2' (mkv i)).congr (fun q p hp => C2_set C0 i j q (by have h : (C0 i).length = pn := HW.out.2.2; rw [h]; exact hjn))
            rw [HMK.out] at h1
            exact h1)
          have HE := hide hjn
          have HMI := hide (And.intro hltI hi00)
          clear hvs hlen hx e2' hcur hjn hj HJ
          go_wp2_with fail
          try rw [wj]
          exact ⟨⟨j + 1, by go_num, sq HE.out, HS2⟩, mq HE.out⟩
        · have hge : ¬ (j : Int) < (pn : Int) := by omega
          have HF : Hid (Sq w ⟨some ⟨r, 0, none⟩, N, uc⟩ L (C1 C0 (i + 1)) wr) := hide (HJ.out.congr (fun q p hp => by
            have h1 : (C0 i).length = pn := HW.out.2.2
            have h2 : j = (C0 i).length := by omega
            rw [h2]; exact C2_end C0 i q))
          have hwi := HM.out
          clear HJ hj hjn
          go_wp2_with fail
          try rw [hwi]
          exact ⟨⟨i + 1, by go_num, sq HW.out.1, HF⟩, mq HW.out.1⟩
    · obtain rfl : i = N := by omega
      have hnl : ¬ (i : Int) < (i : Int) := by omega
      have H1 : Hid (Sq w ⟨ua, i, uc⟩ L (rpC C0) wr) := hide (HI.out.congr (fun q p hp => by
        unfold C1
        rw [if_pos (by have := (List.getElem?_eq_some_iff.1 hp).1; have := HH.out.1; omega)]))
      have HRL : Hid (∀ q p, L[q]? = some p → rpC C0 q = List.replicate p.2.n (mkv q)) := hide (fun q p hp => by unfold rpC; rw [HL.out q p hp])
      clear HI hi hlt
      go_wp2_with fail
      generalize wr = wa at *
      clear hnl
      go_loopw [5] (fun it wr => ∃ q : Nat, it = .int .i64 (q : Int) ∧ q ≤ i ∧ Hid (Sq w ⟨ua, i, uc⟩ L (rpC C0) wr)) (fun it _ => i - (intOf it).toNat)
      case atStart => exact ⟨0, rfl, Nat.zero_le _, H1⟩
      case round =>
        clear H1
        obtain ⟨q, rfl, hq, HI⟩ := hrel
        by_cases hlt : q < i
        · obtain ⟨p, hp⟩ : ∃ p, L[q]? = some p := ⟨_, List.getElem?_eq_getElem (by rw [HH.out.1]; exact hlt)⟩
          have hltI : (q : Int) < (i : Int) := by omega
          have hi00 : (0 : Int) ≤ (q : Int) := by omega
          have hwi := wq (q : Int) hi00 (by have := HH.out.2.2.2; omega)
          obtain ⟨r, ea, _, d0, d1⟩ := HI.out.at_ hp
          subst ea
          have hpb := HH.out.2.2.1 p (List.mem_of_getElem? hp)
          have HPB := hide (And.intro hlt (And.intro hp hpb))
          have HM := hide hwi
          have HS4 : Hid (S4 w ⟨some ⟨r, 0, none⟩, i, uc⟩ L (rpC C0) p wr (sl p.2) 0) := hide ⟨HI.out, ⟨_, HI.out.vs q p hp, by have := (HI.out.vs q p hp).1; omega⟩, fun g hg => .inl hg⟩
          obtain ⟨pk, ⟨pa, pn, pcc⟩⟩ := p
          simp only at d1
          clear hlt hq hp HI hpb d0 hwi
          go_wp2_with fail
          generalize wr = wb at *
          clear d1
          go_loopw [6, 7] (fun v6 jt wr => ∃ (j : Nat) (va : Value), jt = .int .i64 (j : Int) ∧ va = v6 ∧ j ≤ 90 ∧ Hid (S4 w ⟨some ⟨r, 0, none⟩, i, uc⟩ L (rpC C0) (pk, ⟨pa, pn, pcc⟩) wr va j)) (fun _ jt _ => 90 - (intOf jt).toNat)
          case atStart => exact ⟨0, _, rfl, rfl, by omega, HS4⟩
          case round =>
            clear HS4
            obtain ⟨j, va, rfl, rfl, hj, HJ⟩ := hrel
            by_cases hjn : j < 90
            · obtain ⟨l', ho, hl'⟩ := HJ.out.ow
              simp only at ho hl'
              have kA := Kp.alloc wr (.cells #[.int .u8 255] 5) Nu
              have oA : (wr.alloc (.cells #[.int .u8 255] 5)).ownsRow 0 5 1 va (pn + j) l' := own_keep ho (fun q hq => kA.block q (own_lt ho hq) (fun h => h))
              have hjI : (j : Int) < 90 := by omega
              have hj0 : (0 : Int) ≤ (j : Int) := by omega
              have wj := wq (j : Int) hj0 (by omega)
              have HA := hide (And.intro oA (And.intro ho (And.intro hl' hjn)))
              have HBd : Hid (pn + j + 1 ≤ maxLen ∧ (pn + j + 1) * 1 ≤ 140737488355328) := hide (by
                have h : pn ≤ 140737488355200 := HPB.out.2.2
                unfold maxLen
                omega)
              clear ho hl' oA kA hj hjn
              go_wp2_with (at_builtin; refine wpList_append_row _ rfl (.tmp 53) (.tmp 54) 74 rfl 0 5 i5 (.int .u8 0) 1 1 Try.underlying74 hi5 hy0 hy1 hy2 rfl (by decide) va (pn + j) l' rfl HA.out.1 ⟨wr.heap.size, 0, none⟩ 1 1 [.int .u8 255] rfl rfl (cell_one_new wr _ 5) (by simp [Value.oneCell']) HBd.out.1 HBd.out.2 (Nat.zero_le _) ?_; intro v' w4 ho hg hat hr; have hW := hide (HJ.out.app HH.out.2.1 HB.out HPB.out.2.1 HA.out.2.1 HA.out.2.2.1 ho hg hat hr); clear ho hg hat hr)
              try rw [wj]
              exact ⟨⟨j + 1, _, by go_num, rfl, by have := HA.out.2.2.2; omega, hW⟩, mq HA.out.2.2.2⟩
            · have hge : ¬ (j : Int) < 90 := by omega
              have HF := hide HJ.out.sq
              have hwi := HM.out
              clear HJ hj hjn
              go_wp2_with fail
              try rw [hwi]
              exact ⟨⟨q + 1, by go_num, sq HPB.out.1, HF⟩, mq HPB.out.1⟩
        · obtain rfl : q = i := by omega
          have hnl : ¬ (q : Int) < (q : Int) := by omega
          have H5 := HI
          clear HI hq hlt
          go_wp2_with fail
          generalize wr = wc at *
          clear hnl
          go_loopw [8] (fun it wr => ∃ i : Nat, it = .int .i64 (i : Int) ∧ i ≤ q ∧ Hid (Sq w ⟨ua, q, uc⟩ L (rpC C0) wr)) (fun it _ => q - (intOf it).toNat)
          case atStart => exact ⟨0, rfl, Nat.zero_le _, H5⟩
          case round =>
            clear H5
            obtain ⟨i, rfl, hi, HI⟩ := hrel
            by_cases hlt : i < q
            · obtain ⟨p, hp⟩ : ∃ p, L[i]? = some p := ⟨_, List.getElem?_eq_getElem (by rw [HH.out.1]; exact hlt)⟩
              obtain ⟨mq0, m0, m1, m2, m3, HMK⟩ := mkv_facts i
              have hltI : (i : Int) < (q : Int) := by omega
              have hi00 : (0 : Int) ≤ (i : Int) := by omega
              have hwi := wq (i : Int) hi00 (by have := HH.out.2.2.2; omega)
              obtain ⟨r, ea, _, d0, d1⟩ := HI.out.at_ hp
              subst ea
              have hpb := HH.out.2.2.1 p (List.mem_of_getElem? hp)
              have HPB := hide (And.intro hlt (And.intro hp hpb))
              have HM := hide hwi
              obtain ⟨pk, ⟨pa, pn, pcc⟩⟩ := p
              simp only at d1
              clear hlt hi hp hpb d0 d1 hwi
              go_wp2_with fail
              generalize wr = wd at *
              go_loopw [9] (fun jt wr => ∃ j : Nat, jt = .int .i64 (j : Int) ∧ j ≤ pn ∧ Hid (Sq w ⟨some ⟨r, 0, none⟩, q, uc⟩ L (rpC C0) wr)) (fun jt _ => pn - (intOf jt).toNat)
              case atStart => exact ⟨0, rfl, Nat.zero_le _, HI⟩
              case round =>
                clear HI
                obtain ⟨j, rfl, hj, HJ⟩ := hrel
                obtain ⟨r', er, _, d0, d1⟩ := HJ.out.at_ HPB.out.2.1
                cases er
                simp only at d1
                by_cases hjn : j < pn
                · have hvs := HJ.out.vs i _ HPB.out.2.1
                  rw [HRL.out i _ HPB.out.2.1] at hvs
                  obtain ⟨r2, cap2, e2, dj⟩ := row_at1 (i := j) (u := mkv i) hvs (by rw [List.getElem?_replicate, if_pos hjn])
                  rw [HMK.out] at dj
                  simp only at e2
                  cases e2
                  have hjI : (j : Int) < (pn : Int) := by omega
                  have hj0 : (0 : Int) ≤ (j : Int) := by omega
                  have wj := wq (j : Int) hj0 (by have h : pn ≤ 140737488355200 := HPB.out.2.2; omega)
                  have HE := hide hjn
                  clear hvs hjn hj
                  go_wp2_with fail
                  try rw [wj]
                  exact ⟨⟨j + 1, by go_num, sq HE.out, HJ⟩, mq HE.out⟩
                · have hge : ¬ (j : Int) < (pn : Int) := by omega
                  have hwi := HM.out
                  clear hj hjn
                  go_wp2_with fail
                  try rw [hwi]
                  exact ⟨⟨i + 1, by go_num, sq HPB.out.1, HJ⟩, mq HPB.out.1⟩
            · obtain rfl : i = q := by omega
              have hnl : ¬ (i : Int) < (i : Int) := by omega
              have H7 : Hid (Kp (Spn ⟨ua, i, uc⟩ L) w wr ∧ ∃ l, wr.ownsRow 0 78 2 (.slice ua i uc) i l) := hide ⟨HI.out.kp, _, HI.out.row⟩
              clear HI hi hlt
              go_wp2_with fail
              generalize wr = we at *
              clear hnl
              go_loopw [10] (fun it wr => ∃ q : Nat, it = .int .i64 (q : Int) ∧ q ≤ i ∧ Hid (Kp (Spn ⟨ua, i, uc⟩ L) w wr ∧ ∃ l, wr.ownsRow 0 78 2 (.slice ua i uc) i l)) (fun it _ => i - (intOf it).toNat)
              case atStart => exact ⟨0, rfl, Nat.zero_le _, H7⟩
              case round =>
                clear H7
                obtain ⟨q, rfl, hq, HI⟩ := hrel
                by_cases hlt : q < i
                · obtain ⟨kw, l, ho⟩ := HI.out
                  have hll := ho.1
                  obtain ⟨a, ha⟩ : ∃ a, l[q * 2]? = some a := ⟨_, List.getElem?_eq_getElem (by omega)⟩
                  obtain ⟨b, hb⟩ : ∃ b, l[q * 2 + 1]? = some b := ⟨_, List.getElem?_eq_getElem (by omega)⟩
                  obtain ⟨r, cap, e, _, d0, d1⟩ := pair_at ho ha hb
                  cases e
                  obtain ⟨cur, hcur⟩ := own_obj ho (show _ = some r from rfl)
                  have f0 := free3 hcur (q * 2)
                  have f1 := free3 hcur (q * 2 + 1)
                  have hltI : (q : Int) < (i : Int) := by omega
                  have hi00 : (0 : Int) ≤ (q : Int) := by omega
                  have hwi := wq (q : Int) hi00 (by have := HH.out.2.2.2; omega)
                  have HE := hide hlt
                  have H8 : Hid (Kp (Spn ⟨some ⟨r, 0, none⟩, i, uc⟩ L) w ((wr.setCell ⟨r, q * 2, none⟩ (.int .u64 4711)).setCell ⟨r, q * 2 + 1, none⟩ (.slice none 0 0)) ∧ ∃ l, ((wr.setCell ⟨r, q * 2, none⟩ (.int .u64 4711)).setCell ⟨r, q * 2 + 1, none⟩ (.slice none 0 0)).ownsRow 0 78 2 (.slice (some ⟨r, 0, none⟩) i uc) i l) := hide
                    ⟨(kw.trans (Kp.setCell _ _ _) (fun x _ e => by have e : x = r := e; rw [e]; exact Spn.row)).trans (Kp.setCell _ _ _) (fun x _ e => by have e : x = r := e; rw [e]; exact Spn.row), _, own_setk (own_setk ho _) _⟩
                  clear kw ho hll ha hb hcur hlt hq
                  go_wp2_with fail
                  rw [hwi]
                  exact ⟨⟨q + 1, by go_num, sq HE.out, H8⟩, mq HE.out⟩
                · obtain rfl : q = i := by omega
                  have hnl : ¬ (q : Int) < (q : Int) := by omega
                  have H9 : Hid (Sr w ⟨ua, q, uc⟩ L wr (.slice ua q uc) (q + 0)) := hide ⟨HI.out.1, HI.out.2, fun g hg => .inl hg⟩
                  clear HI hq hlt
                  go_wp2_with fail
                  generalize wr = wf at *
                  clear hnl
                  go_loopw [11, 0] (fun it s0 wr => ∃ (i : Nat) (va : Value), it = .int .i64 (i : Int) ∧ va = s0 ∧ i ≤ 4 ∧ Hid (Sr w ⟨ua, q, uc⟩ L wr va (q + i))) (fun it _ _ => 4 - (intOf it).toNat)
                  case atStart => exact ⟨0, _, rfl, rfl, by omega, H9⟩
                  case round =>
                    clear H9
                    obtain ⟨i, va, rfl, rfl, hi, HI⟩ := hrel
                    by_cases hlt : i < 4
                    · obtain ⟨l', ho⟩ := HI.out.ow
                      have kA := Kp.alloc wr (.cells #[.int .u64 4712, .slice none 0 0] 78) Nu
                      have oA : (wr.alloc (.cells #[.int .u64 4712, .slice none 0 0] 78)).ownsRow 0 78 2 va (q + i) l' := own_keep ho (fun q hq => kA.block q (own_lt ho hq) (fun h => h))
                      have hltI : (i : Int) < 4 := by omega
                      have hi0 : (0 : Int) ≤ (i : Int) := by omega
                      have w1 := wq (i : Int) hi0 (by omega)
                      have HA := hide (And.intro oA hlt)
                      have HBd : Hid (q + i + 1 ≤ maxLen ∧ (q + i + 1) * 32 ≤ 140737488355328) := hide (by
                        have h := HH.out.2.2.2
                        unfold maxLen
                        omega)
                      clear ho oA kA hi hlt
                      go_wp2_with (at_builtin; refine wpList_append_lies _ rfl (.tmp 98) (.tmp 100) 68 rfl 0 78 i78 _ 2 32 Try.underlying68 hi78 hx0 hx1 hx2 rfl (by decide) va (q + i) l' rfl HA.out.1 ⟨wr.heap.size, 0, none⟩ 1 1 [.int .u64 4712, .slice none 0 0] rfl rfl (cells_two_new wr _ _ 78) (by simp [Value.oneCell']) (by decide) HBd.out.1 HBd.out.2 (Nat.zero_le _) (wr.heap.size + 1) (World.size_alloc _ _) ?_; intro g2 gcap w4 ho hg hgat hglt; have hW := hide (HI.out.app ho hg hgat); clear ho hg hgat hglt)
                      try rw [w1]
                      exact ⟨⟨i + 1, _, by go_num, rfl, by have := HA.out.2; omega, hW⟩, mq HA.out.2⟩
                    · obtain rfl : i = 4 := by omega
                      have HK := hide HI.out.kp
                      clear HI hi hlt
                      go_wp2_with fail
                      go_ret
                      exact ⟨rfl, HK.out⟩
end Go.Proofs.Ytchealdgncgjoaa.StU
