import Derived.Test.YtchealdgncgjoaaRsJ
import Derived.BigQuiet
import Derived.Deep.QuietTactic
import Derived.Test.YtchealdgncgjoaaRtB
namespace Go.Proofs.Ytchealdgncgjoaa.StU
open Go.RowKit Go.Proofs.Ytchealdgncgjoaa.St Go.Shelf
set_option linter.unusedVariables false
theorem ris_at {k : Int} : ∀ {M : List KV} {i : Nat} {m : KV}, Ris M → M[i]? = some m → (i < pl k M ↔ m.1 < k)
  | [], i, m, _, h => by simp at h
  | a :: M, i, m, hr, h => by
    obtain ⟨h1, h2⟩ := List.pairwise_cons.1 hr
    by_cases ha : a.1 < k
    · have e : pl k (a :: M) = pl k M + 1 := by simp [pl, ha]
      rw [e]
      cases i with
      | zero => simp at h; subst h; simp [ha]
      | succ i => have := ris_at (k := k) h2 (i := i) (m := m) (by simpa using h); omega
    · have e : pl k (a :: M) = 0 := by
        unfold pl
        refine List.countP_eq_zero.2 (fun y hy => ?_)
        rcases List.mem_cons.1 hy with rfl | hy
        · simpa using ha
        · have := h1 y hy; simp; omega
      rw [e]
      have hm : ¬ m.1 < k := by
        cases i with
        | zero => simp at h; subst h; exact ha
        | succ i => have := h1 m (List.mem_of_getElem? (by simpa using h)); omega
      omega
def Pn (L : List (Int × Sv)) (x : Int × Sv) (L' : List (Int × Sv)) : Prop := ∀ p ∈ L', p ∈ L ∨ p = x
/-- what put has laid ahead of place i -/
def insM (k : Int) (ys : List Int) (M : List KV) (i : Nat) : List KV := if pl k M < i then M.take (pl k M) ++ (k, ys) :: (M.drop (pl k M)).take (i - pl k M) else M.take i
theorem insM_lo {k : Int} {ys : List Int} {M : List KV} {i : Nat} {m : KV} (hm : M[i]? = some m) (h : i < pl k M) : insM k ys M (i + 1) = insM k ys M i ++ [m] := by
  unfold insM
  rw [if_neg (by omega), if_neg (by omega), List.take_add_one, hm]; rfl
theorem insM_at {k : Int} {ys : List Int} {M : List KV} {i : Nat} {m : KV} (hm : M[i]? = some m) (h : i = pl k M) : insM k ys M (i + 1) = (insM k ys M i ++ [(k, ys)]) ++ [m] := by
  subst h
  unfold insM
  rw [if_pos (by omega), if_neg (by omega), show pl k M + 1 - pl k M = 1 by omega]
  have e : (M.drop (pl k M)).take 1 = [m] := by
    rw [show (1 : Nat) = 0 + 1 by rfl, List.take_add_one, List.getElem?_drop]
    simp [hm]
  rw [e]
  simp
theorem insM_hi {k : Int} {ys : List Int} {M : List KV} {i : Nat} {m : KV} (hm : M[i]? = some m) (h : pl k M < i) : insM k ys M (i + 1) = insM k ys M i ++ [m] := by
  unfold insM
  rw [if_pos (by omega), if_pos (by omega), show i + 1 - pl k M = (i - pl k M) + 1 by omega, List.take_add_one, List.getElem?_drop, show pl k M + (i - pl k M) = i by omega, hm]
  simp
theorem insM_end1 {k : Int} {ys : List Int} {M : List KV} (hk : hs k M = false) (h : pl k M < M.length) : insM k ys M M.length = putM k ys M := by
  unfold insM putM
  rw [if_pos h, if_neg (by rw [hk]; simp), List.take_of_length_le (l := M.drop (pl k M)) (by rw [List.length_drop]; exact Nat.le_refl _)]
theorem insM_end2 {k : Int} {ys : List Int} {M : List KV} (hk : hs k M = false) (h : pl k M = M.length) : insM k ys M M.length ++ [(k, ys)] = putM k ys M := by
  unfold insM putM
  rw [if_neg (by omega), if_neg (by rw [hk]; simp), h, List.take_length, List.drop_length]
theorem insM_len (k : Int) (ys : List Int) (M : List KV) (i : Nat) : (insM k ys M i).length ≤ i + 1 := by
  unfold insM
  split
  · simp; omega
  · simp; omega
theorem ne_key {k : Int} {M : List KV} (hk : hs k M = false) {m : KV} (hm : m ∈ M) : m.1 ≠ k := by
  unfold hs at hk
  simpa using List.any_eq_false.1 hk m hm
set_option maxRecDepth 100000 in
set_option maxHeartbeats 4000000 in
theorem put185 {w : World} {rb : Nat} {most : Int} {v : Sv} {L : List (Int × Sv)} {M : List KV} (h : Rs w rb most v L M) (k : Int) (q : Sv) (ys : List Int) (hq : FV w (k, q) (k, ys)) (hk : hs k M = false) (hroom : (M.length : Int) < most) :
    Calls Try.prog 185 #[.pointer (some ⟨rb, 0, none⟩), .agg #[.int .u64 k, .slice q.a q.n q.c]] w fun e w' => (∃ x, e = .returned x) ∧ Hid (∃ v' L', Rs w' rb most v' L' (putM k ys M) ∧ Pn L (k, q) L' ∧ (∀ g, (sl v').ownBlock = some g → w.heap.size ≤ g)) ∧ Kp (fun i => i = rb) w w' := by
  have mixed : Try.prog.follows .mixedOrders = true := by kernel_rfl
  have hn := h.n
  obtain ⟨N, eN⟩ : ∃ N, M.length = N := ⟨_, rfl⟩
  have hN : N ≤ 32768 := by have := h.lm; have := h.mo; omega
  rw [eN] at hn hroom
  obtain ⟨va, vn, vc⟩ := v
  simp only at hn
  subst hn
  obtain ⟨qa, qn, qc⟩ := q
  obtain ⟨P, eP⟩ : ∃ P, pl k M = P := ⟨_, rfl⟩
  have HR : Hid (∀ i m, M[i]? = some m → m.1 ≠ k ∧ (i < P ↔ m.1 < k)) := hide (fun i m hm => ⟨ne_key hk (List.mem_of_getElem? hm), by rw [← eP]; exact ris_at h.ris hm⟩)
  have hPN : P ≤ vn := by have := pl_le k M; omega
  have HH := hide (And.intro h (And.intro eN (And.intro hN (And.intro hq (And.intro hk (And.intro hroom (And.intro eP hPN)))))))
  have HC : Hid (∀ W, Kp Nu w W → W.cell? ⟨rb, 1, none⟩ = some (.slice va vn vc) ∧ W.frozen? ⟨rb, 1, none⟩ = false) := hide (fun W q => ⟨(cell2 (h.nu q).box).2, free3 (h.nu q).box 1⟩)
  have kB := Kp.alloc w (.cells #[.int .u64 k, .slice qa qn qc] 196) Nu
  have HX := hide (heap_alloc_new w (.cells #[.int .u64 k, .slice qa qn qc] 196))
  clear h eN hN hq hk hroom eP hPN
  obtain ⟨i1, hi0, hz0, hz1, hz2⟩ := info_parts info196
  go_enter Try.func185, Try.ntmps185
  go_wp2_with fail
  generalize eW : w.alloc (.cells #[.int .u64 k, .slice qa qn qc] 196) = W1 at *
  have HXb : Hid (∀ W, Kp Nu W1 W → W.cell? ⟨w.heap.size, 0, none⟩ = some (.int .u64 k) ∧ W.cell? ⟨w.heap.size, 1, none⟩ = some (.slice qa qn qc) ∧ W.cell? ⟨w.heap.size, 0 + 1, none⟩ = some (.slice qa qn qc)) := hide (fun W kk => by
    have hb := (kk.block _ (blk_lt HX.out) (fun e => e)).trans HX.out
    exact ⟨(cell2 hb).1, (cell2 hb).2, (cell2 hb).2⟩)
  have HB := hide kB
  have HS1 : Hid (w.heap.size ≤ W1.heap.size) := hide kB.size
  clear kB eW HX
  go_loopw [4, 5, 6] (fun lv bv it wr => ∃ (i : Nat) (u : Sv), it = .int .i64 (i : Int) ∧ lv = .slice u.a u.n u.c ∧ bv = .bool (decide (P < i)) ∧ i ≤ vn ∧ Hid (∃ L', Cw wr W1.heap.size u L' (insM k ys M i) ∧ Kp Nu W1 wr ∧ Pn L (k, ⟨qa, qn, qc⟩) L')) (fun _ _ it _ => vn - (intOf it).toNat)
  case atStart => exact ⟨0, ⟨none, 0, 0⟩, rfl, rfl, rfl, Nat.zero_le _, [], ⟨own_nil', by simp [insM, F2], rfl⟩, Kp.refl _ _, fun p hp => by cases hp⟩
  case round =>
    obtain ⟨i, ⟨xa, xn, xc⟩, rfl, rfl, rfl, hiv, HI⟩ := hrel
    obtain ⟨L', hcw, kw1, hmem⟩ := HI.out
    have kw := HB.out.andNu kw1
    by_cases hlt : i < vn
    · obtain ⟨m, hm⟩ : ∃ m, M[i]? = some m := ⟨_, List.getElem?_eq_getElem (by rw [HH.out.2.1]; exact hlt)⟩
      obtain ⟨p, r, hp, hf, er, d0, d1⟩ := (HH.out.1.nu kw).at_ hm
      simp only at er
      subst er
      have hltI : (i : Int) < (vn : Int) := by omega
      have hi00 : (0 : Int) ≤ (i : Int) := by omega
      have hwi : wrap64 ((i : Int) + 1) = ((i + 1 : Nat) : Int) := by have := HH.out.2.2.1; unfold wrap64; omega
      have HXN : Hid (xn ≤ 32769 ∧ xn = L'.length) := by
        have h1 := insM_len k ys M i
        have h2 := hcw.f.length
        have h3 : xn = L'.length := hcw.n
        have h4 := HH.out.2.2.1
        refine ⟨?_, h3⟩
        omega
      have hpk : p.1 = m.1 := hf.1
      obtain ⟨pk, ⟨pa, pn, pcc⟩⟩ := p
      simp only at d1 hpk
      subst hpk
      have HD : Hid (∀ W, Kp Nu W1 W → W.cell? ⟨rb, 1, none⟩ = some (.slice (some ⟨r, 0, none⟩) vn vc) ∧ W.cell? ⟨r, i * 2, none⟩ = some (.int .u64 m.1) ∧ W.cell? ⟨r, i * 2 + 1, none⟩ = some (.slice pa pn pcc)) := hide (fun W kk => by
        obtain ⟨p', r', hp', _, er', e0, e1⟩ := (HH.out.1.nu (HB.out.andNu kk)).at_ hm
        rw [hp] at hp'; cases hp'; cases er'
        exact ⟨(HC.out W (HB.out.andNu kk)).1, e0, e1⟩)
      have HO : Hid (∀ W, Kp Nu wr W → W.ownsRow W1.heap.size 196 2 (.slice xa xn xc) xn (pc L')) := hide (fun W k => (hcw.nu k).own)
      obtain ⟨hne, hiff⟩ := HR.out i m hm
      have HW := hide (And.intro hlt (And.intro hwi (And.intro hm (And.intro hcw (And.intro kw1 (And.intro hf (And.intro hmem (And.intro (List.mem_of_getElem? hp) hp))))))))
      obtain ⟨c0, c1, c2⟩ := HD.out wr kw1
      obtain ⟨b0, b1, b2⟩ := HXb.out wr kw1
      have HWR : Hid (∀ n, Kp Nu wr (wr.drewN n)) := hide (fun n => kpN (Kp.refl _ _) n)
      obtain ⟨mk, my⟩ := m
      simp only at d0 hne hiff c1 HD
      by_cases hP : P < i
      · have hd : decide (P < i) = true := decide_eq_true hP
        have HPi := hide hP
        have hge : decide (P < i + 1) = true := decide_eq_true (by omega)
        have HG := hide hge
        rw [hd]
        clear hm hp hf hcw hwi hlt hiv HI kw kw1 hmem d0 d1 hiff hne hd hP hge
        go_wp2_with fail
        go_quiet (fail)
        clear mixed c0 c1 c2 b0 b1 b2
        have kz := HWR.out nq
        generalize wr.drewN nq = wz at *
        obtain ⟨c0, c1, c2⟩ := HD.out wz (HW.out.2.2.2.2.1.andNu kz)
        have HK := hide kz
        clear kz
        go_wp2_with (at_builtin; refine wpList_append_own _ rfl _ _ 123 rfl W1.heap.size 196 i1 _ 2 32 Try.underlying123 hi0 hz0 hz1 hz2 rfl (by decide) _ xn _ rfl (HO.out _ (HK.out.andNu (Kp.alloc _ _ _))) ⟨wz.heap.size, 0, none⟩ 1 1 [.int .u64 mk, .slice pa pn pcc] rfl ?qc1a ?qc2a ?qc3a ?qc4a ?qc5a ?qc6a ?_)
        case qc1a => rfl
        case qc2a => exact cells_two_new _ _ _ _
        case qc3a => intro x hx; simp at hx; rcases hx with rfl | rfl <;> rfl
        case qc4a => have := HXN.out; unfold maxLen; omega
        case qc5a => have := HXN.out; omega
        case qc6a => have := (HW.out.2.2.2.2.1.andNu HK.out).size; simp; omega
        intro v' w6 hown hgrow hnil
        obtain ⟨av, cv, ev⟩ := own_slice hown
        subst ev
        have HF : Hid (∃ L', Cw w6 W1.heap.size ⟨av, xn + 1, cv⟩ L' (insM k ys M (i + 1)) ∧ Kp Nu W1 w6 ∧ Pn L (k, ⟨qa, qn, qc⟩) L') := by
          obtain ⟨_, _, hm, hcw, kw1, hf, hmem, hml, hp0⟩ := HW.out
          have h1 := Cw.app (u' := ⟨av, xn + 1, cv⟩) (hcw.nu HK.out) (hf.keep HK.out (fun _ _ hs => hs.elim)) (kw1.andNu HK.out) hown hgrow
          rw [insM_hi hm (by rw [HH.out.2.2.2.2.2.2.1]; exact HPi.out)]
          refine ⟨_, h1.1, h1.2, fun p hp => ?_⟩
          rcases List.mem_append.1 hp with hp | hp
          · exact hmem p hp
          · rw [List.mem_singleton.1 hp]; exact .inl hml
        clear hown hgrow hnil HO c0 c1 c2
        go_wp2
        exact ⟨⟨i + 1, ⟨av, xn + 1, cv⟩, by rw [HW.out.2.1], rfl, by rw [HG.out], HW.out.1, HF⟩, lt_mi HW.out.2.1 HW.out.1⟩
      · have hd : decide (P < i) = false := decide_eq_false hP
        by_cases hPi : P = i
        · have hgt : decide (k < mk) = true := decide_eq_true (by omega)
          have hgt2 : k < mk := by omega
          have HPi := hide hPi
          have hge : decide (P < i + 1) = true := decide_eq_true (by omega)
          have HG := hide hge
          rw [hd]
          clear hm hp hf hcw hwi hlt hiv HI kw kw1 hmem d0 d1 hiff hne hd hP hge hPi
          go_wp2_with fail
          go_quiet (fail)
          clear mixed c0 c1 c2 b0 b1 b2
          have kz := HWR.out nq
          generalize wr.drewN nq = wz at *
          obtain ⟨c0, c1, c2⟩ := HD.out wz (HW.out.2.2.2.2.1.andNu kz)
          obtain ⟨b0, b1, b2⟩ := HXb.out wz (HW.out.2.2.2.2.1.andNu kz)
          have HK := hide kz
          clear kz c0 c1 c2
          go_wp2_with (at_builtin; refine wpList_append_own _ rfl _ _ 123 rfl W1.heap.size 196 i1 _ 2 32 Try.underlying123 hi0 hz0 hz1 hz2 rfl (by decide) _ xn _ rfl (HO.out _ (HK.out.andNu (Kp.alloc _ _ _))) ⟨wz.heap.size, 0, none⟩ 1 1 [.int .u64 k, .slice qa qn qc] rfl ?qc1b ?qc2b ?qc3b ?qc4b ?qc5b ?qc6b ?_)
          case qc1b => rfl
          case qc2b => exact cells_two_new _ _ _ _
          case qc3b => intro x hx; simp at hx; rcases hx with rfl | rfl <;> rfl
          case qc4b => have := HXN.out; unfold maxLen; omega
          case qc5b => have := HXN.out; omega
          case qc6b => have := (HW.out.2.2.2.2.1.andNu HK.out).size; simp; omega
          intro v' w5 hown hgrow hnil
          obtain ⟨av, cv, ev⟩ := own_slice hown
          subst ev
          have H5 : Hid (Cw w5 W1.heap.size ⟨av, xn + 1, cv⟩ (L' ++ [(k, ⟨qa, qn, qc⟩)]) (insM k ys M i ++ [(k, ys)]) ∧ Kp Nu W1 w5) := by
            obtain ⟨_, _, hm, hcw, kw1, hf, hmem, hml, hp0⟩ := HW.out
            exact Cw.app (p := (k, ⟨qa, qn, qc⟩)) (m := (k, ys)) (u' := ⟨av, xn + 1, cv⟩) (hcw.nu HK.out) (HH.out.2.2.2.1.keep (HB.out.andNu (kw1.andNu HK.out)) (fun _ _ hs => hs.elim)) (kw1.andNu HK.out) hown hgrow
          obtain ⟨c0, c1, c2⟩ := HD.out w5 H5.out.2
          have HO5 : Hid (∀ W, Kp Nu w5 W → W.ownsRow W1.heap.size 196 2 (.slice av (xn + 1) cv) (xn + 1) (pc (L' ++ [(k, ⟨qa, qn, qc⟩)]))) := hide (fun W k => (H5.out.1.nu k).own)
          clear hown hgrow hnil HO b0 b1 b2
          go_wp2_with (at_builtin; refine wpList_append_own _ rfl _ _ 123 rfl W1.heap.size 196 i1 _ 2 32 Try.underlying123 hi0 hz0 hz1 hz2 rfl (by decide) _ (xn + 1) _ rfl (HO5.out _ (Kp.alloc _ _ _)) ⟨w5.heap.size, 0, none⟩ 1 1 [.int .u64 mk, .slice pa pn pcc] rfl ?qc1c ?qc2c ?qc3c ?qc4c ?qc5c ?qc6c ?_)
          case qc1c => rfl
          case qc2c => exact cells_two_new _ _ _ _
          case qc3c => intro x hx; simp at hx; rcases hx with rfl | rfl <;> rfl
          case qc4c => have := HXN.out; unfold maxLen; omega
          case qc5c => have := HXN.out; omega
          case qc6c => have := H5.out.2.size; simp; omega
          intro v' w6 hown hgrow hnil
          obtain ⟨av, cv, ev⟩ := own_slice hown
          subst ev
          have HF : Hid (∃ L', Cw w6 W1.heap.size ⟨av, xn + 1 + 1, cv⟩ L' (insM k ys M (i + 1)) ∧ Kp Nu W1 w6 ∧ Pn L (k, ⟨qa, qn, qc⟩) L') := by
            obtain ⟨_, _, hm, hcw, kw1, hf, hmem, hml, hp0⟩ := HW.out
            have kw5 : Kp Nu w w5 := HB.out.andNu H5.out.2
            obtain ⟨p', r', hp', hf5, _, _, _⟩ := (HH.out.1.nu kw5).at_ hm
            rw [hp0] at hp'; cases hp'
            have h1 := Cw.app (u' := ⟨av, xn + 1 + 1, cv⟩) H5.out.1 hf5 H5.out.2 hown hgrow
            rw [insM_at hm (by rw [HH.out.2.2.2.2.2.2.1]; exact HPi.out.symm)]
            refine ⟨_, h1.1, h1.2, fun p hp => ?_⟩
            rcases List.mem_append.1 hp with hp | hp
            · rcases List.mem_append.1 hp with hp | hp
              · exact hmem p hp
              · rw [List.mem_singleton.1 hp]; exact .inr rfl
            · rw [List.mem_singleton.1 hp]; exact .inl hml
          clear hown hgrow hnil HO5 c0 c1 c2
          go_wp2
          exact ⟨⟨i + 1, ⟨av, xn + 1 + 1, cv⟩, by rw [HW.out.2.1], rfl, by rw [HG.out], HW.out.1, HF⟩, lt_mi HW.out.2.1 HW.out.1⟩
        · have hgt : decide (k < mk) = false := decide_eq_false (by omega)
          have HPi : Hid (i < P) := hide (by omega)
          have hge : decide (P < i + 1) = false := decide_eq_false (by omega)
          have HG := hide hge
          rw [hd]
          clear hm hp hf hcw hwi hlt hiv HI kw kw1 hmem d0 d1 hiff hne hd hP hge hPi
          go_wp2_with fail
          go_quiet (fail)
          clear mixed c0 c1 c2 b0 b1 b2
          have kz := HWR.out nq
          generalize wr.drewN nq = wz at *
          obtain ⟨c0, c1, c2⟩ := HD.out wz (HW.out.2.2.2.2.1.andNu kz)
          have HK := hide kz
          clear kz
          go_wp2_with (at_builtin; refine wpList_append_own _ rfl _ _ 123 rfl W1.heap.size 196 i1 _ 2 32 Try.underlying123 hi0 hz0 hz1 hz2 rfl (by decide) _ xn _ rfl (HO.out _ (HK.out.andNu (Kp.alloc _ _ _))) ⟨wz.heap.size, 0, none⟩ 1 1 [.int .u64 mk, .slice pa pn pcc] rfl ?qc1d ?qc2d ?qc3d ?qc4d ?qc5d ?qc6d ?_)
          case qc1d => rfl
          case qc2d => exact cells_two_new _ _ _ _
          case qc3d => intro x hx; simp at hx; rcases hx with rfl | rfl <;> rfl
          case qc4d => have := HXN.out; unfold maxLen; omega
          case qc5d => have := HXN.out; omega
          case qc6d => have := (HW.out.2.2.2.2.1.andNu HK.out).size; simp; omega
          intro v' w6 hown hgrow hnil
          obtain ⟨av, cv, ev⟩ := own_slice hown
          subst ev
          have HF : Hid (∃ L', Cw w6 W1.heap.size ⟨av, xn + 1, cv⟩ L' (insM k ys M (i + 1)) ∧ Kp Nu W1 w6 ∧ Pn L (k, ⟨qa, qn, qc⟩) L') := by
            obtain ⟨_, _, hm, hcw, kw1, hf, hmem, hml, hp0⟩ := HW.out
            have h1 := Cw.app (u' := ⟨av, xn + 1, cv⟩) (hcw.nu HK.out) (hf.keep HK.out (fun _ _ hs => hs.elim)) (kw1.andNu HK.out) hown hgrow
            rw [insM_lo hm (by rw [HH.out.2.2.2.2.2.2.1]; exact HPi.out)]
            refine ⟨_, h1.1, h1.2, fun p hp => ?_⟩
            rcases List.mem_append.1 hp with hp | hp
            · exact hmem p hp
            · rw [List.mem_singleton.1 hp]; exact .inl hml
          clear hown hgrow hnil HO c0 c1 c2
          go_wp2
          exact ⟨⟨i + 1, ⟨av, xn + 1, cv⟩, by rw [HW.out.2.1], rfl, by rw [HG.out], HW.out.1, HF⟩, lt_mi HW.out.2.1 HW.out.1⟩
    · obtain rfl : i = vn := by omega
      have hnl : ¬ (i : Int) < (i : Int) := by omega
      clear mixed
      have FIN : ∀ (W : World) (u : Sv) (L2 : List (Int × Sv)), Kp Nu W1 W → Cw W W1.heap.size u L2 (putM k ys M) → Pn L (k, ⟨qa, qn, qc⟩) L2 →
          Hid ((∃ v' L', Rs (W.setCell ⟨rb, 1, none⟩ (.slice u.a u.n u.c)) rb most v' L' (putM k ys M) ∧ Pn L (k, ⟨qa, qn, qc⟩) L' ∧ (∀ g, (sl v').ownBlock = some g → w.heap.size ≤ g)) ∧ Kp (fun i => i = rb) w (W.setCell ⟨rb, 1, none⟩ (.slice u.a u.n u.c))) := fun W u L2 k1 hc hm2 => by
        have k2 := HB.out.andNu k1
        have hs := HH.out.1.nu k2
        have hl := putM_length k ys M
        rw [HH.out.2.2.2.2.1] at hl
        refine ⟨⟨u, L2, ?_, hm2, fun g hg => Nat.le_trans HS1.out (row196_low hc.own hg)⟩, (k2.mono (fun _ _ e => e.elim)).trans (Kp.setCell _ _ _) (fun _ _ e => e)⟩
        refine Rs.set (w := W1) hs hc (ris_put hs.ris k ys) ?_
        have h1 := HH.out.2.2.2.2.2.1
        have h2 := HH.out.2.1
        rw [hl]; simp; omega
      have FI := hide FIN
      by_cases hP : P < i
      · have hd : decide (P < i) = true := decide_eq_true hP
        have HZ := FIN wr ⟨xa, xn, xc⟩ L' kw1 (by
          have e := insM_end1 (ys := ys) HH.out.2.2.2.2.1 (by rw [HH.out.2.1, HH.out.2.2.2.2.2.2.1]; exact hP)
          rw [← e, HH.out.2.1]; exact hcw) hmem
        obtain ⟨_, fz⟩ := HC.out wr kw
        rw [hd]
        clear FIN FI hcw kw kw1 HI hiv hlt hmem hd hP
        go_wp2
        go_end0
        exact ⟨⟨_, rfl⟩, HZ.out.1, HZ.out.2⟩
      · have hd : decide (P < i) = false := decide_eq_false hP
        have HXN : Hid (xn ≤ 32769) := by
          have h1 := insM_len k ys M i
          have h2 := hcw.f.length
          have h3 : xn = L'.length := hcw.n
          have h4 := HH.out.2.2.1
          show xn ≤ 32769
          omega
        have HO : Hid (∀ W, Kp Nu wr W → W.ownsRow W1.heap.size 196 2 (.slice xa xn xc) xn (pc L')) := hide (fun W k => (hcw.nu k).own)
        have HW := hide (And.intro hcw (And.intro kw1 (And.intro hmem hP)))
        obtain ⟨b0, b1, b2⟩ := HXb.out wr kw1
        have cX := (HC.out wr kw).1
        rw [hd]
        clear FIN hcw kw kw1 HI hiv hlt hmem hd hP
        go_wp2_with (at_builtin; refine wpList_append_own _ rfl _ _ 123 rfl W1.heap.size 196 i1 _ 2 32 Try.underlying123 hi0 hz0 hz1 hz2 rfl (by decide) _ xn _ rfl (HO.out _ (Kp.alloc _ _ _)) ⟨wr.heap.size, 0, none⟩ 1 1 [.int .u64 k, .slice qa qn qc] rfl ?qc1e ?qc2e ?qc3e ?qc4e ?qc5e ?qc6e ?_)
        case qc3e => exact ⟨rfl, rfl⟩
        case qc4e => have := HXN.out; unfold maxLen; omega
        case qc5e => have := HXN.out; omega
        case qc6e => have := HW.out.2.1.size; omega
        intro v' w6 hown hgrow hnil
        obtain ⟨av, cv, ev⟩ := own_slice hown
        subst ev
        obtain ⟨H6, k6⟩ : Hid (Cw w6 W1.heap.size ⟨av, xn + 1, cv⟩ (L' ++ [(k, ⟨qa, qn, qc⟩)]) (putM k ys M)) ∧ Kp Nu W1 w6 := by
          obtain ⟨hcw, kw1, hmem, hP⟩ := HW.out
          have h1 := Cw.app (p := (k, ⟨qa, qn, qc⟩)) (m := (k, ys)) (u' := ⟨av, xn + 1, cv⟩) hcw (HH.out.2.2.2.1.keep (HB.out.andNu kw1) (fun _ _ hs => hs.elim)) kw1 hown hgrow
          have e := insM_end2 (ys := ys) HH.out.2.2.2.2.1 (by rw [HH.out.2.1, HH.out.2.2.2.2.2.2.1]; have := HH.out.2.2.2.2.2.2.2; omega)
          rw [HH.out.2.1] at e
          rw [e] at h1
          exact ⟨h1.1, h1.2⟩
        have HZ := FI.out w6 ⟨av, xn + 1, cv⟩ _ k6 H6.out (fun p hp => by
          rcases List.mem_append.1 hp with hp | hp
          · exact HW.out.2.2.1 p hp
          · rw [List.mem_singleton.1 hp]; exact .inr rfl)
        obtain ⟨_, fz⟩ := HC.out w6 (HB.out.andNu k6)
        clear hown hgrow hnil HO b0 b1 b2 FI k6 cX
        go_wp2
        go_end0
        exact ⟨⟨_, rfl⟩, HZ.out.1, HZ.out.2⟩
end Go.Proofs.Ytchealdgncgjoaa.StU
namespace Go.Proofs.Ytchealdgncgjoaa.StU
open Go.RowKit Go.Proofs.Ytchealdgncgjoaa.St Go.Shelf
set_option linter.unusedVariables false
set_option maxRecDepth 100000 in
set_option maxHeartbeats 2000000 in
theorem set_inv137 {w : World} {rb : Nat} {most : Int} {v : Sv} {L : List (Int × Sv)} {M : List KV} (h : Rs w rb most v L M) (k : Int) (u : Value) (ys : List Int) (hu : Rd w u ys) (hy : ys.length ≤ 64) (hby : Byt ys) (hk : hs k M = true) : Calls Try.prog 137 #[.pointer (some ⟨rb, 0, none⟩), .int .u64 k, u] w fun e w' => e = .returned (.tuple #[.bool false, .int .i64 0]) ∧ Hid ((∃ i q, Rs w' rb most v (L.set i (k, q)) (putM k ys M) ∧ ∀ g, (sl q).ownBlock = some g → w.heap.size ≤ g) ∧ Kp (fun i => some i = (sl v).ownBlock) w w') := by
  have mixed : Try.prog.follows .mixedOrders = true := by kernel_rfl
  obtain ⟨m, hm, em, gm⟩ := h.ris.at_key hk
  obtain ⟨i, hi⟩ := List.mem_iff_getElem?.1 hm
  have hpl := h.ris.pl hi
  rw [em] at hpl
  have FA := find183 h k (i : Int) (by rw [hk, hpl]; rfl)
  obtain ⟨p, r, hp, hf, er, d0, d1⟩ := h.at_ hi
  have hn := h.n
  obtain ⟨va, vn, vc⟩ := v
  simp only at er hn
  subst er
  obtain ⟨ad, cap, rfl⟩ := hu.slice
  have hlt : i < vn := by rw [hn]; exact (List.getElem?_eq_some_iff.1 hi).1
  obtain ⟨cur, hcur⟩ := own_obj h.own (show (Value.slice (some ⟨r, 0, none⟩) vn vc).ownBlock = some r from rfl)
  have hne : rb ≠ r := fun e => by have := h.box; rw [e, hcur] at this; cases this
  have hb1 := hf.2.2.2.1
  have hb2 := hf.2.2.2.2.1
  rw [em] at hb1 hb2
  have HD : Hid (∀ W, Kp Nu w W → W.cell? ⟨rb, 1, none⟩ = some (.slice (some ⟨r, 0, none⟩) vn vc) ∧ W.cell? ⟨r, i * 2 + 1, none⟩ = some (.slice p.2.a p.2.n p.2.c) ∧ W.frozen? ⟨r, i * 2 + 1, none⟩ = false) := hide (fun W q => ⟨(cell2 (h.nu q).box).2, cell_nu d1 q, free3 ((q.block r (blk_lt hcur) (fun e => e)).trans hcur) _⟩)
  have HB : Hid (∀ (W : World) (x : Value), W.cell? ⟨rb, 1, none⟩ = some (.slice (some ⟨r, 0, none⟩) vn vc) → (W.setCell ⟨r, i * 2 + 1, none⟩ x).cell? ⟨rb, 1, none⟩ = some (.slice (some ⟨r, 0, none⟩) vn vc)) := hide (fun W x hc => (World.cell?_of_block (Below.heap_setCell _ ⟨r, i * 2 + 1, none⟩ _ rb hne)).trans hc)
  have CA : ∀ W, Kp Nu w W → Calls Try.prog 184 #[.slice ad ys.length cap] W fun e w' => ∃ q : Sv, e = .returned (.slice q.a q.n q.c) ∧ Hid (FV w' (k, q) (k, ys) ∧ ∀ g, (sl q).ownBlock = some g → w.heap.size ≤ g) ∧ Kp Nu w w' := fun W q => by
    refine (copied184 W _ ys (hu.nu q) (by omega)).mono ?_
    rintro e w' ⟨q', e1, e2, e3⟩
    exact ⟨q', e1, ⟨⟨rfl, own_base e2 (Nat.zero_le _), hy, hb1, hb2, hby⟩, fun g hg => Nat.le_trans q.size (row5_low e2 hg)⟩, q.andNu e3⟩
  have HP : Hid (∀ W (q : Sv), Kp Nu w W → FV W (k, q) (k, ys) → Rs (W.setCell ⟨r, i * 2 + 1, none⟩ (.slice q.a q.n q.c)) rb most ⟨some ⟨r, 0, none⟩, vn, vc⟩ (L.set i (k, q)) (putM k ys M)) := hide (fun W q kq hq => (h.nu kq).put hi em hq)
  have hltI : (i : Int) < (vn : Int) := by omega
  have hi0 : (0 : Int) ≤ (i : Int) := by omega
  have hl : ¬ (64 : Int) < (ys.length : Int) := by omega
  have k0 := Kp.refl Nu w
  generalize ys.length = yn at *
  obtain ⟨pk, ⟨pa, pn, pcc⟩⟩ := p
  clear h hm em gm hi hpl hp hf hu hy hby hk hlt hn hcur hb1 hb2 d0 d1
  obtain ⟨c0, c1, c2⟩ := HD.out _ k0
  go_enter Try.func137, Try.ntmps137
  go_wp2_with (go_at_call 183; refine FA.mono ?_; rintro e w1 ⟨rfl, hw⟩; obtain rfl := hw.symm)
  go_region_held3 (fun W => W.cell? ⟨rb, 1, none⟩ = some (.slice (some ⟨r, 0, none⟩) vn vc)) (first | exact (HD.out _ (Kp.drew k0)).1 | exact (HD.out _ k3).1 | exact HB.out _ _ (HD.out _ k3).1)
    (first | (go_at_call 184; refine (CA _ (Kp.drew k0)).mono ?_; rintro e w3 ⟨q, rfl, hq, k3⟩; obtain ⟨e0, e1, e2⟩ := HD.out _ k3))
  have HF := hide (And.intro (HP.out _ q k3 hq.out.1) hq.out.2)
  have hk3 := hide k3
  clear HP HB HD CA c0 c1 c2 e0 e1 e2 mixed
  go_wp2
  go_ret2
  exact ⟨rfl, ⟨_, _, HF.out.1, HF.out.2⟩, (hk3.out.mono (fun _ _ e => e.elim)).trans (Kp.setCell _ _ _) (fun j _ e => by have e : j = r := e; rw [e]; rfl)⟩

set_option maxRecDepth 100000 in
set_option maxHeartbeats 2000000 in
theorem set_new137 {w : World} {rb : Nat} {most : Int} {v : Sv} {L : List (Int × Sv)} {M : List KV} (h : Rs w rb most v L M) (k : Int) (hk0 : 0 ≤ k) (hk1 : k ≤ 18446744073709551615) (u : Value) (ys : List Int) (hu : Rd w u ys) (hy : ys.length ≤ 64) (hby : Byt ys) (hk : hs k M = false) (hroom : (M.length : Int) < most) : Calls Try.prog 137 #[.pointer (some ⟨rb, 0, none⟩), .int .u64 k, u] w fun e w' => e = .returned (.tuple #[.bool true, .int .i64 0]) ∧ Hid ((∃ v' L', Rs w' rb most v' L' (putM k ys M) ∧ Vn w.heap.size L L' ∧ ∀ g, (sl v').ownBlock = some g → w.heap.size ≤ g) ∧ Kp (fun i => i = rb) w w') := by
  have mixed : Try.prog.follows .mixedOrders = true := by kernel_rfl
  have FA := find183 h k (-1) (by rw [hk]; rfl)
  have c0 := (cell2 h.box).1
  have c1 := (cell2 h.box).2
  have hvn := h.n
  obtain ⟨ad, cap, rfl⟩ := hu.slice
  have CA : ∀ n, Calls Try.prog 184 #[.slice ad ys.length cap] (w.drewN n) fun e w' => ∃ q : Sv, e = .returned (.slice q.a q.n q.c) ∧ Hid (FV w' (k, q) (k, ys) ∧ ∀ g, (sl q).ownBlock = some g → w.heap.size ≤ g) ∧ Kp Nu w w' := fun n => by
    have q := kpN (Kp.refl Nu w) n
    refine (copied184 _ _ ys (hu.nu q) (by omega)).mono ?_
    rintro e w' ⟨q', e1, e2, e3⟩
    exact ⟨q', e1, ⟨⟨rfl, own_base e2 (Nat.zero_le _), hy, hk0, hk1, hby⟩, fun g hg => Nat.le_trans q.size (row5_low e2 hg)⟩, q.andNu e3⟩
  have PA : ∀ W (q : Sv), Kp Nu w W → FV W (k, q) (k, ys) ∧ (∀ g, (sl q).ownBlock = some g → w.heap.size ≤ g) → Calls Try.prog 185 #[.pointer (some ⟨rb, 0, none⟩), .agg #[.int .u64 k, .slice q.a q.n q.c]] W fun e w' => (∃ x, e = .returned x) ∧ Hid ((∃ v' L', Rs w' rb most v' L' (putM k ys M) ∧ Vn w.heap.size L L' ∧ ∀ g, (sl v').ownBlock = some g → w.heap.size ≤ g) ∧ Kp (fun i => i = rb) w w') := fun W q kq hq => by
    refine (put185 (h.nu kq) k q ys hq.1 hk hroom).mono ?_
    rintro e w' ⟨e1, e2, e3⟩
    obtain ⟨v', L', f1, f2, f3⟩ := e2.out
    refine ⟨e1, ⟨v', L', f1, fun p hp => ?_, fun g hg => Nat.le_trans kq.size (f3 g hg)⟩, (kq.mono (fun _ _ e => e.elim)).trans e3 (fun _ _ e => e)⟩
    rcases f2 p hp with h1 | rfl
    · exact .inl h1
    · exact .inr hq.2
  obtain ⟨va, vn, vc⟩ := v
  simp only at hvn c1
  have hI : ¬ (64 : Int) < (ys.length : Int) := by omega
  have hI2 : ¬ most ≤ (vn : Int) := by omega
  have hI3 : decide (most ≤ (vn : Int)) = false := decide_eq_false hI2
  generalize ys.length = yn at *
  clear h hu hy hby hk hroom hvn hk0 hk1
  go_enter Try.func137, Try.ntmps137
  go_wp2_with (go_at_call 183; refine FA.mono ?_; rintro e w1 ⟨rfl, hw⟩; obtain rfl := hw.symm)
  go_quiet (fail)
  clear mixed c0 c1
  go_wp2_with (first
    | (go_at_call 184; refine (CA nq).mono ?_; rintro e w2 ⟨q, rfl, hq, kq⟩)
    | (go_at_call 185; refine (PA _ q kq hq.out).mono ?_; rintro e w3 ⟨⟨x, rfl⟩, H3⟩))
  go_ret2
  exact ⟨rfl, H3⟩
/-- what Set answers, and what it leaves -/
def setA (most : Int) (k : Int) (ys : List Int) (M : List KV) : Bool × Int := if 64 < ys.length then (false, 70) else if hs k M then (false, 0) else if most ≤ (M.length : Int) then (false, 71) else (true, 0)
def setM (most : Int) (k : Int) (ys : List Int) (M : List KV) : List KV := if 64 < ys.length then M else if hs k M then putM k ys M else if most ≤ (M.length : Int) then M else putM k ys M
theorem vn_set {B : Nat} {L : List (Int × Sv)} {i : Nat} {p : Int × Sv} (hp : ∀ g, (sl p.2).ownBlock = some g → B ≤ g) : Vn B L (L.set i p) := fun q hq => by
  rcases List.mem_or_eq_of_mem_set hq with h | rfl
  · exact .inl h
  · exact .inr hp
theorem rset137 {w : World} {rb : Nat} {most : Int} {v : Sv} {L : List (Int × Sv)} {M : List KV} (h : Rs w rb most v L M) (k : Int) (hk0 : 0 ≤ k) (hk1 : k ≤ 18446744073709551615) (u : Value) (ys : List Int) (hu : Rd w u ys) (hby : Byt ys) : Calls Try.prog 137 #[.pointer (some ⟨rb, 0, none⟩), .int .u64 k, u] w fun e w' => e = .returned (.tuple #[.bool (setA most k ys M).1, .int .i64 (setA most k ys M).2]) ∧ Hid ((∃ v' L', Rs w' rb most v' L' (setM most k ys M) ∧ Vn w.heap.size L L' ∧ ∀ g, (sl v').ownBlock = some g → (sl v).ownBlock = some g ∨ w.heap.size ≤ g) ∧ Kp (fun i => i = rb ∨ some i = (sl v).ownBlock) w w') := by
  unfold setA setM
  obtain ⟨ad, cap, rfl⟩ := hu.slice
  by_cases h1 : 64 < ys.length
  · rw [if_pos h1, if_pos h1]
    refine (set_long137 w rb k ad _ cap h1).mono ?_
    rintro e w' ⟨rfl, hw⟩
    obtain rfl := hw
    exact ⟨rfl, ⟨v, L, h, Vn.refl _ _, fun g hg => .inl hg⟩, Kp.refl _ _⟩
  · rw [if_neg h1, if_neg h1]
    by_cases h2 : hs k M = true
    · rw [if_pos h2, if_pos h2]
      refine (set_inv137 h k _ ys hu (by omega) hby h2).mono ?_
      rintro e w' ⟨rfl, H⟩
      obtain ⟨⟨i, q, f1, f2⟩, f3⟩ := H.out
      exact ⟨rfl, ⟨v, _, f1, vn_set f2, fun g hg => .inl hg⟩, f3.mono (fun _ _ e => .inr e)⟩
    · have h2' : hs k M = false := by simpa using h2
      rw [if_neg h2, if_neg h2]
      by_cases h3 : most ≤ (M.length : Int)
      · rw [if_pos h3, if_pos h3]
        refine (set_full137 h k ad _ cap (by omega) h2' h3).mono ?_
        rintro e w' ⟨rfl, kq⟩
        exact ⟨rfl, ⟨v, L, h.nu kq, Vn.refl _ _, fun g hg => .inl hg⟩, kq.mono (fun _ _ e => e.elim)⟩
      · rw [if_neg h3, if_neg h3]
        refine (set_new137 h k hk0 hk1 _ ys hu (by omega) hby h2' (by omega)).mono ?_
        rintro e w' ⟨rfl, H⟩
        obtain ⟨⟨v', L', f1, f2, f3⟩, f4⟩ := H.out
        exact ⟨rfl, ⟨v', L', f1, f2, fun g hg => .inr (f3 g hg)⟩, f4.mono (fun _ _ e => .inl e)⟩
theorem pset47 {w : World} {sb mb : Nat} {most : Int} {t : T (Int × Sv)} {M : List KV} (h : Sh w sb mb most t M) (k : Int) (hk0 : 0 ≤ k) (hk1 : k ≤ 18446744073709551615) (u : Value) (ys : List Int) (hu : Rd w u ys) (hby : Byt ys) : Calls Try.prog 47 #[.pointer (some ⟨sb, 0, none⟩), .int .u64 k, u] w fun e w' => e = .returned (.tuple #[.bool (setA most k ys M).1, .int .i64 (setA most k ys M).2]) ∧ Hid ((∃ t', Sh w' sb mb most t' (setM most k ys M) ∧ Vn w.heap.size t.xs t'.xs) ∧ Kp (Sm sb mb) w w') := by
  unfold setA setM
  by_cases h1 : 64 < ys.length
  · obtain ⟨ad, cap, rfl⟩ := hu.slice
    rw [if_pos h1, if_pos h1]
    refine (set_long h k ad _ cap h1).mono ?_
    rintro e w' ⟨rfl, hw⟩
    obtain rfl := hw
    exact ⟨rfl, ⟨t, h, Vn.refl _ _⟩, Kp.refl _ _⟩
  · rw [if_neg h1, if_neg h1]
    by_cases h2 : hs k M = true
    · rw [if_pos h2, if_pos h2]
      refine (set_ok h k hk0 hk1 _ ys hu (by omega) hby (.inl h2)).mono ?_
      rintro e w' ⟨rfl, ⟨q, f1, f2⟩, f3⟩
      exact ⟨by rw [h2]; rfl, ⟨_, f2, vn_put f1⟩, f3⟩
    · have h2' : hs k M = false := by simpa using h2
      rw [if_neg h2, if_neg h2]
      by_cases h3 : most ≤ (M.length : Int)
      · obtain ⟨ad, cap, rfl⟩ := hu.slice
        rw [if_pos h3, if_pos h3]
        refine (set_full h k ad _ cap (by omega) h2' (by have := h.lm; omega)).mono ?_
        rintro e w' ⟨rfl, kq⟩
        exact ⟨rfl, ⟨t, h.nu kq, Vn.refl _ _⟩, kq.mono (fun _ _ e => e.elim)⟩
      · rw [if_neg h3, if_neg h3]
        refine (set_ok h k hk0 hk1 _ ys hu (by omega) hby (.inr (by omega))).mono ?_
        rintro e w' ⟨rfl, ⟨q, f1, f2⟩, f3⟩
        exact ⟨by rw [h2']; rfl, ⟨_, f2, vn_put f1⟩, f3⟩
end Go.Proofs.Ytchealdgncgjoaa.StU
