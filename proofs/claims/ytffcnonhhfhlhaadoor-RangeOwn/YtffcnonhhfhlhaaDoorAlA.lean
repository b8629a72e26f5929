import Derived.Test.YtffcnonhhfhlhaaDoorTgC
import Derived.Test.YtffcnonhhfhlhaaDoorRfF
import Derived.Deep.QuietTactic
import Derived.BigQuiet
namespace Go.Proofs.YtffcnonhhfhlhaaDoor.Rg
open Go.RowKit Go.Shelf Go.Sort
open Go.Proofs.YtffcnonhhfhlhaaDoor.It
open Go.BigFrame
set_option linter.unusedVariables false
/-- two rising lists of the same numbers are one -/
theorem rise_eq : ∀ (a b : List Int), a.Pairwise (· < ·) → b.Pairwise (· < ·) → (∀ x, x ∈ a ↔ x ∈ b) → a = b
  | [], [], _, _, _ => rfl
  | [], y :: s, _, _, h => by have := (h y).2 (by simp); simp at this
  | x :: r, [], _, _, h => by have := (h x).1 (by simp); simp at this
  | x :: r, y :: s, ha, hb, h => by
    obtain ⟨ha1, ha2⟩ := List.pairwise_cons.1 ha
    obtain ⟨hb1, hb2⟩ := List.pairwise_cons.1 hb
    have e : x = y := by
      rcases List.mem_cons.1 ((h x).1 (by simp)) with e | hx
      · exact e
      · rcases List.mem_cons.1 ((h y).2 (by simp)) with e | hy
        · exact e.symm
        · have := hb1 x hx; have := ha1 y hy; omega
    subst e
    rw [rise_eq r s ha2 hb2 (fun z => by
      constructor
      · intro hz
        rcases List.mem_cons.1 ((h z).1 (by simp [hz])) with e | h'
        · subst e; have := ha1 z hz; omega
        · exact h'
      · intro hz
        rcases List.mem_cons.1 ((h z).2 (by simp [hz])) with e | h'
        · subst e; have := hb1 z hz; omega
        · exact h')]
/-- the hosts below k that have something -/
def hos (A : List Sg) (k : Nat) : List Int := ((List.range k).map (fun j : Nat => (j : Int))).filter (fun h => decide (0 < cntL A h))
theorem hos_succ (A : List Sg) (k : Nat) : hos A (k + 1) = hos A k ++ (if 0 < cntL A (k : Int) then [(k : Int)] else []) := by
  unfold hos
  rw [List.range_succ, List.map_append, List.filter_append]
  congr 1
  by_cases h : 0 < cntL A (k : Int) <;> simp [h]
theorem hos_len (A : List Sg) (k : Nat) : (hos A k).length ≤ k := by
  unfold hos
  refine Nat.le_trans (List.length_filter_le _ _) ?_
  simp
theorem cnt_host : ∀ {A : List Sg} {p : Int}, 0 < cntL A p → ∃ s ∈ A, s.h = p
  | [], p, h => by simp [cntL] at h
  | s :: A, p, h => by
    by_cases e : s.h = p
    · exact ⟨s, by simp, e⟩
    · have h2 : 0 < cntL A p := by
        unfold cntL at h
        rw [if_neg e] at h
        omega
      obtain ⟨t, ht, e2⟩ := cnt_host h2
      exact ⟨t, by simp [ht], e2⟩
theorem srt_hos {A : List Sg} {ss : List Int} (h : Khd A ss) (hs : ∀ s ∈ A, 0 ≤ s.h ∧ s.h < 16) : srt ss = hos A 16 := by
  have hmem : ∀ x, x ∈ srt ss ↔ x ∈ ss := fun x => by unfold srt; exact List.mem_mergeSort
  have hnd : (srt ss).Nodup := by
    unfold srt
    exact (List.mergeSort_perm ss _).nodup_iff.2 h.1
  have hps : (srt ss).Pairwise (fun x y => (!(ltOf cmpI) y x) = true) := by
    unfold srt
    refine List.pairwise_mergeSort (fun a b c h1 h2 => ?_) (fun a b => ?_) ss
    · simp only [Bool.not_eq_true', ltH, decide_eq_false_iff_not] at *
      omega
    · simp only [Bool.not_eq_true', Bool.or_eq_true, ltH, decide_eq_false_iff_not]
      omega
  refine rise_eq _ _ ?_ ?_ ?_
  · refine (List.pairwise_and_iff.2 ⟨hps, hnd⟩).imp (fun {a b} hab => ?_)
    obtain ⟨h1, h2⟩ := hab
    simp only [Bool.not_eq_true', ltH, decide_eq_false_iff_not] at h1
    omega
  · unfold hos
    refine List.Pairwise.filter _ ?_
    rw [List.pairwise_map]
    exact List.pairwise_lt_range.imp (fun {a b} hab => by omega)
  · intro x
    rw [hmem, h.2 x]
    unfold hos
    simp only [List.mem_filter, List.mem_map, List.mem_range, decide_eq_true_eq]
    constructor
    · rintro ⟨h0, h1, h2⟩
      obtain ⟨s, hs1, e⟩ := cnt_host h2
      have := hs s hs1
      exact ⟨⟨x.toNat, by omega, by omega⟩, h2⟩
    · rintro ⟨⟨j, hj, e⟩, h2⟩
      exact ⟨by omega, by omega, h2⟩
theorem own_low {w : World} {B B' t e n : Nat} {v : Value} {xs : List Value} (h : w.ownsRow B t e v n xs) (hB : B' ≤ B) : w.ownsRow B' t e v n xs := by
  refine ⟨h.1, ?_⟩
  rcases h.2 with h | ⟨r, cap, cur, e, h1, h2⟩
  · exact .inl h
  · exact .inr ⟨r, cap, cur, e, by omega, h2⟩
theorem take_snoc {L : List Sg} {i : Nat} {s : Sg} (h : L[i]? = some s) : L.take (i + 1) = L.take i ++ [s] := by
  rw [List.take_add_one, h]; rfl
set_option maxRecDepth 100000 in
set_option maxHeartbeats 4000000 in
/-- the document's Shares -/
theorem refShares_any (w : World) (u : Value) (L : List Sg) (lim : Int) (hrs : Rs w u L) (hT : Tab L) (hl : L.length ≤ 8192) :
    Calls Tryd.prog 69 #[.agg #[.int .i64 lim, u]] w fun e w' => ∃ u', e = .returned u' ∧ w'.ownsRow w.heap.size 105 3 u' (hos L 16).length (cellsH L (hos L 16)) ∧ Kp Nu w w' := by
  have mixed : Tryd.prog.follows .mixedOrders = true := by kernel_rfl
  obtain ⟨i0, hi0', hz0, hz1, hz2⟩ := info_parts info80
  obtain ⟨rr, off, cap, hu, hc⟩ := hrs
  obtain ⟨N, hN⟩ : ∃ N, L.length = N := ⟨_, rfl⟩
  rw [hN] at hu hl
  obtain ⟨w1, hw1⟩ : ∃ w1, w.alloc (.cells #[.int .i64 lim, u] 29) = w1 := ⟨_, rfl⟩
  have K1 : Kp Nu w w1 := by rw [← hw1]; exact Kp.alloc w _ Nu
  have b1 : w1.heap[w.heap.size]? = some (.cells #[.int .i64 lim, u] 29 (0, 0)) := by rw [← hw1]; exact heap_alloc_new w _
  have HB := hide (And.intro hc (And.intro hN (And.intro hT (And.intro K1 b1))))
  have hNI : (N : Int) ≤ 8192 := by omega
  have hN0 : (0 : Int) ≤ (N : Int) := by omega
  subst hu
  clear hc hN hT b1 K1
  go_enter Tryd.func69, Tryd.ntmps69
  go_wp2_with fail
  clear hw1
  go_loopw [3, 4] (fun ov hv wr => ∃ (h : Nat) (oa : Option Addr) (on oc : Nat), ov = .slice oa on oc ∧ hv = .int .i64 (h : Int) ∧ h ≤ 16 ∧ Hid (wr.ownsRow w1.heap.size 105 3 (.slice oa on oc) on (cellsH L (hos L h)) ∧ on = (hos L h).length ∧ Kp Nu w1 wr)) (fun _ hv _ => 16 - (intOf hv).toNat)
  case atStart => exact ⟨0, none, 0, 0, rfl, rfl, Nat.zero_le _, hide ⟨World.ownsRow_nil _ _ _ _, rfl, Kp.refl _ _⟩⟩
  case round =>
    obtain ⟨h, oa, on, oc, rfl, rfl, hh, hQ⟩ := hrel
    have hh0 : (0 : Int) ≤ (h : Int) := by omega
    by_cases hlt : h < 16
    · have hltI : (h : Int) < 16 := by omega
      have hltN : h < 16 := hlt
      have HR := hide (HB.out.2.2.2.1.andNu hQ.out.2.2)
      clear hlt
      generalize wr = wA at *
      go_wp2_with fail
      go_loopw [5, 6, 7] (fun nv kv iv wi => ∃ i : Nat, nv = .int .i64 (cntL (L.take i) (h : Int)) ∧ kv = .int .u64 (keyL (L.take i) (h : Int) % 18446744073709551616) ∧ iv = .int .i64 (i : Int) ∧ i ≤ N ∧ Hid (Kp Nu wA wi)) (fun _ _ iv _ => N - (intOf iv).toNat)
      case atStart => exact ⟨0, rfl, rfl, rfl, Nat.zero_le _, hide (Kp.refl _ _)⟩
      case round =>
        obtain ⟨i, rfl, rfl, rfl, hi, hK⟩ := hrel
        generalize wr = wi at *
        have hi0 : (0 : Int) ≤ (i : Int) := by omega
        have kwi := HR.out.andNu hK.out
        have bwi := (hK.out.block _ (blk_lt ((hQ.out.2.2.block _ (blk_lt HB.out.2.2.2.2) (fun h => h)).trans HB.out.2.2.2.2)) (fun h => h)).trans ((hQ.out.2.2.block _ (blk_lt HB.out.2.2.2.2) (fun h => h)).trans HB.out.2.2.2.2)
        obtain ⟨_, cb⟩ := cell2' bwi
        by_cases hlt2 : i < N
        · obtain ⟨sg, hs⟩ : ∃ sg, L[i]? = some sg := ⟨_, List.getElem?_eq_getElem (by rw [HB.out.2.1]; exact hlt2)⟩
          obtain ⟨x0, x1, x2⟩ := HB.out.1 i sg hs
          replace x0 := cell_nu x0 kwi
          replace x1 := cell_nu x1 kwi
          replace x2 := cell_nu x2 kwi
          have hsb := HB.out.2.2.1.sgb.1 sg (List.mem_of_getElem? hs)
          have hslo := HB.out.2.2.1.sgb.2 sg (List.mem_of_getElem? hs)
          have hcn := cntL_range (h : Int) (L.take i)
          have hcl : (L.take i).length ≤ N := by rw [List.length_take]; omega
          have ec := cntL_snoc sg (h : Int) (L.take i)
          have ek := keyL_snoc sg (h : Int) (L.take i)
          rw [← take_snoc hs] at ec ek
          have hl2 : (i : Int) < (N : Int) := by omega
          have ewi : wrap64 ((i : Int) + 1) = (i : Int) + 1 := by unfold wrap64; omega
          have e8 : IntKind.i64.wrap sg.h = sg.h := by have := hsb.o0; have := hsb.o1; rw [IntKind.wrap_i64]; omega
          have e8' : wrap64 sg.h = sg.h := by have := hsb.o0; have := hsb.o1; unfold wrap64; omega
          obtain ⟨C0, eC0⟩ : ∃ C, cntL (L.take i) (h : Int) = C := ⟨_, rfl⟩
          obtain ⟨K0, eK0⟩ : ∃ K, keyL (L.take i) (h : Int) = K := ⟨_, rfl⟩
          rw [eC0] at ec hcn ⊢
          rw [eK0] at ek ⊢
          by_cases hsh : sg.h = (h : Int)
          · have bsh : (sg.h == (h : Int)) = true := by simpa using hsh
            rw [if_pos hsh] at ec ek
            have hC1 : wrap64 (C0 + 1) = C0 + 1 := by unfold wrap64; omega
            have HC1 := hide hC1
            have f1 : IntKind.u64.wrap (sg.hi - sg.lo) = sg.hi - sg.lo := by have := hsb.l0; have := hsb.h1; rw [IntKind.wrap_u64]; omega
            obtain ⟨d, hd⟩ : ∃ d, IntKind.u64.wrap (sg.hi - sg.lo + 1) = d := ⟨_, rfl⟩
            obtain ⟨K00, eK00⟩ : ∃ K, K0 % 18446744073709551616 = K := ⟨_, rfl⟩
            have f3 : IntKind.u64.wrap (K00 + d) = keyL (L.take (i + 1)) (h : Int) % 18446744073709551616 := by
              rw [ek, ← hd, ← eK00, IntKind.wrap_u64, IntKind.wrap_u64]; omega
            rw [eK00]
            obtain ⟨K1, eK1⟩ : ∃ K, keyL (L.take (i + 1)) (h : Int) % 18446744073709551616 = K := ⟨_, rfl⟩
            rw [eK1] at f3
            have HX := hide (And.intro ec (And.intro eK1 hK.out))
            clear hsh ec ek eC0 eK0 eK00 eK1 hs hcn hcl bwi kwi hK hlt2 hsb hslo
            go_wp2_with fail
            go_quiet (fail)
            have kdn : Kp Nu wi (wi.drewN nq) := ⟨rfl, rfl, rfl, Nat.le_refl _, fun _ _ _ => rfl⟩
            generalize wi.drewN nq = wj at kdn ⊢
            have HKJ := hide (HX.out.2.2.andNu kdn)
            clear kdn
            go_wp2
            exact ⟨⟨i + 1, by rw [HX.out.1, HC1.out], by rw [HX.out.2.1], by go_num, Nat.succ_le_of_lt (by omega), HKJ⟩, by simp [intOf]; omega⟩
          · have bsh : (sg.h == (h : Int)) = false := by simpa using hsh
            rw [if_neg hsh] at ec ek
            have HX := hide (And.intro ec (And.intro ek (And.intro hK.out (And.intro eC0 eK0))))
            clear hsh ec ek hs hcn hcl bwi kwi hK hlt2 hsb hslo eC0 eK0
            go_wp2
            exact ⟨⟨i + 1, by rw [HX.out.1]; simp, by rw [HX.out.2.1]; simp, by go_num, by omega, hide HX.out.2.2.1⟩, by simp [intOf]; omega⟩
        · have hge2 : ¬ (i : Int) < (N : Int) := by omega
          have hiN : L.take i = L := List.take_of_length_le (by rw [HB.out.2.1]; omega)
          rw [hiN]
          have hcn := cntL_range (h : Int) L
          have hkr := keyL_range (h : Int) HB.out.2.2.1.cov
          have hLN : L.length = N := HB.out.2.1
          have hwh : wrap64 ((h : Int) + 1) = (h : Int) + 1 := by unfold wrap64; omega
          have hsucc := hos_succ L h
          have hol := hos_len L h
          obtain ⟨q1, q2, q3⟩ := hQ.out
          obtain ⟨C0, eC0⟩ : ∃ C, cntL L (h : Int) = C := ⟨_, rfl⟩
          obtain ⟨K0, eK0⟩ : ∃ K, keyL L (h : Int) = K := ⟨_, rfl⟩
          rw [eC0] at hcn hkr hsucc ⊢
          rw [eK0] at hkr ⊢
          have hrow : wi.ownsRow w1.heap.size 105 3 (.slice oa on oc) on (cellsH L (hos L h)) := own_keep q1 (fun g e => hK.out.block g (own_lt q1 e) (fun h => h))
          by_cases hpos : 0 < C0
          · have hposI : C0 > 0 := hpos
            rw [if_pos hpos] at hsucc
            obtain ⟨K1, eK1⟩ : ∃ K, K0 % 18446744073709551616 = K := ⟨_, rfl⟩
            have f3 : IntKind.u64.wrap (K1 - 1) = K0 - 1 := by rw [← eK1, IntKind.wrap_u64]; omega
            have f8 : IntKind.u8.wrap (h : Int) = (h : Int) := by rw [IntKind.wrap_u8]; omega
            rw [eK1]
            have HX := hide (And.intro hrow (And.intro q2 (And.intro q3 (And.intro hK.out (And.intro hsucc (And.intro eC0 eK0))))))
            have hon : on ≤ 16 := by omega
            clear hcn hkr hLN hsucc hol q1 q2 q3 hrow hQ hK eC0 eK0 eK1 hlt2 hiN bwi kwi
            go_wp2_with (at_builtin; refine unhid ?_)
            have hsz : w1.heap.size ≤ wi.heap.size := Nat.le_trans HX.out.2.2.1.size HX.out.2.2.2.1.size
            have kal : Kp Nu wi (wi.alloc (.cells #[.int .u8 (h : Int), .int .i64 C0, .int .u64 (K0 - 1)] 105)) := Kp.alloc wi _ Nu
            refine wpList_append_own _ rfl _ _ 55 rfl w1.heap.size 105 i0 (.agg #[.int .u8 0, .int .i64 0, .int .u64 0]) 3 24 Tryd.underlying55 hi0' hz0 hz1 hz2 rfl (by decide) _ _ _ rfl (own_keep HX.out.1 (fun g e => kal.block g (own_lt HX.out.1 e) (fun h => h))) ⟨wi.heap.size, 0, none⟩ 1 1 [.int .u8 (h : Int), .int .i64 C0, .int .u64 (K0 - 1)] rfl rfl (cell_three_new _ _ _ _ _) (by simp [Value.oneCell']) (by unfold maxLen; omega) (by omega) (by simp; omega) ?_
            intro v' w3 hown' hg3 hnil3
            obtain ⟨ad3, cp3, ev3⟩ := own_slice hown'
            have HO : Hid (w3.ownsRow w1.heap.size 105 3 v' (on + 1) (cellsH L (hos L (h + 1))) ∧ on + 1 = (hos L (h + 1)).length ∧ Kp Nu w1 w3) := by
              obtain ⟨hrow, q2, q3, hK, hsucc, eC0, eK0⟩ := HX.out
              refine hide ⟨?_, by rw [hsucc, List.length_append, q2]; rfl, ?_⟩
              · rw [hsucc, cellsH_append]
                have e : cellsH L [(h : Int)] = [.int .u8 (h : Int), .int .i64 C0, .int .u64 (K0 - 1)] := by simp [cellsH, encH, eC0, eK0]
                rw [e]; exact hown'
              · exact (q3.andNu (hK.andNu kal)).trans (Kp.of_grown hg3) (fun g hg e => by
                  have e : some g = (Value.slice oa on oc).ownBlock := e
                  have h1 := (hrow.lt g e.symm).1
                  omega)
            subst ev3
            clear hown' hg3 hnil3 kal HX
            go_wp2
            exact ⟨⟨h + 1, ad3, on + 1, cp3, rfl, by go_num, by omega, HO⟩, by simp [intOf]; omega⟩
          · have hposI : ¬ C0 > 0 := hpos
            rw [if_neg hpos, List.append_nil] at hsucc
            have HX : Hid (wi.ownsRow w1.heap.size 105 3 (.slice oa on oc) on (cellsH L (hos L (h + 1))) ∧ on = (hos L (h + 1)).length ∧ Kp Nu w1 wi) := by
              rw [hsucc]; exact hide ⟨hrow, q2, q3.andNu hK.out⟩
            clear hcn hkr hLN hsucc hol q1 q2 q3 hrow hQ hK eC0 eK0 hlt2 hiN bwi kwi
            go_wp2
            exact ⟨⟨h + 1, oa, on, oc, rfl, by go_num, by omega, HX⟩, by simp [intOf]; omega⟩
    · have hge : ¬ (h : Int) < 16 := by omega
      have hgeN : ¬ h < 16 := hlt
      have HF : Hid (wr.ownsRow w.heap.size 105 3 (.slice oa on oc) (hos L 16).length (cellsH L (hos L 16)) ∧ Kp Nu w wr) := by
        obtain rfl : h = 16 := by omega
        obtain ⟨q1, q2, q3⟩ := hQ.out
        rw [q2] at q1
        exact hide ⟨by rw [q2]; exact own_low q1 HB.out.2.2.2.1.size, HB.out.2.2.2.1.andNu q3⟩
      clear hQ hlt
      go_wp2
      go_ret
      exact ⟨_, rfl, HF.out⟩
/-- a row of shares, cell by cell -/
theorem sh_at {w : World} {B n : Nat} {u : Value} {A : List Sg} {hs : List Int} (h : w.ownsRow B 105 3 u n (cellsH A hs)) (hn : n = hs.length) {i : Nat} {p : Int} (hi : hs[i]? = some p) : ∃ r cap, u = .slice (some ⟨r, 0, none⟩) n cap ∧ w.cell? ⟨r, i * 3, none⟩ = some (.int .u8 p) ∧ w.cell? ⟨r, i * 3 + 1, none⟩ = some (.int .i64 (cntL A p)) ∧ w.cell? ⟨r, i * 3 + 2, none⟩ = some (.int .u64 (keyL A p - 1)) := by
  have hlt : i < hs.length := (List.getElem?_eq_some_iff.1 hi).1
  rcases h.2 with ⟨_, h0⟩ | ⟨r, cap, cur, e, hB, hg, h1, h2, h3, h4⟩
  · omega
  · have key : ∀ j, j < 3 → cur[i * 3 + j]? = (encH A p)[j]? := by
      intro j hj
      have e1 := cellsH_get A hs (i * 3 + j)
      have e2 : (i * 3 + j) / 3 = i := by omega
      have e3 : (i * 3 + j) % 3 = j := by omega
      rw [e2, e3, hi] at e1
      rw [← h4, List.getElem?_take_of_lt (by omega)] at e1
      simpa using e1
    refine ⟨r, cap, e, ?_, ?_, ?_⟩
    · have := key 0 (by omega)
      simpa [World.cell?, hg, encH] using this
    · have := key 1 (by omega)
      simpa [World.cell?, hg, encH] using this
    · have := key 2 (by omega)
      simpa [World.cell?, hg, encH] using this
set_option maxRecDepth 100000 in
set_option maxHeartbeats 4000000 in
/-- both Shares say the same -/
theorem sharesW_any {B b : Nat} {w : World} {lim : Int} {v : Value} {L : List Sg} (h : Tb B w b lim v L) (rv : Value) (hrs : Rs w rv L) :
    Calls Tryd.prog 38 #[.pointer (some ⟨b, 0, none⟩), .agg #[.int .i64 lim, rv]] w fun e w' => e = .returned (.bool true) ∧ Kp Nu w w' := by
  have mixed : Tryd.prog.follows .mixedOrders = true := by kernel_rfl
  have hM : L.length ≤ 8192 := by have := h.len; have := h.lim1; omega
  have hsL : ∀ s ∈ L, 0 ≤ s.h ∧ s.h < 16 := fun s hs => h.tab.hs s hs
  obtain ⟨w1, hw1⟩ : ∃ w1, w.alloc (.cells #[.int .i64 lim, rv] 29) = w1 := ⟨_, rfl⟩
  have K1 : Kp Nu w w1 := by rw [← hw1]; exact Kp.alloc w _ Nu
  have b1 : w1.heap[w.heap.size]? = some (.cells #[.int .i64 lim, rv] 29 (0, 0)) := by rw [← hw1]; exact heap_alloc_new w _
  have SH := shares_any (h.nu K1)
  obtain ⟨qr, qo, qc, erv, _⟩ := id hrs
  obtain ⟨N, hN⟩ : ∃ N, L.length = N := ⟨_, rfl⟩
  rw [hN] at erv
  have HB := hide (And.intro h (And.intro hrs (And.intro K1 (And.intro b1 (And.intro hM hsL)))))
  subst erv
  clear h hrs K1 b1 hsL hN
  go_enter Tryd.func38, Tryd.ntmps38
  go_wp2_with fail
  refine SH.mono ?_; rintro e w2 ⟨u, ss, rfl, ho2, hkd, k2⟩
  rw [srt_hos hkd HB.out.2.2.2.2.2] at ho2
  have hlen : ss.length = (hos L 16).length := by rw [← srt_hos hkd HB.out.2.2.2.2.2, srt_len]
  rw [hlen] at ho2
  have b2 := (k2.block _ (blk_lt HB.out.2.2.2.1) (fun h => h)).trans HB.out.2.2.2.1
  obtain ⟨c0, c1⟩ := cell2' b2
  have RS := refShares_any w2 (.slice (some ⟨qr, qo, none⟩) N qc) L lim (HB.out.2.1.nu (HB.out.2.2.1.andNu k2)) HB.out.1.tab HB.out.2.2.2.2.1
  obtain ⟨H, hH⟩ : ∃ H, hos L 16 = H := ⟨_, rfl⟩
  obtain ⟨n, hn⟩ : ∃ n, H.length = n := ⟨_, rfl⟩
  have hHl := hos_len L 16
  rw [hH] at ho2 RS hHl
  rw [hn] at ho2 RS hHl
  obtain ⟨ad2, cp2, eu⟩ := own_slice ho2
  subst eu
  have H2 := hide (And.intro ho2 (And.intro (HB.out.2.2.1.andNu k2) hn))
  clear SH ho2 hkd k2 hlen b2 hH hn hw1
  go_wp2_with fail
  refine RS.mono ?_; rintro e w3 ⟨u3, rfl, ho3, k3⟩
  obtain ⟨ad3, cp3, eu⟩ := own_slice ho3
  subst eu
  have H3 := hide (And.intro ho3 (And.intro (own_keep H2.out.1 (fun g e => k3.block g (own_lt H2.out.1 e) (fun h => h))) (H2.out.2.1.andNu k3)))
  have z0 : ((n : Int) != (n : Int)) = false := by simp
  have hn16 : (n : Int) ≤ 16 := by omega
  clear RS ho3 k3 c0 c1
  go_wp2_with fail
  go_loopw [7] (fun iv wr => ∃ i : Nat, iv = .int .i64 (i : Int) ∧ i ≤ n ∧ Hid (Kp Nu w3 wr)) (fun iv _ => n - (intOf iv).toNat)
  case atStart => exact ⟨0, rfl, Nat.zero_le _, hide (Kp.refl _ _)⟩
  case round =>
    obtain ⟨i, rfl, hi, hK⟩ := hrel
    have hi0 : (0 : Int) ≤ (i : Int) := by omega
    by_cases hlt : i < n
    · obtain ⟨p, hp⟩ : ∃ p, H[i]? = some p := ⟨_, List.getElem?_eq_getElem (by rw [H2.out.2.2]; exact hlt)⟩
      obtain ⟨r1, q1, e1, x0, x1, x2⟩ := sh_at H3.out.1 H2.out.2.2.symm hp
      obtain ⟨r2, q2, e2, y0, y1, y2⟩ := sh_at H3.out.2.1 H2.out.2.2.symm hp
      replace x0 := cell_nu x0 hK.out.drew; replace x1 := cell_nu x1 hK.out.drew; replace x2 := cell_nu x2 hK.out.drew
      replace y0 := cell_nu y0 hK.out.drew; replace y1 := cell_nu y1 hK.out.drew; replace y2 := cell_nu y2 hK.out.drew
      simp only [Value.slice.injEq, true_and] at e1 e2
      obtain ⟨f1, f1'⟩ := e1
      obtain ⟨f2, f2'⟩ := e2
      subst f1
      subst f2
      have hltI : (i : Int) < (n : Int) := by omega
      have HF : Hid (Kp Nu w3 wr.drew) := hK.out.drew
      have t0 : (p == p) = true := by simp
      have t1 : (cntL L p == cntL L p) = true := by simp
      have t2 : ((keyL L p - 1) == (keyL L p - 1)) = true := by simp
      clear hK hp f1' f2'
      go_wp2_with fail
      go_region
      go_wp2
      go_roundw
      case rel => exact ⟨i + 1, by go_num, by omega, HF⟩
      case measure => simp [intOf]; omega
    · have hge : ¬ (i : Int) < (n : Int) := by omega
      have HF := hide (H3.out.2.2.andNu hK.out)
      clear hK
      go_wp2
      go_ret
      exact ⟨rfl, HF.out⟩
end Go.Proofs.YtffcnonhhfhlhaaDoor.Rg
