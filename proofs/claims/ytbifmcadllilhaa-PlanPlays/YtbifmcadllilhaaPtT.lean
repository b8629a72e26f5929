import Derived.Test.YtbifmcadllilhaaPtS0
import Derived.Test.YtbifmcadllilhaaSf
namespace Go.Proofs.Ytbifmcadllilhaa.Pn
open Go.RowKit Go.Shelf Go.Sort
set_option linter.unusedVariables false
def encN {N : Nat} (x : Ho N) : Value := .int .i64 (x.val : Int)
theorem ltC (o : List Int) {N : Nat} (x y : Ho N) : ltOf (cfH o) x y = ahd o x.val y.val := cfH_lt o x y
theorem swoC (o : List Int) {N : Nat} : SWO (ltOf (cfH o (N := N))) where
  irrefl p := by rw [ltC]; exact ahd_self o _
  trans p q r h1 h2 := by
    rw [ltC] at *
    simp only [ahd, decide_eq_true_eq] at *
    omega
  ntrans p q r h1 h2 := by
    rw [ltC] at *
    simp only [ahd, decide_eq_false_iff_not] at *
    omega
theorem totC (o : List Int) {N : Nat} (p q : Ho N) (h1 : ltOf (cfH o) p q = false) (h2 : ltOf (cfH o) q p = false) : p = q := by
  rw [ltC] at *
  simp only [ahd, decide_eq_false_iff_not] at *
  cases p
  cases q
  simp only [Ho.mk.injEq]
  simp only at h1 h2
  omega
theorem grownE {w : World} {N g n : Nat} [Inhabited (Ho N)] {os : Array Obj} (d : Array (Ho N)) : w.grownBy (sortWorld encN w g 0 n d os) (some g) := by
  refine ⟨rfl, rfl, rfl, by simp [sortWorld], fun k hk hne => ?_⟩
  unfold sortWorld
  rw [heap_grow_old _ _ (by simpa using hk)]
  have : g ≠ k := fun e => hne (by rw [e])
  simp [putRow, mapBlock, Sort.ahead, Array.getElem?_modify, this]
theorem heapE {w : World} {N g n : Nat} [Inhabited (Ho N)] {os : Array Obj} {cur : Array Value} {e : TypeId} {fr : Nat × Nat} (d : Array (Ho N)) (hb : w.heap[g]? = some (.cells cur e fr)) :
    (sortWorld encN w g 0 n d os).heap[g]? = some (.cells (putCells encN 0 d cur) e fr) := by
  have hg : g < w.heap.size := (Array.getElem?_eq_some_iff.1 hb).1
  unfold sortWorld
  rw [heap_grow_old _ _ (by simpa using hg)]
  simp [putRow, mapBlock, Sort.ahead, Array.getElem?_modify, hb, onCells]
theorem takeE {N : Nat} [Inhabited (Ho N)] (cur : Array Value) (l : List (Ho N)) (h : l.length ≤ cur.size) : (putCells encN 0 l.toArray cur).toList.take l.length = l.map encN := by
  apply List.ext_getElem?
  intro j
  by_cases hj : j < l.length
  · rw [List.getElem?_take_of_lt hj, Array.getElem?_toList]
    simp [putCells, hj, show j < cur.size by omega]
  · rw [List.getElem?_take_eq_none (by omega), List.getElem?_eq_none (by simp; omega)]
/-- the hosts, as cells -/
def hcs (s : List Nat) : List Value := s.map (fun (x : Nat) => Value.int .i64 (x : Int))
set_option maxHeartbeats 1000000 in
theorem sort78 (w : World) (o : List Int) (N B g cap bx cp : Nat) (b : Addr) (hN : o.length = N) (hN1 : 1 ≤ N) (hN16 : N ≤ 16)
    (hrow : w.ownsRow B 3 1 (.slice (some ⟨g, 0, none⟩) N cap) N (hcs (List.range N)))
    (hbx : w.cell? ⟨bx, 0, none⟩ = some (.slice (some b) N cp)) (ho : ∀ (j : Nat) x, o[j]? = some x → w.cell? (b.add j) = some (.int .i64 x)) (hg1 : bx ≠ g) (hg2 : b.block ≠ g) :
    Calls Try.prog 78 #[.slice (some ⟨g, 0, none⟩) N cap, .func (.func 79) #[] #[.pointer (some ⟨bx, 0, none⟩)]] w fun e w' => e = .returned (.tuple #[]) ∧ (∃ s, Srt o s ∧ w'.ownsRow B 3 1 (.slice (some ⟨g, 0, none⟩) N cap) N (hcs s)) ∧ w.grownBy w' (some g) := by
  haveI : Inhabited (Ho N) := ⟨⟨0, hN1⟩⟩
  have eg : ∀ args w, (callFunc 79 args).run Try.prog w = .ok (.enter 79 args) w := enters_of Try.func79 (by kernel_rfl) rfl
  rcases hrow.2 with ⟨e, _⟩ | ⟨g', cap', cur, e, hb, hgb, h1, h2, h3, h4⟩
  · cases e
  simp only [Value.slice.injEq, Option.some.injEq, Addr.mk.injEq, and_true, true_and] at e
  obtain ⟨rfl, rfl⟩ := e
  have hsz : (rng N).toArray.size = N := by simp [rng_len]
  have hcur : N ≤ cur.size := by omega
  have hH : Holds encN w g 0 (rng N).toArray := by
    intro j hj
    rw [hsz] at hj
    refine ⟨?_, free3 hgb _⟩
    have hj2 : j < (rng N).length := by rw [rng_len]; exact hj
    have e1 : (rng N).toArray[j]! = (rng N)[j] := by rw [getElem!_pos _ j (by rw [hsz]; exact hj)]; simp
    rw [e1, Nat.zero_add]
    refine cellAt hgb j ?_
    have h5 : (hcs (List.range N))[j]? = some (.int .i64 (j : Int)) := by simp [hcs, hj]
    rw [← h4, List.getElem?_take_of_lt (by omega)] at h5
    unfold encN
    rw [rng_at N j hj2]
    simpa using h5
  have hcmp : CmpLays1 Try.prog 79 #[.pointer (some ⟨bx, 0, none⟩)] encN (cfH o (N := N)) g 0 (rng N).toArray.size w := fun m os dk hs x y => by
    have hgr : w.grownBy (sortWorld encN w g 0 m dk os) (some g) := grownE dk
    have keep : ∀ a v, w.cell? a = some v → a.block ≠ g → (sortWorld encN w g 0 m dk os).cell? a = some v := fun a v hc hne =>
      (World.cell?_of_block (hgr.block _ (World.block_lt_of_cell? w _ hc) (fun e => hne (by simpa using e)))).trans hc
    have hx : o[x.val]? = some (o.getD x.val 0) := by
      have hl : x.val < o.length := by rw [hN]; exact x.lt
      rw [List.getD_eq_getElem?_getD, List.getElem?_eq_getElem hl]
      rfl
    have hy : o[y.val]? = some (o.getD y.val 0) := by
      have hl : y.val < o.length := by rw [hN]; exact y.lt
      rw [List.getD_eq_getElem?_getD, List.getElem?_eq_getElem hl]
      rfl
    refine (less79 x.val y.val (o.getD x.val 0) (o.getD y.val 0) bx b N cp _ x.lt y.lt (keep _ _ hbx hg1) (keep _ _ (ho _ _ hx) (by rw [add_block]; exact hg2)) (keep _ _ (ho _ _ hy) (by rw [add_block]; exact hg2))).mono ?_
    rintro e w' ⟨rfl, rfl⟩
    exact ⟨rfl, (((Gw.refl _).andAlloc _).drew).out⟩
  have hcon := Any.slices_SortFunc_total Try.sortI encN (fun _ => rfl) (cfH o (N := N)) (swoC o) 79 #[.pointer (some ⟨bx, 0, none⟩)] g 0 cap (rng N).toArray w eg hcmp hH (Array.getElem?_eq_some_iff.1 hgb).1 (by rw [hsz]; omega) (totC o)
  rw [hsz] at hcon
  change Calls Try.prog 78 #[.slice (some ⟨g, 0, none⟩) N cap, .func (.func 79) #[] #[.pointer (some ⟨bx, 0, none⟩)]] w _ at hcon
  refine hcon.mono ?_
  rintro e w' ⟨rfl, n, os, rfl⟩
  obtain ⟨l, el⟩ : ∃ l, (rng N).mergeSort (fun x y => !ltOf (cfH o) y x) = l := ⟨_, rfl⟩
  have hp : l.Perm (rng N) := by rw [← el]; exact List.mergeSort_perm _ _
  have hs : l.Pairwise (fun a b => (!decide (cfH o b a < 0)) = true) := by
    rw [← el]
    refine List.pairwise_mergeSort (le := fun x y => !ltOf (cfH o) y x) (fun a b c h1 h2 => ?_) (fun a b => ?_) _
    · simp only [Bool.not_eq_true', ltC] at *
      simp only [ahd, decide_eq_false_iff_not] at *
      omega
    · simp only [Bool.or_eq_true, Bool.not_eq_true', ltC]
      simp only [ahd, decide_eq_false_iff_not]
      omega
  have hl : l.length = N := by rw [hp.length_eq, rng_len]
  refine ⟨rfl, ⟨l.map (fun x => x.val), srt_of hN l hp hs, ?_⟩, grownE _⟩
  have eL : (List.toArray ((rng N).toArray.toList.mergeSort (fun x y => !ltOf (cfH o) y x))) = l.toArray := by
    rw [← el]
  rw [eL]
  have hmap : hcs (l.map (fun x => x.val)) = l.map encN := by simp [hcs, encN]
  refine ⟨by rw [hmap]; simp [hl], .inr ⟨g, cap, _, rfl, hb, heapE _ hgb, h1, h2, by simp [putCells, h3], ?_⟩⟩
  rw [hmap, Nat.mul_one]
  have q := takeE cur l (by omega)
  rw [hl] at q
  exact q
end Go.Proofs.Ytbifmcadllilhaa.Pn
namespace Go.Proofs.Ytbifmcadllilhaa.Pn
open Go.RowKit
set_option linter.unusedVariables false
/-- the first n targets -/
def tgs (o : List Int) (n : Nat) : List Int := (List.range n).map (tgt o)
theorem tgs_len (o : List Int) (n : Nat) : (tgs o n).length = n := by simp [tgs]
theorem tgs_succ (o : List Int) (n : Nat) : tgs o (n + 1) = tgs o n ++ [tgt o n] := by simp [tgs, List.range_succ]
theorem getD_of {o : List Int} {k : Nat} {p : Int} (h : o[k]? = some p) : o.getD k 0 = p := by rw [List.getD_eq_getElem?_getD, h]; rfl
/-- what the document's Targets answers -/
def RtR (o : List Int) (w : World) (e : Ending) (w' : World) : Prop :=
  (¬ MBL o ∧ e = .returned (.tuple #[.slice none 0 0, .int .i64 150]) ∧ Kp Nu w w') ∨
  (MBL o ∧ ∃ a c, e = .returned (.tuple #[.slice a o.length c, .int .i64 0]) ∧ w'.ownsRow w.heap.size 3 1 (.slice a o.length c) o.length (ics (tgs o o.length)) ∧ Kp Nu w w')
set_option maxRecDepth 100000 in
set_option maxHeartbeats 4000000 in
theorem targets14 (w : World) (u : Value) (o : List Int) (h : Ns w u o) (hN : o.length ≤ 140737488351232) : Calls Try.prog 14 #[u] w fun e w' => RtR o w e w' := by
  have TO := total30 w u o h hN
  obtain ⟨a, cap, rfl, _, _⟩ := id h
  obtain ⟨N, eN⟩ : ∃ N, o.length = N := ⟨_, rfl⟩
  have HN := hide (And.intro h eN)
  rw [eN] at TO ⊢
  clear h hN eN
  obtain ⟨i0, hiT, hz0, hz1, hz2⟩ := info_parts info3z
  go_enter Try.func14, Try.ntmps14
  go_wp2_with fail
  refine TO.mono ?_; rintro e w1 ⟨⟨S, rfl, hS⟩, hw⟩
  obtain rfl := hw
  clear TO
  rcases hS with ⟨hm, rfl⟩ | ⟨hm, rfl⟩
  rotate_left
  · have HM := hide hm
    clear hm
    go_wp2
    go_ret2
    exact .inl ⟨HM.out, rfl, Kp.refl _ _⟩
  obtain ⟨S, eS⟩ : ∃ S, o.sum = S := ⟨_, rfl⟩
  have hb := sum_bound hm.2.2
  rw [eS] at hb
  have hl := hm.2.1
  have hl1 := hm.1
  have HM := hide (And.intro hm eS)
  rw [HN.out.2] at hl hb hl1
  have d0 : decide (S < 0) = false := by simp; omega
  have hS0 : 0 ≤ S := by omega
  have hS1 : S ≤ 17179869184 := by omega
  have hNI : (N : Int) ≤ 16 := by omega
  have hN1 : (1 : Int) ≤ (N : Int) := by omega
  rw [eS]
  clear hm eS hb
  go_wp2
  go_loopw [6, 7] (fun ov iv wr => ∃ (i : Nat) (oa : Option Addr) (oc : Nat), iv = .int .i64 (i : Int) ∧ ov = .slice oa i oc ∧ i ≤ N ∧ Hid (wr.ownsRow w1.heap.size 3 1 (.slice oa i oc) i (ics (tgs o i)) ∧ Kp Nu w1 wr)) (fun _ iv _ => N - (intOf iv).toNat)
  case atStart => exact ⟨0, none, 0, rfl, rfl, Nat.zero_le _, hide ⟨World.ownsRow_nil _ _ _ _, Kp.refl _ _⟩⟩
  case round =>
    obtain ⟨i, oa, oc, rfl, rfl, hi, hI⟩ := hrel
    have hi0 : (0 : Int) ≤ (i : Int) := by omega
    obtain ⟨wl, rfl⟩ : ∃ wl : World, wl = wr := ⟨_, rfl⟩
    by_cases hlt : i < N
    · have hltI : (i : Int) < (N : Int) := by omega
      obtain ⟨q, hq⟩ : ∃ q, o[i]? = some q := ⟨_, List.getElem?_eq_getElem (by rw [HN.out.2]; exact hlt)⟩
      have HQ := hide hq
      have eti : (i : Int).toNat = i := by omega
      clear hq
      go_wp2
      go_loopw [8, 9] (fun av kv wr => ∃ (k n : Nat), kv = .int .i64 (k : Int) ∧ av = .int .i64 (n : Int) ∧ k ≤ N ∧ Hid (n = nAhd o i k ∧ Kp Nu wl wr)) (fun _ kv _ => N - (intOf kv).toNat)
      case atStart => exact ⟨0, 0, rfl, rfl, Nat.zero_le _, hide ⟨by simp [nAhd], Kp.refl _ _⟩⟩
      case round =>
        obtain ⟨k, n, rfl, rfl, hk, hJ⟩ := hrel
        have hk0 : (0 : Int) ≤ (k : Int) := by omega
        by_cases hkl : k < N
        · have hkI : (k : Int) < (N : Int) := by omega
          obtain ⟨p, hp⟩ : ∃ p, o[k]? = some p := ⟨_, List.getElem?_eq_getElem (by rw [HN.out.2]; exact hkl)⟩
          obtain ⟨b1, e1, c1⟩ := (HN.out.1.nu (hI.out.2.andNu hJ.out.2)).at_ hp
          obtain ⟨b2, e2, c2⟩ := (HN.out.1.nu (hI.out.2.andNu hJ.out.2)).at_ HQ.out
          subst e1
          simp only [Option.some.injEq] at e2
          subst e2
          have etk : (k : Int).toNat = k := by omega
          have HP := hide hp
          have hn16 : (n : Int) ≤ 16 := by have := nAhd_le o i k; have := hJ.out.1; omega
          have yes : (q < p ∨ p = q ∧ k < i) → n + 1 = nAhd o i (k + 1) := fun h => by
            rw [nAhd_succ, ← hJ.out.1, if_pos]
            simp only [ahd, decide_eq_true_eq, getD_of HP.out, getD_of HQ.out]
            exact h
          have no : ¬ (q < p ∨ p = q ∧ k < i) → n = nAhd o i (k + 1) := fun h => by
            have hf : ¬ ahd o k i = true := by
              simp only [ahd, decide_eq_true_eq, getD_of HP.out, getD_of HQ.out]
              exact h
            rw [nAhd_succ, ← hJ.out.1, if_neg hf]
            rfl
          have HY := hide yes
          have HNO := hide no
          clear hp yes no
          by_cases h1 : q < p
          · have x1 : decide (p > q) = true := by simpa using h1
            have H1 := hide h1
            go_wp2_with fail
            go_quiet (fail)
            go_wp2
            exact ⟨⟨k + 1, n + 1, by go_num, by go_num, by omega, hide ⟨HY.out (.inl H1.out), hJ.out.2.andNu ⟨rfl, rfl, rfl, Nat.le_refl _, fun _ _ _ => rfl⟩⟩⟩, by simp [intOf]; omega⟩
          have x1 : decide (p > q) = false := by simpa using h1
          by_cases h2 : p = q
          · have x2 : (p == q) = true := by simpa using h2
            by_cases h3 : k < i
            · have x3 : decide ((k : Int) < (i : Int)) = true := by simpa using h3
              have H1 := hide (And.intro h2 h3)
              clear h1 h2
              go_wp2_with fail
              go_quiet (fail)
              go_wp2
              exact ⟨⟨k + 1, n + 1, by go_num, by go_num, by omega, hide ⟨HY.out (.inr H1.out), hJ.out.2.andNu ⟨rfl, rfl, rfl, Nat.le_refl _, fun _ _ _ => rfl⟩⟩⟩, by simp [intOf]; omega⟩
            · have x3 : decide ((k : Int) < (i : Int)) = false := by simpa using h3
              have H1 : Hid (¬ (q < p ∨ p = q ∧ k < i)) := hide (by omega)
              clear h1 h2
              go_wp2_with fail
              go_quiet (fail)
              go_wp2
              exact ⟨⟨k + 1, n, by go_num, rfl, by omega, hide ⟨HNO.out H1.out, hJ.out.2.andNu ⟨rfl, rfl, rfl, Nat.le_refl _, fun _ _ _ => rfl⟩⟩⟩, by simp [intOf]; omega⟩
          · have x2 : (p == q) = false := by simpa using h2
            have H1 : Hid (¬ (q < p ∨ p = q ∧ k < i)) := hide (by omega)
            clear h1 h2
            go_wp2_with fail
            go_quiet (fail)
            go_wp2
            exact ⟨⟨k + 1, n, by go_num, rfl, by omega, hide ⟨HNO.out H1.out, hJ.out.2.andNu ⟨rfl, rfl, rfl, Nat.le_refl _, fun _ _ _ => rfl⟩⟩⟩, by simp [intOf]; omega⟩
        · have hge : ¬ (k : Int) < (N : Int) := by omega
          obtain rfl : N = k := by omega
          have hne : (N : Int) ≠ 0 := by omega
          have hne2 : ((N : Int) == 0) = false := by simpa using hne
          obtain ⟨D, eD⟩ : ∃ D, S / (N : Int) = D := ⟨_, rfl⟩
          obtain ⟨R, eR⟩ : ∃ R, S % (N : Int) = R := ⟨_, rfl⟩
          have hD0 : 0 ≤ D := by rw [← eD]; exact Int.ediv_nonneg hS0 (by omega)
          have hD1 : D ≤ S := by rw [← eD]; exact Int.ediv_le_self _ hS0
          have et1 : S.tdiv (N : Int) = D := by rw [Int.tdiv_eq_ediv_of_nonneg hS0, eD]
          have et2 : S.tmod (N : Int) = R := by rw [Int.tmod_eq_emod_of_nonneg hS0, eR]
          have ew1 : wrap64 D = D := by unfold wrap64; omega
          have ew3 : wrap64 (D + 1) = D + 1 := by unfold wrap64; omega
          have ew4 : IntKind.i64.wrap (D + 1) = D + 1 := by rw [IntKind.wrap_i64]; omega
          have ew2 : IntKind.i64.wrap D = D := by rw [IntKind.wrap_i64]; omega
          have HV : Hid (tgt o i = D + (if (n : Int) < R then 1 else 0)) := hide (by
            unfold tgt
            rw [HM.out.2, HN.out.2, eD, eR, ← hJ.out.1])
          have hown0 := own_keep hI.out.1 (fun g hg => hJ.out.2.block g (own_lt hI.out.1 hg) (fun h => h))
          have HO := hide (And.intro hown0 (And.intro (hI.out.2.andNu hJ.out.2) (hI.out.2.andNu hJ.out.2).size))
          have HSZ : Hid (∀ (v : Int) (g3 cap3 : Nat) (w3 : World), v = tgt o i → w3.ownsRow w1.heap.size 3 1 (.slice (some ⟨g3, 0, none⟩) (i + 1) cap3) (i + 1) (ics (tgs o i) ++ [.int .i64 v]) → (wr.alloc (.cells #[.int .i64 v] 3)).grownBy w3 (Value.slice oa i oc).ownBlock → Hid (w3.ownsRow w1.heap.size 3 1 (.slice (some ⟨g3, 0, none⟩) (i + 1) cap3) (i + 1) (ics (tgs o (i + 1))) ∧ Kp Nu w1 w3)) := hide (fun v g3 cap3 w3 hv h1 h2 => hide ⟨by rw [tgs_succ, ics_snoc, ← hv]; exact h1, (HO.out.2.1.andAlloc _).trans (Kp.of_grown h2) (fun x hx e => by have := own_ge (HO.out.1.alloc (.cells #[.int .i64 v] 3)) e.symm; omega)⟩)
          clear hown0
          by_cases hnR : (n : Int) < R
          · have x1 : decide ((n : Int) < R) = true := by simpa using hnR
            have hv : D + 1 = tgt o i := by rw [HV.out, if_pos hnR]
            have HV2 := hide hv
            clear hnR hv
            go_wp2_with (at_builtin; refine unhid ?_)
            refine wpList_append_lies _ rfl _ _ 22 rfl w1.heap.size 3 i0 _ 1 8 Try.underlying22 hiT hz0 hz1 hz2 rfl (by decide) (.slice oa i oc) i (ics (tgs o i)) rfl (HO.out.1.alloc _) ⟨wr.heap.size, 0, none⟩ 1 1 [.int .i64 (D + 1)] (by first | rfl | (simp; done)) rfl (World.news_of_block (heap_new wr _)) (by simp [Value.oneCell']) (by decide) (by unfold maxLen; omega) (by omega) (by rw [World.size_alloc]; have := HO.out.2.2; omega) _ rfl ?_
            intro g3 cap3 w3 hown3 hgrow3 hat3 hlt3
            have HF := HSZ.out (D + 1) g3 cap3 w3 HV2.out hown3 hgrow3
            clear hown3 hgrow3 hat3 hlt3
            go_wp2
            exact ⟨⟨i + 1, some ⟨g3, 0, none⟩, cap3, by go_num, rfl, by omega, HF⟩, by simp [intOf]; omega⟩
          · have x1 : decide ((n : Int) < R) = false := by simpa using hnR
            have hv : D = tgt o i := by rw [HV.out, if_neg hnR]; omega
            have HV2 := hide hv
            clear hnR hv
            go_wp2_with (at_builtin; refine unhid ?_)
            refine wpList_append_lies _ rfl _ _ 22 rfl w1.heap.size 3 i0 _ 1 8 Try.underlying22 hiT hz0 hz1 hz2 rfl (by decide) (.slice oa i oc) i (ics (tgs o i)) rfl (HO.out.1.alloc _) ⟨wr.heap.size, 0, none⟩ 1 1 [.int .i64 D] (by first | rfl | (simp; done)) rfl (World.news_of_block (heap_new wr _)) (by simp [Value.oneCell']) (by decide) (by unfold maxLen; omega) (by omega) (by rw [World.size_alloc]; have := HO.out.2.2; omega) _ rfl ?_
            intro g3 cap3 w3 hown3 hgrow3 hat3 hlt3
            have HF := HSZ.out D g3 cap3 w3 HV2.out hown3 hgrow3
            clear hown3 hgrow3 hat3 hlt3
            go_wp2
            exact ⟨⟨i + 1, some ⟨g3, 0, none⟩, cap3, by go_num, rfl, by omega, HF⟩, by simp [intOf]; omega⟩
    · have hge : ¬ (i : Int) < (N : Int) := by omega
      obtain rfl : N = i := by omega
      go_wp2
      go_ret2
      refine .inr ⟨HM.out.1, oa, oc, ?_, ?_, hI.out.2⟩
      · rw [HN.out.2]; rfl
      · rw [HN.out.2]; exact hI.out.1
end Go.Proofs.Ytbifmcadllilhaa.Pn
namespace Go.Proofs.Ytbifmcadllilhaa.Pn
open Go.RowKit
set_option linter.unusedVariables false
/-- a row of numbers of which some are told -/
structure Hq (w : World) (g N : Nat) (D : Nat → Prop) (f : Nat → Int) : Prop where
  mem : ∃ cur : Array Value, w.heap[g]? = some (.cells cur 3 (0, 0)) ∧ cur.size = N ∧ ∀ q, D q → cur[q]? = some (.int .i64 (f q))
theorem Hq.nu {w w' : World} {g N : Nat} {D : Nat → Prop} {f : Nat → Int} (h : Hq w g N D f) (k : Kp Nu w w') : Hq w' g N D f := by
  obtain ⟨cur, h1, h2, h3⟩ := h.mem
  exact ⟨cur, box_k h1 k, h2, h3⟩
theorem Hq.at_ {w : World} {g N q : Nat} {D : Nat → Prop} {f : Nat → Int} (h : Hq w g N D f) (hq : D q) : w.cell? ⟨g, q, none⟩ = some (.int .i64 (f q)) := by
  obtain ⟨cur, h1, h2, h3⟩ := h.mem
  exact cellAt h1 _ (h3 q hq)
theorem Hq.room {w : World} {g N q : Nat} {D : Nat → Prop} {f : Nat → Int} (h : Hq w g N D f) (hq : q < N) : ∃ v, w.cell? ⟨g, q, none⟩ = some v := by
  obtain ⟨cur, h1, h2, h3⟩ := h.mem
  exact ⟨_, cellAt h1 _ (Array.getElem?_eq_getElem (by omega))⟩
theorem Hq.free {w : World} {g N : Nat} {D : Nat → Prop} {f : Nat → Int} (h : Hq w g N D f) (o : Nat) : w.frozen? ⟨g, o, none⟩ = false := by
  obtain ⟨cur, h1, _⟩ := h.mem
  exact free3 h1 o
theorem Hq.lt {w : World} {g N : Nat} {D : Nat → Prop} {f : Nat → Int} (h : Hq w g N D f) : g < w.heap.size := by
  obtain ⟨cur, h1, _⟩ := h.mem
  exact blk_lt h1
theorem Hq.set {w : World} {g N i : Nat} {D D' : Nat → Prop} {f f' : Nat → Int} (h : Hq w g N D f) (hi : i < N) (hD : ∀ q, D' q → q = i ∨ D q) (hf : ∀ q, q ≠ i → D' q → f' q = f q) : Hq (w.setCell ⟨g, i, none⟩ (.int .i64 (f' i))) g N D' f' := by
  obtain ⟨cur, p1, p2, p3⟩ := h.mem
  refine ⟨_, set3 p1 _ _, by simp [p2], fun q hq => ?_⟩
  by_cases e : q = i
  · subst e
    rw [Array.getElem?_setIfInBounds_self_of_lt (by omega)]
  · rw [Array.getElem?_setIfInBounds_ne (fun e' => e e'.symm), p3 q ((hD q hq).resolve_left e), hf q e hq]
theorem Hq.own {w : World} {g N B : Nat} {D : Nat → Prop} {f : Nat → Int} (h : Hq w g N D f) (hD : ∀ q, q < N → D q) (hB : B ≤ g) (hM : N ≤ 16) (xs : List Value) (hx : xs = (List.range N).map (fun q => Value.int .i64 (f q))) : w.ownsRow B 3 1 (.slice (some ⟨g, 0, none⟩) N N) N xs := by
  subst hx
  obtain ⟨cur, p1, p2, p3⟩ := h.mem
  refine ⟨by simp, .inr ⟨g, N, cur, rfl, hB, p1, Nat.le_refl _, by unfold maxLen; omega, by omega, ?_⟩⟩
  apply List.ext_getElem?
  intro j
  by_cases hj : j < N
  · rw [List.getElem?_take_of_lt (by omega), Array.getElem?_toList, p3 j (hD j hj)]
    simp [hj]
  · rw [List.getElem?_take_eq_none (by omega), List.getElem?_eq_none (by simp; omega)]
theorem hq_made {w1 : World} {base g N : Nat} {xs : List Value} (f : Nat → Int) (h : w1.ownsRow base 3 1 (.slice (some ⟨g, 0, none⟩) N N) N xs) : Hq w1 g N (fun _ => False) f := by
  rcases h.2 with ⟨e, _⟩ | ⟨g', cap, cur, e, hb', hg, h1, h2, h3, h4⟩
  · cases e
  · cases e
    exact ⟨cur, hg, by omega, fun q hq => hq.elim⟩
set_option maxRecDepth 100000 in
set_option maxHeartbeats 2000000 in
theorem byLoad55 (w : World) (b : Addr) (cp : Nat) (o : List Int) (N : Nat) (hO : Ns w (.slice (some b) N cp) o) (hN : o.length = N) (hN1 : 1 ≤ N) (hN16 : N ≤ 16) (hb : b.block < w.heap.size) :
    Calls Try.prog 55 #[.slice (some b) N cp] w fun e w' => ∃ g s, e = .returned (.slice (some ⟨g, 0, none⟩) N N) ∧ Srt o s ∧ w'.ownsRow w.heap.size 3 1 (.slice (some ⟨g, 0, none⟩) N N) N (hcs s) ∧ Kp Nu w w' := by
  have HO := hide (And.intro hO (And.intro hN hb))
  have hNI : (N : Int) ≤ 16 := by omega
  have hbA := heap_new w (.cells #[.slice (some b) N cp] 22)
  have HB := hide hbA
  clear hO hN hb hbA
  obtain ⟨z0, hzi, hz0, hz1, hz2⟩ := info_parts info3z
  go_enter Try.func55, Try.ntmps55
  go_wp2_with (at_make; refine wpList_make_full _ rfl _ _ 22 rfl (w.heap.size + 1) 3 z0 _ 1 Try.underlying22 hzi hz0 hz1 _ _ _ _ N rfl rfl rfl rfl (by rw [hz2]; omega) (by unfold maxLen; omega) (by rw [World.size_alloc]; exact Nat.le_refl _) ?_; intro w4 hrow4 hgr4)
  have hq4 := hq_made (fun q => (q : Int)) hrow4
  rw [World.size_alloc] at hq4
  have k4 : Kp Nu (w.alloc (.cells #[.slice (some b) N cp] 22)) w4 := (Kp.of_grown hgr4).mono (fun _ _ e => by cases e)
  have H4 := hide (And.intro hq4 (And.intro k4 ((Kp.alloc w _ Nu).andNu k4)))
  clear hrow4 hgr4 hq4 k4
  go_wp2
  go_loopw [10] (fun iv wr => ∃ i : Nat, iv = .int .i64 (i : Int) ∧ i ≤ N ∧ Hid (Hq wr (w.heap.size + 1) N (fun q => q < i) (fun q => (q : Int)) ∧ Kp Nu w wr ∧ wr.heap[w.heap.size]? = some (.cells #[.slice (some b) N cp] 22 (0, 0)))) (fun iv _ => N - (intOf iv).toNat)
  case atStart => exact ⟨0, rfl, Nat.zero_le _, hide ⟨⟨by obtain ⟨cur, p1, p2, p3⟩ := H4.out.1.mem; exact ⟨cur, p1, p2, fun q hq => by omega⟩⟩, H4.out.2.2, box_k HB.out H4.out.2.1⟩⟩
  case round =>
    obtain ⟨i, rfl, hi, hI⟩ := hrel
    have hi0 : (0 : Int) ≤ (i : Int) := by omega
    by_cases hlt : i < N
    · have hltI : (i : Int) < (N : Int) := by omega
      obtain ⟨v, hv⟩ := hI.out.1.room hlt
      have hf := hI.out.1.free i
      have eti : (i : Int).toNat = i := by omega
      go_wp2
      refine ⟨⟨i + 1, by go_num, by omega, hide ⟨hI.out.1.set (f' := fun q => (q : Int)) hlt (fun q hq => by omega) (fun q _ _ => rfl), hI.out.2.1.andSet _ _ (.inl (Nat.le_succ _)), ?_⟩⟩, by simp [intOf]; omega⟩
      exact ((Kp.setCell wr ⟨w.heap.size + 1, i, none⟩ _).block _ (blk_lt hI.out.2.2) (fun e => by have e : w.heap.size = w.heap.size + 1 := e; omega)).trans hI.out.2.2
    · have hge : ¬ (i : Int) < (N : Int) := by omega
      obtain rfl : N = i := by omega
      have hown := hI.out.1.own (B := w.heap.size) (fun q hq => hq) (Nat.le_succ _) hN16 (hcs (List.range N)) rfl
      have SO := sort78 wr o N w.heap.size (w.heap.size + 1) N w.heap.size cp b HO.out.2.1 hN1 hN16 hown (cellAt hI.out.2.2 0 rfl) (fun j x hj => by
        obtain ⟨b', e', hc⟩ := (HO.out.1.nu hI.out.2.1).at_ hj
        cases e'
        exact hc) (by omega) (by have := HO.out.2.2; omega)
      have bb := cellAt hI.out.2.2 0 (v := .slice (some b) N cp) rfl
      clear hown
      go_wp2_with fail
      refine SO.mono ?_; rintro e w5 ⟨rfl, ⟨s, hs, hrow⟩, hgr⟩
      have HS := hide (And.intro hs (And.intro hrow (hI.out.2.1.trans (Kp.of_grown hgr) (fun x hx e => by simp at e; omega))))
      clear SO hs hrow hgr
      go_wp2
      go_ret
      exact ⟨_, s, rfl, HS.out.1, HS.out.2.1, HS.out.2.2⟩
end Go.Proofs.Ytbifmcadllilhaa.Pn
