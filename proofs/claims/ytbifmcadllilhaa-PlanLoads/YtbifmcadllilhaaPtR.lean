import Derived.Test.YtbifmcadllilhaaPtP
namespace Go.Proofs.Ytbifmcadllilhaa.Pn
open Go.RowKit
set_option linter.unusedVariables false
/-- the first n targets -/
def tgs (o : List Int) (n : Nat) : List Int := (List.range n).map (tgt o)
theorem tgs_len (o : List Int) (n : Nat) : (tgs o n).length = n := by simp [tgs]
theorem tgs_succ (o : List Int) (n : Nat) : tgs o (n + 1) = tgs o n ++ [tgt o n] := by simp [tgs, List.range_succ]
theorem getD_of {o : List Int} {k : Nat} {p : Int} (h : o[k]? = some p) : o.getD k 0 = p := by rw [List.getD_eq_getElem?_getD, h]; rfl
/-- what the document's Targets answers -/
def RtR (o : List Int) (w : World) (e : Ending) (w' : World) : Prop :=
  (¬ MBL o ∧ e = .returned (.tuple #[.slice none 0 0, .int .i64 150]) ∧ Kp Nu w w') ∨
  (MBL o ∧ ∃ a c, e = .returned (.tuple #[.slice a o.length c, .int .i64 0]) ∧ w'.ownsRow w.heap.size 3 1 (.slice a o.length c) o.length (ics (tgs o o.length)) ∧ Kp Nu w w')
set_option maxRecDepth 100000 in
set_option maxHeartbeats 4000000 in
theorem targets14 (w : World) (u : Value) (o : List Int) (h : Ns w u o) (hN : o.length ≤ 140737488351232) : Calls Try.prog 14 #[u] w fun e w' => RtR o w e w' := by
  have TO := total30 w u o h hN
  obtain ⟨a, cap, rfl, _, _⟩ := id h
  obtain ⟨N, eN⟩ : ∃ N, o.length = N := ⟨_, rfl⟩
  have HN := hide (And.intro h eN)
  rw [eN] at TO ⊢
  clear h hN eN
  obtain ⟨i0, hiT, hz0, hz1, hz2⟩ := info_parts info3z
  go_enter Try.func14, Try.ntmps14
  go_wp2_with fail
  refine TO.mono ?_; rintro e w1 ⟨⟨S, rfl, hS⟩, hw⟩
  obtain rfl := hw
  clear TO
  rcases hS with ⟨hm, rfl⟩ | ⟨hm, rfl⟩
  rotate_left
  · have HM := hide hm
    clear hm
    go_wp2
    go_ret2
    exact .inl ⟨HM.out, rfl, Kp.refl _ _⟩
  obtain ⟨S, eS⟩ : ∃ S, o.sum = S := ⟨_, rfl⟩
  have hb := sum_bound hm.2.2
  rw [eS] at hb
  have hl := hm.2.1
  have hl1 := hm.1
  have HM := hide (And.intro hm eS)
  rw [HN.out.2] at hl hb hl1
  have d0 : decide (S < 0) = false := by simp; omega
  have hS0 : 0 ≤ S := by omega
  have hS1 : S ≤ 17179869184 := by omega
  have hNI : (N : Int) ≤ 16 := by omega
  have hN1 : (1 : Int) ≤ (N : Int) := by omega
  rw [eS]
  clear hm eS hb
  go_wp2
  go_loopw [6, 7] (fun ov iv wr => ∃ (i : Nat) (oa : Option Addr) (oc : Nat), iv = .int .i64 (i : Int) ∧ ov = .slice oa i oc ∧ i ≤ N ∧ Hid (wr.ownsRow w1.heap.size 3 1 (.slice oa i oc) i (ics (tgs o i)) ∧ Kp Nu w1 wr)) (fun _ iv _ => N - (intOf iv).toNat)
  case atStart => exact ⟨0, none, 0, rfl, rfl, Nat.zero_le _, hide ⟨World.ownsRow_nil _ _ _ _, Kp.refl _ _⟩⟩
  case round =>
    obtain ⟨i, oa, oc, rfl, rfl, hi, hI⟩ := hrel
    have hi0 : (0 : Int) ≤ (i : Int) := by omega
    obtain ⟨wl, rfl⟩ : ∃ wl : World, wl = wr := ⟨_, rfl⟩
    by_cases hlt : i < N
    · have hltI : (i : Int) < (N : Int) := by omega
      obtain ⟨q, hq⟩ : ∃ q, o[i]? = some q := ⟨_, List.getElem?_eq_getElem (by rw [HN.out.2]; exact hlt)⟩
      have HQ := hide hq
      have eti : (i : Int).toNat = i := by omega
      clear hq
      go_wp2
      go_loopw [8, 9] (fun av kv wr => ∃ (k n : Nat), kv = .int .i64 (k : Int) ∧ av = .int .i64 (n : Int) ∧ k ≤ N ∧ Hid (n = nAhd o i k ∧ Kp Nu wl wr)) (fun _ kv _ => N - (intOf kv).toNat)
      case atStart => exact ⟨0, 0, rfl, rfl, Nat.zero_le _, hide ⟨by simp [nAhd], Kp.refl _ _⟩⟩
      case round =>
        obtain ⟨k, n, rfl, rfl, hk, hJ⟩ := hrel
        have hk0 : (0 : Int) ≤ (k : Int) := by omega
        by_cases hkl : k < N
        · have hkI : (k : Int) < (N : Int) := by omega
          obtain ⟨p, hp⟩ : ∃ p, o[k]? = some p := ⟨_, List.getElem?_eq_getElem (by rw [HN.out.2]; exact hkl)⟩
          obtain ⟨b1, e1, c1⟩ := (HN.out.1.nu (hI.out.2.andNu hJ.out.2)).at_ hp
          obtain ⟨b2, e2, c2⟩ := (HN.out.1.nu (hI.out.2.andNu hJ.out.2)).at_ HQ.out
          subst e1
          simp only [Option.some.injEq] at e2
          subst e2
          have etk : (k : Int).toNat = k := by omega
          have HP := hide hp
          have hn16 : (n : Int) ≤ 16 := by have := nAhd_le o i k; have := hJ.out.1; omega
          have yes : (q < p ∨ p = q ∧ k < i) → n + 1 = nAhd o i (k + 1) := fun h => by
            rw [nAhd_succ, ← hJ.out.1, if_pos]
            simp only [ahd, decide_eq_true_eq, getD_of HP.out, getD_of HQ.out]
            exact h
          have no : ¬ (q < p ∨ p = q ∧ k < i) → n = nAhd o i (k + 1) := fun h => by
            have hf : ¬ ahd o k i = true := by
              simp only [ahd, decide_eq_true_eq, getD_of HP.out, getD_of HQ.out]
              exact h
            rw [nAhd_succ, ← hJ.out.1, if_neg hf]
            rfl
          have HY := hide yes
          have HNO := hide no
          clear hp yes no
          by_cases h1 : q < p
          · have x1 : decide (p > q) = true := by simpa using h1
            have H1 := hide h1
            go_wp2_with fail
            go_quiet (fail)
            go_wp2
            exact ⟨⟨k + 1, n + 1, by go_num, by go_num, by omega, hide ⟨HY.out (.inl H1.out), hJ.out.2.andNu ⟨rfl, rfl, rfl, Nat.le_refl _, fun _ _ _ => rfl⟩⟩⟩, by simp [intOf]; omega⟩
          have x1 : decide (p > q) = false := by simpa using h1
          by_cases h2 : p = q
          · have x2 : (p == q) = true := by simpa using h2
            by_cases h3 : k < i
            · have x3 : decide ((k : Int) < (i : Int)) = true := by simpa using h3
              have H1 := hide (And.intro h2 h3)
              clear h1 h2
              go_wp2_with fail
              go_quiet (fail)
              go_wp2
              exact ⟨⟨k + 1, n + 1, by go_num, by go_num, by omega, hide ⟨HY.out (.inr H1.out), hJ.out.2.andNu ⟨rfl, rfl, rfl, Nat.le_refl _, fun _ _ _ => rfl⟩⟩⟩, by simp [intOf]; omega⟩
            · have x3 : decide ((k : Int) < (i : Int)) = false := by simpa using h3
              have H1 : Hid (¬ (q < p ∨ p = q ∧ k < i)) := hide (by omega)
              clear h1 h2
              go_wp2_with fail
              go_quiet (fail)
              go_wp2
              exact ⟨⟨k + 1, n, by go_num, rfl, by omega, hide ⟨HNO.out H1.out, hJ.out.2.andNu ⟨rfl, rfl, rfl, Nat.le_refl _, fun _ _ _ => rfl⟩⟩⟩, by simp [intOf]; omega⟩
          · have x2 : (p == q) = false := by simpa using h2
            have H1 : Hid (¬ (q < p ∨ p = q ∧ k < i)) := hide (by omega)
            clear h1 h2
            go_wp2_with fail
            go_quiet (fail)
            go_wp2
            exact ⟨⟨k + 1, n, by go_num, rfl, by omega, hide ⟨HNO.out H1.out, hJ.out.2.andNu ⟨rfl, rfl, rfl, Nat.le_refl _, fun _ _ _ => rfl⟩⟩⟩, by simp [intOf]; omega⟩
        · have hge : ¬ (k : Int) < (N : Int) := by omega
          obtain rfl : N = k := by omega
          have hne : (N : Int) ≠ 0 := by omega
          have hne2 : ((N : Int) == 0) = false := by simpa using hne
          obtain ⟨D, eD⟩ : ∃ D, S / (N : Int) = D := ⟨_, rfl⟩
          obtain ⟨R, eR⟩ : ∃ R, S % (N : Int) = R := ⟨_, rfl⟩
          have hD0 : 0 ≤ D := by rw [← eD]; exact Int.ediv_nonneg hS0 (by omega)
          have hD1 : D ≤ S := by rw [← eD]; exact Int.ediv_le_self _ hS0
          have et1 : S.tdiv (N : Int) = D := by rw [Int.tdiv_eq_ediv_of_nonneg hS0, eD]
          have et2 : S.tmod (N : Int) = R := by rw [Int.tmod_eq_emod_of_nonneg hS0, eR]
          have ew1 : wrap64 D = D := by unfold wrap64; omega
          have ew3 : wrap64 (D + 1) = D + 1 := by unfold wrap64; omega
          have ew4 : IntKind.i64.wrap (D + 1) = D + 1 := by rw [IntKind.wrap_i64]; omega
          have ew2 : IntKind.i64.wrap D = D := by rw [IntKind.wrap_i64]; omega
          have HV : Hid (tgt o i = D + (if (n : Int) < R then 1 else 0)) := hide (by
            unfold tgt
            rw [HM.out.2, HN.out.2, eD, eR, ← hJ.out.1])
          have hown0 := own_keep hI.out.1 (fun g hg => hJ.out.2.block g (own_lt hI.out.1 hg) (fun h => h))
          have HO := hide (And.intro hown0 (And.intro (hI.out.2.andNu hJ.out.2) (hI.out.2.andNu hJ.out.2).size))
          have HSZ : Hid (∀ (v : Int) (g3 cap3 : Nat) (w3 : World), v = tgt o i → w3.ownsRow w1.heap.size 3 1 (.slice (some ⟨g3, 0, none⟩) (i + 1) cap3) (i + 1) (ics (tgs o i) ++ [.int .i64 v]) → (wr.alloc (.cells #[.int .i64 v] 3)).grownBy w3 (Value.slice oa i oc).ownBlock → Hid (w3.ownsRow w1.heap.size 3 1 (.slice (some ⟨g3, 0, none⟩) (i + 1) cap3) (i + 1) (ics (tgs o (i + 1))) ∧ Kp Nu w1 w3)) := hide (fun v g3 cap3 w3 hv h1 h2 => hide ⟨by rw [tgs_succ, ics_snoc, ← hv]; exact h1, (HO.out.2.1.andAlloc _).trans (Kp.of_grown h2) (fun x hx e => by have := own_ge (HO.out.1.alloc (.cells #[.int .i64 v] 3)) e.symm; omega)⟩)
          clear hown0
          by_cases hnR : (n : Int) < R
          · have x1 : decide ((n : Int) < R) = true := by simpa using hnR
            have hv : D + 1 = tgt o i := by rw [HV.out, if_pos hnR]
            have HV2 := hide hv
            clear hnR hv
            go_wp2_with (at_builtin; refine unhid ?_)
            refine wpList_append_lies _ rfl _ _ 22 rfl w1.heap.size 3 i0 _ 1 8 Try.underlying22 hiT hz0 hz1 hz2 rfl (by decide) (.slice oa i oc) i (ics (tgs o i)) rfl (HO.out.1.alloc _) ⟨wr.heap.size, 0, none⟩ 1 1 [.int .i64 (D + 1)] (by first | rfl | (simp; done)) rfl (World.news_of_block (heap_new wr _)) (by simp [Value.oneCell']) (by decide) (by unfold maxLen; omega) (by omega) (by rw [World.size_alloc]; have := HO.out.2.2; omega) _ rfl ?_
            intro g3 cap3 w3 hown3 hgrow3 hat3 hlt3
            have HF := HSZ.out (D + 1) g3 cap3 w3 HV2.out hown3 hgrow3
            clear hown3 hgrow3 hat3 hlt3
            go_wp2
            exact ⟨⟨i + 1, some ⟨g3, 0, none⟩, cap3, by go_num, rfl, by omega, HF⟩, by simp [intOf]; omega⟩
          · have x1 : decide ((n : Int) < R) = false := by simpa using hnR
            have hv : D = tgt o i := by rw [HV.out, if_neg hnR]; omega
            have HV2 := hide hv
            clear hnR hv
            go_wp2_with (at_builtin; refine unhid ?_)
            refine wpList_append_lies _ rfl _ _ 22 rfl w1.heap.size 3 i0 _ 1 8 Try.underlying22 hiT hz0 hz1 hz2 rfl (by decide) (.slice oa i oc) i (ics (tgs o i)) rfl (HO.out.1.alloc _) ⟨wr.heap.size, 0, none⟩ 1 1 [.int .i64 D] (by first | rfl | (simp; done)) rfl (World.news_of_block (heap_new wr _)) (by simp [Value.oneCell']) (by decide) (by unfold maxLen; omega) (by omega) (by rw [World.size_alloc]; have := HO.out.2.2; omega) _ rfl ?_
            intro g3 cap3 w3 hown3 hgrow3 hat3 hlt3
            have HF := HSZ.out D g3 cap3 w3 HV2.out hown3 hgrow3
            clear hown3 hgrow3 hat3 hlt3
            go_wp2
            exact ⟨⟨i + 1, some ⟨g3, 0, none⟩, cap3, by go_num, rfl, by omega, HF⟩, by simp [intOf]; omega⟩
    · have hge : ¬ (i : Int) < (N : Int) := by omega
      obtain rfl : N = i := by omega
      go_wp2
      go_ret2
      refine .inr ⟨HM.out.1, oa, oc, ?_, ?_, hI.out.2⟩
      · rw [HN.out.2]; rfl
      · rw [HN.out.2]; exact hI.out.1
end Go.Proofs.Ytbifmcadllilhaa.Pn
