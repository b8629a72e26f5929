import Derived.Test.YtgaehpdlljlliaaRdH
namespace Go.Proofs.Ytgaehpdlljlliaa.Cd
open Go.RowKit
set_option linter.unusedVariables false

/-- a byte of the source, where it lies -/
theorem Src.cell {w : World} {u : Value} {D : List Int} {A : Nat} (h : Src w u D A) (hA : A < D.length) : ∃ g cap, u = .slice (some ⟨g, 0, none⟩) D.length cap ∧ D.length ≤ cap ∧ ∀ w', Kp Nu w w' → w'.cell? ⟨g, A, none⟩ = some (.int .u8 D[A]) := by
  rcases h.cap with ⟨_, e0⟩ | ⟨g, cap, hu, hcap⟩
  · subst e0; simp at hA
  refine ⟨g, cap, hu, hcap, fun w' k => ?_⟩
  subst hu
  rcases h.rd.keeps k (fun _ _ h => h) with ⟨e, _⟩ | ⟨a, cap', e, hc⟩
  · cases e
  · cases e
    obtain ⟨ab, ao, e2, _, h3⟩ := addr_of hc hA
    cases e2
    simpa using h3

set_option maxHeartbeats 1000000 in
theorem gtake7 {w : World} {u : Value} {D : List Int} {A : Nat} (h : Src w u D A) (n : Int) : Calls Try.prog 73 #[u, .int .i64 (A : Int), .int .i64 7, .int .i64 n] w (Ans D A (tk 7 n 0 (D.drop A)) w) := by
  have hA := h.at_
  have hl := h.len
  have K2 : ∀ (o1 o2 : Obj), Kp Nu w ((w.alloc o1).alloc o2) := fun o1 o2 => ((Kp.refl Nu w).andAlloc o1).andAlloc o2
  have hlI : (D.length : Int) ≤ 16777216 := by omega
  have hAI : (A : Int) ≤ (D.length : Int) := by omega
  have ht : tk 7 n 0 (D.drop A) = ⟨0, 0, (rdF 0 (D.drop A)).1, [], (rdF 0 (D.drop A)).2.1, (rdF 0 (D.drop A)).2.2⟩ := by simp [tk]
  rw [ht]
  clear ht
  by_cases hs : D.length - A < 1
  · have hd : D.drop A = [] := List.drop_of_length_le (by omega)
    rw [show (⟨0, 0, (rdF 0 (D.drop A)).1, [], (rdF 0 (D.drop A)).2.1, (rdF 0 (D.drop A)).2.2⟩ : Tk) = ⟨0, 0, false, [], 21, D.drop A⟩ by rw [hd]; rfl]
    have F := fun w' (k : Kp Nu w w') => ans_bad (q := 21) hA k
    obtain ⟨ad, cap, hu⟩ := h.rd.slice
    subst hu
    have hsI : (D.length : Int) - (A : Int) < 1 := by omega
    obtain ⟨hbox, hres, hkw⟩ := bx w 7 (Kp.refl Nu _)
    obtain ⟨b0, b1, b2, b3, b4⟩ := cell5 hbox
    obtain ⟨r0, r1, r2, r3, r4⟩ := cell5 hres
    have g0 := free3 hres 0
    have g1 := free3 hres 1
    have g2 := free3 hres 2
    have g3 := free3 hres 3
    have g4 := free3 hres 4
    clear h hs hbox hres K2 hd
    generalize D.length = L at *
    go_enter Try.func73, Try.ntmps73
    go_wp2
    refine bodyPost_ret (v := .tuple #[.agg #[.int .i64 0, .int .u64 0, .int .i64 0, .bool false, .slice none 0 0], .int .i64 0, .int .i64 21]) (by simp [results, Try.results73, go_sem, *]) rfl (F _ ?_)
    repeat (refine Kp.andSetS ?_ _ _ (by simp))
    exact hkw
  · have hAl : A < D.length := by omega
    obtain ⟨g, cap, hu, hcap, hcell⟩ := h.cell hAl
    have hd := drop_cons hAl
    rw [hd]
    obtain ⟨z0, z1⟩ := h.byt D[A] (List.getElem_mem hAl)
    subst hu
    have hsI : ¬ (D.length : Int) - (A : Int) < 1 := by omega
    have hAl2 : (A : Int) < (D.length : Int) := by omega
    have HF : Hid (A + 1 ≤ D.length) := hAl
    by_cases hz : D[A] > 1
    · rw [show (⟨0, 0, (rdF 0 (D[A] :: D.drop (A + 1))).1, [], (rdF 0 (D[A] :: D.drop (A + 1))).2.1, (rdF 0 (D[A] :: D.drop (A + 1))).2.2⟩ : Tk) = ⟨0, 0, false, [], 24, D.drop A⟩ by rw [hd]; simp only [rdF, if_true]; rw [if_pos hz]; rfl]
      have F := fun w' (k : Kp Nu w w') => ans_bad (q := 24) hA k
      have hc1 := hcell _ (K2 (.cells #[.int .i64 0, .int .u64 0, .int .i64 0, .bool false, .slice none 0 0] 40) (.cells #[.int .i64 7, .int .u64 0, .int .i64 0, .bool false, .slice none 0 0] 40))
      obtain ⟨hbox, hres, hkw⟩ := bx w 7 (Kp.refl Nu _)
      obtain ⟨b0, b1, b2, b3, b4⟩ := cell5 hbox
      obtain ⟨r0, r1, r2, r3, r4⟩ := cell5 hres
      have g0 := free3 hres 0
      have g1 := free3 hres 1
      have g2 := free3 hres 2
      have g3 := free3 hres 3
      have g4 := free3 hres 4
      clear h hs hbox hres K2 hd hcell
      generalize D[A] = z at *
      generalize D.length = L at *
      go_enter Try.func73, Try.ntmps73
      go_wp2
      refine bodyPost_ret (v := .tuple #[.agg #[.int .i64 0, .int .u64 0, .int .i64 0, .bool false, .slice none 0 0], .int .i64 0, .int .i64 24]) (by simp [results, Try.results73, go_sem, *]) rfl (F _ ?_)
      repeat (refine Kp.andSetS ?_ _ _ (by simp))
      exact hkw
    · have hc1 := hcell _ (K2 (.cells #[.int .i64 0, .int .u64 0, .int .i64 0, .bool false, .slice none 0 0] 40) (.cells #[.int .i64 7, .int .u64 0, .int .i64 0, .bool false, .slice none 0 0] 40))
      rw [show (⟨0, 0, (rdF 0 (D[A] :: D.drop (A + 1))).1, [], (rdF 0 (D[A] :: D.drop (A + 1))).2.1, (rdF 0 (D[A] :: D.drop (A + 1))).2.2⟩ : Tk) = ⟨0, 0, D[A] == 1, [], 0, D.drop (A + 1)⟩ by simp only [rdF, if_true]; rw [if_neg hz]; rfl]
      obtain ⟨hbox, hres, hkw⟩ := bx w 7 (Kp.refl Nu _)
      obtain ⟨b0, b1, b2, b3, b4⟩ := cell5 hbox
      obtain ⟨r0, r1, r2, r3, r4⟩ := cell5 hres
      have f1 := free3 hbox 3
      have g0 := free3 hres 0
      have g1 := free3 hres 1
      have g2 := free3 hres 2
      have g3 := free3 hres 3
      have g4 := free3 hres 4
      clear h hs hbox hres K2 hd hcell
      generalize D[A] = z at *
      obtain ⟨L, hL⟩ : ∃ L, D.length = L := ⟨_, rfl⟩
      rw [hL] at hlI hAI hsI hAl2 hcap ⊢
      clear hL hl hA hAl
      go_enter Try.func73, Try.ntmps73
      go_wp2
      refine bodyPost_ret (v := .tuple #[.agg #[.int .i64 7, .int .u64 0, .int .i64 0, .bool (z == 1), .slice none 0 0], .int .i64 1, .int .i64 0]) (by simp [results, Try.results73, go_sem, *]) rfl ⟨7, _, 1, rfl, rd_nil _, fresh_nil _, ?_, HF.out, rfl⟩
      exact ((Kp.refl Nu w).andAlloc _).andAlloc _

theorem gtake9 {w : World} {u : Value} {D : List Int} {A : Nat} (h : Src w u D A) (n : Int) (hn : n ≤ 9223372036854775807) : Calls Try.prog 73 #[u, .int .i64 (A : Int), .int .i64 9, .int .i64 n] w (Ans D A (tk 9 n 0 (D.drop A)) w) := by
  have hA := h.at_
  have hl := h.len
  have B := fun w' (k : Kp Nu w w') => gblock_any (h.rd.keeps k (fun _ _ h => h)) h.cap h.byt hl A hA n hn
  have K2 : ∀ (o1 o2 : Obj), Kp Nu w ((w.alloc o1).alloc o2) := fun o1 o2 => ((Kp.refl Nu w).andAlloc o1).andAlloc o2
  have hlI : (D.length : Int) ≤ 16777216 := by omega
  have hAI : (A : Int) ≤ (D.length : Int) := by omega
  obtain ⟨ad, cap, hu⟩ := h.rd.slice
  subst hu
  generalize tk 9 n 0 (D.drop A) = t at *
  clear h
  obtain ⟨L, hL⟩ : ∃ L, D.length = L := ⟨_, rfl⟩
  rw [hL] at B hlI hAI ⊢
  clear hL hl hA
  go_enter Try.func73, Try.ntmps73
  go_wp2_with fail
  refine Calls.mono (B _ (K2 _ _)) ?_; rintro e w1 ⟨kd, u', k, rfl, hu', hfr, hk1, hf, hx⟩
  obtain ⟨hbox, hres, hkw⟩ := bx w 9 hk1
  have hfu : at? u' ≠ some w.heap.size := by
    intro e
    rcases hfr with e2 | ⟨G, hG, e2⟩
    · rw [e2] at e; cases e
    · rw [e2] at e; cases e; simp at hG; omega
  have hfs : fresh w.heap.size u' := fresh_le hfr (by simp; omega)
  obtain ⟨ad2, cap2, hu2⟩ := hu'.slice
  have HF := hide hf
  have HX := hide hx
  obtain ⟨tN, tI, tF, tbs, terr, txs⟩ := t
  simp only at hu' hu2 ⊢
  generalize tbs.length = TL at *
  subst hu2
  obtain ⟨b0, b1, b2, b3, b4⟩ := cell5 hbox
  obtain ⟨r0, r1, r2, r3, r4⟩ := cell5 hres
  have g0 := free3 hres 0
  have g1 := free3 hres 1
  have g2 := free3 hres 2
  have g3 := free3 hres 3
  have g4 := free3 hres 4
  clear hbox hres B K2 hk1 hfr hf hx
  go_wp2
  refine bodyPost_ret (v := .tuple #[.agg #[.int .i64 kd, .int .u64 tN, .int .i64 tI, .bool tF, .slice ad2 TL cap2], .int .i64 (k : Int), .int .i64 terr]) (by simp [results, Try.results73, go_sem, *]) rfl ⟨kd, _, k, rfl, ?_, hfs, ?_, HF.out, HX.out⟩
  · repeat (refine Rd.andSet ?_ _ _ hfu)
    exact hu'
  · repeat (refine Kp.andSetS ?_ _ _ (by simp))
    exact hkw
end Go.Proofs.Ytgaehpdlljlliaa.Cd
