import Derived.Test.YtgaehpdlljlliaaRdI
namespace Go.Proofs.Ytgaehpdlljlliaa.Cd
open Go.RowKit
set_option linter.unusedVariables false

set_option maxHeartbeats 1000000 in
theorem gtake8 {w : World} {u : Value} {D : List Int} {A : Nat} (h : Src w u D A) (n : Int) (hn : n ≤ 9223372036854775807) : Calls Try.prog 73 #[u, .int .i64 (A : Int), .int .i64 8, .int .i64 n] w (Ans D A (tk 8 n 0 (D.drop A)) w) := by
  have hA := h.at_
  have hl := h.len
  have K2 : ∀ (o1 o2 : Obj), Kp Nu w ((w.alloc o1).alloc o2) := fun o1 o2 => ((Kp.refl Nu w).andAlloc o1).andAlloc o2
  have hlI : (D.length : Int) ≤ 16777216 := by omega
  have hAI : (A : Int) ≤ (D.length : Int) := by omega
  have ht : tk 8 n 0 (D.drop A) = tkB (rdR n 0 (D.drop A)) := by simp [tk]
  rw [ht]
  clear ht
  by_cases hn0 : n < 0
  · rw [show tkB (rdR n 0 (D.drop A)) = ⟨0, 0, false, [], 2, D.drop A⟩ by simp only [rdR, if_true, if_pos hn0, tkB]]
    have F := fun w' (k : Kp Nu w w') => ans_bad (q := 2) hA k
    obtain ⟨ad, cap, hu⟩ := h.rd.slice
    subst hu
    obtain ⟨hbox, hres, hkw⟩ := bx w 8 (Kp.refl Nu _)
    obtain ⟨b0, b1, b2, b3, b4⟩ := cell5 hbox
    obtain ⟨r0, r1, r2, r3, r4⟩ := cell5 hres
    have g0 := free3 hres 0
    have g1 := free3 hres 1
    have g2 := free3 hres 2
    have g3 := free3 hres 3
    have g4 := free3 hres 4
    clear h hbox hres K2
    generalize D.length = L at *
    go_enter Try.func73, Try.ntmps73
    go_wp2
    refine bodyPost_ret (v := .tuple #[.agg #[.int .i64 0, .int .u64 0, .int .i64 0, .bool false, .slice none 0 0], .int .i64 0, .int .i64 2]) (by simp [results, Try.results73, go_sem, *]) rfl (F _ ?_)
    repeat (refine Kp.andSetS ?_ _ _ (by simp))
    exact hkw
  by_cases hs : n > (D.length : Int) - (A : Int)
  · rw [show tkB (rdR n 0 (D.drop A)) = ⟨0, 0, false, [], 21, D.drop A⟩ by simp only [rdR, if_true, if_neg hn0, tkB]; rw [if_pos (by rw [List.length_drop]; omega)]]
    have F := fun w' (k : Kp Nu w w') => ans_bad (q := 21) hA k
    obtain ⟨ad, cap, hu⟩ := h.rd.slice
    subst hu
    obtain ⟨hbox, hres, hkw⟩ := bx w 8 (Kp.refl Nu _)
    obtain ⟨b0, b1, b2, b3, b4⟩ := cell5 hbox
    obtain ⟨r0, r1, r2, r3, r4⟩ := cell5 hres
    have g0 := free3 hres 0
    have g1 := free3 hres 1
    have g2 := free3 hres 2
    have g3 := free3 hres 3
    have g4 := free3 hres 4
    clear h hbox hres K2
    generalize D.length = L at *
    go_enter Try.func73, Try.ntmps73
    go_wp2
    refine bodyPost_ret (v := .tuple #[.agg #[.int .i64 0, .int .u64 0, .int .i64 0, .bool false, .slice none 0 0], .int .i64 0, .int .i64 21]) (by simp [results, Try.results73, go_sem, *]) rfl (F _ ?_)
    repeat (refine Kp.andSetS ?_ _ _ (by simp))
    exact hkw
  · obtain ⟨m, rfl⟩ : ∃ m : Nat, n = (m : Int) := ⟨n.toNat, by omega⟩
    have hm : A + m ≤ D.length := by omega
    rw [show tkB (rdR (m : Int) 0 (D.drop A)) = ⟨0, 0, false, (D.drop A).take m, 0, D.drop (A + m)⟩ by
      simp only [rdR, if_true, if_neg hn0, tkB]
      rw [if_neg (by rw [List.length_drop]; omega)]
      simp only [Int.toNat_natCast, List.drop_drop]]
    rcases h.cap with ⟨e1, e0⟩ | ⟨g, cap, hu, hcap⟩
    · subst e0 e1
      have hA0 : A = 0 := by simpa using hA
      have hm0 : m = 0 := by simp at hm; omega
      subst hA0 hm0
      have J0 := fun w' => join_any (rd_nil w') (rd_nil w') (by simp)
      simp only [List.nil_append] at J0
      simp only [List.drop_nil, List.take_nil]
      clear h K2
      go_enter Try.func73, Try.ntmps73
      go_wp2_with fail
      refine (J0 _).mono ?_; rintro e w1 ⟨d, rfl, hd⟩
      clear J0
      have hrd := hd.1
      have hfu : ∀ G, at? d = some G → w.heap.size + 2 ≤ G := by
        intro G hG
        rcases hd.2.1 with e2 | ⟨G', hG', e2⟩
        · rw [e2] at hG; cases hG
        · rw [e2] at hG; cases hG; simpa using hG'
      have hfs : fresh w.heap.size d := fresh_le hd.2.1 (by simp; omega)
      have HFU := hide hfu
      obtain ⟨hbox, hres, hkw⟩ := bx w 8 hd.2.2
      obtain ⟨ad2, cap2, hd2⟩ := hrd.slice
      rw [List.length_nil] at hd2
      subst hd2
      obtain ⟨b0, b1, b2, b3, b4⟩ := cell5 hbox
      obtain ⟨r0, r1, r2, r3, r4⟩ := cell5 hres
      have f1 := free3 hbox 4
      have g0 := free3 hres 0
      have g1 := free3 hres 1
      have g2 := free3 hres 2
      have g3 := free3 hres 3
      have g4 := free3 hres 4
      clear hbox hres hd hfu
      go_wp2
      refine bodyPost_ret (v := .tuple #[.agg #[.int .i64 8, .int .u64 0, .int .i64 0, .bool false, .slice ad2 0 cap2], .int .i64 (0 : Int), .int .i64 0]) (by simp [results, Try.results73, go_sem, *]) rfl ⟨8, _, 0, rfl, ?_, hfs, ?_, by simp, rfl⟩
      · have hfu := HFU.out
        repeat (refine Rd.andSet ?_ _ _ (fun e => by have := hfu _ e; simp only at this; omega))
        exact hrd
      · repeat (refine Kp.andSetS ?_ _ _ (by simp))
        exact hkw
    · subst hu
      have P := fun w' (k' : Kp Nu w w') c => rd_piece (A := A) (n := m) (h.rd.keeps k' (fun _ _ h => h)) hm c
      have J := fun w' (k' : Kp Nu w w') c => join_any (rd_nil w') (P w' k' c) (by simp; omega)
      simp only [List.nil_append] at J
      have HPL : Hid (((D.drop A).take m).length = m) := by
        show _ = _
        rw [List.length_take, List.length_drop]; omega
      have HF : Hid (A + m ≤ D.length) := hm
      have hcapI : (D.length : Int) ≤ (cap : Int) := by omega
      have hmI : (A : Int) + (m : Int) ≤ (D.length : Int) := by omega
      clear P h hm
      generalize (D.drop A).take m = ys at *
      obtain ⟨R, hR⟩ : ∃ R, D.drop (A + m) = R := ⟨_, rfl⟩
      rw [hR]
      have HRR := hide hR
      obtain ⟨L, hLL⟩ : ∃ L, D.length = L := ⟨_, rfl⟩
      rw [hLL] at hcapI hmI hlI hAI hs hl hA hcap ⊢
      clear hLL hR
      go_enter Try.func73, Try.ntmps73
      go_wp2_with fail
      · have hcA : cap = A := ‹cap = A›
        have hm0 : m = 0 := by omega
        have hy : ys = [] := List.eq_nil_of_length_eq_zero (by rw [HPL.out]; exact hm0)
        have J0 := fun w' => join_any (rd_nil w') (rd_empty (w := w') (a := some ⟨g, 0, none⟩) (c := 0) (fun e => by cases e)) (by simp)
        simp only [List.nil_append] at J0
        refine Calls.mono (show Calls Try.prog 47 #[.slice none 0 0, .slice (some ⟨g, 0, none⟩) m 0] _ _ by rw [hm0]; exact J0 _) ?_; rintro e w1 ⟨d, rfl, hd⟩
        rw [← hy] at hd
        clear J0 J K2
        have hrd := hd.1
        have hfu : ∀ G, at? d = some G → w.heap.size + 2 ≤ G := by
          intro G hG
          rcases hd.2.1 with e2 | ⟨G', hG', e2⟩
          · rw [e2] at hG; cases hG
          · rw [e2] at hG; cases hG; simpa using hG'
        have hfs : fresh w.heap.size d := fresh_le hd.2.1 (by simp; omega)
        have HFU := hide hfu
        obtain ⟨hbox, hres, hkw⟩ := bx w 8 hd.2.2
        obtain ⟨ad2, cap2, hd2⟩ := hrd.slice
        rw [HPL.out] at hd2
        subst hd2
        obtain ⟨b0, b1, b2, b3, b4⟩ := cell5 hbox
        obtain ⟨r0, r1, r2, r3, r4⟩ := cell5 hres
        have f1 := free3 hbox 4
        have g0 := free3 hres 0
        have g1 := free3 hres 1
        have g2 := free3 hres 2
        have g3 := free3 hres 3
        have g4 := free3 hres 4
        clear hbox hres hd hfu
        go_wp2
        refine bodyPost_ret (v := .tuple #[.agg #[.int .i64 8, .int .u64 0, .int .i64 0, .bool false, .slice ad2 m cap2], .int .i64 (m : Int), .int .i64 0]) (by simp [results, Try.results73, go_sem, *]) rfl ⟨8, _, m, rfl, ?_, hfs, ?_, HF.out, HRR.out.symm⟩
        · have hfu := HFU.out
          repeat (refine Rd.andSet ?_ _ _ (fun e => by have := hfu _ e; simp only at this; omega))
          exact hrd
        · repeat (refine Kp.andSetS ?_ _ _ (by simp))
          exact hkw
      · refine (J _ (K2 _ _) _).mono ?_; rintro e w1 ⟨d, rfl, hd⟩
        clear J K2
        have hrd := hd.1
        have hfu : ∀ G, at? d = some G → w.heap.size + 2 ≤ G := by
          intro G hG
          rcases hd.2.1 with e2 | ⟨G', hG', e2⟩
          · rw [e2] at hG; cases hG
          · rw [e2] at hG; cases hG; simpa using hG'
        have hfs : fresh w.heap.size d := fresh_le hd.2.1 (by simp; omega)
        have HFU := hide hfu
        obtain ⟨hbox, hres, hkw⟩ := bx w 8 hd.2.2
        obtain ⟨ad2, cap2, hd2⟩ := hrd.slice
        rw [HPL.out] at hd2
        subst hd2
        obtain ⟨b0, b1, b2, b3, b4⟩ := cell5 hbox
        obtain ⟨r0, r1, r2, r3, r4⟩ := cell5 hres
        have f1 := free3 hbox 4
        have g0 := free3 hres 0
        have g1 := free3 hres 1
        have g2 := free3 hres 2
        have g3 := free3 hres 3
        have g4 := free3 hres 4
        clear hbox hres hd hfu
        go_wp2
        refine bodyPost_ret (v := .tuple #[.agg #[.int .i64 8, .int .u64 0, .int .i64 0, .bool false, .slice ad2 m cap2], .int .i64 (m : Int), .int .i64 0]) (by simp [results, Try.results73, go_sem, *]) rfl ⟨8, _, m, rfl, ?_, hfs, ?_, HF.out, HRR.out.symm⟩
        · have hfu := HFU.out
          repeat (refine Rd.andSet ?_ _ _ (fun e => by have := hfu _ e; simp only at this; omega))
          exact hrd
        · repeat (refine Kp.andSetS ?_ _ _ (by simp))
          exact hkw

theorem gtake_any {w : World} {u : Value} {D : List Int} {A : Nat} (h : Src w u D A) (kind n : Int) (hT : isT kind = true) (hn : n ≤ 9223372036854775807) : Calls Try.prog 73 #[u, .int .i64 (A : Int), .int .i64 kind, .int .i64 n] w (Ans D A (tk kind n 0 (D.drop A)) w) := by
  simp only [isT, Bool.and_eq_true, decide_eq_true_eq] at hT
  have : kind = 1 ∨ kind = 2 ∨ kind = 3 ∨ kind = 4 ∨ kind = 5 ∨ kind = 6 ∨ kind = 7 ∨ kind = 8 ∨ kind = 9 := by omega
  rcases this with rfl | rfl | rfl | rfl | rfl | rfl | rfl | rfl | rfl
  · exact gtake1 h n
  · exact gtake2 h n
  · exact gtake3 h n
  · exact gtake4 h n
  · exact gtake5 h n
  · exact gtake6 h n
  · exact gtake7 h n
  · exact gtake8 h n hn
  · exact gtake9 h n hn
end Go.Proofs.Ytgaehpdlljlliaa.Cd
