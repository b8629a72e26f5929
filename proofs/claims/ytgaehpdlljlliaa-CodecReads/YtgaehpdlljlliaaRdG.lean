import Derived.Test.YtgaehpdlljlliaaRdF
namespace Go.Proofs.Ytgaehpdlljlliaa.Cd
open Go.RowKit
set_option linter.unusedVariables false

theorem fresh_le {m n : Nat} {u : Value} (h : fresh m u) (hn : n ≤ m) : fresh n u := by
  rcases h with e | ⟨G, hG, e⟩
  · exact .inl e
  · exact .inr ⟨G, by omega, e⟩
/-- what the document's take answers: a thing, how many bytes it has, its error -/
def Ans (D : List Int) (A : Nat) (t : Tk) (w : World) (e : Ending) (w' : World) : Prop :=
  ∃ (kd : Int) (u : Value) (k : Nat), e = .returned (.tuple #[.agg #[.int .i64 kd, .int .u64 t.N, .int .i64 t.I, .bool t.F, u], .int .i64 (k : Int), .int .i64 t.err]) ∧ Rd w' u t.bs ∧ fresh w.heap.size u ∧ Kp Nu w w' ∧ A + k ≤ D.length ∧ t.xs = D.drop (A + k)

theorem ans_bad {D : List Int} {A : Nat} {q : Int} {w w' : World} (hA : A ≤ D.length) (hk : Kp Nu w w') : Ans D A ⟨0, 0, false, [], q, D.drop A⟩ w (.returned (.tuple #[.agg #[.int .i64 0, .int .u64 0, .int .i64 0, .bool false, .slice none 0 0], .int .i64 0, .int .i64 q])) w' :=
  ⟨0, _, 0, rfl, rd_nil _, fresh_nil _, hk, by omega, rfl⟩

theorem rd_piece {w : World} {g cap n A : Nat} {D : List Int} (h : Rd w (.slice (some ⟨g, 0, none⟩) D.length cap) D) (hA : A + n ≤ D.length) (c : Nat) : Rd w (.slice (some ⟨g, A, none⟩) n c) ((D.drop A).take n) := by
  rcases h with ⟨e, _⟩ | ⟨a, cap', e, hc⟩
  · cases e
  · cases e
    have hl : ((D.drop A).take n).length = n := by rw [List.length_take, List.length_drop]; omega
    refine .inr ⟨⟨g, A, none⟩, c, by rw [hl], fun j u hj => ?_⟩
    have := hc (A + j) u (by
      simp only [cs, List.getElem?_map, List.getElem?_take] at hj ⊢
      split at hj
      · rw [List.getElem?_drop] at hj; exact hj
      · simp at hj)
    rw [addo] at this ⊢
    simpa using this
theorem rd_empty {w : World} {a : Option Addr} {c : Nat} (h : a = none → c = 0) : Rd w (.slice a 0 c) [] := by
  cases a with
  | none => rw [h rfl]; exact .inl ⟨rfl, rfl⟩
  | some a => exact .inr ⟨a, c, rfl, fun j u hj => by simp [cs] at hj⟩

/-- the box of the answer behind a call -/
theorem box1 {w w1 : World} (hk : Kp Nu (w.alloc (.cells #[.int .i64 0, .int .u64 0, .int .i64 0, .bool false, .slice none 0 0] 40)) w1) :
    w1.heap[w.heap.size]? = some (.cells #[.int .i64 0, .int .u64 0, .int .i64 0, .bool false, .slice none 0 0] 40 (0, 0)) ∧ Kp Nu w w1 :=
  ⟨(hk.block w.heap.size (by simp) (fun h => h)).trans (heap_alloc_new w _), (Kp.alloc w _ Nu).trans hk (fun _ _ h => h)⟩

set_option maxHeartbeats 1000000 in
theorem gblock_any {w : World} {u : Value} {D : List Int} (h : Rd w u D) (hc : Cap u D) (hB : Byt D) (hl : D.length ≤ 16777216) (A : Nat) (hA : A ≤ D.length) (most : Int) (hm : most ≤ 9223372036854775807) :
    Calls Try.prog 83 #[u, .int .i64 (A : Int), .int .i64 most] w (Ans D A (tk 9 most 0 (D.drop A)) w) := by
  have ht : tk 9 most 0 (D.drop A) = tkB (rdB most 0 (D.drop A)) := by simp [tk]
  rw [ht]
  clear ht
  by_cases hn : most < 0
  · rw [show tkB (rdB most 0 (D.drop A)) = ⟨0, 0, false, [], 2, D.drop A⟩ by simp only [rdB, if_true, if_pos hn, tkB]]
    have F := fun w' (k : Kp Nu w w') => ans_bad (q := 2) hA k
    clear hB hc
    obtain ⟨ad, cap, hu⟩ := h.slice
    subst hu
    generalize D.length = L at *
    go_enter Try.func83, Try.ntmps83
    go_wp2
    exact bodyPost_ret (v := .tuple #[.agg #[.int .i64 0, .int .u64 0, .int .i64 0, .bool false, .slice none 0 0], .int .i64 0, .int .i64 2]) (by simp [results, Try.results83, go_sem]) rfl (F _ (Kp.alloc _ _ _))
  · have G := fun o => grouped_any (h.keeps (Kp.alloc w o Nu) (fun _ _ h => h)) hB hl A hA
    by_cases hg : (gv 0 0 (D.drop A)).2.2 = 0
    · obtain ⟨x0, x1⟩ := gv_range (D.drop A) (hB.drop A) 0 0 (by omega) (by omega) (by simp)
      have hgl := gv_len (D.drop A) 0 0 hg
      obtain ⟨k, hk⟩ : ∃ k : Nat, (gv 0 0 (D.drop A)).2.1 = (k : Int) := ⟨(gv 0 0 (D.drop A)).2.1.toNat, by omega⟩
      obtain ⟨x, hx⟩ : ∃ x : Int, (gv 0 0 (D.drop A)).1 = x := ⟨_, rfl⟩
      rw [hx] at x0 x1
      rw [hk, List.length_drop] at hgl
      have hkD : A + k ≤ D.length := by omega
      by_cases hmost : x > most
      · rw [show tkB (rdB most 0 (D.drop A)) = ⟨0, 0, false, [], 25, D.drop A⟩ by simp only [rdB, if_true, if_neg hn, if_pos hg, hx, if_pos hmost, tkB]]
        have F := fun w' (k : Kp Nu w w') => ans_bad (q := 25) hA k
        rw [hg, hk, hx] at G
        obtain ⟨ad, cap, hu⟩ := h.slice
        subst hu
        clear hB hc hg hk hx hgl x1
        generalize D.length = L at *
        go_enter Try.func83, Try.ntmps83
        go_wp2_with fail
        refine (G _).mono ?_; rintro e w1 ⟨rfl, hk1⟩
        obtain ⟨hbox, hk2⟩ := box1 hk1
        obtain ⟨r0, r1, r2, r3, r4⟩ := cell5 hbox
        have g0 := free3 hbox 0
        have g1 := free3 hbox 1
        have g2 := free3 hbox 2
        have g3 := free3 hbox 3
        have g4 := free3 hbox 4
        clear hbox hk1
        go_wp2
        refine bodyPost_ret (v := .tuple #[.agg #[.int .i64 0, .int .u64 0, .int .i64 0, .bool false, .slice none 0 0], .int .i64 0, .int .i64 25]) (by simp [results, Try.results83, go_sem, *]) rfl (F _ ?_)
        repeat (refine Kp.andSetS ?_ _ _ (by simp))
        exact hk2
      · by_cases hsh : x > (D.length : Int) - (A : Int) - (k : Int)
        · rw [show tkB (rdB most 0 (D.drop A)) = ⟨0, 0, false, [], 21, D.drop A⟩ by simp only [rdB, if_true, if_neg hn, if_pos hg, hx, if_neg hmost, hk, tkB]; rw [if_pos (by rw [List.length_drop]; omega)]]
          have F := fun w' (k : Kp Nu w w') => ans_bad (q := 21) hA k
          rw [hg, hk, hx] at G
          obtain ⟨ad, cap, hu⟩ := h.slice
          subst hu
          have hlI : (D.length : Int) ≤ 16777216 := by omega
          have hge : (0 : Int) ≤ (D.length : Int) - (A : Int) - (k : Int) := by omega
          clear hB hc hg hk hx hgl x1
          generalize D.length = L at *
          go_enter Try.func83, Try.ntmps83
          go_wp2_with fail
          refine (G _).mono ?_; rintro e w1 ⟨rfl, hk1⟩
          obtain ⟨hbox, hk2⟩ := box1 hk1
          obtain ⟨r0, r1, r2, r3, r4⟩ := cell5 hbox
          have g0 := free3 hbox 0
          have g1 := free3 hbox 1
          have g2 := free3 hbox 2
          have g3 := free3 hbox 3
          have g4 := free3 hbox 4
          clear hbox hk1
          go_wp2
          refine bodyPost_ret (v := .tuple #[.agg #[.int .i64 0, .int .u64 0, .int .i64 0, .bool false, .slice none 0 0], .int .i64 0, .int .i64 21]) (by simp [results, Try.results83, go_sem, *]) rfl (F _ ?_)
          repeat (refine Kp.andSetS ?_ _ _ (by simp))
          exact hk2
        · obtain ⟨m, rfl⟩ : ∃ m : Nat, x = (m : Int) := ⟨x.toNat, by omega⟩
          have hkm : A + k + m ≤ D.length := by omega
          rw [show tkB (rdB most 0 (D.drop A)) = ⟨0, 0, false, (D.drop (A + k)).take m, 0, D.drop (A + (k + m))⟩ by
            simp only [rdB, if_true, if_neg hn, if_pos hg, hx, if_neg hmost, hk, tkB]
            rw [if_neg (by rw [List.length_drop]; omega)]
            simp only [Int.toNat_natCast, List.drop_drop]]
          rw [hg, hk, hx] at G
          rcases hc with ⟨_, e0⟩ | ⟨g, cap, hu, hcap⟩
          · subst e0
            simp [gv] at hg
          subst hu
          have P := fun w' (k' : Kp Nu w w') c => rd_piece (A := A + k) (n := m) (h.keeps k' (fun _ _ h => h)) (by omega) c
          have J := fun w' (k' : Kp Nu w w') c => join_any (rd_nil w') (P w' k' c) (by simp; omega)
          simp only [List.nil_append] at J
          have HPL : Hid (((D.drop (A + k)).take m).length = m) := by
            show _ = _
            rw [List.length_take, List.length_drop]; omega
          have HFIN : Hid (A + (k + m) ≤ D.length) := by
            show _ ≤ _
            omega
          have hlI : (D.length : Int) ≤ 16777216 := by omega
          have hcapI : (D.length : Int) ≤ (cap : Int) := by omega
          have hkmI : (A : Int) + (k : Int) + (m : Int) ≤ (D.length : Int) := by omega
          have hge : (0 : Int) ≤ (D.length : Int) - (A : Int) - (k : Int) := by omega
          clear hB hg hk hx hgl x1 P h hkm hkD hl
          generalize (D.drop (A + k)).take m = ys at *
          generalize hR : D.drop (A + (k + m)) = R at *
          have HRR := hide hR
          clear hR
          generalize hLL : D.length = L at *
          have HLL := hide hLL
          clear hLL
          go_enter Try.func83, Try.ntmps83
          go_wp2_with fail
          refine (G _).mono ?_; rintro e w1 ⟨rfl, hk1⟩
          obtain ⟨_, hk2⟩ := box1 hk1
          go_wp2_with fail
          · have hcA : cap = A + k := ‹cap = A + k›
            have hm0 : m = 0 := by omega
            have hy : ys = [] := List.eq_nil_of_length_eq_zero (by rw [HPL.out]; exact hm0)
            have J0 := join_any (rd_nil w1) (rd_empty (w := w1) (a := some ⟨g, 0, none⟩) (c := 0) (fun e => by cases e)) (by simp)
            simp only [List.nil_append] at J0
            refine (show Calls Try.prog 47 #[.slice none 0 0, .slice (some ⟨g, 0, none⟩) m 0] w1 _ by rw [hm0]; exact J0).mono ?_; rintro e w2 ⟨d, rfl, hd⟩
            rw [← hy] at hd
            obtain ⟨hbox, _⟩ := box1 hk1
            have hbox2 := (hd.2.2.block w.heap.size (by have := block_lt hbox; exact this) (fun h => h)).trans hbox
            have hlt := block_lt hbox
            have hat : at? d ≠ some w.heap.size := by
              intro e
              rcases hd.2.1 with e2 | ⟨G, hG, e2⟩
              · rw [e2] at e; cases e
              · rw [e2] at e; cases e; omega
            have hrd := hd.1
            have hfr := fresh_le hd.2.1 hk2.size
            have hk3 := hk2.trans hd.2.2 (fun _ _ h => h)
            obtain ⟨ad2, cap2, hd2⟩ := hrd.slice
            rw [HPL.out] at hd2
            subst hd2
            obtain ⟨r0, r1, r2, r3, r4⟩ := cell5 hbox2
            have g0 := free3 hbox2 0
            have g1 := free3 hbox2 1
            have g2 := free3 hbox2 2
            have g3 := free3 hbox2 3
            have g4 := free3 hbox2 4
            clear hbox hbox2 hk1 J hk2 hd hlt
            go_wp2
            refine bodyPost_ret (v := .tuple #[.agg #[.int .i64 9, .int .u64 0, .int .i64 0, .bool false, .slice ad2 m cap2], .int .i64 ((k : Int) + (m : Int)), .int .i64 0]) (by simp [results, Try.results83, go_sem, *]) rfl ⟨9, _, k + m, by rw [Int.natCast_add], ?_, hfr, ?_, by rw [HLL.out]; exact HFIN.out, HRR.out.symm⟩
            · repeat (refine Rd.andSet ?_ _ _ hat)
              exact hrd
            · repeat (refine Kp.andSetS ?_ _ _ (by simp))
              exact hk3
          · refine (J w1 hk2 _).mono ?_; rintro e w2 ⟨d, rfl, hd⟩
            obtain ⟨hbox, _⟩ := box1 hk1
            have hbox2 := (hd.2.2.block w.heap.size (by have := block_lt hbox; exact this) (fun h => h)).trans hbox
            have hlt := block_lt hbox
            have hat : at? d ≠ some w.heap.size := by
              intro e
              rcases hd.2.1 with e2 | ⟨G, hG, e2⟩
              · rw [e2] at e; cases e
              · rw [e2] at e; cases e; omega
            have hrd := hd.1
            have hfr := fresh_le hd.2.1 hk2.size
            have hk3 := hk2.trans hd.2.2 (fun _ _ h => h)
            obtain ⟨ad2, cap2, hd2⟩ := hrd.slice
            rw [HPL.out] at hd2
            subst hd2
            obtain ⟨r0, r1, r2, r3, r4⟩ := cell5 hbox2
            have g0 := free3 hbox2 0
            have g1 := free3 hbox2 1
            have g2 := free3 hbox2 2
            have g3 := free3 hbox2 3
            have g4 := free3 hbox2 4
            clear hbox hbox2 hk1 J hk2 hd hlt
            go_wp2
            refine bodyPost_ret (v := .tuple #[.agg #[.int .i64 9, .int .u64 0, .int .i64 0, .bool false, .slice ad2 m cap2], .int .i64 ((k : Int) + (m : Int)), .int .i64 0]) (by simp [results, Try.results83, go_sem, *]) rfl ⟨9, _, k + m, by rw [Int.natCast_add], ?_, hfr, ?_, by rw [HLL.out]; exact HFIN.out, HRR.out.symm⟩
            · repeat (refine Rd.andSet ?_ _ _ hat)
              exact hrd
            · repeat (refine Kp.andSetS ?_ _ _ (by simp))
              exact hk3
    · have hbad := gv_bad (D.drop A) 0 0 hg
      rw [show tkB (rdB most 0 (D.drop A)) = ⟨0, 0, false, [], (gv 0 0 (D.drop A)).2.2, D.drop A⟩ by simp only [rdB, if_true, if_neg hn, if_neg hg, tkB]]
      have F := fun w' (k : Kp Nu w w') => ans_bad (q := (gv 0 0 (D.drop A)).2.2) hA k
      rw [hbad] at G
      have hg' : ((gv 0 0 (D.drop A)).2.2 != 0) = true := by simpa using hg
      generalize (gv 0 0 (D.drop A)).2.2 = q at *
      simp only at G
      obtain ⟨ad, cap, hu⟩ := h.slice
      subst hu
      clear hg hB hc hbad
      generalize D.length = L at *
      go_enter Try.func83, Try.ntmps83
      go_wp2_with fail
      refine (G _).mono ?_; rintro e w1 ⟨rfl, hk1⟩
      obtain ⟨hbox, hk2⟩ := box1 hk1
      obtain ⟨r0, r1, r2, r3, r4⟩ := cell5 hbox
      have g0 := free3 hbox 0
      have g1 := free3 hbox 1
      have g2 := free3 hbox 2
      have g3 := free3 hbox 3
      have g4 := free3 hbox 4
      clear hbox hk1
      go_wp2
      refine bodyPost_ret (v := .tuple #[.agg #[.int .i64 0, .int .u64 0, .int .i64 0, .bool false, .slice none 0 0], .int .i64 0, .int .i64 q]) (by simp [results, Try.results83, go_sem, *]) rfl (F _ ?_)
      repeat (refine Kp.andSetS ?_ _ _ (by simp))
      exact hk2
end Go.Proofs.Ytgaehpdlljlliaa.Cd
