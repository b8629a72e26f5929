import Derived.Test.YtckjededijgjgaaDoorUrF
import Derived.Test.YtckjededijgjgaaDoorRpL
namespace Go.Proofs.YtckjededijgjgaaDoor.Ur
open Go.RowKit
open Go.Proofs.YtckjededijgjgaaDoor.Pc (P4 pieces)
open Go.Proofs.YtckjededijgjgaaDoor.Uq (rqG unqF preQ three)
open Go.Proofs.YtckjededijgjgaaDoor.Wd (Bg bg_step bg_end bg_zero)
set_option linter.unusedVariables false

theorem preQ_iff (l : List UInt8) : preQ l = true ↔ l[0]? = some 34 := by
  cases l with
  | nil => simp [Uq.preQ, Lib.hasPrefix]
  | cons x t =>
    have e : preQ (x :: t) = (34 == x) := by simp [Uq.preQ, Lib.hasPrefix, List.isPrefixOf]
    rw [e, beq_iff_eq, List.getElem?_cons_zero]
    constructor
    · intro h; rw [h]
    · intro h; exact (Option.some.inj h).symm
theorem first_of (s : ByteArray) : atL (pieces s) 0 = 34 ↔ preQ s.data.toList = true := by
  rw [preQ_iff]
  rcases at_bg (bg_zero s) with ⟨h1, h2, h3, h4⟩ | ⟨h1, h2⟩
  · rw [h3, Ft.get_list s 0 h1]
    constructor
    · intro h
      exact congrArg some (UInt8.toNat_inj.1 (by simpa using (by omega : (s.get! 0).toNat = 34)))
    · intro h
      rw [Option.some.inj h]; rfl
  · constructor
    · intro h; omega
    · intro h
      have hlt : 0 < s.data.toList.length := (List.getElem?_eq_some_iff.1 h).1
      have hlt' : 0 < s.size := by rw [Array.length_toList] at hlt; exact hlt
      rw [Ft.get_list s 0 hlt'] at h
      rw [Option.some.inj h] at h2
      rcases h2 with h2 | h2
      · omega
      · exact absurd h2 (by decide)
theorem first_bg {s : ByteArray} (h : atL (pieces s) 0 = 34) : Bg s 1 1 ∧ 0 < s.size := by
  rcases at_bg (bg_zero s) with ⟨h1, h2, h3, h4⟩ | ⟨h1, h2⟩
  · exact ⟨h4, h1⟩
  · omega
theorem first_skip {s : ByteArray} (h : atL (pieces s) 0 = 34) : rqG s (pieces s) 1 [] = rqG s ((pieces s).drop 1) 1 [] := by
  have := rq_skip (s := s) (k := 0) (pos := 0) (n := 1) (fun m hm => by
    obtain rfl : m = 0 := by omega
    exact ⟨(first_bg h).2, bg_zero s⟩) [] 1 0 rfl
  exact this

set_option maxRecDepth 100000 in
set_option maxHeartbeats 1600000 in
theorem refUnquote_any (s : ByteArray) (hs : s.size ≤ 11000000) (w : World) :
    Calls Tryd.prog 39 #[.string s] w fun e W' => e = .returned (three (unqF s)) ∧ Below w.heap.size w W' := by
  have RP := Rp.refPieces_big s hs w
  have hpl := Wd.pieces_len s
  by_cases hq : atL (pieces s) 0 = 34
  · have hQ := (first_of s).1 hq
    obtain ⟨hbg, _⟩ := first_bg hq
    have hR : unqF s = if (rqG s ((pieces s).drop 1) 1 []).2.2 ≠ 0 then ([], (rqG s ((pieces s).drop 1) 1 []).2.1, (rqG s ((pieces s).drop 1) 1 []).2.2) else if (rqG s ((pieces s).drop 1) 1 []).2.1 < (s.size : Int) then ([], (rqG s ((pieces s).drop 1) 1 []).2.1, 11) else ((rqG s ((pieces s).drop 1) 1 []).1, 0, 0) := by
      unfold Uq.unqF
      rw [first_skip hq, if_neg (by rw [hQ]; simp)]
    have QD := fun (W : World) (ad : Option Addr) (cap : Nat) (hL : Lp W ad (pieces s)) => quoted_any s hs cap hL 0 1 hbg (Nat.zero_le _) 1 (by omega)
    have HST := fun (K q : Nat) (h : Bg s K q) (hk : K < (pieces s).length) => bg_step h hk
    have HEN := fun (K q : Nat) (h : Bg s K q) (hk : (pieces s).length ≤ K) => bg_end h hk
    have HQD := hide QD
    have HSTh := hide HST
    have HENh := hide HEN
    clear QD HST HEN
    rw [hR]
    clear hR hQ hbg
    generalize rqG s ((pieces s).drop 1) 1 [] = R at *
    obtain ⟨T, pl, er⟩ := R
    obtain ⟨F, hF⟩ : ∃ F, three (if er ≠ 0 then ([], pl, er) else if pl < (s.size : Int) then ([], pl, 11) else (T, 0, 0)) = F := ⟨_, rfl⟩
    have HF := hide hF
    simp only at HF ⊢
    rw [hF]
    clear hF
    go_enter Tryd.func39, Tryd.ntmps39
    go_wp2_with fail
    refine RP.mono ?_; rintro e w1 ⟨v, rfl, hrow, hb1⟩
    obtain ⟨ad, cap, rfl, hL⟩ := lp_of hrow
    have A0 : Calls Tryd.prog 77 #[.slice ad (pieces s).length cap, .int .i64 0] w1 fun e w' => e = .returned (.int .i64 34) ∧ w' = w1 := by
      have := at_any cap hL (by omega) 0
      rw [hq] at this
      exact this
    have Q0 : Calls Tryd.prog 78 #[.string s, .slice ad (pieces s).length cap, .int .i64 0] w1 fun e w' => QR s (T, pl, er) e ∧ Below w1.heap.size w1 w' := HQD.out w1 ad cap hL
    clear RP hrow HQD hq
    obtain ⟨N, hN⟩ : ∃ N, (pieces s).length = N := ⟨_, rfl⟩
    have HN := hide hN
    have HL := hide hL
    rw [hN] at A0 Q0 ⊢
    clear hN hL hpl
    go_wp2_with fail
    refine A0.mono ?_; rintro e w2 ⟨rfl, hw⟩; obtain rfl := hw.symm
    go_wp2_with fail
    refine Q0.mono ?_; rintro e w2 ⟨hqr, hb2⟩
    rcases hqr with ⟨h0, K, q, hpl2, hBg, rfl⟩ | ⟨h0, rfl⟩
    · have h0' : er = 0 := h0
      have hp' : pl = (q : Int) := hpl2
      subst h0' hp'
      by_cases hlt : K < N
      · obtain ⟨hqs, hpc, _, _⟩ := HSTh.out K q hBg (by rw [HN.out]; exact hlt)
        obtain ⟨g, rfl, hg, c0, c1, c2, c3⟩ := HL.out K (by rw [HN.out]; exact hlt)
        rw [hpc, (Wd.pcF_end s q).1] at c1
        have d1 := (hb2.cell (p := ⟨g, K * 4 + 1, none⟩) hg).trans c1
        have hltI : (K : Int) < (N : Int) := by omega
        have HE : Hid (F = .tuple #[.string ⟨#[]⟩, .int .i64 (q : Int), .int .i64 11]) := by
          show _ = _
          rw [← HF.out, if_neg (by simp), if_pos (by omega)]
          rfl
        clear c0 c1 c2 c3 hpc HSTh HENh HL A0 Q0 hBg hqs h0 hpl2 HF
        go_wp2
        go_region
        all_goals go_wp2
        all_goals exact bodyPost_ret (v := .tuple #[.string ⟨#[]⟩, .int .i64 (q : Int), .int .i64 11]) (by simp [results, Tryd.results39, go_sem]) rfl ⟨(congrArg Ending.returned HE.out).symm, (hb1.trans (hb2.mono hb1.size)).drew⟩
      · have hqs := HENh.out K q hBg (by rw [HN.out]; omega)
        have hge : ¬ (K : Int) < (N : Int) := by omega
        have HE : Hid (F = .tuple #[.string ⟨T.toArray⟩, .int .i64 0, .int .i64 0]) := by
          show _ = _
          rw [← HF.out, if_neg (by simp), if_neg (by omega)]
          rfl
        clear HSTh HENh HL A0 Q0 hBg hqs h0 hpl2 HF
        go_wp2
        go_ret3
        exact ⟨(congrArg Ending.returned HE.out).symm, hb1.trans (hb2.mono hb1.size)⟩
    · have h0' : er ≠ 0 := h0
      have b0 : (er != 0) = true := by rw [bne_iff_ne]; exact h0'
      have HE : Hid (F = .tuple #[.string ⟨#[]⟩, .int .i64 pl, .int .i64 er]) := by
        show _ = _
        rw [← HF.out, if_pos h0']
        rfl
      clear HSTh HENh HL A0 Q0 h0 h0' HF
      go_wp2
      go_ret3
      exact ⟨(congrArg Ending.returned HE.out).symm, hb1.trans (hb2.mono hb1.size)⟩
  · have hQ : preQ s.data.toList = false := by
      rw [Bool.eq_false_iff]; exact fun h => hq ((first_of s).2 h)
    have hR : unqF s = ([], 0, 11) := by
      unfold Uq.unqF
      rw [if_pos hQ]
    rw [hR]
    have b0 : (atL (pieces s) 0 != 34) = true := by rw [bne_iff_ne]; exact hq
    clear hR hQ
    go_enter Tryd.func39, Tryd.ntmps39
    go_wp2_with fail
    refine RP.mono ?_; rintro e w1 ⟨v, rfl, hrow, hb1⟩
    obtain ⟨ad, cap, rfl, hL⟩ := lp_of hrow
    have A0 : Calls Tryd.prog 77 #[.slice ad (pieces s).length cap, .int .i64 0] w1 fun e w' => e = .returned (.int .i64 (atL (pieces s) 0)) ∧ w' = w1 := at_any cap hL (by omega) 0
    clear RP hrow hq hL hpl
    generalize atL (pieces s) 0 = c at *
    generalize (pieces s).length = N at *
    go_wp2_with fail
    refine A0.mono ?_; rintro e w2 ⟨rfl, hw⟩; obtain rfl := hw.symm
    go_wp2
    go_ret3
    exact ⟨rfl, hb1⟩
end Go.Proofs.YtckjededijgjgaaDoor.Ur
