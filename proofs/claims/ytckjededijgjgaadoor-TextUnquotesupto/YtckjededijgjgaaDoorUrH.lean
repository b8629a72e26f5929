import Derived.Test.YtckjededijgjgaaDoorUrF
import Derived.Test.YtckjededijgjgaaDoorRpL
import Derived.Test.YtckjededijgjgaaDoorRnE
namespace Go.Proofs.YtckjededijgjgaaDoor.Ur
open Go.RowKit
open Go.Proofs.YtckjededijgjgaaDoor.Pc (P4 pieces)
open Go.Proofs.YtckjededijgjgaaDoor.Uq (rqG unqF preQ three)
open Go.Proofs.YtckjededijgjgaaDoor.Wd (Bg bg_step bg_end bg_zero)
set_option linter.unusedVariables false

theorem preQ_iff (l : List UInt8) : preQ l = true ↔ l[0]? = some 34 := by
  cases l with
  | nil => simp [Uq.preQ, Lib.hasPrefix]
  | cons x t =>
    have e : preQ (x :: t) = (34 == x) := by simp [Uq.preQ, Lib.hasPrefix, List.isPrefixOf]
    rw [e, beq_iff_eq, List.getElem?_cons_zero]
    constructor
    · intro h; rw [h]
    · intro h; exact (Option.some.inj h).symm
theorem first_of (s : ByteArray) : atL (pieces s) 0 = 34 ↔ preQ s.data.toList = true := by
  rw [preQ_iff]
  rcases at_bg (bg_zero s) with ⟨h1, h2, h3, h4⟩ | ⟨h1, h2⟩
  · rw [h3, Ft.get_list s 0 h1]
    constructor
    · intro h
      exact congrArg some (UInt8.toNat_inj.1 (by simpa using (by omega : (s.get! 0).toNat = 34)))
    · intro h
      rw [Option.some.inj h]; rfl
  · constructor
    · intro h; omega
    · intro h
      have hlt : 0 < s.data.toList.length := (List.getElem?_eq_some_iff.1 h).1
      have hlt' : 0 < s.size := by rw [Array.length_toList] at hlt; exact hlt
      rw [Ft.get_list s 0 hlt'] at h
      rw [Option.some.inj h] at h2
      rcases h2 with h2 | h2
      · omega
      · exact absurd h2 (by decide)
theorem first_bg {s : ByteArray} (h : atL (pieces s) 0 = 34) : Bg s 1 1 ∧ 0 < s.size := by
  rcases at_bg (bg_zero s) with ⟨h1, h2, h3, h4⟩ | ⟨h1, h2⟩
  · exact ⟨h4, h1⟩
  · omega
theorem first_skip {s : ByteArray} (h : atL (pieces s) 0 = 34) : rqG s (pieces s) 1 [] = rqG s ((pieces s).drop 1) 1 [] := by
  have := rq_skip (s := s) (k := 0) (pos := 0) (n := 1) (fun m hm => by
    obtain rfl : m = 0 := by omega
    exact ⟨(first_bg h).2, bg_zero s⟩) [] 1 0 rfl
  exact this

set_option maxRecDepth 100000 in
set_option maxHeartbeats 1600000 in
theorem refUnquote_any (s : ByteArray) (hs : s.size ≤ 11000000) (w : World) :
    Calls Tryd.prog 39 #[.string s] w fun e W' => e = .returned (three (unqF s)) ∧ Below w.heap.size w W' := by
  have RP := Rp.refPieces_big s hs w
  have hpl := Wd.pieces_len s
  by_cases hq : atL (pieces s) 0 = 34
  · have hQ := (first_of s).1 hq
    obtain ⟨hbg, _⟩ := first_bg hq
    have hR : unqF s = if (rqG s ((pieces s).drop 1) 1 []).2.2 ≠ 0 then ([], (rqG s ((pieces s).drop 1) 1 []).2.1, (rqG s ((pieces s).drop 1) 1 []).2.2) else if (rqG s ((pieces s).drop 1) 1 []).2.1 < (s.size : Int) then ([], (rqG s ((pieces s).drop 1) 1 []).2.1, 11) else ((rqG s ((pieces s).drop 1) 1 []).1, 0, 0) := by
      unfold Uq.unqF
      rw [first_skip hq, if_neg (by rw [hQ]; simp)]
    have QD := fun (W : World) (ad : Option Addr) (cap : Nat) (hL : Lp W ad (pieces s)) => quoted_any s hs cap hL 0 1 hbg (Nat.zero_le _) 1 (by omega)
    have HST := fun (K q : Nat) (h : Bg s K q) (hk : K < (pieces s).length) => bg_step h hk
    have HEN := fun (K q : Nat) (h : Bg s K q) (hk : (pieces s).length ≤ K) => bg_end h hk
    have HQD := hide QD
    have HSTh := hide HST
    have HENh := hide HEN
    clear QD HST HEN
    rw [hR]
    clear hR hQ hbg
    generalize rqG s ((pieces s).drop 1) 1 [] = R at *
    obtain ⟨T, pl, er⟩ := R
    obtain ⟨F, hF⟩ : ∃ F, three (if er ≠ 0 then ([], pl, er) else if pl < (s.size : Int) then ([], pl, 11) else (T, 0, 0)) = F := ⟨_, rfl⟩
    have HF := hide hF
    simp only at HF ⊢
    rw [hF]
    clear hF
    go_enter Tryd.func39, Tryd.ntmps39
    go_wp2_with fail
    refine RP.mono ?_; rintro e w1 ⟨v, rfl, hrow, hb1⟩
    obtain ⟨ad, cap, rfl, hL⟩ := lp_of hrow
    have A0 : Calls Tryd.prog 77 #[.slice ad (pieces s).length cap, .int .i64 0] w1 fun e w' => e = .returned (.int .i64 34) ∧ w' = w1 := by
      have := at_any cap hL (by omega) 0
      rw [hq] at this
      exact this
    have Q0 : Calls Tryd.prog 78 #[.string s, .slice ad (pieces s).length cap, .int .i64 0] w1 fun e w' => QR s (T, pl, er) e ∧ Below w1.heap.size w1 w' := HQD.out w1 ad cap hL
    clear RP hrow HQD hq
    obtain ⟨N, hN⟩ : ∃ N, (pieces s).length = N := ⟨_, rfl⟩
    have HN := hide hN
    have HL := hide hL
    rw [hN] at A0 Q0 ⊢
    clear hN hL hpl
    go_wp2_with fail
    refine A0.mono ?_; rintro e w2 ⟨rfl, hw⟩; obtain rfl := hw.symm
    go_wp2_with fail
    refine Q0.mono ?_; rintro e w2 ⟨hqr, hb2⟩
    rcases hqr with ⟨h0, K, q, hpl2, hBg, rfl⟩ | ⟨h0, rfl⟩
    · have h0' : er = 0 := h0
      have hp' : pl = (q : Int) := hpl2
      subst h0' hp'
      by_cases hlt : K < N
      · obtain ⟨hqs, hpc, _, _⟩ := HSTh.out K q hBg (by rw [HN.out]; exact hlt)
        obtain ⟨g, rfl, hg, c0, c1, c2, c3⟩ := HL.out K (by rw [HN.out]; exact hlt)
        rw [hpc, (Wd.pcF_end s q).1] at c1
        have d1 := (hb2.cell (p := ⟨g, K * 4 + 1, none⟩) hg).trans c1
        have hltI : (K : Int) < (N : Int) := by omega
        have HE : Hid (F = .tuple #[.string ⟨#[]⟩, .int .i64 (q : Int), .int .i64 11]) := by
          show _ = _
          rw [← HF.out, if_neg (by simp), if_pos (by omega)]
          rfl
        clear c0 c1 c2 c3 hpc HSTh HENh HL A0 Q0 hBg hqs h0 hpl2 HF
        go_wp2
        go_region
        all_goals go_wp2
        all_goals exact bodyPost_ret (v := .tuple #[.string ⟨#[]⟩, .int .i64 (q : Int), .int .i64 11]) (by simp [results, Tryd.results39, go_sem]) rfl ⟨(congrArg Ending.returned HE.out).symm, (hb1.trans (hb2.mono hb1.size)).drew⟩
      · have hqs := HENh.out K q hBg (by rw [HN.out]; omega)
        have hge : ¬ (K : Int) < (N : Int) := by omega
        have HE : Hid (F = .tuple #[.string ⟨T.toArray⟩, .int .i64 0, .int .i64 0]) := by
          show _ = _
          rw [← HF.out, if_neg (by simp), if_neg (by omega)]
          rfl
        clear HSTh HENh HL A0 Q0 hBg hqs h0 hpl2 HF
        go_wp2
        go_ret3
        exact ⟨(congrArg Ending.returned HE.out).symm, hb1.trans (hb2.mono hb1.size)⟩
    · have h0' : er ≠ 0 := h0
      have b0 : (er != 0) = true := by rw [bne_iff_ne]; exact h0'
      have HE : Hid (F = .tuple #[.string ⟨#[]⟩, .int .i64 pl, .int .i64 er]) := by
        show _ = _
        rw [← HF.out, if_pos h0']
        rfl
      clear HSTh HENh HL A0 Q0 h0 h0' HF
      go_wp2
      go_ret3
      exact ⟨(congrArg Ending.returned HE.out).symm, hb1.trans (hb2.mono hb1.size)⟩
  · have hQ : preQ s.data.toList = false := by
      rw [Bool.eq_false_iff]; exact fun h => hq ((first_of s).2 h)
    have hR : unqF s = ([], 0, 11) := by
      unfold Uq.unqF
      rw [if_pos hQ]
    rw [hR]
    have b0 : (atL (pieces s) 0 != 34) = true := by rw [bne_iff_ne]; exact hq
    clear hR hQ
    go_enter Tryd.func39, Tryd.ntmps39
    go_wp2_with fail
    refine RP.mono ?_; rintro e w1 ⟨v, rfl, hrow, hb1⟩
    obtain ⟨ad, cap, rfl, hL⟩ := lp_of hrow
    have A0 : Calls Tryd.prog 77 #[.slice ad (pieces s).length cap, .int .i64 0] w1 fun e w' => e = .returned (.int .i64 (atL (pieces s) 0)) ∧ w' = w1 := at_any cap hL (by omega) 0
    clear RP hrow hq hL hpl
    generalize atL (pieces s) 0 = c at *
    generalize (pieces s).length = N at *
    go_wp2_with fail
    refine A0.mono ?_; rintro e w2 ⟨rfl, hw⟩; obtain rfl := hw.symm
    go_wp2
    go_ret3
    exact ⟨rfl, hb1⟩
end Go.Proofs.YtckjededijgjgaaDoor.Ur
namespace Go.Proofs.YtckjededijgjgaaDoor.Ur
open Go.RowKit
open Go.Proofs.YtckjededijgjgaaDoor.Uq (unqF three unquote_any)
open Go.Proofs.YtckjededijgjgaaDoor.Enc (Spans)
set_option linter.unusedVariables false

theorem str_beq (a : List UInt8) : ((⟨a.toArray⟩ : ByteArray).toList == (⟨a.toArray⟩ : ByteArray).toList) = true := by simp
/-- both, at one text -/
theorem both {x : ByteArray} {a : List UInt8} {p e : Int} (h : Hid (unqF x = (a, p, e))) (hx : x.size ≤ 11000000) :
    (∀ (w : World) (R off cap : Nat), Spans w R off cap → Calls Tryd.prog 33 #[.string x] w fun e' W' => e' = .returned (.tuple #[.string ⟨a.toArray⟩, .int .i64 p, .int .i64 e]) ∧ Below w.heap.size w W') ∧
    (∀ w : World, Calls Tryd.prog 39 #[.string x] w fun e' W' => e' = .returned (.tuple #[.string ⟨a.toArray⟩, .int .i64 p, .int .i64 e]) ∧ Below w.heap.size w W') := by
  refine ⟨fun w R off cap hS => ?_, fun w => ?_⟩
  · have := unquote_any x hx w R off cap hS
    rw [h.out] at this
    exact this
  · have := refUnquote_any x hx w
    rw [h.out] at this
    exact this

set_option maxRecDepth 100000 in
set_option maxHeartbeats 1600000 in
theorem unquotes_walk (s : ByteArray) (hs : s.size ≤ 1048576) (w : World) (R off cap : Nat) (hS : Spans w R off cap) :
    Calls Tryd.prog 14 #[.string s] w fun e w' => e = .returned (.bool true) ∧ Below w.heap.size w w' := by
  have nm := fun n w => Rn.num_any n w
  have RQ : Calls Tryd.prog 26 #[.string s] w fun e W' => e = .returned (.string (Cb.Q s)) ∧ Below w.heap.size w W' := Qt.refQuote_any s hs w
  have hz3 := Cb.Q_bound s hs
  generalize Cb.Q s = S3 at *
  have hone : (⟨#[34]⟩ : ByteArray).size = 1 := rfl
  have hz1 : ((⟨#[34]⟩ : ByteArray) ++ s ++ ⟨#[34]⟩).size ≤ 11000000 := by
    rw [ByteArray.size_append, ByteArray.size_append, hone]; omega
  have hz2 : ((⟨#[34]⟩ : ByteArray) ++ s).size ≤ 11000000 := by
    rw [ByteArray.size_append, hone]; omega
  have hz0 : s.size ≤ 11000000 := by omega
  go_enter Tryd.func14, Tryd.ntmps14
  go_wp2_with fail
  refine RQ.mono ?_; rintro e w0 ⟨rfl, hb0⟩
  have hS0 := hS.below hb0 (Nat.le_refl _)
  generalize hS1e : (⟨#[34]⟩ : ByteArray) ++ s ++ ⟨#[34]⟩ = S1 at *
  generalize hS2e : (⟨#[34]⟩ : ByteArray) ++ s = S2 at *
  clear hS1e hS2e RQ hone hs
  obtain ⟨a0, p0, e0, h0⟩ : ∃ a p e, unqF s = (a, p, e) := ⟨_, _, _, rfl⟩
  obtain ⟨U0, V0⟩ := both (hide h0) hz0
  have b0 := str_beq a0
  have bp0 : (p0 == p0) = true := by simp
  have be0 : (e0 == e0) = true := by simp
  have HU0 := hide U0
  have HV0 := hide V0
  clear h0 U0 V0
  obtain ⟨a1, p1, e1, h1⟩ : ∃ a p e, unqF S1 = (a, p, e) := ⟨_, _, _, rfl⟩
  obtain ⟨U1, V1⟩ := both (hide h1) hz1
  have b1 := str_beq a1
  have bp1 : (p1 == p1) = true := by simp
  have be1 : (e1 == e1) = true := by simp
  have HU1 := hide U1
  have HV1 := hide V1
  clear h1 U1 V1
  obtain ⟨a2, p2, e2, h2⟩ : ∃ a p e, unqF S2 = (a, p, e) := ⟨_, _, _, rfl⟩
  obtain ⟨U2, V2⟩ := both (hide h2) hz2
  have b2 := str_beq a2
  have bp2 : (p2 == p2) = true := by simp
  have be2 : (e2 == e2) = true := by simp
  have HU2 := hide U2
  have HV2 := hide V2
  clear h2 U2 V2
  obtain ⟨a3, p3, e3, h3⟩ : ∃ a p e, unqF S3 = (a, p, e) := ⟨_, _, _, rfl⟩
  obtain ⟨U3, V3⟩ := both (hide h3) hz3
  have b3 := str_beq a3
  have bp3 : (p3 == p3) = true := by simp
  have be3 : (e3 == e3) = true := by simp
  have HU3 := hide U3
  have HV3 := hide V3
  clear h3 U3 V3
  have hS1 : Spans (w0.alloc (.cells #[.string s, .string S1, .string S2, .string S3] 9)) R off cap := hS0.below ((Below.refl w0.heap.size w0).alloc (Nat.le_refl _) _) (Nat.le_refl _)
  have hlt1 : w0.heap.size < (w0.alloc (.cells #[.string s, .string S1, .string S2, .string S3] 9)).heap.size := by simp
  have hbw : Below w.heap.size w (w0.alloc (.cells #[.string s, .string S1, .string S2, .string S3] 9)) := hb0.alloc hb0.size _
  have C0 : (w0.alloc (.cells #[.string s, .string S1, .string S2, .string S3] 9)).cell? ⟨w0.heap.size, 0, none⟩ = some (.string s) := by simp [World.cell?_alloc_new]
  have C1 : (w0.alloc (.cells #[.string s, .string S1, .string S2, .string S3] 9)).cell? ⟨w0.heap.size, 1, none⟩ = some (.string S1) := by simp [World.cell?_alloc_new]
  have C2 : (w0.alloc (.cells #[.string s, .string S1, .string S2, .string S3] 9)).cell? ⟨w0.heap.size, 2, none⟩ = some (.string S2) := by simp [World.cell?_alloc_new]
  have C3 : (w0.alloc (.cells #[.string s, .string S1, .string S2, .string S3] 9)).cell? ⟨w0.heap.size, 3, none⟩ = some (.string S3) := by simp [World.cell?_alloc_new]
  go_wp2_with fail
  generalize w0.alloc (.cells #[.string s, .string S1, .string S2, .string S3] 9) = w1 at *
  go_loopw [4] (fun i wr => ∃ k : Nat, i = .int .i64 (k : Int) ∧ k ≤ 4 ∧ Below w1.heap.size w1 wr) (fun i _ => 4 - (intOf i).toNat)
  case atStart => exact ⟨0, rfl, by omega, Below.refl _ _⟩
  case round =>
    obtain ⟨k, rfl, hk, hB⟩ := hrel
    have hSr := hS1.below hB (Nat.le_refl _)
    have c0 := (hB.cell (p := ⟨w0.heap.size, 0, none⟩) hlt1).trans C0
    have c1 := (hB.cell (p := ⟨w0.heap.size, 1, none⟩) hlt1).trans C1
    have c2 := (hB.cell (p := ⟨w0.heap.size, 2, none⟩) hlt1).trans C2
    have c3 := (hB.cell (p := ⟨w0.heap.size, 3, none⟩) hlt1).trans C3
    match k, hk with
    | 0, _ =>
      go_wp2_with fail
      refine (HU0.out _ R off cap hSr).mono ?_
      rintro e w2 ⟨rfl, hb2⟩
      have c' := (hb2.cell (p := ⟨w0.heap.size, 0, none⟩) (Nat.lt_of_lt_of_le hlt1 hB.size)).trans c0
      go_wp2_with fail
      refine (HV0.out _).mono ?_
      rintro e w3 ⟨rfl, hb3⟩
      go_wp2_with fail
      refine (nm _ _).mono ?_; rintro e w4 ⟨rfl, rfl⟩
      have hB3 := hB.trans ((hb2.trans (hb3.mono hb2.size)).mono hB.size)
      go_wp2
      exact ⟨⟨1, rfl, by omega, hB3⟩, by simp [intOf]⟩
    | 1, _ =>
      go_wp2_with fail
      refine (HU1.out _ R off cap hSr).mono ?_
      rintro e w2 ⟨rfl, hb2⟩
      have c' := (hb2.cell (p := ⟨w0.heap.size, 1, none⟩) (Nat.lt_of_lt_of_le hlt1 hB.size)).trans c1
      go_wp2_with fail
      refine (HV1.out _).mono ?_
      rintro e w3 ⟨rfl, hb3⟩
      go_wp2_with fail
      refine (nm _ _).mono ?_; rintro e w4 ⟨rfl, rfl⟩
      have hB3 := hB.trans ((hb2.trans (hb3.mono hb2.size)).mono hB.size)
      go_wp2
      exact ⟨⟨2, rfl, by omega, hB3⟩, by simp [intOf]⟩
    | 2, _ =>
      go_wp2_with fail
      refine (HU2.out _ R off cap hSr).mono ?_
      rintro e w2 ⟨rfl, hb2⟩
      have c' := (hb2.cell (p := ⟨w0.heap.size, 2, none⟩) (Nat.lt_of_lt_of_le hlt1 hB.size)).trans c2
      go_wp2_with fail
      refine (HV2.out _).mono ?_
      rintro e w3 ⟨rfl, hb3⟩
      go_wp2_with fail
      refine (nm _ _).mono ?_; rintro e w4 ⟨rfl, rfl⟩
      have hB3 := hB.trans ((hb2.trans (hb3.mono hb2.size)).mono hB.size)
      go_wp2
      exact ⟨⟨3, rfl, by omega, hB3⟩, by simp [intOf]⟩
    | 3, _ =>
      go_wp2_with fail
      refine (HU3.out _ R off cap hSr).mono ?_
      rintro e w2 ⟨rfl, hb2⟩
      have c' := (hb2.cell (p := ⟨w0.heap.size, 3, none⟩) (Nat.lt_of_lt_of_le hlt1 hB.size)).trans c3
      go_wp2_with fail
      refine (HV3.out _).mono ?_
      rintro e w3 ⟨rfl, hb3⟩
      go_wp2_with fail
      refine (nm _ _).mono ?_; rintro e w4 ⟨rfl, rfl⟩
      have hB3 := hB.trans ((hb2.trans (hb3.mono hb2.size)).mono hB.size)
      go_wp2
      exact ⟨⟨4, rfl, by omega, hB3⟩, by simp [intOf]⟩
    | 4, _ =>
      go_wp2
      go_ret
      exact ⟨rfl, hbw.trans (hB.mono hbw.size)⟩
end Go.Proofs.YtckjededijgjgaaDoor.Ur
